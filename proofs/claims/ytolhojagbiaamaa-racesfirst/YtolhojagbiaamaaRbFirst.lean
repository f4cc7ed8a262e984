import Derived.Test.YtolhojagbiaamaaRbRange
import Derived.Test.YtolhojagbiaamaaRbNew
import Derived.Test.YtolhojagbiaamaaRbWith2
import Derived.Sort.CutIn
import Derived.Shelf.Abstract
import Derived.WalkKit
/-! The first race. -/
namespace Go.Proofs.Ytolhojagbiaamaa
set_option linter.unusedVariables false
set_option maxRecDepth 20000
set_option linter.unusedSimpArgs false
open Go.RowKit Go.HeapKit Go.Shelf

/-- The first deed that has a race with an earlier one, and the first of those. -/
structure FirstP (ds : List Dd) (n m : Nat) : Prop where
  lt : n < ds.length
  no : ∀ k, k < n → rcB ds k = false
  ml : m < n
  race : RaceW ds m n
  least : ∀ k, k < m → ¬ RaceW ds k n
def FirstA (ds : List Dd) (e : Ending) : Prop := (∃ n m, FirstP ds n m ∧ e = .returned (.tuple #[.agg #[.int .i64 (n : Nat), .int .i64 (m : Nat), .int .i64 (lcN ds n)], .bool true])) ∨ ((∀ n, n < ds.length → rcB ds n = false) ∧ e = .returned (.tuple #[.agg #[.int .i64 0, .int .i64 0, .int .i64 0], .bool false]))
theorem results_pair {P : Program} {fn : Func} {q r : Tmp} {t u : TypeId} (h : fn.results = #[.cell q t, .cell r u]) {tmps : Array Value} {w : World} {g k : Nat} (ha : tmps.getD q undef = .pointer (some ⟨g, 0, none⟩)) (hb : tmps.getD r undef = .pointer (some ⟨k, 0, none⟩)) {v x : Value}
    (hl : (loadVar t ⟨g, 0, none⟩).run P w = .ok v w) (hm : (loadVar u ⟨k, 0, none⟩).run P w = .ok x w) : (results fn tmps).run P w = .ok (.tuple #[v, x]) w := by
  have ha' : tmps[q]?.getD undef = .pointer (some ⟨g, 0, none⟩) := by simpa using ha
  have hb' : tmps[r]?.getD undef = .pointer (some ⟨k, 0, none⟩) := by simpa using hb
  simp [results, h, ha', hb', asAddr, hl, hm]
theorem load_race (w : World) (g : Nat) (x y z : Int) (hb : w.heap[g]? = some (.cells #[.int .i64 x, .int .i64 y, .int .i64 z] 40 (0, 0))) : (loadVar 40 ⟨g, 0, none⟩).run Try.prog w = .ok (.agg #[.int .i64 x, .int .i64 y, .int .i64 z]) w :=
  run_loadVar_row _ g 40 40 _ _ _ hb Try.underlying40 rfl (by kernel_rfl)
theorem load_bool1 (w : World) (g : Nat) (b : Bool) (hb : w.heap[g]? = some (.cells #[.bool b] 4 (0, 0))) : (loadVar 4 ⟨g, 0, none⟩).run Try.prog w = .ok (.bool b) w := by
  have hc : w.cell? ⟨g, 0, none⟩ = some (.bool b) := (cell_of_heap hb 0).trans rfl
  have hu := Try.underlying4
  have ha := Try.isAgg4
  have hz := Try.sizeOf4
  go_simp
/-- The way out of it. -/
theorem first_out {R : Ending → World → Prop} {tmps : Array Value} {V : World} {D g k : Nat} {x y z : Int} {b : Bool} (ha : tmps.getD 2 undef = .pointer (some ⟨g, 0, none⟩)) (hb : tmps.getD 3 undef = .pointer (some ⟨k, 0, none⟩)) (h2 : V.heap[g]? = some (.cells #[.int .i64 x, .int .i64 y, .int .i64 z] 40 (0, 0))) (h3 : V.heap[k]? = some (.cells #[.bool b] 4 (0, 0)))
    (hK : V.heap[D]? = some (.deferred (some []))) (hR : R (.returned (.tuple #[.agg #[.int .i64 x, .int .i64 y, .int .i64 z], .bool b])) (V.putObj D (.deferred none))) :
    bodyPostM Fence.wide 6 Try.prog Try.f39 R .ret { tmps := tmps, defers := [{ target := .collected D, args := #[] }] } V := by
  refine ⟨by simp, .inl ⟨_, _, rfl, run_takeDeferred hK, ?_⟩⟩
  have hk := keeps_putObj V D (.deferred none)
  have h2' := blk_kept h2 hk (fun e => by rw [← e, h2] at hK; cases hK)
  have h3' := blk_kept h3 hk (fun e => by rw [← e, h3] at hK; cases hK)
  exact ⟨_, results_pair rfl ha hb (load_race _ _ _ _ _ h2') (load_bool1 _ _ _ h3'), hR⟩
theorem set_race {V : World} {g : Nat} {x y z x' y' z' : Int} (h : V.heap[g]? = some (.cells #[.int .i64 x, .int .i64 y, .int .i64 z] 40 (0, 0))) :
    (((V.setCell ⟨g, 0, none⟩ (.int .i64 x')).setCell ⟨g, 1, none⟩ (.int .i64 y')).setCell ⟨g, 2, none⟩ (.int .i64 z')).heap[g]? = some (.cells #[.int .i64 x', .int .i64 y', .int .i64 z'] 40 (0, 0)) ∧ Keeps (· = g) V (((V.setCell ⟨g, 0, none⟩ (.int .i64 x')).setCell ⟨g, 1, none⟩ (.int .i64 y')).setCell ⟨g, 2, none⟩ (.int .i64 z')) :=
  ⟨(blk_set (i := 2) (blk_set (i := 1) (blk_set (i := 0) h _) _) _).trans rfl, keeps_one (keeps_one (keeps_one (Keeps.refl _ _) _) _) _⟩
attribute [local go_sem] Oper.semAt_some
set_option maxRecDepth 100000 in
set_option maxHeartbeats 4000000 in
theorem firstRace_ok (w : World) (a : Option Addr) (N cN : Nat) (ds : List Dd) (hS : Seen w a N ds) (hF : Fine ds) (hN : N ≤ 4096) :
    Calls Try.prog 39 #[.slice a N cN] w fun e w' => FirstA ds e ∧ Keeps None w w' := by
  have HP : Hid (Fine ds ∧ N = ds.length ∧ Seen w a N ds) := ⟨hF, hS.len, hS⟩
  clear hF hS
  refine (callsIn_wide (n := 6)).1 (callsIn_of_wp_marks Try.func39 rfl trivial (wpIn_wide.2 ?_) rfl)
  simp only [Try.ntmps39, List.size_toArray, List.length_cons, List.length_nil, Nat.reduceAdd, Nat.reduceSub, Array.replicate_succ, Array.replicate_zero, List.push_toArray, List.append_toArray, List.nil_append, List.cons_append]
  obtain ⟨wb, hwb⟩ : ∃ wb, wb = ((w.alloc (.cells #[.slice a N cN] 22)).alloc (.cells #[.int .i64 0, .int .i64 0, .int .i64 0] 40)).alloc (.cells #[.bool false] 4) := ⟨_, rfl⟩
  obtain ⟨s0, hs0⟩ : ∃ s0, s0 = w.heap.size := ⟨_, rfl⟩
  have b0 : wb.heap[s0]? = some (.cells #[.slice a N cN] 22 (0, 0)) := by rw [hwb, hs0]; exact blk_kept (blk_kept (heap_alloc_new w _) (Keeps.alloc None _ _) (fun f => f)) (Keeps.alloc None _ _) (fun f => f)
  have b1 : wb.heap[s0 + 1]? = some (.cells #[.int .i64 0, .int .i64 0, .int .i64 0] 40 (0, 0)) := by
    have := heap_alloc_new (w.alloc (.cells #[.slice a N cN] 22)) (.cells #[.int .i64 0, .int .i64 0, .int .i64 0] 40)
    rw [World.size_alloc, ← hs0] at this
    rw [hwb]; exact blk_kept this (Keeps.alloc None _ _) (fun f => f)
  have b2 : wb.heap[s0 + 1 + 1]? = some (.cells #[.bool false] 4 (0, 0)) := by
    have := heap_alloc_new ((w.alloc (.cells #[.slice a N cN] 22)).alloc (.cells #[.int .i64 0, .int .i64 0, .int .i64 0] 40)) (.cells #[.bool false] 4)
    rw [World.size_alloc, World.size_alloc, ← hs0] at this
    rw [hwb]; exact this
  have hkb : Keeps None w wb := by rw [hwb]; exact ((Keeps.alloc None w _).trans (Keeps.alloc None _ _) (fun _ f _ => f)).trans (Keeps.alloc None _ _) (fun _ f _ => f)
  have hsz : wb.heap.size = s0 + 3 := by rw [hwb]; simp [hs0]
  have c0 : wb.cell? ⟨s0, 0, none⟩ = some (.slice a N cN) := (blk_cell b0 0).trans rfl
  have HB : Hid (wb.heap[s0]? = some (.cells #[.slice a N cN] 22 (0, 0)) ∧ wb.heap[s0 + 1]? = some (.cells #[.int .i64 0, .int .i64 0, .int .i64 0] 40 (0, 0)) ∧ wb.heap[s0 + 1 + 1]? = some (.cells #[.bool false] 4 (0, 0)) ∧ Keeps None w wb ∧ wb.heap.size = s0 + 3 ∧ s0 = w.heap.size) := ⟨b0, b1, b2, hkb, hsz, hs0⟩
  have HC : Hid _ := newSweep_ok wb a N cN ds
  have HW : Hid _ := And.intro hwb hs0
  clear b0 b1 b2 hkb hsz hwb hs0
  go_upto_region 1 with fail
  rw [← HW.out.2, ← HW.out.1]
  go_upto_region 2 with (go_at_call 47; refine Calls.mono HC.out ?_; rintro _ w1 ⟨S, mb, rfl, hS1⟩)
  have hkA := Keeps.alloc None w1 (.cells #[.pointer (some ⟨S, 0, none⟩)] 71)
  have b4 := heap_alloc_new w1 (.cells #[.pointer (some ⟨S, 0, none⟩)] 71)
  have hS2 := hS1.more hkA
  have hlow : wb.heap.size ≤ w1.heap.size := hS1.b3
  obtain ⟨W, hW⟩ : ∃ W, W = w1.alloc (.cells #[.pointer (some ⟨S, 0, none⟩)] 71) := ⟨_, rfl⟩
  obtain ⟨s4, hs4⟩ : ∃ s4, s4 = w1.heap.size := ⟨_, rfl⟩
  rw [← hW] at b4 hS2 ⊢
  rw [← hs4] at b4 hlow ⊢
  have c4 : W.cell? ⟨s4, 0, none⟩ = some (.pointer (some ⟨S, 0, none⟩)) := (blk_cell b4 0).trans rfl
  have HS : Hid (SwS wb W wb.heap.size S mb (.slice a N cN) ds 0 0 (fun _ => false) ∧ W.heap[s4]? = some (.cells #[.pointer (some ⟨S, 0, none⟩)] 71 (0, 0)) ∧ wb.heap.size ≤ s4) := ⟨hS2, b4, hlow⟩
  clear hkA b4 hS1 hS2 hlow hW hs4 HC HW c0
  go_wp2_with fail
  clear c4
  have key : ∀ {W : World} {rc : Int → Bool} {n m : Nat}, SwS wb W wb.heap.size S mb (.slice a N cN) ds n m rc → Keeps None w W ∧ W.heap[s0]? = some (.cells #[.slice a N cN] 22 (0, 0)) ∧ W.heap[s0 + 1]? = some (.cells #[.int .i64 0, .int .i64 0, .int .i64 0] 40 (0, 0)) ∧ W.heap[s0 + 1 + 1]? = some (.cells #[.bool false] 4 (0, 0)) := fun h => by
    have e := HB.out
    exact ⟨e.2.2.2.1.trans h.kp (fun i h1 h2 => by omega), blk_kept e.1 h.kp (by omega), blk_kept e.2.1 h.kp (by omega), blk_kept e.2.2.1 h.kp (by omega)⟩
  have hs : ∀ W', Keeps (fun i => wb.heap.size ≤ i) wb W' → Seen W' a N ds := fun W' hk => by
    have h1 : Keeps None w W' := HB.out.2.2.2.1.trans hk (fun i h1 h2 => by have := HB.out; omega)
    exact HP.out.2.2.more h1
  have HKey : Hid _ := And.intro @key hs
  clear key hs
  refine (wpIn_wide (n := 6)).1 ?_
  refine range_state (n := 6) (by omega) (gf := 48) (rv := .pointer (some ⟨S, 0, none⟩)) rfl (enters_of Try.func48 (by kernel_rfl) rfl)
    (fun x W => x < N ∧ rcB ds x = true ∧ (∀ k, k < x → rcB ds k = false) ∧ (∃ rc, SwS wb W wb.heap.size S mb (.slice a N cN) ds (x + 1) (x + 1) rc) ∧ W.heap[s4]? = some (.cells #[.pointer (some ⟨S, 0, none⟩)] 71 (0, 0)))
    (fun _ _ => False)
    (fun x W => ∃ m, FirstP ds x m ∧ W.heap[s0 + 1]? = some (.cells #[.int .i64 (x : Nat), .int .i64 (m : Nat), .int .i64 (lcN ds x)] 40 (0, 0)) ∧ W.heap[s0 + 1 + 1]? = some (.cells #[.bool true] 4 (0, 0)) ∧ Keeps None w W)
    (fun W => (∀ n, n < N → rcB ds n = false) ∧ W.heap[s0 + 1]? = some (.cells #[.int .i64 0, .int .i64 0, .int .i64 0] 40 (0, 0)) ∧ W.heap[s0 + 1 + 1]? = some (.cells #[.bool false] 4 (0, 0)) ∧ Keeps None w W)
    wb.heap.size ?pY ?pI ?pJ ?pF ?hit
    (fun x => { tmps := #[.slice a N cN, .pointer (some ⟨s0, 0, none⟩), .pointer (some ⟨s0 + 1, 0, none⟩), .pointer (some ⟨s0 + 1 + 1, 0, none⟩), .pointer (some ⟨s4, 0, none⟩), .int .i64 (x : Nat), undef, .slice a N cN, .pointer (some ⟨S, 0, none⟩), .pointer (some ⟨S, 0, none⟩), .func (.func 48) #[.pointer (some ⟨S, 0, none⟩)] #[], .int .i64 (x : Nat), undef, undef, undef, undef, undef, undef, undef, undef, undef, undef, undef, undef, undef, undef, undef, undef, undef, undef], defers := [] }) ?assign ?body ?done ?stop
  case pY =>
    rintro x V l r r' hl hV ⟨h1, h2, h3, ⟨rc, h4⟩, h5⟩
    exact ⟨h1, h2, h3, ⟨rc, h4.put (by have := HS.out.1.b3; omega) hV⟩, blk_kept h5 (keeps_putObj V l _) (fun e => by rw [← e, h5] at hV; cases hV)⟩
  case pI => exact fun _ _ _ _ _ _ _ h => h
  case pJ =>
    rintro x V l r r' hl hV ⟨m, h1, h2, h3, h4⟩
    have hk := keeps_putObj V l (.loop r')
    exact ⟨m, h1, blk_kept h2 hk (fun e => by rw [← e, h2] at hV; cases hV), blk_kept h3 hk (fun e => by rw [← e, h3] at hV; cases hV), h4.trans hk (fun i e hi => by have := HS.out.1.b3; have := HB.out; omega)⟩
  case pF =>
    rintro V l r r' hl hV ⟨h1, h2, h3, h4⟩
    have hk := keeps_putObj V l (.loop r')
    exact ⟨h1, blk_kept h2 hk (fun e => by rw [← e, h2] at hV; cases hV), blk_kept h3 hk (fun e => by rw [← e, h3] at hV; cases hV), h4.trans hk (fun i e hi => by have := HS.out.1.b3; have := HB.out; omega)⟩
  case hit =>
    intro l B Jz V hkV hB hY hBV
    refine callsIn_wide.2 ?_
    refine (seconds_ok l (6 - 1 - 1) wb V wb.heap.size S mb a N cN ds (fun _ => false) HP.out.1 HP.out.2.1 hN HKey.out.2 (fun W => B W ∧ W.heap[s4]? = some (.cells #[.pointer (some ⟨S, 0, none⟩)] 71 (0, 0))) Jz (fun n _ => ∀ k, k < n → rcB ds k = false) ?_ ?_ ?_ (HS.out.1.more hkV) (fun k hk => by omega) ⟨hBV, blk_kept HS.out.2.1 hkV (fun f => f)⟩).mono ?_
    · intro n rc hn h1 h2 k hk
      by_cases e : k = n
      · rw [e]; exact h2
      · exact h1 k (by omega)
    · intro n rc W2 hn h1 h2 h3 h4
      refine (hY n W2 ⟨hn, h2, h1, ⟨rc, h3⟩, h4.2⟩ h4.1).mono ?_
      rintro e W3 (⟨_, h, _⟩ | h)
      · exact h.elim
      · exact .inr h
    · intro W2 W3 hk h
      exact ⟨hB _ _ hk h.1, Fp.book hk h.2 rfl⟩
    · rintro e W3 ⟨hv, ⟨rc, h1, h2, h3⟩ | ⟨n, _, h⟩⟩
      · obtain ⟨k1, k2, k3, k4⟩ := HKey.out.1 h2
        exact ⟨hv, .inl ⟨⟨h1, k3, k4, k1⟩, h3.1⟩⟩
      · exact ⟨hv, .inr ⟨n, h⟩⟩
  case assign =>
    intro l x V K hK
    gi_wp2
    exact hK
  case body =>
    rintro l x V ⟨hxN, hrc, hno, ⟨rc, hSx⟩, hb4⟩
    obtain ⟨z, hz, hzr⟩ := (rcB_iff ds x).1 hrc
    have hk34 := hzr.2.1
    have HX : Hid (x < ds.length ∧ (∀ k, k < x → rcB ds k = false) ∧ z < x ∧ RaceW ds z x ∧ (kdN ds x = 3 ∨ kdN ds x = 4)) := ⟨by rw [← HP.out.2.1]; exact hxN, hno, hz, hzr, hk34⟩
    have HV : Hid (SwS wb V wb.heap.size S mb (.slice a N cN) ds (x + 1) (x + 1) rc ∧ V.heap[s4]? = some (.cells #[.pointer (some ⟨S, 0, none⟩)] 71 (0, 0))) := ⟨hSx, hb4⟩
    clear hrc hno hSx hb4 hz hzr hk34
    gi_wp2_with fail
    gi_loopw [6, 13] (fun _ s13 wr => ∃ m : Nat, m ≤ x ∧ s13 = .int .i64 m ∧ (∀ k, k < m → ¬ RaceW ds k x) ∧ SwS wb wr wb.heap.size S mb (.slice a N cN) ds (x + 1) (x + 1) rc ∧ wr.heap[s4]? = some (.cells #[.pointer (some ⟨S, 0, none⟩)] 71 (0, 0)) ∧ BkK V wr) (fun _ s13 _ => x - (intOf s13).toNat)
    case atStart => exact ⟨0, Nat.zero_le _, rfl, fun k hk => by omega, HV.out.1, HV.out.2, BkK.refl _⟩
    case round =>
      clear HV
      obtain ⟨m, hmx, rfl, hlow, hSm, hb4, hbk⟩ := hrel
      by_cases hlt : m < x
      · obtain ⟨k1, k2, k3, k4⟩ := HKey.out.1 hSm
        obtain ⟨b, hbi, hcall⟩ := racesWith_ok wb wr wb.heap.size S mb a N cN ds x m rc hSm (HP.out.1.now x (by have := HX.out.1; omega)) (HP.out.1.now (x + 1) (by have := HX.out.1; omega)) (by omega) hxN hN HKey.out.2 hlt HX.out.2.2.2.2
        have g4 : wr.cell? ⟨s4, 0, none⟩ = some (.pointer (some ⟨S, 0, none⟩)) := (blk_cell hb4 0).trans rfl
        have i1 : (m : Int) < (x : Int) := by omega
        have HM : Hid ((∀ k, k < m → ¬ RaceW ds k x) ∧ BkK V wr ∧ wr.heap[s4]? = some (.cells #[.pointer (some ⟨S, 0, none⟩)] 71 (0, 0))) := ⟨hlow, hbk, hb4⟩
        have HI : Hid (b = true ↔ RaceW ds m x) := hbi
        clear hlow hSm hb4 hbk hbi k1 k2 k3 k4
        cases b with
        | true =>
          have HCi : Hid _ := CallsIn.inRound l ((callsIn_wide (n := 3)).2 hcall)
          clear hcall
          gi_upto_region 8 with (refine ⟨trivial, ?_⟩; gi_at_call 49; refine CallsIn.mono HCi.out ?_; rintro _ w3 ⟨rfl, hS3, hk3⟩)
          obtain ⟨k1, k2, k3, k4⟩ := HKey.out.1 hS3
          obtain ⟨bb, off, rfl, _, e0, e1⟩ := seen_deed (HKey.out.2 w3 hS3.kp) hxN
          have q0 : w3.cell? ⟨s0, 0, none⟩ = some (.slice (some ⟨bb, off, none⟩) N cN) := (blk_cell k2 0).trans rfl
          have p0 : w3.cell? ⟨s0 + 1, 0, none⟩ = some (.int .i64 0) := cell_of_heap k3 0
          have p1 : w3.cell? ⟨s0 + 1, 1, none⟩ = some (.int .i64 0) := cell_of_heap k3 1
          have p2 : w3.cell? ⟨s0 + 1, 2, none⟩ = some (.int .i64 0) := cell_of_heap k3 2
          have f0 := blk_free k3 0
          have f1 := blk_free k3 1
          have f2 := blk_free k3 2
          have p3 : w3.cell? ⟨s0 + 1 + 1, 0, none⟩ = some (.bool false) := cell_of_heap k4 0
          have f3 := blk_free k4 0
          have j1 : (x : Int) < (N : Int) := by omega
          obtain ⟨lc, hlc⟩ : ∃ lc, lc = lcN ds x := ⟨_, rfl⟩
          rw [← hlc] at e1
          obtain ⟨g1, g2⟩ := set_race (x' := (x : Int)) (y' := (m : Int)) (z' := lc) k3
          have g3 : Keeps (· = s0 + 1 + 1) _ ((((w3.setCell ⟨s0 + 1, 0, none⟩ (.int .i64 (x : Int))).setCell ⟨s0 + 1, 1, none⟩ (.int .i64 (m : Int))).setCell ⟨s0 + 1, 2, none⟩ (.int .i64 lc)).setCell ⟨s0 + 1 + 1, 0, none⟩ (.bool true)) := keeps_one (Keeps.refl _ _) _
          have k4' := blk_kept k4 g2 (by omega)
          have HJ : Hid (BkK V ((((w3.setCell ⟨s0 + 1, 0, none⟩ (.int .i64 (x : Int))).setCell ⟨s0 + 1, 1, none⟩ (.int .i64 (m : Int))).setCell ⟨s0 + 1, 2, none⟩ (.int .i64 lc)).setCell ⟨s0 + 1 + 1, 0, none⟩ (.bool true)) ∧ ∃ m', FirstP ds x m' ∧ ((((w3.setCell ⟨s0 + 1, 0, none⟩ (.int .i64 (x : Int))).setCell ⟨s0 + 1, 1, none⟩ (.int .i64 (m : Int))).setCell ⟨s0 + 1, 2, none⟩ (.int .i64 lc)).setCell ⟨s0 + 1 + 1, 0, none⟩ (.bool true)).heap[s0 + 1]? = some (.cells #[.int .i64 (x : Nat), .int .i64 (m' : Nat), .int .i64 (lcN ds x)] 40 (0, 0)) ∧ ((((w3.setCell ⟨s0 + 1, 0, none⟩ (.int .i64 (x : Int))).setCell ⟨s0 + 1, 1, none⟩ (.int .i64 (m : Int))).setCell ⟨s0 + 1, 2, none⟩ (.int .i64 lc)).setCell ⟨s0 + 1 + 1, 0, none⟩ (.bool true)).heap[s0 + 1 + 1]? = some (.cells #[.bool true] 4 (0, 0)) ∧ Keeps None w ((((w3.setCell ⟨s0 + 1, 0, none⟩ (.int .i64 (x : Int))).setCell ⟨s0 + 1, 1, none⟩ (.int .i64 (m : Int))).setCell ⟨s0 + 1, 2, none⟩ (.int .i64 lc)).setCell ⟨s0 + 1 + 1, 0, none⟩ (.bool true))) := by
            refine ⟨((HM.out.2.1.trans (BkK.of_fp hk3)).trans (BkK.of_keeps g2 (fun i e => by subst e; exact not_bk_cells k3 (.inl (by decide))))).trans (BkK.of_keeps g3 (fun i e => by subst e; exact not_bk_cells k4' (.inl (by decide)))), m, ⟨HX.out.1, HX.out.2.1, hlt, HI.out.1 (by simp), HM.out.1⟩, by rw [← hlc]; exact blk_kept g1 g3 (by omega), (blk_set (i := 0) k4' _).trans rfl, (k1.trans g2 (fun i e hi => by have := HB.out; omega)).trans g3 (fun i e hi => by have := HB.out; omega)⟩
          clear hS3 hk3 k1 k2 k3 k4 k4' g1 g2 g3 hlc e0 g4
          gi_wp2_with fail
          exact HJ.out
        | false =>
          have HCi : Hid _ := CallsIn.inRound l ((callsIn_wide (n := 3)).2 hcall)
          clear hcall
          gi_wp2_with (refine ⟨trivial, ?_⟩; gi_at_call 49; refine CallsIn.mono HCi.out ?_; rintro _ w3 ⟨rfl, hS3, hk3⟩; have HF : Hid (SwS wb w3 wb.heap.size S mb (.slice a N cN) ds (x + 1) (x + 1) rc ∧ Keeps (Fp wr wb.heap.size) wr w3) := ⟨hS3, hk3⟩; clear hS3 hk3)
          go_roundw
          case rel => exact ⟨m + 1, by omega, by go_num, fun k hk => by
            by_cases e : k = m
            · subst e; exact fun h => absurd (HI.out.2 h) (by simp)
            · exact HM.out.1 k (by omega), HF.out.1, Fp.book HF.out.2 HM.out.2.2 rfl, HM.out.2.1.trans (BkK.of_fp HF.out.2)⟩
          case measure => simp [intOf]; omega
      · exact absurd HX.out.2.2.2.1 (hlow z (by have := HX.out.2.2.1; omega))
  case done =>
    rintro D V hD ⟨h1, h2, h3, h4⟩ hK
    dsimp only
    have p0 : V.cell? ⟨s0 + 1, 0, none⟩ = some (.int .i64 0) := cell_of_heap h2 0
    have p1 : V.cell? ⟨s0 + 1, 1, none⟩ = some (.int .i64 0) := cell_of_heap h2 1
    have p2 : V.cell? ⟨s0 + 1, 2, none⟩ = some (.int .i64 0) := cell_of_heap h2 2
    have f0 := blk_free h2 0
    have f1 := blk_free h2 1
    have f2 := blk_free h2 2
    have p3 : V.cell? ⟨s0 + 1 + 1, 0, none⟩ = some (.bool false) := cell_of_heap h3 0
    have f3 := blk_free h3 0
    obtain ⟨g1, g2⟩ := set_race (x' := 0) (y' := 0) (z' := 0) h2
    have g3 : Keeps (· = s0 + 1 + 1) _ ((((V.setCell ⟨s0 + 1, 0, none⟩ (.int .i64 0)).setCell ⟨s0 + 1, 1, none⟩ (.int .i64 0)).setCell ⟨s0 + 1, 2, none⟩ (.int .i64 0)).setCell ⟨s0 + 1 + 1, 0, none⟩ (.bool false)) := keeps_one (Keeps.refl _ _) _
    have h3' := blk_kept h3 g2 (by omega)
    have hK2 := blk_kept (blk_kept hK g2 (fun e => by rw [e, h2] at hK; cases hK)) g3 (fun e => by rw [e, h3] at hK; cases hK)
    have HZ : Hid _ := And.intro h1 (And.intro (blk_kept g1 g3 (by omega)) (And.intro ((blk_set (i := 0) h3' (.bool false)).trans rfl) (And.intro ((h4.trans g2 (fun i e hi => by have := HB.out; omega)).trans g3 (fun i e hi => by have := HB.out; omega)) hK2)))
    have HD : Hid (W.heap.size ≤ D) := hD
    clear h1 h2 h3 h4 hK g1 g2 g3 h3' hK2
    go_wp2_with fail
    refine first_out rfl rfl HZ.out.2.1 HZ.out.2.2.1 HZ.out.2.2.2.2 ⟨.inr ⟨by rw [← HP.out.2.1]; exact HZ.out.1, rfl⟩, ?_⟩
    exact HZ.out.2.2.2.1.trans (keeps_putObj _ D _) (fun i e hi => by have := HD.out; have := HS.out.1.b3; have := HB.out; omega)
  case stop =>
    rintro D x V hD ⟨m, h1, h2, h3, h4⟩ hK
    refine wpIn_wide.2 ?_
    dsimp only
    have HZ : Hid _ := And.intro h1 (And.intro h2 (And.intro h3 (And.intro h4 hK)))
    have HD : Hid (W.heap.size ≤ D) := hD
    clear h1 h2 h3 h4 hK
    go_wp2_with fail
    refine first_out rfl rfl HZ.out.2.1 HZ.out.2.2.1 HZ.out.2.2.2.2 ⟨.inl ⟨x, m, HZ.out.1, rfl⟩, ?_⟩
    exact HZ.out.2.2.2.1.trans (keeps_putObj _ D _) (fun i e hi => by have := HD.out; have := HS.out.1.b3; have := HB.out; omega)
end Go.Proofs.Ytolhojagbiaamaa
