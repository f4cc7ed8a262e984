import Derived.Test.YtolhojagbiaamabPkAK
import Derived.Test.YtolhojagbiaamabPkAL
import Derived.Test.YtolhojagbiaamabPkAN
import Derived.Sort.CutIn
import Derived.Shelf.Abstract
import Derived.WalkKit
import Derived.Test.YtolhojagbiaamabPkAF
import Derived.Test.YtolhojagbiaamabPkAM
/-! The first race. -/
namespace Go.Proofs.Ytolhojagbiaamab
set_option linter.unusedVariables false
set_option maxRecDepth 20000
set_option linter.unusedSimpArgs false
open Go.RowKit Go.HeapKit Go.Shelf

/-- The first deed that has a race with an earlier one, and the first of those. -/
structure FirstP (ds : List Dd) (n m : Nat) : Prop where
  lt : n < ds.length
  no : ∀ k, k < n → rcB ds k = false
  ml : m < n
  race : RaceW ds m n
  least : ∀ k, k < m → ¬ RaceW ds k n
def FirstA (ds : List Dd) (e : Ending) : Prop := (∃ n m, FirstP ds n m ∧ e = .returned (.tuple #[.agg #[.int .i64 (n : Nat), .int .i64 (m : Nat), .int .i64 (lcN ds n)], .bool true])) ∨ ((∀ n, n < ds.length → rcB ds n = false) ∧ e = .returned (.tuple #[.agg #[.int .i64 0, .int .i64 0, .int .i64 0], .bool false]))
theorem results_pair {P : Program} {fn : Func} {q r : Tmp} {t u : TypeId} (h : fn.results = #[.cell q t, .cell r u]) {tmps : Array Value} {w : World} {g k : Nat} (ha : tmps.getD q undef = .pointer (some ⟨g, 0, none⟩)) (hb : tmps.getD r undef = .pointer (some ⟨k, 0, none⟩)) {v x : Value}
    (hl : (loadVar t ⟨g, 0, none⟩).run P w = .ok v w) (hm : (loadVar u ⟨k, 0, none⟩).run P w = .ok x w) : (results fn tmps).run P w = .ok (.tuple #[v, x]) w := by
  have ha' : tmps[q]?.getD undef = .pointer (some ⟨g, 0, none⟩) := by simpa using ha
  have hb' : tmps[r]?.getD undef = .pointer (some ⟨k, 0, none⟩) := by simpa using hb
  simp [results, h, ha', hb', asAddr, hl, hm]
theorem load_race (w : World) (g : Nat) (x y z : Int) (hb : w.heap[g]? = some (.cells #[.int .i64 x, .int .i64 y, .int .i64 z] 50 (0, 0))) : (loadVar 50 ⟨g, 0, none⟩).run Try.prog w = .ok (.agg #[.int .i64 x, .int .i64 y, .int .i64 z]) w :=
  run_loadVar_row _ g 50 50 _ _ _ hb Try.underlying50 rfl (by kernel_rfl)
theorem load_bool1 (w : World) (g : Nat) (b : Bool) (hb : w.heap[g]? = some (.cells #[.bool b] 4 (0, 0))) : (loadVar 4 ⟨g, 0, none⟩).run Try.prog w = .ok (.bool b) w := by
  have hc : w.cell? ⟨g, 0, none⟩ = some (.bool b) := (cell_of_heap hb 0).trans rfl
  have hu := Try.underlying4
  have ha := Try.isAgg4
  have hz := Try.sizeOf4
  go_simp
/-- The way out of it. -/
theorem first_out {R : Ending → World → Prop} {tmps : Array Value} {V : World} {D g k : Nat} {x y z : Int} {b : Bool} (ha : tmps.getD 2 undef = .pointer (some ⟨g, 0, none⟩)) (hb : tmps.getD 3 undef = .pointer (some ⟨k, 0, none⟩)) (h2 : V.heap[g]? = some (.cells #[.int .i64 x, .int .i64 y, .int .i64 z] 50 (0, 0))) (h3 : V.heap[k]? = some (.cells #[.bool b] 4 (0, 0)))
    (hK : V.heap[D]? = some (.deferred (some []))) (hR : R (.returned (.tuple #[.agg #[.int .i64 x, .int .i64 y, .int .i64 z], .bool b])) (V.putObj D (.deferred none))) :
    bodyPostM Fence.wide 6 Try.prog Try.f36 R .ret { tmps := tmps, defers := [{ target := .collected D, args := #[] }] } V := by
  refine ⟨by simp, .inl ⟨_, _, rfl, run_takeDeferred hK, ?_⟩⟩
  have hk := keeps_putObj V D (.deferred none)
  have h2' := blk_kept h2 hk (fun e => by rw [← e, h2] at hK; cases hK)
  have h3' := blk_kept h3 hk (fun e => by rw [← e, h3] at hK; cases hK)
  exact ⟨_, results_pair rfl ha hb (load_race _ _ _ _ _ h2') (load_bool1 _ _ _ h3'), hR⟩
theorem set_race {V : World} {g : Nat} {x y z x' y' z' : Int} (h : V.heap[g]? = some (.cells #[.int .i64 x, .int .i64 y, .int .i64 z] 50 (0, 0))) :
    (((V.setCell ⟨g, 0, none⟩ (.int .i64 x')).setCell ⟨g, 1, none⟩ (.int .i64 y')).setCell ⟨g, 2, none⟩ (.int .i64 z')).heap[g]? = some (.cells #[.int .i64 x', .int .i64 y', .int .i64 z'] 50 (0, 0)) ∧ Keeps (· = g) V (((V.setCell ⟨g, 0, none⟩ (.int .i64 x')).setCell ⟨g, 1, none⟩ (.int .i64 y')).setCell ⟨g, 2, none⟩ (.int .i64 z')) :=
  ⟨(blk_set (i := 2) (blk_set (i := 1) (blk_set (i := 0) h _) _) _).trans rfl, keeps_one (keeps_one (keeps_one (Keeps.refl _ _) _) _) _⟩
attribute [local go_sem] Oper.semAt_some
set_option maxRecDepth 100000 in
set_option maxHeartbeats 4000000 in
theorem firstRace_ok (w : World) (a : Option Addr) (N cN : Nat) (ds : List Dd) (hS : Seen w a N ds) (hF : Fine ds) (hN : N ≤ 4096) :
    Calls Try.prog 36 #[.slice a N cN] w fun e w' => FirstA ds e ∧ Keeps None w w' := by
  have HP : Hid (Fine ds ∧ N = ds.length ∧ Seen w a N ds) := ⟨hF, hS.len, hS⟩
  clear hF hS
  refine (callsIn_wide (n := 6)).1 (callsIn_of_wp_marks Try.func36 rfl trivial (wpIn_wide.2 ?_) rfl)
  simp only [Try.ntmps36, List.size_toArray, List.length_cons, List.length_nil, Nat.reduceAdd, Nat.reduceSub, Array.replicate_succ, Array.replicate_zero, List.push_toArray, List.append_toArray, List.nil_append, List.cons_append]
  obtain ⟨wb, hwb⟩ : ∃ wb, wb = ((w.alloc (.cells #[.slice a N cN] 22)).alloc (.cells #[.int .i64 0, .int .i64 0, .int .i64 0] 50)).alloc (.cells #[.bool false] 4) := ⟨_, rfl⟩
  obtain ⟨s0, hs0⟩ : ∃ s0, s0 = w.heap.size := ⟨_, rfl⟩
  have b0 : wb.heap[s0]? = some (.cells #[.slice a N cN] 22 (0, 0)) := by rw [hwb, hs0]; exact blk_kept (blk_kept (heap_alloc_new w _) (Keeps.alloc None _ _) (fun f => f)) (Keeps.alloc None _ _) (fun f => f)
  have b1 : wb.heap[s0 + 1]? = some (.cells #[.int .i64 0, .int .i64 0, .int .i64 0] 50 (0, 0)) := by
    have := heap_alloc_new (w.alloc (.cells #[.slice a N cN] 22)) (.cells #[.int .i64 0, .int .i64 0, .int .i64 0] 50)
    rw [World.size_alloc, ← hs0] at this
    rw [hwb]; exact blk_kept this (Keeps.alloc None _ _) (fun f => f)
  have b2 : wb.heap[s0 + 1 + 1]? = some (.cells #[.bool false] 4 (0, 0)) := by
    have := heap_alloc_new ((w.alloc (.cells #[.slice a N cN] 22)).alloc (.cells #[.int .i64 0, .int .i64 0, .int .i64 0] 50)) (.cells #[.bool false] 4)
    rw [World.size_alloc, World.size_alloc, ← hs0] at this
    rw [hwb]; exact this
  have hkb : Keeps None w wb := by rw [hwb]; exact ((Keeps.alloc None w _).trans (Keeps.alloc None _ _) (fun _ f _ => f)).trans (Keeps.alloc None _ _) (fun _ f _ => f)
  have hsz : wb.heap.size = s0 + 3 := by rw [hwb]; simp [hs0]
  have c0 : wb.cell? ⟨s0, 0, none⟩ = some (.slice a N cN) := (blk_cell b0 0).trans rfl
  have HB : Hid (wb.heap[s0]? = some (.cells #[.slice a N cN] 22 (0, 0)) ∧ wb.heap[s0 + 1]? = some (.cells #[.int .i64 0, .int .i64 0, .int .i64 0] 50 (0, 0)) ∧ wb.heap[s0 + 1 + 1]? = some (.cells #[.bool false] 4 (0, 0)) ∧ Keeps None w wb ∧ wb.heap.size = s0 + 3 ∧ s0 = w.heap.size) := ⟨b0, b1, b2, hkb, hsz, hs0⟩
  have HC : Hid _ := newSweep_ok wb a N cN ds
  have HW : Hid _ := And.intro hwb hs0
  clear b0 b1 b2 hkb hsz hwb hs0
  go_upto_region 1 with fail
  rw [← HW.out.2, ← HW.out.1]
  go_upto_region 2 with (go_at_call 37; refine Calls.mono HC.out ?_; rintro _ w1 ⟨S, mb, rfl, hS1⟩)
  have hkA := Keeps.alloc None w1 (.cells #[.pointer (some ⟨S, 0, none⟩)] 68)
  have b4 := heap_alloc_new w1 (.cells #[.pointer (some ⟨S, 0, none⟩)] 68)
  have hS2 := hS1.more hkA
  have hlow : wb.heap.size ≤ w1.heap.size := hS1.b3
  obtain ⟨W, hW⟩ : ∃ W, W = w1.alloc (.cells #[.pointer (some ⟨S, 0, none⟩)] 68) := ⟨_, rfl⟩
  obtain ⟨s4, hs4⟩ : ∃ s4, s4 = w1.heap.size := ⟨_, rfl⟩
  rw [← hW] at b4 hS2 ⊢
  rw [← hs4] at b4 hlow ⊢
  have c4 : W.cell? ⟨s4, 0, none⟩ = some (.pointer (some ⟨S, 0, none⟩)) := (blk_cell b4 0).trans rfl
  have HS : Hid (SwS wb W wb.heap.size S mb (.slice a N cN) ds 0 0 (fun _ => false) ∧ W.heap[s4]? = some (.cells #[.pointer (some ⟨S, 0, none⟩)] 68 (0, 0)) ∧ wb.heap.size ≤ s4) := ⟨hS2, b4, hlow⟩
  clear hkA b4 hS1 hS2 hlow hW hs4 HC HW c0
  go_wp2_with fail
  clear c4
  have key : ∀ {W : World} {rc : Int → Bool} {n m : Nat}, SwS wb W wb.heap.size S mb (.slice a N cN) ds n m rc → Keeps None w W ∧ W.heap[s0]? = some (.cells #[.slice a N cN] 22 (0, 0)) ∧ W.heap[s0 + 1]? = some (.cells #[.int .i64 0, .int .i64 0, .int .i64 0] 50 (0, 0)) ∧ W.heap[s0 + 1 + 1]? = some (.cells #[.bool false] 4 (0, 0)) := fun h => by
    have e := HB.out
    exact ⟨e.2.2.2.1.trans h.kp (fun i h1 h2 => by omega), blk_kept e.1 h.kp (by omega), blk_kept e.2.1 h.kp (by omega), blk_kept e.2.2.1 h.kp (by omega)⟩
  have hs : ∀ W', Keeps (fun i => wb.heap.size ≤ i) wb W' → Seen W' a N ds := fun W' hk => by
    have h1 : Keeps None w W' := HB.out.2.2.2.1.trans hk (fun i h1 h2 => by have := HB.out; omega)
    exact HP.out.2.2.more h1
  have HKey : Hid _ := And.intro @key hs
  clear key hs
  refine (wpIn_wide (n := 6)).1 ?_
  refine range_state (n := 6) (by omega) (gf := 38) (rv := .pointer (some ⟨S, 0, none⟩)) rfl (enters_of Try.func38 (by kernel_rfl) rfl)
    (fun x W => x < N ∧ rcB ds x = true ∧ (∀ k, k < x → rcB ds k = false) ∧ (∃ rc, SwS wb W wb.heap.size S mb (.slice a N cN) ds (x + 1) (x + 1) rc) ∧ W.heap[s4]? = some (.cells #[.pointer (some ⟨S, 0, none⟩)] 68 (0, 0)))
    (fun _ _ => False)
    (fun x W => ∃ m, FirstP ds x m ∧ W.heap[s0 + 1]? = some (.cells #[.int .i64 (x : Nat), .int .i64 (m : Nat), .int .i64 (lcN ds x)] 50 (0, 0)) ∧ W.heap[s0 + 1 + 1]? = some (.cells #[.bool true] 4 (0, 0)) ∧ Keeps None w W)
    (fun W => (∀ n, n < N → rcB ds n = false) ∧ W.heap[s0 + 1]? = some (.cells #[.int .i64 0, .int .i64 0, .int .i64 0] 50 (0, 0)) ∧ W.heap[s0 + 1 + 1]? = some (.cells #[.bool false] 4 (0, 0)) ∧ Keeps None w W)
    wb.heap.size ?pY ?pI ?pJ ?pF ?hit
    (fun x => { tmps := #[.slice a N cN, .pointer (some ⟨s0, 0, none⟩), .pointer (some ⟨s0 + 1, 0, none⟩), .pointer (some ⟨s0 + 1 + 1, 0, none⟩), .pointer (some ⟨s4, 0, none⟩), .int .i64 (x : Nat), undef, .slice a N cN, .pointer (some ⟨S, 0, none⟩), .pointer (some ⟨S, 0, none⟩), .func (.func 38) #[.pointer (some ⟨S, 0, none⟩)] #[], .int .i64 (x : Nat), undef, undef, undef, undef, undef, undef, undef, undef, undef, undef, undef, undef, undef, undef, undef, undef, undef, undef], defers := [] }) ?assign ?body ?done ?stop
  case pY =>
    rintro x V l r r' hl hV ⟨h1, h2, h3, ⟨rc, h4⟩, h5⟩
    exact ⟨h1, h2, h3, ⟨rc, h4.put (by have := HS.out.1.b3; omega) hV⟩, blk_kept h5 (keeps_putObj V l _) (fun e => by rw [← e, h5] at hV; cases hV)⟩
  case pI => exact fun _ _ _ _ _ _ _ h => h
  case pJ =>
    rintro x V l r r' hl hV ⟨m, h1, h2, h3, h4⟩
    have hk := keeps_putObj V l (.loop r')
    exact ⟨m, h1, blk_kept h2 hk (fun e => by rw [← e, h2] at hV; cases hV), blk_kept h3 hk (fun e => by rw [← e, h3] at hV; cases hV), h4.trans hk (fun i e hi => by have := HS.out.1.b3; have := HB.out; omega)⟩
  case pF =>
    rintro V l r r' hl hV ⟨h1, h2, h3, h4⟩
    have hk := keeps_putObj V l (.loop r')
    exact ⟨h1, blk_kept h2 hk (fun e => by rw [← e, h2] at hV; cases hV), blk_kept h3 hk (fun e => by rw [← e, h3] at hV; cases hV), h4.trans hk (fun i e hi => by have := HS.out.1.b3; have := HB.out; omega)⟩
  case hit =>
    intro l B Jz V hkV hB hY hBV
    refine callsIn_wide.2 ?_
    refine (seconds_ok l (6 - 1 - 1) wb V wb.heap.size S mb a N cN ds (fun _ => false) HP.out.1 HP.out.2.1 hN HKey.out.2 (fun W => B W ∧ W.heap[s4]? = some (.cells #[.pointer (some ⟨S, 0, none⟩)] 68 (0, 0))) Jz (fun n _ => ∀ k, k < n → rcB ds k = false) ?_ ?_ ?_ (HS.out.1.more hkV) (fun k hk => by omega) ⟨hBV, blk_kept HS.out.2.1 hkV (fun f => f)⟩).mono ?_
    · intro n rc hn h1 h2 k hk
      by_cases e : k = n
      · rw [e]; exact h2
      · exact h1 k (by omega)
    · intro n rc W2 hn h1 h2 h3 h4
      refine (hY n W2 ⟨hn, h2, h1, ⟨rc, h3⟩, h4.2⟩ h4.1).mono ?_
      rintro e W3 (⟨_, h, _⟩ | h)
      · exact h.elim
      · exact .inr h
    · intro W2 W3 hk h
      exact ⟨hB _ _ hk h.1, Fp.book hk h.2 rfl⟩
    · rintro e W3 ⟨hv, ⟨rc, h1, h2, h3⟩ | ⟨n, _, h⟩⟩
      · obtain ⟨k1, k2, k3, k4⟩ := HKey.out.1 h2
        exact ⟨hv, .inl ⟨⟨h1, k3, k4, k1⟩, h3.1⟩⟩
      · exact ⟨hv, .inr ⟨n, h⟩⟩
  case assign =>
    intro l x V K hK
    gi_wp2
    exact hK
  case body =>
    rintro l x V ⟨hxN, hrc, hno, ⟨rc, hSx⟩, hb4⟩
    obtain ⟨z, hz, hzr⟩ := (rcB_iff ds x).1 hrc
    have hk34 := hzr.2.1
    have HX : Hid (x < ds.length ∧ (∀ k, k < x → rcB ds k = false) ∧ z < x ∧ RaceW ds z x ∧ (kdN ds x = 3 ∨ kdN ds x = 4)) := ⟨by rw [← HP.out.2.1]; exact hxN, hno, hz, hzr, hk34⟩
    have HV : Hid (SwS wb V wb.heap.size S mb (.slice a N cN) ds (x + 1) (x + 1) rc ∧ V.heap[s4]? = some (.cells #[.pointer (some ⟨S, 0, none⟩)] 68 (0, 0))) := ⟨hSx, hb4⟩
    clear hrc hno hSx hb4 hz hzr hk34
    gi_wp2_with fail
    gi_loopw [6, 13] (fun _ s13 wr => ∃ m : Nat, m ≤ x ∧ s13 = .int .i64 m ∧ (∀ k, k < m → ¬ RaceW ds k x) ∧ SwS wb wr wb.heap.size S mb (.slice a N cN) ds (x + 1) (x + 1) rc ∧ wr.heap[s4]? = some (.cells #[.pointer (some ⟨S, 0, none⟩)] 68 (0, 0)) ∧ BkK V wr) (fun _ s13 _ => x - (intOf s13).toNat)
    case atStart => exact ⟨0, Nat.zero_le _, rfl, fun k hk => by omega, HV.out.1, HV.out.2, BkK.refl _⟩
    case round =>
      clear HV
      obtain ⟨m, hmx, rfl, hlow, hSm, hb4, hbk⟩ := hrel
      by_cases hlt : m < x
      · obtain ⟨k1, k2, k3, k4⟩ := HKey.out.1 hSm
        obtain ⟨b, hbi, hcall⟩ := racesWith_ok wb wr wb.heap.size S mb a N cN ds x m rc hSm (HP.out.1.now x (by have := HX.out.1; omega)) (HP.out.1.now (x + 1) (by have := HX.out.1; omega)) (by omega) hxN hN HKey.out.2 hlt HX.out.2.2.2.2
        have g4 : wr.cell? ⟨s4, 0, none⟩ = some (.pointer (some ⟨S, 0, none⟩)) := (blk_cell hb4 0).trans rfl
        have i1 : (m : Int) < (x : Int) := by omega
        have HM : Hid ((∀ k, k < m → ¬ RaceW ds k x) ∧ BkK V wr ∧ wr.heap[s4]? = some (.cells #[.pointer (some ⟨S, 0, none⟩)] 68 (0, 0))) := ⟨hlow, hbk, hb4⟩
        have HI : Hid (b = true ↔ RaceW ds m x) := hbi
        clear hlow hSm hb4 hbk hbi k1 k2 k3 k4
        cases b with
        | true =>
          have HCi : Hid _ := CallsIn.inRound l ((callsIn_wide (n := 3)).2 hcall)
          clear hcall
          gi_upto_region 8 with (refine ⟨trivial, ?_⟩; gi_at_call 47; refine CallsIn.mono HCi.out ?_; rintro _ w3 ⟨rfl, hS3, hk3⟩)
          obtain ⟨k1, k2, k3, k4⟩ := HKey.out.1 hS3
          obtain ⟨bb, off, rfl, _, e0, e1⟩ := seen_deed (HKey.out.2 w3 hS3.kp) hxN
          have q0 : w3.cell? ⟨s0, 0, none⟩ = some (.slice (some ⟨bb, off, none⟩) N cN) := (blk_cell k2 0).trans rfl
          have p0 : w3.cell? ⟨s0 + 1, 0, none⟩ = some (.int .i64 0) := cell_of_heap k3 0
          have p1 : w3.cell? ⟨s0 + 1, 1, none⟩ = some (.int .i64 0) := cell_of_heap k3 1
          have p2 : w3.cell? ⟨s0 + 1, 2, none⟩ = some (.int .i64 0) := cell_of_heap k3 2
          have f0 := blk_free k3 0
          have f1 := blk_free k3 1
          have f2 := blk_free k3 2
          have p3 : w3.cell? ⟨s0 + 1 + 1, 0, none⟩ = some (.bool false) := cell_of_heap k4 0
          have f3 := blk_free k4 0
          have j1 : (x : Int) < (N : Int) := by omega
          obtain ⟨lc, hlc⟩ : ∃ lc, lc = lcN ds x := ⟨_, rfl⟩
          rw [← hlc] at e1
          obtain ⟨g1, g2⟩ := set_race (x' := (x : Int)) (y' := (m : Int)) (z' := lc) k3
          have g3 : Keeps (· = s0 + 1 + 1) _ ((((w3.setCell ⟨s0 + 1, 0, none⟩ (.int .i64 (x : Int))).setCell ⟨s0 + 1, 1, none⟩ (.int .i64 (m : Int))).setCell ⟨s0 + 1, 2, none⟩ (.int .i64 lc)).setCell ⟨s0 + 1 + 1, 0, none⟩ (.bool true)) := keeps_one (Keeps.refl _ _) _
          have k4' := blk_kept k4 g2 (by omega)
          have HJ : Hid (BkK V ((((w3.setCell ⟨s0 + 1, 0, none⟩ (.int .i64 (x : Int))).setCell ⟨s0 + 1, 1, none⟩ (.int .i64 (m : Int))).setCell ⟨s0 + 1, 2, none⟩ (.int .i64 lc)).setCell ⟨s0 + 1 + 1, 0, none⟩ (.bool true)) ∧ ∃ m', FirstP ds x m' ∧ ((((w3.setCell ⟨s0 + 1, 0, none⟩ (.int .i64 (x : Int))).setCell ⟨s0 + 1, 1, none⟩ (.int .i64 (m : Int))).setCell ⟨s0 + 1, 2, none⟩ (.int .i64 lc)).setCell ⟨s0 + 1 + 1, 0, none⟩ (.bool true)).heap[s0 + 1]? = some (.cells #[.int .i64 (x : Nat), .int .i64 (m' : Nat), .int .i64 (lcN ds x)] 50 (0, 0)) ∧ ((((w3.setCell ⟨s0 + 1, 0, none⟩ (.int .i64 (x : Int))).setCell ⟨s0 + 1, 1, none⟩ (.int .i64 (m : Int))).setCell ⟨s0 + 1, 2, none⟩ (.int .i64 lc)).setCell ⟨s0 + 1 + 1, 0, none⟩ (.bool true)).heap[s0 + 1 + 1]? = some (.cells #[.bool true] 4 (0, 0)) ∧ Keeps None w ((((w3.setCell ⟨s0 + 1, 0, none⟩ (.int .i64 (x : Int))).setCell ⟨s0 + 1, 1, none⟩ (.int .i64 (m : Int))).setCell ⟨s0 + 1, 2, none⟩ (.int .i64 lc)).setCell ⟨s0 + 1 + 1, 0, none⟩ (.bool true))) := by
            refine ⟨((HM.out.2.1.trans (BkK.of_fp hk3)).trans (BkK.of_keeps g2 (fun i e => by subst e; exact not_bk_cells k3 (.inl (by decide))))).trans (BkK.of_keeps g3 (fun i e => by subst e; exact not_bk_cells k4' (.inl (by decide)))), m, ⟨HX.out.1, HX.out.2.1, hlt, HI.out.1 (by simp), HM.out.1⟩, by rw [← hlc]; exact blk_kept g1 g3 (by omega), (blk_set (i := 0) k4' _).trans rfl, (k1.trans g2 (fun i e hi => by have := HB.out; omega)).trans g3 (fun i e hi => by have := HB.out; omega)⟩
          clear hS3 hk3 k1 k2 k3 k4 k4' g1 g2 g3 hlc e0 g4
          gi_wp2_with fail
          exact HJ.out
        | false =>
          have HCi : Hid _ := CallsIn.inRound l ((callsIn_wide (n := 3)).2 hcall)
          clear hcall
          gi_wp2_with (refine ⟨trivial, ?_⟩; gi_at_call 47; refine CallsIn.mono HCi.out ?_; rintro _ w3 ⟨rfl, hS3, hk3⟩; have HF : Hid (SwS wb w3 wb.heap.size S mb (.slice a N cN) ds (x + 1) (x + 1) rc ∧ Keeps (Fp wr wb.heap.size) wr w3) := ⟨hS3, hk3⟩; clear hS3 hk3)
          go_roundw
          case rel => exact ⟨m + 1, by omega, by go_num, fun k hk => by
            by_cases e : k = m
            · subst e; exact fun h => absurd (HI.out.2 h) (by simp)
            · exact HM.out.1 k (by omega), HF.out.1, Fp.book HF.out.2 HM.out.2.2 rfl, HM.out.2.1.trans (BkK.of_fp HF.out.2)⟩
          case measure => simp [intOf]; omega
      · exact absurd HX.out.2.2.2.1 (hlow z (by have := HX.out.2.2.1; omega))
  case done =>
    rintro D V hD ⟨h1, h2, h3, h4⟩ hK
    dsimp only
    have p0 : V.cell? ⟨s0 + 1, 0, none⟩ = some (.int .i64 0) := cell_of_heap h2 0
    have p1 : V.cell? ⟨s0 + 1, 1, none⟩ = some (.int .i64 0) := cell_of_heap h2 1
    have p2 : V.cell? ⟨s0 + 1, 2, none⟩ = some (.int .i64 0) := cell_of_heap h2 2
    have f0 := blk_free h2 0
    have f1 := blk_free h2 1
    have f2 := blk_free h2 2
    have p3 : V.cell? ⟨s0 + 1 + 1, 0, none⟩ = some (.bool false) := cell_of_heap h3 0
    have f3 := blk_free h3 0
    obtain ⟨g1, g2⟩ := set_race (x' := 0) (y' := 0) (z' := 0) h2
    have g3 : Keeps (· = s0 + 1 + 1) _ ((((V.setCell ⟨s0 + 1, 0, none⟩ (.int .i64 0)).setCell ⟨s0 + 1, 1, none⟩ (.int .i64 0)).setCell ⟨s0 + 1, 2, none⟩ (.int .i64 0)).setCell ⟨s0 + 1 + 1, 0, none⟩ (.bool false)) := keeps_one (Keeps.refl _ _) _
    have h3' := blk_kept h3 g2 (by omega)
    have hK2 := blk_kept (blk_kept hK g2 (fun e => by rw [e, h2] at hK; cases hK)) g3 (fun e => by rw [e, h3] at hK; cases hK)
    have HZ : Hid _ := And.intro h1 (And.intro (blk_kept g1 g3 (by omega)) (And.intro ((blk_set (i := 0) h3' (.bool false)).trans rfl) (And.intro ((h4.trans g2 (fun i e hi => by have := HB.out; omega)).trans g3 (fun i e hi => by have := HB.out; omega)) hK2)))
    have HD : Hid (W.heap.size ≤ D) := hD
    clear h1 h2 h3 h4 hK g1 g2 g3 h3' hK2
    go_wp2_with fail
    refine first_out rfl rfl HZ.out.2.1 HZ.out.2.2.1 HZ.out.2.2.2.2 ⟨.inr ⟨by rw [← HP.out.2.1]; exact HZ.out.1, rfl⟩, ?_⟩
    exact HZ.out.2.2.2.1.trans (keeps_putObj _ D _) (fun i e hi => by have := HD.out; have := HS.out.1.b3; have := HB.out; omega)
  case stop =>
    rintro D x V hD ⟨m, h1, h2, h3, h4⟩ hK
    refine wpIn_wide.2 ?_
    dsimp only
    have HZ : Hid _ := And.intro h1 (And.intro h2 (And.intro h3 (And.intro h4 hK)))
    have HD : Hid (W.heap.size ≤ D) := hD
    clear h1 h2 h3 h4 hK
    go_wp2_with fail
    refine first_out rfl rfl HZ.out.2.1 HZ.out.2.2.1 HZ.out.2.2.2.2 ⟨.inl ⟨x, m, HZ.out.1, rfl⟩, ?_⟩
    exact HZ.out.2.2.2.1.trans (keeps_putObj _ D _) (fun i e hi => by have := HD.out; have := HS.out.1.b3; have := HB.out; omega)
end Go.Proofs.Ytolhojagbiaamab
/-! First: the program's and the document's. -/
namespace Go.Proofs.Ytolhojagbiaamab
set_option linter.unusedVariables false
set_option maxRecDepth 20000
set_option linter.unusedSimpArgs false
open Go.RowKit Go.HeapKit

theorem FirstP.rc {ds : List Dd} {n m : Nat} (h : FirstP ds n m) : rcB ds n = true := (rcB_iff ds n).2 ⟨m, h.ml, h.race⟩
theorem FirstP.uniq {ds : List Dd} {n m n' m' : Nat} (h : FirstP ds n m) (k : FirstP ds n' m') : n = n' ∧ m = m' := by
  have e : n = n' := by
    rcases Nat.lt_trichotomy n n' with e | e | e
    · have := k.no n e; rw [h.rc] at this; cases this
    · exact e
    · have := h.no n' e; rw [k.rc] at this; cases this
  subst e
  refine ⟨rfl, ?_⟩
  rcases Nat.lt_trichotomy m m' with e | e | e
  · exact (k.least m e h.race).elim
  · exact e
  · exact (h.least m' e k.race).elim
open Classical in
noncomputable def fstN (l : List Dd) : Option (Nat × Nat) := if h : chkE l = 0 ∧ ∃ p : Nat × Nat, FirstP l p.1 p.2 then some (Classical.choose h.2) else none
noncomputable def firX (l : List Dd) : Int := (fstN l).elim 0 (fun p => (p.1 : Int))
noncomputable def firY (l : List Dd) : Int := (fstN l).elim 0 (fun p => (p.2 : Int))
noncomputable def firZ (l : List Dd) : Int := (fstN l).elim 0 (fun p => lcN l p.1)
noncomputable def firB (l : List Dd) : Bool := (fstN l).isSome
theorem fst_some {l : List Dd} {n m : Nat} (hc : chkE l = 0) (h : FirstP l n m) : fstN l = some (n, m) := by
  have h0 : chkE l = 0 ∧ ∃ p : Nat × Nat, FirstP l p.1 p.2 := ⟨hc, (n, m), h⟩
  unfold fstN
  rw [dif_pos h0]
  obtain ⟨e1, e2⟩ := (Classical.choose_spec h0.2).uniq h
  exact congrArg some (Prod.ext e1 e2)
theorem fst_none {l : List Dd} (h : ∀ n, n < l.length → rcB l n = false) : fstN l = none := by
  unfold fstN
  rw [dif_neg]
  rintro ⟨_, p, hp⟩
  have := h p.1 hp.lt
  rw [hp.rc] at this
  cases this
theorem fst_bad {l : List Dd} (h : ¬ chkE l = 0) : fstN l = none := by
  unfold fstN
  rw [dif_neg (fun e => h e.1)]
/-- What First tells. -/
noncomputable def firV (l : List Dd) : Ending := .returned (.tuple #[.agg #[.int .i64 (firX l), .int .i64 (firY l), .int .i64 (firZ l)], .bool (firB l), .int .i64 (chkE l)])
theorem firV_some {l : List Dd} {n m : Nat} (hc : chkE l = 0) (h : FirstP l n m) : firV l = .returned (.tuple #[.agg #[.int .i64 (n : Nat), .int .i64 (m : Nat), .int .i64 (lcN l n)], .bool true, .int .i64 0]) := by
  unfold firV firX firY firZ firB; rw [fst_some hc h, hc]; rfl
theorem firV_none {l : List Dd} {E : Int} (hc : chkE l = E) (h : fstN l = none) : firV l = .returned (.tuple #[.agg #[.int .i64 0, .int .i64 0, .int .i64 0], .bool false, .int .i64 E]) := by
  unfold firV firX firY firZ firB; rw [h, hc]; rfl
theorem results_three {P : Program} {fn : Func} {q r s : Tmp} {t : TypeId} (h : fn.results = #[.cell q t, .tmp r, .tmp s]) {tmps : Array Value} {w : World} {g : Nat} (ha : tmps.getD q undef = .pointer (some ⟨g, 0, none⟩)) {v x y : Value} (hx : tmps.getD r undef = x) (hy : tmps.getD s undef = y)
    (hl : (loadVar t ⟨g, 0, none⟩).run P w = .ok v w) : (results fn tmps).run P w = .ok (.tuple #[v, x, y]) w := by
  have ha' : tmps[q]?.getD undef = .pointer (some ⟨g, 0, none⟩) := by simpa using ha
  have hx' : tmps[r]?.getD undef = x := by simpa using hx
  have hy' : tmps[s]?.getD undef = y := by simpa using hy
  simp [results, h, ha', hx', hy', asAddr, hl]
theorem fin_out {R : Ending → World → Prop} {fn : Func} (hfn : fn.results = #[.cell 2 50, .tmp 3, .tmp 4]) {tmps : Array Value} {V : World} {g : Nat} {x y z : Int} {b e : Value} (ha : tmps.getD 2 undef = .pointer (some ⟨g, 0, none⟩)) (hb : tmps.getD 3 undef = b) (he : tmps.getD 4 undef = e) (h2 : V.heap[g]? = some (.cells #[.int .i64 x, .int .i64 y, .int .i64 z] 50 (0, 0)))
    (hR : R (.returned (.tuple #[.agg #[.int .i64 x, .int .i64 y, .int .i64 z], b, e])) V) : bodyPost Try.prog fn R .ret { tmps := tmps, defers := [] } V :=
  bodyPost_ret (results_three hfn ha hb he (load_race _ _ _ _ _ h2)) rfl hR
set_option maxHeartbeats 4000000 in
theorem first_ok (a : Option Addr) (n c : Nat) (l : List Dd) (w : World) (hS : Seen w a n l) :
    Calls Try.prog 21 #[.slice a n c] w fun e w' => e = firV l ∧ Keeps None w w' := by
  have HS : Hid (Seen w a n l) := hS
  have HLen : Hid (n = l.length) := hS.len
  clear hS
  have kA := Keeps.alloc None w (.cells #[.int .i64 0, .int .i64 0, .int .i64 0] 50)
  have bA := heap_alloc_new w (.cells #[.int .i64 0, .int .i64 0, .int .i64 0] 50)
  obtain ⟨wa, hwa⟩ : ∃ wa, wa = w.alloc (.cells #[.int .i64 0, .int .i64 0, .int .i64 0] 50) := ⟨_, rfl⟩
  obtain ⟨s0, hs0⟩ : ∃ s0, s0 = w.heap.size := ⟨_, rfl⟩
  rw [← hwa] at kA bA
  rw [← hs0] at bA
  have HA : Hid (Keeps None w wa ∧ wa.heap[s0]? = some (.cells #[.int .i64 0, .int .i64 0, .int .i64 0] 50 (0, 0))) := ⟨kA, bA⟩
  have HW : Hid (wa = w.alloc (.cells #[.int .i64 0, .int .i64 0, .int .i64 0] 50) ∧ s0 = w.heap.size) := ⟨hwa, hs0⟩
  clear kA bA hwa hs0
  go_enter Try.func21, Try.ntmps21
  go_upto_region 1 with fail
  rw [← HW.out.1, ← HW.out.2]
  go_upto_region 2 with (go_at_call 22; refine Calls.mono (check_raw a n c l wa (HS.out.more HA.out.1)) ?_; rintro _ w1 ⟨rfl, hk1⟩)
  obtain ⟨E, hE⟩ : ∃ E, E = chkE l := ⟨_, rfl⟩
  obtain ⟨A1, hA1⟩ : ∃ A1, A1 = chkA l := ⟨_, rfl⟩
  rw [← hE, ← hA1]
  have b2 := heap_alloc_new w1 (.cells #[.int .i64 E, .int .i64 A1] 54)
  have k2 := hk1.andAlloc (.cells #[.int .i64 E, .int .i64 A1] 54)
  obtain ⟨w2, hw2⟩ : ∃ w2, w2 = w1.alloc (.cells #[.int .i64 E, .int .i64 A1] 54) := ⟨_, rfl⟩
  obtain ⟨B, hB⟩ : ∃ B, B = w1.heap.size := ⟨_, rfl⟩
  rw [← hw2] at b2 k2
  rw [← hB] at b2
  rw [← hw2, ← hB]
  have g0 : w2.cell? ⟨B, 0, none⟩ = some (.int .i64 E) := cell_of_heap b2 0
  have bs := blk_kept HA.out.2 k2 (fun f => f)
  have HK : Hid (Keeps None w w2 ∧ w2.heap[s0]? = some (.cells #[.int .i64 0, .int .i64 0, .int .i64 0] 50 (0, 0)) ∧ s0 = w.heap.size) := ⟨HA.out.1.trans k2 (fun _ f _ => f), bs, HW.out.2⟩
  have HE : Hid (chkE l = E) := hE.symm
  have hne0 : ¬ B = s0 := ne_of_types b2 bs (by decide)
  clear b2 k2 hw2 hB hE hA1 hk1 bs HA HW
  by_cases hE0 : E = 0
  · subst hE0
    obtain ⟨hn, hf⟩ := chk_fine HE.out
    have hn2 : n ≤ 4096 := by rw [HLen.out]; exact hn
    have HP : Hid (Calls Try.prog 36 #[.slice a n c] w2 fun e w' => ∃ (x y z : Int) (b : Bool), e = .returned (.tuple #[.agg #[.int .i64 x, .int .i64 y, .int .i64 z], .bool b]) ∧ firV l = .returned (.tuple #[.agg #[.int .i64 x, .int .i64 y, .int .i64 z], .bool b, .int .i64 0]) ∧ Keeps None w2 w') := (firstRace_ok w2 a n c l (HS.out.more HK.out.1) hf hn2).mono fun e w' h => by
      obtain ⟨hA, hk⟩ := h
      rcases hA with ⟨p, m, hF, rfl⟩ | ⟨hno, rfl⟩
      · exact ⟨_, _, _, _, rfl, firV_some HE.out hF, hk⟩
      · exact ⟨_, _, _, _, rfl, firV_none HE.out (fst_none hno), hk⟩
    clear hn hf
    have key : ∀ (x y z : Int) (b : Bool) (w3 : World), Keeps None w2 w3 → firV l = .returned (.tuple #[.agg #[.int .i64 x, .int .i64 y, .int .i64 z], .bool b, .int .i64 0]) → Hid (firV l = .returned (.tuple #[.agg #[.int .i64 x, .int .i64 y, .int .i64 z], .bool b, .int .i64 0]) ∧ ((((w3.setCell ⟨s0, 0, none⟩ (.int .i64 x)).setCell ⟨s0, 1, none⟩ (.int .i64 y)).setCell ⟨s0, 2, none⟩ (.int .i64 z)).alloc (.cells #[.int .i64 x, .int .i64 y, .int .i64 z] 50)).heap[s0]? = some (.cells #[.int .i64 x, .int .i64 y, .int .i64 z] 50 (0, 0)) ∧ Keeps None w ((((w3.setCell ⟨s0, 0, none⟩ (.int .i64 x)).setCell ⟨s0, 1, none⟩ (.int .i64 y)).setCell ⟨s0, 2, none⟩ (.int .i64 z)).alloc (.cells #[.int .i64 x, .int .i64 y, .int .i64 z] 50))) := fun x y z b w3 hk hv => by
      obtain ⟨g1, g2⟩ := set_race (x' := x) (y' := y) (z' := z) (blk_kept HK.out.2.1 hk (fun f => f))
      exact ⟨hv, blk_kept g1 (Keeps.alloc None _ _) (fun f => f), ((HK.out.1.trans hk (fun _ f _ => f)).trans g2 (fun i e hi => by have := HK.out.2.2; omega)).andAlloc _⟩
    go_upto_region 5 with (go_at_call 36; refine Calls.mono HP.out ?_; rintro _ w3 ⟨x, y, z, b, rfl, hv, hk3⟩)
    have HZ := key x y z b w3 hk3 hv
    have bs := blk_kept HK.out.2.1 hk3 (fun f => f)
    have c0 : w3.cell? ⟨s0, 0, none⟩ = some (.int .i64 0) := cell_of_heap bs 0
    have c1 : w3.cell? ⟨s0, 1, none⟩ = some (.int .i64 0) := cell_of_heap bs 1
    have c2 : w3.cell? ⟨s0, 2, none⟩ = some (.int .i64 0) := cell_of_heap bs 2
    have f0 := blk_free bs 0
    have f1 := blk_free bs 1
    have f2 := blk_free bs 2
    have hne : ¬ s0 = w3.heap.size := by have := blk_lt bs; omega
    have hne2 : s0 < w3.heap.size := blk_lt bs
    clear key hv hk3 bs HP
    go_wp2_with fail
    refine fin_out rfl rfl rfl rfl HZ.out.2.1 ⟨HZ.out.1.symm, HZ.out.2.2⟩
  · have HV : Hid _ := firV_none HE.out (fst_bad (fun h => hE0 (HE.out.symm.trans h)))
    obtain ⟨g1, g2⟩ := set_race (x' := 0) (y' := 0) (z' := 0) HK.out.2.1
    have c0 : w2.cell? ⟨s0, 0, none⟩ = some (.int .i64 0) := cell_of_heap HK.out.2.1 0
    have c1 : w2.cell? ⟨s0, 1, none⟩ = some (.int .i64 0) := cell_of_heap HK.out.2.1 1
    have c2 : w2.cell? ⟨s0, 2, none⟩ = some (.int .i64 0) := cell_of_heap HK.out.2.1 2
    have f0 := blk_free HK.out.2.1 0
    have f1 := blk_free HK.out.2.1 1
    have f2 := blk_free HK.out.2.1 2
    have k2 := HK.out.1.trans g2 (fun i e hi => by have := HK.out.2.2; omega)
    have HZ : Hid _ := And.intro g1 k2
    have d0 := g2.cell g0 (fun e => hne0 e)
    have hne1 : ¬ s0 = B := fun e => hne0 e.symm
    clear g1 g2 k2
    go_upto_region 3 with fail
    go_region
    all_goals go_wp2_with fail
    all_goals refine fin_out rfl rfl rfl rfl (blk_kept HZ.out.1 (Keeps.drew None _) (fun f => f)) ⟨HV.out.symm, HZ.out.2.andDrew⟩
end Go.Proofs.Ytolhojagbiaamab
/-! Detect; what the laws ask besides: has, sound. -/
namespace Go.Proofs.Ytolhojagbiaamab
set_option linter.unusedVariables false
set_option maxRecDepth 20000
set_option linter.unusedSimpArgs false
open Go.RowKit Go.HeapKit

theorem getD_at {α : Type} {l : List α} {i : Nat} {d : α} (h : i < l.length) : l.getD i d = l[i] := by simp [List.getD, h]
/-- The places that Detect tells. -/
def DetL (l : List Dd) (Z : List Int) : Prop := (chkE l = 0 → RacyL l Z) ∧ (¬ chkE l = 0 → Z = []) ∧ Z.length ≤ 4096
set_option maxHeartbeats 1600000 in
theorem detect_ok (a : Option Addr) (n c : Nat) (l : List Dd) (w : World) (hS : Seen w a n l) :
    Calls Try.prog 9 #[.slice a n c] w fun e w' => ∃ v Z, e = .returned (.tuple #[v, .int .i64 (chkE l)]) ∧ RowL w' w.heap.size v Z ∧ DetL l Z ∧ Keeps None w w' := by
  have HS : Hid (Seen w a n l) := hS
  have HLen : Hid (n = l.length) := hS.len
  clear hS
  go_enter Try.func9, Try.ntmps9
  go_upto_region 2 with (go_at_call 22; refine Calls.mono (check_raw a n c l w HS.out) ?_; rintro _ w1 ⟨rfl, hk1⟩)
  obtain ⟨E, hE⟩ : ∃ E, E = chkE l := ⟨_, rfl⟩
  obtain ⟨A1, hA1⟩ : ∃ A1, A1 = chkA l := ⟨_, rfl⟩
  rw [← hE, ← hA1]
  have b2 := heap_alloc_new w1 (.cells #[.int .i64 E, .int .i64 A1] 54)
  have k2 := hk1.andAlloc (.cells #[.int .i64 E, .int .i64 A1] 54)
  obtain ⟨w2, hw2⟩ : ∃ w2, w2 = w1.alloc (.cells #[.int .i64 E, .int .i64 A1] 54) := ⟨_, rfl⟩
  obtain ⟨B, hB⟩ : ∃ B, B = w1.heap.size := ⟨_, rfl⟩
  rw [← hw2] at b2 k2
  rw [← hB] at b2
  rw [← hw2, ← hB]
  have g0 : w2.cell? ⟨B, 0, none⟩ = some (.int .i64 E) := cell_of_heap b2 0
  have HK : Hid (Keeps None w w2) := k2
  have HE : Hid (chkE l = E) := hE.symm
  clear b2 k2 hw2 hB hE hA1 hk1
  by_cases hE0 : E = 0
  · subst hE0
    obtain ⟨hn, hf⟩ := chk_fine HE.out
    have hn2 : n ≤ 4096 := by rw [HLen.out]; exact hn
    have HP : Hid _ := racyPlaces_ok w2 a n c l (HS.out.more HK.out) hf hn2
    clear hn hf
    go_wp2_with (go_at_call 23; refine Calls.mono HP.out ?_; rintro _ w3 ⟨v, Z, rfl, hrow, hZ, hlen, hk3⟩; have HZ : Hid (RowL w3 w2.heap.size v Z ∧ RacyL l Z ∧ Z.length ≤ 4096 ∧ Keeps None w2 w3) := ⟨hrow, hZ, hlen, hk3⟩; clear hrow hZ hlen hk3)
    go_ret2
    exact ⟨v, Z, by rw [HE.out]; rfl, HZ.out.1.low HK.out.size, ⟨fun _ => HZ.out.2.1, fun h => absurd HE.out h, HZ.out.2.2.1⟩, HK.out.trans HZ.out.2.2.2 (fun _ f _ => f)⟩
  · go_upto_region 3 with fail
    go_region
    all_goals (go_wp2_with fail; go_ret2)
    all_goals exact ⟨_, [], by rw [HE.out]; rfl, ⟨rfl, .inl ⟨rfl, rfl⟩⟩, ⟨fun h => absurd (HE.out.symm.trans h) hE0, fun _ => rfl, Nat.zero_le _⟩, HK.out.andDrew⟩
theorem sound_bad {k : Int} {d : Nat} (h : k = 0 ∨ (k = 1 ∧ ¬ d = 0) ∨ k = 2 ∨ k = 3 ∨ k = 4) : badK k d = false := by
  unfold badK
  rcases h with h | ⟨h, h2⟩ | h | h | h <;> subst h <;> simp
  exact h2
set_option maxHeartbeats 4000000 in
theorem sound_ok (a : Option Addr) (n c : Nat) (l : List Dd) (w : World) (hS : Seen w a n l) (hn : (n + 2) * 16 ≤ 140737488355328) :
    Calls Try.prog 7 #[.slice a n c] w fun e w' => e = .returned (.bool (decide (chkE l = 0))) ∧ w' = w := by
  have HS : Hid (Seen w a n l) := hS
  have HLen : Hid (n = l.length) := hS.len
  clear hS
  go_enter Try.func7, Try.ntmps7
  go_wp2_with fail
  go_loopw [2, 3, 4] (fun s2 s3 s4 wr => ∃ k d : Nat, s2 = .bool false ∧ s3 = .int .i64 d ∧ s4 = .int .i64 k ∧ k ≤ n ∧ d ≤ k ∧ chkL (l.drop k) k d = chkL l 0 0 ∧ wr = w) (fun _ _ s4 _ => n - (intOf s4).toNat)
  case atStart => exact ⟨0, 0, rfl, rfl, rfl, Nat.zero_le _, Nat.le_refl _, by simp, rfl⟩
  case round =>
    obtain ⟨k, d, rfl, rfl, rfl, hk, hd, hch, rfl⟩ := hrel
    by_cases hkn : k < n
    · obtain ⟨bb, off, rfl, hbb, e0, e1⟩ := seen_deed HS.out (n := k) hkn
      have hx : l[k]? = some (l.getD k ⟨3, 0⟩) := by
        have : k < l.length := by rw [← HLen.out]; exact hkn
        rw [List.getElem?_eq_getElem this, getD_at this]
      have hst := chkL_step hx k d
      have hkd : kdN l k = (l.getD k ⟨3, 0⟩).k := rfl
      rw [← hkd, hch] at hst
      obtain ⟨q, hq⟩ : ∃ q, q = kdN l k := ⟨_, rfl⟩
      rw [← hq] at e0 hst
      have i1 : (k : Int) < (n : Int) := by omega
      have HB : Hid (badK q d = true → ¬ chkE l = 0) := fun hb => by
        rw [if_pos hb] at hst
        by_cases hl : l.length > 4096
        · rw [(chk_long hl).1]; decide
        · rw [(chk_some hl hst).1]; decide
      have HG : Hid (badK q d = false → chkL (l.drop (k + 1)) (k + 1) (nxtK q d) = chkL l 0 0) := fun hb => by
        rw [hst, if_neg (by rw [hb]; decide)]
      clear hst hkd hx hch hq e1 hbb
      by_cases q0 : q = 0
      · subst q0
        go_wp2_with fail
        go_roundw
        case rel => exact ⟨k + 1, d + 1, rfl, by simp, by simp, by omega, by omega, HG.out (sound_bad (.inl rfl)), trivial⟩
        case measure => simp [intOf]; omega
      · have b0 : (q == 0) = false := by simp [q0]
        by_cases q1 : q = 1
        · subst q1
          by_cases d0 : d = 0
          · subst d0
            go_wp2_with fail
            go_ret
            exact ⟨by simp [HB.out rfl], rfl⟩
          · have i2 : ¬ (d : Int) - 1 < 0 := by omega
            go_wp2_with fail
            go_roundw
            case rel => exact ⟨k + 1, d - 1, rfl, by congr 1; omega, by simp, by omega, by omega, HG.out (sound_bad (.inr (.inl ⟨rfl, d0⟩))), trivial⟩
            case measure => simp [intOf]; omega
        · have b1 : (q == 1) = false := by simp [q1]
          by_cases q2 : q = 2
          · subst q2
            go_wp2_with fail
            go_roundw
            case rel => exact ⟨k + 1, d, rfl, by simp, by simp, by omega, by omega, HG.out (sound_bad (.inr (.inr (.inl rfl)))), trivial⟩
            case measure => simp [intOf]; omega
          · have b2 : (q == 2) = false := by simp [q2]
            by_cases q3 : q = 3
            · subst q3
              go_wp2_with fail
              go_roundw
              case rel => exact ⟨k + 1, d, rfl, by simp, by simp, by omega, by omega, HG.out (sound_bad (.inr (.inr (.inr (.inl rfl))))), trivial⟩
              case measure => simp [intOf]; omega
            · have b3 : (q == 3) = false := by simp [q3]
              by_cases q4 : q = 4
              · subst q4
                go_wp2_with fail
                go_roundw
                case rel => exact ⟨k + 1, d, rfl, by simp, by simp, by omega, by omega, HG.out (sound_bad (.inr (.inr (.inr (.inr rfl))))), trivial⟩
                case measure => simp [intOf]; omega
              · have b4 : (q == 4) = false := by simp [q4]
                have hbad : badK q d = true := by
                  unfold badK
                  simp
                  omega
                go_wp2_with fail
                go_ret
                exact ⟨by simp [HB.out hbad], rfl⟩
    · obtain rfl : k = n := by omega
      have i1 : ¬ (k : Int) < (k : Int) := by omega
      have HC : Hid (chkL l 0 0 = none) := by rw [← hch, HLen.out, List.drop_length]; rfl
      clear hch
      by_cases h4 : k ≤ 4096
      · have i2 : (k : Int) ≤ 4096 := by omega
        go_wp2_with fail
        go_ret
        refine ⟨?_, rfl⟩
        simp [(chk_none (by rw [← HLen.out]; omega) HC.out).1]
      · have i2 : ¬ (k : Int) ≤ 4096 := by omega
        go_wp2_with fail
        go_ret
        refine ⟨?_, rfl⟩
        simp [(chk_long (l := l) (by rw [← HLen.out]; omega)).1]
end Go.Proofs.Ytolhojagbiaamab
/-! The document's First. -/
namespace Go.Proofs.Ytolhojagbiaamab
set_option linter.unusedVariables false
set_option maxRecDepth 20000
set_option linter.unusedSimpArgs false
open Go.RowKit Go.HeapKit

/-- Do two deeds race, if they are parallel? -/
def touB (ka la kb lb : Int) : Bool := (decide (ka ≥ 3) && decide (kb ≥ 3)) && (la == lb) && ((ka == 4) || (kb == 4))
set_option maxHeartbeats 1600000 in
theorem rtouches_ok (w : World) (ka la kb lb : Int) : Calls Try.prog 46 #[.agg #[.int .i64 ka, .int .i64 la], .agg #[.int .i64 kb, .int .i64 lb]] w fun e w' => e = .returned (.bool (touB ka la kb lb)) ∧ Keeps None w w' := by
  have kA := (Keeps.alloc None w (.cells #[.int .i64 ka, .int .i64 la] 26)).andAlloc (.cells #[.int .i64 kb, .int .i64 lb] 26)
  by_cases h1 : ka ≥ 3
  · by_cases h2 : kb ≥ 3
    · by_cases h3 : la = lb
      · subst h3
        by_cases h4 : ka = 4
        · subst h4
          have hv : touB 4 la kb la = true := by unfold touB; simp [h2]
          rw [hv]
          go_enter Try.func46, Try.ntmps46
          go_wp2
          go_ret
          exact ⟨by first | rfl | simp, kA⟩
        · have b4 : (ka == 4) = false := by simp [h4]
          by_cases h5 : kb = 4
          · subst h5
            have hv : touB ka la 4 la = true := by unfold touB; simp [h1]
            rw [hv]
            go_enter Try.func46, Try.ntmps46
            go_wp2
            go_ret
            exact ⟨by first | rfl | simp, kA⟩
          · have b5 : (kb == 4) = false := by simp [h5]
            have hv : touB ka la kb la = false := by unfold touB; simp [b4, b5]
            rw [hv]
            go_enter Try.func46, Try.ntmps46
            go_wp2
            go_ret
            exact ⟨by first | rfl | simp [b5], kA⟩
      · have b3 : (la == lb) = false := by simp [h3]
        have hv : touB ka la kb lb = false := by unfold touB; simp [b3]
        rw [hv]
        go_enter Try.func46, Try.ntmps46
        go_wp2
        go_ret
        exact ⟨by first | rfl | simp [b3], kA⟩
    · have hv : touB ka la kb lb = false := by unfold touB; simp [h2]
      rw [hv]
      go_enter Try.func46, Try.ntmps46
      go_wp2
      go_ret
      exact ⟨by first | rfl | simp, kA⟩
  · have hv : touB ka la kb lb = false := by unfold touB; simp [h1]
    rw [hv]
    go_enter Try.func46, Try.ntmps46
    go_wp2
    go_ret
    exact ⟨by first | rfl | simp, kA⟩
theorem race_tou {l : List Dd} (hf : Fine l) {a n : Nat} (ha : a < l.length) (hn : n < l.length) : RaceW l a n ↔ touB (kdN l n) (lcN l n) (kdN l a) (lcN l a) = true ∧ ¬ Ah l a n := by
  obtain ⟨a1, a2, _⟩ := hf.kind ha
  obtain ⟨n1, n2, _⟩ := hf.kind hn
  unfold RaceW touB
  simp only [Bool.and_eq_true, Bool.or_eq_true, decide_eq_true_eq, beq_iff_eq]
  constructor
  · rintro ⟨h1, h2, h3, h4, h5⟩
    exact ⟨⟨⟨⟨by omega, by omega⟩, h3.symm⟩, by omega⟩, h5⟩
  · rintro ⟨⟨⟨⟨h1, h2⟩, h3⟩, h4⟩, h5⟩
    exact ⟨by omega, by omega, h3.symm, by omega, h5⟩
end Go.Proofs.Ytolhojagbiaamab
/-! The walk of RacesFirst. -/
namespace Go.Proofs.Ytolhojagbiaamab
set_option linter.unusedVariables false
set_option maxRecDepth 20000
set_option linter.unusedSimpArgs false
open Go.RowKit Go.HeapKit

theorem firV_let (l : List Dd) : ∃ (X Y Z : Int) (b : Bool) (E : Int), firV l = .returned (.tuple #[.agg #[.int .i64 X, .int .i64 Y, .int .i64 Z], .bool b, .int .i64 E]) := ⟨_, _, _, _, _, rfl⟩
theorem first_let {l : List Dd} {v : Ending} (h : firV l = v) (a : Option Addr) (n c : Nat) (w : World) (hS : Seen w a n l) :
    Calls Try.prog 21 #[.slice a n c] w fun e w' => e = v ∧ Keeps None w w' := by rw [← h]; exact first_ok a n c l w hS
theorem eqRace (x y z : Int) (w : World) : (binOp .eql 50 (.agg #[.int .i64 x, .int .i64 y, .int .i64 z]) (.agg #[.int .i64 x, .int .i64 y, .int .i64 z])).run Try.prog w = .ok (.bool true) w := by
  have u3 := Try.underlying3
  have a3 := Try.isAgg3
  have z3 := Try.sizeOf3
  have u2 := Try.underlying2
  have a2 := Try.isAgg2
  have z2 := Try.sizeOf2
  have hS : Try.prog.underlying 50 = some (.struct (Try.prog.fieldsOf 50)) := by kernel_rfl
  have hp : Try.prog.stoodInHeld 50 = false := by kernel_rfl
  rw [run_eql_struct, show (10000 : Nat) = 9999 + 1 from rfl, run_equalIn_agg w 9999 50 _ _ hS hp]
  simp only [Program.fieldsOf, Try.underlying50]
  go_simp
end Go.Proofs.Ytolhojagbiaamab
/-! head: two lists written out. -/
namespace Go.Proofs.Ytolhojagbiaamab
set_option linter.unusedVariables false
set_option maxRecDepth 20000
set_option linter.unusedSimpArgs false
open Go.RowKit Go.HeapKit

def hdA : List Dd := [⟨0, 0⟩, ⟨4, 7⟩, ⟨1, 0⟩, ⟨3, 7⟩]
def hdB : List Dd := [⟨0, 0⟩, ⟨4, 7⟩, ⟨1, 0⟩, ⟨2, 0⟩, ⟨3, 7⟩]
theorem hdA_chk : chkE hdA = 0 := by decide
theorem hdB_chk : chkE hdB = 0 := by decide
/-- Ahead, by the row. -/
theorem ah_row {l : List Dd} (hc : chkE l = 0) {i : Nat} (hi : i < l.length) (m : Nat) : Ah l m i ↔ (m < i ∧ (Lof (stN l l.length)).idxOf m < (Lof (stN l l.length)).idxOf i) := by
  obtain ⟨_, hf⟩ := chk_fine hc
  obtain ⟨d, _, _, hI⟩ := hf.at l.length (Nat.le_refl _)
  exact hI.ah i hi m
theorem hdA_race : RaceW hdA 1 3 := by
  refine ⟨by decide, by decide, by decide, by decide, ?_⟩
  rw [ah_row hdA_chk (by decide)]
  decide
theorem hdB_ah : Ah hdB 1 4 := by
  rw [ah_row hdB_chk (by decide)]
  decide
theorem hdA_no (k : Nat) (hk : k < 3) : rcB hdA k = false := by
  cases hb : rcB hdA k with
  | false => rfl
  | true =>
    obtain ⟨z, hz, h1, h2, _⟩ := (rcB_iff _ _).1 hb
    have e : k = 0 ∨ k = 1 ∨ k = 2 := by omega
    rcases e with rfl | rfl | rfl
    · omega
    · obtain rfl : z = 0 := by omega
      exact absurd h1 (by decide)
    · exact absurd h2 (by decide)
theorem hdB_no (k : Nat) (hk : k < 5) : rcB hdB k = false := by
  cases hb : rcB hdB k with
  | false => rfl
  | true =>
    obtain ⟨z, hz, h1, h2, _, _, h5⟩ := (rcB_iff _ _).1 hb
    have e : k = 0 ∨ k = 1 ∨ k = 2 ∨ k = 3 ∨ k = 4 := by omega
    rcases e with rfl | rfl | rfl | rfl | rfl
    · omega
    · obtain rfl : z = 0 := by omega
      exact absurd h1 (by decide)
    · exact absurd h2 (by decide)
    · exact absurd h2 (by decide)
    · have e : z = 0 ∨ z = 1 ∨ z = 2 ∨ z = 3 := by omega
      rcases e with rfl | rfl | rfl | rfl
      · exact absurd h1 (by decide)
      · exact absurd hdB_ah h5
      · exact absurd h1 (by decide)
      · exact absurd h1 (by decide)
theorem hdA_first : firV hdA = .returned (.tuple #[.agg #[.int .i64 3, .int .i64 1, .int .i64 7], .bool true, .int .i64 0]) :=
  firV_some (n := 3) (m := 1) hdA_chk ⟨by decide, hdA_no, by decide, hdA_race, fun k hk h => by
    obtain rfl : k = 0 := by omega
    exact absurd h.1 (by decide)⟩
theorem hdA_det {Z : List Int} (h : DetL hdA Z) : Z = [7] := by
  obtain ⟨h1, h2⟩ := h.1 hdA_chk
  have hm : ∀ L, L ∈ Z ↔ L = 7 := fun L => by
    rw [h2 L]
    constructor
    · rintro ⟨k, hk, hr, rfl⟩
      have hk4 : k < 4 := hk
      by_cases e : k = 3
      · subst e; rfl
      · rw [hdA_no k (by omega)] at hr; cases hr
    · rintro rfl
      exact ⟨3, by decide, (rcB_iff _ _).2 ⟨1, by decide, hdA_race⟩, rfl⟩
  cases Z with
  | nil => exact absurd ((hm 7).2 rfl) (by simp)
  | cons x xs =>
    have hx : x = 7 := (hm x).1 (by simp)
    subst hx
    cases xs with
    | nil => rfl
    | cons y ys =>
      have hy : y = 7 := (hm y).1 (by simp)
      subst hy
      rw [List.pairwise_cons] at h1
      have := h1.1 7 (by simp)
      omega
theorem hdB_det {Z : List Int} (h : DetL hdB Z) : Z = [] := by
  obtain ⟨h1, h2⟩ := h.1 hdB_chk
  cases Z with
  | nil => rfl
  | cons x xs =>
    obtain ⟨k, hk, hr, _⟩ := (h2 x).1 (by simp)
    rw [hdB_no k hk] at hr
    cases hr
def hdAV : Array Value := #[.int .i64 0, .int .i64 0, .int .i64 4, .int .i64 7, .int .i64 1, .int .i64 0, .int .i64 3, .int .i64 7]
def hdBV : Array Value := #[.int .i64 0, .int .i64 0, .int .i64 4, .int .i64 7, .int .i64 1, .int .i64 0, .int .i64 2, .int .i64 0, .int .i64 3, .int .i64 7]
theorem seenA {w : World} {g : Nat} (h : w.heap[g]? = some (.cells hdAV 26 (0, 0))) : Seen w (some ⟨g, 0, none⟩) 4 hdA := by
  refine ⟨rfl, fun _ => ⟨g, 0, rfl, blk_lt h, fun k x hx => ?_⟩⟩
  have hk : k < 4 := (List.getElem?_eq_some_iff.1 hx).1
  have e : k = 0 ∨ k = 1 ∨ k = 2 ∨ k = 3 := by omega
  rcases e with rfl | rfl | rfl | rfl <;> (injection hx with hx; subst hx; exact ⟨(cell_of_heap h _).trans rfl, (cell_of_heap h _).trans rfl⟩)
theorem seenB {w : World} {g : Nat} (h : w.heap[g]? = some (.cells hdBV 26 (0, 0))) : Seen w (some ⟨g, 0, none⟩) 5 hdB := by
  refine ⟨rfl, fun _ => ⟨g, 0, rfl, blk_lt h, fun k x hx => ?_⟩⟩
  have hk : k < 5 := (List.getElem?_eq_some_iff.1 hx).1
  have e : k = 0 ∨ k = 1 ∨ k = 2 ∨ k = 3 ∨ k = 4 := by omega
  rcases e with rfl | rfl | rfl | rfl | rfl <;> (injection hx with hx; subst hx; exact ⟨(cell_of_heap h _).trans rfl, (cell_of_heap h _).trans rfl⟩)
theorem detA_ok (g c : Nat) (w : World) (h : w.heap[g]? = some (.cells hdAV 26 (0, 0))) :
    Calls Try.prog 9 #[.slice (some ⟨g, 0, none⟩) 4 c] w fun e w' => ∃ g2 c2, e = .returned (.tuple #[.slice (some ⟨g2, 0, none⟩) 1 c2, .int .i64 0]) ∧ w'.cell? ⟨g2, 0, none⟩ = some (.int .i64 7) ∧ Keeps None w w' := by
  refine (detect_ok _ 4 c hdA w (seenA h)).mono ?_
  rintro e w' ⟨v, Z, rfl, hr, hd, hk⟩
  rw [hdA_chk]
  obtain rfl := hdA_det hd
  obtain ⟨a, c2, rfl, ha⟩ := hr.shape
  obtain ⟨g2, rfl⟩ := ha (by decide)
  exact ⟨g2, c2, rfl, hr.cell (k := 0) (by decide), hk⟩
theorem detB_ok (g c : Nat) (w : World) (h : w.heap[g]? = some (.cells hdBV 26 (0, 0))) :
    Calls Try.prog 9 #[.slice (some ⟨g, 0, none⟩) 5 c] w fun e w' => ∃ a2 c2, e = .returned (.tuple #[.slice a2 0 c2, .int .i64 0]) ∧ Keeps None w w' := by
  refine (detect_ok _ 5 c hdB w (seenB h)).mono ?_
  rintro e w' ⟨v, Z, rfl, hr, hd, hk⟩
  rw [hdB_chk]
  obtain rfl := hdB_det hd
  obtain ⟨a, c2, rfl, ha⟩ := hr.shape
  exact ⟨a, c2, rfl, hk⟩
theorem firA_ok (g c : Nat) (w : World) (h : w.heap[g]? = some (.cells hdAV 26 (0, 0))) :
    Calls Try.prog 21 #[.slice (some ⟨g, 0, none⟩) 4 c] w fun e w' => e = .returned (.tuple #[.agg #[.int .i64 3, .int .i64 1, .int .i64 7], .bool true, .int .i64 0]) ∧ Keeps None w w' :=
  first_let hdA_first _ 4 c w (seenA h)
theorem five_at (w : World) (o1 o2 o3 o4 o5 : Obj) : ((((((w.alloc o1).alloc o2).alloc o3).alloc o4).alloc o5).heap[w.heap.size]? = some o1) ∧ ((((((w.alloc o1).alloc o2).alloc o3).alloc o4).alloc o5).heap[w.heap.size + 1]? = some o2) ∧ ((((((w.alloc o1).alloc o2).alloc o3).alloc o4).alloc o5).heap[w.heap.size + 1 + 1]? = some o3) ∧ ((((((w.alloc o1).alloc o2).alloc o3).alloc o4).alloc o5).heap[w.heap.size + 1 + 1 + 1]? = some o4) ∧ ((((((w.alloc o1).alloc o2).alloc o3).alloc o4).alloc o5).heap[w.heap.size + 1 + 1 + 1 + 1]? = some o5) := by
  have k : ∀ {v : World} {o : Obj} {p : Nat} {x : Obj}, v.heap[p]? = some x → (v.alloc o).heap[p]? = some x := fun {v o p x} h => blk_kept h (Keeps.alloc None v o) (fun f => f)
  have e2 := heap_alloc_new (w.alloc o1) o2
  have e3 := heap_alloc_new ((w.alloc o1).alloc o2) o3
  have e4 := heap_alloc_new (((w.alloc o1).alloc o2).alloc o3) o4
  have e5 := heap_alloc_new ((((w.alloc o1).alloc o2).alloc o3).alloc o4) o5
  simp only [World.size_alloc] at e2 e3 e4 e5
  exact ⟨k (k (k (k (heap_alloc_new w o1)))), k (k (k e2)), k (k e3), k e4, e5⟩
set_option maxHeartbeats 1600000 in
theorem head_ok (w : World) : Calls Try.prog 8 #[] w fun e w' => e = .returned (.bool true) ∧ Keeps None w w' := by
  have h5 := five_at w (.cells #[.int .i64 0, .int .i64 0] 26) (.cells #[.int .i64 4, .int .i64 7] 26) (.cells #[.int .i64 1, .int .i64 0] 26) (.cells #[.int .i64 2, .int .i64 0] 26) (.cells #[.int .i64 3, .int .i64 7] 26)
  obtain ⟨s, hs⟩ : ∃ s, s = w.heap.size := ⟨_, rfl⟩
  obtain ⟨W, hW⟩ : ∃ W, W = ((((w.alloc (.cells #[.int .i64 0, .int .i64 0] 26)).alloc (.cells #[.int .i64 4, .int .i64 7] 26)).alloc (.cells #[.int .i64 1, .int .i64 0] 26)).alloc (.cells #[.int .i64 2, .int .i64 0] 26)).alloc (.cells #[.int .i64 3, .int .i64 7] 26) := ⟨_, rfl⟩
  rw [← hW, ← hs] at h5
  obtain ⟨b1, b2, b3, b4, b5⟩ := h5
  have HC : Hid (∀ w', Keeps None W w' → w'.cell? ⟨s, 0, none⟩ = some (.int .i64 0) ∧ w'.cell? ⟨s, 1, none⟩ = some (.int .i64 0) ∧ w'.cell? ⟨s + 1, 0, none⟩ = some (.int .i64 4) ∧ w'.cell? ⟨s + 1, 1, none⟩ = some (.int .i64 7) ∧ w'.cell? ⟨s + 1 + 1, 0, none⟩ = some (.int .i64 1) ∧ w'.cell? ⟨s + 1 + 1, 1, none⟩ = some (.int .i64 0) ∧ w'.cell? ⟨s + 1 + 1 + 1, 0, none⟩ = some (.int .i64 2) ∧ w'.cell? ⟨s + 1 + 1 + 1, 1, none⟩ = some (.int .i64 0) ∧ w'.cell? ⟨s + 1 + 1 + 1 + 1, 0, none⟩ = some (.int .i64 3) ∧ w'.cell? ⟨s + 1 + 1 + 1 + 1, 1, none⟩ = some (.int .i64 7)) := fun w' hk =>
    have q := fun {p : Nat} {o : Obj} (h : W.heap[p]? = some o) => blk_kept h hk (fun f => f)
    ⟨cell_of_heap (q b1) 0, cell_of_heap (q b1) 1, cell_of_heap (q b2) 0, cell_of_heap (q b2) 1, cell_of_heap (q b3) 0, cell_of_heap (q b3) 1, cell_of_heap (q b4) 0, cell_of_heap (q b4) 1, cell_of_heap (q b5) 0, cell_of_heap (q b5) 1⟩
  have HW : Hid _ := And.intro hW hs
  have HK : Hid (Keeps None w W) := by
    rw [hW]
    exact ((((Keeps.alloc None w _).andAlloc _).andAlloc _).andAlloc _).andAlloc _
  clear hW hs b1 b2 b3 b4 b5
  go_enter Try.func8, Try.ntmps8
  go_upto_region 6 with fail
  rw [← HW.out.2, ← HW.out.1]
  clear HW
  obtain ⟨c0, c1, c2, c3, c4, c5, c6, c7, c8, c9⟩ := HC.out W (Keeps.refl _ _)
  have HA : Hid _ := detA_ok W.heap.size 4 _ (heap_alloc_new W (.cells hdAV 26))
  go_upto_region 7 with (go_at_call 9; refine Calls.mono HA.out ?_; rintro _ w2 ⟨g2, cc2, rfl, hc2, hk2⟩)
  have kA := (Keeps.alloc None W (.cells hdAV 26)).trans hk2 (fun _ f _ => f)
  have H2 : Hid (Keeps None W w2 ∧ w2.cell? ⟨g2, 0, none⟩ = some (.int .i64 7)) := ⟨kA, hc2⟩
  clear c0 c1 c2 c3 c4 c5 c6 c7 c8 c9 HA hc2 hk2 kA
  obtain ⟨c0, c1, c2, c3, c4, c5, c6, c7, c8, c9⟩ := HC.out w2 H2.out.1
  have HB : Hid _ := detB_ok w2.heap.size 5 _ (heap_alloc_new w2 (.cells hdBV 26))
  go_upto_region 8 with (go_at_call 9; refine Calls.mono HB.out ?_; rintro _ w3 ⟨a3, cc3, rfl, hk3⟩)
  have kB := (Keeps.alloc None w2 (.cells hdBV 26)).trans hk3 (fun _ f _ => f)
  have H3 : Hid (Keeps None W w3 ∧ w3.cell? ⟨g2, 0, none⟩ = some (.int .i64 7)) := ⟨H2.out.1.trans kB (fun _ f _ => f), kB.cell H2.out.2 (fun f => f)⟩
  clear c0 c1 c2 c3 c4 c5 c6 c7 c8 c9 HB hk3 kB H2
  obtain ⟨c0, c1, c2, c3, c4, c5, c6, c7, c8, c9⟩ := HC.out w3 H3.out.1
  have HF : Hid _ := firA_ok w3.heap.size 4 _ (heap_alloc_new w3 (.cells hdAV 26))
  go_upto_region 9 with (go_at_call 21; refine Calls.mono HF.out ?_; rintro _ w4 ⟨rfl, hk4⟩)
  have kC := (Keeps.alloc None w3 (.cells hdAV 26)).trans hk4 (fun _ f _ => f)
  have b6 := heap_alloc_new w4 (.cells #[.int .i64 3, .int .i64 1, .int .i64 7] 50)
  have kD := kC.andAlloc (.cells #[.int .i64 3, .int .i64 1, .int .i64 7] 50)
  obtain ⟨w5, hw5⟩ : ∃ w5, w5 = w4.alloc (.cells #[.int .i64 3, .int .i64 1, .int .i64 7] 50) := ⟨_, rfl⟩
  obtain ⟨D, hD⟩ : ∃ D, D = w4.heap.size := ⟨_, rfl⟩
  rw [← hw5] at b6 kD
  rw [← hD] at b6
  rw [← hw5, ← hD]
  have H5 : Hid (Keeps None w w5) := (HK.out.trans H3.out.1 (fun _ f _ => f)).trans kD (fun _ f _ => f)
  have d0 : w5.cell? ⟨D, 0, none⟩ = some (.int .i64 3) := cell_of_heap b6 0
  have d1 : w5.cell? ⟨D, 1, none⟩ = some (.int .i64 1) := cell_of_heap b6 1
  have d2 : w5.cell? ⟨D, 2, none⟩ = some (.int .i64 7) := cell_of_heap b6 2
  have dg := kD.cell H3.out.2 (fun f => f)
  have heq := eqRace 3 1 7
  clear c0 c1 c2 c3 c4 c5 c6 c7 c8 c9 HF hk4 kC b6 kD hw5 hD H3 HC HK
  go_wp2_with fail
  go_ret
  exact ⟨rfl, H5.out⟩
end Go.Proofs.Ytolhojagbiaamab
