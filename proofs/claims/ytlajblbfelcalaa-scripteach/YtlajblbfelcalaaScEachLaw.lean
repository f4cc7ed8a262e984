import Derived.Test.YtlajblbfelcalaaScEach
import Derived.LoopN
import Derived.Sort.CutIn
import Derived.Test.YtlajblbfelcalaaRefModWalks
/-! ScriptEach: the law's walk. -/
namespace Go.Proofs.Ytlajblbfelcalaa
set_option linter.unusedVariables false
set_option maxRecDepth 20000
open Go.RowKit Go.HeapKit Go.Shelf Go.PlainOps

/-- What stands while the law prepares. -/
structure Pr (w wx : World) (s0 cb : Nat) (ap ad va ua : Option Addr) (np cp nd cd vc uc len : Nat) (V st : Int) (l : List Int) : Prop where
  b0 : wx.heap[s0]? = some (.cells #[.slice ap np cp, .slice ad nd cd] 37 (0, 0))
  b1 : wx.heap[s0 + 1]? = some (.cells #[.int .i64 V] 3 (0, 0))
  b2 : wx.heap[s0 + 1 + 1]? = some (.cells #[.int .i64 st] 3 (0, 0))
  b3 : wx.heap[s0 + 1 + 1 + 1]? = some (.cells #[.bool false] 4 (0, 0))
  bc : wx.heap[cb]? = some (.cells #[.slice va np vc, .slice ua nd uc] 37 (0, 0))
  bk : wx.heap[cb + 1]? = some (.cells #[.int .i64 len] 3 (0, 0))
  r : wx.ownsRow (s0 + 1 + 1 + 1 + 1) 3 1 (.slice va np vc) np (iv l)
  lt : ∀ g, (Value.slice va np vc).ownBlock = some g → g < cb
  kp : Keeps None w wx
  o : w.heap.size = s0
  lo : s0 + 1 + 1 + 1 + 1 ≤ cb
section
variable {w wx wy : World} {s0 cb : Nat} {ap ad va ua : Option Addr} {np cp nd cd vc uc len : Nat} {V st : Int} {l l2 : List Int}
theorem Pr.more (h : Pr w wx s0 cb ap ad va ua np cp nd cd vc uc len V st l) (hk : Keeps None wx wy) : Pr w wy s0 cb ap ad va ua np cp nd cd vc uc len V st l :=
  ⟨blk_kept h.b0 hk (fun f => f), blk_kept h.b1 hk (fun f => f), blk_kept h.b2 hk (fun f => f), blk_kept h.b3 hk (fun f => f), blk_kept h.bc hk (fun f => f), blk_kept h.bk hk (fun f => f), row_more h.r hk, h.lt, h.kp.trans hk (fun _ f _ => f), h.o, h.lo⟩
theorem Pr.row (h : Pr w wx s0 cb ap ad va ua np cp nd cd vc uc len V st l) (hk : Keeps (fun k => (Value.slice va np vc).ownBlock = some k) wx wy) (hr : wy.ownsRow (s0 + 1 + 1 + 1 + 1) 3 1 (.slice va np vc) np (iv l2)) : Pr w wy s0 cb ap ad va ua np cp nd cd vc uc len V st l2 := by
  have hlo : ∀ g, (Value.slice va np vc).ownBlock = some g → s0 + 1 + 1 + 1 + 1 ≤ g := fun g e => row_low h.r e
  have o := h.o
  refine ⟨blk_kept h.b0 hk (fun e => by have := hlo _ e; omega), blk_kept h.b1 hk (fun e => by have := hlo _ e; omega), blk_kept h.b2 hk (fun e => by have := hlo _ e; omega), blk_kept h.b3 hk (fun e => by have := hlo _ e; omega), blk_kept h.bc hk (fun e => by have := h.lt _ e; omega), blk_kept h.bk hk (fun e => by have := h.lt _ e; omega), hr, h.lt, h.kp.trans hk (fun i e hi => by have := hlo _ e; omega), h.o, h.lo⟩
theorem Pr.set0 (h : Pr w wx s0 cb ap ad va ua np cp nd cd vc uc np V st l) : Pr w (wx.setCell ⟨cb + 1, 0, none⟩ (.int .i64 0)) s0 cb ap ad va ua np cp nd cd vc uc 0 V st l := by
  have hk : Keeps (· = cb + 1) wx (wx.setCell ⟨cb + 1, 0, none⟩ (.int .i64 0)) := Keeps.setCell (S := (· = cb + 1)) wx rfl _
  have o := h.o
  have lo := h.lo
  exact ⟨blk_kept h.b0 hk (by omega), blk_kept h.b1 hk (by omega), blk_kept h.b2 hk (by omega), blk_kept h.b3 hk (by omega), blk_kept h.bc hk (by omega), (blk_set h.bk _).trans rfl, row_kept h.r hk (fun g e1 e2 => by have := h.lt g e1; omega), h.lt, h.kp.trans hk (fun i e1 hi => by omega), h.o, h.lo⟩
end
/-- Blocks for deferred calls that none was put into. -/
def Marks (n₀ : Nat) (w : World) (ds : List Deferred) : Prop := ∃ Ds : List Nat, ds = Ds.map (fun D => { target := .collected D, args := #[] }) ∧ Ds.Nodup ∧ ∀ D ∈ Ds, n₀ ≤ D ∧ w.heap[D]? = some (.deferred (some []))
theorem Marks.cons {n₀ D : Nat} {W X : World} {ds : List Deferred} (h : Marks n₀ W ds) (hB : Below W.heap.size W X) (hn : n₀ ≤ W.heap.size) (hD : W.heap.size ≤ D) (hK : X.heap[D]? = some (.deferred (some []))) : Marks n₀ X ({ target := .collected D, args := #[] } :: ds) := by
  obtain ⟨Ds, rfl, hnd, hall⟩ := h
  refine ⟨D :: Ds, rfl, List.nodup_cons.2 ⟨fun hm => ?_, hnd⟩, fun E hE => ?_⟩
  · have := blk_lt (hall D hm).2; omega
  · rcases List.mem_cons.1 hE with rfl | hE
    · exact ⟨by omega, hK⟩
    · exact ⟨(hall E hE).1, (hB.block E (blk_lt (hall E hE).2)).trans (hall E hE).2⟩
theorem Marks.to {n₀ : Nat} {X Y : World} {ds : List Deferred} (h : Marks n₀ X ds) (hk : ∀ D, n₀ ≤ D → X.heap[D]? = some (.deferred (some [])) → Y.heap[D]? = some (.deferred (some []))) : Marks n₀ Y ds := by
  obtain ⟨Ds, rfl, hnd, hall⟩ := h
  exact ⟨Ds, rfl, hnd, fun E hE => ⟨(hall E hE).1, hk E (hall E hE).1 (hall E hE).2⟩⟩
theorem putObj_below (n₀ : Nat) (w : World) (D : Nat) (o : Obj) (hD : n₀ ≤ D) (hn : n₀ ≤ w.heap.size) : Below n₀ w (w.putObj D o) := (Below.refl n₀ w).grown (grownBy_putObj' w D o) hn (fun k e => by cases e; exact hD)
theorem leaves_marks {F : Fence} {n n₀ : Nat} {P : Program} {fn : Func} {tmps : Array Value} {R : Ending → World → Prop} : ∀ (Ds : List Nat) (w : World), Ds.Nodup → (∀ D ∈ Ds, n₀ ≤ D ∧ w.heap[D]? = some (.deferred (some []))) → n₀ ≤ w.heap.size → (∀ w', Below n₀ w w' → LeavesIn F n P fn tmps R [] .returning w') → LeavesInM F n P fn tmps R (Ds.map (fun D => { target := .collected D, args := #[] })) .returning w
  | [], w, _, _, _, h => h w (Below.refl _ _)
  | D :: Ds, w, hnd, hall, hn, h => by
    have hD := hall D (List.mem_cons_self ..)
    have hB : Below n₀ w (w.putObj D (.deferred none)) := putObj_below n₀ w D _ hD.1 hn
    refine ⟨by simp, .inl ⟨D, _, rfl, run_takeDeferred hD.2, leaves_marks Ds _ (List.nodup_cons.1 hnd).2 (fun E hE => ⟨(hall E (List.mem_cons_of_mem _ hE)).1, ?_⟩) (Nat.le_trans hn hB.size) (fun w' hb => h w' (hB.trans hb))⟩⟩
    exact (World.putObj_heap_other (fun e => by subst e; exact (List.nodup_cons.1 hnd).1 hE)).trans (hall E (List.mem_cons_of_mem _ hE)).2
def leftR (a : Act) (w : World) : Nat := match a.tmps.getD 11 undef with
  | .pointer (some p) => match w.cell? p with
    | some v => 3 - (intOf v).toNat
    | none => 0
  | _ => 0
theorem drewN_heap (w : World) (m : Nat) : (w.drewN m).heap = w.heap := by
  induction m with
  | zero => rfl
  | succ m ih => exact ih
theorem drewN_below (B : Nat) (w : World) (m : Nat) (h : B ≤ w.heap.size) : Below B w (w.drewN m) := (Keeps.drewN None w m).below _ h (fun _ f => f.elim)
theorem drewN_others (w : World) (m : Nat) : KeepsOthers w (w.drewN m) := ⟨by rw [drewN_heap]; exact Nat.le_refl _, fun k o h _ => by rw [drewN_heap]; exact h⟩
theorem pair_next {V : Int} {xs : List Int} {pre : List (Int × Int)} {y : Int} (hp : pre = (prs V xs).take pre.length) (he : xs[pre.length]? = some y) : pre ++ [((pre.length : Int), modV y V)] = (prs V xs).take (pre ++ [((pre.length : Int), modV y V)]).length := by
  have h := prs_take V xs pre.length y he
  rw [← hp] at h
  rw [List.length_append]
  exact h.symm
theorem pair_other {V : Int} {xs : List Int} {pre : List (Int × Int)} {y : Int} {x : Int × Int} (hp : pre = (prs V xs).take pre.length) (he : xs[pre.length]? = some y) (hx : x ≠ ((pre.length : Int), modV y V)) : pre ++ [x] ≠ (prs V xs).take (pre ++ [x]).length := by
  intro e
  have h := prs_take V xs pre.length y he
  rw [← hp] at h
  rw [List.length_append] at e
  have e2 : pre ++ [x] = pre ++ [((pre.length : Int), modV y V)] := e.trans h
  have e3 := List.append_cancel_left e2
  injection e3 with e3
  exact hx e3
theorem wide_fn (f : Nat) : Fence.wide.fn f := trivial
attribute [local go_sem] Oper.semAt_some
attribute [local simp] wide_fn
attribute [local go_sem] wide_fn
theorem leftR_eq {a : Act} {w : World} {p : Addr} {v : Value} (h : a.tmps.getD 11 undef = .pointer (some p)) (hc : w.cell? p = some v) : leftR a w = 3 - (intOf v).toNat := by
  unfold leftR
  rw [h]
  simp only [hc]
set_option maxRecDepth 100000 in
set_option maxHeartbeats 6400000 in
theorem scriptEach_walk (ap ad : Option Addr) (np cp nd cd : Nat) (V st : Int) (lp ld : List Int) (w : World) (hp : SeenN w ap np lp) (hd : SeenN w ad nd ld) (hs : np * 8 ≤ 140737488351232) (hs2 : nd * 8 ≤ 140737488351232) (hV : okI V) (hst : okI st) :
    Calls Try.prog 5 #[.agg #[.slice ap np cp, .slice ad nd cd], .int .i64 V, .int .i64 st] w fun e w' => e = .returned (.bool true) ∧ Below w.heap.size w w' := by
  have HS : Hid (SeenN w ap np lp ∧ SeenN w ad nd ld ∧ okI V ∧ okI st) := ⟨hp, hd, hV, hst⟩
  clear hp hd hV hst
  obtain ⟨len, xs, HX⟩ : ∃ (len : Nat) (xs : List Int), Hid ((goodB V = true ∧ len = np ∧ xs = lp) ∨ (goodB V = false ∧ len = 0 ∧ xs = [])) := by
    by_cases hg : goodB V = true
    · exact ⟨np, lp, .inl ⟨hg, rfl, rfl⟩⟩
    · exact ⟨0, [], .inr ⟨by simpa using hg, rfl, rfl⟩⟩
  obtain ⟨s0, hs0⟩ : ∃ s0, s0 = w.heap.size := ⟨_, rfl⟩
  obtain ⟨wb, hwb⟩ : ∃ wb, (((w.alloc (.cells #[.slice ap np cp, .slice ad nd cd] 37)).alloc (.cells #[.int .i64 V] 3)).alloc (.cells #[.int .i64 st] 3)).alloc (.cells #[.bool false] 4) = wb := ⟨_, rfl⟩
  have hb0 : wb.heap[s0]? = some (.cells #[.slice ap np cp, .slice ad nd cd] 37 (0, 0)) := by rw [← hwb]; exact blk_old (blk_old (blk_old (blk_new w _ s0 hs0.symm) _) _) _
  have hb1 : wb.heap[s0 + 1]? = some (.cells #[.int .i64 V] 3 (0, 0)) := by rw [← hwb]; exact blk_old (blk_old (blk_new _ _ (s0 + 1) (by simp; omega)) _) _
  have hb2 : wb.heap[s0 + 1 + 1]? = some (.cells #[.int .i64 st] 3 (0, 0)) := by rw [← hwb]; exact blk_old (blk_new _ _ (s0 + 1 + 1) (by simp; omega)) _
  have hb3 : wb.heap[s0 + 1 + 1 + 1]? = some (.cells #[.bool false] 4 (0, 0)) := by rw [← hwb]; exact blk_new _ _ (s0 + 1 + 1 + 1) (by simp; omega)
  have hkb : Keeps None w wb := by rw [← hwb]; exact (((keeps1 w _).andAlloc _).andAlloc _).andAlloc _
  have hsz : wb.heap.size = s0 + 1 + 1 + 1 + 1 := by rw [← hwb]; simp; omega
  have c0 : wb.cell? ⟨s0, 0, none⟩ = some (.slice ap np cp) := (blk_cell hb0 0).trans rfl
  have c1 : wb.cell? ⟨s0, 1, none⟩ = some (.slice ad nd cd) := (blk_cell hb0 1).trans rfl
  have HB : Hid (wb.heap[s0]? = some (.cells #[.slice ap np cp, .slice ad nd cd] 37 (0, 0)) ∧ wb.heap[s0 + 1]? = some (.cells #[.int .i64 V] 3 (0, 0)) ∧ wb.heap[s0 + 1 + 1]? = some (.cells #[.int .i64 st] 3 (0, 0)) ∧ wb.heap[s0 + 1 + 1 + 1]? = some (.cells #[.bool false] 4 (0, 0)) ∧ Keeps None w wb ∧ wb.heap.size = s0 + 1 + 1 + 1 + 1 ∧ s0 = w.heap.size) := ⟨hb0, hb1, hb2, hb3, hkb, hsz, hs0⟩
  clear hb0 hb1 hb2 hb3 hkb hsz
  refine (callsIn_wide (n := 6)).1 (callsIn_of_wp_marks Try.func5 rfl trivial (wpIn_wide.2 ?_) rfl)
  simp only [Try.ntmps5, List.size_toArray, List.length_cons, List.length_nil, Nat.reduceAdd, Nat.reduceSub, Array.replicate_succ, Array.replicate_zero, List.push_toArray, List.append_toArray, List.nil_append, List.cons_append]
  go_upto_region 1 with fail
  rw [← hs0]
  try rw [hwb]
  clear hwb hs0
  go_wp2_with fail
  refine (copied_any ap ad np cp nd cd lp ld _ (HS.out.1.more HB.out.2.2.2.2.1) (HS.out.2.1.more HB.out.2.2.2.2.1) hs hs2).mono ?_
  rintro _ w1 ⟨va, vc, ua, uc, rfl, hT1, hk1⟩
  have e0 : w1.cell? ⟨s0, 0, none⟩ = some (.slice ap np cp) := hk1.cell c0 (fun f => f)
  have hlt1 : s0 < w1.heap.size := by have := hk1.size; have := HB.out; omega
  have H1 : Hid (TwoR w1 wb.heap.size (.slice va np vc) (.slice ua nd uc) np nd lp ld ∧ Keeps None wb w1) := ⟨hT1, hk1⟩
  clear hT1 hk1 c0 c1
  obtain ⟨cb, hcb⟩ : ∃ cb, cb = w1.heap.size := ⟨_, rfl⟩
  obtain ⟨wq, hwq⟩ : ∃ wq, (w1.alloc (.cells #[.slice va np vc, .slice ua nd uc] 37)).alloc (.cells #[.int .i64 np] 3) = wq := ⟨_, rfl⟩
  have HP : Hid (Pr w wq s0 cb ap ad va ua np cp nd cd vc uc np V st lp) := by
    have e := HB.out
    have hk : Keeps None w1 wq := by rw [← hwq]; exact (keeps1 w1 _).andAlloc _
    have hk2 : Keeps None wb wq := H1.out.2.trans hk (fun _ f _ => f)
    exact ⟨blk_kept e.1 hk2 (fun f => f), blk_kept e.2.1 hk2 (fun f => f), blk_kept e.2.2.1 hk2 (fun f => f), blk_kept e.2.2.2.1 hk2 (fun f => f), by rw [← hwq]; exact blk_old (blk_new w1 _ cb hcb.symm) _, by rw [← hwq]; exact blk_new _ _ (cb + 1) (by simp; omega), row_base (row_more H1.out.1.r0 hk) (by omega), fun g hg => by have := own_lt H1.out.1.r0 hg; omega, e.2.2.2.2.1.trans hk2 (fun _ f _ => f), e.2.2.2.2.2.2.symm, by have := H1.out.2.size; omega⟩
  go_upto_region 3 with fail
  try rw [hwq]
  rw [← hcb]
  clear hwq hcb e0 hlt1 H1 HB
  have q1 : wq.cell? ⟨s0 + 1, 0, none⟩ = some (.int .i64 V) := (blk_cell HP.out.b1 0).trans rfl
  go_cut [25] from 15 to 25 (fun s25 wx => s25 = .bool (!goodB V) ∧ wx = wq)
  case first =>
    by_cases h1 : V < 1
    · have hg : goodB V = false := by simp [goodB]; omega
      go_wp2_with fail
      all_goals go_meet
      all_goals exact ⟨by rw [hg]; rfl, rfl⟩
    · by_cases h2 : V > 64
      · have hg : goodB V = false := by simp [goodB]; omega
        go_wp2_with fail
        all_goals go_meet
        all_goals exact ⟨by rw [hg]; rfl, rfl⟩
      · have hg : goodB V = true := by simp [goodB]; omega
        go_wp2_with fail
        all_goals go_meet
        all_goals exact ⟨by rw [hg]; rfl, rfl⟩
  case rest =>
  obtain ⟨rfl, hwc⟩ := hcut
  have hwc2 := hwc.symm
  subst hwc2
  clear hwc
  have qk : wq.cell? ⟨cb + 1, 0, none⟩ = some (.int .i64 np) := (blk_cell HP.out.bk 0).trans rfl
  have fk := blk_free HP.out.bk 0
  go_upto_if 25 with fail
  go_cut [] from 15 to 25 (fun wx => Pr w wx s0 cb ap ad va ua np cp nd cd vc uc len V st lp)
  case first =>
    rcases HX.out with ⟨hg, h1, h2⟩ | ⟨hg, h1, h2⟩
    · subst h1
      have hgn : (!goodB V) = false := by rw [hg]; rfl
      rw [hgn]
      go_wp2_with fail
      all_goals go_meet
      all_goals exact HP.out
    · subst h1
      have hgn : (!goodB V) = true := by rw [hg]; rfl
      rw [hgn]
      go_wp2_with fail
      all_goals go_meet
      all_goals exact HP.out.set0
  case rest =>
  have HP2 : Hid (Pr w wc s0 cb ap ad va ua np cp nd cd vc uc len V st lp) := hcut
  clear hcut qk fk HP q1
  have p0 : wc.cell? ⟨cb, 0, none⟩ = some (.slice va np vc) := (blk_cell HP2.out.bc 0).trans rfl
  have p1 : wc.cell? ⟨cb, 1, none⟩ = some (.slice ua nd uc) := (blk_cell HP2.out.bc 1).trans rfl
  have q1 : wc.cell? ⟨s0 + 1, 0, none⟩ = some (.int .i64 V) := (blk_cell HP2.out.b1 0).trans rfl
  obtain ⟨eb, heb⟩ : ∃ eb, eb = wc.heap.size := ⟨_, rfl⟩
  go_wp2_with fail
  refine (each_any va ua np vc nd uc V lp _ (row_seen HP2.out.r) hs len xs HX.out).mono ?_
  rintro _ w4 ⟨ea, ec, rfl, hE⟩
  rw [← heb]
  have HE : Hid (EachB wc w4 V ea len ec xs) := hE
  have HP4 : Hid (Pr w w4 s0 cb ap ad va ua np cp nd cd vc uc len V st lp) := HP2.out.more hE.kp
  clear hE p0 p1 q1
  go_wp2_with fail
  go_loopw [10] (fun s10 wr => ∃ (k : Nat) (l' : List Int), s10 = .int .i64 k ∧ k ≤ np ∧ Pr w wr s0 cb ap ad va ua np cp nd cd vc uc len V st l' ∧ Keeps (fun k => (Value.slice va np vc).ownBlock = some k) w4 wr) (fun s10 _ => np - (intOf s10).toNat)
  case atStart => exact ⟨0, lp, rfl, Nat.zero_le _, HP4.out, Keeps.refl _ _⟩
  case round =>
    obtain ⟨k, l', rfl, hk, hPr, hkp⟩ := hrel
    have HR : Hid (Pr w wr s0 cb ap ad va ua np cp nd cd vc uc len V st l' ∧ Keeps (fun k => (Value.slice va np vc).ownBlock = some k) w4 wr) := ⟨hPr, hkp⟩
    have p0 : wr.cell? ⟨cb, 0, none⟩ = some (.slice va np vc) := (blk_cell hPr.bc 0).trans rfl
    have hl := row_len hPr.r
    by_cases hkn : k < np
    · obtain ⟨g, rfl, _, _, hnc, _, c1, fz⟩ := row_elem hPr.r (k := k) (x := l'[k]'(by omega)) (List.getElem?_eq_getElem _)
      have f1 := fz k
      have m0 : ¬ np = 0 := by omega
      have i1 : (k : Int) < (np : Int) := by omega
      generalize l'[k]'(by omega) = x0 at c1
      have HN : Hid (∀ y, Pr w (wr.setCell ⟨g, k, none⟩ (.int .i64 y)).drew s0 cb ap ad (some ⟨g, 0, none⟩) ua np cp nd cd vc uc len V st (l'.set k y) ∧ Keeps (fun k => (Value.slice (some ⟨g, 0, none⟩) np vc).ownBlock = some k) w4 (wr.setCell ⟨g, k, none⟩ (.int .i64 y)).drew) := fun y =>
        ⟨(hPr.row (Keeps.setCell (S := fun k => (Value.slice (some ⟨g, 0, none⟩) np vc).ownBlock = some k) wr (a := ⟨g, k, none⟩) rfl (.int .i64 y)) (row_setI hPr.r k y)).more (Keeps.drew None _), (hkp.andSet (x := ⟨g, k, none⟩) (.inl rfl) _).andDrew⟩
      clear hPr hkp hl fz HP4 HE HP2
      go_upto_region 9 with fail
      have pS : ∀ v, (wr.setCell ⟨g, k, none⟩ v).cell? ⟨cb, 0, none⟩ = some (.slice (some ⟨g, 0, none⟩) np vc) := fun v => (Keeps.setCell (S := (· = g)) wr (a := ⟨g, k, none⟩) rfl v).cell p0 (by have := HR.out.1.lt g rfl; simp; omega)
      refine wp_region_noPanic ?_
      refine wp_region_held_drew (S := (fun w' => w'.cell? ⟨cb, 0, none⟩ = some (.slice (some ⟨g, 0, none⟩) np vc))) (by kernel_rfl) ?_ (fun hHeld => ?_)
      · (try dsimp only); first | with_reducible exact p0 | exact p0 | exact pS _
      refine wpAnyH_take (i := 0) (oi := { dst := some 36, op := Op.fieldAddr 37 (Operand.tmp 7) 0, type := 0, pos := "law.go:158", after := #[], guard := none }) (v := ?_) rfl (by kernel_rfl) (by kernel_rfl) (by kernel_rfl) (fun _ _ _ h => h) (Or.inl ⟨by rfl, ?_⟩) (by assumption) ?_
      rotate_left
      · (intro wz hSw; (try dsimp only at hSw); go_simp; try with_reducible rfl)
      simp only [Act.put, List.setIfInBounds_toArray, List.set_cons_zero, List.set_cons_succ]
      refine wpAnyH_take (i := 1) (oi := { dst := some 37, op := Op.load 25 (Operand.tmp 36), type := 25, pos := "law.go:158", after := #[{ on := 0, ground := Ground.data }], guard := none }) (v := ?_) rfl (by kernel_rfl) (by kernel_rfl) (by kernel_rfl) (fun _ _ _ h => h) (Or.inl ⟨by rfl, ?_⟩) (by assumption) ?_
      rotate_left
      · (intro wz hSw; (try dsimp only at hSw); go_simp; try with_reducible rfl)
      simp only [Act.put, List.setIfInBounds_toArray, List.set_cons_zero, List.set_cons_succ]
      refine wpAnyH_take (i := 2) (oi := { dst := some 38, op := Op.move (Operand.tmp 10), type := 3, pos := "law.go:158", after := #[], guard := none }) (v := ?_) rfl (by kernel_rfl) (by kernel_rfl) (by kernel_rfl) (fun _ _ _ h => h) (Or.inl ⟨by rfl, ?_⟩) (by assumption) ?_
      rotate_left
      · (intro wz hSw; (try dsimp only at hSw); go_simp; try with_reducible rfl)
      simp only [Act.put, List.setIfInBounds_toArray, List.set_cons_zero, List.set_cons_succ]
      refine wpAnyH_take (i := 3) (oi := { dst := some 39, op := Op.fieldAddr 37 (Operand.tmp 7) 0, type := 0, pos := "law.go:158", after := #[], guard := none }) (v := ?_) rfl (by kernel_rfl) (by kernel_rfl) (by kernel_rfl) (fun _ _ _ h => h) (Or.inl ⟨by rfl, ?_⟩) (by assumption) ?_
      rotate_left
      · (intro wz hSw; (try dsimp only at hSw); go_simp; try with_reducible rfl)
      simp only [Act.put, List.setIfInBounds_toArray, List.set_cons_zero, List.set_cons_succ]
      refine wpAnyH_take (i := 4) (oi := { dst := some 40, op := Op.load 25 (Operand.tmp 39), type := 25, pos := "law.go:158", after := #[{ on := 3, ground := Ground.data }], guard := none }) (v := ?_) rfl (by kernel_rfl) (by kernel_rfl) (by kernel_rfl) (fun _ _ _ h => h) (Or.inl ⟨by rfl, ?_⟩) (by assumption) ?_
      rotate_left
      · (intro wz hSw; (try dsimp only at hSw); go_simp; try with_reducible rfl)
      simp only [Act.put, List.setIfInBounds_toArray, List.set_cons_zero, List.set_cons_succ]
      refine wpAnyH_take (i := 5) (oi := { dst := some 41, op := Op.move (Operand.tmp 10), type := 3, pos := "law.go:158", after := #[], guard := none }) (v := ?_) rfl (by kernel_rfl) (by kernel_rfl) (by kernel_rfl) (fun _ _ _ h => h) (Or.inl ⟨by rfl, ?_⟩) (by assumption) ?_
      rotate_left
      · (intro wz hSw; (try dsimp only at hSw); go_simp; try with_reducible rfl)
      simp only [Act.put, List.setIfInBounds_toArray, List.set_cons_zero, List.set_cons_succ]
      refine wpAnyH_take (i := 6) (oi := { dst := some 42, op := Op.indexAddr 25 (Operand.tmp 40) (Operand.tmp 41), type := 0, pos := "law.go:158", after := #[{ on := 4, ground := Ground.data }, { on := 5, ground := Ground.data }], guard := none }) (v := ?_) rfl (by kernel_rfl) (by kernel_rfl) (by kernel_rfl) (fun _ _ _ h => h) (Or.inl ⟨by rfl, ?_⟩) (by assumption) ?_
      rotate_left
      · (intro wz hSw; (try dsimp only at hSw); go_simp; try with_reducible rfl)
      simp only [Act.put, List.setIfInBounds_toArray, List.set_cons_zero, List.set_cons_succ]
      refine wpAnyH_take (i := 9) (oi := { dst := some 45, op := Op.move (Operand.tmp 10), type := 3, pos := "law.go:158", after := #[], guard := none }) (v := ?_) rfl (by kernel_rfl) (by kernel_rfl) (by kernel_rfl) (fun _ _ _ h => h) (Or.inl ⟨by rfl, ?_⟩) (by assumption) ?_
      rotate_left
      · (intro wz hSw; (try dsimp only at hSw); go_simp; try with_reducible rfl)
      simp only [Act.put, List.setIfInBounds_toArray, List.set_cons_zero, List.set_cons_succ]
      refine wpAnyH_take (i := 10) (oi := { dst := some 46, op := Op.binOp BinOp.rem 3 (Operand.tmp 45) (Operand.const (Value.int IntKind.i64 3)) 3, type := 3, pos := "law.go:158", after := #[{ on := 9, ground := Ground.data }], guard := none }) (v := ?_) rfl (by kernel_rfl) (by kernel_rfl) (by kernel_rfl) (fun _ _ _ h => h) (Or.inl ⟨by rfl, ?_⟩) (by assumption) ?_
      rotate_left
      · (intro wz hSw; (try dsimp only at hSw); go_simp; try with_reducible rfl)
      simp only [Act.put, List.setIfInBounds_toArray, List.set_cons_zero, List.set_cons_succ]
      refine wpAnyH_ready (rs := [7]) (by kernel_rfl) (by simp) ?_
      refine AllReadyH.cons (o := { dst := some 43, op := Op.load 3 (Operand.tmp 42), type := 3, pos := "law.go:158", after := #[{ on := 6, ground := Ground.data }], guard := none }) rfl (fun K hK => ?_) ?_
      · go_simp
        refine hK.out _ _ ?_ (fun hHeld2 => ?_)
        · (try dsimp only); first | with_reducible exact p0 | exact p0 | exact pS _
        clear hK K
        try simp only [Act.put, List.setIfInBounds_toArray, List.set_cons_zero, List.set_cons_succ]
        refine wpAnyH_take (i := 8) (oi := { dst := some 44, op := Op.binOp BinOp.add 3 (Operand.tmp 43) (Operand.const (Value.int IntKind.i64 1)) 3, type := 3, pos := "law.go:158", after := #[{ on := 7, ground := Ground.data }], guard := none }) (v := ?_) rfl (by kernel_rfl) (by kernel_rfl) (by kernel_rfl) (fun _ _ _ h => h) (Or.inl ⟨by rfl, ?_⟩) (by assumption) ?_
        rotate_left
        · (intro wz hSw; (try dsimp only at hSw); go_simp; try with_reducible rfl)
        simp only [Act.put, List.setIfInBounds_toArray, List.set_cons_zero, List.set_cons_succ]
        refine wpAnyH_take (i := 11) (oi := { dst := some 47, op := Op.binOp BinOp.add 3 (Operand.tmp 44) (Operand.tmp 46) 3, type := 3, pos := "law.go:158", after := #[{ on := 8, ground := Ground.data }, { on := 10, ground := Ground.data }], guard := none }) (v := ?_) rfl (by kernel_rfl) (by kernel_rfl) (by kernel_rfl) (fun _ _ _ h => h) (Or.inl ⟨by rfl, ?_⟩) (by assumption) ?_
        rotate_left
        · (intro wz hSw; (try dsimp only at hSw); go_simp; try with_reducible rfl)
        simp only [Act.put, List.setIfInBounds_toArray, List.set_cons_zero, List.set_cons_succ]
        refine wpAnyH_take (i := 12) (oi := { dst := some 48, op := Op.indexAddr 25 (Operand.tmp 37) (Operand.tmp 38), type := 0, pos := "law.go:158", after := #[{ on := 1, ground := Ground.data }, { on := 2, ground := Ground.data }, { on := 0, ground := Ground.phase }, { on := 1, ground := Ground.phase }, { on := 2, ground := Ground.phase }, { on := 3, ground := Ground.phase }, { on := 4, ground := Ground.phase }, { on := 5, ground := Ground.phase }, { on := 6, ground := Ground.phase }, { on := 7, ground := Ground.phase }, { on := 8, ground := Ground.phase }, { on := 9, ground := Ground.phase }, { on := 10, ground := Ground.phase }, { on := 11, ground := Ground.phase }], guard := none }) (v := ?_) rfl (by kernel_rfl) (by kernel_rfl) (by kernel_rfl) (fun _ _ _ h => h) (Or.inl ⟨by rfl, ?_⟩) (by assumption) ?_
        rotate_left
        · (intro wz hSw; (try dsimp only at hSw); go_simp; try with_reducible rfl)
        simp only [Act.put, List.setIfInBounds_toArray, List.set_cons_zero, List.set_cons_succ]
        refine wpAnyH_ready (rs := [13]) (by kernel_rfl) (by simp) ?_
        refine AllReadyH.cons (o := { dst := none, op := Op.store 3 (Operand.tmp 48) (Operand.tmp 47), type := 0, pos := "law.go:158", after := #[{ on := 12, ground := Ground.data }, { on := 11, ground := Ground.data }, { on := 0, ground := Ground.phase }, { on := 1, ground := Ground.phase }, { on := 2, ground := Ground.phase }, { on := 3, ground := Ground.phase }, { on := 4, ground := Ground.phase }, { on := 5, ground := Ground.phase }, { on := 6, ground := Ground.phase }, { on := 7, ground := Ground.phase }, { on := 8, ground := Ground.phase }, { on := 9, ground := Ground.phase }, { on := 10, ground := Ground.phase }, { on := 11, ground := Ground.phase }], guard := none }) rfl (fun K hK => ?_) ?_
        · go_simp
          refine hK.out _ _ ?_ (fun hHeld2 => ?_)
          · (try dsimp only); first | with_reducible exact p0 | exact p0 | exact pS _
          clear hK K
          try simp only [Act.put, List.setIfInBounds_toArray, List.set_cons_zero, List.set_cons_succ]
          refine wpAnyH_done (by kernel_rfl) ?_ _
          refine NoPanic.normal ?_
          go_wp2_with fail
          exact ⟨⟨k + 1, _, by go_num, by omega, HN.out _⟩, by simp [intOf]; omega⟩
        exact AllReadyH.nil
      exact AllReadyH.nil
    · have i1 : ¬ (k : Int) < (np : Int) := by omega
      clear hPr hkp hl
      have hnf : ∀ wz, Sem.run Try.prog (binOp BinOp.eql 40 (.func (.func 32) #[] #[.pointer (some ⟨wc.heap.size + 1 + 1, 0, none⟩), .pointer (some ⟨wc.heap.size + 1, 0, none⟩)]) .nilFunc) wz = .ok (.bool false) wz := fun wz => by kernel_rfl
      obtain rfl : k = np := by omega
      have n3 : ¬ w4.heap.size = 0 := by have := HE.out.sz; omega
      have HQ : Hid (wr.cell? ⟨wc.heap.size + 1, 0, none⟩ = some (.int .i64 V) ∧ wr.cell? ⟨wc.heap.size + 1 + 1, 0, none⟩ = some (.slice ea len ec) ∧ SeenN wr ea len xs ∧ SeenN wr ap k lp ∧ wc.heap.size + 1 + 1 < wr.heap.size) := by
        have hR := HR.out
        have hE := HE.out
        have hcw : cb + 1 < wc.heap.size := blk_lt HP2.out.bk
        have hlt : ∀ i, (Value.slice va k vc).ownBlock = some i → i < cb := hR.1.lt
        exact ⟨hR.2.cell hE.bw (fun e => by have := hlt _ e; simp at this; omega), hR.2.cell hE.bs (fun e => by have := hlt _ e; simp at this; omega), hE.sn.kept hR.2 (fun x hx h0 hb e => by have := hlt _ e; have := hE.lo x hx h0; omega), HS.out.1.more hR.1.kp, Nat.lt_of_lt_of_le hE.sz hR.2.size⟩
      go_wp2_with fail
      refine wp_loop (fun a' w' => ∃ (r rb : Nat) (ds : List Deferred) (z12 z51 z52 z53 z54 z55 z86 z87 z88 z89 z90 z91 z92 z93 z94 z95 z96 z97 z98 z99 : Value), a' = { tmps := #[.agg #[.slice ap k cp, .slice ad nd cd], .int .i64 V, .int .i64 st, .pointer (some ⟨s0, 0, none⟩), .pointer (some ⟨s0 + 1, 0, none⟩), .pointer (some ⟨s0 + 1 + 1, 0, none⟩), .pointer (some ⟨s0 + 1 + 1 + 1, 0, none⟩), .pointer (some ⟨cb, 0, none⟩), .pointer (some ⟨cb + 1, 0, none⟩), .func (.func 32) #[] #[.pointer (some ⟨wc.heap.size + 1 + 1, 0, none⟩), .pointer (some ⟨wc.heap.size + 1, 0, none⟩)], .int .i64 (k : Int), .pointer (some ⟨rb, 0, none⟩), z12, undef, undef, u15, u16, u17, u18, u19, u20, u21, u22, u23, u24, u25, .agg #[.slice va k vc, .slice ua nd uc], .int .i64 V, .func (.func 32) #[] #[.pointer (some ⟨wc.heap.size + 1 + 1, 0, none⟩), .pointer (some ⟨wc.heap.size + 1, 0, none⟩)], .int .i64 (k : Int), .pointer (some ⟨cb, 0, none⟩), .slice va k vc, .int .i64 (k : Int), .bool false, u34, u35, u36, u37, u38, u39, u40, u41, u42, u43, u44, u45, u46, u47, u48, .func (.func 32) #[] #[.pointer (some ⟨wc.heap.size + 1 + 1, 0, none⟩), .pointer (some ⟨wc.heap.size + 1, 0, none⟩)], .bool false, z51, z52, z53, z54, z55, undef, undef, undef, undef, undef, undef, undef, undef, undef, undef, undef, undef, undef, undef, undef, undef, undef, undef, undef, undef, undef, undef, undef, undef, undef, undef, undef, undef, undef, undef, z86, z87, z88, z89, z90, z91, z92, z93, z94, z95, z96, z97, z98, z99], defers := ds } ∧ r ≤ 3 ∧ wr.heap.size ≤ rb ∧ w'.heap[rb]? = some (.cells #[.int .i64 (r : Int)] 3 (0, 0)) ∧ Below wr.heap.size wr w' ∧ Marks wr.heap.size w' ds) (fun a' w' => leftR a' w') ?_ ?_
      · exact ⟨0, _, [], _, _, _, _, _, _, _, _, _, _, _, _, _, _, _, _, _, _, _, _,  rfl, by omega, Nat.le_refl _, blk_new _ _ _ rfl, (Below.refl _ wr).alloc (Nat.le_refl _) _, ⟨[], rfl, List.nodup_nil, fun D h => by cases h⟩⟩
      · rintro _ W ⟨r, rb, ds, z12, z51, z52, z53, z54, z55, z86, z87, z88, z89, z90, z91, z92, z93, z94, z95, z96, z97, z98, z99, rfl, hr3, hrb, hbr, hBl, hM⟩
        have HM : Hid (wr.heap.size ≤ rb ∧ W.heap[rb]? = some (.cells #[.int .i64 (r : Int)] 3 (0, 0)) ∧ Below wr.heap.size wr W ∧ Marks wr.heap.size W ds) := ⟨hrb, hbr, hBl, hM⟩
        have cr : W.cell? ⟨rb, 0, none⟩ = some (.int .i64 (r : Int)) := (blk_cell hbr 0).trans rfl
        clear hrb hbr hBl hM
        by_cases hr : r < 3
        · have j1 : (r : Int) < 3 := by omega
          go_wp2_with fail
          obtain ⟨W0, hW0⟩ : ∃ W0, W.alloc (.cells #[.int .i64 0] 3) = W0 := ⟨_, rfl⟩
          have HW : Hid (W0.heap[W.heap.size]? = some (.cells #[.int .i64 0] 3 (0, 0)) ∧ W0.heap.size = W.heap.size + 1 ∧ Below wr.heap.size wr W0 ∧ Below W.heap.size W W0) := by
            rw [← hW0]
            exact ⟨blk_new _ _ _ rfl, by simp, HM.out.2.2.1.alloc HM.out.2.2.1.size _, (Below.refl _ W).alloc (Nat.le_refl _) _⟩
          rw [hW0]
          clear hW0
          refine (wpIn_wide (n := 6)).1 ?_
          refine wpIn_rangeFunc_ownG rfl (by omega) (gf := 32) (lb := #[.pointer (some ⟨wc.heap.size + 1 + 1, 0, none⟩), .pointer (some ⟨wc.heap.size + 1, 0, none⟩)]) rfl trivial (enters_of Try.func32 (by kernel_rfl) rfl)
            (each_stops 5 (by omega) (wc.heap.size + 1 + 1) (wc.heap.size + 1) wr.heap.size ea len ec xs V HS.out.2.2.1.2 HQ.out.2.2.1.len (by rcases HX.out with ⟨_, e, _⟩ | ⟨_, e, _⟩ <;> omega) W0 (by have := HQ.out; have := HW.out.2.2.1.size; omega) (by have := HQ.out; omega) HW.out.2.2.1.size
              ((HW.out.2.2.1.cell (p := ⟨wc.heap.size + 1 + 1, 0, none⟩) HQ.out.2.2.2.2).trans HQ.out.2.1) ((HW.out.2.2.1.cell (p := ⟨wc.heap.size + 1, 0, none⟩) (by have := HQ.out.2.2.2.2; simp; omega)).trans HQ.out.1)
              (fun h => by
                obtain ⟨b, off, e, hb, hcc⟩ := HQ.out.2.2.1.ex h
                exact ⟨b, off, e, hb, fun j y hy => (HW.out.2.2.1.cell (p := ⟨b, off + j, none⟩) hb).trans (hcc j y hy)⟩))
            belowK_t (belowK_b HW.out.2.2.1.size) (Below.refl _ _) (fun _ => rfl)
            (fun pre X => (X.heap[W.heap.size]? = some (.cells #[.int .i64 (pre.length : Int)] 3 (0, 0)) ∧ pre = (prs V xs).take pre.length) ∧ Below W.heap.size W X)
            (fun c pre X => ((c = .exit 4 ∧ r = 1 ∧ (pre.length : Int) = st ∧ X.heap[W.heap.size]? = some (.cells #[.int .i64 (pre.length : Int)] 3 (0, 0))) ∧ Below W.heap.size W X) ∨ (c = .ret ∧ pre ≠ (prs V xs).take pre.length))
            (OwnFrom.and (Own.from (fun s A B row hs hg hr => ⟨(grownBy_keeps_cells hg hr hs.1 rfl).trans hs.1, hs.2⟩) _) (ownFrom_below (Nat.le_refl _) (by have := HW.out.2.1; omega)))
            (fun c s A B row hs hg hr => by
              rcases hs with ⟨⟨h1, h2, h3, h4⟩, h5⟩ | hs
              · exact .inl ⟨⟨h1, h2, h3, (grownBy_keeps_cells hg (fun q e => (hr q e).2) h4 rfl).trans h4⟩, ownFrom_below (β := List (Int × Int)) (n₀ := W.heap.size) (B := W0.heap.size) (w₀ := W) (Nat.le_refl _) (by have := HW.out.2.1; omega) s A B row h5 hg hr⟩
              · exact .inr hs)
            ⟨⟨HW.out.1, rfl⟩, HW.out.2.2.2⟩
            (fun x => { tmps := #[.agg #[.slice ap k cp, .slice ad nd cd], .int .i64 V, .int .i64 st, .pointer (some ⟨s0, 0, none⟩), .pointer (some ⟨s0 + 1, 0, none⟩), .pointer (some ⟨s0 + 1 + 1, 0, none⟩), .pointer (some ⟨s0 + 1 + 1 + 1, 0, none⟩), .pointer (some ⟨cb, 0, none⟩), .pointer (some ⟨cb + 1, 0, none⟩), .func (.func 32) #[] #[.pointer (some ⟨wc.heap.size + 1 + 1, 0, none⟩), .pointer (some ⟨wc.heap.size + 1, 0, none⟩)], .int .i64 (k : Int), .pointer (some ⟨rb, 0, none⟩), .pointer (some ⟨W.heap.size, 0, none⟩), .int .i64 x.1, .int .i64 x.2, u15, u16, u17, u18, u19, u20, u21, u22, u23, u24, u25, .agg #[.slice va k vc, .slice ua nd uc], .int .i64 V, .func (.func 32) #[] #[.pointer (some ⟨wc.heap.size + 1 + 1, 0, none⟩), .pointer (some ⟨wc.heap.size + 1, 0, none⟩)], .int .i64 (k : Int), .pointer (some ⟨cb, 0, none⟩), .slice va k vc, .int .i64 (k : Int), .bool false, u34, u35, u36, u37, u38, u39, u40, u41, u42, u43, u44, u45, u46, u47, u48, .func (.func 32) #[] #[.pointer (some ⟨wc.heap.size + 1 + 1, 0, none⟩), .pointer (some ⟨wc.heap.size + 1, 0, none⟩)], .bool false, .int .i64 (r : Int), .bool true, z53, z54, .func (.func 32) #[] #[.pointer (some ⟨wc.heap.size + 1 + 1, 0, none⟩), .pointer (some ⟨wc.heap.size + 1, 0, none⟩)], .int .i64 x.1, .int .i64 x.2, undef, undef, undef, undef, undef, undef, undef, undef, undef, undef, undef, undef, undef, undef, undef, undef, undef, undef, undef, undef, undef, undef, undef, undef, undef, undef, undef, undef, z86, z87, z88, z89, z90, z91, z92, z93, z94, z95, z96, z97, z98, z99], defers := [] }) ?assign ?body ?done ?stop
          case assign =>
            intro l x X K hK
            gi_wp2
            exact hK
          case body =>
            rintro l pre x X ⟨⟨hv, hpre⟩, hB⟩ hlen
            have hXr : Below wr.heap.size wr X := HM.out.2.2.1.trans (hB.mono HM.out.2.2.1.size)
            have hgl : len = k ∧ xs = lp := by rcases HX.out with ⟨_, e1, e2⟩ | ⟨_, e1, _⟩; exact ⟨e1, e2⟩; omega
            obtain ⟨b, off, y, hap, he, hc1⟩ := HQ.out.2.2.2.1.at (k := pre.length) (by omega)
            have hb1 : b < wr.heap.size := by
              obtain ⟨b', off', e1, hb', _⟩ := HQ.out.2.2.2.1.ex (by omega)
              rw [hap] at e1
              injection e1 with e1
              injection e1 with e1 e2
              subst e1
              exact hb'
            have HE1 : Hid (xs[pre.length]? = some y) := by rw [hgl.2]; exact he
            have gy : X.cell? ⟨b, off + pre.length, none⟩ = some (.int .i64 y) := (hXr.cell (p := ⟨b, off + pre.length, none⟩) hb1).trans hc1
            have g1 : X.cell? ⟨W.heap.size, 0, none⟩ = some (.int .i64 (pre.length : Int)) := (blk_cell hv 0).trans rfl
            have f1 := blk_free hv 0
            have g2 : X.cell? ⟨cb + 1, 0, none⟩ = some (.int .i64 (len : Int)) := (hXr.cell (p := ⟨cb + 1, 0, none⟩) (blk_lt HR.out.1.bk)).trans ((blk_cell HR.out.1.bk 0).trans rfl)
            have g3 : X.cell? ⟨rb, 0, none⟩ = some (.int .i64 (r : Int)) := (hB.cell (p := ⟨rb, 0, none⟩) (blk_lt HM.out.2.1)).trans cr
            have g4 : X.cell? ⟨s0 + 1 + 1, 0, none⟩ = some (.int .i64 st) := (hXr.cell (p := ⟨s0 + 1 + 1, 0, none⟩) (blk_lt HR.out.1.b2)).trans ((blk_cell HR.out.1.b2 0).trans rfl)
            have g5 : X.cell? ⟨s0 + 1, 0, none⟩ = some (.int .i64 V) := (hXr.cell (p := ⟨s0 + 1, 0, none⟩) (blk_lt HR.out.1.b1)).trans ((blk_cell HR.out.1.b1 0).trans rfl)
            have g6 : X.cell? ⟨s0, 0, none⟩ = some (.slice (some ⟨b, off, none⟩) k cp) := by rw [← hap]; exact (hXr.cell (p := ⟨s0, 0, none⟩) (blk_lt HR.out.1.b0)).trans ((blk_cell HR.out.1.b0 0).trans rfl)
            have g7 : X.cell? ⟨s0 + 1 + 1 + 1, 0, none⟩ = some (.bool false) := (hXr.cell (p := ⟨s0 + 1 + 1 + 1, 0, none⟩) (blk_lt HR.out.1.b3)).trans ((blk_cell HR.out.1.b3 0).trans rfl)
            have f7 : X.frozen? ⟨s0 + 1 + 1 + 1, 0, none⟩ = false := (hXr.frozen (p := ⟨s0 + 1 + 1 + 1, 0, none⟩) (blk_lt HR.out.1.b3)).trans (blk_free HR.out.1.b3 0)
            have hM : ∀ wz, CallsIn (Fence.wide.inRound l) (6 - 1 - 1 - 1) Try.prog 17 #[.int .i64 y, .int .i64 V] wz fun e w' => e = .returned (.int .i64 (modV y V)) ∧ w' = wz := fun wz => CallsIn.inRound l (callsIn_wide.2 (refMod_any y V wz HS.out.2.2.1.2))
            have HV : Hid (X.heap[W.heap.size]? = some (.cells #[.int .i64 (pre.length : Int)] 3 (0, 0)) ∧ pre = (prs V xs).take pre.length ∧ Below W.heap.size W X) := ⟨hv, hpre, hB⟩
            have j2 : ¬ (pre.length : Int) ≥ (len : Int) := by omega
            have j3 : (pre.length : Int) < (k : Int) := by omega
            have j4 : ¬ k = 0 := by omega
            clear hv hpre hB hXr hc1 hap hgl he
            dsimp only
            have hf17 : Fence.wide.fn 17 := trivial
            obtain ⟨x1, x2⟩ := x
            dsimp only
            have HD : Hid (∀ nq, KeepsOthers X (X.drewN nq) ∧ Below W.heap.size W (X.drewN nq) ∧ Below wr.heap.size X (X.drewN nq) ∧ (X.drewN nq).heap = X.heap ∧ wr.heap.size ≤ W.heap.size ∧ s0 + 1 + 1 + 1 < wr.heap.size) := fun nq => ⟨drewN_others X nq, HV.out.2.2.trans (drewN_below _ X nq HV.out.2.2.size), drewN_below _ X nq (Nat.le_trans HM.out.2.2.1.size HV.out.2.2.size), drewN_heap X nq, HM.out.2.2.1.size, blk_lt HR.out.1.b3⟩
            by_cases hx1 : x1 = (pre.length : Int)
            · by_cases hx2 : x2 = modV y V
              · subst hx1 hx2
                gi_upto_region 19 with fail
                refine region_quiet_round (by kernel_rfl) (by kernel_rfl) (by kernel_rfl) ?_
                repeat (gi_big_quiet_step ((refine (hM _).mono ?_; rintro _ _ ⟨rfl, rfl⟩; exact ⟨rfl, _, rfl⟩)))
                refine wpQuietIn_nil ?_
                intro _ hw'
                obtain ⟨nq, hw''⟩ := hw'
                subst hw''
                have e1 := HD.out nq
                have hset : ((X.drewN nq).setCell ⟨W.heap.size, 0, none⟩ (.int .i64 ((pre.length : Int) + 1))).heap[W.heap.size]? = some (.cells #[.int .i64 ((pre ++ [((pre.length : Int), modV y V)]).length : Int)] 3 (0, 0)) := by
                  rw [List.length_append]
                  exact (blk_set (i := 0) (by rw [e1.2.2.2.1]; exact HV.out.1) _).trans (by simp)
                have HO : Hid (KeepsFrom W0.heap.size X ((X.drewN nq).setCell ⟨W.heap.size, 0, none⟩ (.int .i64 ((pre.length : Int) + 1))) ∧ Below wr.heap.size X ((X.drewN nq).setCell ⟨W.heap.size, 0, none⟩ (.int .i64 ((pre.length : Int) + 1))) ∧ Below W.heap.size W ((X.drewN nq).setCell ⟨W.heap.size, 0, none⟩ (.int .i64 ((pre.length : Int) + 1))) ∧ ((X.drewN nq).setCell ⟨W.heap.size, 0, none⟩ (.int .i64 ((pre.length : Int) + 1))).heap[W.heap.size]? = some (.cells #[.int .i64 ((pre ++ [((pre.length : Int), modV y V)]).length : Int)] 3 (0, 0)) ∧ pre ++ [((pre.length : Int), modV y V)] = (prs V xs).take (pre ++ [((pre.length : Int), modV y V)]).length) :=
                  ⟨(e1.1.trans (KeepsOthers.setCell _ _ _)).from _, e1.2.2.1.setCell (p := ⟨W.heap.size, 0, none⟩) e1.2.2.2.2.1 _, e1.2.1.setCell (p := ⟨W.heap.size, 0, none⟩) (Nat.le_refl _) _, hset, pair_next HV.out.2.1 HE1.out⟩
                have hne : ¬ rb = W.heap.size := by have := blk_lt HM.out.2.1; omega
                have hne2 : ¬ s0 + 1 + 1 = W.heap.size := by omega
                clear hset e1
                by_cases hr1 : (r : Int) = 1
                · by_cases hst : (pre.length : Int) + 1 = st
                  · subst hst
                    gi_wp2
                    exact ⟨HO.out.1, .inl ⟨⟨rfl, by omega, by rw [List.length_append]; simp, HO.out.2.2.2.1⟩, HO.out.2.2.1⟩⟩
                  · gi_wp2
                    exact ⟨HO.out.1, HO.out.2.1, ⟨HO.out.2.2.2.1, HO.out.2.2.2.2⟩, HO.out.2.2.1⟩
                · gi_wp2
                  exact ⟨HO.out.1, HO.out.2.1, ⟨HO.out.2.2.2.1, HO.out.2.2.2.2⟩, HO.out.2.2.1⟩
              · subst hx1
                gi_upto_region 19 with fail
                refine region_quiet_round (by kernel_rfl) (by kernel_rfl) (by kernel_rfl) ?_
                repeat (gi_big_quiet_step ((refine (hM _).mono ?_; rintro _ _ ⟨rfl, rfl⟩; exact ⟨rfl, _, rfl⟩)))
                refine wpQuietIn_nil ?_
                intro _ hw'
                obtain ⟨nq, hw''⟩ := hw'
                subst hw''
                have e1 := HD.out nq
                gi_wp2
                exact ⟨(e1.1.trans (KeepsOthers.setCell _ _ _)).from _, .inr ⟨rfl, pair_other HV.out.2.1 HE1.out (by simp [hx2])⟩⟩
            · have hb1 : (x1 != (pre.length : Int)) = true := by simp [hx1]
              have hb2 : (x1 == (pre.length : Int)) = false := by simp [hx1]
              have hb3 : decide (x1 = (pre.length : Int)) = false := by simp [hx1]
              gi_upto_region 19 with fail
              refine region_quiet_round (by kernel_rfl) (by kernel_rfl) (by kernel_rfl) ?_
              repeat (gi_big_quiet_step ((refine (hM _).mono ?_; rintro _ _ ⟨rfl, rfl⟩; exact ⟨rfl, _, rfl⟩)))
              refine wpQuietIn_nil ?_
              intro _ hw'
              obtain ⟨nq, hw''⟩ := hw'
              subst hw''
              have e1 := HD.out nq
              gi_wp2
              exact ⟨(e1.1.trans (KeepsOthers.setCell _ _ _)).from _, .inr ⟨rfl, pair_other HV.out.2.1 HE1.out (by simp [hx1])⟩⟩
          case done =>
            rintro D ys X hD rfl ⟨⟨hv, -⟩, hB⟩ hK
            have hXr : Below wr.heap.size wr X := HM.out.2.2.1.trans (hB.mono HM.out.2.2.1.size)
            have g1 : X.cell? ⟨W.heap.size, 0, none⟩ = some (.int .i64 (len : Int)) := by rw [blk_cell hv 0, prs_len, ← HQ.out.2.2.1.len]; rfl
            have g2 : X.cell? ⟨cb + 1, 0, none⟩ = some (.int .i64 (len : Int)) := (hXr.cell (p := ⟨cb + 1, 0, none⟩) (blk_lt HR.out.1.bk)).trans ((blk_cell HR.out.1.bk 0).trans rfl)
            have g3 : X.cell? ⟨rb, 0, none⟩ = some (.int .i64 (r : Int)) := (hB.cell (p := ⟨rb, 0, none⟩) (blk_lt HM.out.2.1)).trans cr
            have HG : Hid (Below wr.heap.size wr X ∧ Marks wr.heap.size X ({ target := .collected D, args := #[] } :: ds)) := ⟨hXr, HM.out.2.2.2.cons hB HM.out.2.2.1.size (by have := HW.out.2.1; omega) hK⟩
            clear hXr hv hB hK
            dsimp only
            go_wp2_with fail
            exact ⟨⟨r + 1, X.heap.size, _, _, _, _, _, _, _, _, _, _, _, _, _, _, _, _, _, _, _, _, _,  rfl, by omega, HG.out.1.size, by rw [show ((r + 1 : Nat) : Int) = (r : Int) + 1 by omega]; exact blk_new _ _ _ rfl, HG.out.1.alloc HG.out.1.size _, HG.out.2.to (fun D _ h => blk_old h _)⟩, by
              rw [leftR_eq (p := ⟨X.heap.size, 0, none⟩) rfl ((blk_cell (blk_new X _ _ rfl) 0).trans rfl), leftR_eq (p := ⟨rb, 0, none⟩) rfl cr]
              simp [intOf]
              omega⟩
          case stop =>
            rintro D c pre X hD hpre (⟨⟨rfl, hr1, hst, hv⟩, hB⟩ | ⟨rfl, hne⟩) hK
            · have hXr : Below wr.heap.size wr X := HM.out.2.2.1.trans (hB.mono HM.out.2.2.1.size)
              have g1 : X.cell? ⟨W.heap.size, 0, none⟩ = some (.int .i64 st) := by rw [blk_cell hv 0, ← hst]; rfl
              have g2 : X.cell? ⟨cb + 1, 0, none⟩ = some (.int .i64 (len : Int)) := (hXr.cell (p := ⟨cb + 1, 0, none⟩) (blk_lt HR.out.1.bk)).trans ((blk_cell HR.out.1.bk 0).trans rfl)
              have g3 : X.cell? ⟨rb, 0, none⟩ = some (.int .i64 (r : Int)) := (hB.cell (p := ⟨rb, 0, none⟩) (blk_lt HM.out.2.1)).trans cr
              have g4 : X.cell? ⟨s0 + 1 + 1, 0, none⟩ = some (.int .i64 st) := (hXr.cell (p := ⟨s0 + 1 + 1, 0, none⟩) (blk_lt HR.out.1.b2)).trans ((blk_cell HR.out.1.b2 0).trans rfl)
              have HG : Hid (Below wr.heap.size wr X ∧ Marks wr.heap.size X ({ target := .collected D, args := #[] } :: ds)) := ⟨hXr, HM.out.2.2.2.cons hB HM.out.2.2.1.size (by have := HW.out.2.1; omega) hK⟩
              clear hXr hv hB hK hst
              subst hr1
              refine wpIn_wide.2 ?_
              dsimp only
              by_cases hsl : st = (len : Int)
              · subst hsl
                go_wp2_with fail
                exact ⟨⟨1 + 1, X.heap.size, _, _, _, _, _, _, _, _, _, _, _, _, _, _, _, _, _, _, _, _, _,  rfl, by omega, HG.out.1.size, by rw [show ((1 + 1 : Nat) : Int) = ((1 : Nat) : Int) + 1 by omega]; exact blk_new _ _ _ rfl, HG.out.1.alloc HG.out.1.size _, HG.out.2.to (fun D _ h => blk_old h _)⟩, by
                  rw [leftR_eq (p := ⟨X.heap.size, 0, none⟩) rfl ((blk_cell (blk_new X _ _ rfl) 0).trans rfl), leftR_eq (p := ⟨rb, 0, none⟩) rfl cr]
                  simp [intOf]⟩
              · go_wp2_with fail
                exact ⟨⟨1 + 1, X.heap.size, _, _, _, _, _, _, _, _, _, _, _, _, _, _, _, _, _, _, _, _, _,  rfl, by omega, HG.out.1.size, by rw [show ((1 + 1 : Nat) : Int) = ((1 : Nat) : Int) + 1 by omega]; exact blk_new _ _ _ rfl, HG.out.1.alloc HG.out.1.size _, HG.out.2.to (fun D _ h => blk_old h _)⟩, by
                  rw [leftR_eq (p := ⟨X.heap.size, 0, none⟩) rfl ((blk_cell (blk_new X _ _ rfl) 0).trans rfl), leftR_eq (p := ⟨rb, 0, none⟩) rfl cr]
                  simp [intOf]⟩
            · exact absurd hpre hne
        · have j1 : ¬ (r : Int) < 3 := by omega
          have cb3 : W.cell? ⟨s0 + 1 + 1 + 1, 0, none⟩ = some (.bool false) := (HM.out.2.2.1.cell (p := ⟨s0 + 1 + 1 + 1, 0, none⟩) (blk_lt HR.out.1.b3)).trans ((blk_cell HR.out.1.b3 0).trans rfl)
          have fb3 : W.frozen? ⟨s0 + 1 + 1 + 1, 0, none⟩ = false := (HM.out.2.2.1.frozen (p := ⟨s0 + 1 + 1 + 1, 0, none⟩) (blk_lt HR.out.1.b3)).trans (blk_free HR.out.1.b3 0)
          have HZ : Hid (Marks wr.heap.size (W.setCell ⟨s0 + 1 + 1 + 1, 0, none⟩ (.bool true)) ds) := HM.out.2.2.2.to (fun D hD h => blk_other h _ (by have := blk_lt HR.out.1.b3; omega))
          have HY : Hid ((W.setCell ⟨s0 + 1 + 1 + 1, 0, none⟩ (.bool true)).heap[s0 + 1 + 1 + 1]? = some (.cells #[.bool true] 4 (0, 0)) ∧ Below w.heap.size w (W.setCell ⟨s0 + 1 + 1 + 1, 0, none⟩ (.bool true)) ∧ wr.heap.size ≤ W.heap.size ∧ s0 + 1 + 1 + 1 < wr.heap.size ∧ w.heap.size ≤ wr.heap.size) := by
            have o := HR.out.1.o
            have b3 : W.heap[s0 + 1 + 1 + 1]? = some (.cells #[.bool false] 4 (0, 0)) := (HM.out.2.2.1.block _ (blk_lt HR.out.1.b3)).trans HR.out.1.b3
            exact ⟨(blk_set b3 _).trans rfl, ((HR.out.1.kp.below _ (Nat.le_refl _) (fun _ f => f.elim)).trans (HM.out.2.2.1.mono HR.out.1.kp.size)).setCell (p := ⟨s0 + 1 + 1 + 1, 0, none⟩) (by simp; omega) _, HM.out.2.2.1.size, blk_lt HR.out.1.b3, HR.out.1.kp.size⟩
          go_wp2_with fail
          obtain ⟨Ds, rfl, hnd, hall⟩ := HZ.out
          refine leaves_marks Ds _ hnd hall (by have := HY.out.2.2.1; simpa [World.setCell] using this) (fun w' hb => ⟨.bool true, results_one (q := 6) (ty := 4) (g := s0 + 1 + 1 + 1) rfl rfl ?_, rfl, HY.out.2.1.trans (hb.mono HY.out.2.2.2.2)⟩)
          have hbl : w'.heap[s0 + 1 + 1 + 1]? = some (.cells #[.bool true] 4 (0, 0)) := (hb.block _ HY.out.2.2.2.1).trans HY.out.1
          have hcl : w'.cell? ⟨s0 + 1 + 1 + 1, 0, none⟩ = some (.bool true) := (blk_cell hbl 0).trans rfl
          go_simp
end Go.Proofs.Ytlajblbfelcalaa
