import Derived.Test.YtdiabpoafennlabPkAR
import Derived.Test.YtdiabpoafennlabPkAB
import Derived.Test.YtdiabpoafennlabPkAK
import Derived.Test.YtdiabpoafennlabPkAD
import Derived.Test.YtdiabpoafennlabProg
import Derived.WalkKit
import Derived.WalkSpells
import Derived.WalkLawsBesides
import Derived.Deep.QuietTactic
import Derived.BigQuiet
import Derived.WalkMore
import Derived.Deep.RegionHeld3
import Derived.Deep.DeepCutAuto
/-! What the document's Play tells, with the memory that it lies in. -/
namespace Go.Proofs.Ytdiabpoafennlab.Rn
set_option linter.unusedVariables false
set_option maxRecDepth 20000
set_option linter.unusedSimpArgs false
open Go.RowKit Go.HeapKit Go.PlainOps

set_option maxHeartbeats 1600000 in
theorem RPlay_fam (a : Option Addr) (n c : Nat) (l : List Dd) (sa : Option Addr) (m sc : Nat) (st : List Bool) (pa : Option Addr) (k pc : Nat) (pk : List Int) (w : World) (hS : Seen w a n l) (hT : SeenV w sa m (bv' st)) (hP : SeenV w pa k (iv pk)) (hf : Fits (l.map Dd.loc)) :
    Calls Try.prog 8 #[.slice a n c, .slice sa m sc, .slice pa k pc] w fun e w' =>
      ∃ fa fc ma mc la lc, e = .returned (.tuple #[.agg #[.slice fa (finT l st pk).length fc, .int .i64 (madeT l st pk), .slice ma (mgT l st pk).length mc, .slice la (lkT l st pk).length lc], .int .i64 (refE l st pk)]) ∧
        AnsK w' w.heap.size (finT l st pk) (madeT l st pk) (mgT l st pk) (lkT l st pk) fa ma la ∧ Keeps None w w' := by
  have HS : Hid (Seen w a n l ∧ SeenV w sa m (bv' st) ∧ SeenV w pa k (iv pk) ∧ Fits (l.map Dd.loc)) := ⟨hS, hT, hP, hf⟩
  have hm := hT.len
  have hk := hP.len
  rw [bv_len] at hm
  rw [iv_len] at hk
  have HL : Hid (m = st.length ∧ k = pk.length) := ⟨hm, hk⟩
  clear hS hT hP hm hk hf
  have hb0 := blk_new w (.cells #[.slice none 0 0, .int .i64 0, .slice none 0 0, .slice none 0 0] 32) w.heap.size rfl
  have hkb := Keeps.alloc None w (.cells #[.slice none 0 0, .int .i64 0, .slice none 0 0, .slice none 0 0] 32)
  obtain ⟨db, hdb⟩ : ∃ db, db = w.heap.size := ⟨_, rfl⟩
  rw [← hdb] at hb0
  obtain ⟨E, hE⟩ : ∃ E, E = refE l st pk := ⟨_, rfl⟩
  rw [← hE]
  have HE : Hid (E = refE l st pk) := hE
  clear hE
  go_enter Try.func8, Try.ntmps8
  go_upto_region 1 with fail
  rw [← hdb]
  have HDB : Hid (db = w.heap.size) := hdb
  clear hdb
  generalize w.alloc (.cells #[.slice none 0 0, .int .i64 0, .slice none 0 0, .slice none 0 0] 32) = wa at *
  have HA : Hid (wa.heap[db]? = some (.cells #[.slice none 0 0, .int .i64 0, .slice none 0 0, .slice none 0 0] 32 (0, 0)) ∧ Keeps None w wa) := ⟨hb0, hkb⟩
  clear hb0 hkb
  go_wp2_with fail
  refine (rrefused_ok a n c l sa m sc st pa k pc pk wa (HS.out.1.more HA.out.2) HL.out.1 HL.out.2).mono ?_
  rintro e w1 ⟨rfl, hk1⟩
  rw [← HE.out]
  have HB : Hid (w1.heap[db]? = some (.cells #[.slice none 0 0, .int .i64 0, .slice none 0 0, .slice none 0 0] 32 (0, 0)) ∧ Keeps None w w1) := ⟨blk_kept HA.out.1 hk1 (fun f => f), HA.out.2.trans hk1 (fun _ f _ => f)⟩
  clear hk1 HA
  by_cases h0 : E = 0
  · subst h0
    go_wp2_with fail
    refine (whole_play a n c l sa m sc st pa k pc pk w1 (HS.out.1.more HB.out.2) (HS.out.2.1.more HB.out.2) (HS.out.2.2.1.more HB.out.2) HE.out.symm HS.out.2.2.2).mono ?_
    rintro e w3 ⟨pb, X, L, M, rfl, hM, hk3⟩
    obtain ⟨fa, fc, hL0, hfin⟩ := hM.told.final (refE_ok HE.out.symm).2.2.2
    obtain ⟨NF, hNF⟩ : ∃ N, N = (finT l st pk).length := ⟨_, rfl⟩
    obtain ⟨NM, hNM⟩ : ∃ N, N = madeT l st pk := ⟨_, rfl⟩
    obtain ⟨NG, hNG⟩ : ∃ N, N = (mgT l st pk).length := ⟨_, rfl⟩
    obtain ⟨NL, hNL⟩ : ∃ N, N = (lkT l st pk).length := ⟨_, rfl⟩
    have eF : finT l st pk = putsD l := by unfold finT; rw [if_pos HE.out.symm]
    have eM : madeT l st pk = (finPS l st pk).vs.length := by unfold madeT; rw [if_pos HE.out.symm]
    have eG : mgT l st pk = (finPS l st pk).mg := by unfold mgT; rw [if_pos HE.out.symm]
    have eL : lkT l st pk = (finPS l st pk).lk := by unfold lkT; rw [if_pos HE.out.symm]
    have c7 := hM.c7
    have c8 := hM.c8
    have c9 := hM.c9
    have c10 := hM.c10
    rw [hL0, ← eF, ← hNF] at c7
    rw [← eM, ← hNM] at c8
    rw [← eG, ← hNG] at c9
    rw [← eL, ← hNL] at c10
    have HF : Hid (SeenV w3 fa NF (iv (finT l st pk)) ∧ SeenL w3 X.la NL (lkT l st pk) ∧ SeenM w3 X.ma (mgT l st pk) ∧ Keeps None w w3 ∧ w3.heap[db]? = some (.cells #[.slice none 0 0, .int .i64 0, .slice none 0 0, .slice none 0 0] 32 (0, 0)) ∧ RFin w3 w1.heap.size pb ⟨-1, 0, pk, pa, pc⟩ X L M (finPS l st pk) ∧ db < w1.heap.size ∧ L 0 = .slice fa NF fc) := by
      refine ⟨by rw [hNF, eF]; exact hfin, by rw [hNL, eL]; exact hM.told.looks, by rw [eG]; exact hM.told.merges, HB.out.2.trans hk3 (fun _ f _ => f), blk_kept HB.out.1 hk3 (fun f => f), hM, blk_lt HB.out.1, by rw [hL0, hNF, eF]⟩
    have HN : Hid (NF = (finT l st pk).length ∧ NM = madeT l st pk ∧ NG = (mgT l st pk).length ∧ NL = (lkT l st pk).length) := ⟨hNF, hNM, hNG, hNL⟩
    have g0 : w3.cell? ⟨db, 0, none⟩ = some (.slice none 0 0) := blk_cell HF.out.2.2.2.2.1 0
    have g1 : w3.cell? ⟨db, 1, none⟩ = some (.int .i64 0) := blk_cell HF.out.2.2.2.2.1 1
    have g2 : w3.cell? ⟨db, 2, none⟩ = some (.slice none 0 0) := blk_cell HF.out.2.2.2.2.1 2
    have g3 : w3.cell? ⟨db, 3, none⟩ = some (.slice none 0 0) := blk_cell HF.out.2.2.2.2.1 3
    have f0 := blk_free HF.out.2.2.2.2.1 0
    have f1 := blk_free HF.out.2.2.2.2.1 1
    have f2 := blk_free HF.out.2.2.2.2.1 2
    have f3 := blk_free HF.out.2.2.2.2.1 3
    clear hM hk3 hL0 hfin hNF hNM hNG hNL eF eM eG eL
    go_wp2_with fail
    refine views_end (u := .int .i64 0) 6 7 rfl rfl HF.out.2.2.2.2.1 rfl rfl rfl (.slice fa NF fc) (.int .i64 NM) (.slice X.ma NG X.mc) (.slice X.la NL X.lc) (fun w' hk => ?_)
    obtain ⟨k1, k2, k3, k4, k5, k6, k7, k8⟩ := HF.out
    have hM := k6.told.kept hk (fun i hi e => by subst e; exact absurd k7 (Nat.not_lt.2 hi))
    have eF : finT l st pk = putsD l := by unfold finT; rw [if_pos HE.out.symm]
    have eG : mgT l st pk = (finPS l st pk).mg := by unfold mgT; rw [if_pos HE.out.symm]
    have eL : lkT l st pk = (finPS l st pk).lk := by unfold lkT; rw [if_pos HE.out.symm]
    refine ⟨fa, fc, X.ma, X.mc, X.la, X.lc, by rw [← HN.out.1, ← HN.out.2.1, ← HN.out.2.2.1, ← HN.out.2.2.2], ⟨fun T w2 hk2 hT2 => ?_⟩, k4.trans hk (fun i e hi => by have := HDB.out; omega)⟩
    have h5 := hM.kept2 hk2 (fun i hi hlt hs => by
      have h9 : w.heap.size ≤ w1.heap.size := HB.out.2.size
      rcases hT2 i hs with h | h <;> omega)
    obtain ⟨fa2, fc2, hL0, hfin⟩ := h5.final (refE_ok HE.out.symm).2.2.2
    rw [k8] at hL0
    injection hL0 with e1 e2 e3
    subst e1
    exact ⟨by rw [eF]; exact hfin, by rw [eL]; exact h5.looks, by rw [eG]; exact h5.merges⟩
  · have hf : (E != 0) = true := by simp [h0]
    have HB2 := HB.out.1
    have c0 : w1.cell? ⟨db, 0, none⟩ = some (.slice none 0 0) := blk_cell HB2 0
    have c1 : w1.cell? ⟨db, 1, none⟩ = some (.int .i64 0) := blk_cell HB2 1
    have c2 : w1.cell? ⟨db, 2, none⟩ = some (.slice none 0 0) := blk_cell HB2 2
    have c3 : w1.cell? ⟨db, 3, none⟩ = some (.slice none 0 0) := blk_cell HB2 3
    have f0 := blk_free HB2 0
    have f1 := blk_free HB2 1
    have f2 := blk_free HB2 2
    have f3 := blk_free HB2 3
    have h0' : ¬ refE l st pk = 0 := by rw [← HE.out]; exact h0
    have HF : Hid (finT l st pk = [] ∧ madeT l st pk = 0 ∧ mgT l st pk = [] ∧ lkT l st pk = []) := by
      unfold finT madeT mgT lkT
      rw [if_neg h0', if_neg h0', if_neg h0', if_neg h0']
      exact ⟨rfl, rfl, rfl, rfl⟩
    clear HB2 hf h0'
    go_wp2_with fail
    exact views_end (u := .int .i64 E) 6 7 rfl rfl HB.out.1 rfl rfl rfl (.slice none 0 0) (.int .i64 0) (.slice none 0 0) (.slice none 0 0) (fun w' hk => by
      rw [HF.out.1, HF.out.2.1, HF.out.2.2.1, HF.out.2.2.2]
      exact ⟨none, 0, none, 0, none, 0, rfl, ⟨fun T w2 _ _ => ans_nil w2 0⟩, HB.out.2.trans hk (fun i e hi => by have := HDB.out; omega)⟩)
end Go.Proofs.Ytdiabpoafennlab.Rn
/-! Lists with room behind their ends. -/
namespace Go.Proofs.Ytdiabpoafennlab.Rn
set_option linter.unusedVariables false
set_option maxRecDepth 20000
set_option linter.unusedSimpArgs false
open Go.RowKit Go.HeapKit Go.PlainOps

theorem seen1 {w : World} {b : Nat} {t : TypeId} {v : Value} (h : w.heap[b]? = some (.cells #[v] t (0, 0))) : SeenV w (some ⟨b, 0, none⟩) 1 [v] := ⟨rfl, fun _ => ⟨_, _, rfl, blk_lt h, fun k x hv => by
  have hk : k = 0 := by have := (List.getElem?_eq_some_iff.1 hv).1; simp at this; exact this
  subst hk
  rw [Nat.zero_add, blk_cell h]
  simpa using hv⟩⟩
theorem roomy_deeds (w : World) (a : Option Addr) (n c : Nat) (l : List Dd) (h : Seen w a n l) (hn : n * 16 ≤ 140737488351232) :
    ∃ x cap w1 g cap2 w2, (Builtin.append_ #[22, 22] 22 #[.slice (some ⟨w.heap.size, 0, none⟩) 0 0, .slice a n c]).run Try.prog (w.alloc (.cells #[] 44)) = .ok (.slice x n cap) w1 ∧
      (Builtin.append_ #[22, 22] 22 #[.slice x n cap, .slice (some ⟨w1.heap.size, 0, none⟩) 1 1]).run Try.prog (w1.alloc (.cells #[.int .i64 (-77), .int .i64 0] 44)) = .ok (.slice (some ⟨g, 0, none⟩) (n + 1) cap2) w2 ∧
      w2.ownsRow w.heap.size 44 2 (.slice (some ⟨g, 0, none⟩) (n + 1) cap2) (n + 1) (ddVals (l ++ [⟨-77, 0⟩])) ∧ Keeps None w w1 ∧ Keeps None w w2 := by
  obtain ⟨v, w1, hr, ho, hk⟩ := deeds_copy w a n c l 22 h (by omega)
  obtain ⟨x, cap, rfl⟩ := row_shape ho
  have kA := Keeps.alloc None w1 (.cells #[.int .i64 (-77), .int .i64 0] 44)
  obtain ⟨g, cap2, w2, hr2, ho2, hk2, hm⟩ := deed_more w.heap.size (.slice x n cap) l ⟨-77, 0⟩ n 22 (w1.alloc (.cells #[.int .i64 (-77), .int .i64 0] 44)) h.len (ho.alloc _) (Nat.le_trans hk.size kA.size) (by omega) (blk_new w1 _ _ rfl)
  exact ⟨x, cap, w1, g, cap2, w2, hr, hr2, ho2, hk, (hk.trans kA (fun _ f _ => f)).trans hk2 (fun i e hi => absurd hi (Nat.not_lt.2 (own_lo ho i e)))⟩
theorem roomy_bools (w : World) (a : Option Addr) (n c : Nat) (l : List Bool) (h : SeenV w a n (bv' l)) (hn : n ≤ 140737488351232) :
    ∃ x cap w1 g cap2 w2, (Builtin.append_ #[23, 23] 23 #[.slice (some ⟨w.heap.size, 0, none⟩) 0 0, .slice a n c]).run Try.prog (w.alloc (.cells #[] 4)) = .ok (.slice x n cap) w1 ∧
      (Builtin.append_ #[23, 23] 23 #[.slice x n cap, .slice (some ⟨w1.heap.size, 0, none⟩) 1 1]).run Try.prog (w1.alloc (.cells #[.bool true] 4)) = .ok (.slice (some ⟨g, 0, none⟩) (n + 1) cap2) w2 ∧
      w2.ownsRow w.heap.size 4 1 (.slice (some ⟨g, 0, none⟩) (n + 1) cap2) (n + 1) (bv' (l ++ [true])) ∧ Keeps None w w1 ∧ Keeps None w w2 := by
  obtain ⟨v, w1, hr, ho, hk⟩ := bools_copy w a n c l 23 h (by omega)
  obtain ⟨x, cap, rfl⟩ := row_shape ho
  have kA := Keeps.alloc None w1 (.cells #[.bool true] 4)
  obtain ⟨i0, hi, hz0, hz1, hz2⟩ := info_parts Try.infoBool
  obtain ⟨v', w2, hr2, ho2, hk2, hm, -⟩ := run_append_all (P := Try.prog) (w1.alloc (.cells #[.bool true] 4)) w.heap.size 23 23 4 i0 _ 1 1 Try.underlying23 hi hz0 hz1 hz2 rfl (by decide) (.slice x n cap) n (bv' l)
    (ho.alloc _) (some ⟨w1.heap.size, 0, none⟩) 1 1 [.bool true] rfl (fun h0 => by obtain ⟨b, off, e, _, hc⟩ := (seen1 (blk_new w1 (.cells #[.bool true] 4) _ rfl)).ex h0; exact ⟨b, off, e, hc⟩) (by intro u hu; simp at hu; subst hu; rfl) (by unfold maxLen; omega) (by omega) (Nat.le_trans hk.size kA.size)
  obtain ⟨g, cap2, rfl⟩ : ∃ g cap, v' = .slice (some ⟨g, 0, none⟩) (n + 1) cap := by
    rcases ho2.2 with ⟨_, h0⟩ | ⟨b, cap, cur, rfl, _⟩
    · omega
    · exact ⟨b, cap, rfl⟩
  exact ⟨x, cap, w1, g, cap2, w2, hr, hr2, by rw [show bv' (l ++ [true]) = bv' l ++ [.bool true] by simp [bv']]; exact ho2, hk, (hk.trans kA (fun _ f _ => f)).trans hk2 (fun i e hi => absurd hi (Nat.not_lt.2 (own_lo ho i e)))⟩
theorem roomy_ints (w : World) (a : Option Addr) (n c : Nat) (l : List Int) (h : SeenV w a n (iv l)) (hn : n * 8 ≤ 140737488351232) :
    ∃ x cap w1 g cap2 w2, (Builtin.append_ #[24, 24] 24 #[.slice (some ⟨w.heap.size, 0, none⟩) 0 0, .slice a n c]).run Try.prog (w.alloc (.cells #[] 3)) = .ok (.slice x n cap) w1 ∧
      (Builtin.append_ #[24, 24] 24 #[.slice x n cap, .slice (some ⟨w1.heap.size, 0, none⟩) 1 1]).run Try.prog (w1.alloc (.cells #[.int .i64 79] 3)) = .ok (.slice (some ⟨g, 0, none⟩) (n + 1) cap2) w2 ∧
      w2.ownsRow w.heap.size 3 1 (.slice (some ⟨g, 0, none⟩) (n + 1) cap2) (n + 1) (iv (l ++ [79])) ∧ Keeps None w w1 ∧ Keeps None w w2 := by
  obtain ⟨v, w1, hr, ho, hk⟩ := ints_copy w a n c l 24 h (by omega)
  obtain ⟨x, cap, rfl⟩ := row_shape ho
  have kA := Keeps.alloc None w1 (.cells #[.int .i64 79] 3)
  obtain ⟨i0, hi, hz0, hz1, hz2⟩ := info_parts Try.infoI
  obtain ⟨v', w2, hr2, ho2, hk2, hm, -⟩ := run_append_all (P := Try.prog) (w1.alloc (.cells #[.int .i64 79] 3)) w.heap.size 24 24 3 i0 _ 1 8 Try.underlying24 hi hz0 hz1 hz2 rfl (by decide) (.slice x n cap) n (iv l)
    (ho.alloc _) (some ⟨w1.heap.size, 0, none⟩) 1 1 [.int .i64 79] rfl (fun h0 => by obtain ⟨b, off, e, _, hc⟩ := (seen1 (blk_new w1 (.cells #[.int .i64 79] 3) _ rfl)).ex h0; exact ⟨b, off, e, hc⟩) (by intro u hu; simp at hu; subst hu; rfl) (by unfold maxLen; omega) (by omega) (Nat.le_trans hk.size kA.size)
  obtain ⟨g, cap2, rfl⟩ : ∃ g cap, v' = .slice (some ⟨g, 0, none⟩) (n + 1) cap := by
    rcases ho2.2 with ⟨_, h0⟩ | ⟨b, cap, cur, rfl, _⟩
    · omega
    · exact ⟨b, cap, rfl⟩
  exact ⟨x, cap, w1, g, cap2, w2, hr, hr2, by rw [iv_app]; exact ho2, hk, (hk.trans kA (fun _ f _ => f)).trans hk2 (fun i e hi => absurd hi (Nat.not_lt.2 (own_lo ho i e)))⟩
/-- The lists without what lies behind. -/
theorem own_fst {w : World} {B g n m c z : Nat} {t : TypeId} {y u : List Value} (h : w.ownsRow B t z (.slice (some ⟨g, 0, none⟩) m c) m (y ++ u)) (hn : y.length = n * z) (hm : n ≤ m) : w.ownsRow B t z (.slice (some ⟨g, 0, none⟩) n c) n y := by
  rcases h.2 with ⟨e1, -⟩ | ⟨g', cap, cur, e1, hb, hg, hnc, hcm, hcs, ht⟩
  · cases e1
  · injection e1 with e1 e2 e3
    injection e1 with e1
    injection e1 with e1
    subst e1 e3
    refine ⟨hn, .inr ⟨g, c, cur, rfl, hb, hg, by omega, hcm, hcs, ?_⟩⟩
    have h3 : n * z ≤ m * z := Nat.mul_le_mul_right _ hm
    have e4 : cur.toList.take (n * z) = (cur.toList.take (m * z)).take (n * z) := by
      rw [List.take_take]
      congr 1
      omega
    rw [e4, ht, List.take_append_of_le_length (by omega), List.take_of_length_le (by omega)]
end Go.Proofs.Ytdiabpoafennlab.Rn
/-! A reducer's player of numbers in memory: each view holds the fold of what a list's view would hold. -/
namespace Go.Proofs.Ytdiabpoafennlab.Nm
set_option linter.unusedVariables false
set_option maxRecDepth 20000
set_option linter.unusedSimpArgs false
open Go.RowKit Go.HeapKit Go.PlainOps

/-- The operation, and the boxes that hold it and its unit. -/
structure NP where
  op : Int
  pa : Nat
  pu : Nat
def fV (K : NP) (l : List Int) : Int := foldV K.op l
def fvs (K : NP) (vs : List (List Int)) : List Value := iv (vs.map (fV K))
theorem fvs_snoc (K : NP) (vs : List (List Int)) (l : List Int) : fvs K (vs ++ [l]) = fvs K vs ++ [.int .i64 (fV K l)] := by simp [fvs, iv]
theorem fvs_set (K : NP) (vs : List (List Int)) (v : Nat) (l : List Int) : fvs K (vs.set v l) = (fvs K vs).set v (.int .i64 (fV K l)) := by simp [fvs, iv, List.map_set]
theorem fvs_at {K : NP} {vs : List (List Int)} {v : Nat} {l : List Int} (h : vs[v]? = some l) : (fvs K vs)[v]? = some (.int .i64 (fV K l)) := by simp [fvs, iv, h]
def putV (K : NP) : Value := .func (.func 49) #[] #[.pointer (some ⟨K.pa, 0, none⟩)]
def newV (K : NP) : Value := .func (.func 51) #[] #[.pointer (some ⟨K.pu, 0, none⟩)]
def tellV : Value := .func (.func 52) #[] #[]
def cells (X : PX) (st : List Bool) (K : NP) (s : PS) : Array Value := #[newV K, putV K, putV K, tellV,
  .slice X.sa st.length X.sc, .slice X.pa s.pk.length X.pc, .slice X.va s.vs.length X.vc, .slice X.ta s.tk.length X.tc, .int .i64 s.spn, .slice X.ma s.mg.length X.mc, .slice X.la s.lk.length X.lc]
structure Vw (w : World) (base : Nat) (va : Option Addr) (vc : Nat) (la : Option Addr) (lc : Nat) (K : NP) (vs lk : List (List Int)) : Prop where
  views : w.ownsRow base 2 1 (.slice va vs.length vc) vs.length (fvs K vs)
  looks : w.ownsRow base 2 1 (.slice la lk.length lc) lk.length (fvs K lk)
  vl : ∀ b n c m d, (Value.slice va n c).ownBlock = some b → (Value.slice la m d).ownBlock ≠ some b
structure Ar (w : World) (base : Nat) (sa pa : Option Addr) (pc : Nat) (st : List Bool) (pk : List Int) (K : NP) : Prop extends Args w base sa pa pc st pk where
  b1 : w.cell? ⟨K.pa, 0, none⟩ = some (.int .i64 K.op)
  b2 : w.cell? ⟨K.pu, 0, none⟩ = some (.int .i64 (unitV K.op))
  l1 : K.pa < base
  l2 : K.pu < base
structure PM (w : World) (base pb : Nat) (st : List Bool) (X : PX) (K : NP) (H R : Nat → Value) (s : PS) : Prop where
  blk : w.heap[pb]? = some (.cells (cells X st K s) 76 (0, 0))
  low : base ≤ pb
  vw : Vw w base X.va X.vc X.la X.lc K s.vs s.lk
  tk : Tks w base X.ta X.tc H R s.tk
  ar : Ar w base X.sa X.pa X.pc st s.pk K
  mg : w.ownsRow base 96 3 (.slice X.ma s.mg.length X.mc) s.mg.length (mgV s.mg)
section
variable {w w' : World} {base pb : Nat} {st : List Bool} {X : PX} {K : NP} {H R : Nat → Value} {s : PS} {S : Nat → Prop} {t : TypeId}
theorem Vw.other {va la : Option Addr} {vc lc : Nat} {vs lk : List (List Int)} (h : Vw w base va vc la lc K vs lk) (hk : Keeps S w w') (hS : OnlyT S w t) (h1 : t ≠ 2) : Vw w' base va vc la lc K vs lk :=
  ⟨row_other h.views hk hS h1, row_other h.looks hk hS h1, h.vl⟩
theorem Ar.other {sa pa : Option Addr} {pc : Nat} {pk : List Int} (h : Ar w base sa pa pc st pk K) (hk : Keeps S w w') (hS : ∀ i, S i → base ≤ i) : Ar w' base sa pa pc st pk K :=
  ⟨h.toArgs.other hk hS, hk.cell h.b1 (fun e => by have := hS _ e; have := h.l1; simp only at *; omega), hk.cell h.b2 (fun e => by have := hS _ e; have := h.l2; simp only at *; omega), h.l1, h.l2⟩
theorem PM.more (h : PM w base pb st X K H R s) (hk : Keeps None w w') : PM w' base pb st X K H R s :=
  ⟨blk_kept h.blk hk (fun f => f), h.low, h.vw.other (t := 0) hk (fun _ f => f.elim) (by decide), h.tk.other (t := 0) hk (fun _ f => f.elim) (by decide) (by decide), h.ar.other hk (fun _ f => f.elim), row_kept h.mg hk (fun _ _ f => f)⟩
theorem PM.cell (h : PM w base pb st X K H R s) (i : Nat) : w.cell? ⟨pb, i, none⟩ = (cells X st K s)[i]? := blk_cell h.blk i
theorem PM.free (h : PM w base pb st X K H R s) (i : Nat) : w.frozen? ⟨pb, i, none⟩ = false := blk_free h.blk i
/-- One of the player's cells is stored: what stands besides. -/
theorem PM.put {c : Array Value} (hb : w.heap[pb]? = some (.cells c 76 (0, 0))) (hl : base ≤ pb) {i : Nat} {v : Value} (hc : c.setIfInBounds i v = cells X st K s) (h1 : Vw w base X.va X.vc X.la X.lc K s.vs s.lk) (h2 : Tks w base X.ta X.tc H R s.tk) (h3 : Ar w base X.sa X.pa X.pc st s.pk K)
    (h4 : w.ownsRow base 96 3 (.slice X.ma s.mg.length X.mc) s.mg.length (mgV s.mg)) : PM (w.setCell ⟨pb, i, none⟩ v) base pb st X K H R s := by
  have hk : Keeps (· = pb) w (w.setCell ⟨pb, i, none⟩ v) := keeps_one (Keeps.refl _ _) _
  have ho : OnlyT (· = pb) w 76 := onlyT_one hb
  refine ⟨?_, hl, h1.other hk ho (by decide), h2.other hk ho (by decide) (by decide), h3.other hk (fun i e => by omega), row_other h4 hk ho (by decide)⟩
  rw [← hc]
  exact blk_set hb v
end
end Go.Proofs.Ytdiabpoafennlab.Nm
/-! What becomes of a player of numbers in memory. -/
namespace Go.Proofs.Ytdiabpoafennlab.Nm
set_option linter.unusedVariables false
set_option maxRecDepth 20000
set_option linter.unusedSimpArgs false
open Go.RowKit Go.HeapKit Go.PlainOps

section
variable {w w1 : World} {base pb : Nat} {st : List Bool} {X : PX} {K : NP} {H R : Nat → Value} {s : PS}
/-- A new view. -/
theorem PM.newView (h : PM w base pb st X K H R s) {g cap : Nat} (ho : w1.ownsRow base 2 1 (.slice (some ⟨g, 0, none⟩) (s.vs.length + 1) cap) (s.vs.length + 1) (fvs K s.vs ++ [.int .i64 (unitV K.op)])) (hk : Keeps (fun k => (Value.slice X.va s.vs.length X.vc).ownBlock = some k) w w1)
    (hm : (Value.slice X.va s.vs.length X.vc).ownBlock = some g ∨ w.heap.size ≤ g) :
    PM (w1.setCell ⟨pb, 6, none⟩ (.slice (some ⟨g, 0, none⟩) (s.vs.length + 1) cap)) base pb st { X with va := some ⟨g, 0, none⟩, vc := cap } K H R { s with vs := s.vs ++ [[]] } := by
  have hT := onlyT_own h.vw.views
  refine PM.put (c := cells X st K s) (blk_other h.blk hk hT (by decide)) h.low (by simp [cells]) ?_ (h.tk.other hk hT (by decide) (by decide)) (h.ar.other hk (fun i e => row_low h.vw.views e)) (row_other h.mg hk hT (by decide))
  refine ⟨?_, row_kept h.vw.looks hk (fun b e e2 => h.vw.vl b _ _ _ _ e2 e), ?_⟩
  · show w1.ownsRow base 2 1 (.slice (some ⟨g, 0, none⟩) (s.vs ++ [[]]).length cap) (s.vs ++ [[]]).length _
    rw [List.length_append, List.length_singleton, fvs_snoc]
    exact ho
  · intro b n c m d hb
    simp [Value.ownBlock] at hb
    subst hb
    intro e
    rcases hm with hm | hm
    · exact h.vw.vl g _ _ m d hm e
    · have := own_lt (v := .slice X.la s.lk.length X.lc) h.vw.looks (g := g) (by rw [own_a h.vw.looks e]; rfl)
      omega
/-- A view holds another number. -/
theorem PM.putView (h : PM w base pb st X K H R s) {v vb : Nat} (l : List Int) (hva : X.va = some ⟨vb, 0, none⟩) :
    PM (w.setCell ⟨vb, v, none⟩ (.int .i64 (fV K l))) base pb st X K H R { s with vs := s.vs.set v l } := by
  have hT := onlyT_own h.vw.views
  have hk2 : Keeps (fun k => (Value.slice X.va s.vs.length X.vc).ownBlock = some k) w (w.setCell ⟨vb, v, none⟩ (.int .i64 (fV K l))) := (Keeps.refl _ w).andSet (x := ⟨vb, v, none⟩) (.inl (by rw [hva]; rfl)) _
  refine ⟨?_, h.low, ⟨?_, row_kept h.vw.looks hk2 (fun b e e2 => h.vw.vl b _ _ _ _ e2 e), h.vw.vl⟩, h.tk.other hk2 hT (by decide) (by decide), h.ar.other hk2 (fun i e => row_low h.vw.views e), row_other h.mg hk2 hT (by decide)⟩
  · have := blk_other h.blk hk2 hT (by decide)
    rw [this]
    simp [cells]
  · show (w.setCell ⟨vb, v, none⟩ (.int .i64 (fV K l))).ownsRow base 2 1 (.slice X.va (s.vs.set v l).length X.vc) (s.vs.set v l).length _
    have hv := h.vw.views
    rw [List.length_set, fvs_set]
    rw [hva] at hv ⊢
    exact row_set hv v _
/-- A look is told. -/
theorem PM.newLook (h : PM w base pb st X K H R s) {l : List Int} {g cap : Nat} (ho : w1.ownsRow base 2 1 (.slice (some ⟨g, 0, none⟩) (s.lk.length + 1) cap) (s.lk.length + 1) (fvs K s.lk ++ [.int .i64 (fV K l)])) (hk : Keeps (fun k => (Value.slice X.la s.lk.length X.lc).ownBlock = some k) w w1)
    (hm : (Value.slice X.la s.lk.length X.lc).ownBlock = some g ∨ w.heap.size ≤ g) :
    PM (w1.setCell ⟨pb, 10, none⟩ (.slice (some ⟨g, 0, none⟩) (s.lk.length + 1) cap)) base pb st { X with la := some ⟨g, 0, none⟩, lc := cap } K H R { s with lk := s.lk ++ [l] } := by
  have hT := onlyT_own h.vw.looks
  refine PM.put (c := cells X st K s) (blk_other h.blk hk hT (by decide)) h.low (by simp [cells]) ?_ (h.tk.other hk hT (by decide) (by decide)) (h.ar.other hk (fun i e => row_low h.vw.looks e)) (row_other h.mg hk hT (by decide))
  refine ⟨row_kept h.vw.views hk (fun b e e2 => h.vw.vl b _ _ _ _ e e2), ?_, ?_⟩
  · show w1.ownsRow base 2 1 (.slice (some ⟨g, 0, none⟩) (s.lk ++ [l]).length cap) (s.lk ++ [l]).length _
    rw [List.length_append, List.length_singleton, fvs_snoc]
    exact ho
  · intro b n c m d hb e
    simp [Value.ownBlock] at e
    subst e
    rcases hm with hm | hm
    · exact h.vw.vl g n c _ _ hb hm
    · have := own_lt (v := .slice X.va s.vs.length X.vc) h.vw.views (g := g) (by rw [own_a h.vw.views hb]; rfl)
      omega
/-- A merge is told. -/
theorem PM.newMerge (h : PM w base pb st X K H R s) {x : Nat × Nat × Nat} {g cap : Nat} (ho : w1.ownsRow base 96 3 (.slice (some ⟨g, 0, none⟩) (s.mg.length + 1) cap) (s.mg.length + 1) (mgV (s.mg ++ [x]))) (hk : Keeps (fun k => (Value.slice X.ma s.mg.length X.mc).ownBlock = some k) w w1) :
    PM (w1.setCell ⟨pb, 9, none⟩ (.slice (some ⟨g, 0, none⟩) (s.mg.length + 1) cap)) base pb st { X with ma := some ⟨g, 0, none⟩, mc := cap } K H R { s with mg := s.mg ++ [x] } := by
  have hT := onlyT_own h.mg
  refine PM.put (c := cells X st K s) (blk_other h.blk hk hT (by decide)) h.low (by simp [cells]) (h.vw.other hk hT (by decide)) (h.tk.other hk hT (by decide) (by decide)) (h.ar.other hk (fun i e => row_low h.mg e)) ?_
  show w1.ownsRow base 96 3 (.slice (some ⟨g, 0, none⟩) (s.mg ++ [x]).length cap) (s.mg ++ [x]).length _
  rw [List.length_append, List.length_singleton]
  exact ho
/-- The next pick is taken. -/
theorem PM.nextPick (h : PM w base pb st X K H R s) {x : Int} {pk : List Int} {b off : Nat} (hp : s.pk = x :: pk) (ha : X.pa = some ⟨b, off, none⟩) :
    PM (w.setCell ⟨pb, 5, none⟩ (.slice (if X.pc = 1 then some ⟨b, off, none⟩ else some ⟨b, off + 1, none⟩) pk.length (X.pc - 1))) base pb st { X with pa := if X.pc = 1 then some ⟨b, off, none⟩ else some ⟨b, off + 1, none⟩, pc := X.pc - 1 } K H R { s with pk := pk } := by
  have hc := h.ar.capP
  rw [hp] at hc
  simp at hc
  refine PM.put (c := cells X st K s) h.blk h.low (by simp [cells]) h.vw h.tk ⟨⟨h.ar.seenS, ?_, h.ar.lowS, ?_, by show pk.length ≤ X.pc - 1; omega⟩, h.ar.b1, h.ar.b2, h.ar.l1, h.ar.l2⟩ h.mg
  · have hs := h.ar.seenP
    rw [hp, ha] at hs
    obtain ⟨b', off', e, hlt, hcell⟩ := hs.ex (by simp)
    injection e with e
    injection e with e1 e2
    subst e1 e2
    refine ⟨(iv_len _).symm, fun h0 => ⟨b, off + 1, by show (if X.pc = 1 then _ else _) = _; rw [if_neg (by have h0' : 0 < pk.length := h0; omega)], hlt, fun k v hv => ?_⟩⟩
    have := hcell (k + 1) v (by simpa [iv] using hv)
    rwa [show off + (k + 1) = off + 1 + k by omega] at this
  · intro b' hb' h0
    have : b' = b := by
      have hb2 : blockOf (if X.pc = 1 then some (⟨b, off, none⟩ : Addr) else some ⟨b, off + 1, none⟩) = some b' := hb'
      split at hb2 <;> simpa [blockOf] using hb2.symm
    subst this
    exact h.ar.lowP b' (by rw [ha]; rfl) (by rw [hp]; simp)
/-- A task begins. -/
theorem PM.spawn (h : PM w base pb st X K H R s) {V : Value} {x : Nat × List Nat} {w2 : World} {g cap : Nat} (hk : Keeps None w w1) (ho : w1.ownsRow base 3 1 V x.2.length (nv x.2)) (hm : ∀ b, V.ownBlock = some b → w.heap.size ≤ b)
    (ho2 : w2.ownsRow base 89 2 (.slice (some ⟨g, 0, none⟩) (s.tk.length + 1) cap) (s.tk.length + 1) ((List.range (s.tk.length * 2)).map (tkF s.tk H) ++ [.int .i64 x.1, V])) (hk2 : Keeps (fun k => (Value.slice X.ta s.tk.length X.tc).ownBlock = some k) w1 w2) :
    PM (w2.setCell ⟨pb, 7, none⟩ (.slice (some ⟨g, 0, none⟩) (s.tk.length + 1) cap)) base pb st { X with ta := some ⟨g, 0, none⟩, tc := cap } K (upd H s.tk.length V) (upd R s.tk.length V) { s with tk := s.tk ++ [x] } := by
  have h1 := h.more hk
  have hT := onlyT_own h1.tk.tks
  refine PM.put (c := cells X st K s) (blk_other h1.blk hk2 hT (by decide)) h.low (by simp [cells]) (h1.vw.other hk2 hT (by decide)) ⟨?_, ?_, ?_⟩ (h1.ar.other hk2 (fun i e => row_low h1.tk.tks e)) (row_other h1.mg hk2 hT (by decide))
  · show w2.ownsRow base 89 2 (.slice (some ⟨g, 0, none⟩) (s.tk ++ [x]).length cap) (s.tk ++ [x]).length ((List.range ((s.tk ++ [x]).length * 2)).map (tkF (s.tk ++ [x]) (upd H s.tk.length V)))
    rw [tk_more, List.length_append, List.length_singleton]
    exact ho2
  · intro i hi
    by_cases e : i = s.tk.length
    · subst e
      rw [upd_eq, rowOf_more s.tk x _ hi, if_pos rfl]
      exact row_other ho hk2 hT (by decide)
    · have hr := row_same (R := R) (V := V) hi e
      have hi2 : i < s.tk.length := by have : i < (s.tk ++ [x]).length := hi; simp at this; omega
      show w2.ownsRow base 3 1 (upd R s.tk.length V i) (rowOf (s.tk ++ [x]) i).length (nv (rowOf (s.tk ++ [x]) i))
      rw [hr.1, hr.2]
      exact row_other (h1.tk.rows i hi2) hk2 hT (by decide)
  · intro i j b hi hj hij
    have hi2 : i < s.tk.length + 1 := by have : i < (s.tk ++ [x]).length := hi; simpa using this
    have hj2 : j < s.tk.length + 1 := by have : j < (s.tk ++ [x]).length := hj; simpa using this
    by_cases ei : i = s.tk.length
    · subst ei
      rw [upd_eq, upd_ne (Ne.symm hij)]
      intro e1 e2
      have := hm b e1
      have := own_lt (h.tk.rows j (by omega)) e2
      omega
    · rw [upd_ne ei]
      by_cases ej : j = s.tk.length
      · subst ej
        rw [upd_eq]
        intro e1 e2
        have := hm b e2
        have := own_lt (h.tk.rows i (by omega)) e1
        omega
      · rw [upd_ne ej]
        exact h.tk.apart i j b (by omega) (by omega) hij
theorem PM.spawned (h : PM w base pb st X K H R s) : PM (w.setCell ⟨pb, 8, none⟩ (.int .i64 ((s.spn + 1 : Nat) : Int))) base pb st X K H R { s with spn := s.spn + 1 } :=
  PM.put (c := cells X st K s) h.blk h.low (by simp [cells]) h.vw h.tk h.ar h.mg
/-- The last task is gone. -/
theorem PM.endTask (h : PM w base pb st X K H R s) {tk : List (Nat × List Nat)} {x : Nat × List Nat} (hx : s.tk = tk ++ [x]) : PM (w.setCell ⟨pb, 7, none⟩ (.slice X.ta tk.length X.tc)) base pb st X K H R { s with tk := tk } := by
  have hrow : ∀ i, i < tk.length → rowOf s.tk i = rowOf tk i := fun i hi => by rw [hx, rowOf_more tk x i (by simp; omega), if_neg (by omega)]
  have hlen : s.tk.length = tk.length + 1 := by rw [hx]; simp
  refine PM.put (c := cells X st K s) h.blk h.low (by simp [cells]) h.vw ⟨?_, fun i hi => ?_, fun i j b hi hj => h.tk.apart i j b (by have : i < tk.length := hi; omega) (by have : j < tk.length := hj; omega)⟩ h.ar h.mg
  · have ho := h.tk.tks
    have hvals : (List.range (tk.length * 2)).map (tkF tk H) = ((List.range (s.tk.length * 2)).map (tkF s.tk H)).take (tk.length * 2) := by
      rw [← List.map_take, List.take_range, show min (tk.length * 2) (s.tk.length * 2) = tk.length * 2 by omega]
      refine tk_cong (fun i hi => ?_) (fun _ _ => rfl)
      rw [hx, List.getD_eq_getElem?_getD, List.getD_eq_getElem?_getD, List.getElem?_append_left hi]
    show w.ownsRow base 89 2 (.slice X.ta tk.length X.tc) tk.length ((List.range (tk.length * 2)).map (tkF tk H))
    refine ⟨by simp, ?_⟩
    rcases ho.2 with ⟨e, h0⟩ | ⟨g, cap, cur, e, hb, hg, hn, hm, hcs, ht⟩
    · omega
    · injection e with e1 e2 e3
      refine .inr ⟨g, cap, cur, by rw [e1, e3], hb, hg, by omega, hm, hcs, ?_⟩
      rw [hvals, ← ht, List.take_take]
      congr 1
      omega
  · have hi2 : i < tk.length := hi
    have := h.tk.rows i (by omega)
    rwa [hrow i hi2] at this
/-- The current task's row becomes another one: in its memory. -/
theorem PM.putRow (h : PM w base pb st X K H R s) {tk : List (Nat × List Nat)} {sp : Nat} {r r' : List Nat} {V : Value} (hx : s.tk = tk ++ [(sp, r)]) (ho : w1.ownsRow base 3 1 V r'.length (nv r')) (hk : Keeps (fun k => (R tk.length).ownBlock = some k) w w1) (hm : ∀ b, V.ownBlock = some b → (R tk.length).ownBlock = some b ∨ w.heap.size ≤ b) :
    PM w1 base pb st X K H (upd R tk.length V) { s with tk := tk ++ [(sp, r')] } := by
  have hlen : s.tk.length = tk.length + 1 := by rw [hx]; simp
  have hr := h.tk.rows tk.length (by omega)
  have hT := onlyT_own hr
  refine ⟨?_, h.low, h.vw.other hk hT (by decide), ⟨?_, fun i hi => ?_, ?_⟩, h.ar.other hk (fun i e => row_low hr e), row_other h.mg hk hT (by decide)⟩
  · have := blk_other h.blk hk hT (by decide)
    rw [this]
    simp [cells, hx]
  · have ho2 := row_other h.tk.tks hk hT (by decide)
    show w1.ownsRow base 89 2 (.slice X.ta (tk ++ [(sp, r')]).length X.tc) (tk ++ [(sp, r')]).length ((List.range ((tk ++ [(sp, r')]).length * 2)).map (tkF (tk ++ [(sp, r')]) H))
    have e1 : (tk ++ [(sp, r')]).length = s.tk.length := by rw [hx]; simp
    rw [e1]
    rwa [tk_cong (tk' := s.tk) (H' := H) (fun i hi => ?_) (fun _ _ => rfl)]
    rw [hx, List.getD_eq_getElem?_getD, List.getD_eq_getElem?_getD]
    by_cases e : i < tk.length
    · rw [List.getElem?_append_left e, List.getElem?_append_left e]
    · rw [List.getElem?_append_right (by omega), List.getElem?_append_right (by omega), show i - tk.length = 0 by omega]
      rfl
  · have hi2 : i < tk.length + 1 := by have : i < (tk ++ [(sp, r')]).length := hi; simpa using this
    show w1.ownsRow base 3 1 (upd R tk.length V i) (rowOf (tk ++ [(sp, r')]) i).length (nv (rowOf (tk ++ [(sp, r')]) i))
    rw [rowOf_more tk (sp, r') i hi]
    by_cases e : i = tk.length
    · subst e
      rw [upd_eq, if_pos rfl]
      exact ho
    · rw [upd_ne e, if_neg e]
      have := h.tk.rows i (by omega)
      rw [hx, rowOf_more tk (sp, r) i (by simp; omega), if_neg e] at this
      exact row_kept this hk (fun b e1 e2 => h.tk.apart i tk.length b (by omega) (by omega) e e1 e2)
  · intro i j b hi hj hij
    have hi2 : i < tk.length + 1 := by have : i < (tk ++ [(sp, r')]).length := hi; simpa using this
    have hj2 : j < tk.length + 1 := by have : j < (tk ++ [(sp, r')]).length := hj; simpa using this
    by_cases ei : i = tk.length
    · subst ei
      rw [upd_eq, upd_ne (Ne.symm hij)]
      intro e1 e2
      rcases hm b e1 with h3 | h3
      · exact h.tk.apart _ j b (by omega) (by omega) hij h3 e2
      · have := own_lt (h.tk.rows j (by omega)) e2
        omega
    · rw [upd_ne ei]
      by_cases ej : j = tk.length
      · subst ej
        rw [upd_eq]
        intro e1 e2
        rcases hm b e2 with h3 | h3
        · exact h.tk.apart i _ b (by omega) (by omega) hij e1 h3
        · have := own_lt (h.tk.rows i (by omega)) e1
          omega
      · rw [upd_ne ej]
        exact h.tk.apart i j b (by omega) (by omega) hij
/-- What the tasks say of the current one's row is set. -/
theorem PM.setHead (h : PM w base pb st X K H R s) {tb i : Nat} {V : Value} (hta : X.ta = some ⟨tb, 0, none⟩) : PM (w.setCell ⟨tb, i * 2 + 1, none⟩ V) base pb st X K (upd H i V) R s := by
  obtain ⟨cur, hcur⟩ := own_block h.tk.tks (g := tb) (by rw [hta]; rfl)
  have hk : Keeps (· = tb) w (w.setCell ⟨tb, i * 2 + 1, none⟩ V) := keeps_one (Keeps.refl _ _) _
  have hT : OnlyT (· = tb) w 89 := onlyT_one hcur
  have hlo : base ≤ tb := row_low h.tk.tks (by rw [hta]; rfl)
  refine ⟨blk_other h.blk hk hT (by decide), h.low, h.vw.other hk hT (by decide), ⟨?_, fun i hi => row_other (h.tk.rows i hi) hk hT (by decide), h.tk.apart⟩, h.ar.other hk (fun i e => by omega), row_other h.mg hk hT (by decide)⟩
  have ho := h.tk.tks
  rw [← tk_setH]
  rw [hta] at ho ⊢
  exact row_set ho _ V
end
end Go.Proofs.Ytdiabpoafennlab.Nm
/-! The contracts of package ops' functions without memory: each returns what its plain function says, and the world stands. -/
namespace Go.Proofs.Ytdiabpoafennlab
open Go.RowKit Go.PlainOps

set_option maxHeartbeats 400000 in
theorem isOp_any (op : Int) (w : World) : Calls Try.prog 63 #[.int .i64 op] w fun e w' => e = .returned (.bool (isOpV op)) ∧ w' = w := by
  by_cases h1 : 0 ≤ op
  · by_cases h2 : op < 16
    · go_enter Try.func63, Try.ntmps63
      go_wp2
      go_ret
      exact ⟨by simp [isOpV, h1, h2], rfl⟩
    · go_enter Try.func63, Try.ntmps63
      go_wp2
      go_ret
      exact ⟨by simp [isOpV, h2], rfl⟩
  · go_enter Try.func63, Try.ntmps63
    go_wp2
    go_ret
    exact ⟨by simp [isOpV]; omega, rfl⟩

theorem shift_any (x : Int) (w : World) : Calls Try.prog 67 #[.int .i64 x] w fun e w' => e = .returned (.int .u64 (x % 64)) ∧ w' = w := by
  have h0 : 0 ≤ x % 64 := by omega
  have h1 : x % 64 < 64 := by omega
  have hb := and63 x
  go_enter Try.func67, Try.ntmps67
  go_wp2
  go_ret
  exact ⟨rfl, rfl⟩

set_option maxHeartbeats 400000 in
theorem number_any (x : Bool) (w : World) : Calls Try.prog 68 #[.bool x] w fun e w' => e = .returned (.int .i64 (truthV x)) ∧ w' = w := by
  cases x
  all_goals
    go_enter Try.func68, Try.ntmps68
    go_wp2
    go_ret
    exact ⟨rfl, rfl⟩
set_option maxHeartbeats 400000 in
theorem quotient_any (a b : Int) (w : World) : Calls Try.prog 65 #[.int .i64 a, .int .i64 b] w fun e w' => e = .returned (.int .i64 (quotV a b)) ∧ w' = w := by
  by_cases h : b = 0
  · subst h
    go_enter Try.func65, Try.ntmps65
    go_wp2
    go_ret
    exact ⟨rfl, rfl⟩
  · have h' : (b == 0) = false := by simpa using h
    have H : Hid (¬ b = 0) := h; clear h
    go_enter Try.func65, Try.ntmps65
    go_wp2
    go_ret
    exact ⟨by simp [quotV, H.out], rfl⟩
set_option maxHeartbeats 400000 in
theorem remainder_any (a b : Int) (w : World) : Calls Try.prog 66 #[.int .i64 a, .int .i64 b] w fun e w' => e = .returned (.int .i64 (remV a b)) ∧ w' = w := by
  by_cases h : b = 0
  · subst h
    go_enter Try.func66, Try.ntmps66
    go_wp2
    go_ret
    exact ⟨rfl, rfl⟩
  · have h' : (b == 0) = false := by simpa using h
    have H : Hid (¬ b = 0) := h; clear h
    go_enter Try.func66, Try.ntmps66
    go_wp2
    go_ret
    exact ⟨by simp [remV, H.out], rfl⟩

section
set_option maxHeartbeats 400000
theorem work0 (a b : Int) (w : World) : Calls Try.prog 44 #[.int .i64 0, .int .i64 a, .int .i64 b] w fun e w' => e = .returned (.int .i64 (wrap64 (a + b))) ∧ w' = w := by
  go_enter Try.func44, Try.ntmps44
  go_wp2
  go_ret
  exact ⟨rfl, rfl⟩
theorem work1 (a b : Int) (w : World) : Calls Try.prog 44 #[.int .i64 1, .int .i64 a, .int .i64 b] w fun e w' => e = .returned (.int .i64 (wrap64 (a - b))) ∧ w' = w := by
  go_enter Try.func44, Try.ntmps44
  go_wp2
  go_ret
  exact ⟨rfl, rfl⟩
theorem work2 (a b : Int) (w : World) : Calls Try.prog 44 #[.int .i64 2, .int .i64 a, .int .i64 b] w fun e w' => e = .returned (.int .i64 (wrap64 (a * b))) ∧ w' = w := by
  go_enter Try.func44, Try.ntmps44
  go_wp2
  go_ret
  exact ⟨rfl, rfl⟩
theorem work3 (a b : Int) (w : World) : Calls Try.prog 44 #[.int .i64 3, .int .i64 a, .int .i64 b] w fun e w' => e = .returned (.int .i64 (quotV a b)) ∧ w' = w := by
  go_enter Try.func44, Try.ntmps44
  go_wp2_with (go_at_call 65; refine (quotient_any _ _ _).mono ?_; rintro e w' ⟨rfl, rfl⟩)
  go_ret
  exact ⟨rfl, rfl⟩
theorem work4 (a b : Int) (w : World) : Calls Try.prog 44 #[.int .i64 4, .int .i64 a, .int .i64 b] w fun e w' => e = .returned (.int .i64 (remV a b)) ∧ w' = w := by
  go_enter Try.func44, Try.ntmps44
  go_wp2_with (go_at_call 66; refine (remainder_any _ _ _).mono ?_; rintro e w' ⟨rfl, rfl⟩)
  go_ret
  exact ⟨rfl, rfl⟩
theorem work5 (a b : Int) (w : World) : Calls Try.prog 44 #[.int .i64 5, .int .i64 a, .int .i64 b] w fun e w' => e = .returned (.int .i64 (bits .and .i64 a b)) ∧ w' = w := by
  go_enter Try.func44, Try.ntmps44
  go_wp2
  go_ret
  exact ⟨rfl, rfl⟩
theorem work6 (a b : Int) (w : World) : Calls Try.prog 44 #[.int .i64 6, .int .i64 a, .int .i64 b] w fun e w' => e = .returned (.int .i64 (bits .or .i64 a b)) ∧ w' = w := by
  go_enter Try.func44, Try.ntmps44
  go_wp2
  go_ret
  exact ⟨rfl, rfl⟩
theorem work7 (a b : Int) (w : World) : Calls Try.prog 44 #[.int .i64 7, .int .i64 a, .int .i64 b] w fun e w' => e = .returned (.int .i64 (bits .xor .i64 a b)) ∧ w' = w := by
  go_enter Try.func44, Try.ntmps44
  go_wp2
  go_ret
  exact ⟨rfl, rfl⟩
theorem work8 (a b : Int) (w : World) : Calls Try.prog 44 #[.int .i64 8, .int .i64 a, .int .i64 b] w fun e w' => e = .returned (.int .i64 (shlV a b)) ∧ w' = w := by
  have h0 : 0 ≤ b % 64 := by omega
  have h1 : b % 64 < 64 := by omega
  go_enter Try.func44, Try.ntmps44
  go_wp2_with (go_at_call 67; refine (shift_any _ _).mono ?_; rintro e w' ⟨rfl, rfl⟩)
  go_ret
  exact ⟨rfl, rfl⟩
theorem work9 (a b : Int) (w : World) : Calls Try.prog 44 #[.int .i64 9, .int .i64 a, .int .i64 b] w fun e w' => e = .returned (.int .i64 (shrV a b)) ∧ w' = w := by
  have h0 : 0 ≤ b % 64 := by omega
  have h1 : b % 64 < 64 := by omega
  go_enter Try.func44, Try.ntmps44
  go_wp2_with (go_at_call 67; refine (shift_any _ _).mono ?_; rintro e w' ⟨rfl, rfl⟩)
  go_ret
  exact ⟨rfl, rfl⟩
theorem work10 (a b : Int) (w : World) : Calls Try.prog 44 #[.int .i64 10, .int .i64 a, .int .i64 b] w fun e w' => e = .returned (.int .i64 (minV a b)) ∧ w' = w := by
  unfold minV
  by_cases h : b < a
  · rw [if_pos h]
    go_enter Try.func44, Try.ntmps44
    go_wp2
    go_ret
    exact ⟨rfl, rfl⟩
  · rw [if_neg h]
    go_enter Try.func44, Try.ntmps44
    go_wp2
    go_ret
    exact ⟨rfl, rfl⟩
theorem work11 (a b : Int) (w : World) : Calls Try.prog 44 #[.int .i64 11, .int .i64 a, .int .i64 b] w fun e w' => e = .returned (.int .i64 (maxV a b)) ∧ w' = w := by
  unfold maxV
  by_cases h : a < b
  · rw [if_pos h]
    go_enter Try.func44, Try.ntmps44
    go_wp2
    go_ret
    exact ⟨rfl, rfl⟩
  · rw [if_neg h]
    go_enter Try.func44, Try.ntmps44
    go_wp2
    go_ret
    exact ⟨rfl, rfl⟩
theorem work12 (a b : Int) (w : World) : Calls Try.prog 44 #[.int .i64 12, .int .i64 a, .int .i64 b] w fun e w' => e = .returned (.int .i64 (truthV (decide (a < b)))) ∧ w' = w := by
  go_enter Try.func44, Try.ntmps44
  go_wp2_with (go_at_call 68; refine (number_any _ _).mono ?_; rintro e w' ⟨rfl, rfl⟩)
  go_ret
  exact ⟨rfl, rfl⟩
theorem work13 (a b : Int) (w : World) : Calls Try.prog 44 #[.int .i64 13, .int .i64 a, .int .i64 b] w fun e w' => e = .returned (.int .i64 (truthV (decide (a ≤ b)))) ∧ w' = w := by
  go_enter Try.func44, Try.ntmps44
  go_wp2_with (go_at_call 68; refine (number_any _ _).mono ?_; rintro e w' ⟨rfl, rfl⟩)
  go_ret
  exact ⟨rfl, rfl⟩
theorem work14 (a b : Int) (w : World) : Calls Try.prog 44 #[.int .i64 14, .int .i64 a, .int .i64 b] w fun e w' => e = .returned (.int .i64 (truthV (a == b))) ∧ w' = w := by
  go_enter Try.func44, Try.ntmps44
  go_wp2_with (go_at_call 68; refine (number_any _ _).mono ?_; rintro e w' ⟨rfl, rfl⟩)
  go_ret
  exact ⟨rfl, rfl⟩
theorem work15 (a b : Int) (w : World) : Calls Try.prog 44 #[.int .i64 15, .int .i64 a, .int .i64 b] w fun e w' => e = .returned (.int .i64 (truthV (a != b))) ∧ w' = w := by
  go_enter Try.func44, Try.ntmps44
  go_wp2_with (go_at_call 68; refine (number_any _ _).mono ?_; rintro e w' ⟨rfl, rfl⟩)
  go_ret
  exact ⟨rfl, rfl⟩
theorem work_any (op a b : Int) (w : World) (h : isOpV op = true) : Calls Try.prog 44 #[.int .i64 op, .int .i64 a, .int .i64 b] w fun e w' => e = .returned (.int .i64 (workV op a b)) ∧ w' = w := by
  have h : 0 ≤ op ∧ op < 16 := by simpa [isOpV] using h
  have hc : op = 0 ∨ op = 1 ∨ op = 2 ∨ op = 3 ∨ op = 4 ∨ op = 5 ∨ op = 6 ∨ op = 7 ∨ op = 8 ∨ op = 9 ∨ op = 10 ∨ op = 11 ∨ op = 12 ∨ op = 13 ∨ op = 14 ∨ op = 15 := by omega
  rcases hc with rfl | rfl | rfl | rfl | rfl | rfl | rfl | rfl | rfl | rfl | rfl | rfl | rfl | rfl | rfl | rfl
  · exact work0 a b w
  · exact work1 a b w
  · exact work2 a b w
  · exact work3 a b w
  · exact work4 a b w
  · exact work5 a b w
  · exact work6 a b w
  · exact work7 a b w
  · exact work8 a b w
  · exact work9 a b w
  · exact work10 a b w
  · exact work11 a b w
  · exact work12 a b w
  · exact work13 a b w
  · exact work14 a b w
  · exact work15 a b w

/-- Apply: an operation's value and OK; else 0 and ErrOp (10). -/
theorem apply_any (op a b : Int) (w : World) (h : isOpV op = true) : Calls Try.prog 50 #[.int .i64 op, .int .i64 a, .int .i64 b] w fun e w' => e = .returned (.tuple #[.int .i64 (workV op a b), .int .i64 0]) ∧ w' = w := by
  have H : Hid (isOpV op = true) := h
  go_enter Try.func50, Try.ntmps50
  go_wp2_with (first | (go_at_call 63; refine (isOp_any _ _).mono ?_; rintro e w' ⟨rfl, rfl⟩) | (go_at_call 44; refine (work_any _ _ _ _ H.out).mono ?_; rintro e w' ⟨rfl, rfl⟩))
  go_ret2
  exact ⟨rfl, rfl⟩
end
end Go.Proofs.Ytdiabpoafennlab
/-! The contract of ops.Unit. -/
namespace Go.Proofs.Ytdiabpoafennlab
open Go.RowKit Go.PlainOps

section
set_option maxHeartbeats 400000
theorem unit0 (w : World) : Calls Try.prog 64 #[.int .i64 0] w fun e w' => e = .returned (.tuple #[.int .i64 (0), .bool true]) ∧ w' = w := by
  go_enter Try.func64, Try.ntmps64
  go_wp2
  go_ret2
  exact ⟨rfl, rfl⟩
theorem unit2 (w : World) : Calls Try.prog 64 #[.int .i64 2] w fun e w' => e = .returned (.tuple #[.int .i64 (1), .bool true]) ∧ w' = w := by
  go_enter Try.func64, Try.ntmps64
  go_wp2
  go_ret2
  exact ⟨rfl, rfl⟩
theorem unit5 (w : World) : Calls Try.prog 64 #[.int .i64 5] w fun e w' => e = .returned (.tuple #[.int .i64 (-1), .bool true]) ∧ w' = w := by
  go_enter Try.func64, Try.ntmps64
  go_wp2
  go_ret2
  exact ⟨rfl, rfl⟩
theorem unit6 (w : World) : Calls Try.prog 64 #[.int .i64 6] w fun e w' => e = .returned (.tuple #[.int .i64 (0), .bool true]) ∧ w' = w := by
  go_enter Try.func64, Try.ntmps64
  go_wp2
  go_ret2
  exact ⟨rfl, rfl⟩
theorem unit7 (w : World) : Calls Try.prog 64 #[.int .i64 7] w fun e w' => e = .returned (.tuple #[.int .i64 (0), .bool true]) ∧ w' = w := by
  go_enter Try.func64, Try.ntmps64
  go_wp2
  go_ret2
  exact ⟨rfl, rfl⟩
theorem unit10 (w : World) : Calls Try.prog 64 #[.int .i64 10] w fun e w' => e = .returned (.tuple #[.int .i64 (9223372036854775807), .bool true]) ∧ w' = w := by
  go_enter Try.func64, Try.ntmps64
  go_wp2
  go_ret2
  exact ⟨rfl, rfl⟩
theorem unit11 (w : World) : Calls Try.prog 64 #[.int .i64 11] w fun e w' => e = .returned (.tuple #[.int .i64 (-9223372036854775808), .bool true]) ∧ w' = w := by
  go_enter Try.func64, Try.ntmps64
  go_wp2
  go_ret2
  exact ⟨rfl, rfl⟩
theorem unit_not (op : Int) (w : World) (h : hasU op = false) : Calls Try.prog 64 #[.int .i64 op] w fun e w' => e = .returned (.tuple #[.int .i64 0, .bool false]) ∧ w' = w := by
  simp only [hasU, Bool.or_eq_false_iff] at h
  obtain ⟨⟨⟨⟨⟨⟨h0, h2⟩, h5⟩, h6⟩, h7⟩, h10⟩, h11⟩ := h
  go_enter Try.func64, Try.ntmps64
  go_wp2
  go_ret2
  exact ⟨rfl, rfl⟩
theorem unit_any (op : Int) (w : World) (h : hasU op = true) : Calls Try.prog 64 #[.int .i64 op] w fun e w' => e = .returned (.tuple #[.int .i64 (unitV op), .bool true]) ∧ w' = w := by
  have hc : op = 0 ∨ op = 2 ∨ op = 5 ∨ op = 6 ∨ op = 7 ∨ op = 10 ∨ op = 11 := by
    simp only [hasU, Bool.or_eq_true, beq_iff_eq] at h
    omega
  rcases hc with rfl | rfl | rfl | rfl | rfl | rfl | rfl
  · exact unit0 w
  · exact unit2 w
  · exact unit5 w
  · exact unit6 w
  · exact unit7 w
  · exact unit10 w
  · exact unit11 w
end
end Go.Proofs.Ytdiabpoafennlab
/-! The contracts of foldUnit, Fold, halves, Tree. -/
namespace Go.Proofs.Ytdiabpoafennlab
open Go.RowKit Go.PlainOps

/-- A list of numbers that lies in memory (a nil one is empty): the value's length is the list's. -/
def Seg (w : World) (a : Option Addr) (cap : Nat) (zs : List Int) : Prop :=
  zs.length ≤ cap ∧ cap ≤ maxLen ∧ (zs = [] ∨ ∃ b off, a = some ⟨b, off, none⟩ ∧ ∀ i, i < zs.length → w.cell? ⟨b, off + i, none⟩ = some (.int .i64 (zs.getD i 0)))

section
set_option maxHeartbeats 400000
theorem foldUnit_ok (op n : Int) (w : World) (h : hasU op = true) (hn : n ≤ 65536) : Calls Try.prog 43 #[.int .i64 op, .int .i64 n] w fun e w' => e = .returned (.tuple #[.int .i64 (unitV op), .int .i64 0]) ∧ w' = w := by
  have hi := isOp_hasU h
  have H : Hid (hasU op = true) := h
  clear h
  go_enter Try.func43, Try.ntmps43
  go_wp2_with (first | (go_at_call 63; refine (isOp_any _ _).mono ?_; rintro e w' ⟨rfl, rfl⟩) | (go_at_call 64; refine (unit_any _ _ H.out).mono ?_; rintro e w' ⟨rfl, rfl⟩))
  go_ret2
  exact ⟨rfl, rfl⟩
theorem foldUnit_long (op n : Int) (w : World) (h : hasU op = true) (hn : 65536 < n) : Calls Try.prog 43 #[.int .i64 op, .int .i64 n] w fun e w' => e = .returned (.tuple #[.int .i64 0, .int .i64 2]) ∧ w' = w := by
  have hi := isOp_hasU h
  have H : Hid (hasU op = true) := h
  clear h
  go_enter Try.func43, Try.ntmps43
  go_wp2_with (first | (go_at_call 63; refine (isOp_any _ _).mono ?_; rintro e w' ⟨rfl, rfl⟩) | (go_at_call 64; refine (unit_any _ _ H.out).mono ?_; rintro e w' ⟨rfl, rfl⟩))
  go_ret2
  exact ⟨rfl, rfl⟩
theorem foldUnit_unit (op n : Int) (w : World) (hi : isOpV op = true) (h : hasU op = false) : Calls Try.prog 43 #[.int .i64 op, .int .i64 n] w fun e w' => e = .returned (.tuple #[.int .i64 0, .int .i64 11]) ∧ w' = w := by
  have H : Hid (hasU op = false) := h
  clear h
  go_enter Try.func43, Try.ntmps43
  go_wp2_with (first | (go_at_call 63; refine (isOp_any _ _).mono ?_; rintro e w' ⟨rfl, rfl⟩) | (go_at_call 64; refine (unit_not _ _ H.out).mono ?_; rintro e w' ⟨rfl, rfl⟩))
  go_ret2
  exact ⟨rfl, rfl⟩
theorem foldUnit_op (op n : Int) (w : World) (hi : isOpV op = false) : Calls Try.prog 43 #[.int .i64 op, .int .i64 n] w fun e w' => e = .returned (.tuple #[.int .i64 0, .int .i64 10]) ∧ w' = w := by
  go_enter Try.func43, Try.ntmps43
  go_wp2_with (first | (go_at_call 63; refine (isOp_any _ _).mono ?_; rintro e w' ⟨rfl, rfl⟩))
  go_ret2
  exact ⟨rfl, rfl⟩
theorem foldErr_ok {op n : Int} (h : foldErr op n = 0) : hasU op = true ∧ n ≤ 65536 := by
  unfold foldErr at h
  split at h
  · omega
  split at h
  · omega
  split at h
  · omega
  · rename_i h1 _; exact ⟨by simpa using h1, by omega⟩
theorem foldUnit_err (op n : Int) (w : World) (h : foldErr op n ≠ 0) : Calls Try.prog 43 #[.int .i64 op, .int .i64 n] w fun e w' => e = .returned (.tuple #[.int .i64 0, .int .i64 (foldErr op n)]) ∧ w' = w := by
  unfold foldErr at h ⊢
  split
  · rename_i h1; exact foldUnit_op op n w h1
  · rename_i h1
    split
    · rename_i h2; exact foldUnit_unit op n w (by simpa using h1) h2
    · rename_i h2
      split
      · rename_i h3; exact foldUnit_long op n w (by simpa using h2) h3
      · rename_i h3; rw [if_neg h1, if_neg h2, if_neg h3] at h; exact absurd rfl h

theorem fold_err (op : Int) (a : Option Addr) (n cap : Nat) (w : World) (h : foldErr op n ≠ 0) : Calls Try.prog 23 #[.int .i64 op, .slice a n cap] w fun e w' => e = .returned (.tuple #[.int .i64 0, .int .i64 (foldErr op n)]) ∧ w' = w := by
  have hb : (foldErr op n != 0) = true := by rw [bne_iff_ne]; exact h
  have H : Hid (foldErr op n ≠ 0) := h
  clear h
  go_enter Try.func23, Try.ntmps23
  go_wp2_with (go_at_call 43; refine (foldUnit_err _ _ _ H.out).mono ?_; rintro e w' ⟨rfl, rfl⟩)
  go_ret2
  exact ⟨rfl, rfl⟩
theorem fold_ok (op : Int) (a : Option Addr) (n cap : Nat) (zs : List Int) (w : World) (h : foldErr op n = 0) (hn : zs.length = n) (hs : Seg w a cap zs) : Calls Try.prog 23 #[.int .i64 op, .slice a n cap] w fun e w' => e = .returned (.tuple #[.int .i64 (foldV op zs), .int .i64 0]) ∧ w' = w := by
  subst hn
  obtain ⟨hU, hle⟩ := foldErr_ok h
  obtain ⟨hc, hm, hcell⟩ := hs
  unfold maxLen at hm
  have HI : Hid (isOpV op = true) := isOp_hasU hU
  have HU : Hid (hasU op = true) := hU
  clear h hU
  rcases hcell with rfl | ⟨b, off, rfl, hcell⟩
  · have E : Hid (foldV op [] = unitV op) := rfl
    go_enter Try.func23, Try.ntmps23
    go_wp2_with (go_at_call 43; refine (foldUnit_ok _ _ _ HU.out (by omega)).mono ?_; rintro e w' ⟨rfl, rfl⟩)
    go_loop [6, 22] (fun v i => i = .int .i64 0 ∧ v = .int .i64 (unitV op)) (fun _ _ => 0)
    case atStart => exact ⟨rfl, rfl⟩
    case round =>
      obtain ⟨rfl, rfl⟩ := hrel
      go_wp2
      go_ret2
      exact ⟨by rw [E.out]; rfl, rfl⟩
  · go_enter Try.func23, Try.ntmps23
    go_wp2_with (go_at_call 43; refine (foldUnit_ok _ _ _ HU.out (by omega)).mono ?_; rintro e w' ⟨rfl, rfl⟩)
    go_loop [6, 22] (fun v i => ∃ k : Nat, k ≤ zs.length ∧ i = .int .i64 k ∧ v = .int .i64 (foldK op zs k)) (fun _ i => zs.length - (intOf i).toNat)
    case atStart => exact ⟨0, by omega, rfl, by rw [foldK_zero]⟩
    case round =>
      obtain ⟨k, hk, rfl, rfl⟩ := hrel
      by_cases hlt : k < zs.length
      · have hck := hcell k hlt
        have E : Hid (workV op (foldK op zs k) (zs.getD k 0) = foldK op zs (k + 1)) := foldK_succ op zs k hlt
        clear hcell
        generalize zs.getD k 0 = z at hck E
        go_wp2_with (go_at_call 44; refine (work_any _ _ _ _ HI.out).mono ?_; rintro e w' ⟨rfl, rfl⟩)
        exact ⟨⟨k + 1, by omega, by go_num, by rw [← E.out]⟩, by simp [intOf]; omega⟩
      · have E : Hid (foldK op zs k = foldV op zs) := foldK_end op zs k (by omega)
        go_wp2
        go_ret2
        exact ⟨by rw [← E.out]; rfl, rfl⟩
end
end Go.Proofs.Ytdiabpoafennlab
/-! Views that hold numbers: a new one, how one is put into, how two are joined, how one is told. -/
namespace Go.Proofs.Ytdiabpoafennlab.Nm
set_option linter.unusedVariables false
set_option maxRecDepth 20000
set_option linter.unusedSimpArgs false
open Go.RowKit Go.HeapKit Go.PlainOps

theorem fresh_ok (p : Nat) (u : Int) (w : World) (h : w.cell? ⟨p, 0, none⟩ = some (.int .i64 u)) : Calls Try.prog 51 #[.pointer (some ⟨p, 0, none⟩)] w fun e w' => e = .returned (.int .i64 u) ∧ w' = w := by
  go_enter Try.func51, Try.ntmps51
  go_wp2
  go_ret
  exact ⟨rfl, rfl⟩
theorem hasU_op {op : Int} (h : hasU op = true) : isOpV op = true := by
  unfold hasU at h
  unfold isOpV
  simp at h
  simp
  omega
theorem app_ok (p : Nat) (op a b : Int) (w : World) (h : w.cell? ⟨p, 0, none⟩ = some (.int .i64 op)) (ho : hasU op = true) : Calls Try.prog 49 #[.int .i64 a, .int .i64 b, .pointer (some ⟨p, 0, none⟩)] w fun e w' => e = .returned (.int .i64 (workV op a b)) ∧ w' = w := by
  have HO : Hid (isOpV op = true) := hasU_op ho
  go_enter Try.func49, Try.ntmps49
  go_wp2_with fail
  refine (apply_any op a b w HO.out).mono ?_
  rintro e w1 ⟨rfl, rfl⟩
  go_wp2
  go_ret
  exact ⟨rfl, rfl⟩
theorem tell_ok (v : Int) (w : World) : Calls Try.prog 52 #[.int .i64 v] w fun e w' => e = .returned (.int .i64 v) ∧ w' = w := by
  go_enter Try.func52, Try.ntmps52
  go_wp2
  go_ret
  exact ⟨rfl, rfl⟩
theorem fV_put (K : NP) (l : List Int) (x : Int) : workV K.op (fV K l) x = fV K (l ++ [x]) := by simp [fV, foldV]
theorem fV_join (K : NP) (h : hasU K.op = true) (l r : List Int) (hl : Fits l) (hr : Fits r) : workV K.op (fV K l) (fV K r) = fV K (l ++ r) := (foldV_append K.op h l r hl hr).symm
/-- 'append(numbers, number)'. -/
theorem fvs_more (K : NP) (base : Nat) (a : Option Addr) (c : Nat) (vs : List (List Int)) (x : Int) (ty g0 : Nat) (w : World) (h : w.ownsRow base 2 1 (.slice a vs.length c) vs.length (fvs K vs)) (hb : base ≤ w.heap.size) (hlen : vs.length ≤ 100000)
    (hg0 : w.heap[g0]? = some (.cells #[.int .i64 x] 2 (0, 0))) :
    ∃ g cap w', (Builtin.append_ #[28, 28] ty #[.slice a vs.length c, .slice (some ⟨g0, 0, none⟩) 1 1]).run Try.prog w = .ok (.slice (some ⟨g, 0, none⟩) (vs.length + 1) cap) w' ∧
      w'.ownsRow base 2 1 (.slice (some ⟨g, 0, none⟩) (vs.length + 1) cap) (vs.length + 1) (fvs K vs ++ [.int .i64 x]) ∧ Keeps (fun k => (Value.slice a vs.length c).ownBlock = some k) w w' ∧ ((Value.slice a vs.length c).ownBlock = some g ∨ w.heap.size ≤ g) := by
  have hl : (vs.map (fV K)).length = vs.length := List.length_map _
  have := i64_more base (.slice a vs.length c) (vs.map (fV K)) x ty g0 w (by rw [hl]; exact h) hb (by rw [hl]; omega) hg0
  rw [hl] at this
  obtain ⟨g, cap, w', h1, h2, h3⟩ := this
  exact ⟨g, cap, w', h1, by simpa [fvs, iv] using h2, h3⟩
end Go.Proofs.Ytdiabpoafennlab.Nm
