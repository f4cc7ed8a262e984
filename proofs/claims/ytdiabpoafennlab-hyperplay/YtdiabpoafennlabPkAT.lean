import Derived.Test.YtdiabpoafennlabPkAS
import Derived.Test.YtdiabpoafennlabPkAL
import Derived.WalkKit
import Derived.ProofKit
import Derived.OpenShut
import Derived.Deep.Slices
import Derived.Test.YtdiabpoafennlabPkAB
import Derived.SizedLaws
/-! The document's answer: what is refused, Play, Fold. -/
namespace Go.Proofs.Ytdiabpoafennlab.Rn
set_option linter.unusedVariables false
set_option maxRecDepth 20000
set_option linter.unusedSimpArgs false
open Go.RowKit Go.HeapKit Go.PlainOps

set_option maxHeartbeats 1600000 in
theorem rrefused_ok (a : Option Addr) (n c : Nat) (l : List Dd) (sa : Option Addr) (m sc : Nat) (st : List Bool) (pa : Option Addr) (k pc : Nat) (pk : List Int) (w : World) (hS : Seen w a n l) (hm : m = st.length) (hk : k = pk.length) :
    Calls Try.prog 18 #[.slice a n c, .slice sa m sc, .slice pa k pc] w fun e w' => e = .returned (.int .i64 (refE l st pk)) ∧ Keeps None w w' := by
  have HS : Hid (Seen w a n l ∧ n = l.length) := ⟨hS, hS.len⟩
  have hn := hS.len
  clear hS
  by_cases h1 : 4096 < n
  · have h2 : (4096 : Int) < (n : Int) := by omega
    have hE : refE l st pk = 2 := by unfold refE; rw [if_pos (by omega)]
    have HE : Hid (refE l st pk = 2) := hE
    clear hE hn hm hk h1
    go_enter Try.func18, Try.ntmps18
    go_wp2
    all_goals (go_ret; exact ⟨by rw [HE.out]; rfl, Keeps.refl _ _⟩)
  · have h2 : ¬ (4096 : Int) < (n : Int) := by omega
    by_cases h3 : 4096 < m
    · have h4 : (4096 : Int) < (m : Int) := by omega
      have hE : refE l st pk = 2 := by unfold refE; rw [if_pos (by omega)]
      have HE : Hid (refE l st pk = 2) := hE
      clear hE hn hm hk h1 h3
      go_enter Try.func18, Try.ntmps18
      go_wp2
      all_goals (go_ret; exact ⟨by rw [HE.out]; rfl, Keeps.refl _ _⟩)
    · have h4 : ¬ (4096 : Int) < (m : Int) := by omega
      by_cases h5 : 1048576 < k
      · have h6 : (1048576 : Int) < (k : Int) := by omega
        have hE : refE l st pk = 2 := by unfold refE; rw [if_pos (by omega)]
        have HE : Hid (refE l st pk = 2) := hE
        clear hE hn hm hk h1 h3 h5
        go_enter Try.func18, Try.ntmps18
        go_wp2
        all_goals (go_ret; exact ⟨by rw [HE.out]; rfl, Keeps.refl _ _⟩)
      · have h6 : ¬ (1048576 : Int) < (k : Int) := by omega
        have hE : refE l st pk = chkE l := by unfold refE; rw [if_neg (by omega)]
        have HE : Hid (refE l st pk = chkE l) := hE
        clear hE hn hm hk h1 h3 h5
        go_enter Try.func18, Try.ntmps18
        go_wp2_with fail
        all_goals
          refine (rcheck_two a n c l w HS.out.1).mono ?_
          rintro e w1 ⟨rfl, hk1⟩
          obtain ⟨E, hE⟩ : ∃ E, E = chkE l := ⟨_, rfl⟩
          obtain ⟨A1, hA⟩ : ∃ A1, A1 = chkA l := ⟨_, rfl⟩
          rw [← hE, ← hA]
          have HEE : Hid (E = chkE l) := hE
          have b2 := heap_alloc_new w1 (.cells #[.int .i64 E, .int .i64 A1] 85)
          have HK : Hid (Keeps None w (w1.alloc (.cells #[.int .i64 E, .int .i64 A1] 85))) := hk1.andAlloc (.cells #[.int .i64 E, .int .i64 A1] 85)
          have g0 : (w1.alloc (.cells #[.int .i64 E, .int .i64 A1] 85)).cell? ⟨w1.heap.size, 0, none⟩ = some (.int .i64 E) := (blk_cell b2 0).trans rfl
          clear hk1 b2 hE hA
          go_wp2
          go_ret
          exact ⟨by rw [HE.out, ← HEE.out]; rfl, HK.out⟩
/-- What is written elsewhere leaves what was told as it was. -/
structure RTold (w : World) (base : Nat) (K : RP) (X : RX) (L M : Nat → Value) (s : PS) : Prop where
  vw : Vw w base K X.va X.vc X.la X.lc L M s.vs s.lk
  mg : w.ownsRow base 96 3 (.slice X.ma s.mg.length X.mc) s.mg.length (mgV s.mg)
theorem RTold.kept {S : Nat → Prop} {w w' : World} {base : Nat} {K : RP} {X : RX} {L M : Nat → Value} {s : PS} (h : RTold w base K X L M s) (hk : Keeps S w w') (hS : ∀ i, base ≤ i → ¬ S i) : RTold w' base K X L M s :=
  ⟨⟨row_kept h.vw.views hk (fun b e => hS b (row_low h.vw.views e)), fun i hi => row_kept (h.vw.rows i hi) hk (fun b e => hS b (row_low (h.vw.rows i hi) e)), row_kept h.vw.looks hk (fun b e => hS b (row_low h.vw.looks e)), fun i hi => row_kept (h.vw.told i hi) hk (fun b e => hS b (row_low (h.vw.told i hi) e))⟩, row_kept h.mg hk (fun b e => hS b (row_low h.mg e))⟩
theorem RFin.told {w : World} {base pb : Nat} {K : RP} {X : RX} {L M : Nat → Value} {s : PS} (h : RFin w base pb K X L M s) : RTold w base K X L M s := ⟨h.vw, h.mg⟩
theorem RTold.looks {w : World} {base : Nat} {K : RP} {X : RX} {L M : Nat → Value} {s : PS} (h : RTold w base K X L M s) : SeenL w X.la s.lk.length s.lk := by
  refine ⟨rfl, fun k x hx => ?_⟩
  have hk := (List.getElem?_eq_some_iff.1 hx).1
  obtain ⟨g, e, _, _, _, hc, _⟩ := own_cellS h.vw.looks (k := k) (range_get _ hk)
  have hr := h.vw.told k hk
  have e2 : s.lk.getD k [] = x := by simp [hx]
  rw [e2] at hr
  obtain ⟨y, c, h3⟩ := row_shape hr
  rw [h3] at hr hc
  exact ⟨g, 0, y, c, e, by rw [Nat.zero_add]; exact hc, own_seen1 hr⟩
theorem RTold.merges {w : World} {base : Nat} {K : RP} {X : RX} {L M : Nat → Value} {s : PS} (h : RTold w base K X L M s) : SeenM w X.ma s.mg := fun k x hx => by
  obtain ⟨h0, h1, h2⟩ := mgV_at s.mg k x hx
  obtain ⟨g, e, _, _, _, c0, _⟩ := own_cellS h.mg h0
  obtain ⟨g1, e1, _, _, _, c1, _⟩ := own_cellS h.mg h1
  obtain ⟨g2, e2, _, _, _, c2, _⟩ := own_cellS h.mg h2
  rw [e] at e1 e2
  injection e1 with e1
  injection e1 with e1
  injection e2 with e2
  injection e2 with e2
  subst e1 e2
  exact ⟨_, e, c0, c1, c2⟩
theorem RTold.final {w : World} {base : Nat} {K : RP} {X : RX} {L M : Nat → Value} {l : List Dd} {st : List Bool} {pk : List Int} (h : RTold w base K X L M (finPS l st pk)) (hc : chkL l 0 0 = none) : ∃ fa fc, L 0 = .slice fa (putsD l).length fc ∧ SeenV w fa (putsD l).length (iv (putsD l)) := by
  have hr := h.vw.rows 0 (finPS_len l st pk hc)
  rw [fin_puts] at hr
  obtain ⟨fa, fc, e⟩ := row_shape hr
  rw [e] at hr
  exact ⟨fa, fc, e, own_seen1 hr⟩
theorem RFin.more {w w' : World} {base pb : Nat} {K : RP} {X : RX} {L M : Nat → Value} {s : PS} (h : RFin w base pb K X L M s) (hk : Keeps None w w') : RFin w' base pb K X L M s :=
  ⟨h.vw.other (t := 0) hk (fun _ f => f.elim) (by decide) (by decide) (by decide), row_kept h.mg hk (fun _ _ f => f), hk.cell h.c2 (fun f => f), hk.cell h.c7 (fun f => f), hk.cell h.c8 (fun f => f), hk.cell h.c9 (fun f => f), hk.cell h.c10 (fun f => f)⟩
theorem whole_play (a : Option Addr) (n c : Nat) (l : List Dd) (sa : Option Addr) (m sc : Nat) (st : List Bool) (pa : Option Addr) (k pc : Nat) (pk : List Int) (w : World) (hS : Seen w a n l) (hT : SeenV w sa m (bv' st)) (hP : SeenV w pa k (iv pk)) (hE : refE l st pk = 0) (hf : Fits (l.map Dd.loc)) :
    Calls Try.prog 19 #[.int .i64 (-1), .int .i64 0, .slice a n c, .slice sa m sc, .slice pa k pc] w fun e w' =>
      ∃ pb X L M, e = .returned (.pointer (some ⟨pb, 0, none⟩)) ∧ RFin w' w.heap.size pb ⟨-1, 0, pk, pa, pc⟩ X L M (finPS l st pk) ∧ Keeps None w w' := by
  obtain ⟨h1, h2, h3, hc⟩ := refE_ok hE
  exact whole_ok ⟨-1, 0, pk, pa, pc⟩ a n c l sa m sc st k w hS hT hP (.inl ⟨by show (-1 : Int) < 0; decide, rfl⟩) (by have := hS.len; omega) h2 h3 hc hf
set_option maxHeartbeats 1600000 in
theorem RPlay_told (a : Option Addr) (n c : Nat) (l : List Dd) (sa : Option Addr) (m sc : Nat) (st : List Bool) (pa : Option Addr) (k pc : Nat) (pk : List Int) (w : World) (hS : Seen w a n l) (hT : SeenV w sa m (bv' st)) (hP : SeenV w pa k (iv pk)) (hf : Fits (l.map Dd.loc)) :
    Calls Try.prog 8 #[.slice a n c, .slice sa m sc, .slice pa k pc] w fun e w' =>
      ∃ fa fc ma mc la lc, e = .returned (.tuple #[.agg #[.slice fa (finT l st pk).length fc, .int .i64 (madeT l st pk), .slice ma (mgT l st pk).length mc, .slice la (lkT l st pk).length lc], .int .i64 (refE l st pk)]) ∧
        SeenV w' fa (finT l st pk).length (iv (finT l st pk)) ∧ SeenL w' la (lkT l st pk).length (lkT l st pk) ∧ SeenM w' ma (mgT l st pk) ∧ Keeps None w w' := by
  have HS : Hid (Seen w a n l ∧ SeenV w sa m (bv' st) ∧ SeenV w pa k (iv pk) ∧ Fits (l.map Dd.loc)) := ⟨hS, hT, hP, hf⟩
  have hm := hT.len
  have hk := hP.len
  rw [bv_len] at hm
  rw [iv_len] at hk
  have HL : Hid (m = st.length ∧ k = pk.length) := ⟨hm, hk⟩
  clear hS hT hP hm hk hf
  have hb0 := blk_new w (.cells #[.slice none 0 0, .int .i64 0, .slice none 0 0, .slice none 0 0] 32) w.heap.size rfl
  have hkb := Keeps.alloc None w (.cells #[.slice none 0 0, .int .i64 0, .slice none 0 0, .slice none 0 0] 32)
  obtain ⟨db, hdb⟩ : ∃ db, db = w.heap.size := ⟨_, rfl⟩
  rw [← hdb] at hb0
  obtain ⟨E, hE⟩ : ∃ E, E = refE l st pk := ⟨_, rfl⟩
  rw [← hE]
  have HE : Hid (E = refE l st pk) := hE
  clear hE
  go_enter Try.func8, Try.ntmps8
  go_upto_region 1 with fail
  rw [← hdb]
  have HDB : Hid (db = w.heap.size) := hdb
  clear hdb
  generalize w.alloc (.cells #[.slice none 0 0, .int .i64 0, .slice none 0 0, .slice none 0 0] 32) = wa at *
  have HA : Hid (wa.heap[db]? = some (.cells #[.slice none 0 0, .int .i64 0, .slice none 0 0, .slice none 0 0] 32 (0, 0)) ∧ Keeps None w wa) := ⟨hb0, hkb⟩
  clear hb0 hkb
  go_wp2_with fail
  refine (rrefused_ok a n c l sa m sc st pa k pc pk wa (HS.out.1.more HA.out.2) HL.out.1 HL.out.2).mono ?_
  rintro e w1 ⟨rfl, hk1⟩
  rw [← HE.out]
  have HB : Hid (w1.heap[db]? = some (.cells #[.slice none 0 0, .int .i64 0, .slice none 0 0, .slice none 0 0] 32 (0, 0)) ∧ Keeps None w w1) := ⟨blk_kept HA.out.1 hk1 (fun f => f), HA.out.2.trans hk1 (fun _ f _ => f)⟩
  clear hk1 HA
  by_cases h0 : E = 0
  · subst h0
    go_wp2_with fail
    refine (whole_play a n c l sa m sc st pa k pc pk w1 (HS.out.1.more HB.out.2) (HS.out.2.1.more HB.out.2) (HS.out.2.2.1.more HB.out.2) HE.out.symm HS.out.2.2.2).mono ?_
    rintro e w3 ⟨pb, X, L, M, rfl, hM, hk3⟩
    obtain ⟨fa, fc, hL0, hfin⟩ := hM.told.final (refE_ok HE.out.symm).2.2.2
    obtain ⟨NF, hNF⟩ : ∃ N, N = (finT l st pk).length := ⟨_, rfl⟩
    obtain ⟨NM, hNM⟩ : ∃ N, N = madeT l st pk := ⟨_, rfl⟩
    obtain ⟨NG, hNG⟩ : ∃ N, N = (mgT l st pk).length := ⟨_, rfl⟩
    obtain ⟨NL, hNL⟩ : ∃ N, N = (lkT l st pk).length := ⟨_, rfl⟩
    have eF : finT l st pk = putsD l := by unfold finT; rw [if_pos HE.out.symm]
    have eM : madeT l st pk = (finPS l st pk).vs.length := by unfold madeT; rw [if_pos HE.out.symm]
    have eG : mgT l st pk = (finPS l st pk).mg := by unfold mgT; rw [if_pos HE.out.symm]
    have eL : lkT l st pk = (finPS l st pk).lk := by unfold lkT; rw [if_pos HE.out.symm]
    have c7 := hM.c7
    have c8 := hM.c8
    have c9 := hM.c9
    have c10 := hM.c10
    rw [hL0, ← eF, ← hNF] at c7
    rw [← eM, ← hNM] at c8
    rw [← eG, ← hNG] at c9
    rw [← eL, ← hNL] at c10
    have HF : Hid (SeenV w3 fa NF (iv (finT l st pk)) ∧ SeenL w3 X.la NL (lkT l st pk) ∧ SeenM w3 X.ma (mgT l st pk) ∧ Keeps None w w3 ∧ w3.heap[db]? = some (.cells #[.slice none 0 0, .int .i64 0, .slice none 0 0, .slice none 0 0] 32 (0, 0)) ∧ RFin w3 w1.heap.size pb ⟨-1, 0, pk, pa, pc⟩ X L M (finPS l st pk) ∧ db < w1.heap.size ∧ L 0 = .slice fa NF fc) := by
      refine ⟨by rw [hNF, eF]; exact hfin, by rw [hNL, eL]; exact hM.told.looks, by rw [eG]; exact hM.told.merges, HB.out.2.trans hk3 (fun _ f _ => f), blk_kept HB.out.1 hk3 (fun f => f), hM, blk_lt HB.out.1, by rw [hL0, hNF, eF]⟩
    have HN : Hid (NF = (finT l st pk).length ∧ NM = madeT l st pk ∧ NG = (mgT l st pk).length ∧ NL = (lkT l st pk).length) := ⟨hNF, hNM, hNG, hNL⟩
    have g0 : w3.cell? ⟨db, 0, none⟩ = some (.slice none 0 0) := blk_cell HF.out.2.2.2.2.1 0
    have g1 : w3.cell? ⟨db, 1, none⟩ = some (.int .i64 0) := blk_cell HF.out.2.2.2.2.1 1
    have g2 : w3.cell? ⟨db, 2, none⟩ = some (.slice none 0 0) := blk_cell HF.out.2.2.2.2.1 2
    have g3 : w3.cell? ⟨db, 3, none⟩ = some (.slice none 0 0) := blk_cell HF.out.2.2.2.2.1 3
    have f0 := blk_free HF.out.2.2.2.2.1 0
    have f1 := blk_free HF.out.2.2.2.2.1 1
    have f2 := blk_free HF.out.2.2.2.2.1 2
    have f3 := blk_free HF.out.2.2.2.2.1 3
    clear hM hk3 hL0 hfin hNF hNM hNG hNL eF eM eG eL
    go_wp2_with fail
    refine views_end (u := .int .i64 0) 6 7 rfl rfl HF.out.2.2.2.2.1 rfl rfl rfl (.slice fa NF fc) (.int .i64 NM) (.slice X.ma NG X.mc) (.slice X.la NL X.lc) (fun w' hk => ?_)
    obtain ⟨k1, k2, k3, k4, k5, k6, k7, k8⟩ := HF.out
    have hM := k6.told.kept hk (fun i hi e => by subst e; exact absurd k7 (Nat.not_lt.2 hi))
    obtain ⟨fa2, fc2, hL0, hfin⟩ := hM.final (refE_ok HE.out.symm).2.2.2
    have eF : finT l st pk = putsD l := by unfold finT; rw [if_pos HE.out.symm]
    have eG : mgT l st pk = (finPS l st pk).mg := by unfold mgT; rw [if_pos HE.out.symm]
    have eL : lkT l st pk = (finPS l st pk).lk := by unfold lkT; rw [if_pos HE.out.symm]
    rw [k8] at hL0
    injection hL0 with e1 e2 e3
    subst e1
    refine ⟨fa, fc, X.ma, X.mc, X.la, X.lc, by rw [← HN.out.1, ← HN.out.2.1, ← HN.out.2.2.1, ← HN.out.2.2.2], by rw [eF]; exact hfin, by rw [eL]; exact hM.looks, by rw [eG]; exact hM.merges, k4.trans hk (fun i e hi => by have := HDB.out; omega)⟩
  · have hf : (E != 0) = true := by simp [h0]
    have HB2 := HB.out.1
    have c0 : w1.cell? ⟨db, 0, none⟩ = some (.slice none 0 0) := blk_cell HB2 0
    have c1 : w1.cell? ⟨db, 1, none⟩ = some (.int .i64 0) := blk_cell HB2 1
    have c2 : w1.cell? ⟨db, 2, none⟩ = some (.slice none 0 0) := blk_cell HB2 2
    have c3 : w1.cell? ⟨db, 3, none⟩ = some (.slice none 0 0) := blk_cell HB2 3
    have f0 := blk_free HB2 0
    have f1 := blk_free HB2 1
    have f2 := blk_free HB2 2
    have f3 := blk_free HB2 3
    have h0' : ¬ refE l st pk = 0 := by rw [← HE.out]; exact h0
    have HF : Hid (finT l st pk = [] ∧ madeT l st pk = 0 ∧ mgT l st pk = [] ∧ lkT l st pk = []) := by
      unfold finT madeT mgT lkT
      rw [if_neg h0', if_neg h0', if_neg h0', if_neg h0']
      exact ⟨rfl, rfl, rfl, rfl⟩
    clear HB2 hf h0'
    go_wp2_with fail
    exact views_end (u := .int .i64 E) 6 7 rfl rfl HB.out.1 rfl rfl rfl (.slice none 0 0) (.int .i64 0) (.slice none 0 0) (.slice none 0 0) (fun w' hk => by
      rw [HF.out.1, HF.out.2.1, HF.out.2.2.1, HF.out.2.2.2]
      exact ⟨none, 0, none, 0, none, 0, rfl, SeenV.nil _ _, ⟨rfl, fun k x hx => by simp at hx⟩, fun k x hx => by simp at hx, HB.out.2.trans hk (fun i e hi => by have := HDB.out; omega)⟩)
end Go.Proofs.Ytdiabpoafennlab.Rn
/-! How many views are made, as the law counts them. -/
namespace Go.Proofs.Ytdiabpoafennlab
set_option linter.unusedVariables false
set_option maxRecDepth 20000
set_option linter.unusedSimpArgs false
open Go.RowKit Go.HeapKit

theorem bool_at {w : World} {a : Option Addr} {n : Nat} {st : List Bool} (h : SeenV w a n (bv' st)) {q : Nat} (hq : q < n) : ∃ b off, a = some ⟨b, off, none⟩ ∧ w.cell? ⟨b, off + q, none⟩ = some (.bool (st.getD q false)) := by
  obtain ⟨b, off, v, hsa, -, hv, hc⟩ := h.at hq
  refine ⟨b, off, hsa, ?_⟩
  rw [bv', List.getElem?_map] at hv
  cases hk : st[q]? with
  | none => rw [hk] at hv; cases hv
  | some x =>
    rw [hk] at hv
    rw [hc, ← hv, List.getD_eq_getElem?_getD, hk]
    rfl
theorem row_shrink {w : World} {base : Nat} {e : TypeId} {a : Option Addr} {n c : Nat} {vs : List Value} {x : Value} (h : w.ownsRow base e 1 (.slice a (n + 1) c) (n + 1) (vs ++ [x])) : w.ownsRow base e 1 (.slice a n c) n vs := by
  have hl := h.1
  rw [List.length_append, List.length_singleton] at hl
  refine ⟨by omega, ?_⟩
  rcases h.2 with ⟨_, h0⟩ | ⟨g, cap, cur, e1, hb, hg, hn, hm, hcs, ht⟩
  · omega
  · injection e1 with e1 e2 e3
    refine .inr ⟨g, cap, cur, by rw [e1, e3], hb, hg, by omega, hm, hcs, ?_⟩
    have : cur.toList.take (n * 1) = (cur.toList.take ((n + 1) * 1)).take (n * 1) := by rw [List.take_take]; congr 1; omega
    rw [this, ht, Nat.mul_one, List.take_append_of_le_length (by omega), List.take_of_length_le (by omega)]
theorem nv_snoc (l : List Nat) (x : Nat) : nv (l ++ [x]) = nv l ++ [.int .i64 x] := by simp [nv, iv, nI]
theorem madeL_0 (st : List Bool) (x : Dd) (ds : List (Int × Int)) (n : Nat) (op : List Nat) (h : x.k = 0) : madeL st (dp x :: ds) n op = madeL st ds (n + 1) (n :: op) := by
  rw [madeL_cons, if_pos (show (dp x).1 = 0 from h)]
theorem madeL_1n (st : List Bool) (x : Dd) (ds : List (Int × Int)) (n : Nat) (h : x.k = 1) : madeL st (dp x :: ds) n [] = madeL st ds n [] := by
  rw [madeL_cons, if_neg (show ¬ (dp x).1 = 0 by show ¬ x.k = 0; omega), if_pos (show (dp x).1 = 1 from h)]
theorem madeL_1 (st : List Bool) (x : Dd) (ds : List (Int × Int)) (n t : Nat) (op : List Nat) (h : x.k = 1) : madeL st (dp x :: ds) n (t :: op) = (if st.getD t false = true then 1 else 0) + madeL st ds n op := by
  rw [madeL_cons, if_neg (show ¬ (dp x).1 = 0 by show ¬ x.k = 0; omega), if_pos (show (dp x).1 = 1 from h)]
theorem madeL_2 (st : List Bool) (x : Dd) (ds : List (Int × Int)) (n : Nat) (op : List Nat) (h : ¬ x.k = 0) (h1 : ¬ x.k = 1) : madeL st (dp x :: ds) n op = madeL st ds n op := by
  rw [madeL_cons, if_neg (show ¬ (dp x).1 = 0 from h), if_neg (show ¬ (dp x).1 = 1 from h1)]
end Go.Proofs.Ytdiabpoafennlab
/-! The walk of HyperPicks. -/
namespace Go.Proofs.Ytdiabpoafennlab
set_option linter.unusedVariables false
set_option maxRecDepth 20000
set_option linter.unusedSimpArgs false
open Go.RowKit Go.HeapKit

theorem refE_pk {l : List Dd} {st : List Bool} {pk pk2 : List Int} (h2 : pk2.length ≤ 1048576) : (refE l st pk = 0 → refE l st pk2 = 0) ∧ (refE l st pk ≠ 0 → pk.length ≤ 1048576 → refE l st pk2 ≠ 0) := by
  unfold refE
  constructor
  · intro h
    split at h
    · omega
    · rw [if_neg (by omega)]; exact h
  · intro h h3
    split at h
    · rw [if_pos (by omega)]; omega
    · rw [if_neg (by omega)]; exact h
theorem fin_looks (l : List Dd) (st : List Bool) (pk pk2 : List Int) : (finPS l st pk2).lk = (finPS l st pk).lk := looks_same st (l.map dp) pk pk2
theorem fin_made {l : List Dd} (h : chkL l 0 0 = none) (st : List Bool) (pk pk2 : List Int) : (finPS l st pk2).vs.length = (finPS l st pk).vs.length := by
  show (endMS listK st (l.map dp) pk2).vs.length = (endMS listK st (l.map dp) pk).vs.length
  rw [made_all _ _ _ _ (kinds_of h), made_all _ _ _ _ (kinds_of h)]
/-- Looks are no longer than what is put. -/
theorem look_le (st : List Bool) : ∀ (ds : List (Int × Int)) (n : Nat) (P : List Int) (s : HS (List Int)) (N : Nat), HInv P s → (P ++ putsL ds).length ≤ N → (∀ x ∈ s.lk, x.length ≤ N) → ∀ x ∈ (s.run listK st ds n).lk, x.length ≤ N := by
  intro ds
  induction ds with
  | nil => intro n P s N _ _ h; exact h
  | cons d ds ih =>
    intro n P s N hs hN h
    rw [putsL_cons, ← List.append_assoc] at hN
    refine ih (n + 1) _ _ N (hinv_deed st n d.1 d.2 hs) hN ?_
    have hne := hs.lk.ne
    have hin : s.hand ∈ preL s.ini ++ s.m.row := List.mem_append_right _ (hand_in hne)
    obtain ⟨A, B, hAB⟩ := List.append_of_mem hin
    have hc := hs.line.cat
    rw [hAB, catL_app, catL_cons] at hc
    have hl := congrArg List.length hc
    simp only [List.length_append] at hl hN
    unfold HS.deed
    split
    · exact h
    · split
      · intro x hx
        have hx2 : x ∈ s.lk ++ [s.m.vs.getD s.hand []] := hx
        rcases List.mem_append.1 hx2 with hx2 | hx2
        · exact h x hx2
        · simp only [List.mem_singleton] at hx2
          subst hx2
          omega
      · split
        · exact h
        · split
          · exact h
          · unfold HS.back
            split
            · exact h
            · split <;> exact h
theorem fin_look_le {l : List Dd} (hl : l.length ≤ 4096) (st : List Bool) (pk : List Int) : ∀ x ∈ (finPS l st pk).lk, x.length ≤ 5000 := by
  refine look_le st (l.map dp) 0 [] _ 5000 (hinv_start pk) ?_ (by intro x hx; simp [HS.start] at hx)
  rw [List.nil_append, putsD_eq]
  have := putsD_len l
  omega
theorem fin_look_n {l : List Dd} (h : chkL l 0 0 = none) (hl : l.length ≤ 4096) (st : List Bool) (pk : List Int) : (finPS l st pk).lk.length ≤ 5000 := by
  have : ∀ (ds : List (Int × Int)) (n : Nat) (s : HS (List Int)), (s.run listK st ds n).lk.length ≤ s.lk.length + ds.length := by
    intro ds
    induction ds with
    | nil => intro n s; exact Nat.le_refl _
    | cons d ds ih =>
      intro n s
      refine Nat.le_trans (ih (n + 1) _) ?_
      have hd : (s.deed listK st n d.1 d.2).lk.length ≤ s.lk.length + 1 := by
        unfold HS.deed
        split
        · exact Nat.le_succ _
        · split
          · show (s.lk ++ [_]).length ≤ _; simp
          · split
            · exact Nat.le_succ _
            · split
              · exact Nat.le_succ _
              · unfold HS.back
                split
                · exact Nat.le_succ _
                · split <;> exact Nat.le_succ _
      simp only [List.length_cons]
      omega
  have h2 := this (l.map dp) 0 (HS.start listK pk)
  have h3 : (finPS l st pk).lk.length ≤ 0 + (l.map dp).length := h2
  rw [List.length_map] at h3
  omega
end Go.Proofs.Ytdiabpoafennlab
/-! The walk of HyperCounts. -/
namespace Go.Proofs.Ytdiabpoafennlab
set_option linter.unusedVariables false
set_option maxRecDepth 20000
set_option linter.unusedSimpArgs false
open Go.RowKit Go.HeapKit

/-- Which views are gone behind the first k merges. -/
def goneL (mg : List (Nat × Nat × Nat)) (k V : Nat) : List Bool := (List.range V).map (fun v => decide (v ∈ (mg.take k).map (·.2.2)))
theorem goneL_len (mg : List (Nat × Nat × Nat)) (k V : Nat) : (goneL mg k V).length = V := by simp [goneL]
theorem goneL_at {mg : List (Nat × Nat × Nat)} {k V v : Nat} (hv : v < V) : (goneL mg k V)[v]? = some (decide (v ∈ (mg.take k).map (·.2.2))) := by simp [goneL, hv]
theorem goneL_step {mg : List (Nat × Nat × Nat)} {k V : Nat} {x : Nat × Nat × Nat} (hx : mg[k]? = some x) : (goneL mg k V).set x.2.2 true = goneL mg (k + 1) V := by
  apply List.ext_getElem?
  intro i
  rw [List.getElem?_set]
  have ht : mg.take (k + 1) = mg.take k ++ [x] := by rw [List.take_add_one, hx]; rfl
  by_cases hi : i < V
  · rw [goneL_at hi, goneL_at hi, ht, List.map_append, goneL_len]
    by_cases e : x.2.2 = i
    · subst e; simp [hi]
    · rw [if_neg e]
      congr 1
      simp only [List.mem_append, List.map_cons, List.map_nil, List.mem_singleton]
      simp [Ne.symm e]
  · have h1 : (goneL mg (k + 1) V)[i]? = none := List.getElem?_eq_none (by rw [goneL_len]; omega)
    have h2 : (goneL mg k V)[i]? = none := List.getElem?_eq_none (by rw [goneL_len]; omega)
    rw [h1, h2, goneL_len]
    split
    · rw [if_neg (by omega)]
    · rfl
theorem made_bools (n : Nat) : madeCells (Value.bool false).cells (n * 1) = (bv' (List.replicate n false)).toArray := by
  have hc : (Value.bool false).cells = #[.bool false] := by kernel_rfl
  rw [hc]
  apply Array.ext
  · rw [size_madeCells]; simp [bv']
  · intro i h1 h2
    have hi : i < n := by simpa [bv'] using h2
    simp [madeCells, bv', Nat.mod_one]
theorem make_bools (n : Nat) (w : World) (hn : n ≤ 100000) : ∃ w', (Instr.makeSlice 23 (.int .i64 n) (.int .i64 n)).run Try.prog w = .ok (.slice (some ⟨w.heap.size, 0, none⟩) n n) w' ∧ w'.ownsRow w.heap.size 4 1 (.slice (some ⟨w.heap.size, 0, none⟩) n n) n (bv' (List.replicate n false)) ∧ Keeps None w w' := by
  obtain ⟨i0, hi, hz0, hz1, hz2⟩ := info_parts Try.infoBool
  obtain ⟨M, hM, hs, hr⟩ := run_make_block (P := Try.prog) (w := w) 23 4 i0 _ 1 1 Try.underlying23 hi hz0 hz1 hz2 n (by omega) (by omega)
  rw [made_bools] at hM
  refine ⟨_, hr, ⟨by rw [bv_len]; simp, .inr ⟨_, _, M, rfl, Nat.le_refl _, heap_alloc_new _ _, Nat.le_refl _, ?_, ?_, ?_⟩⟩, Keeps.alloc None w _⟩
  all_goals first
    | (unfold maxLen; omega)
    | (rw [hM]; simp [bv']; done)
    | (rw [hM]; exact List.take_of_length_le (by rw [bv_len]; simp))
theorem goneL_zero (mg : List (Nat × Nat × Nat)) (V : Nat) : List.replicate V false = goneL mg 0 V := by
  apply List.ext_getElem?
  intro i
  by_cases h : i < V
  · rw [goneL_at h, List.getElem?_replicate, if_pos h]; simp
  · rw [List.getElem?_eq_none (by simp; omega), List.getElem?_eq_none (by rw [goneL_len]; omega)]
theorem fin_counts {l : List Dd} {st : List Bool} {pk : List Int} (h : chkL l 0 0 = none) : MgOk (okAt (l.map dp)) [0] (finPS l st pk).vs.length (l.map dp).length (finPS l st pk).mg ∧ (finPS l st pk).vs.length = 1 + madeL st (l.map dp) 0 [] :=
  ⟨counts_all st (l.map dp) pk (kinds_of h), made_all listK st (l.map dp) pk (kinds_of h)⟩
theorem okAt_deed {l : List Dd} {i : Nat} (h : okAt (l.map dp) i) (hi : i < l.length) : ∃ x, l[i]? = some x ∧ (x.k = 2 ∨ x.k = 1) := by
  obtain ⟨d, h1, h2⟩ := h (by simpa using hi)
  rw [List.getElem?_map] at h1
  cases hx : l[i]? with
  | none => rw [hx] at h1; cases h1
  | some x =>
    rw [hx] at h1
    obtain rfl := Option.some.inj h1
    exact ⟨x, rfl, h2⟩
theorem made_le {l : List Dd} (h : l.length ≤ 4096) (st : List Bool) : madeL st (l.map dp) 0 [] ≤ 4096 := by
  have : ∀ (ds : List (Int × Int)) (n : Nat) (op : List Nat), madeL st ds n op ≤ ds.length := by
    intro ds
    induction ds with
    | nil => intro n op; exact Nat.le_refl _
    | cons d ds ih =>
      intro n op
      rw [madeL_cons, List.length_cons]
      split
      · exact Nat.le_succ_of_le (ih _ _)
      · split
        · split
          · exact Nat.le_succ_of_le (ih _ _)
          · have := ih n (by assumption)
            split <;> omega
        · exact Nat.le_succ_of_le (ih _ _)
  have := this (l.map dp) 0 []
  rw [List.length_map] at this
  omega
theorem cell_lt {w : World} {b o : Nat} {v : Value} (h : w.cell? ⟨b, o, none⟩ = some v) : b < w.heap.size := by
  cases hb : w.heap[b]? with
  | none => simp [World.cell?, hb] at h
  | some o => exact (Array.getElem?_eq_some_iff.1 hb).1
theorem seen_far {w wn : World} {p0 p1 M D n0 c0 n1 c1 n2 c2 mc : Nat} {a0 a1 a2 ma : Option Addr} {l : List Dd} {st : List Bool} {mg : List (Nat × Nat × Nat)}
    (h : (wn.cell? ⟨p1, 1, none⟩ = some (.int .i64 M) ∧ wn.cell? ⟨p1, 2, none⟩ = some (.slice ma D mc) ∧ wn.cell? ⟨p0, 0, none⟩ = some (.slice a0 n0 c0) ∧ wn.cell? ⟨p0, 1, none⟩ = some (.slice a1 n1 c1) ∧ wn.cell? ⟨p0, 2, none⟩ = some (.slice a2 n2 c2)) ∧ (Seen wn a0 n0 l ∧ SeenV wn a1 n1 (bv' st)) ∧ SeenM wn ma mg ∧ Keeps None w wn) :
    ∀ wx, Keeps (fun i => wn.heap.size ≤ i) wn wx → (wx.cell? ⟨p1, 1, none⟩ = some (.int .i64 M) ∧ wx.cell? ⟨p1, 2, none⟩ = some (.slice ma D mc) ∧ wx.cell? ⟨p0, 0, none⟩ = some (.slice a0 n0 c0) ∧ wx.cell? ⟨p0, 1, none⟩ = some (.slice a1 n1 c1) ∧ wx.cell? ⟨p0, 2, none⟩ = some (.slice a2 n2 c2)) ∧ Seen wx a0 n0 l ∧ SeenM wx ma mg := by
  intro wx hx
  obtain ⟨⟨h1, h2, h3, h4, h5⟩, ⟨h6, -⟩, h7, -⟩ := h
  have k : ∀ {b o : Nat} {v : Value}, wn.cell? ⟨b, o, none⟩ = some v → wx.cell? ⟨b, o, none⟩ = some v := fun hc => hx.cell hc (fun e => by have h1 := cell_lt hc; have h2 : wn.heap.size ≤ _ := e; simp only at h2; omega)
  exact ⟨⟨k h1, k h2, k h3, k h4, k h5⟩, h6.below hx (Nat.le_refl _), fun i y hy => by
    obtain ⟨g, e, q0, q1, q2⟩ := h7 i y hy
    exact ⟨g, e, k q0, k q1, k q2⟩⟩
theorem pair_take {mg : List (Nat × Nat × Nat)} {k : Nat} {x y : Nat × Nat × Nat} (hp : mg.Pairwise (fun x y => x.2.2 ≠ y.2.1 ∧ x.2.2 ≠ y.2.2 ∧ x.1 ≤ y.1)) (hx : mg[k]? = some x) (hy : y ∈ mg.take k) : y.2.2 ≠ x.2.1 ∧ y.2.2 ≠ x.2.2 := by
  obtain ⟨i, hi, rfl⟩ := List.mem_iff_getElem.1 hy
  obtain ⟨hk, rfl⟩ := List.getElem?_eq_some_iff.1 hx
  rw [List.length_take] at hi
  have := List.pairwise_iff_getElem.1 hp i k (by omega) hk (by omega)
  rw [List.getElem_take]
  exact ⟨this.1, this.2.1⟩
theorem pair_later {mg : List (Nat × Nat × Nat)} {k j : Nat} {x y : Nat × Nat × Nat} (hp : mg.Pairwise (fun x y => x.2.2 ≠ y.2.1 ∧ x.2.2 ≠ y.2.2 ∧ x.1 ≤ y.1)) (hx : mg[k]? = some x) (hy : mg[j]? = some y) (hj : k + 1 ≤ j) : x.1 ≤ y.1 := by
  obtain ⟨hk, rfl⟩ := List.getElem?_eq_some_iff.1 hx
  obtain ⟨hj2, rfl⟩ := List.getElem?_eq_some_iff.1 hy
  exact (List.pairwise_iff_getElem.1 hp k j hk hj2 (by omega)).2.2
end Go.Proofs.Ytdiabpoafennlab
/-! Two answers compared. -/
namespace Go.Proofs.Ytdiabpoafennlab.Rn
set_option linter.unusedVariables false
set_option maxRecDepth 20000
set_option linter.unusedSimpArgs false
open Go.RowKit Go.HeapKit Go.PlainOps

set_option maxHeartbeats 800000 in
theorem sameMerges_ok (a b : Option Addr) (n c d : Nat) (mg : List (Nat × Nat × Nat)) (w : World) (ha : SeenM w a mg) (hb : SeenM w b mg) (hl : n = mg.length) (hz : n ≤ 5000) :
    Calls Try.prog 21 #[.slice a n c, .slice b n d] w fun e w' => e = .returned (.bool true) ∧ Keeps None w w' := by
  have HH : Hid (SeenM w a mg ∧ SeenM w b mg ∧ n = mg.length) := ⟨ha, hb, hl⟩
  clear ha hb hl
  go_enter Try.func21, Try.ntmps21
  go_wp2_with fail
  go_loopw [5] (fun i wr => ∃ k : Nat, k ≤ n ∧ i = .int .i64 k ∧ Keeps None w wr) (fun i _ => n - (intOf i).toNat)
  case atStart => exact ⟨0, Nat.zero_le _, rfl, Keeps.refl _ _⟩
  case round =>
    obtain ⟨k, hk, rfl, hkp⟩ := hrel
    by_cases hkn : k < n
    · obtain ⟨x, hx⟩ : ∃ x, mg[k]? = some x := ⟨mg[k]'(by have := HH.out.2.2; omega), by simp⟩
      obtain ⟨ga, rfl, u0, u1, u2⟩ := (HH.out.1.more hkp) k x hx
      obtain ⟨gb, rfl, v0, v1, v2⟩ := (HH.out.2.1.more hkp) k x hx
      have i1 : (k : Int) < (n : Int) := by omega
      have HK : Hid (Keeps None w wr) := hkp
      clear hx HH hkp
      obtain ⟨x0, x1, x2⟩ := x
      simp only at u0 u1 u2 v0 v1 v2
      go_wp2
      go_quiet (fail)
      go_wp2
      go_roundw
      case rel => exact ⟨k + 1, by omega, by go_num, keeps_tr HK.out (keeps_drewN _ _)⟩
      case measure => simp [intOf]; omega
    · have HK : Hid (Keeps None w wr) := hkp
      clear HH hkp
      go_wp2
      go_ret
      exact ⟨rfl, HK.out⟩
theorem mgT_len (l : List Dd) (st : List Bool) (pk : List Int) : (mgT l st pk).length ≤ 5000 := by
  unfold mgT
  split
  · rename_i h
    obtain ⟨h1, h2, h3, hc⟩ := refE_ok h
    obtain ⟨h4, h5⟩ := fin_counts (st := st) (pk := pk) hc
    have h6 := h4.cnt
    have h7 := made_le h1 st
    simp at h6
    omega
  · simp
theorem lkT_len (l : List Dd) (st : List Bool) (pk : List Int) : (lkT l st pk).length ≤ 5000 ∧ ∀ x ∈ lkT l st pk, x.length ≤ 5000 := by
  unfold lkT
  split
  · rename_i h
    obtain ⟨h1, h2, h3, hc⟩ := refE_ok h
    exact ⟨fin_look_n hc h1 st pk, fin_look_le h1 st pk⟩
  · exact ⟨by simp, fun x hx => by simp at hx⟩
theorem finT_len (l : List Dd) (st : List Bool) (pk : List Int) : (finT l st pk).length ≤ 5000 := by
  unfold finT
  split
  · rename_i h
    have := (refE_ok h).1
    have := putsD_len l
    omega
  · simp
/-- One answer. -/
structure Ans (w : World) (f : List Int) (m : Nat) (mg : List (Nat × Nat × Nat)) (lk : List (List Int)) (fa ma la : Option Addr) : Prop where
  fin : SeenV w fa f.length (iv f)
  lk : SeenL w la lk.length lk
  mg : SeenM w ma mg
theorem Ans.more {w w' : World} {f : List Int} {m : Nat} {mg : List (Nat × Nat × Nat)} {lk : List (List Int)} {fa ma la : Option Addr} (h : Ans w f m mg lk fa ma la) (hk : Keeps None w w') : Ans w' f m mg lk fa ma la := ⟨h.fin.more hk, h.lk.more hk, h.mg.more hk⟩
set_option maxHeartbeats 1600000 in
theorem sameViews_ok (f : List Int) (m : Nat) (mg : List (Nat × Nat × Nat)) (lk : List (List Int)) (fa ma la fb mb lb : Option Addr) (nf ng nl c0 c1 c2 d0 d1 d2 : Nat) (w : World) (ha : Ans w f m mg lk fa ma la) (hb : Ans w f m mg lk fb mb lb) (h1 : nf = f.length) (h2 : ng = mg.length) (h3 : nl = lk.length) (z1 : nf ≤ 5000) (z2 : ng ≤ 5000) (z3 : nl ≤ 5000) (z4 : ∀ x ∈ lk, x.length ≤ 5000) :
    Calls Try.prog 9 #[.agg #[.slice fa nf c0, .int .i64 m, .slice ma ng c1, .slice la nl c2], .agg #[.slice fb nf d0, .int .i64 m, .slice mb ng d1, .slice lb nl d2]] w fun e w' => e = .returned (.bool true) ∧ Keeps None w w' := by
  have HA : Hid (Ans w f m mg lk fa ma la ∧ Ans w f m mg lk fb mb lb ∧ nf = f.length ∧ ng = mg.length ∧ nl = lk.length ∧ ∀ x ∈ lk, x.length ≤ 5000) := ⟨ha, hb, h1, h2, h3, z4⟩
  clear ha hb h1 h2 h3 z4
  obtain ⟨p0, hp0⟩ : ∃ p0, p0 = w.heap.size := ⟨_, rfl⟩
  have hb0 := (blk_kept (blk_new w (.cells #[.slice fa nf c0, .int .i64 m, .slice ma ng c1, .slice la nl c2] 32) p0 hp0.symm) (Keeps.alloc None _ (.cells #[.slice fb nf d0, .int .i64 m, .slice mb ng d1, .slice lb nl d2] 32)) (fun f => f))
  have hb1 := blk_new (w.alloc (.cells #[.slice fa nf c0, .int .i64 m, .slice ma ng c1, .slice la nl c2] 32)) (.cells #[.slice fb nf d0, .int .i64 m, .slice mb ng d1, .slice lb nl d2] 32) (p0 + 1) (by simp; omega)
  have hkb := (Keeps.alloc None w (.cells #[.slice fa nf c0, .int .i64 m, .slice ma ng c1, .slice la nl c2] 32)).andAlloc (.cells #[.slice fb nf d0, .int .i64 m, .slice mb ng d1, .slice lb nl d2] 32)
  go_enter Try.func9, Try.ntmps9
  go_upto_region 1 with fail
  rw [← hp0]
  clear hp0
  generalize (w.alloc (.cells #[.slice fa nf c0, .int .i64 m, .slice ma ng c1, .slice la nl c2] 32)).alloc (.cells #[.slice fb nf d0, .int .i64 m, .slice mb ng d1, .slice lb nl d2] 32) = wb at *
  have HC : Hid (∀ wx, Keeps None wb wx → (wx.cell? ⟨p0, 0, none⟩ = some (.slice fa nf c0) ∧ wx.cell? ⟨p0, 1, none⟩ = some (.int .i64 m) ∧ wx.cell? ⟨p0, 2, none⟩ = some (.slice ma ng c1) ∧ wx.cell? ⟨p0, 3, none⟩ = some (.slice la nl c2)) ∧ wx.cell? ⟨p0 + 1, 0, none⟩ = some (.slice fb nf d0) ∧ wx.cell? ⟨p0 + 1, 1, none⟩ = some (.int .i64 m) ∧ wx.cell? ⟨p0 + 1, 2, none⟩ = some (.slice mb ng d1) ∧ wx.cell? ⟨p0 + 1, 3, none⟩ = some (.slice lb nl d2)) := fun wx hx =>
    ⟨⟨(blk_cell (blk_kept hb0 hx (fun f => f)) 0).trans rfl, (blk_cell (blk_kept hb0 hx (fun f => f)) 1).trans rfl, (blk_cell (blk_kept hb0 hx (fun f => f)) 2).trans rfl, (blk_cell (blk_kept hb0 hx (fun f => f)) 3).trans rfl⟩, (blk_cell (blk_kept hb1 hx (fun f => f)) 0).trans rfl, (blk_cell (blk_kept hb1 hx (fun f => f)) 1).trans rfl, (blk_cell (blk_kept hb1 hx (fun f => f)) 2).trans rfl, (blk_cell (blk_kept hb1 hx (fun f => f)) 3).trans rfl⟩
  have HK : Hid (Keeps None w wb) := hkb
  clear hb0 hb1 hkb
  obtain ⟨⟨y0, y1, y2, y3⟩, x0, x1, x2, x3⟩ := HC.out wb (Keeps.refl _ _)
  go_wp2_with fail
  clear y0 y1 y2 y3 x0 x1 x2 x3
  refine (sameInts_ok fa fb nf c0 d0 f wb (by rw [HA.out.2.2.1]; exact HA.out.1.fin.more HK.out) (by rw [HA.out.2.2.1]; exact HA.out.2.1.fin.more HK.out) (by omega)).mono ?_
  rintro e w1 ⟨rfl, k1⟩
  have HK1 : Hid (Keeps None wb w1) := k1
  obtain ⟨⟨y0, y1, y2, y3⟩, x0, x1, x2, x3⟩ := HC.out w1 HK1.out
  clear k1
  go_wp2_with fail
  clear y0 y1 y2 y3 x0 x1 x2 x3
  refine (sameMerges_ok ma mb ng c1 d1 mg w1 ((HA.out.1.more HK.out).more HK1.out).mg ((HA.out.2.1.more HK.out).more HK1.out).mg HA.out.2.2.2.1 z2).mono ?_
  rintro e w2 ⟨rfl, k2⟩
  have HK2 : Hid (Keeps None wb w2) := HK1.out.trans k2 (fun _ f _ => f)
  obtain ⟨⟨y0, y1, y2, y3⟩, x0, x1, x2, x3⟩ := HC.out w2 HK2.out
  clear k2
  go_wp2_with fail
  clear y0 y1 y2 y3 x0 x1 x2 x3
  refine (sameLooks_ok la lb nl c2 d2 lk w2 (by rw [HA.out.2.2.2.2.1]; exact ((HA.out.1.more HK.out).more HK2.out).lk) (by rw [HA.out.2.2.2.2.1]; exact ((HA.out.2.1.more HK.out).more HK2.out).lk) z3 HA.out.2.2.2.2.2).mono ?_
  rintro e w3 ⟨rfl, k3⟩
  have HK3 : Hid (Keeps None w w3) := HK.out.trans (HK2.out.trans k3 (fun _ f _ => f)) (fun _ f _ => f)
  clear k3
  go_wp2
  go_ret
  exact ⟨rfl, HK3.out⟩
end Go.Proofs.Ytdiabpoafennlab.Rn
/-! Structs of 64-bit numbers among the arguments, and slices of them. Whatever the program. -/
namespace Go.HeapKit
open Go.ChangeShapes Go.WideShapes Go.ChangeAt Go.RowKit Go.Deep

section
variable {H : Type} {enc : TypeId × Value → H} {P : Program} {w : World} {base : Nat} {spare : Nat → Bool} {held : Bool}

/-- All fields are 64-bit numbers, one cell each, in order. -/
def allInts (P : Program) (fs : List Field) : Bool :=
  (List.range fs.length).all fun i => match fs[i]? with
    | some f => f.offset == i && (match P.underlying f.type with | some (.int .i64) => true | _ => false) && P.cellsOf f.type == 1
    | none => false
theorem allInts_at {fs : List Field} (h : allInts P fs = true) {i : Nat} {f : Field} (hf : fs[i]? = some f) : f.offset = i ∧ P.underlying f.type = some (.int .i64) ∧ P.cellsOf f.type = 1 := by
  have hi : i < fs.length := (List.getElem?_eq_some_iff.1 hf).1
  have := List.all_eq_true.1 h i (List.mem_range.2 hi)
  rw [hf] at this
  simp only [Bool.and_eq_true, beq_iff_eq] at this
  obtain ⟨⟨h1, h2⟩, h3⟩ := this
  refine ⟨h1, ?_, h3⟩
  split at h2
  · assumption
  · cases h2

theorem struct_ints {t : TypeId} {fs : Array Field} {fuel : Nat} {cs : List Value} {x : DataW H × List MemPlace} (ht : P.underlying t = some (.struct fs)) (ha : allInts P fs.toList = true) (hc : P.cellsOf t = fs.size)
    (h : DataW.trod enc P w base spare held fuel t cs = some x) : ∃ ns : List Int, ns.length = fs.size ∧ cs = ns.map (Value.int .i64) ∧ ∀ n ∈ ns, (Lit.int .i64 n).wf = true := by
  obtain ⟨xs, n, _, rfl, hl, hlen, hf⟩ := DataW.trod_struct ht h
  rw [hc] at hl
  have hat : ∀ i, i < fs.size → ∃ m : Int, cs[i]? = some (.int .i64 m) ∧ (Lit.int .i64 m).wf = true := by
    intro i hi
    have hfi : fs[i]? = some fs[i] := by simp [hi]
    obtain ⟨h1, h2, h3⟩ := allInts_at ha (i := i) (f := fs[i]) (by simp)
    have hq := hf i fs[i] hfi
    rw [h1, h3, show xs[i]? = some xs[i] by simp] at hq
    obtain ⟨m, hm, _, hw⟩ := DataW.trod_int h2 hq
    refine ⟨m, ?_, hw⟩
    have : (List.take 1 (List.drop i cs))[0]? = some (.int .i64 m) := by rw [hm]; rfl
    simpa [List.getElem?_take, List.getElem?_drop] using this
  have hall : ∀ v ∈ cs, ∃ m : Int, v = .int .i64 m ∧ (Lit.int .i64 m).wf = true := by
    intro v hv
    obtain ⟨i, hi, rfl⟩ := List.mem_iff_getElem.1 hv
    obtain ⟨m, hm, hw⟩ := hat i (by omega)
    exact ⟨m, by simpa [hi] using hm, hw⟩
  have hex : ∀ cs : List Value, (∀ v ∈ cs, ∃ m : Int, v = .int .i64 m ∧ (Lit.int .i64 m).wf = true) → ∃ ns : List Int, cs = ns.map (Value.int .i64) ∧ ∀ n ∈ ns, (Lit.int .i64 n).wf = true := by
    intro cs
    induction cs with
    | nil => exact fun _ => ⟨[], rfl, fun _ h => by cases h⟩
    | cons v cs ih =>
      intro hv
      obtain ⟨ns, rfl, hw⟩ := ih (fun u hu => hv u (List.mem_cons_of_mem _ hu))
      obtain ⟨m, rfl, hm⟩ := hv v (List.mem_cons_self ..)
      refine ⟨m :: ns, rfl, ?_⟩
      intro n hn
      rcases List.mem_cons.1 hn with rfl | hn
      · exact hm
      · exact hw n hn
  obtain ⟨ns, rfl, hw⟩ := hex cs hall
  exact ⟨ns, by simpa using hl, rfl, hw⟩

theorem open_struct_ints {r : Reach} {b0 : Nat} {t : TypeId} {fs : Array Field} {v : Value} {d : DataW H} {ps : List MemPlace} (ht : P.underlying t = some (.struct fs)) (ha : allInts P fs.toList = true) (hc : P.cellsOf t = fs.size)
    (hval : Value.okWide P w r b0 t v) (hd : DataW.Trod enc P w base spare held t v d ps) : ∃ ns : List Int, ns.length = fs.size ∧ v = .agg (ns.map (Value.int .i64)).toArray ∧ ∀ n ∈ ns, (Lit.int .i64 n).wf = true := by
  obtain ⟨cs, rfl, hs⟩ := okWide_struct ht hval
  obtain ⟨fuel, hf⟩ := hd
  obtain ⟨ns, hl, he, hw⟩ := struct_ints ht ha hc hf
  refine ⟨ns, hl, ?_, hw⟩
  have : cs.toList = ns.map (Value.int .i64) := by simpa [Value.cells] using he
  rw [← this]

/-- A slice of structs of numbers that came in: nil; or a grid of 'cap' rows, 'size' cells each. -/
def IsGrid (size : Nat) (w : World) (a : Option Addr) (len cap : Nat) (rows : List (List Int)) : Prop :=
  (a = none ∧ len = 0 ∧ cap = 0 ∧ rows = []) ∨
  ∃ x : Addr, a = some x ∧ len ≤ cap ∧ cap ≤ maxLen ∧ rows.length = cap ∧ (∀ i, i < cap → ∃ ns : List Int, rows[i]? = some ns ∧ ns.length = size ∧ (∀ n ∈ ns, (Lit.int .i64 n).wf = true) ∧ ∀ j m, ns[j]? = some m → w.cell? ((x.add (i * size)).add j) = some (.int .i64 m))

theorem grid_slice {t e : TypeId} {x : Addr} {len cap : Nat} {d : DataW H} {ps : List MemPlace} (ht : P.underlying t = some (.slice e)) (hd : DataW.Trod enc P w base spare held t (.slice (some x) len cap) d ps) : ∃ elems sp, d = .slice elems sp := by
  obtain ⟨fuel, hf⟩ := hd
  rcases open_slice ht hf with ⟨h0, _⟩ | ⟨x, l, c, m, n, D, Pl, hcs, _, _, _, _, hx, _⟩
  · simp [Value.cells] at h0
  · simp only [Prod.mk.injEq] at hx
    exact ⟨_, _, hx.1⟩
theorem open_grid {t e : TypeId} {fs : Array Field} {a : Option Addr} {len cap : Nat} {d : DataW H} {ps : List MemPlace} (ht : P.underlying t = some (.slice e)) (he : P.underlying e = some (.struct fs)) (ha : allInts P fs.toList = true) (hc : P.cellsOf e = fs.size)
    (hd : DataW.Trod enc P w base (fun _ => true) held t (.slice a len cap) d ps) : (∃ rows, IsGrid fs.size w a len cap rows) ∧ ∀ elems sp, d = .slice elems sp → elems.length + sp.length = cap := by
  obtain ⟨fuel, hf⟩ := hd
  rcases open_slice ht hf with ⟨h0, hx⟩ | ⟨x, l, c, m, n, D, Pl, hcs, _, hl, hm, hmm, hx, hall⟩
  · simp [Value.cells] at h0
    obtain ⟨rfl, rfl, rfl⟩ := h0
    simp only [Prod.mk.injEq] at hx
    exact ⟨⟨[], .inl ⟨rfl, rfl, rfl, rfl⟩⟩, fun elems sp e => by rw [hx.1] at e; cases e⟩
  · simp [Value.cells] at hcs
    obtain ⟨rfl, rfl, rfl⟩ := hcs
    have hmc : m = cap := by simpa using hmm
    subst hmc
    simp only [Prod.mk.injEq] at hx
    refine ⟨?_, fun elems sp e => by rw [hx.1] at e; injection e with e1 e2; rw [← e1, ← e2]; simp; omega⟩
    have hrow : ∀ i, i < m → ∃ ns : List Int, ns.length = fs.size ∧ (∀ n ∈ ns, (Lit.int .i64 n).wf = true) ∧ ∀ j m, ns[j]? = some m → w.cell? ((x.add (i * fs.size)).add j) = some (.int .i64 m) := by
      intro i hi
      obtain ⟨cs', h1, h2⟩ := hall i hi
      rw [hc] at h1
      obtain ⟨ns, hl, rfl, hw⟩ := struct_ints he ha hc h2
      refine ⟨ns, hl, hw, ?_⟩
      intro j m hj
      obtain ⟨_, hlen, hcell⟩ := World.cells?_some h1
      rw [hcell j (by have := (List.getElem?_eq_some_iff.1 hj).1; omega)]
      simp [hj]
    have hex : ∀ k, k ≤ m → ∃ rows : List (List Int), rows.length = k ∧ ∀ i, i < k → ∃ ns : List Int, rows[i]? = some ns ∧ ns.length = fs.size ∧ (∀ n ∈ ns, (Lit.int .i64 n).wf = true) ∧ ∀ j m, ns[j]? = some m → w.cell? ((x.add (i * fs.size)).add j) = some (.int .i64 m) := by
      intro k
      induction k with
      | zero => exact fun _ => ⟨[], rfl, fun _ h => by omega⟩
      | succ k ih =>
        intro hk
        obtain ⟨rows, hrl, hr⟩ := ih (by omega)
        obtain ⟨ns, h1, h2, h3⟩ := hrow k (by omega)
        refine ⟨rows ++ [ns], by simp [hrl], ?_⟩
        intro i hi
        by_cases hik : i < k
        · obtain ⟨ns', e, r⟩ := hr i hik
          exact ⟨ns', by rw [List.getElem?_append_left (by omega)]; exact e, r⟩
        · obtain rfl : i = k := by omega
          exact ⟨ns, by rw [List.getElem?_append_right (by omega), hrl]; simp, h1, h2, h3⟩
    obtain ⟨rows, hrl, hr⟩ := hex m (Nat.le_refl _)
    exact ⟨rows, .inr ⟨x, rfl, hl, hm, hrl, hr⟩⟩
end
end Go.HeapKit
/-! A game of a reducer among the arguments. -/
namespace Go.Proofs.Ytdiabpoafennlab
set_option linter.unusedVariables false
set_option maxRecDepth 20000
open Go.ChangeShapes Go.WideShapes Go.ChangeAt Go.RowKit Go.HeapKit Go.Deep

def okG (x : Int) : Prop := -9223372036854775808 ≤ x ∧ x ≤ 9223372036854775807
theorem okG_of_wf {x : Int} (h : (Lit.int .i64 x).wf = true) : okG x := by
  have h1 : IntKind.i64.min = -9223372036854775808 := by decide
  have h2 : IntKind.i64.max = 9223372036854775807 := by decide
  simp [Lit.wf, h1, h2] at h
  unfold okG
  omega
section
variable {H : Type} {enc : TypeId × Value → H} {w : World} {base : Nat} {held : Bool}
theorem g_spot_none {w : World} {x : Addr} {v : Value} (h : w.cell? x = some v) : x.spot = none := by
  unfold World.cell? at h
  split at h
  · split at h
    · cases h
    · rename_i hs; simpa using hs
  · cases h
theorem g_spot_first {w : World} {base n : Nat} {x : Addr} {cs : List Value} (h : w.cells? base (x.add (0 * n)) n = some cs) (hn : 0 < n) : x.spot = none := by
  obtain ⟨_, hl, hc⟩ := World.cells?_some h
  have h0 := hc 0 hn
  rw [Nat.zero_mul, show (x.add 0).add 0 = x by unfold Addr.add; simp, List.getElem?_eq_getElem (by omega)] at h0
  exact g_spot_none h0
theorem g_choose {α : Type} (p : Nat → α → Prop) (n : Nat) (h : ∀ i, i < n → ∃ x, p i x) : ∃ l : List α, l.length = n ∧ ∀ i x, l[i]? = some x → p i x := by
  induction n with
  | zero => exact ⟨[], rfl, fun i x hx => by simp at hx⟩
  | succ n ih =>
    obtain ⟨l, hl, hp⟩ := ih (fun i hi => h i (by omega))
    obtain ⟨x, hx⟩ := h n (by omega)
    refine ⟨l ++ [x], by simp [hl], fun i y hy => ?_⟩
    by_cases hi : i < n
    · rw [List.getElem?_append_left (by omega)] at hy
      exact hp i y hy
    · have hlt := (List.getElem?_eq_some_iff.1 hy).1
      simp [hl] at hlt
      obtain rfl : i = n := by omega
      rw [List.getElem?_append_right (by omega), hl] at hy
      simp at hy
      subst hy
      exact hx
theorem g_lt {w : World} {b o : Nat} {v : Value} (h : w.cell? ⟨b, o, none⟩ = some v) : b < w.heap.size := by
  cases hb : w.heap[b]? with
  | none => simp [World.cell?, hb] at h
  | some o => exact (Array.getElem?_eq_some_iff.1 hb).1
def okD (x : Dd) : Prop := okG x.k ∧ okG x.loc
/-- Deeds that came in. -/
theorem open_deeds {fuel : Nat} {cs : List Value} {x : DataW H × List MemPlace} (h : DataW.trod enc Try.prog w base (fun _ => true) held fuel 22 cs = some x) :
    ∃ ca n cc l, cs = [.slice ca n cc] ∧ Seen w ca n l ∧ (∀ i ∈ l, okD i) ∧ n ≤ cc ∧ (n = 0 ∨ ∃ elems sp, x.1 = .slice elems sp ∧ n ≤ elems.length + sp.length) := by
  rcases open_slice Try.underlying22 h with ⟨rfl, _⟩ | ⟨a, len, cap, m, n, D, Pl, rfl, _, hl, hm, hmm, hx, hall⟩
  · exact ⟨none, 0, 0, [], rfl, ⟨rfl, fun h => by omega⟩, (fun i hi => by cases hi), Nat.le_refl _, .inl rfl⟩
  · simp at hmm
    subst hmm
    have hc : Try.prog.cellsOf 44 = 2 := by kernel_rfl
    rw [hc] at hall
    have hex : ∀ i, i < len → ∃ x : Dd, okD x ∧ ∃ b off, a = ⟨b, off, none⟩ ∧ b < w.heap.size ∧ w.cell? ⟨b, off + i * 2, none⟩ = some (.int .i64 x.k) ∧ w.cell? ⟨b, off + i * 2 + 1, none⟩ = some (.int .i64 x.loc) := by
      intro i hi
      obtain ⟨cs', h1, h2⟩ := hall i (by omega)
      obtain ⟨ns, hl, rfl, hw⟩ := struct_ints Try.underlying44 (by kernel_rfl) (by kernel_rfl) h2
      obtain ⟨_, hlen, hcell⟩ := World.cells?_some h1
      have hl5 : ns.length = 2 := hl
      match ns, hl5 with
      | [n0, n1], _ =>
        obtain ⟨b, off, sp⟩ := a
        have hsp : sp = none := by
          obtain ⟨cs0, hz, _⟩ := hall 0 (by omega)
          exact g_spot_first hz (by omega)
        subst hsp
        have hh : ∀ j, j < 2 → w.cell? ⟨b, off + i * 2 + j, none⟩ = ([n0, n1].map (Value.int .i64))[j]? := by
          intro j hj
          have := hcell j hj
          rw [addr_at, addr_at] at this
          exact this
        exact ⟨⟨n0, n1⟩, ⟨okG_of_wf (hw _ (by simp)), okG_of_wf (hw _ (by simp))⟩, b, off, rfl, g_lt (hh 0 (by omega)), hh 0 (by omega), hh 1 (by omega)⟩
    obtain ⟨l, hll, hp⟩ := g_choose _ len hex
    refine ⟨some a, len, m, l, rfl, ⟨hll.symm, fun h0 => ?_⟩, fun i hi => ?_, hl, ?_⟩
    · obtain ⟨_, b, off, rfl, hb, _⟩ := hp 0 (l[0]'(by omega)) (by simp)
      refine ⟨b, off, rfl, hb, fun k i hi => ?_⟩
      obtain ⟨_, b', off', e, _, hat⟩ := hp k i hi
      injection e with e1 e2
      subst e1 e2
      exact ⟨hat.1, hat.2⟩
    · obtain ⟨k, hk, rfl⟩ := List.mem_iff_getElem.1 hi
      exact (hp k _ (by simp)).1
    · exact .inr ⟨_, _, congrArg Prod.fst hx, by simp⟩
/-- One-cell values that came in. -/
theorem open_ints1 {fuel : Nat} {cs : List Value} {x : DataW H × List MemPlace} (h : DataW.trod enc Try.prog w base (fun _ => true) held fuel 24 cs = some x) :
    ∃ ca n cc l, cs = [.slice ca n cc] ∧ SeenV w ca n (iv l) ∧ (∀ i ∈ l, okG i) ∧ n ≤ cc ∧ (n = 0 ∨ ∃ elems sp, x.1 = .slice elems sp ∧ n ≤ elems.length + sp.length) := by
  rcases open_ints Try.underlying24 Try.underlying3 (by kernel_rfl) h with ⟨hcs, _⟩ | ⟨a, l, c, zs, hcs, _, hl, hm, hz, hx, hcell, hwz⟩
  · exact ⟨none, 0, 0, [], hcs, ⟨rfl, fun h => by omega⟩, (fun i hi => by cases hi), Nat.le_refl _, .inl rfl⟩
  · have hz2 : zs.length = c := by simpa using hz
    refine ⟨some a, l, c, zs.take l, hcs, ⟨by rw [iv_len, List.length_take]; omega, fun h0 => ?_⟩, fun i hi => okG_of_wf (hwz i (List.mem_of_mem_take hi)), hl, .inr ⟨_, _, congrArg Prod.fst hx, by simp [lits]; omega⟩⟩
    obtain ⟨b, off, sp⟩ := a
    have hc0 := hcell 0 (by omega)
    have hsp : sp = none := by
      have := g_spot_none hc0
      unfold Addr.add at this
      split at this <;> simp_all
    subst hsp
    rw [addr_at] at hc0
    refine ⟨b, off, rfl, g_lt hc0, fun i v hi => ?_⟩
    have hil := (List.getElem?_eq_some_iff.1 hi).1
    rw [iv_len, List.length_take] at hil
    have := hcell i (by omega)
    rw [addr_at] at this
    rw [this, ← hi]
    simp [iv, show i < l by omega, show i < zs.length by omega]
theorem open_bools1 {fuel : Nat} {cs : List Value} {x : DataW H × List MemPlace} (h : DataW.trod enc Try.prog w base (fun _ => true) held fuel 23 cs = some x) :
    ∃ ca n cc l, cs = [.slice ca n cc] ∧ SeenV w ca n (bv' l) ∧ n ≤ cc ∧ (n = 0 ∨ ∃ elems sp, x.1 = .slice elems sp ∧ n ≤ elems.length + sp.length) := by
  rcases open_slice Try.underlying23 h with ⟨hcs, _⟩ | ⟨a', len, cap, m, n', D, Pl, hcs, _, hl, hm, hmm, hx, hall⟩
  · exact ⟨none, 0, 0, [], hcs, ⟨rfl, fun h => by omega⟩, Nat.le_refl _, .inl rfl⟩
  · simp at hmm
    subst hmm
    have hc : Try.prog.cellsOf 4 = 1 := by kernel_rfl
    rw [hc] at hall
    have hex : ∀ i, i < len → ∃ x : Bool, w.cell? (a'.add i) = some (.bool x) := by
      intro i hi
      obtain ⟨cs', h1, h2⟩ := hall i (by omega)
      obtain ⟨_, hlen, hcell⟩ := World.cells?_some h1
      obtain ⟨x, rfl, _⟩ := DataW.trod_bool Try.underlying4 h2
      have := hcell 0 (by omega)
      refine ⟨x, ?_⟩
      rw [Nat.mul_one] at this
      rw [show (a'.add i).add 0 = a'.add i by unfold Addr.add; split <;> simp_all] at this
      exact this
    obtain ⟨l, hll, hp⟩ := g_choose _ len hex
    refine ⟨some a', len, m, l, hcs, ⟨by rw [bv_len]; exact hll.symm, fun h0 => ?_⟩, hl, .inr ⟨_, _, congrArg Prod.fst hx, by simp⟩⟩
    obtain ⟨b, off, sp⟩ := a'
    have hsp : sp = none := by
      obtain ⟨x, hx⟩ := hex 0 h0
      have := g_spot_none hx
      unfold Addr.add at this
      split at this <;> simp_all
    subst hsp
    refine ⟨b, off, rfl, ?_, fun k v hv => ?_⟩
    · obtain ⟨x, hx⟩ := hex 0 h0
      rw [addr_at] at hx
      exact g_lt hx
    · rw [bv', List.getElem?_map] at hv
      cases hk : l[k]? with
      | none => rw [hk] at hv; cases hv
      | some x =>
        rw [hk] at hv
        obtain rfl := Option.some.inj hv
        have := hp k x hk
        rwa [addr_at] at this
theorem weights_at {P : Program} {ts : List TypeId} {ds : List (DataW H)} (h : (DataW.weightsEach P ts ds).all (· ≤ reachBytes) = true) {j : Nat} {t : TypeId} {d : DataW H} (ht : ts[j]? = some t) (hd : ds[j]? = some d) :
    (d.weights P t).all (· ≤ reachBytes) = true := by
  refine List.all_eq_true.2 fun n hn => ?_
  exact List.all_eq_true.1 h n (DataW.weights_mem_each ht hd n hn)
/-- A game: its three lists. -/
theorem open_hgame {r : Reach} {b0 : Nat} {v : Value} {d : DataW H} {ps : List MemPlace} (hval : Value.okWide Try.prog w r b0 26 v) (hd : DataW.Trod enc Try.prog w base (fun _ => true) held 26 v d ps) :
    ∃ a n c l b m e st p k f pk, v = .agg #[.slice a n c, .slice b m e, .slice p k f] ∧ Seen w a n l ∧ SeenV w b m (bv' st) ∧ SeenV w p k (iv pk) ∧ n ≤ c ∧ m ≤ e ∧ k ≤ f ∧ (∀ i ∈ l, okD i) ∧ (∀ i ∈ pk, okG i) ∧
      ((d.weights Try.prog 26).all (· ≤ reachBytes) = true → n * 16 ≤ reachBytes ∧ m ≤ reachBytes ∧ k * 8 ≤ reachBytes) := by
  obtain ⟨cs, rfl, hs⟩ := okWide_struct Try.underlying26 hval
  rw [show Try.prog.cellsOf 26 = 3 by kernel_rfl] at hs
  obtain ⟨fuel, hf⟩ := hd
  obtain ⟨xs, n, _, hxx, hl', hxl, hf⟩ := DataW.trod_struct Try.underlying26 hf
  have q0 : DataW.trod enc Try.prog w base (fun _ => true) held n 22 (List.take (Try.prog.cellsOf 22) (List.drop 0 (Value.agg cs).cells.toList)) = xs[0]? := hf 0 _ rfl
  have q1 : DataW.trod enc Try.prog w base (fun _ => true) held n 23 (List.take (Try.prog.cellsOf 23) (List.drop 1 (Value.agg cs).cells.toList)) = xs[1]? := hf 1 _ rfl
  have q2 : DataW.trod enc Try.prog w base (fun _ => true) held n 24 (List.take (Try.prog.cellsOf 24) (List.drop 2 (Value.agg cs).cells.toList)) = xs[2]? := hf 2 _ rfl
  have hx1 : xs.length = 3 := hxl
  rw [List.getElem?_eq_getElem (by omega)] at q0 q1 q2
  obtain ⟨cs⟩ := cs
  match cs, hs with
  | [v0, v1, v2], _ =>
    rw [show Try.prog.cellsOf 22 = 1 by kernel_rfl] at q0
    rw [show Try.prog.cellsOf 23 = 1 by kernel_rfl] at q1
    rw [show Try.prog.cellsOf 24 = 1 by kernel_rfl] at q2
    obtain ⟨a0, n0, c0, l0, e0, hS0, ok0, le0, hle0⟩ := open_deeds q0
    obtain ⟨a1, n1, c1, l1, e1, hS1, le1, hle1⟩ := open_bools1 q1
    obtain ⟨a2, n2, c2, l2, e2, hS2, ok2, le2, hle2⟩ := open_ints1 q2
    simp [Value.cells] at e0 e1 e2
    subst e0 e1 e2
    refine ⟨a0, n0, c0, l0, a1, n1, c1, l1, a2, n2, c2, l2, rfl, hS0, hS1, hS2, le0, le1, le2, ok0, ok2, fun hall => ?_⟩
    obtain ⟨x0, x1, x2, rfl⟩ : ∃ x0 x1 x2, xs = [x0, x1, x2] := by
      clear hle0 hle1 hle2 q0 q1 q2 hf hxx
      match xs, hx1 with
      | [x0, x1, x2], _ => exact ⟨_, _, _, rfl⟩
    simp only [List.getElem_cons_succ, List.getElem_cons_zero] at hle0 hle1 hle2
    simp only [Prod.mk.injEq, List.map_cons, List.map_nil] at hxx
    obtain ⟨rfl, _⟩ := hxx
    refine ⟨?_, ?_, ?_⟩
    · rcases hle0 with h0 | ⟨elems, sp, hx, hle⟩
      · subst h0; simp [reachBytes]
      · rw [hx] at hall
        have hm := List.all_eq_true.1 hall ((elems.length + sp.length) * Try.prog.bytesOf 44) (by
          simp [DataW.weights, Try.underlying26, DataW.weightsEach, Try.underlying22])
        rw [show Try.prog.bytesOf 44 = 16 by kernel_rfl] at hm
        simp at hm
        omega
    · rcases hle1 with h0 | ⟨elems, sp, hx, hle⟩
      · subst h0; simp [reachBytes]
      · rw [hx] at hall
        have hm := List.all_eq_true.1 hall ((elems.length + sp.length) * Try.prog.bytesOf 4) (by
          simp [DataW.weights, Try.underlying26, DataW.weightsEach, Try.underlying23])
        rw [show Try.prog.bytesOf 4 = 1 by kernel_rfl] at hm
        simp at hm
        omega
    · rcases hle2 with h0 | ⟨elems, sp, hx, hle⟩
      · subst h0; simp [reachBytes]
      · rw [hx] at hall
        have hm := List.all_eq_true.1 hall ((elems.length + sp.length) * Try.prog.bytesOf 3) (by
          simp [DataW.weights, Try.underlying26, DataW.weightsEach, Try.underlying24])
        rw [show Try.prog.bytesOf 3 = 8 by kernel_rfl] at hm
        simp at hm
        omega
end
end Go.Proofs.Ytdiabpoafennlab
