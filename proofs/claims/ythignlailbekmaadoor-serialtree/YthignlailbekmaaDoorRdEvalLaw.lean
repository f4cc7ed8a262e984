import Derived.Test.YthignlailbekmaaDoorRdFace
import Derived.Test.YthignlailbekmaaDoorRdSame
/-! SerialEval. -/
namespace Go.Proofs.YthignlailbekmaaDoor
set_option linter.unusedVariables false
set_option maxRecDepth 20000
open Go.RowKit Go.HeapKit Go.PlainOps

theorem words_copied_nil (g c : Nat) (w : World) (ty : TypeId) : (Builtin.append_ #[25, 25] ty #[.slice (some ⟨g, 0, none⟩) 0 0, .slice none 0 c]).run Tryd.prog w = .ok (.slice (some ⟨g, 0, none⟩) 0 0) w := by
  obtain ⟨i0, hi, hz0, hz1, hz2⟩ := info_parts Tryd.infoI64
  simp [Builtin.append_, run_underlying Tryd.underlying25, sizeOf, typeInfo, zeroValue, hi, hz0, Builtin.lenOf, Builtin.firstCells, storeCells]
/-- 'append([]int64{}, l...)'. -/
theorem words_copied (ca : Option Addr) (n c : Nat) (zs : List Int) (w : World) (ty : TypeId) (h : SeenA w ca n zs) (hs : n * 8 ≤ 140737488351232) :
    ∃ v w', (Builtin.append_ #[25, 25] ty #[.slice (some ⟨w.heap.size, 0, none⟩) 0 0, .slice ca n c]).run Tryd.prog (w.alloc (.cells #[] 2)) = .ok v w' ∧
      w'.ownsRow 0 2 1 v n (ints zs) ∧ Keeps None w w' ∧ ∀ g, v.ownBlock = some g → w.heap.size ≤ g := by
  have hl := h.len
  have hal := Keeps.alloc None w (.cells #[] 2)
  have h2 := h.more hal
  have hrow : (w.alloc (.cells #[] 2)).ownsRow 0 2 1 (.slice (some ⟨w.heap.size, 0, none⟩) 0 0) 0 [] :=
    ⟨by simp, .inr ⟨w.heap.size, 0, #[], rfl, Nat.zero_le _, heap_alloc_new _ _, Nat.le_refl _, by unfold maxLen; omega, rfl, rfl⟩⟩
  cases ca with
  | none =>
    have hn : n = 0 := by
      rcases Nat.eq_zero_or_pos n with h0 | h0
      · exact h0
      · obtain ⟨b, off, e, _⟩ := h.ex h0
        cases e
    subst hn
    have hc0 : zs = [] := List.eq_nil_of_length_eq_zero hl.symm
    subst hc0
    exact ⟨.slice (some ⟨w.heap.size, 0, none⟩) 0 0, w.alloc (.cells #[] 2), words_copied_nil _ c _ ty, hrow, hal, fun g e => by simp [Value.ownBlock] at e; omega⟩
  | some x =>
    obtain ⟨i0, hi, hz0, hz1, hz2⟩ := info_parts Tryd.infoI64
    obtain ⟨v', w1, hr, ho, hgr, hm, -⟩ := run_append_moved (P := Tryd.prog) (w.alloc (.cells #[] 2)) 0 25 ty 2 i0 _ 1 8 Tryd.underlying25 hi hz0 hz1 hz2 rfl (by decide) _ 0 _ hrow
      x n c (ints zs) (by rw [ints_len]; omega) (by
        intro j u hu
        have hj : j < n := by have := (List.getElem?_eq_some_iff.1 hu).1; rw [ints_len] at this; omega
        obtain ⟨b, off, e, _, hc⟩ := h2.ex (by omega)
        injection e with e
        subst e
        rw [show (⟨b, off, none⟩ : Addr).add j = ⟨b, off + j, none⟩ by unfold Addr.add; split <;> simp_all]
        have hlj : zs[j]? = some (zs[j]'(by omega)) := List.getElem?_eq_getElem _
        rw [hc j _ hlj]
        rw [ints_at zs j _ hlj] at hu
        exact hu) (by
        intro u hu
        simp [ints] at hu
        obtain ⟨y, _, rfl⟩ := hu
        rfl) (by unfold maxLen; omega) (by omega) (Nat.zero_le _)
    rw [Nat.zero_add, List.nil_append] at ho
    refine ⟨v', w1, hr, ho, hal.andGrown hgr (fun k e => .inr (by simp [Value.ownBlock] at e; omega)), fun g e => ?_⟩
    rcases hm with hm | ⟨g', e', hg'⟩
    · rw [hm] at e; simp [Value.ownBlock] at e; omega
    · rw [e'] at e
      obtain rfl := Option.some.inj e
      simp at hg'
      omega
theorem rowA {w : World} {av : Value} {n : Nat} {l : List Int} (hn : n = l.length) (h : w.ownsRow 0 2 1 av n (ints l)) (hl : n ≤ 9223372036854775807) (hok : ∀ x ∈ l, okI x) : ∃ a c, av = .slice a n c ∧ SeenA w a n l := by
  rcases h.2 with ⟨rfl, h0⟩ | ⟨g, cap, cur, rfl, hb0, hg, hnc, hcm, hcs, htk⟩
  · refine ⟨none, 0, by rw [h0], ⟨hn, by omega, hok, fun h => by omega⟩⟩
  · refine ⟨some ⟨g, 0, none⟩, cap, rfl, ⟨hn, by omega, hok, fun _ => ⟨g, 0, rfl, blk_lt hg, fun k x hx => ?_⟩⟩⟩
    have h1 := ints_at l k x hx
    rw [← htk, List.getElem?_take] at h1
    rw [Nat.zero_add, blk_cell hg, ← Array.getElem?_toList]
    split at h1
    · exact h1
    · cases h1
set_option maxHeartbeats 4000000 in
theorem serialEval_walk (a : Option Addr) (n c : Nat) (l : List Fn) (aa : Option Addr) (an ac : Nat) (zs : List Int) (fuel : Int) (w : World) (hT : Tabs w) (hS : SeenF w a n l) (hok : ∀ f ∈ l, f.Ok) (hr : n * 48 ≤ 140737488351232 ∧ ∀ f ∈ l, f.code.length * 40 ≤ 140737488351232) (hZ : SeenA w aa an zs) (hrz : an * 8 ≤ 140737488351232) (hfu : okI fuel) :
    Calls Tryd.prog 3 #[.agg #[.slice a n c], .slice aa an ac, .int .i64 fuel] w fun e w' => e = .returned (.bool true) ∧ Keeps None w w' := by
  have b1 := heap_alloc_new w (.cells #[.slice a n c] 24)
  have hk1 := Keeps.alloc None w (.cells #[.slice a n c] 24)
  obtain ⟨W, hW⟩ : ∃ W, W = w.alloc (.cells #[.slice a n c] 24) := ⟨_, rfl⟩
  obtain ⟨B, hB⟩ : ∃ B, B = w.heap.size := ⟨_, rfl⟩
  rw [← hW, ← hB] at b1
  rw [← hW] at hk1
  have d0 : W.cell? ⟨B, 0, none⟩ = some (.slice a n c) := (blk_cell b1 0).trans rfl
  have han : (an : Int) ≤ 4611686018427387904 := by omega
  have HC : Hid (Tabs W ∧ SeenF W a n l ∧ (∀ f ∈ l, f.Ok) ∧ (n * 48 ≤ 140737488351232 ∧ ∀ f ∈ l, f.code.length * 40 ≤ 140737488351232) ∧ SeenA W aa an zs ∧ Keeps None w W ∧ W.heap[B]? = some (.cells #[.slice a n c] 24 (0, 0)) ∧ an * 8 ≤ 140737488351232) := ⟨hT.more hk1, hS.more hk1, hok, hr, hZ.more hk1, hk1, b1, hrz⟩
  have hcp := copied_any a n c l W (hS.more hk1) hr.1 hr.2
  unfold CopiedPost at hcp
  have hev := fun wx (hx : Keeps None W wx) => eval_any a n c l aa an ac zs fuel wx (HC.out.1.more hx) (HC.out.2.1.more hx) hok (HC.out.2.2.2.2.1.more hx) (by omega) hfu
  obtain ⟨⟨v0, v1, v2, v3, v4⟩, hvv⟩ : ∃ ev, ev = (evalV l zs fuel).1 := ⟨_, rfl⟩
  have hrev := fun a' c' a2 c2 wx (h1 : SeenF wx a' n l) (h2 : SeenA wx a2 an zs) => reval_any a' n c' l a2 an c2 zs fuel wx h1 hok h2 (by omega) hfu
  rw [← hvv] at hev hrev
  generalize (evalV l zs fuel).2 = er at *
  unfold valC at hev hrev
  have HEV : Hid _ := hev
  have HRV : Hid _ := hrev
  have hne := neqVal6 v0 v1 v2 v3 v4
  have heq := eqVal6 v0 v1 v2 v3 v4
  clear hT hS hok hr hZ hrz hk1 b1 hev hrev hvv
  go_enter Tryd.func3, Tryd.ntmps3
  go_upto_region 1 with fail
  rw [← hW, ← hB]
  clear hW hB
  go_upto_region 2 with (go_at_call 5; refine hcp.mono ?_; rintro _ w2 ⟨qa, qc, rfl, hq2, hk2⟩)
  have hal := Keeps.alloc None w2 (.cells #[.slice qa n qc] 24)
  have b2 := heap_alloc_new w2 (.cells #[.slice qa n qc] 24)
  obtain ⟨V, hV⟩ : ∃ V, V = w2.alloc (.cells #[.slice qa n qc] 24) := ⟨_, rfl⟩
  obtain ⟨Q, hQ⟩ : ∃ Q, Q = w2.heap.size := ⟨_, rfl⟩
  rw [← hV] at hal b2
  rw [← hQ] at b2
  rw [← hV, ← hQ]
  have kV := hk2.trans hal (fun _ f _ => f)
  have hqV := hq2.more hal
  obtain ⟨bv, w3, hr3, ho3, hk3, hl3⟩ := words_copied aa an ac zs V 25 (HC.out.2.2.2.2.1.more kV) HC.out.2.2.2.2.2.2.2
  obtain ⟨ba, bc, hbv, hb3⟩ := rowA HC.out.2.2.2.2.1.len ho3 (by have := HC.out.2.2.2.2.2.2.2; omega) HC.out.2.2.2.2.1.ok
  subst hbv
  have k3 := kV.trans hk3 (fun _ f _ => f)
  have H3 : Hid (Keeps None W w3 ∧ SeenF w3 qa n l ∧ SeenA w3 ba an zs ∧ w3.heap[Q]? = some (.cells #[.slice qa n qc] 24 (0, 0))) := ⟨k3, hqV.more hk3, hb3, blk_kept b2 hk3 (fun f => f)⟩
  clear hV hQ hal b2 kV hqV hk2 hq2 hcp ho3 hk3 hl3 hb3
  go_upto_region 3 with (at_builtin; refine wpList_append_run rfl (.tmp 17) (.tmp 18) 25 25 rfl rfl rfl hr3 ?_)
  have d3 := k3.cell d0 (fun f => f)
  clear k3 hr3 d0
  go_upto_region 4 with (go_at_call 6; refine (HEV.out _ H3.out.1).mono ?_; rintro _ w4 ⟨rfl, hk4⟩)
  have k5 := hk4.andAlloc (.cells #[.int .i64 v0, .int .i64 v1, .int .i64 v2, .int .i64 v3, .int .i64 v4] 28)
  have bV := heap_alloc_new w4 (.cells #[.int .i64 v0, .int .i64 v1, .int .i64 v2, .int .i64 v3, .int .i64 v4] 28)
  obtain ⟨w5, hw5⟩ : ∃ w5, w5 = w4.alloc (.cells #[.int .i64 v0, .int .i64 v1, .int .i64 v2, .int .i64 v3, .int .i64 v4] 28) := ⟨_, rfl⟩
  obtain ⟨G, hG⟩ : ∃ G, G = w4.heap.size := ⟨_, rfl⟩
  rw [← hw5] at k5 bV
  rw [← hG] at bV
  rw [← hw5, ← hG]
  have H5 : Hid (Keeps None W w5 ∧ SeenF w5 qa n l ∧ SeenA w5 ba an zs ∧ w5.heap[Q]? = some (.cells #[.slice qa n qc] 24 (0, 0)) ∧ w5.heap[G]? = some (.cells #[.int .i64 v0, .int .i64 v1, .int .i64 v2, .int .i64 v3, .int .i64 v4] 28 (0, 0))) := ⟨H3.out.1.trans k5 (fun _ f _ => f), H3.out.2.1.more k5, H3.out.2.2.1.more k5, blk_kept H3.out.2.2.2 k5 (fun f => f), bV⟩
  have d5 := k5.cell d3 (fun f => f)
  have q5 : w5.cell? ⟨Q, 0, none⟩ = some (.slice qa n qc) := (blk_cell H5.out.2.2.2.1 0).trans rfl
  clear hw5 hG k5 bV hk4 d3 H3
  have hrv := HRV.out qa qc ba bc w5 H5.out.2.1 H5.out.2.2.1
  go_upto_region 5 with (go_at_call 7; refine hrv.mono ?_; rintro _ w6 ⟨rfl, hk6⟩)
  have k7 := hk6.andAlloc (.cells #[.int .i64 v0, .int .i64 v1, .int .i64 v2, .int .i64 v3, .int .i64 v4] 28)
  have bV7 := heap_alloc_new w6 (.cells #[.int .i64 v0, .int .i64 v1, .int .i64 v2, .int .i64 v3, .int .i64 v4] 28)
  obtain ⟨w7, hw7⟩ : ∃ w7, w7 = w6.alloc (.cells #[.int .i64 v0, .int .i64 v1, .int .i64 v2, .int .i64 v3, .int .i64 v4] 28) := ⟨_, rfl⟩
  obtain ⟨G2, hG2⟩ : ∃ G2, G2 = w6.heap.size := ⟨_, rfl⟩
  rw [← hw7] at k7 bV7
  rw [← hG2] at bV7
  rw [← hw7, ← hG2]
  have H7 : Hid (Keeps None W w7 ∧ SeenF w7 qa n l ∧ SeenA w7 ba an zs ∧ w7.heap[Q]? = some (.cells #[.slice qa n qc] 24 (0, 0)) ∧ w7.heap[G]? = some (.cells #[.int .i64 v0, .int .i64 v1, .int .i64 v2, .int .i64 v3, .int .i64 v4] 28 (0, 0)) ∧ w7.heap[G2]? = some (.cells #[.int .i64 v0, .int .i64 v1, .int .i64 v2, .int .i64 v3, .int .i64 v4] 28 (0, 0))) := ⟨H5.out.1.trans k7 (fun _ f _ => f), H5.out.2.1.more k7, H5.out.2.2.1.more k7, blk_kept H5.out.2.2.2.1 k7 (fun f => f), blk_kept H5.out.2.2.2.2 k7 (fun f => f), bV7⟩
  have d7 := k7.cell d5 (fun f => f)
  have q7 := k7.cell q5 (fun f => f)
  have g0 : w7.cell? ⟨G, 0, none⟩ = some (.int .i64 v0) := (blk_cell H7.out.2.2.2.2.1 0).trans rfl
  have g1 : w7.cell? ⟨G, 1, none⟩ = some (.int .i64 v1) := (blk_cell H7.out.2.2.2.2.1 1).trans rfl
  have g2 : w7.cell? ⟨G, 2, none⟩ = some (.int .i64 v2) := (blk_cell H7.out.2.2.2.2.1 2).trans rfl
  have g3 : w7.cell? ⟨G, 3, none⟩ = some (.int .i64 v3) := (blk_cell H7.out.2.2.2.2.1 3).trans rfl
  have g4 : w7.cell? ⟨G, 4, none⟩ = some (.int .i64 v4) := (blk_cell H7.out.2.2.2.2.1 4).trans rfl
  have p0 : w7.cell? ⟨G2, 0, none⟩ = some (.int .i64 v0) := (blk_cell H7.out.2.2.2.2.2 0).trans rfl
  have p1 : w7.cell? ⟨G2, 1, none⟩ = some (.int .i64 v1) := (blk_cell H7.out.2.2.2.2.2 1).trans rfl
  have p2 : w7.cell? ⟨G2, 2, none⟩ = some (.int .i64 v2) := (blk_cell H7.out.2.2.2.2.2 2).trans rfl
  have p3 : w7.cell? ⟨G2, 3, none⟩ = some (.int .i64 v3) := (blk_cell H7.out.2.2.2.2.2 3).trans rfl
  have p4 : w7.cell? ⟨G2, 4, none⟩ = some (.int .i64 v4) := (blk_cell H7.out.2.2.2.2.2 4).trans rfl
  have hsm := same6_any a n c qa qc l w7 (HC.out.2.1.more H7.out.1) H7.out.2.1 HC.out.2.2.2.1.1 HC.out.2.2.2.1.2
  have hsi := fun wx (hx : Keeps None w7 wx) => sameInts_any aa an ac ba bc zs wx ((HC.out.2.2.2.2.1.more H7.out.1).more hx) (H7.out.2.2.1.more hx) han
  have HSI : Hid _ := hsi
  clear hw7 hG2 k7 bV7 hk6 d5 q5 H5 hrv hsi
  go_upto_region 7 with (first | (go_at_call 8; refine hsm.mono ?_; rintro _ w8 ⟨rfl, hk8⟩) | (go_at_call 9; refine (HSI.out _ hk8).mono ?_; rintro _ w9 ⟨rfl, hk9⟩))
  have k9 := hk8.trans hk9 (fun _ f _ => f)
  have d9 := k9.cell d7 (fun f => f)
  have H9 : Hid (Keeps None W w9 ∧ w9.heap[G2]? = some (.cells #[.int .i64 v0, .int .i64 v1, .int .i64 v2, .int .i64 v3, .int .i64 v4] 28 (0, 0))) := ⟨H7.out.1.trans k9 (fun _ f _ => f), blk_kept H7.out.2.2.2.2.2 k9 (fun f => f)⟩
  have hev9 := HEV.out w9 H9.out.1
  clear k9 hk8 hk9 hsm d7 q7 g0 g1 g2 g3 g4 p0 p1 p2 p3 p4 H7 HSI
  go_upto_region 8 with (go_at_call 6; refine hev9.mono ?_; rintro _ w10 ⟨rfl, hk10⟩)
  have k11 := hk10.andAlloc (.cells #[.int .i64 v0, .int .i64 v1, .int .i64 v2, .int .i64 v3, .int .i64 v4] 28)
  have bV11 := heap_alloc_new w10 (.cells #[.int .i64 v0, .int .i64 v1, .int .i64 v2, .int .i64 v3, .int .i64 v4] 28)
  obtain ⟨w11, hw11⟩ : ∃ w11, w11 = w10.alloc (.cells #[.int .i64 v0, .int .i64 v1, .int .i64 v2, .int .i64 v3, .int .i64 v4] 28) := ⟨_, rfl⟩
  obtain ⟨G3, hG3⟩ : ∃ G3, G3 = w10.heap.size := ⟨_, rfl⟩
  rw [← hw11] at k11 bV11
  rw [← hG3] at bV11
  rw [← hw11, ← hG3]
  have bp := blk_kept H9.out.2 k11 (fun f => f)
  have g0 : w11.cell? ⟨G3, 0, none⟩ = some (.int .i64 v0) := (blk_cell bV11 0).trans rfl
  have g1 : w11.cell? ⟨G3, 1, none⟩ = some (.int .i64 v1) := (blk_cell bV11 1).trans rfl
  have g2 : w11.cell? ⟨G3, 2, none⟩ = some (.int .i64 v2) := (blk_cell bV11 2).trans rfl
  have g3 : w11.cell? ⟨G3, 3, none⟩ = some (.int .i64 v3) := (blk_cell bV11 3).trans rfl
  have g4 : w11.cell? ⟨G3, 4, none⟩ = some (.int .i64 v4) := (blk_cell bV11 4).trans rfl
  have p0 : w11.cell? ⟨G2, 0, none⟩ = some (.int .i64 v0) := (blk_cell bp 0).trans rfl
  have p1 : w11.cell? ⟨G2, 1, none⟩ = some (.int .i64 v1) := (blk_cell bp 1).trans rfl
  have p2 : w11.cell? ⟨G2, 2, none⟩ = some (.int .i64 v2) := (blk_cell bp 2).trans rfl
  have p3 : w11.cell? ⟨G2, 3, none⟩ = some (.int .i64 v3) := (blk_cell bp 3).trans rfl
  have p4 : w11.cell? ⟨G2, 4, none⟩ = some (.int .i64 v4) := (blk_cell bp 4).trans rfl
  have HK : Hid (Keeps None w w11) := (HC.out.2.2.2.2.2.1.trans H9.out.1 (fun _ f _ => f)).trans k11 (fun _ f _ => f)
  clear hw11 hG3 k11 bV11 hk10 bp hev9 d9
  go_wp2_with fail
  go_ret
  exact ⟨rfl, HK.out⟩
end Go.Proofs.YthignlailbekmaaDoor
