import Derived.Test.YtfccnmgbdkideaaDoorSwLawB
/-! SerialPart: the walk. -/
namespace Go.Proofs.YtfccnmgbdkideaaDoor
set_option linter.unusedVariables false
set_option maxRecDepth 20000
open Go.RowKit Go.HeapKit Go.PlainOps

set_option maxHeartbeats 8000000 in
set_option maxRecDepth 1000000 in
theorem part_walk (a : Option Addr) (n c : Nat) (l : List Fn) (aa : Option Addr) (an ac : Nat) (zs : List Int) (fuel which : Int) (w : World) (hT : Tabs w) (hS : SeenF w a n l) (hok : ∀ f ∈ l, f.Ok) (hZ : SeenA w aa an zs) (hfu : okI fuel) (hwh : okI which) :
    Calls Tryd.prog 3 #[.agg #[.slice a n c], .slice aa an ac, .int .i64 fuel, .int .i64 which] w fun e w' => e = .returned (.bool true) ∧ Keeps None w w' := by
  obtain ⟨B, hB⟩ : ∃ B, B = w.heap.size := ⟨_, rfl⟩
  have b1 := heap_alloc_new w (.cells #[.slice a n c] 24)
  have hk1 := Keeps.alloc None w (.cells #[.slice a n c] 24)
  obtain ⟨W, hW⟩ : ∃ W, W = w.alloc (.cells #[.slice a n c] 24) := ⟨_, rfl⟩
  rw [← hW, ← hB] at b1
  rw [← hW] at hk1
  have d0 : W.cell? ⟨B, 0, none⟩ = some (.slice a n c) := (blk_cell b1 0).trans rfl
  have hlv := lives_any which hwh W (hT.more hk1)
  have htr := fun wx (hx : Keeps None w wx) => tree_any a n c l aa an ac zs fuel wx (hT.more hx) (hS.more hx) hok (hZ.more hx) hZ.most hfu
  have HTR : Hid _ := htr
  have HX : Hid (Keeps None w W ∧ W.cell? ⟨B, 0, none⟩ = some (.slice a n c) ∧ SeenF w a n l ∧ Tabs w ∧ (∀ f ∈ l, f.Ok) ∧ (∀ x ∈ zs, okI x) ∧ okI fuel ∧ okI which) := ⟨hk1, d0, hS, hT, hok, hZ.ok, hfu, hwh⟩
  by_cases he0 : (evalV l zs fuel).2 = 0
  · obtain ⟨D, hE⟩ := eval_tree hok hZ.ok he0
    obtain ⟨L, hL⟩ : ∃ L, L = treeV l zs fuel := ⟨_, rfl⟩
    have HL : Hid (∀ (wx : World), Keeps None w wx → Calls Tryd.prog 5 #[.agg #[.slice a n c], .slice aa an ac, .int .i64 fuel] wx fun e w' => ∃ ta tc, e = .returned (.tuple #[.slice ta L.length tc, .int .i64 0]) ∧ Keeps None wx w' ∧ SeenD w' ta L.length L) := fun wx hx => (HTR.out wx hx).mono fun e w' h => by
      obtain ⟨nv, he, hk, _, _, h2⟩ := h
      rw [he0] at he
      have h3 := h2 he0
      rw [← hL] at h3
      obtain ⟨ta, tc, rfl, hs⟩ := row_seenD h3
      exact ⟨ta, tc, he, hk, hs⟩
    rw [← hL] at hE
    obtain ⟨N, hN⟩ : ∃ N, N = L.length := ⟨_, rfl⟩
    have hN1 : 1 ≤ N := by have := hE.good.len; simp [keys] at this; omega
    have hNb : N ≤ 8388608 := by have := hE.len; omega
    have hnl : n ≤ 32 := by have := hE.all.len; have := hS.len; omega
    have hm5 : ∀ f ∈ l, f.code.length ≤ 512 := fun f hf => (valid_bounds (hE.all.all f hf)).2.2.2.2
    have hpt := fun hp : noPed l => part_eval hok hZ.ok he0 hp
    rw [← hL] at hpt
    rw [← hN] at HL
    have HP : Hid _ := hpt
    have HF0 : Hid (0 ≤ fuel) := by
      have hr0 : refusedV l zs fuel = 0 := by
        by_cases h : refusedV l zs fuel = 0
        · exact h
        · unfold evalV at he0
          rw [if_pos h] at he0
          exact absurd he0 h
      exact (refused_zero hr0).2.2.1
    have HM : Hid (N = L.length ∧ (∀ f ∈ l, f.code.length ≤ 512)) := ⟨hN, hm5⟩
    clear hT hS hok hZ hk1 b1 htr HTR he0 hfu hL hE hN hm5 hpt hwh
    go_enter Tryd.func3, Tryd.ntmps3
    go_upto_region 1 with fail
    rw [← hW, ← hB]
    clear hW hB
    go_upto_region 3 with (go_at_call 4; refine hlv.mono ?_; rintro _ w2 ⟨rfl, hk2⟩)
    have d2 := hk2.cell d0 (fun f => f)
    have htr := HL.out w2 (HX.out.1.trans hk2 (fun _ f _ => f))
    have H2 : Hid (Keeps None w w2 ∧ Keeps None W w2) := ⟨HX.out.1.trans hk2 (fun _ f _ => f), hk2⟩
    clear hlv hk2 d0 HL
    go_upto_region 4 with (go_at_call 5; refine htr.mono ?_; rintro _ w3 ⟨ta, tc, rfl, hk3, hs3⟩)
    have d3 := hk3.cell d2 (fun f => f)
    have hask := asks_any a n c l w3 (HX.out.2.2.1.more (H2.out.1.trans hk3 (fun _ f _ => f))) hnl HM.out.2
    unfold AskPost at hask
    have H3 : Hid (Keeps None w w3 ∧ Keeps None W w3 ∧ SeenD w3 ta N L) := ⟨H2.out.1.trans hk3 (fun _ f _ => f), H2.out.2.trans hk3 (fun _ f _ => f), hs3⟩
    clear htr hk3 hs3 d2 H2
    go_cut [34] (fun s34 wx => ∃ b : Bool, s34 = .bool b ∧ (b = false → noPed l) ∧ Keeps None w3 wx)
    case first =>
      go_wp2_with (go_at_call 6; refine hask.mono ?_; rintro _ w4 ⟨b, rfl, hb, hk4⟩)
      all_goals go_meet
      all_goals exact ⟨b, by simp, hb, hk4⟩
    case rest =>
      obtain ⟨b, rfl, hb, hk4⟩ := hcut
      cases b with
      | true =>
        have HQ : Hid (Keeps None w wc) := H3.out.1.trans hk4 (fun _ f _ => f)
        clear hb hk4 hask d3
        go_wp2_with fail
        go_ret
        exact ⟨rfl, HQ.out⟩
      | false =>
        obtain ⟨hA, -, -, hfin, hsm, hall⟩ := HP.out (hb rfl)
        have hs4 := H3.out.2.2.more hk4
        obtain ⟨lb, rfl, hlb, hcl⟩ := hs4.ex (by omega)
        have d4 := hk4.cell d3 (fun f => f)
        obtain ⟨w4, hw4⟩ : ∃ w4, w4 = wc := ⟨_, rfl⟩
        rw [← hw4] at hk4 hs4 hlb hcl d4 ⊢
        have H4 : Hid (Keeps None w w4 ∧ (∀ k x, L[k]? = some x → ∀ j y, x.l[j]? = some y → w4.cell? ⟨lb, k * 7 + j, none⟩ = some (.int .i64 y)) ∧ w4.cell? ⟨B, 0, none⟩ = some (.slice a n c) ∧ lb < w4.heap.size) := ⟨H3.out.1.trans hk4 (fun _ f _ => f), hcl, d4, hlb⟩
        have H5 : Hid (AllV l ∧ (∀ (j : Nat) (y : Nd), L[j]? = some y → 1 ≤ y.work) ∧ sumW L ≤ 4194304 ∧ ∀ (j : Nat) (x : Nd), L[j]? = some x → (0 ≤ x.func ∧ x.func < l.length) ∧ okI x.arg ∧ ((parV l x.func = 0 ∨ parV l x.func = 1) → ∃ e, PartOk l L j e x fuel.toNat)) := ⟨hA, hfin, hsm, hall⟩
        have i1 : ¬ ((N : Int) = 0) := by omega
        have q1 : ((N : Int) == 0) = false := by simpa using i1
        have hnb : (N : Int) ≤ 8388608 := by omega
        clear hw4 hb hk4 hask d3 hs4 hlb hcl d4 hA hfin hsm hall HP H3
        go_upto_region 9 with fail
        obtain ⟨T, hTq⟩ : ∃ T, T = which.tmod (N : Int) := ⟨_, rfl⟩
        rw [← hTq]
        have hTb : -(N : Int) < T ∧ T < (N : Int) := by
          rw [hTq]
          have h1 := Int.tmod_lt_of_pos which (b := (N : Int)) (by omega)
          have h2 := Int.lt_tmod_of_pos which (b := (N : Int)) (by omega)
          omega
        obtain ⟨j, hj, hjN⟩ : ∃ j : Nat, (if T < 0 then T + (N : Int) else T) = (j : Int) ∧ j < N := by
          by_cases h0 : T < 0
          · exact ⟨(T + (N : Int)).toNat, by rw [if_pos h0]; omega, by omega⟩
          · exact ⟨T.toNat, by rw [if_neg h0]; omega, by omega⟩
        obtain ⟨x, hx⟩ : ∃ x, L[j]? = some x := ⟨L[j]'(by have := HM.out.1; omega), by simp⟩
        obtain ⟨F, hF⟩ := Int.eq_ofNat_of_zero_le (H5.out.2.2.2 j x hx).1.1
        have hFl : F < l.length := by have := (H5.out.2.2.2 j x hx).1.2; omega
        have y0 := H4.out.2.1 j x hx 0 x.parent rfl
        have y1 := H4.out.2.1 j x hx 1 x.idx rfl
        have y2 := H4.out.2.1 j x hx 2 x.func rfl
        have y3 := H4.out.2.1 j x hx 3 x.work rfl
        have y4 := H4.out.2.1 j x hx 4 x.ped rfl
        have y5 := H4.out.2.1 j x hx 5 x.arg rfl
        have y6 := H4.out.2.1 j x hx 6 x.v rfl
        simp only [Nat.add_zero] at y0
        have i5 : (j : Int) < (N : Int) := by omega
        have HJ : Hid (L[j]? = some x ∧ x.func = (F : Int) ∧ F < l.length) := ⟨hx, hF, hFl⟩
        clear hx hF hFl hTq
        by_cases hT0 : T < 0
        · have ej : T + (N : Int) = (j : Int) := by rw [if_pos hT0] at hj; exact hj
          clear hj
          go_upto_region 11 with fail
          try rw [ej]
          go_cut [12] (fun s12 wx => ∃ G, s12 = .pointer (some ⟨G, 0, none⟩) ∧ wx.heap[G]? = some (.cells #[.int .i64 x.parent, .int .i64 x.idx, .int .i64 x.func, .int .i64 x.work, .int .i64 x.ped, .int .i64 x.arg, .int .i64 x.v] 33 (0, 0)) ∧ Keeps None w4 wx)
          case first =>
            go_wp2_with fail
            go_meet
            exact ⟨w4.heap.size, rfl, heap_alloc_new _ _, Keeps.alloc None w4 _⟩
          case rest =>
            obtain ⟨G, rfl, hG, hk5⟩ := hcut
            rename_i h1 h2 h3 h4
            first | apply h4 | apply h3 | apply h2 | apply h1
            exact part_B a n c l fuel w wc B lb N tc j F G x L ⟨H4.out.1.trans hk5 (fun _ f _ => f), HX.out.2.2.1, HX.out.2.2.2.1, HX.out.2.2.2.2.1, HX.out.2.2.2.2.2.2.1, H5.out.1, HM.out.1, HJ.out.2.1, HJ.out.2.2, HJ.out.1, H5.out.2.1, H5.out.2.2.1, HM.out.2, hnl⟩ ⟨hk5.cell H4.out.2.2.1 (fun f => f), fun k z hz q y hy => hk5.cell (H4.out.2.1 k z hz q y hy) (fun f => f), hG⟩ hjN hNb (H5.out.2.2.2 j x HJ.out.1).2.1 (H5.out.2.2.2 j x HJ.out.1).2.2 HF0.out
        · have ej : T = (j : Int) := by rw [if_neg hT0] at hj; exact hj
          clear hj
          subst ej
          go_upto_region 11 with fail
          go_cut [12] (fun s12 wx => ∃ G, s12 = .pointer (some ⟨G, 0, none⟩) ∧ wx.heap[G]? = some (.cells #[.int .i64 x.parent, .int .i64 x.idx, .int .i64 x.func, .int .i64 x.work, .int .i64 x.ped, .int .i64 x.arg, .int .i64 x.v] 33 (0, 0)) ∧ Keeps None w4 wx)
          case first =>
            go_wp2_with fail
            go_meet
            exact ⟨w4.heap.size, rfl, heap_alloc_new _ _, Keeps.alloc None w4 _⟩
          case rest =>
            obtain ⟨G, rfl, hG, hk5⟩ := hcut
            rename_i h1 h2 h3 h4
            first | apply h4 | apply h3 | apply h2 | apply h1
            exact part_B a n c l fuel w wc B lb N tc j F G x L ⟨H4.out.1.trans hk5 (fun _ f _ => f), HX.out.2.2.1, HX.out.2.2.2.1, HX.out.2.2.2.2.1, HX.out.2.2.2.2.2.2.1, H5.out.1, HM.out.1, HJ.out.2.1, HJ.out.2.2, HJ.out.1, H5.out.2.1, H5.out.2.2.1, HM.out.2, hnl⟩ ⟨hk5.cell H4.out.2.2.1 (fun f => f), fun k z hz q y hy => hk5.cell (H4.out.2.1 k z hz q y hy) (fun f => f), hG⟩ hjN hNb (H5.out.2.2.2 j x HJ.out.1).2.1 (H5.out.2.2.2 j x HJ.out.1).2.2 HF0.out
  · have HL : Hid (∀ (wx : World), Keeps None w wx → Calls Tryd.prog 5 #[.agg #[.slice a n c], .slice aa an ac, .int .i64 fuel] wx fun e w' => e = .returned (.tuple #[.slice none 0 0, .int .i64 (evalV l zs fuel).2]) ∧ Keeps None wx w') := fun wx hx => (HTR.out wx hx).mono fun e w' h => by
      obtain ⟨nv, he, hk, _, h1, _⟩ := h
      rw [h1 he0] at he
      exact ⟨he, hk⟩
    have heb : ((evalV l zs fuel).2 != 0) = true := by simpa using he0
    generalize (evalV l zs fuel).2 = er at *
    clear hT hS hok hZ hk1 b1 htr HTR he0 hfu hwh
    go_enter Tryd.func3, Tryd.ntmps3
    go_upto_region 1 with fail
    rw [← hW, ← hB]
    clear hW hB
    go_upto_region 3 with (go_at_call 4; refine hlv.mono ?_; rintro _ w2 ⟨rfl, hk2⟩)
    have d2 := hk2.cell d0 (fun f => f)
    have htr := HL.out w2 (HX.out.1.trans hk2 (fun _ f _ => f))
    have H2 : Hid (Keeps None w w2) := HX.out.1.trans hk2 (fun _ f _ => f)
    clear hlv hk2 d0 HL
    go_upto_region 4 with (go_at_call 5; refine htr.mono ?_; rintro _ w3 ⟨rfl, hk3⟩)
    have H3 : Hid (Keeps None w w3) := H2.out.trans hk3 (fun _ f _ => f)
    clear htr hk3 d2 H2
    go_wp2_with fail
    go_ret
    exact ⟨rfl, H3.out⟩
end Go.Proofs.YtfccnmgbdkideaaDoor
