import Derived.Test.YtklepknkdkponaaDoorPtRef
/-! The document's Trails, where the arguments are good. -/
namespace Go.Proofs.YtklepknkdkponaaDoor
set_option linter.unusedVariables false
set_option maxRecDepth 20000
open Go.RowKit Go.HeapKit

set_option maxHeartbeats 4000000 in
theorem rtrails_good (f : Fn) (ca : Option Addr) (n cc : Nat) (t s q : Nat) (x : Option Addr) (N cap : Nat) (e : Int) (w : World) (hn : n = f.code.length) (hC : SeenI w ca n f.code) (ha : argOk f t s q = true)
    (hE : (metV (searchV f s (0, 0)) (t, q) = false ∧ N = 0 ∧ e = 59) ∨ (metV (searchV f s (0, 0)) (t, q) = true ∧ e = 0 ∧ ∃ g Q, x = some ⟨g, 0, none⟩ ∧ N = Q.length ∧ Fore f s (t, q) Q ∧ IsP w g N (fun k => (Q.getD k (0, 0)).1))) :
    Calls Tryd.prog 25 #[.agg #[.int .i64 f.params, .int .i64 f.regs, .int .i64 f.slots, .slice ca n cc], .int .i64 t, .int .i64 s, .int .i64 q, .slice x N cap, .int .i64 e] w fun e' w' => e' = .returned (.bool true) ∧ Keeps None w w' := by
  have nn := nilNo
  obtain ⟨hso, ht, hs, hq⟩ := argOk_parts ha
  obtain ⟨hsh, hcf⟩ := sound_of hso
  have hG := good_of hsh hcf
  obtain ⟨_, _, hsl, hl1, hl2⟩ := shape_parts hsh
  obtain ⟨m, hm⟩ : ∃ m : Nat, (m : Int) = f.slots := ⟨f.slots.toNat, by omega⟩
  have hal := Keeps.alloc None w (.cells #[.int .i64 f.params, .int .i64 f.regs, .int .i64 f.slots, .slice ca n cc] 36)
  have b1 := heap_alloc_new w (.cells #[.int .i64 f.params, .int .i64 f.regs, .int .i64 f.slots, .slice ca n cc] 36)
  have hrf := rflow_ok f ca cc _ (by rw [← hn]; exact hC.more hal) hso n m hn hm
  have htn : t < n := by omega
  have hsm : s < m := by omega
  have hn2 : n ≤ 512 := by omega
  have e1 : belowV (t : Int) (n : Int) = true := (belowV_iff _ _).2 ⟨by omega, by omega⟩
  have e2 : belowV (s : Int) f.slots = true := (belowV_iff _ _).2 ⟨by omega, by omega⟩
  have hmet := and_met (search_bare hG s (0, 0)) t (by omega : t < f.code.length) (q : Int) (by omega)
  have hkinds : ∀ (j : Nat) (i : Ins), f.code[j]? = some i → 0 ≤ i.kind ∧ i.kind < 10 := fun j i hi => fits_kind ((code_parts hcf).1 j i hi)
  obtain ⟨wa, hwa⟩ : ∃ wa, wa = w.alloc (.cells #[.int .i64 f.params, .int .i64 f.regs, .int .i64 f.slots, .slice ca n cc] 36) := ⟨_, rfl⟩
  obtain ⟨B, hB⟩ : ∃ B, B = w.heap.size := ⟨_, rfl⟩
  unfold fnV at hrf
  rw [← hn] at hrf
  rw [← hwa] at hal b1 hrf
  rw [← hB] at b1
  have HA : Hid (Tr f w wa ca n cc B ∧ SeenI w ca n f.code ∧ n = f.code.length ∧ (∀ (j : Nat) (i : Ins), f.code[j]? = some i → 0 ≤ i.kind ∧ i.kind < 10)) := ⟨⟨hal, b1⟩, hC, hn, hkinds⟩
  have d0 : wa.cell? ⟨B, 0, none⟩ = some (.int .i64 f.params) := (cell_of_heap b1 0).trans rfl
  have d1 : wa.cell? ⟨B, 1, none⟩ = some (.int .i64 f.regs) := (cell_of_heap b1 1).trans rfl
  have d2 : wa.cell? ⟨B, 2, none⟩ = some (.int .i64 f.slots) := (cell_of_heap b1 2).trans rfl
  have d3 : wa.cell? ⟨B, 3, none⟩ = some (.slice ca n cc) := (cell_of_heap b1 3).trans rfl
  have HQ : Hid (q = 1 ∨ q = 2 ∨ q = 4) := by show _ ∨ _ ∨ _; omega
  clear hal b1 hC hn ha ht hs hq hso hsh hcf hG hsl hl1 hl2 hm hkinds
  go_enter Tryd.func25, Tryd.ntmps25
  go_upto_region 1 with fail
  rw [← hwa, ← hB]
  clear hwa hB
  go_wp2_with fail
  refine hrf.mono ?_
  rintro _ w3 ⟨g, rfl, hM, hk3, -⟩
  have hT3 := HA.out.1.more hk3
  replace d2 := hk3.cell d2 (fun f => f)
  replace d3 := hk3.cell d3 (fun f => f)
  have y1 := hM.row htn htn
  have y2 := hM.cell htn hsm
  have H3 : Hid (Tr f w w3 ca n cc B) := hT3
  clear hk3 hrf d0 d1 hT3 hM
  obtain ⟨r1, hr1⟩ : ∃ r1, r1 = g + 1 + t := ⟨_, rfl⟩
  rw [← hr1] at y1 y2
  clear hr1
  obtain ⟨V, hV⟩ : ∃ V, V = sumAt (searchV f s (0, 0)) t := ⟨_, rfl⟩
  rw [← hV] at y2 hmet
  clear hV
  have i1 : (t : Int) < (n : Int) := by omega
  have i2 : (s : Int) < (m : Int) := by omega
  go_upto_region 2 with fail
  go_cut [50] (fun s50 wx => s50 = .bool false ∧ wx = w3)
  case first =>
    rcases HQ.out with rfl | rfl | rfl
    all_goals
      go_wp2_with (go_at_call 58; refine (rbelow_any _ _ _).mono ?_; rintro _ w2' ⟨rfl, hw2⟩; have h2 := hw2.symm; subst h2)
      go_meet
      exact ⟨rfl, rfl⟩
  case rest =>
  obtain ⟨rfl, hwx⟩ := hcut
  subst hwx
  clear e1 e2 d2
  rcases hE with ⟨hf, rfl, rfl⟩ | ⟨hf, rfl, g', Q, rfl, hNQ, hF, hP⟩
  · rw [hf] at hmet
    have hm1 : (bits BinOp.and .i64 V q == 0) = true := hmet
    clear hmet hf
    go_wp2_with fail
    go_ret
    exact ⟨rfl, H3.out.keep⟩
  · rw [hf] at hmet
    have hm1 : (bits BinOp.and .i64 V q == 0) = false := hmet
    clear hmet hf
    obtain ⟨N1, hN1⟩ : ∃ N1, N = N1 + 1 := ⟨N - 1, by have := hF.n1; omega⟩
    have hN3 : N ≤ 3 * n := by have := hF.n3; have := HA.out.2.2.1; omega
    have hPw := fun wx (hk : Keeps None w wx) k (hk2 : k < N) => hk.cell (hP.at hk2) (fun f => f)
    have p0 : (Q.getD 0 (0, 0)) = (0, 1) := by rw [List.getD_eq_getElem?_getD, hF.first]; rfl
    have pN : (Q.getD N1 (0, 0)) = ((t : Int), (q : Int)) := by
      have := hF.last
      rw [← hNQ, hN1] at this
      rw [List.getD_eq_getElem?_getD, show N1 = N1 + 1 - 1 by omega, this]
      rfl
    have c0 := hPw _ H3.out.keep 0 (by omega)
    have cN := hPw _ H3.out.keep N1 (by omega)
    simp only [p0] at c0
    simp only [pN] at cN
    have j1 : ¬ (N : Int) = 0 := by omega
    have j1' : ((N : Int) == 0) = false := by simp; omega
    have j2 : ¬ (3 * (n : Int) < (N : Int)) := by omega
    have j3 : IntKind.i64.wrap ((N : Int) - 1) = (N1 : Int) := by rw [Go.IntWalk.i64_in _ (by omega)]; omega
    have j4 : (N1 : Int) < (N : Int) := by omega
    have j4' : N1 < N := by omega
    have j5 : (0 : Int) < (N : Int) := by omega
    have j6 : N ≤ 1536 := by omega
    have HP : Hid ((∀ wx, Keeps None w wx → ∀ k, k < N → wx.cell? ⟨g', k, none⟩ = some (.int .i64 (Q.getD k (0, 0)).1)) ∧ Fore f s (t, q) Q ∧ Q.getD 0 (0, 0) = (0, 1) ∧ Q.getD N1 (0, 0) = ((t : Int), (q : Int)) ∧ N = Q.length ∧ N = N1 + 1) := ⟨hPw, hF, p0, pN, hNQ, hN1⟩
    clear hPw hF p0 pN hNQ hP hN1
    go_upto_region 6 with fail
    clear y1 y2 hm1
    go_upto_region 7 with fail
    go_cut [105] (fun s105 wx => s105 = .bool false ∧ wx = wc)
    case first =>
      go_wp2_with fail
      go_meet
      exact ⟨rfl, rfl⟩
    case rest =>
    obtain ⟨rfl, hwx⟩ := hcut
    subst hwx
    clear c0 cN j1 j1' j2 j3 j5
    go_wp2_with fail
    go_loopw [15, 16] (fun s15 s16 wr => ∃ k : Nat, k ≤ N1 ∧ s16 = .int .i64 k ∧ s15 = .int .i64 (Q.getD k (0, 0)).2 ∧ Tr f w wr ca n cc B) (fun _ i _ => N1 - (intOf i).toNat)
    case atStart => exact ⟨0, Nat.zero_le _, rfl, by rw [HP.out.2.2.1], H3.out⟩
    case round =>
      obtain ⟨k, hk, rfl, rfl, hTr⟩ := hrel
      by_cases hkn : k < N1
      · obtain ⟨a, xi, hae, hxi, hmem, haf⟩ := fore_step HP.out.2.1 (k := k) (by have := HP.out.2.2.2.2.1; have := HP.out.2.2.2.2.2; omega)
        have c1 := HP.out.1 _ hTr.keep k (by omega)
        rw [hae] at c1
        obtain ⟨sk, hsk⟩ : ∃ sk, sk = (Q.getD k (0, 0)).2 := ⟨_, rfl⟩
        obtain ⟨b, hbe⟩ : ∃ b, b = (Q.getD (k + 1) (0, 0)).1 := ⟨_, rfl⟩
        rw [← hsk] at haf ⊢
        rw [← hbe] at hmem
        have han : a < n := by have := (List.getElem?_eq_some_iff.1 hxi).1; have := HA.out.2.2.1; omega
        have hnx := fun wx (hk : Keeps None w wx) => rnexts_any f ca cc a xi wx (by rw [← HA.out.2.2.1]; exact HA.out.2.1.more hk) hxi (HA.out.2.2.2 a xi hxi) (by have := HA.out.2.2.1; omega)
        unfold fnV at hnx
        rw [← HA.out.2.2.1] at hnx
        have d0 : wr.cell? ⟨B, 0, none⟩ = some (.int .i64 f.params) := (cell_of_heap hTr.box 0).trans rfl
        have d1 : wr.cell? ⟨B, 1, none⟩ = some (.int .i64 f.regs) := (cell_of_heap hTr.box 1).trans rfl
        have d2 : wr.cell? ⟨B, 2, none⟩ = some (.int .i64 f.slots) := (cell_of_heap hTr.box 2).trans rfl
        have d3' : wr.cell? ⟨B, 3, none⟩ = some (.slice ca n cc) := (cell_of_heap hTr.box 3).trans rfl
        have HNX : Hid _ := hnx
        have HK : Hid (Tr f w wr ca n cc B ∧ f.code[a]? = some xi ∧ b ∈ exitsV a xi ∧ (Q.getD (k + 1) (0, 0)).2 = afterV xi s sk ∧ b = (Q.getD (k + 1) (0, 0)).1 ∧ (Q.getD k (0, 0)).1 = a) := ⟨hTr, hxi, hmem, haf, hbe, hae⟩
        have k1 : (k : Int) + 1 < (N : Int) := by have := HP.out.2.2.2.2.2; omega
        have k2 : (k : Int) < (N : Int) := by omega
        have k2' : k < N := by omega
        have k3 : (a : Int) < (n : Int) := by omega
        obtain ⟨K1, hK1⟩ : ∃ K1, K1 = k + 1 := ⟨_, rfl⟩
        have k4 : IntKind.i64.wrap ((k : Int) + 1) = (K1 : Int) := by rw [Go.IntWalk.i64_in _ (by omega)]; omega
        have k5 : (K1 : Int) < (N : Int) := by omega
        have k5' : K1 < N := by omega
        have HK1 : Hid (K1 = k + 1) := hK1
        clear hK1
        clear hnx hTr hxi hmem haf hbe hsk hae d3
        go_upto_region 13 with fail
        go_cut [17] (fun s17 wx => wx.ownsRow 0 3 1 s17 (exitsV a xi).length ((exitsV a xi).map (Value.int .i64)) ∧ Keeps None wr wx)
        case first =>
          go_region_held3 (fun w' => w'.cell? ⟨B, 0, none⟩ = some (.int .i64 f.params) ∧ w'.cell? ⟨B, 1, none⟩ = some (.int .i64 f.regs) ∧ w'.cell? ⟨B, 2, none⟩ = some (.int .i64 f.slots) ∧ w'.cell? ⟨B, 3, none⟩ = some (.slice ca n cc) ∧ w'.cell? ⟨g', k, none⟩ = some (.int .i64 a)) (first | go_keep | with_reducible exact sP) (first
            | (go_at_call 59; refine (HNX.out _ (HK.out.1.keep.andDrew)).mono ?_; rintro _ w5 ⟨v, rfl, hv⟩; have hkP : Keeps None wr w5 := (Keeps.drew None wr).trans hv.keep (fun _ f _ => f); have sP := (And.intro (hkP.cell d0 (fun f => f)) (And.intro (hkP.cell d1 (fun f => f)) (And.intro (hkP.cell d2 (fun f => f)) (And.intro (hkP.cell d3' (fun f => f)) (hkP.cell c1 (fun f => f)))))); have hown := hv.own))
          all_goals (go_wp2_with fail; go_meet)
          all_goals exact ⟨hown, hkP⟩
        case rest =>
        obtain ⟨hown, hkc⟩ := hcut
        clear d0 d1 d2 d3' c1
        obtain ⟨va, vcap, rfl⟩ : ∃ va vcap, u17 = .slice va (exitsV a xi).length vcap := by
          rcases hown.2 with ⟨rfl, h0⟩ | ⟨gg, cap', cur, rfl, _⟩
          · exact ⟨none, 0, by rw [h0]⟩
          · exact ⟨_, cap', rfl⟩
        have HV : Hid (wc.ownsRow 0 3 1 (.slice va (exitsV a xi).length vcap) (exitsV a xi).length ((exitsV a xi).map (Value.int .i64)) ∧ Tr f w wc ca n cc B ∧ (exitsV a xi).length ≤ 512) := by
          refine ⟨hown, HK.out.1.more hkc, ?_⟩
          unfold exitsV
          simp only [List.length_append]
          split <;> split <;> split <;> simp
        clear hown hkc
        obtain ⟨L, hL⟩ : ∃ L, L = exitsV a xi := ⟨_, rfl⟩
        rw [← hL] at HV HK
        rw [← hL]
        obtain ⟨nL, hnL⟩ : ∃ nL, nL = L.length := ⟨_, rfl⟩
        rw [← hnL] at HV
        rw [← hnL]
        have HL : Hid (nL = L.length) := hnL
        clear hL hnL
        have hnL5 := HV.out.2.2
        go_upto_region 14 with fail
        go_upto_region 15 with fail
        go_wp2_with fail
        go_loopw [18, 19] (fun s18 s19 wx => ∃ j : Nat, j ≤ nL ∧ s19 = .int .i64 j ∧ s18 = .bool (decide (b ∈ L.take j)) ∧ Keeps None wc wx) (fun _ i _ => nL - (intOf i).toNat)
        case atStart => exact ⟨0, Nat.zero_le _, rfl, by simp, Keeps.refl _ _⟩
        case round =>
          obtain ⟨j, hj, rfl, rfl, hkj⟩ := hrel
          by_cases hjL : j < nL
          · obtain ⟨y, hy⟩ : ∃ y, L[j]? = some y := ⟨L[j]'(by have := HL.out; omega), List.getElem?_eq_getElem _⟩
            have hrw := hkj.own HV.out.1 (fun _ _ f => f)
            obtain ⟨gv, vc, hve, hcy⟩ := row_cell (l := L) (v := .slice va nL vcap) (by rw [← HL.out]; exact hrw) hy
            simp only [Value.slice.injEq] at hve
            obtain ⟨rfl, -, -⟩ := hve
            have cb := HP.out.1 _ (HV.out.2.1.keep.trans hkj (fun _ f _ => f)) (k + 1) (by have := HK1.out; omega)
            rw [← HK.out.2.2.2.2.1, ← HK1.out] at cb
            have hst := mem_take_step (b := b) hy
            have l1 : (j : Int) < (nL : Int) := by omega
            have l1' : j < nL := hjL
            have HJ : Hid (Keeps None wc wr ∧ decide (b ∈ L.take (j + 1)) = (decide (b ∈ L.take j) || (y == b))) := ⟨hkj, hst⟩
            clear hkj hrw hy hst
            cases hdec : decide (b ∈ L.take j) with
            | true =>
              rw [hdec] at HJ
              clear hdec
              go_upto_region 18 with fail
              go_quiet (fail)
              go_wp2_with fail
              refine ⟨⟨j + 1, by omega, by simp, by rw [HJ.out.2]; rfl, HJ.out.1.trans (Keeps.drewN None _ _) (fun _ f _ => f)⟩, by simp [intOf]; omega⟩
            | false =>
              rw [hdec] at HJ
              clear hdec
              go_upto_region 18 with fail
              go_quiet (fail)
              go_wp2_with fail
              refine ⟨⟨j + 1, by omega, by simp, by rw [HJ.out.2]; rfl, HJ.out.1.trans (Keeps.drewN None _ _) (fun _ f _ => f)⟩, by simp [intOf]; omega⟩
          · have l1 : ¬ (j : Int) < (nL : Int) := by omega
            have hin : decide (b ∈ L.take j) = true := by
              rw [List.take_of_length_le (by have := HL.out; omega)]
              exact decide_eq_true HK.out.2.2.1
            rw [hin]
            have hT5 := HV.out.2.1.more hkj
            obtain ⟨bI, oI, xi', hca, hxi', hat⟩ := (HA.out.2.1.more hT5.keep).at han
            rw [HK.out.2.1] at hxi'
            obtain rfl := Option.some.inj hxi'
            obtain ⟨z0, z1, z2, z3, z4⟩ := hat
            have c1 := HP.out.1 _ hT5.keep k (by omega)
            have hae := HK.out.2.2.2.2.2
            rw [hae] at c1
            have d3' : wr.cell? ⟨B, 3, none⟩ = some (.slice ca n cc) := (cell_of_heap hT5.box 3).trans rfl
            have haf : ∀ wx, Calls Tryd.prog 60 #[.agg #[.int .i64 xi.kind, .int .i64 xi.a, .int .i64 xi.b, .int .i64 xi.c, .int .i64 xi.k], .int .i64 s, .int .i64 sk] wx fun e w' => e = .returned (.int .i64 (afterV xi s sk)) ∧ Keeps None wx w' := fun wx => rafter_any xi s sk wx
            have HAF : Hid _ := haf
            have H5 : Hid (Tr f w wr ca n cc B) := hT5
            subst hca
            clear hT5 haf hkj hin hae
            go_upto_region 19 with fail
            go_upto_region 21 with fail
            go_region_held3 (fun w' => w'.cell? ⟨B, 3, none⟩ = some (.slice (some ⟨bI, oI, none⟩) n cc) ∧ w'.cell? ⟨g', k, none⟩ = some (.int .i64 a) ∧ w'.cell? ⟨bI, oI + a * 5, none⟩ = some (.int .i64 xi.kind) ∧ w'.cell? ⟨bI, oI + a * 5 + 1, none⟩ = some (.int .i64 xi.a) ∧ w'.cell? ⟨bI, oI + a * 5 + 2, none⟩ = some (.int .i64 xi.b) ∧ w'.cell? ⟨bI, oI + a * 5 + 3, none⟩ = some (.int .i64 xi.c) ∧ w'.cell? ⟨bI, oI + a * 5 + 4, none⟩ = some (.int .i64 xi.k)) (first | go_keep | with_reducible exact sP) (first
                | (go_at_call 60; refine (HAF.out _).mono ?_; rintro _ w5 ⟨rfl, hk5⟩; have hkP : Keeps None wr w5 := (Keeps.drew None wr).trans hk5 (fun _ f _ => f); have sP := (And.intro (hkP.cell d3' (fun f => f)) (And.intro (hkP.cell c1 (fun f => f)) (And.intro (hkP.cell z0 (fun f => f)) (And.intro (hkP.cell z1 (fun f => f)) (And.intro (hkP.cell z2 (fun f => f)) (And.intro (hkP.cell z3 (fun f => f)) (hkP.cell z4 (fun f => f)))))))) ))
            all_goals
              have H6 : Hid (Tr f w w5 (some ⟨bI, oI, none⟩) n cc B) := H5.out.more hkP
              go_wp2_with fail
              exact ⟨⟨k + 1, by omega, by rw [HK1.out], by rw [HK.out.2.2.2.1], H6.out⟩, by have := HK1.out; simp [intOf]; omega⟩
      · have k1 : ¬ (k : Int) + 1 < (N : Int) := by have := HP.out.2.2.2.2.2; omega
        have hkN : k = N1 := by omega
        subst hkN
        rw [HP.out.2.2.2.1]
        have HZ : Hid (Keeps None w wr) := hTr.keep
        clear hTr
        go_wp2_with fail
        go_ret
        exact ⟨rfl, HZ.out⟩
end Go.Proofs.YtklepknkdkponaaDoor
