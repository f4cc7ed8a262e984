import Derived.Test.YtdiabpoafennlaaHyCst
/-! The walk of calm. -/
namespace Go.Proofs.Ytdiabpoafennlaa
set_option linter.unusedVariables false
set_option maxRecDepth 20000
set_option linter.unusedSimpArgs false
open Go.RowKit Go.HeapKit

theorem cm_cons (st : List Bool) (d : Int × Int) (ds : List (Int × Int)) (out : List Nat) (o : Nat) (wh : List Nat) (sp : Nat) : cmB st (d :: ds) out o wh sp = if d.1 = 0 then cmB st ds (o :: out) 0 (sp :: wh) (sp + 1)
    else if d.1 = 2 then cmB st ds out 0 wh sp
    else if d.1 = 1 then (match out, wh with
      | o' :: out, t :: wh => cmB st ds out (o' + if st.getD t false = true then 1 else 0) wh sp
      | _, _ => false)
    else cmB st ds out o wh sp := rfl
theorem cm_0 (st : List Bool) (x : Dd) (ds : List (Int × Int)) (out : List Nat) (o : Nat) (wh : List Nat) (sp : Nat) (h : x.k = 0) : cmB st (dp x :: ds) out o wh sp = cmB st ds (o :: out) 0 (sp :: wh) (sp + 1) := by
  rw [cm_cons, if_pos (show (dp x).1 = 0 from h)]
theorem cm_2 (st : List Bool) (x : Dd) (ds : List (Int × Int)) (out : List Nat) (o : Nat) (wh : List Nat) (sp : Nat) (h : x.k = 2) : cmB st (dp x :: ds) out o wh sp = cmB st ds out 0 wh sp := by
  rw [cm_cons, if_neg (show ¬ (dp x).1 = 0 by show ¬ x.k = 0; omega), if_pos (show (dp x).1 = 2 from h)]
theorem cm_1n (st : List Bool) (x : Dd) (ds : List (Int × Int)) (o : Nat) (wh : List Nat) (sp : Nat) (h : x.k = 1) : cmB st (dp x :: ds) [] o wh sp = false := by
  rw [cm_cons, if_neg (show ¬ (dp x).1 = 0 by show ¬ x.k = 0; omega), if_neg (show ¬ (dp x).1 = 2 by show ¬ x.k = 2; omega), if_pos (show (dp x).1 = 1 from h)]
theorem cm_1 (st : List Bool) (x : Dd) (ds : List (Int × Int)) (o' : Nat) (out : List Nat) (o t : Nat) (wh : List Nat) (sp : Nat) (h : x.k = 1) : cmB st (dp x :: ds) (o' :: out) o (t :: wh) sp = cmB st ds out (o' + if st.getD t false = true then 1 else 0) wh sp := by
  rw [cm_cons, if_neg (show ¬ (dp x).1 = 0 by show ¬ x.k = 0; omega), if_neg (show ¬ (dp x).1 = 2 by show ¬ x.k = 2; omega), if_pos (show (dp x).1 = 1 from h)]
theorem cm_o (st : List Bool) (x : Dd) (ds : List (Int × Int)) (out : List Nat) (o : Nat) (wh : List Nat) (sp : Nat) (h0 : ¬ x.k = 0) (h2 : ¬ x.k = 2) (h1 : ¬ x.k = 1) : cmB st (dp x :: ds) out o wh sp = cmB st ds out o wh sp := by
  rw [cm_cons, if_neg (show ¬ (dp x).1 = 0 from h0), if_neg (show ¬ (dp x).1 = 2 from h2), if_neg (show ¬ (dp x).1 = 1 from h1)]
theorem cm_end (st : List Bool) (out : List Nat) (o : Nat) (wh : List Nat) (sp : Nat) : cmB st [] out o wh sp = (out.reverse ++ [o]).all (fun x => x == 0) := by
  rw [cmB]
  simp [Bool.and_comm]
def mo' (out : List Nat) (o : Nat) : List Nat := out.reverse ++ [o]
theorem mo_last (out : List Nat) (o : Nat) : (mo' out o)[out.length]? = some o := by unfold mo'; rw [List.getElem?_append_right (by simp)]; simp
theorem mo_put (out : List Nat) (o x : Nat) : (mo' out o).set out.length x = mo' out x := by unfold mo'; rw [List.set_append_right _ _ (by simp)]; simp
theorem mo_cons (o' : Nat) (out : List Nat) (o : Nat) : mo' (o' :: out) o = mo' out o' ++ [o] := by unfold mo'; rw [List.reverse_cons]
theorem mo_len (out : List Nat) (o : Nat) : (mo' out o).length = out.length + 1 := by simp [mo']
theorem rev_last (t : Nat) (wh : List Nat) : (t :: wh).reverse[wh.length]? = some t := by rw [List.reverse_cons, List.getElem?_append_right (by simp)]; simp
set_option maxHeartbeats 6400000 in
theorem calm_ok (a0 a1 a2 : Option Addr) (n0 c0 n1 c1 n2 c2 q : Nat) (l : List Dd) (st : List Bool) (w : World) (h0 : Seen w a0 n0 l) (h1 : SeenV w a1 n1 (bv' st)) (hn : n0 ≤ 4096) (hq : q ≤ n0) (B : Bool) (hB : cmB st ((l.take q).map dp) [] 0 [] 0 = B) :
    Calls Try.prog 20 #[.agg #[.slice a0 n0 c0, .slice a1 n1 c1, .slice a2 n2 c2], .int .i64 q] w fun e w' => e = .returned (.bool B) ∧ Keeps None w w' := by
  have HL : Hid (n0 = l.length) := h0.len
  obtain ⟨p0, hp0⟩ : ∃ p0, p0 = w.heap.size := ⟨_, rfl⟩
  have hb0 := blk_new w (.cells #[.slice a0 n0 c0, .slice a1 n1 c1, .slice a2 n2 c2] 26) p0 hp0.symm
  have hkb := (Keeps.alloc None w (.cells #[.slice a0 n0 c0, .slice a1 n1 c1, .slice a2 n2 c2] 26))
  go_enter Try.func20, Try.ntmps20
  go_upto_region 1 with fail
  rw [← hp0]
  clear hp0
  generalize w.alloc (.cells #[.slice a0 n0 c0, .slice a1 n1 c1, .slice a2 n2 c2] 26) = wb at *
  have HB : Hid (∀ wx, Keeps None wb wx → (wx.cell? ⟨p0, 0, none⟩ = some (.slice a0 n0 c0) ∧ wx.cell? ⟨p0, 1, none⟩ = some (.slice a1 n1 c1) ∧ wx.cell? ⟨p0, 2, none⟩ = some (.slice a2 n2 c2)) ∧ Seen wx a0 n0 l ∧ SeenV wx a1 n1 (bv' st)) := fun wx hx => ⟨⟨blk_cell (blk_kept hb0 hx (fun f => f)) 0, blk_cell (blk_kept hb0 hx (fun f => f)) 1, blk_cell (blk_kept hb0 hx (fun f => f)) 2⟩, (h0.more hkb).more hx, (h1.more hkb).more hx⟩
  have HK : Hid (Keeps None w wb) := hkb
  have H0 : Hid (Cst (wb.alloc (.cells #[.int .i64 0] 3)) wb.heap.size (some ⟨wb.heap.size, 0, none⟩) 1 1 none 0 0 (mo' [] 0) ([] : List Nat).reverse ∧ Keeps None wb (wb.alloc (.cells #[.int .i64 0] 3))) := by
    refine ⟨⟨⟨by simp [nv, iv, nI, mo'], .inr ⟨wb.heap.size, 1, #[.int .i64 0], rfl, Nat.le_refl _, heap_alloc_new _ _, Nat.le_refl _, by unfold maxLen; omega, by simp, by simp [nv, iv, nI, mo']⟩⟩, row_nil _ _ _ _, fun g _ e => by cases e⟩, Keeps.alloc None wb _⟩
  obtain ⟨W, hW⟩ : ∃ W, W = wb.heap.size := ⟨_, rfl⟩
  have HW : Hid (W = wb.heap.size) := hW
  rw [← hW] at H0
  clear h0 h1 hb0 hkb
  go_wp2_with fail
  rw [← hW]
  clear hW
  generalize wb.alloc (.cells #[.int .i64 0] 3) = wc at *
  go_loopw [5, 6, 7, 8, 9] (fun ov wv s i nn wr => ∃ (k sp o M c5 N c6 : Nat) (out wh : List Nat) (a5 a6 : Option Addr), k ≤ q ∧ i = .int .i64 k ∧ s = .int .i64 sp ∧ ov = .slice a5 M c5 ∧ wv = .slice a6 N c6 ∧ Cst wr W a5 M c5 a6 N c6 (mo' out o) wh.reverse ∧ Keeps None wb wr ∧ cmB st (((l.take q).drop k).map dp) out o wh sp = B ∧ wh.length = out.length ∧ sp ≤ k ∧ out.length ≤ k ∧ (∀ x ∈ mo' out o, x ≤ k)) (fun _ _ _ i _ _ => q - (intOf i).toNat)
  case atStart => exact ⟨0, 0, 0, 1, 1, 0, 0, [], [], _, _, Nat.zero_le _, rfl, rfl, rfl, rfl, H0.out.1, H0.out.2, hB, rfl, Nat.le_refl _, Nat.le_refl _, by simp [mo']⟩
  case round =>
    obtain ⟨k, sp, o, M, c5, N, c6, out, wh, a5, a6, hk, rfl, rfl, rfl, rfl, hC, hkp, hcm, hwl, hsp, hop, hle⟩ := hrel
    have hM := hC.len5
    have hN := hC.len6
    rw [mo_len] at hM
    rw [List.length_reverse] at hN
    obtain ⟨⟨y0, y1, y2⟩, hS, hT⟩ := HB.out wr hkp
    by_cases hkn : k < q
    · obtain ⟨b, off, x, rfl, hb, hx, u0, u1⟩ := hS.elem (show k < n0 by omega)
      have i3 : (k : Int) < (q : Int) := by omega
      have i4 : (k : Int) < (n0 : Int) := by omega
      have hmd2 : ((l.take q).drop k).map dp = dp x :: ((l.take q).drop (k + 1)).map dp := by
        have hx2 : (l.take q)[k]? = some x := by rw [List.getElem?_take, if_pos hkn]; exact hx
        obtain ⟨h1, h2⟩ := List.getElem?_eq_some_iff.1 hx2
        rw [List.drop_eq_getElem_cons h1, h2]
        rfl
      rw [hmd2] at hcm
      obtain ⟨xk, xl⟩ := x
      have HKP : Hid (Keeps None wb wr ∧ W ≤ wr.heap.size) := ⟨hkp, by rw [HW.out]; exact hkp.size⟩
      simp only at u0
      have hw1 : wrap64 ((M : Int) - 1) = (out.length : Int) := by unfold wrap64; omega
      by_cases e0 : xk = 0
      · subst e0
        rw [cm_0 _ _ _ _ _ _ _ rfl] at hcm
        obtain ⟨g5, cp5, w2, hr5, hC2, hk2⟩ := hC.push5 HKP.out.2 0 (by omega) 24
        have hs2 : W ≤ w2.heap.size := Nat.le_trans HKP.out.2 hk2.size
        obtain ⟨g6, cp6, w3, hr6, hC3, hk3⟩ := hC2.push6 hs2 sp (by omega) 24
        have hkw3 : Keeps None wb w3 := (hkp.trans hk2 (fun i e hi => by have := HW.out; omega)).trans hk3 (fun i e hi => by have := HW.out; omega)
        have HN : Hid (Cst w3 W (some ⟨g5, 0, none⟩) (M + 1) cp5 (some ⟨g6, 0, none⟩) (N + 1) cp6 (mo' (o :: out) 0) (sp :: wh).reverse ∧ Keeps None wb w3 ∧ cmB st (((l.take q).drop (k + 1)).map dp) (o :: out) 0 (sp :: wh) (sp + 1) = B ∧ (∀ x ∈ mo' (o :: out) 0, x ≤ k + 1)) := by
          refine ⟨?_, hkw3, hcm, ?_⟩
          · rw [mo_cons, List.reverse_cons]; exact hC3
          · intro x hx
            rw [mo_cons] at hx
            rcases List.mem_append.1 hx with hx | hx
            · have := hle x hx; omega
            · simp at hx; omega
        have HL2 : Hid (wh.length = out.length ∧ sp ≤ k ∧ out.length ≤ k) := ⟨hwl, hsp, hop⟩
        obtain ⟨⟨z0, z1, z2⟩, -⟩ := HB.out w3 hkw3
        have hsp5 : sp ≤ 5000 := by omega
        clear hC hC2 hC3 hkp hx hcm hmd2 hk2 hk3 hS hT hkw3 hle hM hN hs2 hwl hsp hop
        go_wp2_with (at_builtin; first | refine wpList_append_run rfl (.tmp 35) (.tmp 36) 24 24 rfl rfl rfl hr5 ?_ | refine wpList_append_run rfl (.tmp 38) (.tmp 40) 24 24 rfl rfl rfl hr6 ?_)
        go_roundw
        case rel => exact ⟨k + 1, sp + 1, 0, M + 1, cp5, N + 1, cp6, o :: out, sp :: wh, _, _, by omega, by go_num, by go_num, rfl, rfl, HN.out.1, HN.out.2.1, HN.out.2.2.1, by simp [HL2.out.1], by have := HL2.out.2.1; omega, by have := HL2.out.2.2; simp; omega, HN.out.2.2.2⟩
        case measure => simp [intOf]; omega
      · by_cases e2 : xk = 2
        · subst e2
          rw [cm_2 _ _ _ _ _ _ _ rfl] at hcm
          obtain ⟨g5, rfl, hg1, hg2, hg3, hc5, hf5⟩ := hC.at5 (mo_last out o)
          have hf5 := hf5 out.length
          have hkw2 : Keeps None wb (wr.setCell ⟨g5, out.length, none⟩ (.int .i64 0)) := hkp.andSet (x := ⟨g5, _, none⟩) (.inr (by have := HW.out; show wb.heap.size ≤ g5; omega)) _
          have HN : Hid (Cst (wr.setCell ⟨g5, out.length, none⟩ (.int .i64 0)) W (some ⟨g5, 0, none⟩) M c5 a6 N c6 (mo' out 0) wh.reverse ∧ Keeps None wb (wr.setCell ⟨g5, out.length, none⟩ (.int .i64 0)) ∧ cmB st (((l.take q).drop (k + 1)).map dp) out 0 wh sp = B ∧ (∀ x ∈ mo' out 0, x ≤ k + 1) ∧ wh.length = out.length ∧ sp ≤ k ∧ out.length ≤ k) := by
            have hC2 := hC.set5 out.length 0
            rw [mo_put] at hC2
            refine ⟨hC2, hkw2, hcm, ?_, hwl, hsp, hop⟩
            intro x hx
            rcases List.mem_append.1 hx with hx | hx
            · have := hle x (List.mem_append_left _ hx); omega
            · simp at hx; omega
          have i5 : (out.length : Int) < (M : Int) := by omega
          have i6 : (0 : Int) ≤ (out.length : Int) := by omega
          clear hC hkp hx hcm hmd2 hS hT hkw2 hle hM hN hwl hsp hop
          go_wp2
          go_roundw
          case rel => exact ⟨k + 1, sp, 0, M, c5, N, c6, out, wh, _, _, by omega, by go_num, rfl, rfl, rfl, HN.out.1, HN.out.2.1, HN.out.2.2.1, HN.out.2.2.2.2.1, by have := HN.out.2.2.2.2.2.1; omega, by have := HN.out.2.2.2.2.2.2; omega, HN.out.2.2.2.1⟩
          case measure => simp [intOf]; omega
        · by_cases e1 : xk = 1
          · subst e1
            cases out with
            | nil =>
              rw [cm_1n _ _ _ _ _ _ rfl] at hcm
              have hw0 : wrap64 ((M : Int) - 1) = 0 := by simp at hM; unfold wrap64; omega
              have HE : Hid (B = false ∧ Keeps None w wr) := ⟨hcm.symm, HK.out.trans hkp (fun _ f _ => f)⟩
              clear hw1 hC hkp hx hcm hmd2 hS hT hle hM hN hwl hsp hop
              go_wp2
              go_ret
              exact ⟨by rw [HE.out.1]; rfl, HE.out.2⟩
            | cons o' out =>
              cases wh with
              | nil => simp at hwl
              | cons t wh =>
                rw [cm_1 _ _ _ _ _ _ _ _ _ rfl] at hcm
                simp only [List.length_cons] at hM hN hwl hop hw1
                obtain ⟨J, hJ⟩ : ∃ J, J = out.length := ⟨_, rfl⟩
                obtain ⟨T, hT1⟩ : ∃ T, T = J + 1 := ⟨_, rfl⟩
                have hwJ : wh.length = J := by omega
                have hCa : Cst wr W a5 T c5 a6 N c6 (mo' out o') (t :: wh).reverse := by
                  have h := hC
                  rw [mo_cons, show M = T + 1 by omega] at h
                  exact h.pop5
                obtain ⟨g6, rfl, -, -, hg6, hc6, -⟩ := hCa.at6 (rev_last t wh)
                have hCb : Cst wr W a5 T c5 (some ⟨g6, 0, none⟩) J c6 (mo' out o') wh.reverse := by
                  have h := hCa
                  rw [List.reverse_cons, show N = J + 1 by omega] at h
                  exact h.pop6
                obtain ⟨g5, rfl, hg1, -, hg5, hc5, hf5⟩ := hCb.at5 (mo_last out o')
                have hf5 := hf5 J
                rw [hwJ] at hc6
                rw [← hJ] at hc5
                rw [← hJ, ← hT1] at hw1
                obtain ⟨v, hv⟩ : ∃ v, v = st.getD t false := ⟨_, rfl⟩
                rw [← hv] at hcm
                have HV : Hid (v = st.getD t false ∧ ∀ wx, Keeps None wr wx → SeenV wx a1 n1 (bv' st)) := ⟨hv, fun wx hx => hT.more hx⟩
                have ho' : o' ≤ k := hle o' (by rw [mo_cons]; exact List.mem_append_left _ (by simp [mo']))
                have HN : Hid (Cst wr W (some ⟨g5, 0, none⟩) T c5 (some ⟨g6, 0, none⟩) J c6 (mo' out o') wh.reverse ∧ cmB st (((l.take q).drop (k + 1)).map dp) out (o' + if v = true then 1 else 0) wh sp = B ∧ (∀ x ∈ out.reverse, x ≤ k) ∧ wh.length = out.length ∧ sp ≤ k ∧ out.length ≤ k ∧ J = out.length ∧ W ≤ g5) :=
                  ⟨hCb, hcm, fun x hx => hle x (by rw [mo_cons]; exact List.mem_append_left _ (List.mem_append_left _ hx)), by omega, hsp, by omega, hJ, hg1⟩
                have hw2 : wrap64 ((T : Int) - 1) = (J : Int) := by unfold wrap64; omega
                have hw3 : IntKind.i64.wrap ((T : Int) - 1) = (J : Int) := by rw [IntKind.wrap_i64]; omega
                obtain ⟨O1, hO1⟩ : ∃ O1, O1 = o' + 1 := ⟨_, rfl⟩
                have hw4 : wrap64 ((o' : Int) + 1) = (O1 : Int) := by unfold wrap64; omega
                have HO : Hid (O1 = o' + 1 ∧ o' ≤ k) := ⟨hO1, ho'⟩
                have i5 : (J : Int) < (T : Int) := by omega
                have i6 : (0 : Int) ≤ (J : Int) := by omega
                have i7 : (J : Int) < (N : Int) := by omega
                have i8 : (J : Int) ≤ (c6 : Int) := by omega
                have i9 : (T : Int) ≤ (c5 : Int) := by omega
                have i10 : (0 : Int) ≤ (T : Int) := by omega
                have i11 : ¬ (T : Int) = 0 := by omega
                clear hC hCa hCb hkp hx hcm hmd2 hS hT hle hM hN hwl hsp hop hJ hT1 hwJ hv hO1 ho' hg1 hg5 hg6
                go_upto_region 19 with fail
                have hkc : Keeps None wr wr.drew := Keeps.drew None wr
                have hs : wr.drew.cell? ⟨p0, 0, none⟩ = some (.slice (some ⟨b, off, none⟩) n0 c0) ∧ wr.drew.cell? ⟨p0, 1, none⟩ = some (.slice a1 n1 c1) ∧ wr.drew.cell? ⟨p0, 2, none⟩ = some (.slice a2 n2 c2) ∧ wr.drew.cell? ⟨g6, J, none⟩ = some (.int .i64 t) := ⟨y0, y1, y2, hc6⟩
                go_region_held3 (fun wx => wx.cell? ⟨p0, 0, none⟩ = some (.slice (some ⟨b, off, none⟩) n0 c0) ∧ wx.cell? ⟨p0, 1, none⟩ = some (.slice a1 n1 c1) ∧ wx.cell? ⟨p0, 2, none⟩ = some (.slice a2 n2 c2) ∧ wx.cell? ⟨g6, J, none⟩ = some (.int .i64 t)) (first | exact hs | go_keep) (first
                  | (go_at_call 28; refine Calls.mono (stole_ok (some ⟨b, off, none⟩) a1 a2 n0 c0 n1 c1 n2 c2 t st _ (HV.out.2 _ hkc)) ?_; rintro _ wn ⟨rfl, hkn⟩; replace hkc := hkc.trans hkn (fun _ f _ => f); replace hs : wn.cell? ⟨p0, 0, none⟩ = some (.slice (some ⟨b, off, none⟩) n0 c0) ∧ wn.cell? ⟨p0, 1, none⟩ = some (.slice a1 n1 c1) ∧ wn.cell? ⟨p0, 2, none⟩ = some (.slice a2 n2 c2) ∧ wn.cell? ⟨g6, J, none⟩ = some (.int .i64 t) := ⟨hkc.cell y0 (fun f => f), hkc.cell y1 (fun f => f), hkc.cell y2 (fun f => f), hkc.cell hc6 (fun f => f)⟩; rw [← HV.out.1]; clear hkn))
                all_goals
                  have hCn := HN.out.1.more hkc
                  have hkw : Keeps None wb wn := HKP.out.1.trans hkc (fun _ f _ => f)
                  obtain ⟨g5', e5, -, -, -, hc5n, hf5n⟩ := hCn.at5 (mo_last out o')
                  injection e5 with e5
                  injection e5 with e5
                  subst e5
                  rw [← HN.out.2.2.2.2.2.2.1] at hc5n
                  have hf5n := hf5n J
                  cases v with
                  | true =>
                    have hkw2 : Keeps None wb (wn.setCell ⟨g5, J, none⟩ (.int .i64 O1)) := hkw.andSet (x := ⟨g5, _, none⟩) (.inr (by have := HW.out; have := HN.out.2.2.2.2.2.2.2; show wb.heap.size ≤ g5; omega)) _
                    have HN2 : Hid (Cst (wn.setCell ⟨g5, J, none⟩ (.int .i64 O1)) W (some ⟨g5, 0, none⟩) T c5 (some ⟨g6, 0, none⟩) J c6 (mo' out O1) wh.reverse ∧ Keeps None wb (wn.setCell ⟨g5, J, none⟩ (.int .i64 O1)) ∧ cmB st (((l.take q).drop (k + 1)).map dp) out O1 wh sp = B ∧ (∀ x ∈ mo' out O1, x ≤ k + 1)) := by
                      have hC2 := hCn.set5 J O1
                      rw [show (mo' out o').set J O1 = mo' out O1 by rw [HN.out.2.2.2.2.2.2.1]; exact mo_put _ _ _] at hC2
                      refine ⟨hC2, hkw2, ?_, ?_⟩
                      · have h := HN.out.2.1
                        rw [if_pos rfl, ← HO.out.1] at h
                        exact h
                      · intro x hx
                        rcases List.mem_append.1 hx with hx | hx
                        · have := HN.out.2.2.1 x hx; omega
                        · simp at hx; have := HO.out; omega
                    clear hkc hCn hkw hkw2 hc5 hf5 hc6
                    go_wp2_with fail
                    exact ⟨⟨k + 1, sp, O1, T, c5, J, c6, out, wh, _, _, by omega, by go_num, rfl, rfl, rfl, HN2.out.1, HN2.out.2.1, HN2.out.2.2.1, HN.out.2.2.2.1, by have := HN.out.2.2.2.2.1; omega, by have := HN.out.2.2.2.2.2.1; omega, HN2.out.2.2.2⟩, by simp [intOf]; omega⟩
                  | false =>
                    have HN2 : Hid (Cst wn W (some ⟨g5, 0, none⟩) T c5 (some ⟨g6, 0, none⟩) J c6 (mo' out o') wh.reverse ∧ Keeps None wb wn ∧ cmB st (((l.take q).drop (k + 1)).map dp) out o' wh sp = B ∧ (∀ x ∈ mo' out o', x ≤ k + 1)) := by
                      refine ⟨hCn, hkw, ?_, ?_⟩
                      · have h := HN.out.2.1
                        rw [if_neg (by simp)] at h
                        exact h
                      · intro x hx
                        rcases List.mem_append.1 hx with hx | hx
                        · have := HN.out.2.2.1 x hx; omega
                        · simp at hx; have := HO.out; omega
                    clear hkc hCn hkw hc5 hf5 hc6
                    go_wp2_with fail
                    exact ⟨⟨k + 1, sp, o', T, c5, J, c6, out, wh, _, _, by omega, by go_num, rfl, rfl, rfl, HN2.out.1, HN2.out.2.1, HN2.out.2.2.1, HN.out.2.2.2.1, by have := HN.out.2.2.2.2.1; omega, by have := HN.out.2.2.2.2.2.1; omega, HN2.out.2.2.2⟩, by simp [intOf]; omega⟩
          · rw [cm_o _ _ _ _ _ _ _ e0 e2 e1] at hcm
            have HN : Hid (Cst wr W a5 M c5 a6 N c6 (mo' out o) wh.reverse ∧ cmB st (((l.take q).drop (k + 1)).map dp) out o wh sp = B ∧ (∀ x ∈ mo' out o, x ≤ k + 1) ∧ wh.length = out.length ∧ sp ≤ k ∧ out.length ≤ k) :=
              ⟨hC, hcm, fun x hx => Nat.le_succ_of_le (hle x hx), hwl, hsp, hop⟩
            clear hC hkp hx hcm hmd2 hS hT hle hM hN hwl hsp hop
            go_wp2
            go_roundw
            case rel => exact ⟨k + 1, sp, o, M, c5, N, c6, out, wh, _, _, by omega, by go_num, rfl, rfl, rfl, HN.out.1, HKP.out.1, HN.out.2.1, HN.out.2.2.2.1, by have := HN.out.2.2.2.2.1; omega, by have := HN.out.2.2.2.2.2; omega, HN.out.2.2.1⟩
            case measure => simp [intOf]; omega
    · have hkn2 : k = q := by omega
      have i3 : ¬ (k : Int) < (q : Int) := by omega
      rw [List.drop_eq_nil_of_le (by simp; omega)] at hcm
      have hcm2 : (mo' out o).all (fun x => x == 0) = B := (cm_end st out o wh sp).symm.trans hcm
      obtain ⟨mo, hmo⟩ : ∃ mo, mo = mo' out o := ⟨_, rfl⟩
      rw [← hmo] at hC hcm2
      have HC : Hid (Cst wr W a5 M c5 a6 N c6 mo wh.reverse ∧ mo.all (fun x => x == 0) = B ∧ Keeps None w wr ∧ M ≤ 5000) := ⟨hC, hcm2, HK.out.trans hkp (fun _ f _ => f), by omega⟩
      clear hC hcm2 hmo hkp hcm hS hT hle hM hN hwl hsp hop
      go_wp2_with fail
      go_loopw [10] (fun j wq => ∃ i : Nat, j = .int .i64 i ∧ i ≤ M ∧ wq = wr ∧ ∀ m x, m < i → mo[m]? = some x → x = 0) (fun j _ => M - (intOf j).toNat)
      case atStart => exact ⟨0, rfl, Nat.zero_le _, rfl, fun _ _ h => absurd h (Nat.not_lt_zero _)⟩
      case round =>
        obtain ⟨i, rfl, hi, rfl, hz⟩ := hrel
        have hM := HC.out.1.len5
        by_cases him : i < M
        · obtain ⟨x, hx⟩ : ∃ x, mo[i]? = some x := ⟨mo[i]'(by omega), by simp⟩
          obtain ⟨g5, rfl, -, -, -, hc5, -⟩ := HC.out.1.at5 hx
          have i5 : (i : Int) < (M : Int) := by omega
          have i6 : (0 : Int) ≤ (i : Int) := by omega
          have hM5 : M ≤ 5000 := HC.out.2.2.2
          by_cases hx0 : x = 0
          · have i7 : ¬ (0 : Int) < (x : Int) := by omega
            have HN : Hid (∀ m x, m < i + 1 → mo[m]? = some x → x = 0) := by
              intro m y hm hy
              rcases Nat.lt_succ_iff_lt_or_eq.1 hm with hm | rfl
              · exact hz m y hm hy
              · rw [hx] at hy
                obtain rfl := Option.some.inj hy
                exact hx0
            clear hz hx hM hx0
            go_wp2
            go_roundw
            case rel => exact ⟨i + 1, by go_num, by omega, trivial, HN.out⟩
            case measure => simp [intOf]; omega
          · have i7 : (0 : Int) < (x : Int) := by omega
            have HE : Hid (B = false ∧ Keeps None w wr) := by
              refine ⟨?_, HC.out.2.2.1⟩
              rw [← HC.out.2.1, List.all_eq_false]
              exact ⟨x, List.mem_of_getElem? hx, by simp [hx0]⟩
            clear hz hx hM hx0
            go_wp2
            go_ret
            exact ⟨by rw [HE.out.1]; rfl, HE.out.2⟩
        · have i5 : ¬ (i : Int) < (M : Int) := by omega
          have HE : Hid (B = true ∧ Keeps None w wr) := by
            refine ⟨?_, HC.out.2.2.1⟩
            rw [← HC.out.2.1, List.all_eq_true]
            intro x hx
            obtain ⟨m, hm, rfl⟩ := List.mem_iff_getElem.1 hx
            have := hz m mo[m] (by omega) (by simp)
            simp [this]
          clear hz hM
          go_wp2
          go_ret
          exact ⟨by rw [HE.out.1]; rfl, HE.out.2⟩
end Go.Proofs.Ytdiabpoafennlaa
