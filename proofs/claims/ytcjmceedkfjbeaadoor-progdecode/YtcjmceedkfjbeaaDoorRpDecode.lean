import Derived.Test.YtcjmceedkfjbeaaDoorRpWhole
import Derived.Test.YtcjmceedkfjbeaaDoorRpSum
import Derived.Test.YtcjmceedkfjbeaaDoorRpCheck
/-! The document's Decode. -/
namespace Go.Proofs.YtcjmceedkfjbeaaDoor
set_option linter.unusedVariables false
set_option maxRecDepth 20000
open Go.RowKit Go.HeapKit

theorem SeenW.part {w : World} {b off n : Nat} {zs : List Int} (h : SeenW w (some ⟨b, off, none⟩) n zs) (i k : Nat) (hik : i + k ≤ n) : SeenW w (some ⟨b, off + i, none⟩) k ((zs.drop i).take k) := by
  have hl := h.len
  have hm := h.most
  refine ⟨by simp; omega, by omega, fun x hx => h.ok x (List.mem_of_mem_drop (List.mem_of_mem_take hx)), fun h0 => ?_⟩
  obtain ⟨b', off', e, hb, hc⟩ := h.ex (by omega)
  injection e with e
  injection e with e1 e2 _
  subst e1 e2
  refine ⟨b, off + i, rfl, hb, fun j x hx => ?_⟩
  rw [List.getElem?_take] at hx
  split at hx
  · rw [List.getElem?_drop] at hx
    rw [Nat.add_assoc]
    exact hc (i + j) x hx
  · cases hx
def RDecPost (w : World) (zs : List Int) (e : Ending) (w' : World) : Prop := Keeps None w w' ∧ ∃ xa k xc, e = .returned (.tuple #[.agg #[.slice xa k xc], .int .i64 (decV zs).1]) ∧ SeenF w' xa k (decV zs).2
theorem seen_nil (w : World) (a : Option Addr) : SeenF w a 0 [] := ⟨rfl, fun h => by omega⟩
set_option maxHeartbeats 2000000 in
theorem rdecode_any (a : Option Addr) (n c : Nat) (zs : List Int) (w : World) (hS : SeenW w a n zs) (hc : n ≤ c) (hcm : c ≤ maxLen) (hr : n * 8 ≤ 140737488351232) :
    Calls Tryd.prog 11 #[.slice a n c] w (RDecPost w zs) := by
  have hlen := hS.len
  have HP : Hid (∀ e w' d, decV zs = d → Keeps None w w' → (∃ xa k xc, e = .returned (.tuple #[.agg #[.slice xa k xc], .int .i64 d.1]) ∧ SeenF w' xa k d.2) → RDecPost w zs e w') := fun e w' d hd hk h => ⟨hk, by rw [hd]; exact h⟩
  obtain ⟨B, hB⟩ : ∃ B, B = w.heap.size := ⟨_, rfl⟩
  have k1 := Keeps.alloc None w (.cells #[.slice none 0 0] 25)
  have b1 := heap_alloc_new w (.cells #[.slice none 0 0] 25)
  obtain ⟨w1, hw1⟩ : ∃ w1, w1 = w.alloc (.cells #[.slice none 0 0] 25) := ⟨_, rfl⟩
  rw [← hw1] at k1 b1
  rw [← hB] at b1
  have hret : ∀ wx, Keeps None w1 wx → wx.cell? ⟨B, 0, none⟩ = some (.slice none 0 0) ∧ wx.frozen? ⟨B, 0, none⟩ = false ∧ ∀ v, (wx.setCell ⟨B, 0, none⟩ v).heap[B]? = some (.cells #[v] 25 (0, 0)) ∧ Keeps None w (wx.setCell ⟨B, 0, none⟩ v) := fun wx hk => by
    have hb := blk_kept b1 hk (fun f => f)
    refine ⟨(cell_of_heap hb 0).trans rfl, blk_free hb 0, fun v => ⟨by rw [blk_set hb]; rfl, (k1.trans hk (fun _ f _ => f)).trans (Keeps.setCell (S := (· = B)) wx (a := ⟨B, 0, none⟩) rfl v) (fun i e hi => by omega)⟩⟩
  have HR : Hid _ := hret
  have H1 : Hid (Keeps None w w1 ∧ SeenW w1 a n zs ∧ n = zs.length) := ⟨k1, hS.more k1, hlen⟩
  obtain ⟨r0, z0, -⟩ := hret w1 (Keeps.refl _ _)
  clear hret k1 b1 hS hlen
  by_cases hn : n < 3
  · have i1 : (n : Int) < 3 := by omega
    have hd : decV zs = (57, []) := by unfold decV; rw [if_pos (by have := H1.out.2.2; omega)]
    have HD : Hid _ := hd
    clear hd
    go_enter Tryd.func11, Tryd.ntmps11
    go_upto_region 1 with fail
    rw [← hw1, ← hB]
    clear hw1 hB
    go_wp2_with fail
    exact bodyPost_ret (results_cell_tmp (q := 2) (u := 3) (ty := 25) rfl rfl (load_prog _ _ _ (.slice none 0 0) ((HR.out w1 (Keeps.refl _ _)).2.2 _).1)) rfl (HP.out _ _ _ HD.out ((HR.out w1 (Keeps.refl _ _)).2.2 _).2 ⟨none, 0, 0, rfl, seen_nil _ _⟩)
  · obtain ⟨b, off, rfl, _, hcell⟩ := H1.out.2.1.ex (by omega)
    obtain ⟨n1, hn1⟩ : ∃ n1, n = n1 + 1 := ⟨n - 1, by omega⟩
    obtain ⟨n2, hn2⟩ : ∃ n2, n1 = n2 + 1 := ⟨n1 - 1, by omega⟩
    have hlz := H1.out.2.2
    obtain ⟨x, hx⟩ : ∃ x, zs[n1]? = some x := ⟨zs[n1]'(by omega), List.getElem?_eq_getElem _⟩
    obtain ⟨z, hz⟩ : ∃ z, zs[0]? = some z := ⟨zs[0]'(by omega), List.getElem?_eq_getElem _⟩
    have y := hcell n1 x hx
    have y0 := hcell 0 z hz
    rw [Nat.add_zero] at y0
    have hxd : zs.getD (zs.length - 1) 0 = x := by rw [show zs.length - 1 = n1 by omega, List.getD_eq_getElem?_getD, hx]; rfl
    have hsm := rsum_any (some ⟨b, off, none⟩) n1 c (zs.take n1) w1 (H1.out.2.1.first n1 (by omega))
    obtain ⟨sm, hsme⟩ : ∃ sm, sm = sumV (zs.take n1) := ⟨_, rfl⟩
    rw [← hsme] at hsm
    obtain ⟨ys, hys⟩ : ∃ ys, ys = (zs.drop 1).take n2 := ⟨_, rfl⟩
    have hwh := whole_any b (off + 1) n2 (c - 1) ys w1 (by rw [hys]; exact H1.out.2.1.part 1 n2 (by omega)) (by omega) (by omega)
    have htk : zs.take n1 = z :: ys := by
      have h1 : zs = z :: zs.drop 1 := by
        have := List.drop_eq_getElem_cons (l := zs) (i := 0) (by omega)
        rw [List.drop_zero] at this
        rw [List.getElem?_eq_getElem (by omega)] at hz
        rw [← Option.some.inj hz]
        exact this
      rw [hys, hn2]
      conv => lhs; rw [h1]
      rfl
    have hyn : ys ≠ [] := by
      intro h
      have := congrArg List.length h
      rw [hys] at this
      simp at this
      omega
    have hdec : decV zs = if x ≠ sm then (58, []) else if z ≠ 1886156142 then (57, []) else match wholeV ys with
        | none => (57, [])
        | some fs => if (checkV fs).1 = 0 then (0, fs) else ((checkV fs).1, []) := by
      unfold decV
      rw [if_neg (by omega), hxd, show zs.length - 1 = n1 by omega, ← hsme, htk, readP_whole z ys hyn]
      by_cases h1 : x = sm <;> by_cases h2 : z = 1886156142 <;> simp [h1, h2]
      all_goals (cases wholeV ys <;> rfl)
    have HDEC : Hid _ := hdec
    have HYO : Hid (∀ y ∈ ys, okI y) := by rw [hys]; exact fun y hy => H1.out.2.1.ok y (List.mem_of_mem_drop (List.mem_of_mem_take hy))
    have HYN : Hid (ys ≠ []) := hyn
    have j1 : ¬ ((n : Int) < 3) := by omega
    have j2 : wrap64 ((n : Int) - 1) = (n1 : Int) := by unfold wrap64; omega
    have j2' : IntKind.i64.wrap ((n : Int) - 1) = (n1 : Int) := by rw [Go.IntWalk.i64_in _ (by omega)]; omega
    have j3 : (n1 : Int) ≤ (c : Int) := by omega
    have j4 : (n1 : Int) < (n : Int) := by omega
    have j5 : (1 : Int) ≤ (n1 : Int) := by omega
    have j6 : ¬ c = 1 := by omega
    have j7 : (0 : Int) < (n : Int) := by omega
    have j8 : n1 - 1 = n2 := by omega
    have j9 : ¬ n1 = 0 := by omega
    have hnb : (n : Int) ≤ 4611686018427387904 := by omega
    clear hcell hx hz hxd hsme hys htk hyn hdec hn1 hn2 hlz hn
    go_enter Tryd.func11, Tryd.ntmps11
    go_upto_region 1 with fail
    rw [← hw1, ← hB]
    clear hw1 hB
    go_upto_region 4 with fail
    go_wp2_with fail
    refine hsm.mono ?_
    rintro _ wq ⟨rfl, hwq⟩
    have hwq2 := hwq.symm
    subst hwq2
    clear hsm hwq
    by_cases hs : sm = x
    case neg =>
      have hs1 : (sm != x) = true := by simpa using hs
      have HD : Hid (decV zs = (58, [])) := by unfold Hid; rw [HDEC.out, if_pos (fun h => hs h.symm)]
      go_wp2_with fail
      exact bodyPost_ret (results_cell_tmp (q := 2) (u := 3) (ty := 25) rfl rfl (load_prog _ _ _ (.slice none 0 0) ((HR.out _ (Keeps.refl _ _)).2.2 _).1)) rfl (HP.out _ _ _ HD.out ((HR.out _ (Keeps.refl _ _)).2.2 _).2 ⟨none, 0, 0, rfl, seen_nil _ _⟩)
    case pos =>
    subst hs
    by_cases hh : z = 1886156142
    case neg =>
      have hh1 : (z != 1886156142) = true := by simpa using hh
      have HD : Hid (decV zs = (57, [])) := by unfold Hid; rw [HDEC.out, if_neg (by simp), if_pos hh]
      go_wp2_with fail
      exact bodyPost_ret (results_cell_tmp (q := 2) (u := 3) (ty := 25) rfl rfl (load_prog _ _ _ (.slice none 0 0) ((HR.out _ (Keeps.refl _ _)).2.2 _).1)) rfl (HP.out _ _ _ HD.out ((HR.out _ (Keeps.refl _ _)).2.2 _).2 ⟨none, 0, 0, rfl, seen_nil _ _⟩)
    case pos =>
    subst hh
    go_upto_region 9 with fail
    clear y y0
    go_wp2_with fail
    refine hwh.mono ?_
    rintro _ w3 ⟨xa, k, xc, ok, rfl, hk3, hor⟩
    clear hwh
    have k4 := Keeps.alloc None w3 (.cells #[.slice xa k xc] 25)
    have b4 := heap_alloc_new w3 (.cells #[.slice xa k xc] 25)
    obtain ⟨P, hPe⟩ : ∃ P, P = w3.heap.size := ⟨_, rfl⟩
    rw [← hPe] at b4
    have k14 := hk3.trans k4 (fun _ f _ => f)
    obtain ⟨r4, z4, -⟩ := HR.out _ k14
    rcases hor with ⟨rfl, fs, tv, hwv, hsf⟩ | ⟨rfl, hwv⟩
    case inr =>
      have HD : Hid (decV zs = (57, [])) := by unfold Hid; rw [HDEC.out, if_neg (by simp), if_neg (by simp), hwv]
      have HK : Hid _ := k14
      clear hk3 k4 b4 hPe hwv k14
      go_wp2_with fail
      exact bodyPost_ret (results_cell_tmp (q := 2) (u := 3) (ty := 25) rfl rfl (load_prog _ _ _ (.slice none 0 0) ((HR.out _ HK.out).2.2 _).1)) rfl (HP.out _ _ _ HD.out ((HR.out _ HK.out).2.2 _).2 ⟨none, 0, 0, rfl, seen_nil _ _⟩)
    case inl =>
    have hok : ∀ f ∈ fs, f.Ok := by
      have hrp : readP (1886156142 :: ys) = some fs := by rw [readP_whole _ _ HYN.out, if_pos rfl, hwv]
      obtain ⟨_, _, _, _, _, _, _, himg⟩ := readP_some hrp
      refine fns_ok ?_
      rw [← himg]
      intro y hy
      rcases List.mem_cons.1 hy with rfl | hy
      · simp [okI]
      · exact HYO.out y hy
    have hsf4 := hsf.more k4
    have hck := rcheck_any xa k xc fs _ hsf4.seen.2 hok
    obtain ⟨e1, he1⟩ : ∃ e1, e1 = (checkV fs).1 := ⟨_, rfl⟩
    obtain ⟨e2, he2⟩ : ∃ e2, e2 = (checkV fs).2.1 := ⟨_, rfl⟩
    obtain ⟨e3, he3⟩ : ∃ e3, e3 = (checkV fs).2.2 := ⟨_, rfl⟩
    unfold checkF faultV at hck
    rw [← he1, ← he2, ← he3] at hck
    have H4 : Hid ((w3.alloc (.cells #[.slice xa k xc] 25)).heap[P]? = some (.cells #[.slice xa k xc] 25 (0, 0)) ∧ Keeps None w1 (w3.alloc (.cells #[.slice xa k xc] 25)) ∧ RowsF (w3.alloc (.cells #[.slice xa k xc] 25)) (.slice xa k xc) fs tv ∧ wholeV ys = some fs ∧ e1 = (checkV fs).1) := ⟨b4, k14, hsf4, hwv, he1⟩
    clear hk3 k4 b4 k14 hsf hsf4 hwv he1 he2 he3 hok r4 z4
    go_upto_region 10 with fail
    rw [← hPe]
    clear hPe
    generalize w3.alloc (.cells #[.slice xa k xc] 25) = w4 at *
    have p0 : w4.cell? ⟨P, 0, none⟩ = some (.slice xa k xc) := (cell_of_heap H4.out.1 0).trans rfl
    go_upto_region 12 with fail
    go_wp2_with fail
    refine hck.mono ?_
    rintro _ w5 ⟨rfl, hk5⟩
    clear hck
    have k6 := Keeps.alloc None w5 (.cells #[.int .i64 e1, .int .i64 e2, .int .i64 e3] 31)
    have b6 := heap_alloc_new w5 (.cells #[.int .i64 e1, .int .i64 e2, .int .i64 e3] 31)
    obtain ⟨Y, hY⟩ : ∃ Y, Y = w5.heap.size := ⟨_, rfl⟩
    rw [← hY] at b6
    have k46 := hk5.trans k6 (fun _ f _ => f)
    have p6 := k46.cell p0 (fun f => f)
    have H6 : Hid (Keeps None w1 (w5.alloc (.cells #[.int .i64 e1, .int .i64 e2, .int .i64 e3] 31)) ∧ (w5.alloc (.cells #[.int .i64 e1, .int .i64 e2, .int .i64 e3] 31)).heap[Y]? = some (.cells #[.int .i64 e1, .int .i64 e2, .int .i64 e3] 31 (0, 0)) ∧ RowsF (w5.alloc (.cells #[.int .i64 e1, .int .i64 e2, .int .i64 e3] 31)) (.slice xa k xc) fs tv) := ⟨H4.out.2.1.trans k46 (fun _ f _ => f), b6, H4.out.2.2.1.more k46⟩
    clear p0 hk5 k6 b6 k46
    go_upto_region 13 with fail
    rw [← hY]
    clear hY
    generalize w5.alloc (.cells #[.int .i64 e1, .int .i64 e2, .int .i64 e3] 31) = w6 at *
    obtain ⟨r6, z6, -⟩ := HR.out w6 H6.out.1
    have f0 : w6.cell? ⟨Y, 0, none⟩ = some (.int .i64 e1) := (cell_of_heap H6.out.2.1 0).trans rfl
    by_cases he0 : e1 = 0
    · subst he0
      have HD : Hid (decV zs = (0, fs)) := by unfold Hid; rw [HDEC.out, if_neg (by simp), if_neg (by simp), H4.out.2.2.2.1]; simp only; rw [if_pos H4.out.2.2.2.2.symm]
      have hse : SeenF (w6.setCell ⟨B, 0, none⟩ (.slice xa k xc)) xa k fs := by
        refine (H6.out.2.2.kept (Keeps.setCell (S := (· = B)) w6 (a := ⟨B, 0, none⟩) rfl (.slice xa k xc)) (fun p c T hp hS => ?_)).seen.2
        have h1 := ((HR.out w6 H6.out.1).2.2 (.slice none 0 0)).1
        subst hS
        rw [blk_set hp] at h1
        simp only [Option.some.injEq, Obj.cells.injEq] at h1
        rw [h1.2.1]
        exact ⟨by decide, by decide⟩
      have HSE : Hid _ := hse
      clear hse
      go_wp2_with fail
      exact bodyPost_ret (results_cell_tmp (q := 2) (u := 3) (ty := 25) rfl rfl (load_prog _ _ _ (.slice xa k xc) ((HR.out _ H6.out.1).2.2 _).1)) rfl (HP.out _ _ _ HD.out ((HR.out _ H6.out.1).2.2 _).2 ⟨xa, k, xc, rfl, HSE.out⟩)
    · have he' : (e1 != 0) = true := by simpa using he0
      have HD : Hid (decV zs = (e1, [])) := by unfold Hid; rw [HDEC.out, if_neg (by simp), if_neg (by simp), H4.out.2.2.2.1]; simp only; rw [if_neg (by rw [← H4.out.2.2.2.2]; exact he0), ← H4.out.2.2.2.2]
      have hbY : ¬ B = Y := by
        intro h
        have h1 := ((HR.out w6 H6.out.1).2.2 (.slice none 0 0)).1
        rw [h, blk_set H6.out.2.1] at h1
        simp at h1
      have hbY2 : ¬ Y = B := fun h => hbY h.symm
      go_upto_region 14 with fail
      go_region_held3 (fun w' => w'.cell? ⟨Y, 0, none⟩ = some (.int .i64 e1)) (go_keep) (fail)
      all_goals
        go_wp2_with fail
        exact bodyPost_ret (results_cell_tmp (q := 2) (u := 3) (ty := 25) rfl rfl (load_prog _ _ _ (.slice none 0 0) ((HR.out w6 H6.out.1).2.2 _).1)) rfl (HP.out _ _ _ HD.out (((HR.out w6 H6.out.1).2.2 _).2.andDrew) ⟨none, 0, 0, rfl, seen_nil _ _⟩)
end Go.Proofs.YtcjmceedkfjbeaaDoor
