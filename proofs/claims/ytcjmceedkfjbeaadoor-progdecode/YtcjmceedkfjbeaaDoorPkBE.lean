import Derived.Test.YtcjmceedkfjbeaaDoorPkAZ
import Derived.Test.YtcjmceedkfjbeaaDoorPkBA
import Derived.Test.YtcjmceedkfjbeaaDoorPkBD
import Derived.Test.YtcjmceedkfjbeaaDoorPkAI
import Derived.Deep.QuietTactic
import Derived.Deep.RegionHeld3
import Derived.BigQuiet
import Derived.Laws.StructEq
import Derived.Test.YtcjmceedkfjbeaaDoorPkAS
/-! The document's Decode. -/
namespace Go.Proofs.YtcjmceedkfjbeaaDoor
set_option linter.unusedVariables false
set_option maxRecDepth 20000
open Go.RowKit Go.HeapKit

theorem SeenW.part {w : World} {b off n : Nat} {zs : List Int} (h : SeenW w (some ⟨b, off, none⟩) n zs) (i k : Nat) (hik : i + k ≤ n) : SeenW w (some ⟨b, off + i, none⟩) k ((zs.drop i).take k) := by
  have hl := h.len
  have hm := h.most
  refine ⟨by simp; omega, by omega, fun x hx => h.ok x (List.mem_of_mem_drop (List.mem_of_mem_take hx)), fun h0 => ?_⟩
  obtain ⟨b', off', e, hb, hc⟩ := h.ex (by omega)
  injection e with e
  injection e with e1 e2 _
  subst e1 e2
  refine ⟨b, off + i, rfl, hb, fun j x hx => ?_⟩
  rw [List.getElem?_take] at hx
  split at hx
  · rw [List.getElem?_drop] at hx
    rw [Nat.add_assoc]
    exact hc (i + j) x hx
  · cases hx
def RDecPost (w : World) (zs : List Int) (e : Ending) (w' : World) : Prop := Keeps None w w' ∧ ∃ xa k xc, e = .returned (.tuple #[.agg #[.slice xa k xc], .int .i64 (decV zs).1]) ∧ SeenF w' xa k (decV zs).2
theorem seen_nil (w : World) (a : Option Addr) : SeenF w a 0 [] := ⟨rfl, fun h => by omega⟩
set_option maxHeartbeats 2000000 in
theorem rdecode_any (a : Option Addr) (n c : Nat) (zs : List Int) (w : World) (hS : SeenW w a n zs) (hc : n ≤ c) (hcm : c ≤ maxLen) (hr : n * 8 ≤ 140737488351232) :
    Calls Tryd.prog 11 #[.slice a n c] w (RDecPost w zs) := by
  have hlen := hS.len
  have HP : Hid (∀ e w' d, decV zs = d → Keeps None w w' → (∃ xa k xc, e = .returned (.tuple #[.agg #[.slice xa k xc], .int .i64 d.1]) ∧ SeenF w' xa k d.2) → RDecPost w zs e w') := fun e w' d hd hk h => ⟨hk, by rw [hd]; exact h⟩
  obtain ⟨B, hB⟩ : ∃ B, B = w.heap.size := ⟨_, rfl⟩
  have k1 := Keeps.alloc None w (.cells #[.slice none 0 0] 25)
  have b1 := heap_alloc_new w (.cells #[.slice none 0 0] 25)
  obtain ⟨w1, hw1⟩ : ∃ w1, w1 = w.alloc (.cells #[.slice none 0 0] 25) := ⟨_, rfl⟩
  rw [← hw1] at k1 b1
  rw [← hB] at b1
  have hret : ∀ wx, Keeps None w1 wx → wx.cell? ⟨B, 0, none⟩ = some (.slice none 0 0) ∧ wx.frozen? ⟨B, 0, none⟩ = false ∧ ∀ v, (wx.setCell ⟨B, 0, none⟩ v).heap[B]? = some (.cells #[v] 25 (0, 0)) ∧ Keeps None w (wx.setCell ⟨B, 0, none⟩ v) := fun wx hk => by
    have hb := blk_kept b1 hk (fun f => f)
    refine ⟨(cell_of_heap hb 0).trans rfl, blk_free hb 0, fun v => ⟨by rw [blk_set hb]; rfl, (k1.trans hk (fun _ f _ => f)).trans (Keeps.setCell (S := (· = B)) wx (a := ⟨B, 0, none⟩) rfl v) (fun i e hi => by omega)⟩⟩
  have HR : Hid _ := hret
  have H1 : Hid (Keeps None w w1 ∧ SeenW w1 a n zs ∧ n = zs.length) := ⟨k1, hS.more k1, hlen⟩
  obtain ⟨r0, z0, -⟩ := hret w1 (Keeps.refl _ _)
  clear hret k1 b1 hS hlen
  by_cases hn : n < 3
  · have i1 : (n : Int) < 3 := by omega
    have hd : decV zs = (57, []) := by unfold decV; rw [if_pos (by have := H1.out.2.2; omega)]
    have HD : Hid _ := hd
    clear hd
    go_enter Tryd.func11, Tryd.ntmps11
    go_upto_region 1 with fail
    rw [← hw1, ← hB]
    clear hw1 hB
    go_wp2_with fail
    exact bodyPost_ret (results_cell_tmp (q := 2) (u := 3) (ty := 25) rfl rfl (load_prog _ _ _ (.slice none 0 0) ((HR.out w1 (Keeps.refl _ _)).2.2 _).1)) rfl (HP.out _ _ _ HD.out ((HR.out w1 (Keeps.refl _ _)).2.2 _).2 ⟨none, 0, 0, rfl, seen_nil _ _⟩)
  · obtain ⟨b, off, rfl, _, hcell⟩ := H1.out.2.1.ex (by omega)
    obtain ⟨n1, hn1⟩ : ∃ n1, n = n1 + 1 := ⟨n - 1, by omega⟩
    obtain ⟨n2, hn2⟩ : ∃ n2, n1 = n2 + 1 := ⟨n1 - 1, by omega⟩
    have hlz := H1.out.2.2
    obtain ⟨x, hx⟩ : ∃ x, zs[n1]? = some x := ⟨zs[n1]'(by omega), List.getElem?_eq_getElem _⟩
    obtain ⟨z, hz⟩ : ∃ z, zs[0]? = some z := ⟨zs[0]'(by omega), List.getElem?_eq_getElem _⟩
    have y := hcell n1 x hx
    have y0 := hcell 0 z hz
    rw [Nat.add_zero] at y0
    have hxd : zs.getD (zs.length - 1) 0 = x := by rw [show zs.length - 1 = n1 by omega, List.getD_eq_getElem?_getD, hx]; rfl
    have hsm := rsum_any (some ⟨b, off, none⟩) n1 c (zs.take n1) w1 (H1.out.2.1.first n1 (by omega))
    obtain ⟨sm, hsme⟩ : ∃ sm, sm = sumV (zs.take n1) := ⟨_, rfl⟩
    rw [← hsme] at hsm
    obtain ⟨ys, hys⟩ : ∃ ys, ys = (zs.drop 1).take n2 := ⟨_, rfl⟩
    have hwh := whole_any b (off + 1) n2 (c - 1) ys w1 (by rw [hys]; exact H1.out.2.1.part 1 n2 (by omega)) (by omega) (by omega)
    have htk : zs.take n1 = z :: ys := by
      have h1 : zs = z :: zs.drop 1 := by
        have := List.drop_eq_getElem_cons (l := zs) (i := 0) (by omega)
        rw [List.drop_zero] at this
        rw [List.getElem?_eq_getElem (by omega)] at hz
        rw [← Option.some.inj hz]
        exact this
      rw [hys, hn2]
      conv => lhs; rw [h1]
      rfl
    have hyn : ys ≠ [] := by
      intro h
      have := congrArg List.length h
      rw [hys] at this
      simp at this
      omega
    have hdec : decV zs = if x ≠ sm then (58, []) else if z ≠ 1886156142 then (57, []) else match wholeV ys with
        | none => (57, [])
        | some fs => if (checkV fs).1 = 0 then (0, fs) else ((checkV fs).1, []) := by
      unfold decV
      rw [if_neg (by omega), hxd, show zs.length - 1 = n1 by omega, ← hsme, htk, readP_whole z ys hyn]
      by_cases h1 : x = sm <;> by_cases h2 : z = 1886156142 <;> simp [h1, h2]
      all_goals (cases wholeV ys <;> rfl)
    have HDEC : Hid _ := hdec
    have HYO : Hid (∀ y ∈ ys, okI y) := by rw [hys]; exact fun y hy => H1.out.2.1.ok y (List.mem_of_mem_drop (List.mem_of_mem_take hy))
    have HYN : Hid (ys ≠ []) := hyn
    have j1 : ¬ ((n : Int) < 3) := by omega
    have j2 : wrap64 ((n : Int) - 1) = (n1 : Int) := by unfold wrap64; omega
    have j2' : IntKind.i64.wrap ((n : Int) - 1) = (n1 : Int) := by rw [Go.IntWalk.i64_in _ (by omega)]; omega
    have j3 : (n1 : Int) ≤ (c : Int) := by omega
    have j4 : (n1 : Int) < (n : Int) := by omega
    have j5 : (1 : Int) ≤ (n1 : Int) := by omega
    have j6 : ¬ c = 1 := by omega
    have j7 : (0 : Int) < (n : Int) := by omega
    have j8 : n1 - 1 = n2 := by omega
    have j9 : ¬ n1 = 0 := by omega
    have hnb : (n : Int) ≤ 4611686018427387904 := by omega
    clear hcell hx hz hxd hsme hys htk hyn hdec hn1 hn2 hlz hn
    go_enter Tryd.func11, Tryd.ntmps11
    go_upto_region 1 with fail
    rw [← hw1, ← hB]
    clear hw1 hB
    go_upto_region 4 with fail
    go_wp2_with fail
    refine hsm.mono ?_
    rintro _ wq ⟨rfl, hwq⟩
    have hwq2 := hwq.symm
    subst hwq2
    clear hsm hwq
    by_cases hs : sm = x
    case neg =>
      have hs1 : (sm != x) = true := by simpa using hs
      have HD : Hid (decV zs = (58, [])) := by unfold Hid; rw [HDEC.out, if_pos (fun h => hs h.symm)]
      go_wp2_with fail
      exact bodyPost_ret (results_cell_tmp (q := 2) (u := 3) (ty := 25) rfl rfl (load_prog _ _ _ (.slice none 0 0) ((HR.out _ (Keeps.refl _ _)).2.2 _).1)) rfl (HP.out _ _ _ HD.out ((HR.out _ (Keeps.refl _ _)).2.2 _).2 ⟨none, 0, 0, rfl, seen_nil _ _⟩)
    case pos =>
    subst hs
    by_cases hh : z = 1886156142
    case neg =>
      have hh1 : (z != 1886156142) = true := by simpa using hh
      have HD : Hid (decV zs = (57, [])) := by unfold Hid; rw [HDEC.out, if_neg (by simp), if_pos hh]
      go_wp2_with fail
      exact bodyPost_ret (results_cell_tmp (q := 2) (u := 3) (ty := 25) rfl rfl (load_prog _ _ _ (.slice none 0 0) ((HR.out _ (Keeps.refl _ _)).2.2 _).1)) rfl (HP.out _ _ _ HD.out ((HR.out _ (Keeps.refl _ _)).2.2 _).2 ⟨none, 0, 0, rfl, seen_nil _ _⟩)
    case pos =>
    subst hh
    go_upto_region 9 with fail
    clear y y0
    go_wp2_with fail
    refine hwh.mono ?_
    rintro _ w3 ⟨xa, k, xc, ok, rfl, hk3, hor⟩
    clear hwh
    have k4 := Keeps.alloc None w3 (.cells #[.slice xa k xc] 25)
    have b4 := heap_alloc_new w3 (.cells #[.slice xa k xc] 25)
    obtain ⟨P, hPe⟩ : ∃ P, P = w3.heap.size := ⟨_, rfl⟩
    rw [← hPe] at b4
    have k14 := hk3.trans k4 (fun _ f _ => f)
    obtain ⟨r4, z4, -⟩ := HR.out _ k14
    rcases hor with ⟨rfl, fs, tv, hwv, hsf⟩ | ⟨rfl, hwv⟩
    case inr =>
      have HD : Hid (decV zs = (57, [])) := by unfold Hid; rw [HDEC.out, if_neg (by simp), if_neg (by simp), hwv]
      have HK : Hid _ := k14
      clear hk3 k4 b4 hPe hwv k14
      go_wp2_with fail
      exact bodyPost_ret (results_cell_tmp (q := 2) (u := 3) (ty := 25) rfl rfl (load_prog _ _ _ (.slice none 0 0) ((HR.out _ HK.out).2.2 _).1)) rfl (HP.out _ _ _ HD.out ((HR.out _ HK.out).2.2 _).2 ⟨none, 0, 0, rfl, seen_nil _ _⟩)
    case inl =>
    have hok : ∀ f ∈ fs, f.Ok := by
      have hrp : readP (1886156142 :: ys) = some fs := by rw [readP_whole _ _ HYN.out, if_pos rfl, hwv]
      obtain ⟨_, _, _, _, _, _, _, himg⟩ := readP_some hrp
      refine fns_ok ?_
      rw [← himg]
      intro y hy
      rcases List.mem_cons.1 hy with rfl | hy
      · simp [okI]
      · exact HYO.out y hy
    have hsf4 := hsf.more k4
    have hck := rcheck_any xa k xc fs _ hsf4.seen.2 hok
    obtain ⟨e1, he1⟩ : ∃ e1, e1 = (checkV fs).1 := ⟨_, rfl⟩
    obtain ⟨e2, he2⟩ : ∃ e2, e2 = (checkV fs).2.1 := ⟨_, rfl⟩
    obtain ⟨e3, he3⟩ : ∃ e3, e3 = (checkV fs).2.2 := ⟨_, rfl⟩
    unfold checkF faultV at hck
    rw [← he1, ← he2, ← he3] at hck
    have H4 : Hid ((w3.alloc (.cells #[.slice xa k xc] 25)).heap[P]? = some (.cells #[.slice xa k xc] 25 (0, 0)) ∧ Keeps None w1 (w3.alloc (.cells #[.slice xa k xc] 25)) ∧ RowsF (w3.alloc (.cells #[.slice xa k xc] 25)) (.slice xa k xc) fs tv ∧ wholeV ys = some fs ∧ e1 = (checkV fs).1) := ⟨b4, k14, hsf4, hwv, he1⟩
    clear hk3 k4 b4 k14 hsf hsf4 hwv he1 he2 he3 hok r4 z4
    go_upto_region 10 with fail
    rw [← hPe]
    clear hPe
    generalize w3.alloc (.cells #[.slice xa k xc] 25) = w4 at *
    have p0 : w4.cell? ⟨P, 0, none⟩ = some (.slice xa k xc) := (cell_of_heap H4.out.1 0).trans rfl
    go_upto_region 12 with fail
    go_wp2_with fail
    refine hck.mono ?_
    rintro _ w5 ⟨rfl, hk5⟩
    clear hck
    have k6 := Keeps.alloc None w5 (.cells #[.int .i64 e1, .int .i64 e2, .int .i64 e3] 31)
    have b6 := heap_alloc_new w5 (.cells #[.int .i64 e1, .int .i64 e2, .int .i64 e3] 31)
    obtain ⟨Y, hY⟩ : ∃ Y, Y = w5.heap.size := ⟨_, rfl⟩
    rw [← hY] at b6
    have k46 := hk5.trans k6 (fun _ f _ => f)
    have p6 := k46.cell p0 (fun f => f)
    have H6 : Hid (Keeps None w1 (w5.alloc (.cells #[.int .i64 e1, .int .i64 e2, .int .i64 e3] 31)) ∧ (w5.alloc (.cells #[.int .i64 e1, .int .i64 e2, .int .i64 e3] 31)).heap[Y]? = some (.cells #[.int .i64 e1, .int .i64 e2, .int .i64 e3] 31 (0, 0)) ∧ RowsF (w5.alloc (.cells #[.int .i64 e1, .int .i64 e2, .int .i64 e3] 31)) (.slice xa k xc) fs tv) := ⟨H4.out.2.1.trans k46 (fun _ f _ => f), b6, H4.out.2.2.1.more k46⟩
    clear p0 hk5 k6 b6 k46
    go_upto_region 13 with fail
    rw [← hY]
    clear hY
    generalize w5.alloc (.cells #[.int .i64 e1, .int .i64 e2, .int .i64 e3] 31) = w6 at *
    obtain ⟨r6, z6, -⟩ := HR.out w6 H6.out.1
    have f0 : w6.cell? ⟨Y, 0, none⟩ = some (.int .i64 e1) := (cell_of_heap H6.out.2.1 0).trans rfl
    by_cases he0 : e1 = 0
    · subst he0
      have HD : Hid (decV zs = (0, fs)) := by unfold Hid; rw [HDEC.out, if_neg (by simp), if_neg (by simp), H4.out.2.2.2.1]; simp only; rw [if_pos H4.out.2.2.2.2.symm]
      have hse : SeenF (w6.setCell ⟨B, 0, none⟩ (.slice xa k xc)) xa k fs := by
        refine (H6.out.2.2.kept (Keeps.setCell (S := (· = B)) w6 (a := ⟨B, 0, none⟩) rfl (.slice xa k xc)) (fun p c T hp hS => ?_)).seen.2
        have h1 := ((HR.out w6 H6.out.1).2.2 (.slice none 0 0)).1
        subst hS
        rw [blk_set hp] at h1
        simp only [Option.some.injEq, Obj.cells.injEq] at h1
        rw [h1.2.1]
        exact ⟨by decide, by decide⟩
      have HSE : Hid _ := hse
      clear hse
      go_wp2_with fail
      exact bodyPost_ret (results_cell_tmp (q := 2) (u := 3) (ty := 25) rfl rfl (load_prog _ _ _ (.slice xa k xc) ((HR.out _ H6.out.1).2.2 _).1)) rfl (HP.out _ _ _ HD.out ((HR.out _ H6.out.1).2.2 _).2 ⟨xa, k, xc, rfl, HSE.out⟩)
    · have he' : (e1 != 0) = true := by simpa using he0
      have HD : Hid (decV zs = (e1, [])) := by unfold Hid; rw [HDEC.out, if_neg (by simp), if_neg (by simp), H4.out.2.2.2.1]; simp only; rw [if_neg (by rw [← H4.out.2.2.2.2]; exact he0), ← H4.out.2.2.2.2]
      have hbY : ¬ B = Y := by
        intro h
        have h1 := ((HR.out w6 H6.out.1).2.2 (.slice none 0 0)).1
        rw [h, blk_set H6.out.2.1] at h1
        simp at h1
      have hbY2 : ¬ Y = B := fun h => hbY h.symm
      go_upto_region 14 with fail
      go_region_held3 (fun w' => w'.cell? ⟨Y, 0, none⟩ = some (.int .i64 e1)) (go_keep) (fail)
      all_goals
        go_wp2_with fail
        exact bodyPost_ret (results_cell_tmp (q := 2) (u := 3) (ty := 25) rfl rfl (load_prog _ _ _ (.slice none 0 0) ((HR.out w6 H6.out.1).2.2 _).1)) rfl (HP.out _ _ _ HD.out (((HR.out w6 H6.out.1).2.2 _).2.andDrew) ⟨none, 0, 0, rfl, seen_nil _ _⟩)
end Go.Proofs.YtcjmceedkfjbeaaDoor
/-! 'same' of programs of any size. -/
namespace Go.Proofs.YtcjmceedkfjbeaaDoor
set_option linter.unusedVariables false
set_option maxRecDepth 20000
open Go.RowKit Go.HeapKit

theorem neqIns' (a b c d e : Int) (w : World) : (binOp .neq 42 (.agg #[.int .i64 a, .int .i64 b, .int .i64 c, .int .i64 d, .int .i64 e]) (.agg #[.int .i64 a, .int .i64 b, .int .i64 c, .int .i64 d, .int .i64 e])).run Tryd.prog w = .ok (.bool false) w := by
  have u3 := Tryd.underlying3
  have a3 := Tryd.isAgg3
  have z3 := Tryd.sizeOf3
  have u2 := Tryd.underlying2
  have a2 := Tryd.isAgg2
  have z2 := Tryd.sizeOf2
  have hS : Tryd.prog.underlying 42 = some (.struct (Tryd.prog.fieldsOf 42)) := by kernel_rfl
  have hp : Tryd.prog.stoodInHeld 42 = false := by kernel_rfl
  rw [run_neq_struct, show (10000 : Nat) = 9999 + 1 from rfl, run_equalIn_agg w 9999 42 _ _ hS hp]
  simp only [Program.fieldsOf, Tryd.underlying42]
  go_simp
set_option maxHeartbeats 2000000 in
theorem sameFunc_wide (f : Fn) (ca : Option Addr) (cc : Nat) (ca' : Option Addr) (cc' : Nat) (w : World) (hC : SeenI w ca f.code.length f.code) (hC' : SeenI w ca' f.code.length f.code) (hl : f.code.length ≤ 4611686018427387904) :
    Calls Tryd.prog 30 #[fnV f ca cc, fnV f ca' cc'] w fun e w' => e = .returned (.bool true) ∧ Keeps None w w' := by
  unfold fnV
  obtain ⟨n, hn⟩ : ∃ n, n = f.code.length := ⟨_, rfl⟩
  rw [← hn] at hC hC' hl ⊢
  obtain ⟨b1, b2⟩ := two_boxes w #[.int .i64 f.params, .int .i64 f.regs, .int .i64 f.slots, .slice ca n cc] #[.int .i64 f.params, .int .i64 f.regs, .int .i64 f.slots, .slice ca' n cc'] 40 40
  have hk := keeps2 w (.cells #[.int .i64 f.params, .int .i64 f.regs, .int .i64 f.slots, .slice ca n cc] 40) (.cells #[.int .i64 f.params, .int .i64 f.regs, .int .i64 f.slots, .slice ca' n cc'] 40)
  obtain ⟨wa, hwa⟩ : ∃ wa, wa = (w.alloc (.cells #[.int .i64 f.params, .int .i64 f.regs, .int .i64 f.slots, .slice ca n cc] 40)).alloc (.cells #[.int .i64 f.params, .int .i64 f.regs, .int .i64 f.slots, .slice ca' n cc'] 40) := ⟨_, rfl⟩
  obtain ⟨B, hB⟩ : ∃ B, B = w.heap.size := ⟨_, rfl⟩
  rw [← hwa] at b1 b2 hk
  rw [← hB] at b1 b2
  have d0 := (cell_of_heap b1 0).trans rfl
  have d1 := (cell_of_heap b1 1).trans rfl
  have d2 := (cell_of_heap b1 2).trans rfl
  have d3 := (cell_of_heap b1 3).trans rfl
  have e0 := (cell_of_heap b2 0).trans rfl
  have e1 := (cell_of_heap b2 1).trans rfl
  have e2 := (cell_of_heap b2 2).trans rfl
  have e3 := (cell_of_heap b2 3).trans rfl
  have HC : Hid (SeenI wa ca n f.code ∧ SeenI wa ca' n f.code ∧ Keeps None w wa ∧ wa.heap[B]? = some (.cells #[.int .i64 f.params, .int .i64 f.regs, .int .i64 f.slots, .slice ca n cc] 40 (0, 0)) ∧ wa.heap[B + 1]? = some (.cells #[.int .i64 f.params, .int .i64 f.regs, .int .i64 f.slots, .slice ca' n cc'] 40 (0, 0))) := ⟨hC.more hk, hC'.more hk, hk, b1, b2⟩
  clear hC hC' hk b1 b2 hn
  go_enter Tryd.func30, Tryd.ntmps30
  go_upto_region 1 with fail
  rw [← hwa, ← hB]
  clear hwa hB
  go_wp2_with fail
  clear d0 d1 d2 d3 e0 e1 e2 e3
  go_loopw [5] (fun s5 wr => ∃ k : Nat, k ≤ n ∧ s5 = .int .i64 k ∧ Keeps None wa wr) (fun i _ => n - (intOf i).toNat)
  case atStart => exact ⟨0, Nat.zero_le _, rfl, Keeps.refl _ _⟩
  case round =>
    obtain ⟨k, hk, rfl, hkp⟩ := hrel
    have d3 := (cell_of_heap (blk_kept HC.out.2.2.2.1 hkp (fun f => f)) 3).trans rfl
    have e3 := (cell_of_heap (blk_kept HC.out.2.2.2.2 hkp (fun f => f)) 3).trans rfl
    by_cases hkn : k < n
    · obtain ⟨b, off, x, rfl, hx, hat⟩ := (HC.out.1.more hkp).at hkn
      obtain ⟨b', off', x', rfl, hx', hat'⟩ := (HC.out.2.1.more hkp).at hkn
      rw [hx] at hx'
      obtain rfl := Option.some.inj hx'
      obtain ⟨y0, y1, y2, y3, y4⟩ := hat
      obtain ⟨u0, u1, u2, u3, u4⟩ := hat'
      have i1 : (k : Int) < (n : Int) := by omega
      have hne := neqIns' x.kind x.a x.b x.c x.k
      have HK : Hid (Keeps None wa wr) := hkp
      clear hkp hx
      go_upto_region 6 with fail
      go_quiet (fail)
      go_wp2_with fail
      exact ⟨⟨k + 1, by omega, by simp, HK.out.trans (Keeps.drewN None _ _) (fun _ f _ => f)⟩, by simp [intOf]; omega⟩
    · have i1 : ¬ ((k : Int) < (n : Int)) := by omega
      have HK : Hid (Keeps None wa wr) := hkp
      clear hkp
      go_wp2_with fail
      go_ret
      exact ⟨rfl, HC.out.2.2.1.trans HK.out (fun _ f _ => f)⟩
set_option maxHeartbeats 2000000 in
theorem same_wide (a : Option Addr) (n c : Nat) (a' : Option Addr) (c' : Nat) (l : List Fn) (w : World) (hS : SeenF w a n l) (hS' : SeenF w a' n l) (hl : ∀ f ∈ l, f.code.length ≤ 4611686018427387904) (hn : n ≤ 4611686018427387904) :
    Calls Tryd.prog 12 #[.agg #[.slice a n c], .agg #[.slice a' n c']] w fun e w' => e = .returned (.bool true) ∧ Keeps None w w' := by
  obtain ⟨b1, b2⟩ := two_boxes w #[.slice a n c] #[.slice a' n c'] 25 25
  have hk := keeps2 w (.cells #[.slice a n c] 25) (.cells #[.slice a' n c'] 25)
  obtain ⟨wa, hwa⟩ : ∃ wa, wa = (w.alloc (.cells #[.slice a n c] 25)).alloc (.cells #[.slice a' n c'] 25) := ⟨_, rfl⟩
  obtain ⟨B, hB⟩ : ∃ B, B = w.heap.size := ⟨_, rfl⟩
  rw [← hwa] at b1 b2 hk
  rw [← hB] at b1 b2
  have d0 := (cell_of_heap b1 0).trans rfl
  have e0 := (cell_of_heap b2 0).trans rfl
  have HC : Hid (SeenF wa a n l ∧ SeenF wa a' n l ∧ Keeps None w wa ∧ wa.heap[B]? = some (.cells #[.slice a n c] 25 (0, 0)) ∧ wa.heap[B + 1]? = some (.cells #[.slice a' n c'] 25 (0, 0)) ∧ ∀ f ∈ l, f.code.length ≤ 4611686018427387904) := ⟨hS.more hk, hS'.more hk, hk, b1, b2, hl⟩
  clear hS hS' hk b1 b2 hl
  go_enter Tryd.func12, Tryd.ntmps12
  go_upto_region 1 with fail
  rw [← hwa, ← hB]
  clear hwa hB
  go_wp2_with fail
  clear d0 e0
  go_loopw [5] (fun s5 wr => ∃ k : Nat, k ≤ n ∧ s5 = .int .i64 k ∧ Keeps None wa wr) (fun i _ => n - (intOf i).toNat)
  case atStart => exact ⟨0, Nat.zero_le _, rfl, Keeps.refl _ _⟩
  case round =>
    obtain ⟨k, hk, rfl, hkp⟩ := hrel
    have d0 := (cell_of_heap (blk_kept HC.out.2.2.2.1 hkp (fun f => f)) 0).trans rfl
    have e0 := (cell_of_heap (blk_kept HC.out.2.2.2.2.1 hkp (fun f => f)) 0).trans rfl
    by_cases hkn : k < n
    · obtain ⟨b, off, f, ca, cc, rfl, hf, hat⟩ := (HC.out.1.more hkp).at hkn
      obtain ⟨b', off', f', ca', cc', rfl, hf', hat'⟩ := (HC.out.2.1.more hkp).at hkn
      rw [hf] at hf'
      obtain rfl := Option.some.inj hf'
      have i1 : (k : Int) < (n : Int) := by omega
      have hdr := Keeps.drew None wr
      have hsf := sameFunc_wide f ca cc ca' cc' wr.drew (hat.seen.more hdr) (hat'.seen.more hdr) (HC.out.2.2.2.2.2 f (List.mem_of_getElem? hf))
      unfold fnV at hsf
      obtain ⟨y0, y1, y2, y3, -⟩ := hat
      obtain ⟨u0, u1, u2, u3, -⟩ := hat'
      have HK : Hid (Keeps None wa wr) := hkp
      obtain ⟨m, hm⟩ : ∃ m, m = f.code.length := ⟨_, rfl⟩
      rw [← hm] at hsf y3 u3
      clear hkp hf hm hdr
      go_upto_region 6 with fail
      go_cut [6] (fun s6 wx => s6 = .bool true ∧ Keeps None wr wx)
      case first =>
        go_region_held3 (fun w' => w'.cell? ⟨B, 0, none⟩ = some (.slice (some ⟨b, off, none⟩) n c) ∧ w'.cell? ⟨B + 1, 0, none⟩ = some (.slice (some ⟨b', off', none⟩) n c') ∧ w'.cell? ⟨b, off + k * 4, none⟩ = some (.int .i64 f.params) ∧ w'.cell? ⟨b, off + k * 4 + 1, none⟩ = some (.int .i64 f.regs) ∧ w'.cell? ⟨b, off + k * 4 + 2, none⟩ = some (.int .i64 f.slots) ∧ w'.cell? ⟨b, off + k * 4 + 3, none⟩ = some (.slice ca m cc) ∧ w'.cell? ⟨b', off' + k * 4, none⟩ = some (.int .i64 f.params) ∧ w'.cell? ⟨b', off' + k * 4 + 1, none⟩ = some (.int .i64 f.regs) ∧ w'.cell? ⟨b', off' + k * 4 + 2, none⟩ = some (.int .i64 f.slots) ∧ w'.cell? ⟨b', off' + k * 4 + 3, none⟩ = some (.slice ca' m cc')) (first | with_reducible exact hs2 | go_keep) (first
          | (go_at_call 30; refine hsf.mono ?_; rintro _ w2 ⟨rfl, hk2⟩; have hs2 := And.intro (hk2.cell d0 (fun f => f)) (And.intro (hk2.cell e0 (fun f => f)) (And.intro (hk2.cell y0 (fun f => f)) (And.intro (hk2.cell y1 (fun f => f)) (And.intro (hk2.cell y2 (fun f => f)) (And.intro (hk2.cell y3 (fun f => f)) (And.intro (hk2.cell u0 (fun f => f)) (And.intro (hk2.cell u1 (fun f => f)) (And.intro (hk2.cell u2 (fun f => f)) (hk2.cell u3 (fun f => f)))))))))))
        )
        all_goals (go_wp2_with fail; go_meet)
        all_goals exact ⟨rfl, (Keeps.drew None wr).trans hk2 (fun _ f _ => f)⟩
      case rest =>
        obtain ⟨rfl, hk2⟩ := hcut
        have HK2 : Hid (Keeps None wr wc) := hk2
        clear hk2
        go_wp2_with fail
        exact ⟨⟨k + 1, by omega, by simp, HK.out.trans HK2.out (fun _ f _ => f)⟩, by simp [intOf]; omega⟩
    · have i1 : ¬ ((k : Int) < (n : Int)) := by omega
      have HK : Hid (Keeps None wa wr) := hkp
      clear hkp
      go_wp2_with fail
      go_ret
      exact ⟨rfl, HC.out.2.2.1.trans HK.out (fun _ f _ => f)⟩
end Go.Proofs.YtcjmceedkfjbeaaDoor
/-! Decode's answers, told alike: functions in memory or none. -/
namespace Go.Proofs.YtcjmceedkfjbeaaDoor
set_option linter.unusedVariables false
set_option maxRecDepth 20000
open Go.RowKit Go.HeapKit

theorem decV_small (zs : List Int) : (decV zs).2.length ≤ 32 ∧ ∀ f ∈ (decV zs).2, f.code.length ≤ 512 := by
  unfold decV
  split
  · simp
  · split
    · simp
    · split
      · simp
      · split
        · rename_i fs _ hck
          have hv := check_valid (check_zero hck)
          exact ⟨hv.2.1, fun f hf => (valid_bounds (hv.2.2 f hf)).2.2.2.2⟩
        · simp
/-- Functions in memory that was made from lo on; or none. -/
def AnsD (lo : Nat) (w : World) (xa : Option Addr) (k : Nat) (fs : List Fn) : Prop := (k = 0 ∧ fs = []) ∨ ∃ gb E, xa = some ⟨gb, 0, none⟩ ∧ DecM lo w gb k E fs
theorem AnsD.kept {lo : Nat} {w w' : World} {xa : Option Addr} {k : Nat} {fs : List Fn} {S : Nat → Prop} (h : AnsD lo w xa k fs) (hk : Keeps S w w') (hS : ∀ i, S i → i < lo) : AnsD lo w' xa k fs := by
  rcases h with h | ⟨gb, E, e, h⟩
  · exact .inl h
  · exact .inr ⟨gb, E, e, h.kept hk hS⟩
theorem AnsD.more {lo : Nat} {w w' : World} {xa : Option Addr} {k : Nat} {fs : List Fn} (h : AnsD lo w xa k fs) (hk : Keeps None w w') : AnsD lo w' xa k fs := h.kept hk (fun _ f => f.elim)
theorem AnsD.seen {lo : Nat} {w : World} {xa : Option Addr} {k : Nat} {fs : List Fn} (h : AnsD lo w xa k fs) : SeenF w xa k fs := by
  rcases h with ⟨rfl, rfl⟩ | ⟨gb, E, rfl, h⟩
  · exact seen_nil w xa
  · exact h.seen
theorem decode_un (a : Option Addr) (n c : Nat) (zs : List Int) (w : World) (hT : Tabs w) (hS : SeenW w a n zs) (hc : n ≤ c) (hcm : c ≤ maxLen) :
    Calls Tryd.prog 6 #[.slice a n c] w fun e w' => ∃ xa k xc, e = .returned (.tuple #[.agg #[.slice xa k xc], .int .i64 (decV zs).1]) ∧ AnsD w.heap.size w' xa k (decV zs).2 ∧ Keeps None w w' := by
  refine (decode_at a n c zs w hT hS hc hcm).mono ?_
  rintro e w' ⟨hk, ⟨h0, h1, rfl⟩ | ⟨h0, gb, m, E, rfl, hM⟩⟩
  · exact ⟨none, 0, 0, rfl, .inl ⟨rfl, h1⟩, hk⟩
  · exact ⟨_, m, m, by rw [h0], .inr ⟨gb, E, rfl, hM⟩, hk⟩
theorem rdecode_un (a : Option Addr) (n c : Nat) (zs : List Int) (w : World) (hS : SeenW w a n zs) (hc : n ≤ c) (hcm : c ≤ maxLen) (hr : n * 8 ≤ 140737488351232) :
    Calls Tryd.prog 11 #[.slice a n c] w fun e w' => ∃ xa k xc, e = .returned (.tuple #[.agg #[.slice xa k xc], .int .i64 (decV zs).1]) ∧ SeenF w' xa k (decV zs).2 ∧ Keeps None w w' := by
  refine (rdecode_any a n c zs w hS hc hcm hr).mono ?_
  rintro e w' ⟨hk, xa, k, xc, rfl, hs⟩
  exact ⟨xa, k, xc, rfl, hs, hk⟩
/-- Two such answers are one program. -/
theorem same_dec (xa ya : Option Addr) (k k' c c' : Nat) (zs : List Int) (w : World) (h1 : SeenF w xa k (decV zs).2) (h2 : SeenF w ya k' (decV zs).2) : k' = k ∧ Calls Tryd.prog 12 #[.agg #[.slice xa k c], .agg #[.slice ya k c']] w fun e w' => e = .returned (.bool true) ∧ Keeps None w w' := by
  have e1 := h1.len
  have e2 := h2.len
  have hs := decV_small zs
  have hk : k' = k := by omega
  subst hk
  exact ⟨rfl, same_wide xa _ c ya c' (decV zs).2 w h1 h2 (fun f hf => by have := hs.2 f hf; omega) (by omega)⟩
end Go.Proofs.YtcjmceedkfjbeaaDoor
/-! 'odd' of any small number; an append behind code that is full. -/
namespace Go.Proofs.YtcjmceedkfjbeaaDoor
set_option linter.unusedVariables false
set_option maxRecDepth 20000
open Go.RowKit Go.HeapKit

theorem odd_all (j : Int) (w : World) (hj : -1 ≤ j ∧ j ≤ 10000) : Calls Tryd.prog 13 #[.int .i64 j] w fun e w' => e = .returned (insV (oddI j)) ∧ Keeps None w w' := by
  have e : (70 : Int) + j = (oddI j).kind := rfl
  go_enter Tryd.func13, Tryd.ntmps13
  go_wp2_with fail
  exact bodyPost_ret (results_one (q := 2) (ty := 42) rfl rfl (load_ins _ _ _ (oddI j) (heap_alloc_new _ _))) rfl ⟨rfl, Keeps.alloc None w _⟩
theorem ins_full (p n : Nat) (l : List Ins) (x : Ins) (ty g0 : Nat) (w : World) (hn : n = l.length) (hm : n ≤ 512) (hp : IsC w p l)
    (hg0 : w.heap[g0]? = some (.cells #[.int .i64 x.kind, .int .i64 x.a, .int .i64 x.b, .int .i64 x.c, .int .i64 x.k] 42 (0, 0))) :
    ∃ (g cap : Nat) (w' : World), (Builtin.append_ #[38, 38] ty #[.slice (some ⟨p, 0, none⟩) n n, .slice (some ⟨g0, 0, none⟩) 1 1]).run Tryd.prog w = .ok (.slice (some ⟨g, 0, none⟩) (n + 1) cap) w' ∧
      w'.ownsRow w.heap.size 42 5 (.slice (some ⟨g, 0, none⟩) (n + 1) cap) (n + 1) (insVals (l ++ [x])) ∧ Keeps None w w' := by
  have hrow : w.ownsRow 0 42 5 (.slice (some ⟨p, 0, none⟩) n n) n (insVals l) := by
    refine ⟨by rw [insVals_length, hn], .inr ⟨p, n, _, rfl, Nat.zero_le _, hp, Nat.le_refl _, by unfold maxLen; omega, by simp [insVals_length, hn], ?_⟩⟩
    exact List.take_of_length_le (by simp [insVals_length, hn])
  obtain ⟨g, cap, w', hr, ho, hk, hg⟩ := ins_append (.slice (some ⟨p, 0, none⟩) n n) l x n g0 ty w hn hrow (by omega) hg0
  obtain ⟨i0, hi, hz0, hz1, hz2⟩ := info_parts Tryd.infoIns
  have hr2 := run_append_grow (P := Tryd.prog) w 38 ty 42 i0 _ Tryd.underlying38 hi hz0 ⟨p, 0, none⟩ n n (insVals l) (by rw [hz1, insVals_length, hn]) (hrow.cells (g := p) rfl)
    ⟨g0, 0, none⟩ 1 1 [.int .i64 x.kind, .int .i64 x.a, .int .i64 x.b, .int .i64 x.c, .int .i64 x.k] (by rw [hz1]; rfl) (by
      intro j u hu
      rw [show (⟨g0, 0, none⟩ : Addr).add j = ⟨g0, j, none⟩ by unfold Addr.add; split <;> simp_all, blk_cell hg0]
      simpa using hu) (by omega) (by omega) (growslice_fits (by omega) (by rw [hz2]; omega))
  rw [hr] at hr2
  injection hr2 with e1 e2
  simp only [Value.slice.injEq] at e1
  have eg : g = w.heap.size := by
    have := e1.1
    injection this with this
    injection this with this
  refine ⟨g, cap, w', hr, ⟨ho.1, ?_⟩, by rw [e2]; exact (Keeps.drew None w).andAlloc _⟩
  rcases ho.2 with ⟨h0, _⟩ | ⟨g', cap', cur, h1, h2, h3⟩
  · cases h0
  · refine .inr ⟨g', cap', cur, h1, ?_, h3⟩
    simp only [Value.slice.injEq] at h1
    have := h1.1
    injection this with this
    injection this with this
    omega
end Go.Proofs.YtcjmceedkfjbeaaDoor
/-! ProgDecode: an answer of Decode that is written over. -/
namespace Go.Proofs.YtcjmceedkfjbeaaDoor
set_option linter.unusedVariables false
set_option maxRecDepth 20000
open Go.RowKit Go.HeapKit

theorem IsCode.isC {w : World} {cb : Nat} {cs : List Ins} (h : IsCode w cb cs) : IsC w cb cs := h.blk
/-- Functions in memory of their own, their codes from lo up to hi; or none. -/
def AnsH (lo hi : Nat) (w : World) (xa : Option Addr) (m : Nat) (fs : List Fn) : Prop := (m = 0 ∧ fs = []) ∨ ∃ gb E, xa = some ⟨gb, 0, none⟩ ∧ DecM lo w gb m E fs ∧ ∀ (j : Nat) (f : Fn) (cb : Nat), E[j]? = some (e4 f cb) → cb < hi
theorem AnsD.hi {lo : Nat} {w : World} {xa : Option Addr} {m : Nat} {fs : List Fn} (h : AnsD lo w xa m fs) : AnsH lo w.heap.size w xa m fs := by
  rcases h with h | ⟨gb, E, e, h⟩
  · exact .inl h
  · refine .inr ⟨gb, E, e, h, fun j f cb he => ?_⟩
    have hj : j < m := by have := (List.getElem?_eq_some_iff.1 he).1; have := h.len; omega
    obtain ⟨c2, q1, q2, _⟩ := h.laid j (fs[j]'(by have := h.num; omega)) hj (by simp)
    rw [he] at q1
    rw [e4_inj (Option.some.inj q1)]
    exact blk_lt q2.blk
theorem AnsH.more {lo hi : Nat} {w w' : World} {xa : Option Addr} {m : Nat} {fs : List Fn} (h : AnsH lo hi w xa m fs) (hk : Keeps None w w') : AnsH lo hi w' xa m fs := by
  rcases h with h | ⟨gb, E, e, h, h2⟩
  · exact .inl h
  · exact .inr ⟨gb, E, e, h.more hk, h2⟩
theorem AnsH.len {lo hi : Nat} {w : World} {xa : Option Addr} {m : Nat} {fs : List Fn} (h : AnsH lo hi w xa m fs) : m = fs.length := by
  rcases h with ⟨h1, h2⟩ | ⟨gb, E, e, h, h2⟩
  · rw [h1, h2]; rfl
  · exact h.num
theorem AnsH.seen {lo hi : Nat} {w : World} {xa : Option Addr} {m : Nat} {fs : List Fn} (h : AnsH lo hi w xa m fs) : SeenF w xa m fs := by
  rcases h with ⟨rfl, rfl⟩ | ⟨gb, E, rfl, h, _⟩
  · exact seen_nil w xa
  · exact h.seen
/-- One function of it. -/
theorem AnsH.at {lo hi : Nat} {w : World} {xa : Option Addr} {m : Nat} {fs : List Fn} (h : AnsH lo hi w xa m fs) {i : Nat} {f : Fn} (hf : fs[i]? = some f) :
    ∃ gb cb, xa = some ⟨gb, 0, none⟩ ∧ w.cell? ⟨gb, i * 4 + 3, none⟩ = some (.slice (some ⟨cb, 0, none⟩) f.code.length f.code.length) ∧ IsCode w cb f.code ∧ lo ≤ cb ∧ cb < hi ∧ cb ≠ gb ∧
      ∀ k (x : Ins), k < f.code.length → AnsH lo hi (set5 w cb (k * 5) x) xa m (fs.set i { f with code := f.code.set k x }) := by
  have hil := (List.getElem?_eq_some_iff.1 hf).1
  rcases h with ⟨h1, h2⟩ | ⟨gb, E, rfl, h, hh⟩
  · subst h2; simp at hil
  · have him : i < m := by have := h.num; omega
    obtain ⟨cb, q1, q2, q3⟩ := h.laid i f him hf
    obtain ⟨_, _, _, c3⟩ := v4_at E i _ q1
    have ncb : cb ≠ gb := blk_ne q2.blk h.blk.blk (by decide)
    refine ⟨gb, cb, rfl, by rw [blk_cell h.blk.blk]; simpa [e4] using c3, q2, q3, hh i f cb q1, ncb, fun k x hk => .inr ⟨gb, E, rfl, ?_, hh⟩⟩
    obtain ⟨hc', hk'⟩ := q2.set k hk x
    refine ⟨h.blk.kept hk' (fun e => ncb e.symm), h.len, by rw [List.length_set]; exact h.num, fun j f' hj hf' => ?_, h.low, h.dis⟩
    by_cases ej : i = j
    · subst ej
      rw [List.getElem?_set_self hil] at hf'
      obtain rfl := Option.some.inj hf'
      exact ⟨cb, by rw [q1]; simp [e4], hc', q3⟩
    · rw [List.getElem?_set_ne ej] at hf'
      obtain ⟨cb', p1, p2, p3⟩ := h.laid j f' hj hf'
      exact ⟨cb', p1, p2.kept hk' (fun e => h.dis i j f f' cb cb' him hj ej q1 p1 e.symm), p3⟩
theorem own_less {w : World} {base base' : Nat} {v : Value} {n : Nat} {vs : List Value} (h : w.ownsRow base' 42 5 v n vs) (hb : base ≤ base') : w.ownsRow base 42 5 v n vs := by
  refine ⟨h.1, ?_⟩
  rcases h.2 with h0 | ⟨g, cap, cur, h1, h2, h3⟩
  · exact .inl h0
  · exact .inr ⟨g, cap, cur, h1, Nat.le_trans hb h2, h3⟩
theorem own_from {w : World} {base : Nat} {v : Value} {n i : Nat} {vs : List Value} (h : w.ownsRow base 42 5 v n vs) (e : v.ownBlock = some i) : base ≤ i := by
  rcases h.2 with ⟨rfl, _⟩ | ⟨g, cap, cur, rfl, h2, h3⟩
  · simp [Value.ownBlock] at e
  · simp [Value.ownBlock] at e; omega
theorem ins_more (base : Nat) (v : Value) (l : List Ins) (x : Ins) (n g ty : Nat) (w : World) (hn : n = l.length) (h : w.ownsRow base 42 5 v n (insVals l)) (hb : base ≤ w.heap.size) (hlen : (n + 1) * 40 ≤ 140737488355328)
    (hg : w.heap[g]? = some (.cells #[.int .i64 x.kind, .int .i64 x.a, .int .i64 x.b, .int .i64 x.c, .int .i64 x.k] 42 (0, 0))) :
    ∃ b cap w', (Builtin.append_ #[38, 38] ty #[v, .slice (some ⟨g, 0, none⟩) 1 1]).run Tryd.prog w = .ok (.slice (some ⟨b, 0, none⟩) (n + 1) cap) w' ∧
      w'.ownsRow base 42 5 (.slice (some ⟨b, 0, none⟩) (n + 1) cap) (n + 1) (insVals (l ++ [x])) ∧ Keeps (fun k => v.ownBlock = some k) w w' := by
  obtain ⟨b, cap, w', hr, ho, hk, hlo⟩ := ins_append v l x n g ty w hn (own_less h (Nat.zero_le _)) hlen hg
  refine ⟨b, cap, w', hr, ⟨ho.1, ?_⟩, hk⟩
  rcases ho.2 with h0 | ⟨g', cap', cur, h1, h2, h3⟩
  · exact .inl h0
  · refine .inr ⟨g', cap', cur, h1, ?_, h3⟩
    injection h1 with e1
    injection e1 with e1
    injection e1 with e1
    rcases hlo with e | e
    · have := own_from h e
      omega
    · omega
/-- How far it is written over. -/
def Over (fs fs' : List Fn) (i k : Nat) : Prop := fs'.length = fs.length ∧ ∀ j f, fs[j]? = some f → ∃ g, fs'[j]? = some g ∧ g.code.length = f.code.length ∧ ∀ q, q < f.code.length → (j < i ∨ j = i ∧ q < k) → g.code[q]? = some (oddI ((j : Int) + (q : Int)))
theorem over_start (fs : List Fn) : Over fs fs 0 0 := ⟨rfl, fun j f hf => ⟨f, hf, rfl, fun q hq h => by omega⟩⟩
theorem Over.next {fs fs' : List Fn} {i k : Nat} (h : Over fs fs' i k) {f : Fn} (hf : fs[i]? = some f) (hk : f.code.length ≤ k) : Over fs fs' (i + 1) 0 := by
  refine ⟨h.1, fun j f' hf' => ?_⟩
  obtain ⟨g, h1, h2, h3⟩ := h.2 j f' hf'
  refine ⟨g, h1, h2, fun q hq ho => h3 q hq ?_⟩
  by_cases ej : j = i
  · subst ej
    rw [hf] at hf'
    obtain rfl := Option.some.inj hf'
    exact .inr ⟨rfl, by omega⟩
  · exact .inl (by omega)
theorem Over.step {fs fs' : List Fn} {i k : Nat} (h : Over fs fs' i k) {g : Fn} (hg : fs'[i]? = some g) (hk : k < g.code.length) : Over fs (fs'.set i { g with code := g.code.set k (oddI ((i : Int) + (k : Int))) }) i (k + 1) := by
  have hil := (List.getElem?_eq_some_iff.1 hg).1
  refine ⟨by rw [List.length_set]; exact h.1, fun j f' hf' => ?_⟩
  obtain ⟨g', h1, h2, h3⟩ := h.2 j f' hf'
  by_cases ej : i = j
  · subst ej
    rw [hg] at h1
    obtain rfl := Option.some.inj h1
    refine ⟨_, List.getElem?_set_self hil, by simpa using h2, fun q hq ho => ?_⟩
    by_cases eq : k = q
    · subst eq
      exact List.getElem?_set_self hk
    · show (g.code.set k _)[q]? = _
      rw [List.getElem?_set_ne eq]
      exact h3 q hq (by omega)
  · refine ⟨g', by rw [List.getElem?_set_ne ej]; exact h1, h2, fun q hq ho => h3 q hq (by omega)⟩
end Go.Proofs.YtcjmceedkfjbeaaDoor
/-! The document's image. -/
namespace Go.Proofs.YtcjmceedkfjbeaaDoor
set_option linter.unusedVariables false
set_option maxRecDepth 20000
open Go.RowKit Go.HeapKit

theorem own_base {w : World} {b b' : Nat} {e : TypeId} {size : Nat} {v : Value} {n : Nat} {xs : List Value} (h : w.ownsRow b e size v n xs) (hb : b' ≤ b) : w.ownsRow b' e size v n xs := ⟨h.1, by
  rcases h.2 with h0 | ⟨g, cap, cur, h1, h2, h3⟩
  · exact .inl h0
  · exact .inr ⟨g, cap, cur, h1, Nat.le_trans hb h2, h3⟩⟩
theorem own_low {w : World} {b : Nat} {e : TypeId} {size : Nat} {v : Value} {n : Nat} {xs : List Value} (h : w.ownsRow b e size v n xs) {g : Nat} (hg : v.ownBlock = some g) : b ≤ g := by
  rcases h.2 with ⟨rfl, _⟩ | ⟨g', cap, cur, rfl, h2, _⟩
  · simp [Value.ownBlock] at hg
  · simp [Value.ownBlock] at hg; omega
/-- A function's box. -/
def fnBox (f : Fn) (ca : Option Addr) (m cc : Nat) : Obj := .cells #[.int .i64 f.params, .int .i64 f.regs, .int .i64 f.slots, .slice ca m cc] 40 (0, 0)
set_option maxRecDepth 20000 in
set_option maxHeartbeats 4000000 in
theorem rimage_any (a : Option Addr) (n c : Nat) (l : List Fn) (w : World) (hS : SeenF w a n l) (hok : ∀ f ∈ l, f.Ok) (hcl : ∀ f ∈ l, f.code.length ≤ 512) (hn1 : 1 ≤ n ∧ n ≤ 32) :
    Calls Tryd.prog 31 #[.agg #[.slice a n c]] w fun e w' => ∃ v g N cap, e = .returned v ∧ Keeps None w w' ∧ Enc w w' l v g N cap := by
  obtain ⟨B, hB0⟩ : ∃ B, B = w.heap.size := ⟨_, rfl⟩
  have hal := Keeps.alloc None w (.cells #[.slice a n c] 25)
  have b1 := heap_alloc_new w (.cells #[.slice a n c] 25)
  obtain ⟨wa, hwa⟩ : ∃ wa, wa = w.alloc (.cells #[.slice a n c] 25) := ⟨_, rfl⟩
  rw [← hB0] at b1
  rw [← hwa] at b1 hal
  have d0 := (cell_of_heap b1 0).trans rfl
  have HA : Hid (wa.heap[B]? = some (.cells #[.slice a n c] 25 (0, 0)) ∧ Keeps None w wa) := ⟨b1, hal⟩
  have HS : Hid (SeenF wa a n l ∧ (∀ f ∈ l, f.Ok) ∧ n = l.length ∧ ∀ f ∈ l, f.code.length ≤ 512) := ⟨hS.more hal, hok, hS.len, hcl⟩
  clear b1 hal hS hok hcl
  go_enter Tryd.func31, Tryd.ntmps31
  go_upto_region 1 with fail
  rw [← hwa, ← hB0]
  clear hwa hB0
  go_upto_region 2 with fail
  obtain ⟨w5, hw5⟩ : ∃ w5, w5 = wa.alloc (.cells #[.int .i64 1886156142, .int .i64 n] 2) := ⟨_, rfl⟩
  have hal := Keeps.alloc None wa (.cells #[.int .i64 1886156142, .int .i64 n] 2)
  have b5 := heap_alloc_new wa (.cells #[.int .i64 1886156142, .int .i64 n] 2)
  rw [← hw5] at hal b5
  obtain ⟨Q, hQ⟩ : ∃ Q, Q = wa.heap.size := ⟨_, rfl⟩
  rw [← hQ] at b5
  have H5 : Hid (w5.ownsRow wa.heap.size 2 1 (.slice (some ⟨Q, 0, none⟩) 2 2) 2 (([1886156142, (n : Int)] ++ (l.take 0).flatMap fnW).map (Value.int .i64)) ∧ Keeps None wa w5) := by
    refine ⟨⟨by simp, .inr ⟨Q, 2, _, rfl, ?_, b5, by simp, by simp [maxLen], by simp, by simp⟩⟩, hal⟩
    omega
  rw [← hw5, ← hQ]
  clear hw5 hQ hal b5 d0
  go_wp2_with fail
  go_loopw [4, 3] (fun s4 s3 wr => ∃ (k N : Nat), k ≤ n ∧ s4 = .int .i64 k ∧ N = ([1886156142, (n : Int)] ++ (l.take k).flatMap fnW).length ∧ wr.ownsRow wa.heap.size 2 1 s3 N (([1886156142, (n : Int)] ++ (l.take k).flatMap fnW).map (Value.int .i64)) ∧ Keeps None wa wr) (fun i _ _ => n - (intOf i).toNat)
  case atStart => exact ⟨0, 2, Nat.zero_le _, rfl, by simp, H5.out.1, H5.out.2⟩
  case round =>
    obtain ⟨k, N, hk, rfl, hN, hrow, hkp⟩ := hrel
    obtain ⟨zs, hzs⟩ : ∃ zs, zs = [1886156142, (n : Int)] ++ (l.take k).flatMap fnW := ⟨_, rfl⟩
    have hfl := fns_len (l.take k) (fun f hf => HS.out.2.2.2 f (List.mem_of_mem_take hf))
    have hN2 : N ≤ 83000 := by
      rw [hN, List.length_append]
      have : (l.take k).length ≤ 32 := by simp; omega
      simp only [List.length_cons, List.length_nil]
      omega
    rw [← hzs] at hN hrow
    have d0 := (cell_of_heap (blk_kept HA.out.1 hkp (fun f => f)) 0).trans rfl
    by_cases hkn : k < n
    · obtain ⟨b, off, f, ca, cc, rfl, hf, hatw⟩ := HS.out.1.at hkn
      have hat := hatw.more hkp
      have hf512 := HS.out.2.2.2 f (List.mem_of_getElem? hf)
      have i1 : (k : Int) < (n : Int) := by omega
      obtain ⟨m, hm⟩ : ∃ m, m = f.code.length := ⟨_, rfl⟩
      rw [← hm] at hf512
      obtain ⟨hat0, hat1, hat2, hat3, -⟩ := hat
      have hsee := hatw.seen
      rw [← hm] at hat3 hsee
      have hal1 := Keeps.alloc None wr (.cells #[.int .i64 f.params, .int .i64 f.regs, .int .i64 f.slots, .slice ca m cc] 40)
      have hal2 := Keeps.alloc None (wr.alloc (.cells #[.int .i64 f.params, .int .i64 f.regs, .int .i64 f.slots, .slice ca m cc] 40)) (.cells #[.int .i64 f.params, .int .i64 f.regs, .int .i64 f.slots, .int .i64 m] 2)
      have hkA := hal1.trans hal2 (fun _ f _ => f)
      obtain ⟨b1, b2⟩ := two_boxes wr #[.int .i64 f.params, .int .i64 f.regs, .int .i64 f.slots, .slice ca m cc] #[.int .i64 f.params, .int .i64 f.regs, .int .i64 f.slots, .int .i64 m] 40 2
      obtain ⟨g, cap, w6, hr6, ho6, hk6⟩ := words_more wa.heap.size u3 zs [f.params, f.regs, f.slots, (m : Int)] N 4 22 (wr.heap.size + 1) _ hN rfl (hkA.own hrow (fun _ _ f => f)) (Nat.le_trans hkp.size hkA.size) (by omega) (by omega) b2
      have hkB : Keeps (fun k => u3.ownBlock = some k) wr w6 := (hkA.mono (fun _ f _ => f.elim)).trans hk6 (fun _ e _ => e)
      have hkw6 : Keeps None wa w6 := hkp.trans hkB (fun i e hi => by have := own_low hrow e; omega)
      have nF : ¬ u3.ownBlock = some wr.heap.size := fun e => by have := own_lt hrow e; omega
      obtain ⟨F, hF⟩ : ∃ F, F = wr.heap.size := ⟨_, rfl⟩
      have b6 := blk_kept b1 hk6 nF
      rw [← hF] at b6
      have HK : Hid (w6.ownsRow wa.heap.size 2 1 (.slice (some ⟨g, 0, none⟩) (N + 4) cap) (N + 4) ((zs ++ [f.params, f.regs, f.slots, (m : Int)]).map (Value.int .i64)) ∧ Keeps None wa w6 ∧ N = zs.length ∧ zs = [1886156142, (n : Int)] ++ (l.take k).flatMap fnW ∧ l[k]? = some f ∧ m = f.code.length ∧ SeenI wa ca m f.code ∧ (∀ i ∈ f.code, i.Ok) ∧ w6.heap[F]? = some (fnBox f ca m cc)) := ⟨ho6, hkw6, hN, hzs, hf, hm, hsee, (HS.out.2.1 f (List.mem_of_getElem? hf)).code, b6⟩
      clear hrow hkp hal1 hal2 hkA b1 b2 hk6 hkB hkw6 b6 ho6 hf hm hzs hN hfl nF hsee hatw
      go_upto_region 7 with (at_builtin; refine wpList_append_run rfl (.tmp 25) (.tmp 35) 22 22 rfl rfl rfl hr6 ?_)
      clear hr6 hat0 hat1 hat2 hat3 d0
      rw [← hF]
      clear hF
      obtain ⟨zs1, hzs1⟩ : ∃ zs1, zs1 = zs ++ [f.params, f.regs, f.slots, (m : Int)] := ⟨_, rfl⟩
      have HZ1 : Hid (zs1 = zs ++ [f.params, f.regs, f.slots, (m : Int)] ∧ zs1.length = N + 4) := ⟨hzs1, by rw [hzs1, List.length_append, ← HK.out.2.2.1]; rfl⟩
      have H6 : Hid (w6.ownsRow wa.heap.size 2 1 (.slice (some ⟨g, 0, none⟩) (N + 4) cap) (N + 4) ((zs1 ++ (f.code.take 0).flatMap insW).map (Value.int .i64))) := by
        unfold Hid
        rw [hzs1]
        simpa using HK.out.1
      clear hzs1
      go_wp2_with fail
      go_loopw [6, 3] (fun s6 s3 wr => ∃ (j M : Nat), j ≤ m ∧ s6 = .int .i64 j ∧ M = (zs1 ++ (f.code.take j).flatMap insW).length ∧ wr.ownsRow wa.heap.size 2 1 s3 M ((zs1 ++ (f.code.take j).flatMap insW).map (Value.int .i64)) ∧ Keeps None wa wr ∧ wr.heap[F]? = some (fnBox f ca m cc)) (fun i _ _ => m - (intOf i).toNat)
      case atStart => exact ⟨0, N + 4, Nat.zero_le _, rfl, by simp [HZ1.out.2], H6.out, HK.out.2.1, HK.out.2.2.2.2.2.2.2.2⟩
      case round =>
        obtain ⟨j, M, hj, rfl, hM, hrow, hkp, hbF⟩ := hrel
        obtain ⟨ys, hys⟩ : ∃ ys, ys = zs1 ++ (f.code.take j).flatMap insW := ⟨_, rfl⟩
        have hM2 : M ≤ 90000 := by
          rw [hM, List.length_append, ins_len, HZ1.out.2]
          have : (f.code.take j).length ≤ 512 := by simp; omega
          omega
        rw [← hys] at hM hrow
        have d3 : wr.cell? ⟨F, 3, none⟩ = some (.slice ca m cc) := (cell_of_heap hbF 3).trans rfl
        by_cases hjm : j < m
        · obtain ⟨bI, oI, x, rfl, hx, hatI⟩ := (HK.out.2.2.2.2.2.2.1.more hkp).at hjm
          obtain ⟨y0, y1, y2, y3, y4⟩ := hatI
          have i2 : (j : Int) < (m : Int) := by omega
          have hal1 := Keeps.alloc None wr (.cells #[.int .i64 x.kind, .int .i64 x.a, .int .i64 x.b, .int .i64 x.c, .int .i64 x.k] 42)
          have hal2 := Keeps.alloc None (wr.alloc (.cells #[.int .i64 x.kind, .int .i64 x.a, .int .i64 x.b, .int .i64 x.c, .int .i64 x.k] 42)) (.cells #[.int .i64 x.kind, .int .i64 x.a, .int .i64 x.b, .int .i64 x.c, .int .i64 x.k] 2)
          have hkA := hal1.trans hal2 (fun _ f _ => f)
          obtain ⟨b1, b2⟩ := two_boxes wr #[.int .i64 x.kind, .int .i64 x.a, .int .i64 x.b, .int .i64 x.c, .int .i64 x.k] #[.int .i64 x.kind, .int .i64 x.a, .int .i64 x.b, .int .i64 x.c, .int .i64 x.k] 42 2
          obtain ⟨g7, cap7, w7, hr7, ho7, hk7⟩ := words_more wa.heap.size u3 ys (insW x) M 5 22 (wr.heap.size + 1) _ hM rfl (hkA.own hrow (fun _ _ f => f)) (Nat.le_trans hkp.size hkA.size) (by omega) (by omega) b2
          have hkw7 : Keeps None wa w7 := (hkp.trans hkA (fun _ f _ => f)).trans hk7 (fun i e hi => by have := own_low hrow e; omega)
          have hbF7 : w7.heap[F]? = some (fnBox f (some ⟨bI, oI, none⟩) m cc) := blk_kept (blk_kept hbF hkA (fun f => f)) hk7 (fun e => absurd (own_type hrow e hbF) (by decide))
          have HQ : Hid (w7.ownsRow wa.heap.size 2 1 (.slice (some ⟨g7, 0, none⟩) (M + 5) cap7) (M + 5) ((ys ++ insW x).map (Value.int .i64)) ∧ Keeps None wa w7 ∧ M = ys.length ∧ ys = zs1 ++ (f.code.take j).flatMap insW ∧ f.code[j]? = some x ∧ w7.heap[F]? = some (fnBox f (some ⟨bI, oI, none⟩) m cc)) := ⟨ho7, hkw7, hM, hys, hx, hbF7⟩
          clear hrow hkp hal1 hal2 hkA b1 b2 hk7 hkw7 ho7 hM hys hx hbF hbF7
          go_wp2_with (at_builtin; refine wpList_append_run rfl (.tmp 49) (.tmp 60) 22 22 rfl rfl rfl hr7 ?_)
          have hfin : ys ++ insW x = zs1 ++ (f.code.take (j + 1)).flatMap insW := by rw [flat_take insW f.code j x HQ.out.2.2.2.2.1, HQ.out.2.2.2.1, List.append_assoc]
          exact ⟨⟨j + 1, M + 5, by omega, by simp, by rw [← hfin, List.length_append, ← HQ.out.2.2.1]; rfl, by rw [← hfin]; exact HQ.out.1, HQ.out.2.1, HQ.out.2.2.2.2.2⟩, by simp [intOf]; omega⟩
        · have i2 : ¬ ((j : Int) < (m : Int)) := by omega
          have HQ : Hid (wr.ownsRow wa.heap.size 2 1 u3 M (ys.map (Value.int .i64)) ∧ Keeps None wa wr ∧ M = ys.length ∧ ys = zs1 ++ (f.code.take j).flatMap insW) := ⟨hrow, hkp, hM, hys⟩
          clear hrow hkp hM hys hbF
          go_wp2_with fail
          have hfin : ys = [1886156142, (n : Int)] ++ (l.take (k + 1)).flatMap fnW := by
            have ht : f.code.take j = f.code := List.take_of_length_le (by have := HK.out.2.2.2.2.2.1; omega)
            rw [flat_take fnW l k f HK.out.2.2.2.2.1, HQ.out.2.2.2, HZ1.out.1, HK.out.2.2.2.1, ht, HK.out.2.2.2.2.2.1]
            simp [fnW]
          exact ⟨⟨k + 1, M, by omega, by simp, by rw [← hfin]; exact HQ.out.2.2.1, by rw [← hfin]; exact HQ.out.1, HQ.out.2.1⟩, by simp [intOf]; omega⟩
    · have i1 : ¬ ((k : Int) < (n : Int)) := by omega
      have himg : zs = imageV l := by
        rw [hzs, List.take_of_length_le (by have := HS.out.2.2.1; omega), HS.out.2.2.1]
        rfl
      subst himg
      obtain ⟨ao, cap, hu5, -, -, -, -, hnn, -⟩ := own_zero (e := 2) (own_base hrow (Nat.zero_le _))
      have hN1 : 1 ≤ N := by rw [hN]; simp [imageV]
      obtain ⟨g, rfl⟩ : ∃ g, ao = some ⟨g, 0, none⟩ := by
        rcases hrow.2 with ⟨rfl, h0⟩ | ⟨g', cap', cur', h1, h2, h3⟩
        · omega
        · rw [hu5] at h1
          simp only [Value.slice.injEq] at h1
          exact ⟨g', h1.1⟩
      subst hu5
      have hse := own_seen hrow hN (image_ok HS.out.2.1 HS.out.2.2.2 (by have := HS.out.2.2.1; omega)) (by omega)
      have hsm := rsum_any (some ⟨g, 0, none⟩) N cap (imageV l) wr hse
      obtain ⟨sm, hsm2⟩ : ∃ sm, sm = sumV (imageV l) := ⟨_, rfl⟩
      rw [← hsm2] at hsm
      have hal1 := Keeps.alloc None wr (.cells #[.int .i64 sm] 2)
      obtain ⟨g7, cap7, w7, hr7, ho7, hk7⟩ := words_more wa.heap.size (.slice (some ⟨g, 0, none⟩) N cap) (imageV l) [sm] N 1 22 wr.heap.size _ hN rfl (hal1.own hrow (fun _ _ f => f)) (Nat.le_trans hkp.size hal1.size) (by omega) (by omega) (heap_alloc_new wr (.cells #[.int .i64 sm] 2))
      have hkw7 : Keeps None wa w7 := (hkp.trans hal1 (fun _ f _ => f)).trans hk7 (fun i e hi => by have := own_low hrow e; omega)
      have HQ : Hid (Enc w w7 l (.slice (some ⟨g7, 0, none⟩) (N + 1) cap7) g7 (N + 1) cap7 ∧ Keeps None w w7) := by
        refine ⟨⟨rfl, ?_, ?_⟩, HA.out.2.trans hkw7 (fun _ f _ => f)⟩
        · unfold encV
          rw [List.length_append, ← hN]
          simp
        · unfold encV
          rw [← hsm2]
          exact own_base ho7 HA.out.2.size
      clear hrow hkp hal1 hk7 hkw7 ho7 hN hsm2 hse hfl hzs
      go_wp2_with (first | (go_at_call 27; refine hsm.mono ?_; rintro _ w' ⟨rfl, hw⟩; have hw2 := hw.symm; subst hw2) | (at_builtin; refine wpList_append_run rfl (.tmp 64) (.tmp 66) 22 22 rfl rfl rfl hr7 ?_))
      first | go_ret | go_ret2
      exact ⟨_, g7, N + 1, cap7, rfl, HQ.out.2, HQ.out.1⟩
end Go.Proofs.YtcjmceedkfjbeaaDoor
/-! The document's Encode; what both answer. -/
namespace Go.Proofs.YtcjmceedkfjbeaaDoor
set_option linter.unusedVariables false
set_option maxRecDepth 20000
open Go.RowKit Go.HeapKit

/-- The words that are answered. -/
def ansW (l : List Fn) : List Int := if (checkV l).1 = 0 then encV l else []
theorem ansW_most (l : List Fn) : (ansW l).length ≤ 100000 := by
  unfold ansW
  split
  · rename_i he
    have hv := check_valid (check_zero he)
    have hl : l.length ≤ 32 := by omega
    have := fns_len l (fun f hf => (valid_bounds (hv.2.2 f hf)).2.2.2.2)
    simp only [encV, imageV, List.length_append, List.length_cons, List.length_nil]
    omega
  · simp
/-- An answer of words in new memory. -/
structure AnsW (b : Nat) (w' : World) (l : List Fn) (a : Option Addr) (N cap : Nat) : Prop where
  len : N = (ansW l).length
  own : w'.ownsRow b 2 1 (.slice a N cap) N ((ansW l).map (Value.int .i64))
theorem AnsW.most {b : Nat} {w' : World} {l : List Fn} {a : Option Addr} {N cap : Nat} (h : AnsW b w' l a N cap) : N ≤ 100000 := by
  rw [h.len]; exact ansW_most l
theorem AnsW.more {b : Nat} {w w' : World} {l : List Fn} {a : Option Addr} {N cap : Nat} (h : AnsW b w l a N cap) (hk : Keeps None w w') : AnsW b w' l a N cap := ⟨h.len, hk.own h.own (fun _ _ f => f)⟩
theorem AnsW.seen {b : Nat} {w : World} {l : List Fn} {a : Option Addr} {N cap : Nat} (h : AnsW b w l a N cap) : SeenZ w a N (ansW l) := by
  refine ⟨h.len, by have := h.most; omega, fun h0 => ?_⟩
  have ho := h.own
  rcases ho.2 with ⟨_, h1⟩ | ⟨g, cap', cur, h1, _⟩
  · omega
  · simp only [Value.slice.injEq] at h1
    obtain ⟨rfl, -, -⟩ := h1
    exact ⟨g, 0, rfl, own_lt ho rfl, own_at ho⟩
theorem encode_ans (a : Option Addr) (n c : Nat) (l : List Fn) (w : World) (hT : Tabs w) (hS : SeenF w a n l) (hok : ∀ f ∈ l, f.Ok) :
    Calls Tryd.prog 9 #[.agg #[.slice a n c]] w fun e w' => ∃ x N cap, e = .returned (.tuple #[.slice x N cap, .int .i64 (checkV l).1]) ∧ Keeps None w w' ∧ AnsW w.heap.size w' l x N cap := by
  refine (encode_any a n c l w hT hS hok).mono ?_
  rintro e w' ⟨v, rfl, hk, h1, h2⟩
  by_cases he : (checkV l).1 = 0
  · obtain ⟨g, N, cap, hE⟩ := h2 he
    refine ⟨_, N, cap, by rw [hE.val], hk, ?_, ?_⟩
    · rw [hE.len, ansW, if_pos he]
    · have := hE.own
      rw [ansW, if_pos he, ← hE.val]
      exact this
  · refine ⟨none, 0, 0, by rw [h1 he], hk, by rw [ansW, if_neg he]; rfl, ?_⟩
    rw [ansW, if_neg he]
    exact ⟨rfl, .inl ⟨rfl, rfl⟩⟩
set_option maxRecDepth 20000 in
set_option maxHeartbeats 4000000 in
theorem rencode_ans (a : Option Addr) (n c : Nat) (l : List Fn) (w : World) (hS : SeenF w a n l) (hok : ∀ f ∈ l, f.Ok) :
    Calls Tryd.prog 15 #[.agg #[.slice a n c]] w fun e w' => ∃ x N cap, e = .returned (.tuple #[.slice x N cap, .int .i64 (checkV l).1]) ∧ Keeps None w w' ∧ AnsW w.heap.size w' l x N cap := by
  obtain ⟨B, hB0⟩ : ∃ B, B = w.heap.size := ⟨_, rfl⟩
  have hal := Keeps.alloc None w (.cells #[.slice a n c] 25)
  have b1 := heap_alloc_new w (.cells #[.slice a n c] 25)
  have hck := rcheck_any a n c l _ (hS.more hal) hok
  obtain ⟨wa, hwa⟩ : ∃ wa, wa = w.alloc (.cells #[.slice a n c] 25) := ⟨_, rfl⟩
  obtain ⟨e, he⟩ : ∃ e, e = (checkV l).1 := ⟨_, rfl⟩
  obtain ⟨e2, he2⟩ : ∃ e2, e2 = (checkV l).2.1 := ⟨_, rfl⟩
  obtain ⟨e3, he3⟩ : ∃ e3, e3 = (checkV l).2.2 := ⟨_, rfl⟩
  unfold checkF faultV at hck
  rw [← he, ← he2, ← he3] at hck
  rw [← he]
  rw [← hB0] at b1
  rw [← hwa] at b1 hal hck
  have d0 := (cell_of_heap b1 0).trans rfl
  have HA : Hid (wa.heap[B]? = some (.cells #[.slice a n c] 25 (0, 0)) ∧ Keeps None w wa ∧ B = w.heap.size ∧ e = (checkV l).1) := ⟨b1, hal, hB0, he⟩
  have HS : Hid (SeenF w a n l ∧ (∀ f ∈ l, f.Ok) ∧ n = l.length) := ⟨hS, hok, hS.len⟩
  clear b1 hal hS hok he he2 he3
  go_enter Tryd.func15, Tryd.ntmps15
  go_upto_region 2 with (go_at_call 29; rw [← hwa]; refine hck.mono ?_; rintro _ w3 ⟨rfl, hk3⟩)
  rw [← hB0]
  obtain ⟨w4, hw4⟩ : ∃ w4, w4 = w3.alloc (.cells #[.int .i64 e, .int .i64 e2, .int .i64 e3] 31) := ⟨_, rfl⟩
  obtain ⟨P, hP⟩ : ∃ P, P = w3.heap.size := ⟨_, rfl⟩
  have hal := Keeps.alloc None w3 (.cells #[.int .i64 e, .int .i64 e2, .int .i64 e3] 31)
  have b4 := heap_alloc_new w3 (.cells #[.int .i64 e, .int .i64 e2, .int .i64 e3] 31)
  rw [← hw4] at hal b4
  rw [← hP] at b4
  have hb4 := blk_kept (blk_kept HA.out.1 hk3 (fun f => f)) hal (fun f => f)
  have hkw4 := (HA.out.2.1.trans hk3 (fun _ f _ => f)).trans hal (fun _ f _ => f)
  have d4 := (cell_of_heap hb4 0).trans rfl
  have p4 := (cell_of_heap b4 0).trans rfl
  rw [← hw4, ← hP]
  have H4 : Hid (Keeps None w w4) := hkw4
  clear hw4 hP hal b4 hb4 hkw4 hk3 hck hwa hB0 d0
  by_cases he0 : e = 0
  · subst he0
    have hv := check_valid (check_zero HA.out.2.2.2.symm)
    have hn1 : 1 ≤ n ∧ n ≤ 32 := by have := HS.out.2.2; omega
    have him := rimage_any a n c l w4 (HS.out.1.more H4.out) HS.out.2.1 (fun f hf => (valid_bounds (hv.2.2 f hf)).2.2.2.2) hn1
    clear hv
    go_wp2_with fail
    refine him.mono ?_
    rintro _ w5 ⟨v, g, N, cap, rfl, hk5, hE⟩
    obtain rfl := hE.val
    have HF : Hid (Keeps None w w5 ∧ AnsW w.heap.size w5 l (some ⟨g, 0, none⟩) N cap) := by
      refine ⟨H4.out.trans hk5 (fun _ f _ => f), ?_, ?_⟩
      · rw [hE.len, ansW, if_pos HA.out.2.2.2.symm]
      · rw [ansW, if_pos HA.out.2.2.2.symm]
        exact own_base hE.own H4.out.size
    clear hE hk5 him
    go_wp2_with fail
    first | go_ret2 | go_ret
    exact ⟨_, N, cap, rfl, HF.out.1, HF.out.2⟩
  · have he1 : (e != 0) = true := by simpa using he0
    have HF : Hid (AnsW w.heap.size w4 l none 0 0) := by
      have hne : ¬ (checkV l).1 = 0 := by rw [← HA.out.2.2.2]; exact he0
      refine ⟨by rw [ansW, if_neg hne]; rfl, ?_⟩
      rw [ansW, if_neg hne]
      exact ⟨rfl, .inl ⟨rfl, rfl⟩⟩
    go_upto_region 3 with fail
    go_quiet (fail)
    go_wp2_with fail
    go_ret2
    exact ⟨_, 0, 0, rfl, H4.out.trans (Keeps.drewN None _ _) (fun _ f _ => f), HF.out.more (Keeps.drewN None _ _)⟩
end Go.Proofs.YtcjmceedkfjbeaaDoor
