import Derived.Test.YtlajblbfelcalabScWaits
/-! The longest wait. -/
namespace Go.Proofs.Ytlajblbfelcalab
set_option linter.unusedVariables false
set_option maxRecDepth 20000
open Go.RowKit Go.HeapKit Go.Sc

def fOf (l : List Int) (W : Nat) (k : Nat) : Nat := ((l.getD k 0) % (W : Int)).toNat
theorem fOf_lt (l : List Int) {W : Nat} (h : 0 < W) (k : Nat) : fOf l W k < W := by
  unfold fOf
  have h1 := Int.emod_nonneg (l.getD k 0) (b := (W : Int)) (by omega)
  have h2 := Int.emod_lt_of_pos (l.getD k 0) (b := (W : Int)) (by omega)
  omega
theorem fOf_mod (l : List Int) {W k : Nat} {x : Int} (h : 0 < W) (hx : l[k]? = some x) : Go.PlainOps.modV x W = (fOf l W k : Int) := by
  unfold fOf Go.PlainOps.modV
  rw [if_neg (by omega)]
  have h1 := Int.emod_nonneg x (b := (W : Int)) (by omega)
  simp only [List.getD_eq_getElem?_getD, hx, Option.getD_some]
  omega
theorem nm_cur (f : Nat → Nat) (k : Nat) : nm (fun w => cur f w k) (f k) = fun w => cur f w (k + 1) := by
  funext j
  rfl
theorem waits_new (w : World) (W : Nat) (g : Nat) (hg : w.heap.size = g) : IsW (w.alloc (.cells ((List.range 66).map (fun j => Value.int .i64 (wc W 0 (fun _ => 0) j))).toArray 57)) g W 0 (fun _ => 0) := blk_new _ _ _ hg
def z66 : Array Value := ((List.range 66).map (fun _ => Value.int .i64 0)).toArray
theorem z66_set (W : Nat) : z66.setIfInBounds 0 (.int .i64 W) = ((List.range 66).map (fun j => Value.int .i64 (wc W 0 (fun _ => 0) j))).toArray := by
  unfold z66
  rw [range_set]
  congr 1
theorem zeroW : ∀ wz : World, Sem.run Try.prog (zeroValue 57) wz = .ok (.agg z66) wz := by
  intro wz
  have h : (Try.prog.info? 57).map (·.zero) = some (some (.agg z66)) := by kernel_rfl
  cases hi : Try.prog.info? 57 with
  | none => simp [hi] at h
  | some i =>
    simp [hi] at h
    simp [zeroValue, typeInfo, hi, h]
set_option maxHeartbeats 1600000 in
theorem longestWait_any (a : Option Addr) (m c W : Nat) (l : List Int) (w : World) (h : SeenN w a m l) (h1 : 1 ≤ W) (h2 : W ≤ 64) (hs : m * 8 ≤ 140737488351232) :
    Calls Try.prog 38 #[.slice a m c, .int .i64 W] w fun e w' => e = .returned (.int .i64 (lw (fOf l W) W m : Nat)) ∧ Keeps None w w' := by
  have HS : Hid (SeenN w a m l) := h
  clear h
  have hz := zeroW
  have hz0 : ¬ z66 = #[] := by decide
  have hzs : z66.size = 66 := by decide
  obtain ⟨Z, hZ⟩ : ∃ Z, Z = z66 := ⟨_, rfl⟩
  rw [← hZ] at hz hz0 hzs
  have HZ : Hid (Z = z66) := hZ
  have hone : (Z.setIfInBounds 0 (.int .i64 W)).all (·.oneCell') = true := by rw [hZ, z66_set]; simp [Value.oneCell']
  have hinfo : (Try.prog.info? 57).map (·.size) = some (Z.setIfInBounds 0 (.int .i64 W)).size := by
    rw [Array.size_setIfInBounds, hzs]
    kernel_rfl
  clear hZ
  go_enter Try.func38, Try.ntmps38
  go_wp2_with (refine wpList_store_row rfl 57 (.tmp 5) (.tmp 11) rfl _ (Z.setIfInBounds 0 (.int .i64 W)) rfl rfl 57 Z (blk_new _ _ _ rfl) hinfo (by simp) hone ?_)
  obtain ⟨g, hg⟩ : ∃ g, g = w.heap.size := ⟨_, rfl⟩
  have HG : Hid (g = w.heap.size) := hg
  rw [← hg]
  have HW0 : Hid (IsW ((w.alloc (.cells Z 57)).setRow g (Z.setIfInBounds 0 (.int .i64 W))) g W 0 (fun _ => 0) ∧ Keeps None w ((w.alloc (.cells Z 57)).setRow g (Z.setIfInBounds 0 (.int .i64 W)))) := by
    refine ⟨?_, ?_⟩
    · unfold IsW
      rw [HZ.out, z66_set]
      exact setRow_heap _ _ _ _ _ _ (blk_new _ _ _ hg.symm)
    · exact ⟨rfl, rfl, rfl, by simp, fun k hk _ => (setRow_other _ _ _ _ (by omega)).trans (Below.heap_alloc _ _ _ hk)⟩
  clear hz hz0 hzs hone hinfo hg
  generalize (w.alloc (.cells Z 57)).setRow g (Z.setIfInBounds 0 (.int .i64 W)) = W0 at HW0 ⊢
  clear HZ
  go_loopw [14, 6, 8, 9] (fun s14 s6 _ _ wr => ∃ (k q : Nat), s14 = .int .i64 k ∧ k ≤ m ∧ s6 = .int .i64 q ∧ q ≤ k ∧ max q (top (fun j => cur (fOf l W) j k) W) = lw (fOf l W) W k ∧ IsW wr g W k (fun j => cur (fOf l W) j k) ∧ Keeps None w wr) (fun s14 _ _ _ _ => m - (intOf s14).toNat)
  case atStart => exact ⟨0, 0, rfl, Nat.zero_le _, rfl, Nat.le_refl _, by rw [lw_zero, top_zero]; rfl, HW0.out.1, HW0.out.2⟩
  case round =>
    obtain ⟨k, q, rfl, hk, rfl, hq, hmx, hI, hkp⟩ := hrel
    have HI : Hid (max q (top (fun j => cur (fOf l W) j k) W) = lw (fOf l W) W k ∧ IsW wr g W k (fun j => cur (fOf l W) j k) ∧ Keeps None w wr) := ⟨hmx, hI, hkp⟩
    clear hmx hI
    by_cases hkm : k < m
    · obtain ⟨b, off, x, rfl, he, c1⟩ := (HS.out.more hkp).at hkm
      have HM : Hid (Go.PlainOps.modV x W = (fOf l W k : Int)) := fOf_mod l (by omega) he
      have hf := fOf_lt l (show 0 < W by omega) k
      have HF : Hid (max (max q (cur (fOf l W) (fOf l W k) k)) (top (fun j => cur (fOf l W) j (k + 1)) W) = lw (fOf l W) W (k + 1)) := lw_succ _ hf HI.out.1
      have HNm : Hid (nm (fun j => cur (fOf l W) j k) (fOf l W k) = fun j => cur (fOf l W) j (k + 1)) := nm_cur _ _
      have hcl := cur_le (fOf l W) (fOf l W k) k
      have HC : Hid (∀ j, cur (fOf l W) j k ≤ k) := fun j => cur_le _ _ _
      have m0 : ¬ m = 0 := by omega
      have i1 : (k : Int) < (m : Int) := by omega
      obtain ⟨p, hp⟩ : ∃ p, p = fOf l W k := ⟨_, rfl⟩
      rw [← hp] at HM hf HF HNm hcl
      clear he hkp hp
      go_wp2_with fail
      refine (mod_any x W _ (by omega)).mono ?_
      rintro _ wz ⟨rfl, hw⟩
      have hw2 := hw.symm
      subst hw2
      clear hw
      rw [HM.out]
      go_wp2_with fail
      refine (of_any g W k p _ _ HI.out.2.1 (by omega) hcl (by omega)).mono ?_
      rintro _ w1 ⟨rfl, d, rfl⟩
      obtain ⟨C, hC⟩ : ∃ C, C = cur (fOf l W) p k := ⟨_, rfl⟩
      rw [← hC] at hcl HF
      simp only [← hC]
      clear hC
      by_cases hqc : q < C
      · have i2 : (q : Int) < (C : Int) := by omega
        go_wp2_with fail
        refine (name_any g W k p _ _ (HI.out.2.1.more (Keeps.drewN None _ _)) (by omega) (by omega)).mono ?_
        rintro _ w2 ⟨rfl, hI2, hk2⟩
        have HN : Hid (max C (top (fun j => cur (fOf l W) j (k + 1)) W) = lw (fOf l W) W (k + 1) ∧ IsW w2 g W (k + 1) (fun j => cur (fOf l W) j (k + 1)) ∧ Keeps None w w2) := by
          rw [HNm.out] at hI2
          exact ⟨by rw [← HF.out, Nat.max_eq_right (Nat.le_of_lt hqc)], hI2, (HI.out.2.2.trans (Keeps.drewN None _ _) (fun _ f _ => f)).trans hk2 (fun i e hi => by have := HG.out; omega)⟩
        clear hI2 hk2
        go_wp2_with fail
        exact ⟨⟨k + 1, C, by go_num, by omega, rfl, by omega, HN.out.1, HN.out.2⟩, by simp [intOf]; omega⟩
      · have i2 : ¬ (q : Int) < (C : Int) := by omega
        go_wp2_with fail
        refine (name_any g W k p _ _ (HI.out.2.1.more (Keeps.drewN None _ _)) (by omega) (by omega)).mono ?_
        rintro _ w2 ⟨rfl, hI2, hk2⟩
        have HN : Hid (max q (top (fun j => cur (fOf l W) j (k + 1)) W) = lw (fOf l W) W (k + 1) ∧ IsW w2 g W (k + 1) (fun j => cur (fOf l W) j (k + 1)) ∧ Keeps None w w2) := by
          rw [HNm.out] at hI2
          exact ⟨by rw [← HF.out, Nat.max_eq_left (Nat.not_lt.1 hqc)], hI2, (HI.out.2.2.trans (Keeps.drewN None _ _) (fun _ f _ => f)).trans hk2 (fun i e hi => by have := HG.out; omega)⟩
        clear hI2 hk2
        go_wp2_with fail
        exact ⟨⟨k + 1, q, by go_num, by omega, rfl, by omega, HN.out.1, HN.out.2⟩, by simp [intOf]; omega⟩
    · have i1 : ¬ (k : Int) < (m : Int) := by omega
      obtain rfl : k = m := by omega
      go_wp2_with fail
      refine (longest_any g W k _ _ HI.out.2.1 h2 (fun j => cur_le _ _ _) (by omega)).mono ?_
      rintro _ w1 ⟨rfl, d, rfl⟩
      go_wp2_with fail
      have hlt := lg_lt (fun j => cur (fOf l W) j k) (show 0 < W by omega)
      refine (of_any g W k _ _ _ (HI.out.2.1.more (Keeps.drewN None _ _)) (by omega) (cur_le _ _ _) (by omega)).mono ?_
      rintro _ w1 ⟨rfl, d2, rfl⟩
      have hT := lg_top (fun j => cur (fOf l W) j k) (show 0 < W by omega)
      obtain ⟨C, hC⟩ : ∃ C, C = cur (fOf l W) (lg (fun j => cur (fOf l W) j k) W) k := ⟨_, rfl⟩
      have HT : Hid (max q C = lw (fOf l W) W k) := by rw [hC, hT]; exact HI.out.1
      have hk3 : Hid (Keeps None w (wr.drewN (d + d2))) := HI.out.2.2.trans (Keeps.drewN None _ _) (fun _ f _ => f)
      simp only [← hC]
      clear hC hT
      by_cases hqc : q < C
      · have i2 : (q : Int) < (C : Int) := by omega
        go_wp2_with fail
        go_ret
        exact ⟨by rw [← HT.out, Nat.max_eq_right (Nat.le_of_lt hqc)]; rfl, hk3⟩
      · have i2 : ¬ (q : Int) < (C : Int) := by omega
        go_wp2_with fail
        go_ret
        exact ⟨by rw [← HT.out, Nat.max_eq_left (Nat.not_lt.1 hqc)]; rfl, hk3⟩
end Go.Proofs.Ytlajblbfelcalab
