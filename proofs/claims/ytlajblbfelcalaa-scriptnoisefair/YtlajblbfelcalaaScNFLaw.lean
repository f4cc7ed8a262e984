import Derived.Test.YtlajblbfelcalaaScNoise
import Derived.Test.YtlajblbfelcalaaScFair
import Derived.Test.YtlajblbfelcalaaScTurns
/-! ScriptNoiseFair. -/
namespace Go.Proofs.Ytlajblbfelcalaa
set_option linter.unusedVariables false
set_option maxRecDepth 20000
open Go.RowKit Go.HeapKit Go.Sc

def noiL (seed : Int) (W : Nat) (D : Int) (n : Nat) : List Int := (List.range n).map (fun i => (pickK seed W D i : Int))
theorem noiL_len (seed : Int) (W : Nat) (D : Int) (n : Nat) : (noiL seed W D n).length = n := by simp [noiL]
theorem noiL_f (seed : Int) {W : Nat} (D : Int) {n i : Nat} (hi : i < n) (hW : 0 < W) : fOf (noiL seed W D n) W i = pickK seed W D i := by
  unfold fOf noiL
  have hp : pickK seed W D i < W := pick_lt _ _ hW
  simp only [List.getD_eq_getElem?_getD, List.getElem?_map, List.getElem?_range hi, Option.map_some, Option.getD_some]
  rw [Int.emod_eq_of_lt (by omega) (by omega)]
  omega
theorem noiL_lw (seed : Int) {W : Nat} (D : Int) (n : Nat) (hW : 0 < W) : lwL (noiL seed W D n) W = lw (pickK seed W D) W n := by
  unfold lwL
  rw [noiL_len]
  exact lw_congr (fun i hi => noiL_f seed D hi hW) W
theorem noiL_fair (seed : Int) {W : Nat} (D : Int) (n : Nat) (hW : 0 < W) (hD : 0 ≤ D) (win : Int) (hwin : D + W = win) : fairB (noiL seed W D n) W win = true := by
  unfold fairB
  rw [noiL_lw seed D n hW]
  have := noise_fair seed W D hD hW n
  simp
  omega
theorem noiL_turns (seed : Int) {W : Nat} (n : Nat) (hW : 0 < W) : noiL seed W 0 n = (List.range n).map (fun i => ((i % W : Nat) : Int)) := by
  unfold noiL
  apply List.map_congr_left
  intro i _
  rw [turns_pick seed W hW]
theorem turns_win {W : Nat} (n : Nat) (hW : 0 < W) (hn : W ≤ n) : winV ((List.range n).map (fun i => ((i % W : Nat) : Int))) W = W := by
  rw [← noiL_turns 0 n hW]
  unfold winV
  rw [noiL_lw 0 0 n hW, noiL_len]
  have e : lw (pickK 0 W 0) W n = lw (fun i => i % W) W n := lw_congr (fun i _ => turns_pick 0 W hW i) W
  have := turns_lw W hW n hn
  rw [e, if_neg (by omega)]
  omega
theorem trn_ok (W R : Nat) (hW : 1 ≤ W) (hW2 : W ≤ 64) (h : W * R ≤ 1048576) : trnE W R = 0 ∧ trnV W R = (List.range (W * R)).map (fun i => ((i % W : Nat) : Int)) := by
  rcases trn_cases (W : Int) (R : Int) with ⟨hg, _⟩ | ⟨_, h0, _⟩ | ⟨W', R', e1, e2, _, _, _, ⟨hc, _⟩ | ⟨_, _, a, b⟩⟩
  · rw [goodB_t (by omega) (by omega)] at hg; cases hg
  · omega
  · have : W = W' := by omega
    have : R = R' := by omega
    subst W' R'
    have := (Nat.div_lt_iff_lt_mul (by omega : 0 < W)).1 hc
    rw [Nat.mul_comm] at this
    omega
  · have : W = W' := by omega
    have : R = R' := by omega
    subst W' R'
    exact ⟨a, b⟩
set_option maxHeartbeats 3200000 in
theorem scriptNoiseFair_walk (seed x y z : Int) (w : World) (hs : okI seed) (hx : okI x) (hy : okI y) (hz : okI z) :
    Calls Try.prog 8 #[.int .i64 seed, .int .i64 x, .int .i64 y, .int .i64 z] w fun e w' => e = .returned (.bool true) ∧ Below w.heap.size w w' := by
  have HX : Hid (okI seed ∧ okI x ∧ okI y ∧ okI z) := ⟨hs, hx, hy, hz⟩
  clear hs hx hy hz
  have hM1 := modN_lt x (n := 64) (by omega)
  have hM2 := modN_lt y (n := 200) (by omega)
  have hn := modN_lt z (n := 1500) (by omega)
  have HM : Hid ((∀ wz, Calls Try.prog 18 #[.int .i64 x, .int .i64 64] wz fun e w' => e = .returned (.int .i64 (modN x 64 : Nat)) ∧ w' = wz) ∧ (∀ wz, Calls Try.prog 18 #[.int .i64 y, .int .i64 200] wz fun e w' => e = .returned (.int .i64 (modN y 200 : Nat)) ∧ w' = wz) ∧ ∀ wz, Calls Try.prog 18 #[.int .i64 z, .int .i64 1500] wz fun e w' => e = .returned (.int .i64 (modN z 1500 : Nat)) ∧ w' = wz) :=
    ⟨fun wz => lmod_any x 64 wz HX.out.2.1 (by omega) (by omega), fun wz => lmod_any y 200 wz HX.out.2.2.1 (by omega) (by omega), fun wz => lmod_any z 1500 wz HX.out.2.2.2 (by omega) (by omega)⟩
  generalize modN x 64 = M1 at *
  generalize modN y 200 = M2 at *
  generalize modN z 1500 = n at *
  obtain ⟨W, hW⟩ : ∃ W, W = 1 + M1 := ⟨_, rfl⟩
  have e1 : 1 + (M1 : Int) = (W : Int) := by omega
  obtain ⟨V, hV⟩ : ∃ V, V = W + M2 := ⟨_, rfl⟩
  have e2 : (W : Int) + (M2 : Int) = (V : Int) := by omega
  have b1 : 1 ≤ W := by omega
  have b2 : W ≤ 64 := by omega
  have b3 : W ≤ V := by omega
  have b4 : V ≤ 300 := by omega
  clear hW hV
  have HW0 : Hid (((V : Int) - (W : Int)) + W = V ∧ 0 ≤ (V : Int) - (W : Int)) := ⟨by omega, by omega⟩
  go_enter Try.func8, Try.ntmps8
  go_wp2_with fail
  refine (HM.out.1 _).mono ?_
  rintro _ wz ⟨rfl, hw⟩
  have hw2 := hw.symm
  subst hw2
  clear hw
  go_wp2_with fail
  refine (HM.out.2.1 _).mono ?_
  rintro _ wz ⟨rfl, hw⟩
  have hw2 := hw.symm
  subst hw2
  clear hw
  go_wp2_with fail
  refine (HM.out.2.2 _).mono ?_
  rintro _ wz ⟨rfl, hw⟩
  have hw2 := hw.symm
  subst hw2
  clear hw
  go_wp2_with fail
  refine (noise_good seed V W n _ HX.out.1 b1 b2 (by omega) (by omega) (by omega)).mono ?_
  rintro _ w1 ⟨gp, gd, rfl, hP, hG, hne, l1, l2, hk1⟩
  obtain ⟨D, hD⟩ : ∃ D, D = (V : Int) - (W : Int) := ⟨_, rfl⟩
  rw [← hD] at hP hG HW0
  have H1 : Hid (IsN w1 gp n (fun i => (pickK seed W D i : Int)) ∧ IsN w1 gd n (drawK seed W D) ∧ Keeps None w w1) := ⟨hP, hG, hk1⟩
  clear hP hG hk1 hD
  go_upto_region 5 with fail
  obtain ⟨p, hp⟩ : ∃ p, p = w1.heap.size := ⟨_, rfl⟩
  have hb := blk_new w1 (.cells #[.slice (some ⟨gp, 0, none⟩) n n, .slice (some ⟨gd, 0, none⟩) n n] 37) _ rfl
  have hkb := keeps1 w1 (.cells #[.slice (some ⟨gp, 0, none⟩) n n, .slice (some ⟨gd, 0, none⟩) n n] 37)
  rw [← hp] at hb ⊢
  generalize w1.alloc (.cells #[.slice (some ⟨gp, 0, none⟩) n n, .slice (some ⟨gd, 0, none⟩) n n] 37) = wb at *
  have H2 : Hid (wb.heap[p]? = some (.cells #[.slice (some ⟨gp, 0, none⟩) n n, .slice (some ⟨gd, 0, none⟩) n n] 37 (0, 0)) ∧ IsN wb gp n (fun i => (pickK seed W D i : Int)) ∧ Keeps None w wb) :=
    ⟨hb, H1.out.1.more hkb, H1.out.2.2.trans hkb (fun _ f _ => f)⟩
  clear hp hb hkb H1
  have c0 := (blk_cell H2.out.1 0).trans rfl
  have c1 := (blk_cell H2.out.1 1).trans rfl
  have q1 : ((n : Int) != (n : Int)) = false := by simp
  go_wp2_with fail
  refine (fair_any (some ⟨gp, 0, none⟩) n n W V (noiL seed W D n) _ H2.out.2.1.seen b1 b2 (by omega)).mono ?_
  rintro _ w2 ⟨rfl, hk2⟩
  rw [noiL_fair seed D n (by omega) HW0.out.2 V HW0.out.1]
  have H3 : Hid (w2.heap[p]? = some (.cells #[.slice (some ⟨gp, 0, none⟩) n n, .slice (some ⟨gd, 0, none⟩) n n] 37 (0, 0)) ∧ IsN w2 gp n (fun i => (pickK seed W D i : Int)) ∧ Keeps None w w2) :=
    ⟨blk_kept H2.out.1 hk2 (fun f => f), H2.out.2.1.more hk2, H2.out.2.2.trans hk2 (fun _ f _ => f)⟩
  clear hk2 c0 c1 q1 H2
  have c0 := (blk_cell H3.out.1 0).trans rfl
  go_wp2_with fail
  go_loop [13] (fun s13 => ∃ k : Nat, s13 = .int .i64 k ∧ k ≤ n) (fun s13 => n - (intOf s13).toNat)
  case atStart => exact ⟨0, rfl, Nat.zero_le _⟩
  case round =>
    obtain ⟨k, rfl, hk⟩ := hrel
    by_cases hkn : k < n
    · have i1 : (k : Int) < (n : Int) := by omega
      have n0 : ¬ n = 0 := by omega
      have d1 := H3.out.2.1.at hkn
      have hpl : pickK seed W D k < W := pick_lt _ _ (by omega)
      generalize pickK seed W D k = P at d1 hpl
      have i2 : ¬ (P : Int) < 0 := by omega
      have i3 : ¬ (W : Int) ≤ (P : Int) := by omega
      go_wp2_with fail
      exact ⟨⟨k + 1, by go_num, by omega⟩, by simp [intOf]; omega⟩
    · have i1 : ¬ (k : Int) < (n : Int) := by omega
      obtain ⟨R, hR⟩ : ∃ R, R = n / W := ⟨_, rfl⟩
      have i2 : (n : Int) / (W : Int) = (R : Int) := by rw [hR]; simp
      obtain ⟨M, hM⟩ : ∃ M, M = W * R := ⟨_, rfl⟩
      have i3 : (W : Int) * (R : Int) = (M : Int) := by rw [hM]; simp
      have hMn : M ≤ n := by rw [hM, hR]; exact Nat.mul_div_le n W
      have hRn : R ≤ n := by rw [hR]; exact Nat.div_le_self n W
      have HR : Hid (M = W * R ∧ (W ≤ n → W ≤ M)) := by
        refine ⟨hM, fun hle => ?_⟩
        have : 1 ≤ R := by rw [hR]; exact (Nat.le_div_iff_mul_le (by omega)).2 (by omega)
        rw [hM]
        exact Nat.le_mul_of_pos_right W this
      have W0 : ¬ (W : Int) = 0 := by omega
      clear hR hM hkn
      have hno := noise_good seed W W M w2 HX.out.1 b1 b2 (by omega) (by omega) (by omega)
      rw [Int.sub_self] at hno
      go_wp2_with fail
      refine hno.mono ?_
      rintro _ w3 ⟨hp, hd, rfl, hP, hG, hne2, l3, l4, hk3⟩
      have H4 : Hid (IsN w3 hp M (fun i => (pickK seed W 0 i : Int)) ∧ Keeps None w w3) := ⟨hP, H3.out.2.2.trans hk3 (fun _ f _ => f)⟩
      clear hP hG hk3 hno
      go_upto_region 13 with fail
      obtain ⟨q, hq⟩ : ∃ q, q = w3.heap.size := ⟨_, rfl⟩
      have hb := blk_new w3 (.cells #[.slice (some ⟨hp, 0, none⟩) M M, .slice (some ⟨hd, 0, none⟩) M M] 37) _ rfl
      have hkb := keeps1 w3 (.cells #[.slice (some ⟨hp, 0, none⟩) M M, .slice (some ⟨hd, 0, none⟩) M M] 37)
      rw [← hq] at hb ⊢
      generalize w3.alloc (.cells #[.slice (some ⟨hp, 0, none⟩) M M, .slice (some ⟨hd, 0, none⟩) M M] 37) = wd at *
      have H5 : Hid (wd.heap[q]? = some (.cells #[.slice (some ⟨hp, 0, none⟩) M M, .slice (some ⟨hd, 0, none⟩) M M] 37 (0, 0)) ∧ IsN wd hp M (fun i => (pickK seed W 0 i : Int)) ∧ Keeps None w wd) :=
        ⟨hb, H4.out.1.more hkb, H4.out.2.trans hkb (fun _ f _ => f)⟩
      clear hq hb hkb H4
      have HT : Hid (trnE W R = 0 ∧ trnV W R = (List.range M).map (fun i => ((i % W : Nat) : Int))) := by
        have := trn_ok W R b1 b2 (by rw [← HR.out.1]; omega)
        rw [← HR.out.1] at this
        exact this
      go_wp2_with fail
      refine (turns_any W R _ (by unfold okI; omega) (by unfold okI; omega)).mono ?_
      rintro _ w4 ⟨v4, rfl, hr4, hk4⟩
      rw [HT.out.2] at hr4
      rw [HT.out.1]
      have hlen : ((List.range M).map (fun i => ((i % W : Nat) : Int))).length = M := by simp
      rw [hlen] at hr4
      obtain ⟨a4, k4, rfl⟩ := row_shape hr4
      have H6 : Hid (w4.heap[q]? = some (.cells #[.slice (some ⟨hp, 0, none⟩) M M, .slice (some ⟨hd, 0, none⟩) M M] 37 (0, 0)) ∧ SeenN w4 (some ⟨hp, 0, none⟩) M ((List.range M).map (fun i => ((i % W : Nat) : Int))) ∧ SeenN w4 a4 M ((List.range M).map (fun i => ((i % W : Nat) : Int))) ∧ Keeps None w w4) := by
        refine ⟨blk_kept H5.out.1 hk4 (fun f => f), ?_, row_seen hr4, H5.out.2.2.trans hk4 (fun _ f _ => f)⟩
        have := (H5.out.2.1.more hk4).seen
        rwa [show (List.range M).map (fun i => (pickK seed W 0 i : Int)) = (List.range M).map (fun i => ((i % W : Nat) : Int)) from noiL_turns seed M (by omega)] at this
      clear hr4 hk4 hlen H5 c0
      have c0 := (blk_cell H6.out.1 0).trans rfl
      go_wp2_with fail
      refine (same_any (some ⟨hp, 0, none⟩) a4 M M k4 _ _ H6.out.2.1 H6.out.2.2.1 (by omega)).mono ?_
      rintro _ w5 ⟨rfl, d, rfl⟩
      have HF : Hid (Keeps None w (w4.drewN d)) := H6.out.2.2.2.trans (Keeps.drewN None _ _) (fun _ f _ => f)
      by_cases hnW : n < W
      · have j1 : (n : Int) < (W : Int) := by omega
        go_wp2_with fail
        go_ret
        exact ⟨rfl, HF.out.below _ (Nat.le_refl _) (fun _ f => f.elim)⟩
      · have j1 : ¬ (n : Int) < (W : Int) := by omega
        have hw := window_any a4 M k4 W _ (w4.drewN d) (H6.out.2.2.1.more (Keeps.drewN None _ _)) b1 b2 (by omega)
        rw [turns_win M (by omega) (HR.out.2 (by omega))] at hw
        go_wp2_with fail
        refine hw.mono ?_
        rintro _ w6 ⟨rfl, hk6⟩
        have HF6 : Hid (Below w.heap.size w w6) := (HF.out.trans hk6 (fun _ f _ => f)).below _ (Nat.le_refl _) (fun _ f => f.elim)
        clear hk6 hw
        go_wp2_with fail
        go_ret
        exact ⟨rfl, HF6.out⟩
end Go.Proofs.Ytlajblbfelcalaa
