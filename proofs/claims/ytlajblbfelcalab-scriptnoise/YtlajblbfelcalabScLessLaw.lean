import Derived.Test.YtlajblbfelcalabScNFLaw
import Derived.Test.YtlajblbfelcalabScCut
/-! ScriptLess. -/
namespace Go.Proofs.Ytlajblbfelcalab
set_option linter.unusedVariables false
set_option maxRecDepth 20000
open Go.RowKit Go.HeapKit Go.Sc

def drwL (seed : Int) (W : Nat) (D : Int) (n : Nat) : List Int := (List.range n).map (drawK seed W D)
theorem drwL_take (seed : Int) (W : Nat) (D : Int) {n k : Nat} (h : k ≤ n) : (drwL seed W D n).take k = drwL seed W D k := by
  unfold drwL
  rw [← List.map_take, List.take_range, Nat.min_eq_left h]
theorem noiL_take (seed : Int) (W : Nat) (D : Int) {n k : Nat} (h : k ≤ n) : (noiL seed W D n).take k = noiL seed W D k := by
  unfold noiL
  rw [← List.map_take, List.take_range, Nat.min_eq_left h]
theorem cutN_nat {k n : Nat} (h : k ≤ n) : cutN (k : Int) n = k := by unfold cutN; omega
set_option maxHeartbeats 3200000 in
theorem scriptLess_walk (seed x y z u : Int) (w : World) (hs : okI seed) (hx : okI x) (hy : okI y) (hz : okI z) (hu : okI u) :
    Calls Try.prog 3 #[.int .i64 seed, .int .i64 x, .int .i64 y, .int .i64 z, .int .i64 u] w fun e w' => e = .returned (.bool true) ∧ Below w.heap.size w w' := by
  have HX : Hid (okI seed ∧ okI x ∧ okI y ∧ okI z ∧ okI u) := ⟨hs, hx, hy, hz, hu⟩
  clear hs hx hy hz hu
  have hM1 := modN_lt x (n := 64) (by omega)
  have hM2 := modN_lt y (n := 200) (by omega)
  have hn := modN_lt z (n := 1500) (by omega)
  have HM : Hid ((∀ wz, Calls Try.prog 8 #[.int .i64 x, .int .i64 64] wz fun e w' => e = .returned (.int .i64 (modN x 64 : Nat)) ∧ w' = wz) ∧ (∀ wz, Calls Try.prog 8 #[.int .i64 y, .int .i64 200] wz fun e w' => e = .returned (.int .i64 (modN y 200 : Nat)) ∧ w' = wz) ∧ ∀ wz, Calls Try.prog 8 #[.int .i64 z, .int .i64 1500] wz fun e w' => e = .returned (.int .i64 (modN z 1500 : Nat)) ∧ w' = wz) :=
    ⟨fun wz => lmod_any x 64 wz HX.out.2.1 (by omega) (by omega), fun wz => lmod_any y 200 wz HX.out.2.2.1 (by omega) (by omega), fun wz => lmod_any z 1500 wz HX.out.2.2.2.1 (by omega) (by omega)⟩
  generalize modN x 64 = M1 at *
  generalize modN y 200 = M2 at *
  generalize modN z 1500 = n at *
  have hk := modN_lt u (n := n + 1) (by omega)
  have HMK : Hid (∀ wz, Calls Try.prog 8 #[.int .i64 u, .int .i64 ((n + 1 : Nat) : Int)] wz fun e w' => e = .returned (.int .i64 (modN u (n + 1) : Nat)) ∧ w' = wz) := fun wz => lmod_any u (n + 1) wz HX.out.2.2.2.2 (by omega) (by omega)
  generalize modN u (n + 1) = k at *
  have e0 : ((n + 1 : Nat) : Int) = (n : Int) + 1 := by omega
  rw [e0] at HMK
  clear e0
  obtain ⟨W, hW⟩ : ∃ W, W = 1 + M1 := ⟨_, rfl⟩
  have e1 : 1 + (M1 : Int) = (W : Int) := by omega
  obtain ⟨V, hV⟩ : ∃ V, V = W + M2 := ⟨_, rfl⟩
  have e2 : (W : Int) + (M2 : Int) = (V : Int) := by omega
  have b1 : 1 ≤ W := by omega
  have b2 : W ≤ 64 := by omega
  have b3 : W ≤ V := by omega
  have b4 : V ≤ 300 := by omega
  clear hW hV
  have HW0 : Hid (((V : Int) - (W : Int)) + W = V ∧ 0 ≤ (V : Int) - (W : Int)) := ⟨by omega, by omega⟩
  go_enter Try.func3, Try.ntmps3
  go_wp2_with fail
  refine (HM.out.1 _).mono ?_
  rintro _ wz ⟨rfl, hw⟩
  have hw2 := hw.symm
  subst hw2
  clear hw
  go_wp2_with fail
  refine (HM.out.2.1 _).mono ?_
  rintro _ wz ⟨rfl, hw⟩
  have hw2 := hw.symm
  subst hw2
  clear hw
  go_wp2_with fail
  refine (HM.out.2.2 _).mono ?_
  rintro _ wz ⟨rfl, hw⟩
  have hw2 := hw.symm
  subst hw2
  clear hw
  go_wp2_with fail
  refine (HMK.out _).mono ?_
  rintro _ wz ⟨rfl, hw⟩
  have hw2 := hw.symm
  subst hw2
  clear hw
  go_wp2_with fail
  refine (noise_good seed V W n _ HX.out.1 b1 b2 (by omega) (by omega) (by omega)).mono ?_
  rintro _ w1 ⟨gp, gd, rfl, hP, hG, hne, l1, l2, hk1⟩
  obtain ⟨D, hD⟩ : ∃ D, D = (V : Int) - (W : Int) := ⟨_, rfl⟩
  have HD : Hid (D = (V : Int) - (W : Int)) := hD
  rw [← hD] at hP hG HW0
  have H1 : Hid (IsN w1 gp n (fun i => (pickK seed W D i : Int)) ∧ IsN w1 gd n (drawK seed W D) ∧ Keeps None w w1) := ⟨hP, hG, hk1⟩
  clear hP hG hk1 hD hne l1 l2
  go_upto_region 6 with fail
  obtain ⟨p1, hp⟩ : ∃ p, p = w1.heap.size := ⟨_, rfl⟩
  have hb := blk_new w1 (.cells #[.slice (some ⟨gp, 0, none⟩) n n, .slice (some ⟨gd, 0, none⟩) n n] 25) _ rfl
  have hkb := keeps1 w1 (.cells #[.slice (some ⟨gp, 0, none⟩) n n, .slice (some ⟨gd, 0, none⟩) n n] 25)
  rw [← hp] at hb ⊢
  generalize w1.alloc (.cells #[.slice (some ⟨gp, 0, none⟩) n n, .slice (some ⟨gd, 0, none⟩) n n] 25) = wb at *
  have H2 : Hid (wb.heap[p1]? = some (.cells #[.slice (some ⟨gp, 0, none⟩) n n, .slice (some ⟨gd, 0, none⟩) n n] 25 (0, 0)) ∧ IsN wb gp n (fun i => (pickK seed W D i : Int)) ∧ IsN wb gd n (drawK seed W D) ∧ Keeps None w wb) :=
    ⟨hb, H1.out.1.more hkb, H1.out.2.1.more hkb, H1.out.2.2.trans hkb (fun _ f _ => f)⟩
  clear hp hb hkb H1
  go_wp2_with fail
  refine (noise_good seed V W k _ HX.out.1 b1 b2 (by omega) (by omega) (by omega)).mono ?_
  rintro _ w2 ⟨tp, td, rfl, hP, hG, hne, l1, l2, hk1⟩
  rw [← HD.out] at hP hG
  have H3 : Hid (IsN w2 tp k (fun i => (pickK seed W D i : Int)) ∧ IsN w2 td k (drawK seed W D) ∧ Keeps None wb w2) := ⟨hP, hG, hk1⟩
  clear hP hG hk1 hne l1 l2
  go_upto_region 7 with fail
  obtain ⟨p2, hp⟩ : ∃ p, p = w2.heap.size := ⟨_, rfl⟩
  have hb := blk_new w2 (.cells #[.slice (some ⟨tp, 0, none⟩) k k, .slice (some ⟨td, 0, none⟩) k k] 25) _ rfl
  have hkb := keeps1 w2 (.cells #[.slice (some ⟨tp, 0, none⟩) k k, .slice (some ⟨td, 0, none⟩) k k] 25)
  rw [← hp] at hb ⊢
  generalize w2.alloc (.cells #[.slice (some ⟨tp, 0, none⟩) k k, .slice (some ⟨td, 0, none⟩) k k] 25) = wd at *
  have H4 : Hid (wd.heap[p1]? = some (.cells #[.slice (some ⟨gp, 0, none⟩) n n, .slice (some ⟨gd, 0, none⟩) n n] 25 (0, 0)) ∧ wd.heap[p2]? = some (.cells #[.slice (some ⟨tp, 0, none⟩) k k, .slice (some ⟨td, 0, none⟩) k k] 25 (0, 0)) ∧ SeenN wd (some ⟨gp, 0, none⟩) n (noiL seed W D n) ∧ SeenN wd (some ⟨gd, 0, none⟩) n (drwL seed W D n) ∧ SeenN wd (some ⟨tp, 0, none⟩) k (noiL seed W D k) ∧ SeenN wd (some ⟨td, 0, none⟩) k (drwL seed W D k) ∧ Keeps None w wd) := by
    have hkk : Keeps None wb wd := H3.out.2.2.trans hkb (fun _ f _ => f)
    exact ⟨blk_kept H2.out.1 hkk (fun f => f), hb, (H2.out.2.1.more hkk).seen, (H2.out.2.2.1.more hkk).seen, (H3.out.1.more hkb).seen, (H3.out.2.1.more hkb).seen, H2.out.2.2.2.trans hkk (fun _ f _ => f)⟩
  clear hp hb hkb H3 H2
  have c0 := (blk_cell H4.out.1 0).trans rfl
  have c1 := (blk_cell H4.out.1 1).trans rfl
  have HC : Hid (cutN (k : Int) n = k ∧ (noiL seed W D n).take k = noiL seed W D k) := ⟨cutN_nat (by omega), noiL_take seed W D (by omega)⟩
  go_wp2_with fail
  refine (cut_any (some ⟨gp, 0, none⟩) (some ⟨gd, 0, none⟩) n n n n k (noiL seed W D n) (drwL seed W D n) _ H4.out.2.2.1 H4.out.2.2.2.1 (Nat.le_refl _) (by omega) (by omega)).mono ?_
  rintro _ w3 ⟨v0, v1, rfl, hT, hk3⟩
  rw [HC.out.1, HC.out.2] at hT
  obtain ⟨xa, xc, rfl⟩ := row_shape hT.r0
  obtain ⟨ya, yc, rfl⟩ := row_shape hT.r1
  have H5 : Hid (w3.heap[p1]? = some (.cells #[.slice (some ⟨gp, 0, none⟩) n n, .slice (some ⟨gd, 0, none⟩) n n] 25 (0, 0)) ∧ w3.heap[p2]? = some (.cells #[.slice (some ⟨tp, 0, none⟩) k k, .slice (some ⟨td, 0, none⟩) k k] 25 (0, 0)) ∧ SeenN w3 xa k (noiL seed W D k) ∧ SeenN w3 ya n (drwL seed W D n) ∧ SeenN w3 (some ⟨gd, 0, none⟩) n (drwL seed W D n) ∧ SeenN w3 (some ⟨tp, 0, none⟩) k (noiL seed W D k) ∧ SeenN w3 (some ⟨td, 0, none⟩) k (drwL seed W D k) ∧ Keeps None w w3) :=
    ⟨blk_kept H4.out.1 hk3 (fun f => f), blk_kept H4.out.2.1 hk3 (fun f => f), row_seen hT.r0, row_seen hT.r1, H4.out.2.2.2.1.more hk3, H4.out.2.2.2.2.1.more hk3, H4.out.2.2.2.2.2.1.more hk3, H4.out.2.2.2.2.2.2.trans hk3 (fun _ f _ => f)⟩
  clear hT hk3 c0 c1 H4 HC
  go_upto_region 8 with fail
  obtain ⟨p3, hp⟩ : ∃ p, p = w3.heap.size := ⟨_, rfl⟩
  have hb := blk_new w3 (.cells #[.slice xa k xc, .slice ya n yc] 25) _ rfl
  have hkb := keeps1 w3 (.cells #[.slice xa k xc, .slice ya n yc] 25)
  rw [← hp] at hb ⊢
  generalize w3.alloc (.cells #[.slice xa k xc, .slice ya n yc] 25) = we at *
  have HG : Hid (we.heap[p1]? = some (.cells #[.slice (some ⟨gp, 0, none⟩) n n, .slice (some ⟨gd, 0, none⟩) n n] 25 (0, 0)) ∧ we.heap[p2]? = some (.cells #[.slice (some ⟨tp, 0, none⟩) k k, .slice (some ⟨td, 0, none⟩) k k] 25 (0, 0)) ∧ SeenN we xa k (noiL seed W D k) ∧ SeenN we ya n (drwL seed W D n) ∧ SeenN we (some ⟨gd, 0, none⟩) n (drwL seed W D n) ∧ SeenN we (some ⟨tp, 0, none⟩) k (noiL seed W D k) ∧ SeenN we (some ⟨td, 0, none⟩) k (drwL seed W D k) ∧ Keeps None w we ∧ we.heap[p3]? = some (.cells #[.slice xa k xc, .slice ya n yc] 25 (0, 0))) :=
    ⟨blk_kept H5.out.1 hkb (fun f => f), blk_kept H5.out.2.1 hkb (fun f => f), H5.out.2.2.1.more hkb, H5.out.2.2.2.1.more hkb, H5.out.2.2.2.2.1.more hkb, H5.out.2.2.2.2.2.1.more hkb, H5.out.2.2.2.2.2.2.1.more hkb, H5.out.2.2.2.2.2.2.2.trans hkb (fun _ f _ => f), hb⟩
  clear hp hb hkb H5
  have a1 : we.cell? ⟨p1, 1, none⟩ = some (.slice (some ⟨gd, 0, none⟩) n n) := (blk_cell HG.out.1 1).trans rfl
  have a2 : we.cell? ⟨p2, 0, none⟩ = some (.slice (some ⟨tp, 0, none⟩) k k) := (blk_cell HG.out.2.1 0).trans rfl
  have a3 : we.cell? ⟨p2, 1, none⟩ = some (.slice (some ⟨td, 0, none⟩) k k) := (blk_cell HG.out.2.1 1).trans rfl
  have a4 : we.cell? ⟨p3, 0, none⟩ = some (.slice xa k xc) := (blk_cell HG.out.2.2.2.2.2.2.2.2 0).trans rfl
  have a5 : we.cell? ⟨p3, 1, none⟩ = some (.slice ya n yc) := (blk_cell HG.out.2.2.2.2.2.2.2.2 1).trans rfl
  have q1 : ((n : Int) != (n : Int)) = false := by simp
  have q2 : ((k : Int) != (k : Int)) = false := by simp
  have hkn : k ≤ n := by omega
  have q3 : (k : Int) ≤ (n : Int) := by omega
  have hA : Hid (∀ wx, Keeps None we wx → Calls Try.prog 11 #[.slice xa k xc, .slice (some ⟨tp, 0, none⟩) k k] wx fun e w' => e = .returned (.bool true) ∧ ∃ d, w' = wx.drewN d) := fun wx hx => same_any _ _ k xc k _ wx (HG.out.2.2.1.more hx) (HG.out.2.2.2.2.2.1.more hx) (by omega)
  have hB : Hid (∀ wx, Keeps None we wx → Calls Try.prog 11 #[.slice ya n yc, .slice (some ⟨gd, 0, none⟩) n n] wx fun e w' => e = .returned (.bool true) ∧ ∃ d, w' = wx.drewN d) := fun wx hx => same_any _ _ n yc n _ wx (HG.out.2.2.2.1.more hx) (HG.out.2.2.2.2.1.more hx) (by omega)
  have hC : Hid (∀ wx, Keeps None we wx → Calls Try.prog 11 #[.slice (some ⟨td, 0, none⟩) k k, .slice (some ⟨gd, 0, none⟩) k n] wx fun e w' => e = .returned (.bool true) ∧ ∃ d, w' = wx.drewN d) := fun wx hx => same_any _ _ k k n _ wx (HG.out.2.2.2.2.2.2.1.more hx) (by have := (HG.out.2.2.2.2.1.more hx).take (m := k) hkn; rwa [drwL_take seed W D hkn] at this) (by omega)
  have hD : Hid (∀ wx, Keeps None we wx → Calls Try.prog 12 #[.slice xa k xc, .int .i64 W, .int .i64 V] wx fun e w' => e = .returned (.bool true) ∧ Keeps None wx w') := fun wx hx => by
    have := fair_any xa k xc W V (noiL seed W D k) wx (HG.out.2.2.1.more hx) b1 b2 (by omega)
    rwa [noiL_fair seed D k (by omega) HW0.out.2 V HW0.out.1] at this
  go_upto_region 10 with fail
  go_region_held3 (fun w' => w'.cell? ⟨p1, 1, none⟩ = some (.slice (some ⟨gd, 0, none⟩) n n) ∧ w'.cell? ⟨p2, 0, none⟩ = some (.slice (some ⟨tp, 0, none⟩) k k) ∧ w'.cell? ⟨p2, 1, none⟩ = some (.slice (some ⟨td, 0, none⟩) k k) ∧ w'.cell? ⟨p3, 0, none⟩ = some (.slice xa k xc) ∧ w'.cell? ⟨p3, 1, none⟩ = some (.slice ya n yc)) (first | go_keep | with_reducible exact hS8) (first
    | (go_at_call_of 11 (Value.slice xa k xc); refine (hA.out _ (by first | with_reducible exact Keeps.drew None _ | with_reducible exact Keeps.drewN None _ _)).mono ?_; rintro _ w7 ⟨rfl, d1, rfl⟩)
    | (go_at_call_of 11 (Value.slice ya n yc); refine (hB.out _ (by first | with_reducible exact Keeps.drew None _ | with_reducible exact Keeps.drewN None _ _)).mono ?_; rintro _ w7 ⟨rfl, d2, rfl⟩)
    | (go_at_call_of 11 (Value.slice (some ⟨td, 0, none⟩) k k); refine (hC.out _ (by first | with_reducible exact Keeps.drew None _ | with_reducible exact Keeps.drewN None _ _)).mono ?_; rintro _ w7 ⟨rfl, d3, rfl⟩)
    | (go_at_call 12; refine (hD.out _ (by first | with_reducible exact Keeps.drew None _ | with_reducible exact Keeps.drewN None _ _)).mono ?_; rintro _ w8 ⟨rfl, hk8⟩; have hk9 : Keeps None we w8 := Keeps.trans (Keeps.drewN None we _) hk8 (fun _ f _ => f); have hS8 := And.intro (hk9.cell a1 (fun f => f)) (And.intro (hk9.cell a2 (fun f => f)) (And.intro (hk9.cell a3 (fun f => f)) (And.intro (hk9.cell a4 (fun f => f)) (hk9.cell a5 (fun f => f)))))))
  have HF : Hid (Below w.heap.size w w8) := (HG.out.2.2.2.2.2.2.2.1.trans hk9 (fun _ f _ => f)).below _ (Nat.le_refl _) (fun _ f => f.elim)
  clear hk8 hk9
  go_wp2_with fail
  go_ret
  exact ⟨rfl, HF.out⟩
end Go.Proofs.Ytlajblbfelcalab
