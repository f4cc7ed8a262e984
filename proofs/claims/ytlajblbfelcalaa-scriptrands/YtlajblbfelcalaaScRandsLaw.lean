import Derived.Test.YtlajblbfelcalaaScPull
/-! ScriptRands. -/
namespace Go.Proofs.Ytlajblbfelcalaa
set_option linter.unusedVariables false
set_option maxRecDepth 20000
open Go.RowKit Go.HeapKit Go.Sc

set_option maxHeartbeats 3200000 in
theorem scriptRands_walk (x : Int) (w : World) (hx : okI x) :
    Calls Try.prog 3 #[.int .i64 x] w fun e w' => e = .returned (.bool true) ∧ Below w.heap.size w w' := by
  by_cases hE : refE x = 0
  · obtain ⟨n, rfl, hn⟩ : ∃ n : Nat, x = n ∧ n ≤ 1048576 := by
      unfold refE at hE
      split at hE
      · cases hE
      · split at hE
        · cases hE
        · exact ⟨x.toNat, by omega, by omega⟩
    have HE : Hid (refE (n : Int) = 0) := hE
    clear hE
    go_enter Try.func3, Try.ntmps3
    go_wp2_with fail
    obtain ⟨q, hq⟩ : ∃ q, q = w.heap.size := ⟨_, rfl⟩
    have hb : IsC (w.alloc (.cells #[.int .i64 0] 24)) q 0 := blk_new w _ _ hq.symm
    have hkb := keeps1 w (.cells #[.int .i64 0] 24)
    rw [← hq]
    generalize w.alloc (.cells #[.int .i64 0] 24) = wb at *
    have H0 : Hid (IsC wb q 0 ∧ Keeps None w wb ∧ q = w.heap.size ∧ q < wb.heap.size) := ⟨hb, hkb, hq, blk_lt hb⟩
    clear hq hb hkb
    refine (pull_any (counter_kind q) n 0 _ hn (by omega) H0.out.1 (fun i e => by subst e; exact H0.out.2.2.2)).mono ?_
    rintro _ w1 ⟨g1, rfl, hN1, hC1, l1, hk1⟩
    have H1 : Hid (IsN w1 g1 n (fun i => 10 * (((0 + i : Nat) : Int) + 1)) ∧ IsC w1 q (0 + n) ∧ wb.heap.size ≤ g1 ∧ Keeps (· = q) wb w1) := ⟨hN1, hC1, l1, hk1⟩
    clear hN1 hC1 l1 hk1
    go_wp2_with fail
    refine (pull_any (counter_kind q) n (0 + n) _ hn (by omega) H1.out.2.1 (fun i e => by subst e; exact blk_lt H1.out.2.1)).mono ?_
    rintro _ w2 ⟨g2, rfl, hN2, hC2, l2, hk2⟩
    have H2 : Hid (IsN w2 g2 n (fun i => 10 * (((0 + n + i : Nat) : Int) + 1)) ∧ IsC w2 q (0 + n + n) ∧ w1.heap.size ≤ g2 ∧ Keeps (· = q) w1 w2) := ⟨hN2, hC2, l2, hk2⟩
    clear hN2 hC2 l2 hk2
    go_wp2_with fail
    refine (spoilt_any g2 _ n _ _ (H2.out.1.row g2 (Nat.le_refl _) (by omega)) (Nat.le_of_lt H2.out.1.lt) (by omega)).mono ?_
    rintro _ w3 ⟨g3, c3, rfl, _, hk3, _⟩
    have H3 : Hid (Keeps (· = g2) w2 w3) := hk3.mono (fun i e _ => by simp [Value.ownBlock] at e; omega)
    clear hk3
    go_wp2_with fail
    refine (pull_any nobody_kind n 0 _ hn (by omega) trivial (fun i e => e.elim)).mono ?_
    rintro _ w4 ⟨g4, rfl, hN4, _, l4, hk4⟩
    have H4 : Hid (IsN w4 g1 n (fun i => 10 * ((i : Int) + 1)) ∧ IsN w4 g4 n (fun _ => 0) ∧ IsC w4 q (2 * n) ∧ Below w.heap.size w w4) := by
      have z1 := H1.out.1.lt
      have z2 := H0.out
      have z3 := H1.out.2.2.1
      have z4 := H2.out.2.2.1
      have z5 := blk_lt H1.out.2.1
      have z6 := H1.out.2.2.2.size
      have hq2 : ¬ g1 = q := by omega
      refine ⟨((((H1.out.1.kept H2.out.2.2.2 (by omega)).kept H3.out (by omega)).more hk4).congr (fun i _ => by simp)), hN4, ?_, ?_⟩
      · have := blk_kept (blk_kept H2.out.2.1 H3.out (by omega)) hk4 (fun f => f)
        have e : 0 + n + n = 2 * n := by omega
        rw [e] at this
        exact this
      · have k1 : Keeps None w w1 := z2.2.1.trans H1.out.2.2.2 (fun i e hi => by omega)
        have k2 : Keeps None w w2 := k1.trans H2.out.2.2.2 (fun i e hi => by omega)
        have k0 := k1.size
        have k3 : Keeps None w w3 := k2.trans H3.out (fun i e hi => by omega)
        exact (k3.trans hk4 (fun _ f _ => f)).below _ (Nat.le_refl _) (fun _ f => f.elim)
    clear hN4 l4 hk4
    go_wp2_with fail
    refine (refusal_any _ _).mono ?_
    rintro _ wz ⟨rfl, hw⟩
    have hw2 := hw.symm
    subst hw2
    clear hw
    rw [HE.out]
    have d0 : w4.cell? ⟨q, 0, none⟩ = some (.int .i64 ((2 * n : Nat) : Int)) := (blk_cell H4.out.2.2.1 0).trans rfl
    have e0 : ((2 * n : Nat) : Int) = 2 * (n : Int) := by omega
    rw [e0] at d0
    clear e0
    go_wp2_with fail
    go_loop [11] (fun s11 => ∃ k : Nat, s11 = .int .i64 k ∧ k ≤ n) (fun s11 => n - (intOf s11).toNat)
    case atStart => exact ⟨0, rfl, Nat.zero_le _⟩
    case round =>
      obtain ⟨k, rfl, hk⟩ := hrel
      by_cases hkn : k < n
      · have i1 : (k : Int) < (n : Int) := by omega
        have n0 : ¬ n = 0 := by omega
        have d1 := H4.out.1.at hkn
        have d2 := H4.out.2.1.at hkn
        go_wp2_with fail
        exact ⟨⟨k + 1, by go_num, by omega⟩, by simp [intOf]; omega⟩
      · have i1 : ¬ (k : Int) < (n : Int) := by omega
        go_wp2_with fail
        go_ret
        exact ⟨rfl, H4.out.2.2.2⟩
  · have hb1 : (refE x != 0) = true := by simpa using hE
    have HE : Hid (refE x ≠ 0) := hE
    obtain ⟨E, hEe⟩ : ∃ E, E = refE x := ⟨_, rfl⟩
    have HEE : Hid (E = refE x) := hEe
    rw [← hEe] at hb1 hE
    have hb2 : (E != E) = false := by simp
    clear hEe
    go_enter Try.func3, Try.ntmps3
    go_wp2_with fail
    obtain ⟨q, hq⟩ : ∃ q, q = w.heap.size := ⟨_, rfl⟩
    have hb : IsC (w.alloc (.cells #[.int .i64 0] 24)) q 0 := blk_new w _ _ hq.symm
    have hkb := keeps1 w (.cells #[.int .i64 0] 24)
    rw [← hq]
    generalize w.alloc (.cells #[.int .i64 0] 24) = wb at *
    have H0 : Hid (IsC wb q 0 ∧ Keeps None w wb) := ⟨hb, hkb⟩
    clear hq hb hkb
    refine (pull_bad _ _ x _ HE.out).mono ?_
    rintro _ wz ⟨rfl, hw⟩
    have hw2 := hw.symm
    subst hw2
    clear hw
    rw [← HEE.out]
    go_wp2_with fail
    refine (pull_bad _ _ x _ HE.out).mono ?_
    rintro _ wz ⟨rfl, hw⟩
    have hw2 := hw.symm
    subst hw2
    clear hw
    rw [← HEE.out]
    go_wp2_with fail
    refine (spoilt_any 0 _ 0 [] _ (row_nil _ _ _ _) (Nat.zero_le _) (by omega)).mono ?_
    rintro _ w3 ⟨g3, c3, rfl, _, hk3, _⟩
    have H3 : Hid (IsC w3 q 0 ∧ Keeps None w w3) := by
      have hk : Keeps None wb w3 := hk3.mono (fun i e _ => by simp [Value.ownBlock] at e)
      exact ⟨blk_kept H0.out.1 hk (fun f => f), H0.out.2.trans hk (fun _ f _ => f)⟩
    clear hk3
    go_wp2_with fail
    refine (pull_bad _ _ x _ HE.out).mono ?_
    rintro _ wz ⟨rfl, hw⟩
    have hw2 := hw.symm
    subst hw2
    clear hw
    rw [← HEE.out]
    go_wp2_with fail
    refine (refusal_any _ _).mono ?_
    rintro _ wz ⟨rfl, hw⟩
    have hw2 := hw.symm
    subst hw2
    clear hw
    rw [← HEE.out]
    have d0 : w3.cell? ⟨q, 0, none⟩ = some (.int .i64 0) := (blk_cell H3.out.1 0).trans rfl
    go_wp2_with fail
    go_ret
    exact ⟨rfl, H3.out.2.below _ (Nat.le_refl _) (fun _ f => f.elim)⟩
end Go.Proofs.Ytlajblbfelcalaa
