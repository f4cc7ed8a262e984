import Derived.Test.YtlajblbfelcalaaScLaw
/-! Turns: the program's and the document's. -/
namespace Go.Proofs.Ytlajblbfelcalaa
set_option linter.unusedVariables false
set_option maxRecDepth 20000
open Go.RowKit Go.HeapKit

def trnE (x r : Int) : Int := if !goodB x || decide (r < 0) then 3 else if 1048576 / x < r then 2 else 0
def trnV (x r : Int) : List Int := if trnE x r = 0 then (List.range (x.toNat * r.toNat)).map (fun i => ((i % x.toNat : Nat) : Int)) else []
theorem trn_len (x r : Int) : (trnV x r).length ≤ 1048576 := by
  unfold trnV
  split
  · rename_i h
    unfold trnE at h
    split at h
    · simp at h
    · rename_i h1
      split at h
      · simp at h
      · rename_i h2
        simp at h1
        obtain ⟨W, rfl, hW1, hW2⟩ := goodB_of h1.1
        obtain ⟨R, rfl⟩ := Int.eq_ofNat_of_zero_le h1.2
        simp only [List.length_map, List.length_range, Int.toNat_natCast]
        have h3 : (R : Int) ≤ 1048576 / (W : Int) := by omega
        have h4 : ((1048576 / W : Nat) : Int) = 1048576 / (W : Int) := by simp
        have h5 : R ≤ 1048576 / W := by omega
        have := (Nat.le_div_iff_mul_le (by omega : 0 < W)).1 h5
        rw [Nat.mul_comm]
        exact this
  · simp
theorem trn_cases (x r : Int) : (goodB x = false ∧ trnE x r = 3 ∧ trnV x r = []) ∨ (goodB x = true ∧ r < 0 ∧ trnE x r = 3 ∧ trnV x r = []) ∨
    ∃ W R : Nat, x = W ∧ r = R ∧ 1 ≤ W ∧ W ≤ 64 ∧ goodB x = true ∧ ((1048576 / W < R ∧ trnE x r = 2 ∧ trnV x r = []) ∨ (R ≤ 1048576 / W ∧ W * R ≤ 1048576 ∧ trnE x r = 0 ∧ trnV x r = (List.range (W * R)).map (fun i => ((i % W : Nat) : Int)))) := by
  by_cases hg : goodB x = true
  · by_cases hr : r < 0
    · have : trnE x r = 3 := by simp [trnE, hr]
      exact .inr (.inl ⟨hg, hr, this, by simp [trnV, this]⟩)
    · obtain ⟨W, rfl, hW1, hW2⟩ := goodB_of hg
      obtain ⟨R, rfl⟩ := Int.eq_ofNat_of_zero_le (Int.not_lt.1 hr)
      have h4 : ((1048576 / W : Nat) : Int) = 1048576 / (W : Int) := by simp
      refine .inr (.inr ⟨W, R, rfl, rfl, hW1, hW2, hg, ?_⟩)
      by_cases c : 1048576 / W < R
      · have : trnE W R = 2 := by
          unfold trnE
          rw [if_neg (by simp [hg]), if_pos (by omega)]
        exact .inl ⟨c, this, by simp [trnV, this]⟩
      · have : trnE W R = 0 := by
          unfold trnE
          rw [if_neg (by simp [hg]), if_neg (by omega)]
        refine .inr ⟨by omega, ?_, this, by simp [trnV, this]⟩
        have := (Nat.le_div_iff_mul_le (by omega : 0 < W)).1 (show R ≤ 1048576 / W by omega)
        rw [Nat.mul_comm]
        exact this
  · have hf : goodB x = false := by simpa using hg
    have : trnE x r = 3 := by simp [trnE, hf]
    exact .inl ⟨hf, this, by simp [trnV, this]⟩
theorem trn_fill (k W : Nat) (j : Nat) : upd (fun i => if i < k then ((i % W : Nat) : Int) else 0) k ((k % W : Nat) : Int) j = if j < k + 1 then ((j % W : Nat) : Int) else 0 := by
  unfold upd
  by_cases e : j = k
  · subst e; simp
  · rw [if_neg e]
    by_cases e2 : j < k
    · simp only; rw [if_pos e2, if_pos (by omega)]
    · simp only; rw [if_neg e2, if_neg (by omega)]
set_option maxHeartbeats 1600000 in
theorem turns_any (x r : Int) (w : World) (hx : okI x) (hr : okI r) :
    Calls Try.prog 12 #[.int .i64 x, .int .i64 r] w fun e w' => ∃ v, e = .returned (.tuple #[v, .int .i64 (trnE x r)]) ∧ w'.ownsRow w.heap.size 3 1 v (trnV x r).length (iv (trnV x r)) ∧ Keeps None w w' := by
  unfold okI at hx hr
  rcases trn_cases x r with ⟨hg, e1, e2⟩ | ⟨hg, h0, e1, e2⟩ | ⟨W, R, rfl, rfl, hW1, hW2, hg, ⟨hc, e1, e2⟩ | ⟨hc, hc2, e1, e2⟩⟩
  · rw [e1, e2]
    clear e1 e2
    go_enter Try.func12, Try.ntmps12
    go_wp2_with (go_at_call 29; refine (good_any _ _).mono ?_; rintro _ wz ⟨rfl, hw⟩; have hw2 := hw.symm; subst hw2; clear hw; rw [hg])
    go_ret2
    exact ⟨_, rfl, row_nil _ _ _ _, Keeps.refl _ _⟩
  · rw [e1, e2]
    clear e1 e2
    go_enter Try.func12, Try.ntmps12
    go_wp2_with (go_at_call 29; refine (good_any _ _).mono ?_; rintro _ wz ⟨rfl, hw⟩; have hw2 := hw.symm; subst hw2; clear hw; rw [hg])
    go_ret2
    exact ⟨_, rfl, row_nil _ _ _ _, Keeps.refl _ _⟩
  · rw [e1, e2]
    clear e1 e2
    have i0 : ¬ (R : Int) < 0 := by omega
    have i1 : ¬ (W : Int) = 0 := by omega
    have i2 : (1048576 : Int) / (W : Int) < (R : Int) := by
      have : ((1048576 / W : Nat) : Int) = 1048576 / (W : Int) := by simp
      omega
    go_enter Try.func12, Try.ntmps12
    go_wp2_with (go_at_call 29; refine (good_any _ _).mono ?_; rintro _ wz ⟨rfl, hw⟩; have hw2 := hw.symm; subst hw2; clear hw; rw [hg])
    go_ret2
    exact ⟨_, rfl, row_nil _ _ _ _, Keeps.refl _ _⟩
  · have HE : Hid (trnV (W : Int) (R : Int) = (List.range (W * R)).map (fun i => ((i % W : Nat) : Int)) ∧ trnE W R = 0) := ⟨e2, e1⟩
    rw [e1]
    clear e1 e2
    have i0 : ¬ (R : Int) < 0 := by omega
    have i1 : ¬ (W : Int) = 0 := by omega
    have i2 : ¬ (1048576 : Int) / (W : Int) < (R : Int) := by
      have : ((1048576 / W : Nat) : Int) = 1048576 / (W : Int) := by simp
      omega
    obtain ⟨M, hM⟩ : ∃ M, M = W * R := ⟨_, rfl⟩
    rw [← hM] at hc2 HE
    have i3 : (W : Int) * (R : Int) = (M : Int) := by rw [hM]; simp
    have hmk := fun wz : World => make_ints M wz (by omega)
    clear hM
    go_enter Try.func12, Try.ntmps12
    go_wp2_with (first | (go_at_call 29; refine (good_any _ _).mono ?_; rintro _ wz ⟨rfl, hw⟩; have hw2 := hw.symm; subst hw2; clear hw; rw [hg]) | (at_make; refine wpList_make_run rfl (.tmp 23) (.tmp 23) 25 rfl rfl rfl (hmk _) ?_))
    obtain ⟨s0, hs0⟩ : ∃ s0, s0 = w.heap.size := ⟨_, rfl⟩
    have HS0 : Hid (s0 = w.heap.size) := hs0
    rw [← hs0]
    clear hs0 hmk
    go_loopw [27, 7] (fun s27 _ wr => ∃ k : Nat, s27 = .int .i64 k ∧ k ≤ M ∧ IsN wr s0 M (fun i => if i < k then ((i % W : Nat) : Int) else 0) ∧ Keeps None w wr) (fun s27 _ _ => M - (intOf s27).toNat)
    case atStart => exact ⟨0, rfl, Nat.zero_le _, isN_new _ _ _ HS0.out.symm, keeps1 _ _⟩
    case round =>
      obtain ⟨k, rfl, hk, hN, hkp⟩ := hrel
      by_cases hkn : k < M
      · have c1 := hN.at hkn
        have f1 := hN.free k
        have j1 : (k : Int) < (M : Int) := by omega
        have j2 : (k : Int) % (W : Int) = ((k % W : Nat) : Int) := by simp
        have HN : Hid (IsN (wr.setCell ⟨s0, k, none⟩ (.int .i64 ((k % W : Nat) : Int))) s0 M (fun i => if i < k + 1 then ((i % W : Nat) : Int) else 0) ∧ Keeps None w (wr.setCell ⟨s0, k, none⟩ (.int .i64 ((k % W : Nat) : Int)))) :=
          ⟨(hN.set k _).congr (fun j _ => trn_fill k W j), hkp.andSet (x := ⟨s0, k, none⟩) (.inr (by have := HS0.out; simp only; omega)) _⟩
        obtain ⟨q, hq⟩ : ∃ q, q = k % W := ⟨_, rfl⟩
        rw [← hq] at j2 HN
        clear hN hkp hq
        generalize (if k < k then ((k % W : Nat) : Int) else 0) = y0 at c1
        go_wp2_with fail
        exact ⟨⟨k + 1, by go_num, by omega, HN.out⟩, by simp [intOf]; omega⟩
      · have j1 : ¬ (k : Int) < (M : Int) := by omega
        obtain rfl : k = M := by omega
        have HN : Hid (wr.ownsRow w.heap.size 3 1 (.slice (some ⟨s0, 0, none⟩) k k) (trnV (W : Int) (R : Int)).length (iv (trnV (W : Int) (R : Int))) ∧ Keeps None w wr) := by
          refine ⟨?_, hkp⟩
          have := (hN.congr (G := fun i => ((i % W : Nat) : Int)) (fun j hj => by rw [if_pos hj])).row w.heap.size (by have := HS0.out; omega) (by omega)
          rw [HE.out.1]
          simpa using this
        clear hN hkp
        go_wp2_with fail
        go_ret2
        exact ⟨_, rfl, HN.out⟩
set_option maxHeartbeats 1600000 in
theorem rturns_any (x r : Int) (w : World) (hx : okI x) (hr : okI r) :
    Calls Try.prog 13 #[.int .i64 x, .int .i64 r] w fun e w' => ∃ v, e = .returned (.tuple #[v, .int .i64 (trnE x r)]) ∧ w'.ownsRow w.heap.size 3 1 v (trnV x r).length (iv (trnV x r)) ∧ Keeps None w w' := by
  unfold okI at hx hr
  rcases trn_cases x r with ⟨hg, e1, e2⟩ | ⟨hg, h0, e1, e2⟩ | ⟨W, R, rfl, rfl, hW1, hW2, hg, ⟨hc, e1, e2⟩ | ⟨hc, hc2, e1, e2⟩⟩
  · rw [e1, e2]
    clear e1 e2
    go_enter Try.func13, Try.ntmps13
    go_wp2_with (go_at_call 30; refine (rgood_any _ _).mono ?_; rintro _ wz ⟨rfl, hw⟩; have hw2 := hw.symm; subst hw2; clear hw; rw [hg])
    go_ret2
    exact ⟨_, rfl, row_nil _ _ _ _, Keeps.refl _ _⟩
  · rw [e1, e2]
    clear e1 e2
    go_enter Try.func13, Try.ntmps13
    go_wp2_with (go_at_call 30; refine (rgood_any _ _).mono ?_; rintro _ wz ⟨rfl, hw⟩; have hw2 := hw.symm; subst hw2; clear hw; rw [hg])
    go_ret2
    exact ⟨_, rfl, row_nil _ _ _ _, Keeps.refl _ _⟩
  · rw [e1, e2]
    clear e1 e2
    have i0 : ¬ (R : Int) < 0 := by omega
    have i1 : ¬ (W : Int) = 0 := by omega
    have i2 : (1048576 : Int) / (W : Int) < (R : Int) := by
      have : ((1048576 / W : Nat) : Int) = 1048576 / (W : Int) := by simp
      omega
    go_enter Try.func13, Try.ntmps13
    go_wp2_with (go_at_call 30; refine (rgood_any _ _).mono ?_; rintro _ wz ⟨rfl, hw⟩; have hw2 := hw.symm; subst hw2; clear hw; rw [hg])
    go_ret2
    exact ⟨_, rfl, row_nil _ _ _ _, Keeps.refl _ _⟩
  · have HE : Hid (trnV (W : Int) (R : Int) = (List.range (W * R)).map (fun i => ((i % W : Nat) : Int)) ∧ trnE W R = 0) := ⟨e2, e1⟩
    rw [e1]
    clear e1 e2
    have i0 : ¬ (R : Int) < 0 := by omega
    have i1 : ¬ (W : Int) = 0 := by omega
    have i2 : ¬ (1048576 : Int) / (W : Int) < (R : Int) := by
      have : ((1048576 / W : Nat) : Int) = 1048576 / (W : Int) := by simp
      omega
    obtain ⟨M, hM⟩ : ∃ M, M = W * R := ⟨_, rfl⟩
    rw [← hM] at hc2 HE
    have i3 : (W : Int) * (R : Int) = (M : Int) := by rw [hM]; simp
    clear hM
    go_enter Try.func13, Try.ntmps13
    go_wp2_with (first | (go_at_call 30; refine (rgood_any _ _).mono ?_; rintro _ wz ⟨rfl, hw⟩; have hw2 := hw.symm; subst hw2; clear hw; rw [hg]))
    go_loopw [7, 6] (fun s7 s6 wr => ∃ k : Nat, s7 = .int .i64 k ∧ k ≤ M ∧ wr.ownsRow w.heap.size 3 1 s6 k (iv ((List.range k).map (fun i => ((i % W : Nat) : Int)))) ∧ Keeps None w wr) (fun s7 _ _ => M - (intOf s7).toNat)
    case atStart => exact ⟨0, rfl, Nat.zero_le _, row_nil _ _ _ _, Keeps.refl _ _⟩
    case round =>
      obtain ⟨k, rfl, hk, hrow, hkp⟩ := hrel
      obtain ⟨sa, sc, rfl⟩ := row_shape hrow
      by_cases hkn : k < M
      · have j1 : (k : Int) < (M : Int) := by omega
        have j2 : (k : Int) % (W : Int) = ((k % W : Nat) : Int) := by simp
        obtain ⟨q, hq⟩ : ∃ q, q = k % W := ⟨_, rfl⟩
        obtain ⟨g, cp, w2, hr, ho, hk2, hm⟩ := int_more w.heap.size (.slice sa k sc) ((List.range k).map (fun i => ((i % W : Nat) : Int))) (q : Int) k 25 wr.heap.size (wr.alloc (.cells #[.int .i64 (q : Int)] 3)) (by simp) (row_more hrow (keeps1 _ _)) (by have := hkp.size; simp; omega) (by omega) (blk_new _ _ _ rfl)
        have HN : Hid (w2.ownsRow w.heap.size 3 1 (.slice (some ⟨g, 0, none⟩) (k + 1) cp) (k + 1) (iv ((List.range (k + 1)).map (fun i => ((i % W : Nat) : Int)))) ∧ Keeps None w w2) := by
          refine ⟨?_, (hkp.andAlloc _).trans hk2 (fun i e hi => by have := row_low hrow e; omega)⟩
          rw [List.range_succ, List.map_append, List.map_cons, List.map_nil, ← hq]
          exact ho
        rw [← hq] at j2
        clear hrow hkp hq ho hk2 hm
        go_wp2_with (at_builtin; refine wpList_append_run rfl (.tmp 26) (.tmp 30) 25 25 rfl rfl rfl hr ?_)
        exact ⟨⟨k + 1, by go_num, by omega, HN.out⟩, by simp [intOf]; omega⟩
      · have j1 : ¬ (k : Int) < (M : Int) := by omega
        obtain rfl : k = M := by omega
        have HN : Hid (wr.ownsRow w.heap.size 3 1 (.slice sa k sc) (trnV (W : Int) (R : Int)).length (iv (trnV (W : Int) (R : Int))) ∧ Keeps None w wr) := by
          refine ⟨?_, hkp⟩
          rw [HE.out.1]
          simpa using hrow
        clear hrow hkp
        go_wp2_with fail
        go_ret2
        exact ⟨_, rfl, HN.out⟩
end Go.Proofs.Ytlajblbfelcalaa
