import Derived.Test.YtnhoedodnbifdaaDgSched
import Derived.Test.YtnhoedodnbifdaaDgPath
import Derived.Test.YtnhoedodnbifdaaDgGreedyQ
/-! The document's count, greatest, ready over times that came in. -/
namespace Go.Proofs.Ytnhoedodnbifdaa
set_option linter.unusedVariables false
set_option maxRecDepth 20000
open Go.RowKit Go.HeapKit

theorem take_cnt {zs : List Int} {k : Nat} {x t : Int} (h : zs[k]? = some x) : (zs.take (k + 1)).count t = (zs.take k).count t + if x = t then 1 else 0 := by
  rw [List.take_add_one, h]
  simp [List.count_append, List.count_singleton]
set_option maxHeartbeats 1600000 in
theorem count_any (a : Option Addr) (n c : Nat) (t : Int) (zs : List Int) (w : World) (h : SeenZ w a n zs) (hn : n ≤ 4096) :
    Calls Try.prog 44 #[.slice a n c, .int .i64 t] w fun e w' => e = .returned (.int .i64 (zs.count t : Nat)) ∧ w' = w := by
  have HS : Hid (SeenZ w a n zs) := h
  have hl : Hid (n = zs.length) := h.len
  clear h
  go_enter Try.func44, Try.ntmps44
  go_wp2_with fail
  go_loopw [5, 6] (fun s5 s6 wr => ∃ (k q : Nat), s5 = .int .i64 q ∧ s6 = .int .i64 k ∧ k ≤ n ∧ q ≤ k ∧ q = (zs.take k).count t ∧ wr = w) (fun _ s6 _ => n - (intOf s6).toNat)
  case atStart => exact ⟨0, 0, rfl, rfl, Nat.zero_le _, Nat.le_refl _, by simp, rfl⟩
  case round =>
    obtain ⟨k, q, rfl, rfl, hk, hqk, hq, hwr⟩ := hrel
    subst hwr
    have HQ : Hid (q = (zs.take k).count t) := hq
    clear hq
    by_cases hlt : k < n
    · have k1 : (k : Int) < (n : Int) := by omega
      have n0 : ¬ n = 0 := by omega
      obtain ⟨b, off, y, rfl, hy, _, e0⟩ := HS.out.at hlt
      have HT : Hid ((zs.take (k + 1)).count t = (zs.take k).count t + if y = t then 1 else 0) := take_cnt hy
      clear hy HS
      by_cases hyt : y = t
      · have q1 : (y == t) = true := by simp [hyt]
        have HE : Hid (q + 1 = (zs.take (k + 1)).count t) := by rw [HT.out, if_pos hyt, ← HQ.out]; exact rfl
        clear hyt
        go_wp2_with fail
        exact ⟨⟨k + 1, q + 1, by go_num, by go_num, by omega, by omega, HE.out, trivial⟩, by simp [intOf]; omega⟩
      · have q1 : (y == t) = false := by simp [hyt]
        have HE : Hid (q = (zs.take (k + 1)).count t) := by rw [HT.out, if_neg hyt, ← HQ.out]; exact rfl
        clear hyt
        go_wp2_with fail
        exact ⟨⟨k + 1, q, rfl, by go_num, by omega, by omega, HE.out, trivial⟩, by simp [intOf]; omega⟩
    · have k1 : ¬ (k : Int) < (n : Int) := by omega
      have HE : Hid (q = zs.count t) := by
        have h1 := HQ.out
        rw [List.take_of_length_le (by have := hl.out; omega)] at h1
        exact h1
      go_wp2_with fail
      go_ret
      exact ⟨by rw [← HE.out]; rfl, rfl⟩
set_option maxHeartbeats 1600000 in
theorem grtZ_any (a : Option Addr) (n c : Nat) (l : List Int) (w : World) (h : SeenZ w a n l) (hn : n ≤ 4096) :
    Calls Try.prog 45 #[.slice a n c] w fun e w' => e = .returned (.int .i64 (grt l)) ∧ w' = w := by
  have HS : Hid (SeenZ w a n l) := h
  have hl : Hid (l.length = n) := h.len.symm
  clear h
  go_enter Try.func45, Try.ntmps45
  go_wp2_with fail
  go_loopw [3, 4] (fun s3 s4 wr => ∃ (k : Nat) (x : Int), s3 = .int .i64 x ∧ s4 = .int .i64 k ∧ k ≤ n ∧ x = grt (l.take k) ∧ wr = w) (fun _ s4 _ => n - (intOf s4).toNat)
  case atStart => exact ⟨0, 0, rfl, rfl, Nat.zero_le _, by simp [grt], rfl⟩
  case round =>
    obtain ⟨k, x, rfl, rfl, hk, hx, hwr⟩ := hrel
    subst hwr
    have HX : Hid (x = grt (l.take k)) := hx
    clear hx
    by_cases hlt : k < n
    · have k1 : (k : Int) < (n : Int) := by omega
      have n0 : ¬ n = 0 := by omega
      obtain ⟨b, off, y, rfl, hy, _, e0⟩ := HS.out.at hlt
      have HY : Hid (l[k]? = some y) := hy
      clear hy HS
      go_wp2_with fail
      refine ⟨⟨k + 1, _, rfl, by go_num, by omega, ?_, trivial⟩, by simp [intOf]; omega⟩
      rw [List.take_add_one, HY.out]
      show _ = grt (l.take k ++ [y])
      rw [grt_snoc, ← HX.out]
      split <;> omega
    · have k1 : ¬ (k : Int) < (n : Int) := by omega
      have HE : Hid (x = grt l) := by
        have h1 := HX.out
        rw [List.take_of_length_le (by have := hl.out; omega)] at h1
        exact h1
      go_wp2_with fail
      go_ret
      exact ⟨by rw [← HE.out]; rfl, rfl⟩
set_option maxHeartbeats 1600000 in
theorem readyZ_any (v : Value) (base k : Nat) (bs : List Int) (za : Option Addr) (n zc : Nat) (zs : List Int) (T : Nat → Int) (t : Int) (w : World) (h : w.ownsRow base 3 1 v k (iv bs)) (hb : ∀ x ∈ bs, 0 ≤ x ∧ x < (n : Int)) (hN : SeenZ w za n zs ∧ ∀ i x, zs[i]? = some x → T i = x) (hk : k ≤ 16384) (hn : n ≤ 4096) :
    Calls Try.prog 36 #[v, .slice za n zc, .int .i64 t] w fun e w' => e = .returned (.bool (readyV T t bs)) ∧ w' = w := by
  obtain ⟨a, c, rfl⟩ := row_shape h
  have HS : Hid (w.ownsRow base 3 1 (.slice a k c) k (iv bs) ∧ (SeenZ w za n zs ∧ ∀ i x, zs[i]? = some x → T i = x) ∧ ∀ x ∈ bs, 0 ≤ x ∧ x < (n : Int)) := ⟨h, hN, hb⟩
  have hl : Hid (bs.length = k) := by have := h.1; rw [iv_len] at this; show _ = _; omega
  clear h hb hN
  go_enter Try.func36, Try.ntmps36
  go_wp2_with fail
  go_loopw [7, 8] (fun s7 _ wr => ∃ j : Nat, s7 = .int .i64 j ∧ j ≤ k ∧ readyV T t (bs.take j) = true ∧ wr = w) (fun s7 _ _ => k - (intOf s7).toNat)
  case atStart => exact ⟨0, rfl, Nat.zero_le _, rfl, rfl⟩
  case round =>
    obtain ⟨j, rfl, hj, hall, hwr⟩ := hrel
    subst hwr
    have HA : Hid (readyV T t (bs.take j) = true) := hall
    clear hall
    by_cases hlt : j < k
    · have hjl : j < bs.length := by have := hl.out; omega
      have hx := List.getElem?_eq_getElem hjl
      obtain ⟨q, rfl, e0, _⟩ := row_at HS.out.1 hx
      have hrg := HS.out.2.2 _ (List.getElem_mem hjl)
      obtain ⟨x, hxe⟩ : ∃ x, x = bs[j] := ⟨_, rfl⟩
      rw [← hxe] at hx e0 hrg
      obtain ⟨y, rfl⟩ := Int.eq_ofNat_of_zero_le hrg.1
      obtain ⟨zb, zo, x9, rfl, hx9, _, x1⟩ := HS.out.2.1.1.at (show y < n by omega)
      rw [← HS.out.2.1.2 y x9 hx9] at x1
      have HX : Hid (bs[j]? = some (y : Int)) := hx
      obtain ⟨u, hu⟩ : ∃ u, u = T y := ⟨_, rfl⟩
      rw [← hu] at x1
      have HU : Hid (u = T y) := hu
      have j1 : (j : Int) < (k : Int) := by omega
      have k0 : ¬ k = 0 := by omega
      have n0 : ¬ n = 0 := by omega
      have y1 : (y : Int) < (n : Int) := by omega
      have hstep : readyV T t (bs.take (j + 1)) = (readyV T t (bs.take j) && (decide (u ≠ 0) && decide (u < t))) := by
        rw [List.take_add_one, hx]
        unfold readyV
        simp [List.all_append, hu]
      have hall : ∀ b, readyV T t (bs.take (j + 1)) = b → b = false → readyV T t bs = false := by
        intro b h1 h2
        subst h2
        rw [← List.take_append_drop (j + 1) bs]
        unfold readyV at h1 ⊢
        rw [List.all_append, h1]
        rfl
      have HT : Hid (readyV T t (bs.take (j + 1)) = (readyV T t (bs.take j) && (decide (u ≠ 0) && decide (u < t))) ∧ ∀ b, readyV T t (bs.take (j + 1)) = b → b = false → readyV T t bs = false) := ⟨hstep, hall⟩
      clear hx hrg hxe hu hjl hstep hall hx9
      by_cases c1 : u = 0
      · have q1 : (u == 0) = true := by simpa using c1
        have C1 : Hid (u = 0) := c1
        clear c1
        go_wp2_with fail
        go_ret
        refine ⟨?_, rfl⟩
        rw [HT.out.2 _ (HT.out.1.trans (by rw [C1.out]; simp)) rfl]
        rfl
      · have q1 : (u == 0) = false := by simpa using c1
        have C1 : Hid (¬ u = 0) := c1
        by_cases c2 : t ≤ u
        · go_wp2_with fail
          go_ret
          refine ⟨?_, rfl⟩
          have c3 : ¬ u < t := by omega
          rw [HT.out.2 _ (HT.out.1.trans (by simp [c3])) rfl]
          rfl
        · go_wp2_with fail
          refine ⟨⟨j + 1, by go_num, by omega, ?_, trivial⟩, by simp [intOf]; omega⟩
          rw [HT.out.1, HA.out]
          have c3 : u < t := by omega
          simp [C1.out, c3]
    · have j1 : ¬ (j : Int) < (k : Int) := by omega
      have HE : Hid (readyV T t bs = true) := by
        have h1 := HA.out
        rw [List.take_of_length_le (by have := hl.out; omega)] at h1
        exact h1
      go_wp2_with fail
      go_ret
      exact ⟨by rw [HE.out]; rfl, rfl⟩
end Go.Proofs.Ytnhoedodnbifdaa
