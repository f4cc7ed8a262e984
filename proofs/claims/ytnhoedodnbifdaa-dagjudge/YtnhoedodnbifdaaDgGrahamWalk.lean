import Derived.Test.YtnhoedodnbifdaaDgGrahamP
import Derived.Test.YtnhoedodnbifdaaDgFit
/-! DagGraham. -/
namespace Go.Proofs.Ytnhoedodnbifdaa
set_option linter.unusedVariables false
set_option maxRecDepth 20000
open Go.RowKit Go.HeapKit

theorem greE_ok {n : Nat} {l : List Ed} (hd : Dag (n : Int) l) {P : Nat} (h1 : 1 ≤ P) (h2 : P ≤ 64) : greE n l P = 0 := by
  unfold greE
  rw [if_pos (dag_check hd), if_neg (by omega)]
theorem row_seenZ {w : World} {base : Nat} {a : Option Addr} {n c : Nat} {zs : List Int} (h : w.ownsRow base 3 1 (.slice a n c) n (iv zs)) (hok : ∀ x ∈ zs, okI x) : SeenZ w a n zs := by
  have hl : n = zs.length := by have := h.1; rw [iv_len] at this; omega
  refine ⟨hl, hok, fun h0 => ?_⟩
  obtain ⟨g, rfl, h1, _⟩ := row_at h (k := 0) (x := zs[0]'(by omega)) (by simp)
  refine ⟨g, 0, rfl, own_lt h rfl, fun k x hx => ?_⟩
  obtain ⟨g2, e2, h2, _⟩ := row_at h hx
  injection e2 with e2
  injection e2 with e2
  subst e2
  rw [Nat.zero_add]
  exact h2
set_option maxHeartbeats 1600000 in
theorem length_any (a : Option Addr) (n c : Nat) (zs : List Int) (w : World) (h : SeenZ w a n zs) (hn : n ≤ 4096) : Calls Try.prog 24 #[.slice a n c] w fun e w' => e = .returned (.int .i64 (grt zs)) ∧ Keeps None w w' := by
  have HS : Hid (SeenZ w a n zs) := h
  have HL : Hid (n = zs.length) := h.len
  clear h
  go_enter Try.func24, Try.ntmps24
  go_wp2_with fail
  go_loopw [4, 3] (fun s4 s3 wr => ∃ (k : Nat) (y : Int), s4 = .int .i64 k ∧ s3 = .int .i64 y ∧ k ≤ n ∧ y = grt (zs.take k) ∧ Keeps None w wr) (fun s4 _ _ => n - (intOf s4).toNat)
  case atStart => exact ⟨0, 0, rfl, rfl, Nat.zero_le _, rfl, Keeps.refl _ _⟩
  case round =>
    obtain ⟨k, y, rfl, rfl, hk, hy, hkp⟩ := hrel
    have HY : Hid (y = grt (zs.take k) ∧ Keeps None w wr) := ⟨hy, hkp⟩
    clear hy hkp
    by_cases hlt : k < n
    · have i1 : (k : Int) < (n : Int) := by omega
      have n0 : ¬ n = 0 := by omega
      obtain ⟨b, off, x, rfl, hx, _, e0⟩ := (HS.out.more HY.out.2).at hlt
      have HX : Hid (grt (zs.take (k + 1)) = max y x) := by
        show _ = _
        rw [List.take_add_one, hx, HY.out.1]
        exact grt_snoc _ _
      clear hx
      go_wp2_with fail
      exact ⟨⟨k + 1, max y x, by go_num, rfl, by omega, HX.out.symm, HY.out.2⟩, by simp [intOf]; omega⟩
    · have i1 : ¬ (k : Int) < (n : Int) := by omega
      have HX : Hid (y = grt zs) := by
        have h1 := HY.out.1
        rw [show k = zs.length by have := HL.out; omega, List.take_length] at h1
        exact h1
      go_wp2_with fail
      go_ret
      exact ⟨by rw [← HX.out]; rfl, HY.out.2⟩
set_option maxHeartbeats 1600000 in
theorem bounds_any (n s p t : Int) (w : World) (hn : 0 ≤ n ∧ n ≤ 4096) (hs : 0 ≤ s ∧ s ≤ 4096) (hp : 1 ≤ p ∧ p ≤ 64) (ht : 0 ≤ t ∧ t ≤ 4096) (h1 : s ≤ t) (h2 : n ≤ p * t) (h3 : p * t ≤ n + (p - 1) * s) :
    Calls Try.prog 23 #[.int .i64 n, .int .i64 s, .int .i64 p, .int .i64 t] w fun e w' => e = .returned (.bool true) ∧ w' = w := by
  have b1 : 0 ≤ p * t := Int.mul_nonneg (by omega) ht.1
  have b2 : p * t ≤ 64 * 4096 := Int.mul_le_mul hp.2 ht.2 ht.1 (by omega)
  have b3 : 0 ≤ (p - 1) * s := Int.mul_nonneg (by omega) hs.1
  have b4 : (p - 1) * s ≤ 64 * 4096 := Int.mul_le_mul (by omega) hs.2 hs.1 (by omega)
  go_enter Try.func23, Try.ntmps23
  go_wp2_with fail
  go_ret
  exact ⟨by first | rfl | (simp; omega), rfl⟩
theorem run_out (n p : Nat) (l : List Ed) (i : Nat) (hi : n ≤ i) : ∀ k, runT n p l k i = 0 := by
  intro k
  induction k with
  | zero => rfl
  | succ k ih =>
    rw [runT, stepT, if_neg]
    · exact ih
    · intro h
      have := (mem_rds.1 (List.mem_of_mem_take h)).1
      omega
theorem tm_map (n : Nat) (F : Nat → Int) (i : Nat) (hi : i < n) : tm ((List.range n).map F) i = F i := by
  simp [tm, hi]
theorem tm_times (n p : Nat) (l : List Ed) : tm ((List.range n).map (timesV n p l)) = timesV n p l := by
  funext i
  by_cases hi : i < n
  · exact tm_map n _ i hi
  · unfold timesV
    rw [run_out n p l i (by omega)]
    unfold tm
    rw [List.getD_eq_getElem?_getD, List.getElem?_eq_none (by simp; omega)]
    rfl
/-- All that DagGraham asks, plainly. -/
theorem graham_plain {n P : Nat} {l : List Ed} (hd : Dag (n : Int) l) (h1 : 1 ≤ P) (zs : List Int) (hz : zs = (List.range n).map (timesV n P l)) (t S : Nat) (ht : grt zs = t) (hS : spanV n l = S) :
    isSched P zs l ∧ grOk P zs l zs.length ∧ S ≤ t ∧ n ≤ P * t ∧ P * t ≤ n + (P - 1) * S ∧ t ≤ n := by
  have hlen : zs.length = n := by rw [hz]; simp
  have htm : tm zs = timesV n P l := by rw [hz]; exact tm_times n P l
  have hT : ∀ i, i < n → timesV n P l i ≤ t := by
    intro i hi
    have := (grt_ge zs).2 (timesV n P l i) (by rw [hz]; exact List.mem_map.2 ⟨i, List.mem_range.2 hi, rfl⟩)
    omega
  have hG := times_grdy hd h1 t hT
  have hg : isSched P zs l ∧ grOk P zs l zs.length := gr_of (len := t) h1 (by rw [hlen]; exact hd) (by rw [hlen, htm]; exact hG)
  have hR : ∀ i, i < n → R l i ≤ S := by
    intro i hi
    have e : earV n l = (List.range n).map (R l) := ear_ok (dag_check hd)
    have := (grt_ge (earV n l)).2 (R l i) (by rw [e]; exact List.mem_map.2 ⟨i, List.mem_range.2 hi, rfl⟩)
    unfold spanV at hS
    omega
  have hSt : S ≤ t := by
    unfold spanV at hS
    rcases grt_eq (earV n l) with h | h
    · omega
    · rw [ear_ok (dag_check hd), List.mem_map] at h
      obtain ⟨i, hi, h⟩ := h
      have h2 := sched_rank hd hG.sch i (List.mem_range.1 hi)
      have h3 := hT i (List.mem_range.1 hi)
      rw [ear_ok (dag_check hd)] at hS
      omega
  refine ⟨hg.1, hg.2, hSt, sched_work hG.sch hT, ?_, ?_⟩
  · rcases grt_eq zs with h | h
    · have : t = 0 := by omega
      rw [this]; simp
    · rw [hz, List.mem_map] at h
      obtain ⟨i, hi, h⟩ := h
      exact brent hd hG h1 ⟨i, List.mem_range.1 hi, by rw [h, ← hz]; exact ht⟩ S hR
  · rcases grt_eq zs with h | h
    · omega
    · rw [hz, List.mem_map] at h
      obtain ⟨i, hi, h⟩ := h
      have := (times_one hd h1 i (List.mem_range.1 hi)).2
      rw [h, ← hz] at this
      omega
theorem twice {n P t S c : Nat} (h1 : 1 ≤ P) (h : P * t ≤ n + (P - 1) * S) (hc : c = (n + P - 1) / P) : t ≤ 2 * max S c := by
  have h2 : n ≤ P * c := by
    have := Nat.div_add_mod (n + P - 1) P
    have h3 := Nat.mod_lt (n + P - 1) (show 0 < P by omega)
    rw [← hc] at this
    omega
  have h3 : (P - 1) * S ≤ P * S := Nat.mul_le_mul_right _ (by omega)
  have h4 : P * t ≤ P * (c + S) := by rw [Nat.mul_add]; omega
  have h5 := Nat.le_of_mul_le_mul_left h4 (by omega)
  omega
end Go.Proofs.Ytnhoedodnbifdaa
