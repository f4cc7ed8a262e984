import Derived.Test.YtlajblbfelcalabScDrawers
import Derived.Test.YtlajblbfelcalabScPullLaw
/-! The document's draws from lists; copies of lists. -/
namespace Go.Proofs.Ytlajblbfelcalab
set_option linter.unusedVariables false
set_option maxRecDepth 20000
open Go.RowKit Go.HeapKit Go.Sc

theorem ints_copied_nil (g c : Nat) (w : World) (ty : TypeId) : (Builtin.append_ #[23, 23] ty #[.slice (some ⟨g, 0, none⟩) 0 0, .slice none 0 c]).run Try.prog w = .ok (.slice (some ⟨g, 0, none⟩) 0 0) w := by
  obtain ⟨i0, hi, hz0, hz1, hz2⟩ := info_parts Try.infoInt
  simp [Builtin.append_, run_underlying Try.underlying23, sizeOf, typeInfo, zeroValue, hi, hz0, Builtin.lenOf, Builtin.firstCells, storeCells]
/-- 'append([]int{}, l...)' of any list. -/
theorem ints_copiedX (a : Option Addr) (m c : Nat) (l : List Int) (w : World) (ty : TypeId) (h : SeenN w a m l) (hs : m * 8 ≤ 140737488351232) :
    ∃ v w', (Builtin.append_ #[23, 23] ty #[.slice (some ⟨w.heap.size, 0, none⟩) 0 0, .slice a m c]).run Try.prog (w.alloc (.cells #[] 3)) = .ok v w' ∧
      w'.ownsRow w.heap.size 3 1 v m (iv l) ∧ Keeps None w w' := by
  cases a with
  | some x => exact ints_copied x m c l w ty h hs
  | none =>
    have hm : m = 0 := by
      by_cases h0 : 0 < m
      · obtain ⟨b, off, e, _⟩ := h.ex h0
        cases e
      · omega
    have hl : l = [] := List.eq_nil_of_length_eq_zero (by rw [← h.len]; exact hm)
    subst hm hl
    refine ⟨_, _, ints_copied_nil _ c _ ty, ?_, keeps1 _ _⟩
    exact ⟨by simp [iv], .inr ⟨w.heap.size, 0, #[], rfl, Nat.le_refl _, blk_new _ _ _ rfl, Nat.le_refl _, by unfold maxLen; omega, rfl, rfl⟩⟩
def firstL (f : Nat → Int) (n : Nat) : List Int := (List.range n).map f
theorem firstL_len (f : Nat → Int) (n : Nat) : (firstL f n).length = n := by simp [firstL]
theorem firstL_succ (f : Nat → Int) (n : Nat) : firstL f (n + 1) = firstL f n ++ [f n] := by simp [firstL, List.range_succ]
theorem firstL_at (f : Nat → Int) {n k : Nat} (h : k < n) : (firstL f n)[k]? = some (f k) := by simp [firstL, h]
set_option maxHeartbeats 1600000 in
theorem rlist_any (a : Option Addr) (m c n : Nat) (l : List Int) (w : World) (h : SeenN w a m l) (hn : n ≤ 1000) (hm : m * 8 ≤ 140737488351232) :
    Calls Try.prog 30 #[.slice a m c, .int .i64 n] w fun e w' => ∃ v, e = .returned v ∧ w'.ownsRow w.heap.size 3 1 v n (iv (firstL (listV l) n)) ∧ Keeps None w w' := by
  have HS : Hid (SeenN w a m l ∧ m = l.length) := ⟨h, h.len⟩
  clear h
  go_enter Try.func30, Try.ntmps30
  go_wp2_with fail
  go_loopw [6, 5, 7] (fun s6 s5 _ wr => ∃ k : Nat, s6 = .int .i64 k ∧ k ≤ n ∧ wr.ownsRow w.heap.size 3 1 s5 k (iv (firstL (listV l) k)) ∧ Keeps None w wr) (fun s6 _ _ _ => n - (intOf s6).toNat)
  case atStart => exact ⟨0, rfl, Nat.zero_le _, row_nil _ _ _ _, Keeps.refl _ _⟩
  case round =>
    obtain ⟨k, rfl, hk, hrow, hkp⟩ := hrel
    obtain ⟨sa, cs, rfl⟩ := row_shape hrow
    by_cases hkn : k < n
    · have i1 : (k : Int) < (n : Int) := by omega
      obtain ⟨g, cp, w2, hr, ho, hk2, hm2⟩ := int_more w.heap.size (.slice sa k cs) (firstL (listV l) k) (listV l k) k 23 wr.heap.size (wr.alloc (.cells #[.int .i64 (listV l k)] 3)) (firstL_len _ _).symm (row_more hrow (keeps1 _ _)) (by have := hkp.size; simp; omega) (by omega) (blk_new _ _ _ rfl)
      have HN : Hid (w2.ownsRow w.heap.size 3 1 (.slice (some ⟨g, 0, none⟩) (k + 1) cp) (k + 1) (iv (firstL (listV l) (k + 1))) ∧ Keeps None w w2) := by
        rw [firstL_succ]
        exact ⟨ho, (hkp.andAlloc _).trans hk2 (fun i e hi => by have := row_low hrow e; omega)⟩
      by_cases hkm : k < m
      · obtain ⟨b, off, x, rfl, he, c1⟩ := (HS.out.1.more hkp).at hkm
        have hv : listV l k = x := by simp [listV, he]
        rw [hv] at hr
        have i2 : (k : Int) < (m : Int) := by omega
        have m0 : ¬ m = 0 := by omega
        clear hrow hkp ho hk2 hm2 he hv
        go_wp2_with (at_builtin; refine wpList_append_run rfl (.tmp 21) (.tmp 23) 23 23 rfl rfl rfl hr ?_)
        exact ⟨⟨k + 1, by go_num, by omega, HN.out⟩, by simp [intOf]; omega⟩
      · have hv : listV l k = 0 := by
          have := HS.out.2
          unfold listV
          rw [List.getD_eq_getElem?_getD, List.getElem?_eq_none (by omega)]
          rfl
        rw [hv] at hr
        have i2 : ¬ (k : Int) < (m : Int) := by omega
        clear hrow hkp ho hk2 hm2 hv
        go_wp2_with (at_builtin; refine wpList_append_run rfl (.tmp 21) (.tmp 23) 23 23 rfl rfl rfl hr ?_)
        exact ⟨⟨k + 1, by go_num, by omega, HN.out⟩, by simp [intOf]; omega⟩
    · have i1 : ¬ (k : Int) < (n : Int) := by omega
      obtain rfl : k = n := by omega
      go_wp2_with fail
      go_ret
      exact ⟨_, rfl, hrow, hkp⟩
set_option maxHeartbeats 1600000 in
theorem rloop_any (a : Option Addr) (m c n : Nat) (l : List Int) (w : World) (h : SeenN w a m l) (hn : n ≤ 1000) (hm : m * 8 ≤ 140737488351232) :
    Calls Try.prog 31 #[.slice a m c, .int .i64 n] w fun e w' => ∃ v, e = .returned v ∧ w'.ownsRow w.heap.size 3 1 v n (iv (firstL (loopV l) n)) ∧ Keeps None w w' := by
  have HS : Hid (SeenN w a m l ∧ m = l.length) := ⟨h, h.len⟩
  clear h
  go_enter Try.func31, Try.ntmps31
  go_wp2_with fail
  go_loopw [6, 5, 7] (fun s6 s5 _ wr => ∃ k : Nat, s6 = .int .i64 k ∧ k ≤ n ∧ wr.ownsRow w.heap.size 3 1 s5 k (iv (firstL (loopV l) k)) ∧ Keeps None w wr) (fun s6 _ _ _ => n - (intOf s6).toNat)
  case atStart => exact ⟨0, rfl, Nat.zero_le _, row_nil _ _ _ _, Keeps.refl _ _⟩
  case round =>
    obtain ⟨k, rfl, hk, hrow, hkp⟩ := hrel
    obtain ⟨sa, cs, rfl⟩ := row_shape hrow
    by_cases hkn : k < n
    · have i1 : (k : Int) < (n : Int) := by omega
      obtain ⟨g, cp, w2, hr, ho, hk2, hm2⟩ := int_more w.heap.size (.slice sa k cs) (firstL (loopV l) k) (loopV l k) k 23 wr.heap.size (wr.alloc (.cells #[.int .i64 (loopV l k)] 3)) (firstL_len _ _).symm (row_more hrow (keeps1 _ _)) (by have := hkp.size; simp; omega) (by omega) (blk_new _ _ _ rfl)
      have HN : Hid (w2.ownsRow w.heap.size 3 1 (.slice (some ⟨g, 0, none⟩) (k + 1) cp) (k + 1) (iv (firstL (loopV l) (k + 1))) ∧ Keeps None w w2) := by
        rw [firstL_succ]
        exact ⟨ho, (hkp.andAlloc _).trans hk2 (fun i e hi => by have := row_low hrow e; omega)⟩
      by_cases hkm : 0 < m
      · have hlt := Nat.mod_lt k hkm
        obtain ⟨b, off, x, rfl, he, c1⟩ := (HS.out.1.more hkp).at hlt
        have hv : loopV l k = x := by simp [loopV, ← HS.out.2, he]
        rw [hv] at hr
        have i2 : (0 : Int) < (m : Int) := by omega
        have m0 : ¬ m = 0 := by omega
        have m1 : ¬ (m : Int) = 0 := by omega
        have i3 : (k : Int) % (m : Int) = ((k % m : Nat) : Int) := by simp
        generalize k % m = Q at *
        have i4 : (Q : Int) < (m : Int) := by omega
        clear hrow hkp ho hk2 hm2 he hv
        go_wp2_with (at_builtin; refine wpList_append_run rfl (.tmp 23) (.tmp 25) 23 23 rfl rfl rfl hr ?_)
        exact ⟨⟨k + 1, by go_num, by omega, HN.out⟩, by simp [intOf]; omega⟩
      · have hv : loopV l k = 0 := by
          have := HS.out.2
          unfold loopV
          rw [List.getD_eq_getElem?_getD, List.getElem?_eq_none (by omega)]
          rfl
        rw [hv] at hr
        obtain rfl : m = 0 := by omega
        clear hrow hkp ho hk2 hm2 hv
        go_wp2_with (at_builtin; refine wpList_append_run rfl (.tmp 23) (.tmp 25) 23 23 rfl rfl rfl hr ?_)
        exact ⟨⟨k + 1, by go_num, by omega, HN.out⟩, by simp [intOf]; omega⟩
    · have i1 : ¬ (k : Int) < (n : Int) := by omega
      obtain rfl : k = n := by omega
      go_wp2_with fail
      go_ret
      exact ⟨_, rfl, hrow, hkp⟩
set_option maxHeartbeats 1600000 in
theorem drawn_any (pv : Value) (n : Nat) (w : World) (hn : n ≤ 1000) (hD : ∀ wx, Keeps None w wx → Calls Try.prog 23 #[pv] wx fun e w' => e = .returned (.int .i64 0) ∧ w' = wx) :
    Calls Try.prog 32 #[pv, .int .i64 n] w fun e w' => ∃ v, e = .returned v ∧ w'.ownsRow w.heap.size 3 1 v n (iv (firstL (fun _ => 0) n)) ∧ Keeps None w w' := by
  have HD : Hid (∀ wx, Keeps None w wx → Calls Try.prog 23 #[pv] wx fun e w' => e = .returned (.int .i64 0) ∧ w' = wx) := hD
  clear hD
  go_enter Try.func32, Try.ntmps32
  go_wp2_with fail
  go_loopw [6, 5, 7] (fun s6 s5 _ wr => ∃ k : Nat, s6 = .int .i64 k ∧ k ≤ n ∧ wr.ownsRow w.heap.size 3 1 s5 k (iv (firstL (fun _ => 0) k)) ∧ Keeps None w wr) (fun s6 _ _ _ => n - (intOf s6).toNat)
  case atStart => exact ⟨0, rfl, Nat.zero_le _, row_nil _ _ _ _, Keeps.refl _ _⟩
  case round =>
    obtain ⟨k, rfl, hk, hrow, hkp⟩ := hrel
    obtain ⟨sa, cs, rfl⟩ := row_shape hrow
    by_cases hkn : k < n
    · have i1 : (k : Int) < (n : Int) := by omega
      obtain ⟨g, cp, w2, hr, ho, hk2, hm2⟩ := int_more w.heap.size (.slice sa k cs) (firstL (fun _ => 0) k) 0 k 23 wr.heap.size (wr.alloc (.cells #[.int .i64 0] 3)) (firstL_len _ _).symm (row_more hrow (keeps1 _ _)) (by have := hkp.size; simp; omega) (by omega) (blk_new _ _ _ rfl)
      have HN : Hid (w2.ownsRow w.heap.size 3 1 (.slice (some ⟨g, 0, none⟩) (k + 1) cp) (k + 1) (iv (firstL (fun _ => 0) (k + 1))) ∧ Keeps None w w2) := by
        rw [firstL_succ]
        exact ⟨ho, (hkp.andAlloc _).trans hk2 (fun i e hi => by have := row_low hrow e; omega)⟩
      have HK : Hid (Keeps None w wr) := hkp
      clear hrow hkp ho hk2 hm2
      go_wp2_with fail
      refine (HD.out _ HK.out).mono ?_
      rintro _ wz ⟨rfl, hw⟩
      have hw2 := hw.symm
      subst hw2
      clear hw
      go_wp2_with (at_builtin; refine wpList_append_run rfl (.tmp 15) (.tmp 17) 23 23 rfl rfl rfl hr ?_)
      exact ⟨⟨k + 1, by go_num, by omega, HN.out⟩, by simp [intOf]; omega⟩
    · have i1 : ¬ (k : Int) < (n : Int) := by omega
      obtain rfl : k = n := by omega
      go_wp2_with fail
      go_ret
      exact ⟨_, rfl, hrow, hkp⟩
theorem draw_none (g : Nat) (w : World) (h : IsD w g 0 .nilFunc) : Calls Try.prog 23 #[.pointer (some ⟨g, 0, none⟩)] w fun e w' => e = .returned (.int .i64 0) ∧ w' = w := by
  have d1 := h.c1
  have hq : ∀ wz, Sem.run Try.prog (binOp BinOp.eql 49 .nilFunc .nilFunc) wz = .ok (.bool true) wz := fun _ => by kernel_rfl
  clear h
  go_enter Try.func23, Try.ntmps23
  go_wp2_with fail
  go_ret
  exact ⟨rfl, rfl⟩
end Go.Proofs.Ytlajblbfelcalab
