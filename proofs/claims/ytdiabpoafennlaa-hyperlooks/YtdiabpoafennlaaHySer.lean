import Derived.Test.YtdiabpoafennlaaHyMem
import Derived.WalkMore
import Derived.Deep.RegionHeld3
import Derived.Deep.DeepCutAuto
/-! What is put, in the serial order: the program's Serial and the document's. -/
namespace Go.Proofs.Ytdiabpoafennlaa
set_option linter.unusedVariables false
set_option maxRecDepth 20000
set_option linter.unusedSimpArgs false
open Go.RowKit Go.HeapKit

/-- What is put by deeds. -/
def putsD (l : List Dd) : List Int := (l.filter (fun d => d.k == 4)).map (·.loc)
theorem putsD_app (a b : List Dd) : putsD (a ++ b) = putsD a ++ putsD b := by simp [putsD]
theorem takeD {l : List Dd} {k : Nat} {x : Dd} (hx : l[k]? = some x) : l.take (k + 1) = l.take k ++ [x] := by
  rw [List.take_add_one, hx]
  rfl
theorem putsD_more {l : List Dd} {k : Nat} {x : Dd} (hx : l[k]? = some x) : putsD (l.take (k + 1)) = putsD (l.take k) ++ if x.k = 4 then [x.loc] else [] := by
  rw [takeD hx, putsD_app]
  by_cases h : x.k = 4 <;> simp [putsD, h]
theorem putsD_len (l : List Dd) : (putsD l).length ≤ l.length := by
  unfold putsD
  rw [List.length_map]
  exact List.length_filter_le _ _
theorem check_two (a : Option Addr) (n c : Nat) (l : List Dd) (w : World) (hS : Seen w a n l) :
    Calls Try.prog 23 #[.slice a n c] w fun e w' => e = .returned (.agg #[.int .i64 (chkE l), .int .i64 (chkA l)]) ∧ Keeps None w w' := check_ok a n c l w hS
theorem rcheck_two (a : Option Addr) (n c : Nat) (l : List Dd) (w : World) (hS : Seen w a n l) :
    Calls Try.prog 24 #[.slice a n c] w fun e w' => e = .returned (.agg #[.int .i64 (chkE l), .int .i64 (chkA l)]) ∧ Keeps None w w' := rcheck_ok a n c l w hS
theorem chkE_ok {l : List Dd} (h : chkE l = 0) : l.length ≤ 4096 := by
  by_cases hl : l.length > 4096
  · have := (chk_long hl).1; omega
  · omega
set_option maxHeartbeats 1600000 in
theorem serial_ok (a : Option Addr) (n c : Nat) (l : List Dd) (w : World) (hS : Seen w a n l) :
    Calls Try.prog 10 #[.slice a n c] w fun e w' => ∃ v, e = .returned (.tuple #[v, .int .i64 (chkE l)]) ∧ (chkE l ≠ 0 → v = .slice none 0 0) ∧ (chkE l = 0 → w'.ownsRow w.heap.size 2 1 v (putsD l).length (iv (putsD l))) ∧ Keeps None w w' := by
  have HS : Hid (Seen w a n l) := hS
  have HLen : Hid (n = l.length) := hS.len
  clear hS
  go_enter Try.func10, Try.ntmps10
  go_wp2_with fail
  refine (check_two a n c l w HS.out).mono ?_
  rintro e w1 ⟨rfl, hk1⟩
  obtain ⟨E, hE⟩ : ∃ E, E = chkE l := ⟨_, rfl⟩
  obtain ⟨A1, hA⟩ : ∃ A1, A1 = chkA l := ⟨_, rfl⟩
  rw [← hE, ← hA]
  have HE : Hid (E = chkE l) := hE
  clear hE hA
  have b2 := heap_alloc_new w1 (.cells #[.int .i64 E, .int .i64 A1] 55)
  have k2 := hk1.andAlloc (.cells #[.int .i64 E, .int .i64 A1] 55)
  have g0 : (w1.alloc (.cells #[.int .i64 E, .int .i64 A1] 55)).cell? ⟨w1.heap.size, 0, none⟩ = some (.int .i64 E) := (blk_cell b2 0).trans rfl
  by_cases h0 : E = 0
  · subst h0
    have hl : l.length ≤ 4096 := chkE_ok HE.out.symm
    have hn : n ≤ 4096 := by have := HLen.out; omega
    have HK : Hid (Keeps None w (w1.alloc (.cells #[.int .i64 0, .int .i64 A1] 55))) := k2
    clear hk1 b2 k2
    go_wp2_with fail
    clear g0
    go_loopw [5, 17] (fun s i wr => ∃ k : Nat, k ≤ n ∧ i = .int .i64 k ∧ wr.ownsRow w.heap.size 2 1 s (putsD (l.take k)).length (iv (putsD (l.take k))) ∧ Keeps None w wr) (fun _ i _ => n - (intOf i).toNat)
    case atStart => exact ⟨0, Nat.zero_le _, rfl, row_nil _ _ _ _, HK.out⟩
    case round =>
      obtain ⟨k, hk, rfl, hrow, hkp⟩ := hrel
      have hlen := HLen.out
      obtain ⟨sa, cs, rfl⟩ := row_shape hrow
      by_cases hkn : k < n
      · obtain ⟨b, off, x, rfl, hb, hx, u0, u1⟩ := (HS.out.more hkp).elem hkn
        have i2 : (k : Int) < (n : Int) := by omega
        have hm := putsD_more hx
        obtain ⟨xk, xl⟩ := x
        by_cases e4 : xk = 4
        · subst e4
          have hbn : (((wr.alloc (.cells #[.int .i64 4, .int .i64 xl] 45)).alloc (.cells #[.int .i64 xl] 2))).heap[wr.heap.size + 1]? = some (.cells #[.int .i64 xl] 2 (0, 0)) := blk_new _ _ _ (by simp)
          have hpl := putsD_len (l.take k)
          have hpl2 : (l.take k).length ≤ 4096 := by rw [List.length_take]; omega
          obtain ⟨g, cp, w2, hr, ho, hk3, hm3⟩ := i64_more w.heap.size (.slice sa _ cs) (putsD (l.take k)) xl 28 _ _ ((hrow.alloc _).alloc _) (by have := hkp.size; simp; omega) (by omega) hbn
          have HN : Hid (w2.ownsRow w.heap.size 2 1 (.slice (some ⟨g, 0, none⟩) ((putsD (l.take k)).length + 1) cp) (putsD (l.take (k + 1))).length (iv (putsD (l.take (k + 1)))) ∧ Keeps None w w2) := by
            rw [hm]
            simp only [if_true]
            exact ⟨by rw [List.length_append]; exact ho, ((hkp.andAlloc _).andAlloc _).trans hk3 (fun i e hi => by have := row_low hrow e; omega)⟩
          clear hrow hkp hx hlen hm ho hk3 hm3 hbn HK
          go_wp2_with (at_builtin; refine wpList_append_run rfl (.tmp 24) (.tmp 27) 28 28 rfl rfl rfl hr ?_)
          go_roundw
          case rel => exact ⟨k + 1, by omega, by go_num, HN.out⟩
          case measure => simp [intOf]; omega
        · have HN : Hid (wr.ownsRow w.heap.size 2 1 (.slice sa (putsD (l.take k)).length cs) (putsD (l.take (k + 1))).length (iv (putsD (l.take (k + 1)))) ∧ Keeps None w wr) := by
            rw [hm, if_neg e4, List.append_nil]
            exact ⟨hrow, hkp⟩
          clear hrow hkp hx hlen hm HK
          go_wp2
          go_roundw
          case rel => exact ⟨k + 1, by omega, by go_num, HN.out.1.alloc _, HN.out.2.andAlloc _⟩
          case measure => simp [intOf]; omega
      · have hkn2 : k = n := by omega
        subst hkn2
        have ht : l.take k = l := List.take_of_length_le (by omega)
        have HN : Hid (wr.ownsRow w.heap.size 2 1 (.slice sa (putsD (l.take k)).length cs) (putsD l).length (iv (putsD l)) ∧ Keeps None w wr) := ⟨by rw [ht] at hrow ⊢; exact hrow, hkp⟩
        clear ht
        clear hrow hkp hlen HK
        go_wp2
        go_ret2
        rw [← HE.out]
        exact ⟨_, rfl, fun h => absurd rfl h, fun _ => HN.out.1, HN.out.2⟩
  · have HK : Hid (Keeps None w (w1.alloc (.cells #[.int .i64 E, .int .i64 A1] 55))) := k2
    clear hk1 b2 k2
    go_upto_region 3 with fail
    go_quiet (fail)
    go_wp2
    go_ret2
    rw [← HE.out]
    exact ⟨_, rfl, fun _ => rfl, fun h => absurd h h0, HK.out.trans (keeps_drewN _ _) (fun _ f _ => f)⟩
set_option maxHeartbeats 1600000 in
theorem rserial_ok (a : Option Addr) (n c : Nat) (l : List Dd) (w : World) (hS : Seen w a n l) :
    Calls Try.prog 11 #[.slice a n c] w fun e w' => ∃ v, e = .returned (.tuple #[v, .int .i64 (chkE l)]) ∧ (chkE l ≠ 0 → v = .slice none 0 0) ∧ (chkE l = 0 → w'.ownsRow w.heap.size 2 1 v (putsD l).length (iv (putsD l))) ∧ Keeps None w w' := by
  have HS : Hid (Seen w a n l) := hS
  have HLen : Hid (n = l.length) := hS.len
  clear hS
  go_enter Try.func11, Try.ntmps11
  go_wp2_with fail
  refine (rcheck_two a n c l w HS.out).mono ?_
  rintro e w1 ⟨rfl, hk1⟩
  obtain ⟨E, hE⟩ : ∃ E, E = chkE l := ⟨_, rfl⟩
  obtain ⟨A1, hA⟩ : ∃ A1, A1 = chkA l := ⟨_, rfl⟩
  rw [← hE, ← hA]
  have HE : Hid (E = chkE l) := hE
  clear hE hA
  have b2 := heap_alloc_new w1 (.cells #[.int .i64 E, .int .i64 A1] 55)
  have k2 := hk1.andAlloc (.cells #[.int .i64 E, .int .i64 A1] 55)
  have g0 : (w1.alloc (.cells #[.int .i64 E, .int .i64 A1] 55)).cell? ⟨w1.heap.size, 0, none⟩ = some (.int .i64 E) := (blk_cell b2 0).trans rfl
  by_cases h0 : E = 0
  · subst h0
    have hl : l.length ≤ 4096 := chkE_ok HE.out.symm
    have hn : n ≤ 4096 := by have := HLen.out; omega
    have HK : Hid (Keeps None w (w1.alloc (.cells #[.int .i64 0, .int .i64 A1] 55))) := k2
    clear hk1 b2 k2
    go_wp2_with fail
    clear g0
    go_loopw [5, 6] (fun s i wr => ∃ k : Nat, k ≤ n ∧ i = .int .i64 k ∧ wr.ownsRow w.heap.size 2 1 s (putsD (l.take k)).length (iv (putsD (l.take k))) ∧ Keeps None w wr) (fun _ i _ => n - (intOf i).toNat)
    case atStart => exact ⟨0, Nat.zero_le _, rfl, row_nil _ _ _ _, HK.out⟩
    case round =>
      obtain ⟨k, hk, rfl, hrow, hkp⟩ := hrel
      have hlen := HLen.out
      obtain ⟨sa, cs, rfl⟩ := row_shape hrow
      by_cases hkn : k < n
      · obtain ⟨b, off, x, rfl, hb, hx, u0, u1⟩ := (HS.out.more hkp).elem hkn
        have i2 : (k : Int) < (n : Int) := by omega
        have hm := putsD_more hx
        obtain ⟨xk, xl⟩ := x
        by_cases e4 : xk = 4
        · subst e4
          have hbn : (wr.alloc (.cells #[.int .i64 xl] 2)).heap[wr.heap.size]? = some (.cells #[.int .i64 xl] 2 (0, 0)) := blk_new _ _ _ rfl
          have hpl := putsD_len (l.take k)
          have hpl2 : (l.take k).length ≤ 4096 := by rw [List.length_take]; omega
          obtain ⟨g, cp, w2, hr, ho, hk3, hm3⟩ := i64_more w.heap.size (.slice sa _ cs) (putsD (l.take k)) xl 28 _ _ (hrow.alloc _) (by have := hkp.size; simp; omega) (by omega) hbn
          have HN : Hid (w2.ownsRow w.heap.size 2 1 (.slice (some ⟨g, 0, none⟩) ((putsD (l.take k)).length + 1) cp) (putsD (l.take (k + 1))).length (iv (putsD (l.take (k + 1)))) ∧ Keeps None w w2) := by
            rw [hm]
            simp only [if_true]
            exact ⟨by rw [List.length_append]; exact ho, (hkp.andAlloc _).trans hk3 (fun i e hi => by have := row_low hrow e; omega)⟩
          clear hrow hkp hx hlen hm ho hk3 hm3 hbn HK
          go_wp2_with (at_builtin; refine wpList_append_run rfl (.tmp 26) (.tmp 32) 28 28 rfl rfl rfl hr ?_)
          go_roundw
          case rel => exact ⟨k + 1, by omega, by go_num, HN.out⟩
          case measure => simp [intOf]; omega
        · have HN : Hid (wr.ownsRow w.heap.size 2 1 (.slice sa (putsD (l.take k)).length cs) (putsD (l.take (k + 1))).length (iv (putsD (l.take (k + 1)))) ∧ Keeps None w wr) := by
            rw [hm, if_neg e4, List.append_nil]
            exact ⟨hrow, hkp⟩
          clear hrow hkp hx hlen hm HK
          go_wp2
          go_roundw
          case rel => exact ⟨k + 1, by omega, by go_num, HN.out⟩
          case measure => simp [intOf]; omega
      · have hkn2 : k = n := by omega
        subst hkn2
        have ht : l.take k = l := List.take_of_length_le (by omega)
        have HN : Hid (wr.ownsRow w.heap.size 2 1 (.slice sa (putsD (l.take k)).length cs) (putsD l).length (iv (putsD l)) ∧ Keeps None w wr) := ⟨by rw [ht] at hrow ⊢; exact hrow, hkp⟩
        clear ht
        clear hrow hkp hlen HK
        go_wp2
        go_ret2
        rw [← HE.out]
        exact ⟨_, rfl, fun h => absurd rfl h, fun _ => HN.out.1, HN.out.2⟩
  · have HK : Hid (Keeps None w (w1.alloc (.cells #[.int .i64 E, .int .i64 A1] 55))) := k2
    clear hk1 b2 k2
    go_upto_region 3 with fail
    go_quiet (fail)
    go_wp2
    go_ret2
    rw [← HE.out]
    exact ⟨_, rfl, fun _ => rfl, fun h => absurd h h0, HK.out.trans (keeps_drewN _ _) (fun _ f _ => f)⟩
end Go.Proofs.Ytdiabpoafennlaa
