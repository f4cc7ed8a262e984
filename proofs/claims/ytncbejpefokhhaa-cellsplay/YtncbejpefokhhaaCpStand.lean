import Derived.Test.YtncbejpefokhhaaCpAccesses
import Derived.Test.YtncbejpefokhhaaSameWalks
import Derived.Deep.QuietTactic
import Derived.Deep.RegionHeld3
import Derived.Deep.DeepCutAuto
import Derived.BigQuiet
/-! The book stands. -/
namespace Go.Proofs.Ytncbejpefokhhaa
set_option linter.unusedVariables false
open Go.RowKit Go.HeapKit

theorem rep_at {n k : Nat} {m : Int} {r : List Int} (hk : k < n) : ((List.replicate n m ++ r).map (Value.int .i64))[k]? = some (.int .i64 m) := by
  rw [List.getElem?_map, List.getElem?_append_left (by simpa using hk), List.getElem?_replicate, if_pos hk]; rfl
theorem rep_behind {n j : Nat} {m x : Int} {r : List Int} (hj : r[j]? = some x) : ((List.replicate n m ++ r).map (Value.int .i64))[n + j]? = some (.int .i64 x) := by
  rw [List.getElem?_map, List.getElem?_append_right (by simp), List.length_replicate, Nat.add_sub_cancel_left, hj]; rfl

theorem full_ok (ao : Option Addr) (N c n : Nat) (m : Int) (r : List Int) (w : World) (h : w.ownsRow 0 2 1 (.slice ao N c) N ((List.replicate n m ++ r).map (Value.int .i64))) (hN : n ≤ N) (hs : N ≤ 3000000) :
    Calls Try.prog 36 #[.slice ao N c, .int .i64 n, .int .i64 m] w fun e w' => e = .returned (.bool true) ∧ w' = w := by
  have HH : Hid (w.ownsRow 0 2 1 (.slice ao N c) N ((List.replicate n m ++ r).map (Value.int .i64))) := h
  have i0 : ¬ (N : Int) < (n : Int) := by omega
  clear h
  go_enter Try.func36, Try.ntmps36
  go_wp2_with fail
  go_loopw [7] (fun i wr => ∃ k : Nat, k ≤ n ∧ i = .int .i64 k ∧ wr = w) (fun i _ => n - (intOf i).toNat)
  case atStart => exact ⟨0, Nat.zero_le _, rfl, rfl⟩
  case round =>
    obtain ⟨k, hk, rfl, hw⟩ := hrel
    have hw2 := hw.symm
    subst hw2
    clear hw
    by_cases hkn : k < n
    · obtain ⟨g, rfl, hc⟩ := row_at HH.out (by omega)
      have y0 := hc k _ (rep_at hkn)
      have i1 : (k : Int) < (n : Int) := by omega
      have i2 : (k : Int) < (N : Int) := by omega
      clear hc HH
      go_wp2
      go_roundw
      case rel => exact ⟨k + 1, by omega, by go_num, by first | rfl | trivial⟩
      case measure => simp [intOf]; omega
    · clear HH
      go_wp2
      go_ret
      exact ⟨rfl, rfl⟩

theorem w64_range (x : Int) : -9223372036854775808 ≤ wrap64 x ∧ wrap64 x < 9223372036854775808 := by unfold wrap64; omega
theorem w64_sub (m : Int) (j : Int) (h0 : 0 ≤ j) (h1 : j < 10) : wrap64 (wrap64 (m + j) - m) = j := by unfold wrap64; omega

set_option maxHeartbeats 4000000 in
theorem stand_ok (m : Int) (ao : Option Addr) (n a0 : Nat) (a1 : Option Addr) (c1 : Nat) (a2 : Option Addr) (c2 : Nat) (a3 : Option Addr) (c3 : Nat) (w : World) (h0 : w.ownsRow 0 2 1 (.slice ao n a0) n ((List.replicate n m).map (Value.int .i64)))
    (h1 : w.ownsRow 0 2 1 (.slice a1 (n + 1) c1) (n + 1) ((List.replicate n m ++ [wrap64 (m + 1)]).map (Value.int .i64))) (h2 : w.ownsRow 0 2 1 (.slice a2 (n + 2) c2) (n + 2) ((List.replicate n m ++ [wrap64 (m + 2), wrap64 (m + 3)]).map (Value.int .i64)))
    (h3 : w.ownsRow 0 2 1 (.slice a3 (n + 3) c3) (n + 3) ((List.replicate n m ++ [wrap64 (m + 4), wrap64 (m + 5), wrap64 (m + 6)]).map (Value.int .i64))) (hs : n ≤ 2100000) :
    Calls Try.prog 28 #[.agg #[.int .i64 m, .slice ao n a0, .slice a1 (n + 1) c1, .slice a2 (n + 2) c2, .slice a3 (n + 3) c3]] w fun e w' => e = .returned (.bool true) ∧ Keeps None w w' := by
  obtain ⟨O, hO⟩ : ∃ O, O = w.alloc (.cells #[.int .i64 m, .slice ao n a0, .slice a1 (n + 1) c1, .slice a2 (n + 2) c2, .slice a3 (n + 3) c3] 68) := ⟨_, rfl⟩
  have hb : O.heap[w.heap.size]? = some (.cells #[.int .i64 m, .slice ao n a0, .slice a1 (n + 1) c1, .slice a2 (n + 2) c2, .slice a3 (n + 3) c3] 68 (0, 0)) := by rw [hO]; exact new_at _ _ _ rfl
  have k0 : O.cell? ⟨w.heap.size, 0, none⟩ = some (.int .i64 m) := by rw [cell_of_block hb]; rfl
  have k1 : O.cell? ⟨w.heap.size, 1, none⟩ = some (.slice ao n a0) := by rw [cell_of_block hb]; rfl
  have k2 : O.cell? ⟨w.heap.size, 2, none⟩ = some (.slice a1 (n + 1) c1) := by rw [cell_of_block hb]; rfl
  have k3 : O.cell? ⟨w.heap.size, 3, none⟩ = some (.slice a2 (n + 2) c2) := by rw [cell_of_block hb]; rfl
  have k4 : O.cell? ⟨w.heap.size, 4, none⟩ = some (.slice a3 (n + 3) c3) := by rw [cell_of_block hb]; rfl
  have hk : Keeps None w O := by rw [hO]; exact Keeps.alloc None w _
  have f0 := full_ok ao n a0 n m [] O (by rw [List.append_nil]; exact hk.own h0 (fun _ _ f => f)) (Nat.le_refl _) (by omega)
  have f1 := full_ok a1 (n + 1) c1 n m [wrap64 (m + 1)] O (hk.own h1 (fun _ _ f => f)) (by omega) (by omega)
  have f2 := full_ok a2 (n + 2) c2 n m _ O (hk.own h2 (fun _ _ f => f)) (by omega) (by omega)
  have f3 := full_ok a3 (n + 3) c3 n m _ O (hk.own h3 (fun _ _ f => f)) (by omega) (by omega)
  obtain ⟨g1, rfl, q1⟩ := row_at (hk.own h1 (fun _ _ f => f)) (by omega)
  obtain ⟨g2, rfl, q2⟩ := row_at (hk.own h2 (fun _ _ f => f)) (by omega)
  obtain ⟨g3, rfl, q3⟩ := row_at (hk.own h3 (fun _ _ f => f)) (by omega)
  have x1 := q1 (n + 0) _ (rep_behind (j := 0) rfl)
  have x2 := q2 (n + 0) _ (rep_behind (j := 0) rfl)
  have x3 := q2 (n + 1) _ (rep_behind (j := 1) rfl)
  have x4 := q3 (n + 0) _ (rep_behind (j := 0) rfl)
  have x5 := q3 (n + 1) _ (rep_behind (j := 1) rfl)
  have x6 := q3 (n + 2) _ (rep_behind (j := 2) rfl)
  rw [Nat.add_zero] at x1 x2 x4
  have s1 : wrap64 (wrap64 (m + 1) - m) = 1 := w64_sub m 1 (by decide) (by decide)
  have s2 : wrap64 (wrap64 (m + 2) - m) = 2 := w64_sub m 2 (by decide) (by decide)
  have s3 : wrap64 (wrap64 (m + 3) - m) = 3 := w64_sub m 3 (by decide) (by decide)
  have HK : Hid (Keeps None w O) := hk
  have t1 : IntKind.i64.wrap (wrap64 (m + 1) - m) = 1 := (IntWalk.i64_left _).trans s1
  have t2 : IntKind.i64.wrap (wrap64 (m + 2) - m) = 2 := (IntWalk.i64_left _).trans s2
  have t3 : IntKind.i64.wrap (wrap64 (m + 3) - m) = 3 := (IntWalk.i64_left _).trans s3
  have t4 : IntKind.i64.wrap (m + 4) = wrap64 (m + 4) := IntWalk.i64_left _
  have t5 : IntKind.i64.wrap (m + 5) = wrap64 (m + 5) := IntWalk.i64_left _
  have t6 : IntKind.i64.wrap (m + 6) = wrap64 (m + 6) := IntWalk.i64_left _
  have v1 : IntKind.i64.wrap ((n : Int) + 1) = (n : Int) + 1 := by rw [IntKind.wrap_i64]; omega
  have v2 : IntKind.i64.wrap ((n : Int) + 2) = (n : Int) + 2 := by rw [IntKind.wrap_i64]; omega
  go_enter Try.func28, Try.ntmps28
  go_wp2_with fail
  rw [← hO]
  clear hO hb hk h0 h1 h2 h3 q1 q2 q3
  refine f0.mono ?_
  rintro e w' ⟨rfl, hw⟩
  have hw2 := hw.symm
  subst hw2
  clear hw f0
  go_wp2_with fail
  refine f1.mono ?_
  rintro e w' ⟨rfl, hw⟩
  have hw2 := hw.symm
  subst hw2
  clear hw f1
  go_wp2_with fail
  refine f2.mono ?_
  rintro e w' ⟨rfl, hw⟩
  have hw2 := hw.symm
  subst hw2
  clear hw f2
  go_wp2_with fail
  refine f3.mono ?_
  rintro e w' ⟨rfl, hw⟩
  have hw2 := hw.symm
  subst hw2
  clear hw f3
  go_wp2_with fail
  go_quiet (fail)
  go_wp2_with fail
  go_quiet (fail)
  go_wp2_with fail
  go_quiet (fail)
  go_wp2_with fail
  go_quiet (fail)
  go_wp2_with fail
  go_ret
  exact ⟨rfl, HK.out.trans ⟨rfl, rfl, rfl, Nat.le_refl _, fun _ _ _ => rfl⟩ (fun _ f _ => f)⟩
end Go.Proofs.Ytncbejpefokhhaa
