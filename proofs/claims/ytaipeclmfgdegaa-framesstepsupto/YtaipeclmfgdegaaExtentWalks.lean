import Derived.Test.YtaipeclmfgdegaaRows
import Derived.Test.YtaipeclmfgdegaaHeap
import Derived.Laws.LoneSync
/-! The part that both kinds of memory embed: size, mark (an atomic number). -/
namespace Go.Proofs.Ytaipeclmfgdegaa
open Go.RowKit Go.HeapKit

theorem atomic_load (a : Addr) (x : Int) (w : World) (hc : w.cell? a = some (.int .i64 x)) :
    (callFunc 66 #[.pointer (some a)]).run Try.prog w = .ok (.value (.int .i64 x)) w :=
  run_call_load (P := Try.prog) Try.func66 (by kernel_rfl) (by kernel_rfl) (by kernel_rfl) .i64 (by kernel_rfl) hc
theorem atomic_store (a : Addr) (y : Int) (u : Value) (w : World) (hc : w.cell? a = some u) (hz : w.frozen? a = false) :
    (callFunc 64 #[.pointer (some a), .int .i64 y]).run Try.prog w = .ok (.value (.tuple #[])) (w.setCell a (.int .i64 y)) :=
  run_call_store (P := Try.prog) Try.func64 (by kernel_rfl) (by kernel_rfl) (by kernel_rfl) (by kernel_rfl) hc hz

theorem used_any (b off : Nat) (m : Int) (w : World) (h1 : w.cell? ⟨b, off + 1, none⟩ = some (.int .i64 m)) :
    Calls Try.prog 54 #[.pointer (some ⟨b, off, none⟩)] w fun e w' => e = .returned (.int .i64 m) ∧ w' = w := by
  have hl := atomic_load ⟨b, off + 1, none⟩ m w h1
  go_enter Try.func54, Try.ntmps54
  go_wp2
  go_ret
  exact ⟨rfl, rfl⟩

theorem fits_any (n : Int) (w : World) :
    Calls Try.prog 27 #[.int .i64 n] w fun e w' => e = .returned (.bool (decide (0 ≤ n) && decide (n ≤ 1048576))) ∧ w' = w := by
  go_enter Try.func27, Try.ntmps27
  by_cases h0 : 0 ≤ n <;> by_cases h1 : n ≤ 1048576
  all_goals (go_wp2; go_ret; simp [h0, h1])

theorem has_any (b off : Nat) (m x : Int) (w : World) (h1 : w.cell? ⟨b, off + 1, none⟩ = some (.int .i64 m)) :
    Calls Try.prog 86 #[.pointer (some ⟨b, off, none⟩), .int .i64 x] w fun e w' => e = .returned (.bool (decide (0 ≤ x) && decide (x < m))) ∧ w' = w := by
  have hl := atomic_load ⟨b, off + 1, none⟩ m w h1
  by_cases h0 : 0 ≤ x
  · by_cases h2 : x < m
    all_goals
      go_enter Try.func86, Try.ntmps86
      go_wp2
      go_ret
      simp [h0, h2]
  · go_enter Try.func86, Try.ntmps86
    go_wp2
    go_ret
    simp
    omega

theorem take_few (b off : Nat) (m n : Int) (w : World) (h1 : w.cell? ⟨b, off + 1, none⟩ = some (.int .i64 m)) (hn : n < 1) :
    Calls Try.prog 33 #[.pointer (some ⟨b, off, none⟩), .int .i64 n] w fun e w' => e = .returned (.tuple #[.int .i64 0, .int .i64 21]) ∧ w' = w := by
  have hl := atomic_load ⟨b, off + 1, none⟩ m w h1
  go_enter Try.func33, Try.ntmps33
  go_wp2
  go_ret2
  exact ⟨rfl, rfl⟩
theorem take_many (b off : Nat) (s m n : Int) (w : World) (h0 : w.cell? ⟨b, off, none⟩ = some (.int .i64 s)) (h1 : w.cell? ⟨b, off + 1, none⟩ = some (.int .i64 m))
    (hb : 0 ≤ m ∧ m ≤ s ∧ s ≤ 1048576) (hn : ¬ n < 1) (hm : s - m < n) :
    Calls Try.prog 33 #[.pointer (some ⟨b, off, none⟩), .int .i64 n] w fun e w' => e = .returned (.tuple #[.int .i64 0, .int .i64 22]) ∧ w' = w := by
  have hl := atomic_load ⟨b, off + 1, none⟩ m w h1
  obtain ⟨hb1, hb2, hb3⟩ := hb
  go_enter Try.func33, Try.ntmps33
  go_wp2
  go_ret2
  exact ⟨rfl, rfl⟩
theorem take_fits (b off : Nat) (s m n : Int) (w : World) (h0 : w.cell? ⟨b, off, none⟩ = some (.int .i64 s)) (h1 : w.cell? ⟨b, off + 1, none⟩ = some (.int .i64 m))
    (f1 : w.frozen? ⟨b, off + 1, none⟩ = false) (hb : 0 ≤ m ∧ m ≤ s ∧ s ≤ 1048576) (hn : ¬ n < 1) (hm : ¬ s - m < n) :
    Calls Try.prog 33 #[.pointer (some ⟨b, off, none⟩), .int .i64 n] w fun e w' => e = .returned (.tuple #[.int .i64 m, .int .i64 0]) ∧ w' = w.setCell ⟨b, off + 1, none⟩ (.int .i64 (m + n)) := by
  have hl := atomic_load ⟨b, off + 1, none⟩ m w h1
  have hs := atomic_store ⟨b, off + 1, none⟩ (m + n) _ w h1 f1
  obtain ⟨hb1, hb2, hb3⟩ := hb
  go_enter Try.func33, Try.ntmps33
  go_wp2
  go_end0
  go_wp2
  go_ret2
  exact ⟨rfl, rfl⟩
end Go.Proofs.Ytaipeclmfgdegaa
