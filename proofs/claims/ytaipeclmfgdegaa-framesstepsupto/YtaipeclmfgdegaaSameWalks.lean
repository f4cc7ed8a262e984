import Derived.Test.YtaipeclmfgdegaaRefDoIn
/-! Two rows that hold the same are found the same. -/
namespace Go.Proofs.Ytaipeclmfgdegaa
open Go.RowKit Go.HeapKit

theorem row_at {w : World} {e : TypeId} {size : Nat} {ao : Option Addr} {n c : Nat} {xs : List Value} (h : w.ownsRow 0 e size (.slice ao n c) n xs) (hn : 0 < n) :
    ∃ g, ao = some ⟨g, 0, none⟩ ∧ ∀ j u, xs[j]? = some u → w.cell? ⟨g, j, none⟩ = some u := by
  rcases h.2 with ⟨_, h0⟩ | ⟨g, cap', cur, he, _, hg, _, _, hcs, ht⟩
  · omega
  · injection he with e1 e2 e3
    subst e1
    refine ⟨g, rfl, fun j u hu => ?_⟩
    rw [cell_of_block hg]
    rw [← ht, List.getElem?_take] at hu
    split at hu
    · simpa using hu
    · cases hu

theorem sameNumbers_same (va vb : Value) (zs : List Int) (w : World) (ha : w.ownsRow 0 2 1 va zs.length (zs.map (Value.int .i64))) (hb : w.ownsRow 0 2 1 vb zs.length (zs.map (Value.int .i64))) (hz : zs.length ≤ 1000000000000) :
    Calls Try.prog 12 #[va, vb] w fun e w' => e = .returned (.bool true) ∧ ∃ m, w' = w.drewN m := by
  obtain ⟨aa, ca, rfl⟩ := own_shape ha
  obtain ⟨ab, cb, rfl⟩ := own_shape hb
  obtain ⟨n, hn⟩ : ∃ n, n = zs.length := ⟨_, rfl⟩
  have HH : Hid (w.ownsRow 0 2 1 (.slice aa n ca) n (zs.map (Value.int .i64)) ∧ w.ownsRow 0 2 1 (.slice ab n cb) n (zs.map (Value.int .i64)) ∧ n = zs.length) := ⟨hn ▸ ha, hn ▸ hb, hn⟩
  clear ha hb
  rw [← hn] at hz ⊢
  clear hn
  go_enter Try.func12, Try.ntmps12
  go_wp2_with fail
  go_loopw [5] (fun i wr => ∃ k : Nat, k ≤ n ∧ i = .int .i64 k ∧ ∃ m, wr = w.drewN m) (fun i _ => n - (intOf i).toNat)
  case atStart => exact ⟨0, Nat.zero_le _, rfl, 0, rfl⟩
  case round =>
    obtain ⟨k, hk, rfl, m, rfl⟩ := hrel
    by_cases hkn : k < n
    · obtain ⟨ga, rfl, hca⟩ := row_at HH.out.1 (by omega)
      obtain ⟨gb, rfl, hcb⟩ := row_at HH.out.2.1 (by omega)
      obtain ⟨x, hx⟩ : ∃ x, (zs.map (Value.int .i64))[k]? = some (.int .i64 x) := ⟨zs[k]'(by have := HH.out.2.2; omega), by simp [List.getElem?_map, List.getElem?_eq_getElem (show k < zs.length by have := HH.out.2.2; omega)]⟩
      have y0 := hca k _ hx
      have y1 := hcb k _ hx
      have i1 : (k : Int) < (n : Int) := by omega
      clear hx hca hcb HH
      go_wp2
      go_quiet (fail)
      go_wp2
      go_roundw
      case rel => exact ⟨k + 1, by omega, by go_num, _, rfl⟩
      case measure => simp [intOf]; omega
    · clear HH
      go_wp2
      go_ret
      exact ⟨rfl, _, rfl⟩
theorem logVals_at (l : List Acc) (k : Nat) (x : Acc) (h : l[k]? = some x) (j : Nat) (u : Value) (hu : x.vals[j]? = some u) : (logVals l)[k * 6 + j]? = some u := by
  have hj : j < 6 := by have := (List.getElem?_eq_some_iff.1 hu).1; simpa [Acc.vals] using this
  induction l generalizing k with
  | nil => simp at h
  | cons y l ih =>
    have e : logVals (y :: l) = y.vals ++ logVals l := rfl
    rw [e]
    cases k with
    | zero => simp at h; subst h; rw [List.getElem?_append_left (by rw [Acc.vals_length]; omega)]; simpa using hu
    | succ k =>
      rw [List.getElem?_append_right (by rw [Acc.vals_length]; omega), Acc.vals_length, show (k + 1) * 6 + j - 6 = k * 6 + j by omega]
      exact ih k (by simpa using h)

theorem sameLog_same (va vb : Value) (l : List Acc) (w : World) (ha : w.ownsRow 0 89 6 va l.length (logVals l)) (hb : w.ownsRow 0 89 6 vb l.length (logVals l)) (hz : l.length ≤ 1000000000000) :
    Calls Try.prog 15 #[va, vb] w fun e w' => e = .returned (.bool true) ∧ ∃ m, w' = w.drewN m := by
  obtain ⟨aa, ca, rfl⟩ := own_shape ha
  obtain ⟨ab, cb, rfl⟩ := own_shape hb
  obtain ⟨n, hn⟩ : ∃ n, n = l.length := ⟨_, rfl⟩
  have HH : Hid (w.ownsRow 0 89 6 (.slice aa n ca) n (logVals l) ∧ w.ownsRow 0 89 6 (.slice ab n cb) n (logVals l) ∧ n = l.length) := ⟨hn ▸ ha, hn ▸ hb, hn⟩
  clear ha hb
  rw [← hn] at hz ⊢
  clear hn
  go_enter Try.func15, Try.ntmps15
  go_wp2_with fail
  go_loopw [5] (fun i wr => ∃ k : Nat, k ≤ n ∧ i = .int .i64 k ∧ ∃ m, wr = w.drewN m) (fun i _ => n - (intOf i).toNat)
  case atStart => exact ⟨0, Nat.zero_le _, rfl, 0, rfl⟩
  case round =>
    obtain ⟨k, hk, rfl, m, rfl⟩ := hrel
    by_cases hkn : k < n
    · obtain ⟨ga, rfl, hca⟩ := row_at HH.out.1 (by omega)
      obtain ⟨gb, rfl, hcb⟩ := row_at HH.out.2.1 (by omega)
      obtain ⟨x, hx⟩ : ∃ x, l[k]? = some x := ⟨l[k]'(by have := HH.out.2.2; omega), by simp⟩
      have y0 := hca (k * 6) _ (logVals_at l k x hx 0 _ rfl)
      have y1 := hca (k * 6 + 1) _ (logVals_at l k x hx 1 _ rfl)
      have y2 := hca (k * 6 + 2) _ (logVals_at l k x hx 2 _ rfl)
      have y3 := hca (k * 6 + 3) _ (logVals_at l k x hx 3 _ rfl)
      have y4 := hca (k * 6 + 4) _ (logVals_at l k x hx 4 _ rfl)
      have y5 := hca (k * 6 + 5) _ (logVals_at l k x hx 5 _ rfl)
      have z0 := hcb (k * 6) _ (logVals_at l k x hx 0 _ rfl)
      have z1 := hcb (k * 6 + 1) _ (logVals_at l k x hx 1 _ rfl)
      have z2 := hcb (k * 6 + 2) _ (logVals_at l k x hx 2 _ rfl)
      have z3 := hcb (k * 6 + 3) _ (logVals_at l k x hx 3 _ rfl)
      have z4 := hcb (k * 6 + 4) _ (logVals_at l k x hx 4 _ rfl)
      have z5 := hcb (k * 6 + 5) _ (logVals_at l k x hx 5 _ rfl)
      have i1 : (k : Int) < (n : Int) := by omega
      clear hx hca hcb HH
      obtain ⟨x0, x1, x2, x3, x4, x5⟩ := x
      go_wp2
      go_quiet (fail)
      go_wp2
      go_roundw
      case rel => exact ⟨k + 1, by omega, by go_num, _, rfl⟩
      case measure => simp [intOf]; omega
    · clear HH
      go_wp2
      go_ret
      exact ⟨rfl, _, rfl⟩
end Go.Proofs.Ytaipeclmfgdegaa
