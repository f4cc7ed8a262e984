import Derived.Test.YtloahjkndhcjfaaWithinWalks
/-! What a play of such acts comes to, plainly. -/
namespace Go.Proofs.Ytloahjkndhcjfaa
open Go.RowKit Go.HeapKit

def out (A : Ar) (u kind : Int) (a : Nat) (x y : Int) : Eff × Acc × List Int :=
  if kind = 0 then (⟨A.val a, true, 0⟩, ⟨u, 0, a, A.val a, 0, true⟩, A.cells)
  else if kind = 1 then (⟨0, true, 0⟩, ⟨u, 1, a, x, 0, true⟩, A.cells.set a x)
  else if kind = 2 then if A.val a = x then (⟨0, true, 0⟩, ⟨u, 2, a, x, y, true⟩, A.cells.set a y) else (⟨0, false, 0⟩, ⟨u, 2, a, x, y, false⟩, A.cells)
  else (⟨wrap64 (A.val a + x), true, 0⟩, ⟨u, 3, a, x, wrap64 (A.val a + x), true⟩, A.cells.set a (wrap64 (A.val a + x)))

theorem turn_out (A : Ar) (u kind : Int) (a : Nat) (x y : Int) (hon : A.on = true) (ha : a < A.cells.length) (hk : 0 ≤ kind ∧ kind < 4) :
    A.turn u kind a x y = ((out A u kind a x y).1, { A with actor := u, cells := (out A u kind a x y).2.2, log := A.log ++ [(out A u kind a x y).2.1] }) := by
  have hh : ({ A with actor := u } : Ar).has (a : Int) = true := by simp [Ar.has]; omega
  have hk4 : 0 ≤ kind ∧ kind ≤ 4 := by omega
  unfold Ar.turn Ar.acted
  rw [if_pos hk4]
  unfold Ar.did out
  rw [hh]
  rcases (show kind = 0 ∨ kind = 1 ∨ kind = 2 ∨ kind = 3 by omega) with rfl | rfl | rfl | rfl
  · simp [Ar.noted, hon, Ar.val]
  · simp [Ar.noted, hon, Ar.put]
  · by_cases hv : A.val a = x
    · simp [Ar.noted, hon, Ar.put, Ar.val] at hv ⊢; simp [hv]
    · simp [Ar.noted, hon, Ar.put, Ar.val] at hv ⊢; simp [hv]
  · simp [Ar.noted, hon, Ar.put, Ar.val]

theorem out_length (A : Ar) (u kind : Int) (a : Nat) (x y : Int) : (out A u kind a x y).2.2.length = A.cells.length := by
  unfold out
  repeat' split
  all_goals simp

section
variable (n : Nat) (hn : 0 < n) (hn2 : n ≤ 64) (M : Nat → Nat → Int)
abbrev stM (k : Nat) : Ar := stAt (Ar.watched n) (inRow n M) k
def atM (i : Nat) : Nat := (M i 2 % n).toNat
def outM (i : Nat) : Eff × Acc × List Int := out (stM n M (i + 1)) (M i 0) (M i 1 % 4) (atM n M i) (M i 3) (M i 4)
include hn in
theorem atM_eq (i : Nat) : M i 2 % n = (atM n M i : Int) ∧ atM n M i < n := by
  have h0 := Int.emod_nonneg (M i 2) (show (n : Int) ≠ 0 by omega)
  have h1 := Int.emod_lt_of_pos (M i 2) (show (0 : Int) < n by omega)
  unfold atM
  omega
include hn in
theorem stM_one : effAt (Ar.watched n) (inRow n M) 0 = ⟨0, true, 0⟩ ∧ stM n M 1 = ⟨n, List.replicate n 0, true, 0, [⟨0, 4, 0, n, 0, true⟩]⟩ := by
  have h1 : ¬ (n : Int) < 1 := by omega
  have h2 : ¬ ((n : Int) - 0 < n) := by omega
  constructor
  · simp [effAt, stAt, Ar.turn, Ar.acted, inRow, Ar.watched, Ar.did, h1]
  · simp [stM, stAt, Ar.turn, Ar.acted, inRow, Ar.watched, Ar.did, h1, Ar.noted, Ar.more]
include hn in
theorem stM_good (k : Nat) : (stM n M (k + 1)).size = n ∧ (stM n M (k + 1)).cells.length = n ∧ (stM n M (k + 1)).on = true ∧ (stM n M (k + 1)).log.length = k + 1 := by
  induction k with
  | zero =>
    rw [(stM_one n hn M).2]
    simp
  | succ k ih =>
    obtain ⟨h1, h2, h3, h4⟩ := ih
    obtain ⟨e1, e2⟩ := atM_eq n hn M k
    have hk : 0 ≤ M k 1 % 4 ∧ M k 1 % 4 < 4 := ⟨Int.emod_nonneg _ (by decide), Int.emod_lt_of_pos _ (by decide)⟩
    have ht := turn_out (stM n M (k + 1)) (M k 0) (M k 1 % 4) (atM n M k) (M k 3) (M k 4) h3 (by omega) hk
    have hs : stM n M (k + 1 + 1) = ((stM n M (k + 1)).turn (M k 0) (M k 1 % 4) (M k 2 % n) (M k 3) (M k 4)).2 := rfl
    rw [hs, e1, ht]
    refine ⟨h1, by simp [out_length, h2], h3, by simp [h4]⟩
include hn in
theorem stM_succ (k : Nat) : effAt (Ar.watched n) (inRow n M) (k + 1) = (outM n M k).1 ∧ (stM n M (k + 1 + 1)).cells = (outM n M k).2.2 ∧ (stM n M (k + 1 + 1)).log = (stM n M (k + 1)).log ++ [(outM n M k).2.1] := by
  obtain ⟨h1, h2, h3, h4⟩ := stM_good n hn M k
  obtain ⟨e1, e2⟩ := atM_eq n hn M k
  have hk : 0 ≤ M k 1 % 4 ∧ M k 1 % 4 < 4 := ⟨Int.emod_nonneg _ (by decide), Int.emod_lt_of_pos _ (by decide)⟩
  have ht := turn_out (stM n M (k + 1)) (M k 0) (M k 1 % 4) (atM n M k) (M k 3) (M k 4) h3 (by omega) hk
  have hs : stM n M (k + 1 + 1) = ((stM n M (k + 1)).turn (M k 0) (M k 1 % 4) (M k 2 % n) (M k 3) (M k 4)).2 := rfl
  have he : effAt (Ar.watched n) (inRow n M) (k + 1) = ((stM n M (k + 1)).turn (M k 0) (M k 1 % 4) (M k 2 % n) (M k 3) (M k 4)).1 := rfl
  rw [hs, he, e1, ht]
  exact ⟨rfl, rfl, rfl⟩
include hn in
/-- The i-th entry of every later log. -/
theorem log_at (i : Nat) : ∀ k, i < k → (stM n M (k + 1)).log[i + 1]? = some (outM n M i).2.1 := by
  intro k
  induction k with
  | zero => omega
  | succ k ih =>
    intro hi
    rw [(stM_succ n hn M k).2.2]
    have hl := (stM_good n hn M k).2.2.2
    by_cases hik : i < k
    · rw [List.getElem?_append_left (by omega)]
      exact ih hik
    · obtain rfl : i = k := by omega
      rw [List.getElem?_append_right (by omega), hl]
      simp
include hn in
theorem log_first (k : Nat) : (stM n M (k + 1)).log[0]? = some ⟨0, 4, 0, n, 0, true⟩ := by
  induction k with
  | zero => rw [(stM_one n hn M).2]; rfl
  | succ k ih =>
    have hl := (stM_good n hn M k).2.2.2
    rw [(stM_succ n hn M k).2.2, List.getElem?_append_left (by omega)]
    exact ih
end

theorem logVals_at (l : List Acc) (i : Nat) (x : Acc) (h : l[i]? = some x) : (logVals l)[i * 6]? = some (.int .i64 x.who) ∧ (logVals l)[i * 6 + 1]? = some (.int .i64 x.kind) ∧ (logVals l)[i * 6 + 2]? = some (.int .i64 x.addr) ∧
    (logVals l)[i * 6 + 3]? = some (.int .i64 x.a) ∧ (logVals l)[i * 6 + 4]? = some (.int .i64 x.b) ∧ (logVals l)[i * 6 + 5]? = some (.bool x.ok) := by
  induction l generalizing i with
  | nil => simp at h
  | cons y l ih =>
    cases i with
    | zero =>
      simp at h
      subst h
      simp [logVals, Acc.vals]
    | succ i =>
      have := ih i (by simpa using h)
      have e : logVals (y :: l) = y.vals ++ logVals l := by simp [logVals]
      rw [e]
      have hy := y.vals_length
      rw [List.getElem?_append_right (by omega), List.getElem?_append_right (by omega), List.getElem?_append_right (by omega), List.getElem?_append_right (by omega), List.getElem?_append_right (by omega), List.getElem?_append_right (by omega), hy]
      have e0 : (i + 1) * 6 - 6 = i * 6 := by omega
      have e1 : (i + 1) * 6 + 1 - 6 = i * 6 + 1 := by omega
      have e2 : (i + 1) * 6 + 2 - 6 = i * 6 + 2 := by omega
      have e3 : (i + 1) * 6 + 3 - 6 = i * 6 + 3 := by omega
      have e4 : (i + 1) * 6 + 4 - 6 = i * 6 + 4 := by omega
      have e5 : (i + 1) * 6 + 5 - 6 = i * 6 + 5 := by omega
      rw [e0, e1, e2, e3, e4, e5]
      exact this
end Go.Proofs.Ytloahjkndhcjfaa
