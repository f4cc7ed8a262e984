import Derived.Test.YtloahjkndhcjfaaOwnArena
/-! What CellsOnly asks of an access, plainly. -/
namespace Go.Proofs.Ytloahjkndhcjfaa
open Go.RowKit Go.HeapKit

theorem Ar.noted_cells (A : Ar) (x : Acc) : (A.noted x).cells = A.cells := by unfold Ar.noted; split <;> rfl
theorem Ar.did_grows (A : Ar) (kind x a b : Int) : A.cells.length ≤ (A.did kind x a b).2.cells.length := by
  unfold Ar.did
  repeat' split
  all_goals simp [Ar.noted_cells, Ar.put, Ar.more]
theorem Ar.did_length (A : Ar) (kind x a b : Int) (hk : kind = 0 ∨ kind = 1 ∨ kind = 2 ∨ kind = 3) : (A.did kind x a b).2.cells.length = A.cells.length := by
  unfold Ar.did
  repeat' split
  all_goals first | omega | simp [Ar.noted_cells, Ar.put]
theorem Ar.did_still (A : Ar) (kind x a b : Int) (i : Nat) (hi : i < A.cells.length) (h : kind = 4 ∨ kind = 0 ∨ (A.did kind x a b).1.ok = false ∨ (i : Int) ≠ x) : (A.did kind x a b).2.cells.getD i 0 = A.cells.getD i 0 := by
  have hput : ∀ (v : Int), A.has x = true → (i : Int) ≠ x → (A.cells.set x.toNat v).getD i 0 = A.cells.getD i 0 := by
    intro v hx hne
    obtain ⟨k, rfl, hk⟩ := Ar.has_nat hx
    rw [List.getD_eq_getElem?_getD, List.getD_eq_getElem?_getD, List.getElem?_set_ne (by simp; omega)]
  unfold Ar.did at h ⊢
  repeat' split
  all_goals try (simp [Ar.noted_cells]; done)
  all_goals try (simp only [Ar.noted_cells, Ar.put]; refine hput _ (by assumption) ?_; simp_all; done)
  all_goals (simp only [Ar.noted_cells, Ar.more]; rw [List.getD_eq_getElem?_getD, List.getD_eq_getElem?_getD, List.getElem?_append_left hi])

def fillK (zs : List Int) (n k : Nat) : List Int := zs.take k ++ List.replicate (n - k) 0
theorem fillK_length (zs : List Int) (n k : Nat) (hk : k ≤ n) (hn : n ≤ zs.length) : (fillK zs n k).length = n := by simp [fillK]; omega
theorem fillK_zero (zs : List Int) (n : Nat) : fillK zs n 0 = List.replicate n 0 := by simp [fillK]
theorem fillK_succ (zs : List Int) (n k : Nat) (hk : k < n) (hn : n ≤ zs.length) : (fillK zs n k).set k (zs.getD k 0) = fillK zs n (k + 1) := by
  unfold fillK
  rw [List.set_append_right _ _ (by simp; omega)]
  have : n - k = (n - (k + 1)) + 1 := by omega
  rw [this, List.replicate_succ]
  simp only [List.length_take]
  rw [show k - min k zs.length = 0 by omega, List.set_cons_zero, List.take_add_one, List.append_assoc]
  congr 1
  have hk2 : k < zs.length := by omega
  simp [hk2]
theorem fillK_end (zs : List Int) (n : Nat) : fillK zs n n = zs.take n := by simp [fillK]
end Go.Proofs.Ytloahjkndhcjfaa
