import Derived.WalkKit
/-! The table of names, as plain data. -/
namespace Go.PlainOps
open Go.RowKit

def nm : List (List UInt8) := [[43], [45], [42], [47], [37], [38], [124], [94], [60, 60], [62, 62], [109, 105, 110], [109, 97, 120], [60], [60, 61], [61, 61], [33, 61]]
def nmS (i : Nat) : ByteArray := ⟨(nm.getD i []).toArray⟩
/-- The name of a number: of an operation its own, else the empty one. -/
def nameV (op : Int) : ByteArray := if 0 ≤ op ∧ op < 16 then nmS op.toNat else ⟨#[]⟩
def findN (s : ByteArray) : Nat → Nat → Int
  | 0, _ => -1
  | f + 1, k => if nmS k = s then (k : Int) else findN s f (k + 1)
def findV (s : ByteArray) : Int := findN s 16 0
theorem findN_yes {s : ByteArray} {k : Nat} (hk : k < 16) (h : nmS k = s) : findN s (16 - k) k = k := by
  obtain ⟨f, hf⟩ : ∃ f, 16 - k = f + 1 := ⟨15 - k, by omega⟩
  rw [hf, findN, if_pos h]
theorem findN_no {s : ByteArray} {k : Nat} (hk : k < 16) (h : ¬ nmS k = s) : findN s (16 - k) k = findN s (16 - (k + 1)) (k + 1) := by
  obtain ⟨f, hf⟩ : ∃ f, 16 - k = f + 1 := ⟨15 - k, by omega⟩
  rw [hf, findN, if_neg h]
  congr 1
  omega
theorem findV_nm : ∀ k : Nat, k < 16 → findV (nmS k) = k := by decide +kernel
theorem findV_empty : findV ⟨#[]⟩ = -1 := by decide +kernel
theorem nmS_ne : ∀ k : Nat, k < 16 → nmS k ≠ ⟨#[]⟩ := by decide +kernel
end Go.PlainOps
