import Derived.Test.YtoglgifmgpogjabDoorFormatLaid
import Derived.Test.YtoglgifmgpogjabDoorRefFormatWalks
import Derived.Test.YtoglgifmgpogjabDoorParseWalks
/-! Plain facts on a text that was written and is read, for OpsRound. -/
namespace Go.Proofs.YtoglgifmgpogjabDoor
open Go.RowKit Go.PlainOps
theorem itoa_len (v : Int) (h : I64 v) : (Lib.itoa v).length ≤ 20 := by
  obtain ⟨h0, h1⟩ := h
  by_cases hv : v < 0
  · obtain ⟨n, rfl⟩ : ∃ n : Nat, v = -(n : Int) := ⟨v.natAbs, by omega⟩
    rw [itoa_minus n (by omega), List.length_cons]
    have := dec_len n 19 (by decide) (by omega)
    omega
  · obtain ⟨n, rfl⟩ := Int.eq_ofNat_of_zero_le (a := v) (by omega)
    rw [itoa_nat]
    have := dec_len n 19 (by decide) (by omega)
    omega
theorem itoa_ne (v : Int) : Lib.itoa v ≠ [] := by
  unfold Lib.itoa
  split
  · simp
  · exact dec_ne _
theorem parse_back (v : Int) (h : I64 v) : parseN (Lib.itoa v) = v ∧ parseE (Lib.itoa v) = 0 := by
  have e := (parseV_iff (Lib.itoa v) v).2 ⟨h, rfl⟩
  unfold parseN parseE
  rw [e]; exact ⟨rfl, rfl⟩
theorem parse_case (l : List UInt8) : (parseN l = 0 ∧ parseE l = 4) ∨ (I64 (parseN l) ∧ Lib.itoa (parseN l) = l ∧ parseE l = 0) := by
  cases h : parseV l with
  | none => left; unfold parseN parseE; rw [h]; exact ⟨rfl, rfl⟩
  | some v =>
    right
    obtain ⟨h1, h2⟩ := (parseV_iff l v).1 h
    unfold parseN parseE
    rw [h]; exact ⟨h1, h2, rfl⟩
theorem parse_str (r : List UInt8) (w : World) (hs : r.length ≤ 20) :
    Calls Tryd.prog 6 #[.string ⟨r.toArray⟩] w fun e w' => e = .returned (.tuple #[.int .i64 (parseN r), .int .i64 (parseE r)]) ∧ Below w.heap.size w w' := by
  have := parse_short ⟨r.toArray⟩ w (by simpa [ByteArray.size] using hs)
  simpa using this
end Go.Proofs.YtoglgifmgpogjabDoor
