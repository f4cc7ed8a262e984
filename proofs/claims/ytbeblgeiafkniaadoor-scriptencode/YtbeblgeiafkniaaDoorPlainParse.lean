import Derived.Test.YtbeblgeiafkniaaDoorPlainText
import Derived.Lib.Strings
/-! Two ways to read a number's text, and that they are one. -/
namespace Go.PlainOps
open Go.RowKit

def I64 (v : Int) : Prop := -9223372036854775808 ≤ v ∧ v ≤ 9223372036854775807
def magR (limit : Nat) (l : List UInt8) : Option Nat := if l = [] then none else magN limit false 0 l
theorem magR_iff (limit : Nat) (hl : 9 ≤ limit) (l : List UInt8) (m : Nat) : magR limit l = some m ↔ m ≤ limit ∧ Lib.decDigits m = l := by
  unfold magR
  rw [← magN_iff limit hl l m]
  by_cases h : l = []
  · rw [if_pos h]; simp [h]
  · rw [if_neg h]; simp [h]
def parseV (l : List UInt8) : Option Int :=
  if Lib.hasPrefix l [45] = true then (match magR 9223372036854775808 (l.drop 1) with | some n => if n = 0 then none else some (-(n : Int)) | none => none)
  else (match magR 9223372036854775807 l with | some n => some (n : Int) | none => none)
theorem prefix_iff (l : List UInt8) : Lib.hasPrefix l [45] = true ↔ ∃ r, l = 45 :: r := by
  unfold Lib.hasPrefix
  cases l with
  | nil => simp [List.isPrefixOf]
  | cons c r =>
    simp only [List.isPrefixOf, Bool.and_true, beq_iff_eq]
    constructor
    · intro h; exact ⟨r, by rw [← h]⟩
    · rintro ⟨_, h⟩; simp only [List.cons.injEq] at h; exact h.1.symm
theorem itoa_nat (n : Nat) : Lib.itoa (n : Int) = Lib.decDigits n := by
  unfold Lib.itoa; rw [if_neg (by omega)]; simp
theorem itoa_minus (n : Nat) (h : 1 ≤ n) : Lib.itoa (-(n : Int)) = 45 :: Lib.decDigits n := by
  unfold Lib.itoa; rw [if_pos (by omega)]; simp
theorem dec_no_minus (n : Nat) (r : List UInt8) : Lib.decDigits n ≠ 45 :: r := by
  intro h
  have := dec_digit n 45 (by rw [h]; simp)
  have e : (45 : UInt8).toNat = 45 := rfl
  omega
theorem parseV_iff (l : List UInt8) (v : Int) : parseV l = some v ↔ I64 v ∧ Lib.itoa v = l := by
  unfold parseV I64
  by_cases hp : Lib.hasPrefix l [45] = true
  · rw [if_pos hp]
    obtain ⟨r, rfl⟩ := (prefix_iff l).1 hp
    rw [List.drop_one, List.tail_cons]
    constructor
    · intro h
      cases hm : magR 9223372036854775808 r with
      | none => rw [hm] at h; cases h
      | some n =>
        rw [hm] at h
        obtain ⟨h1, h2⟩ := (magR_iff _ (by decide) r n).1 hm
        by_cases h0 : n = 0
        · simp [h0] at h
        · simp only [h0, if_false, Option.some.injEq] at h
          subst h
          exact ⟨⟨by omega, by omega⟩, by rw [itoa_minus n (by omega), h2]⟩
    · rintro ⟨⟨h0, h1⟩, h2⟩
      by_cases hv : v < 0
      · obtain ⟨n, rfl⟩ : ∃ n : Nat, v = -(n : Int) := ⟨v.natAbs, by omega⟩
        rw [itoa_minus n (by omega)] at h2
        simp only [List.cons.injEq, true_and] at h2
        rw [(magR_iff _ (by decide) r n).2 ⟨by omega, h2⟩]
        simp only
        rw [if_neg (by omega)]
      · obtain ⟨n, rfl⟩ := Int.eq_ofNat_of_zero_le (a := v) (by omega)
        rw [itoa_nat] at h2
        exact absurd h2 (dec_no_minus n r)
  · rw [if_neg hp]
    constructor
    · intro h
      cases hm : magR 9223372036854775807 l with
      | none => rw [hm] at h; cases h
      | some n =>
        rw [hm] at h
        simp only [Option.some.injEq] at h
        subst h
        obtain ⟨h1, h2⟩ := (magR_iff _ (by decide) l n).1 hm
        exact ⟨⟨by omega, by omega⟩, by rw [itoa_nat, h2]⟩
    · rintro ⟨⟨h0, h1⟩, h2⟩
      by_cases hv : v < 0
      · obtain ⟨n, rfl⟩ : ∃ n : Nat, v = -(n : Int) := ⟨v.natAbs, by omega⟩
        rw [itoa_minus n (by omega)] at h2
        exact absurd ((prefix_iff l).2 ⟨_, h2.symm⟩) hp
      · obtain ⟨n, rfl⟩ := Int.eq_ofNat_of_zero_le (a := v) (by omega)
        rw [itoa_nat] at h2
        rw [(magR_iff _ (by decide) l n).2 ⟨by omega, h2⟩]

/-! The document's own way: digits gathered, wrapped, and the text held against the number's. -/
def refStep (v : Int) (c : UInt8) : Int := if c.toNat = 45 then v else wrap64 (10 * v + (c.toNat : Int) - 48)
def refK (l : List UInt8) : Int := l.foldl refStep 0
def refV (l : List UInt8) : Int := if Lib.hasPrefix l [45] = true then wrap64 (0 - refK l) else refK l
theorem wrap_bounds (x : Int) : I64 (wrap64 x) := by unfold I64 wrap64; omega
theorem refFold_fits : ∀ (l : List UInt8) (v : Int), I64 v → I64 (l.foldl refStep v)
  | [], _, h => h
  | c :: r, v, h => by
    rw [List.foldl_cons]
    apply refFold_fits r
    unfold refStep
    split
    · exact h
    · exact wrap_bounds _
theorem refK_fits (l : List UInt8) : I64 (refK l) := refFold_fits l 0 ⟨by decide, by decide⟩
theorem refV_fits (l : List UInt8) : I64 (refV l) := by
  unfold refV
  split
  · exact wrap_bounds _
  · exact refK_fits l
theorem refK_dec : ∀ n, refK (Lib.decDigits n) = wrap64 (n : Int) := by
  refine dec_induct (fun n l => refK l = wrap64 (n : Int)) (fun d hd => ?_) (fun n d _ hd ih => ?_)
  · show refStep 0 _ = _
    unfold refStep
    rw [digit_nat hd, if_neg (by omega)]
    congr 1
    omega
  · unfold refK at ih ⊢
    rw [List.foldl_append, ih]
    show refStep _ _ = _
    unfold refStep
    rw [digit_nat hd, if_neg (by omega)]
    unfold wrap64
    omega
theorem refV_itoa (v : Int) (h : I64 v) : refV (Lib.itoa v) = v := by
  obtain ⟨h0, h1⟩ := h
  by_cases hv : v < 0
  · obtain ⟨n, rfl⟩ : ∃ n : Nat, v = -(n : Int) := ⟨v.natAbs, by omega⟩
    rw [itoa_minus n (by omega)]
    unfold refV
    rw [if_pos ((prefix_iff _).2 ⟨_, rfl⟩)]
    have e : refK (45 :: Lib.decDigits n) = refK (Lib.decDigits n) := by
      unfold refK
      rw [List.foldl_cons]
      rfl
    rw [e, refK_dec]
    unfold wrap64; omega
  · obtain ⟨n, rfl⟩ := Int.eq_ofNat_of_zero_le (a := v) (by omega)
    rw [itoa_nat]
    unfold refV
    rw [if_neg (by rw [prefix_iff]; rintro ⟨r, hr⟩; exact dec_no_minus n r hr), refK_dec]
    unfold wrap64; omega
theorem parse_one (l : List UInt8) (h : Lib.itoa (refV l) = l) : parseV l = some (refV l) := (parseV_iff l _).2 ⟨refV_fits l, h⟩
theorem parse_none (l : List UInt8) (h : Lib.itoa (refV l) ≠ l) : parseV l = none := by
  cases hp : parseV l with
  | none => rfl
  | some v =>
    obtain ⟨h1, h2⟩ := (parseV_iff l v).1 hp
    have e := refV_itoa v h1
    rw [h2] at e
    rw [e] at h
    exact absurd h2 h
/-- What Parse answers: the number, the error. -/
def parseN (l : List UInt8) : Int := (parseV l).getD 0
def parseE (l : List UInt8) : Int := if (parseV l).isSome = true then 0 else 4
end Go.PlainOps
