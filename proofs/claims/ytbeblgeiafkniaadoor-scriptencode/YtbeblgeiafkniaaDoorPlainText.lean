import Derived.Test.YtbeblgeiafkniaaDoorPlain
import Derived.Lib.ItoaNum
/-! The decimal text of a number, and its reading: plain lists of bytes. -/
namespace Go.PlainOps
open Go.RowKit

theorem dec_small {u : Nat} (h : u < 10) : Lib.decDigits u = [UInt8.ofNat (48 + u)] := Lib.decDigits_one h
theorem dec_more {u : Nat} (h : 10 ≤ u) : Lib.decDigits u = Lib.decDigits (u / 10) ++ [UInt8.ofNat (48 + u % 10)] := by
  rw [Lib.decDigits, dif_neg (by omega)]
theorem dec_snoc (n d : Nat) (hn : 1 ≤ n) (hd : d < 10) : Lib.decDigits (n * 10 + d) = Lib.decDigits n ++ [UInt8.ofNat (48 + d)] := by
  rw [dec_more (by omega)]
  have e1 : (n * 10 + d) / 10 = n := by omega
  have e2 : (n * 10 + d) % 10 = d := by omega
  rw [e1, e2]
theorem digit_nat {d : Nat} (h : d < 10) : (UInt8.ofNat (48 + d)).toNat = 48 + d := by
  simp [UInt8.toNat_ofNat]; omega
/-- A property of every last digit. -/
theorem dec_induct (C : Nat → List UInt8 → Prop) (h1 : ∀ d, d < 10 → C d [UInt8.ofNat (48 + d)]) (h2 : ∀ n d, 1 ≤ n → d < 10 → C n (Lib.decDigits n) → C (n * 10 + d) (Lib.decDigits n ++ [UInt8.ofNat (48 + d)])) : ∀ n, C n (Lib.decDigits n) := by
  intro n
  induction n using Nat.strongRecOn with
  | ind n ih =>
    by_cases h : n < 10
    · rw [dec_small h]; exact h1 n h
    · have e : n = n / 10 * 10 + n % 10 := by omega
      rw [e, dec_snoc _ _ (by omega) (Nat.mod_lt _ (by decide))]
      exact h2 _ _ (by omega) (Nat.mod_lt _ (by decide)) (ih _ (by omega))
def valN (l : List UInt8) : Nat := l.foldl (fun a c => a * 10 + (c.toNat - 48)) 0
theorem valN_snoc (l : List UInt8) (c : UInt8) : valN (l ++ [c]) = valN l * 10 + (c.toNat - 48) := by unfold valN; rw [List.foldl_append]; rfl
theorem val_dec : ∀ n, valN (Lib.decDigits n) = n := by
  refine dec_induct (fun n l => valN l = n) (fun d hd => ?_) (fun n d _ hd ih => ?_)
  · show 0 * 10 + ((UInt8.ofNat (48 + d)).toNat - 48) = d
    rw [digit_nat hd]; omega
  · rw [valN_snoc, ih, digit_nat hd]; omega
theorem dec_digit : ∀ n, ∀ c ∈ Lib.decDigits n, 48 ≤ c.toNat ∧ c.toNat ≤ 57 := by
  refine dec_induct (fun _ l => ∀ c ∈ l, 48 ≤ c.toNat ∧ c.toNat ≤ 57) (fun d hd c hc => ?_) (fun n d _ hd ih c hc => ?_)
  · simp only [List.mem_singleton] at hc; subst hc; rw [digit_nat hd]; omega
  · rw [List.mem_append] at hc
    rcases hc with hc | hc
    · exact ih c hc
    · simp only [List.mem_singleton] at hc; subst hc; rw [digit_nat hd]; omega
theorem dec_ne (n : Nat) : Lib.decDigits n ≠ [] := by
  by_cases h : n < 10
  · rw [dec_small h]; simp
  · rw [dec_more (by omega)]; simp
theorem dec_inj {m n : Nat} (h : Lib.decDigits m = Lib.decDigits n) : m = n := by rw [← val_dec m, h, val_dec]
theorem foldl_ge (l : List UInt8) : ∀ a : Nat, a ≤ l.foldl (fun a c => a * 10 + (c.toNat - 48)) a := by
  induction l with
  | nil => intro a; exact Nat.le_refl _
  | cons c r ih => intro a; rw [List.foldl_cons]; exact Nat.le_trans (by omega) (ih _)
theorem valN_prefix (p r : List UInt8) : valN p ≤ valN (p ++ r) := by unfold valN; rw [List.foldl_append]; exact foldl_ge r _

/-- The digits of a text, read from the left; 'st': something stands ahead. -/
def magN (limit : Nat) : Bool → Nat → List UInt8 → Option Nat
  | _, n, [] => some n
  | st, n, c :: r => if c.toNat < 48 ∨ 57 < c.toNat then none else if st = true ∧ n = 0 then none else if (limit - (c.toNat - 48)) / 10 < n then none else magN limit true (n * 10 + (c.toNat - 48)) r
theorem magN_on (limit : Nat) (hl : 9 ≤ limit) : ∀ (l : List UInt8) (n m : Nat), 1 ≤ n → n ≤ limit → (magN limit true n l = some m ↔ m ≤ limit ∧ Lib.decDigits m = Lib.decDigits n ++ l) := by
  intro l
  induction l with
  | nil =>
    intro n m h1 h2
    rw [magN, List.append_nil]
    constructor
    · intro h; cases h; exact ⟨h2, rfl⟩
    · rintro ⟨_, h⟩; rw [dec_inj h]
  | cons c r ih =>
    intro n m h1 h2
    rw [magN]
    by_cases hc : c.toNat < 48 ∨ 57 < c.toNat
    · rw [if_pos hc]
      constructor
      · intro h; cases h
      · rintro ⟨_, h⟩
        have := dec_digit m c (by rw [h]; simp)
        omega
    · rw [if_neg hc, if_neg (by omega)]
      have hd : c.toNat - 48 < 10 := by omega
      have e : UInt8.ofNat (48 + (c.toNat - 48)) = c := by
        apply UInt8.toNat_inj.1
        rw [digit_nat hd]; omega
      have es : Lib.decDigits (n * 10 + (c.toNat - 48)) = Lib.decDigits n ++ [c] := by rw [dec_snoc n _ h1 hd, e]
      by_cases hv : (limit - (c.toNat - 48)) / 10 < n
      · rw [if_pos hv]
        constructor
        · intro h; cases h
        · rintro ⟨hm, h⟩
          have h3 : valN (Lib.decDigits n ++ [c]) ≤ m := by
            have := valN_prefix (Lib.decDigits n ++ [c]) r
            rw [List.append_assoc, List.singleton_append, ← h, val_dec] at this
            exact this
          rw [← es, val_dec] at h3
          omega
      · rw [if_neg hv, ih _ m (by omega) (by omega), es, List.append_assoc, List.singleton_append]
theorem magN_iff (limit : Nat) (hl : 9 ≤ limit) (l : List UInt8) (m : Nat) : (magN limit false 0 l = some m ∧ l ≠ []) ↔ m ≤ limit ∧ Lib.decDigits m = l := by
  match l with
  | [] =>
    constructor
    · rintro ⟨_, h⟩; exact absurd rfl h
    · rintro ⟨_, h⟩; exact absurd h (dec_ne m)
  | c :: r =>
    rw [magN]
    by_cases hc : c.toNat < 48 ∨ 57 < c.toNat
    · rw [if_pos hc]
      constructor
      · rintro ⟨h, _⟩; cases h
      · rintro ⟨_, h⟩
        have := dec_digit m c (by rw [h]; simp)
        omega
    · rw [if_neg hc, if_neg (by simp), if_neg (by omega)]
      have hd : c.toNat - 48 < 10 := by omega
      have e : UInt8.ofNat (48 + (c.toNat - 48)) = c := by
        apply UInt8.toNat_inj.1
        rw [digit_nat hd]; omega
      rw [Nat.zero_mul, Nat.zero_add]
      by_cases h0 : c.toNat - 48 = 0
      · rw [h0]
        have c0 : Lib.decDigits 0 = [c] := by rw [dec_small (by decide), ← e, h0]
        match r with
        | [] =>
          rw [magN]
          constructor
          · rintro ⟨h, _⟩; cases h; exact ⟨by omega, c0⟩
          · rintro ⟨_, h⟩
            rw [← c0] at h
            exact ⟨by rw [dec_inj h], by simp⟩
        | d :: r =>
          rw [magN]
          constructor
          · rintro ⟨h, _⟩
            split at h
            · cases h
            · rw [if_pos ⟨rfl, rfl⟩] at h; cases h
          · rintro ⟨_, h⟩
            exfalso
            have hm : ¬ m < 10 := by
              intro hm; rw [dec_small hm] at h; simp at h
            have hr : ∀ n, 1 ≤ n → ∃ d t, Lib.decDigits n = d :: t ∧ d.toNat ≠ 48 := by
              refine dec_induct (fun n l => 1 ≤ n → ∃ d t, l = d :: t ∧ d.toNat ≠ 48) (fun d hd h1 => ?_) (fun n d h1 hd ih _ => ?_)
              · exact ⟨_, [], rfl, by rw [digit_nat hd]; omega⟩
              · obtain ⟨d', t, ht, hne⟩ := ih h1
                exact ⟨d', t ++ [UInt8.ofNat (48 + d)], by rw [ht]; rfl, hne⟩
            obtain ⟨d', t, ht, hne⟩ := hr m (by omega)
            rw [ht] at h
            simp only [List.cons.injEq] at h
            rw [h.1] at hne
            omega
      · rw [magN_on limit hl r _ m (by omega) (by omega), dec_small hd, e]
        simp
end Go.PlainOps
