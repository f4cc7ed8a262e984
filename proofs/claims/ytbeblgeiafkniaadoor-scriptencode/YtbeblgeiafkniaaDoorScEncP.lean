import Derived.Lib.ItoaNum
/-! A script's text, plainly: rows of equal numbers. -/
namespace Go.Sc

/-- How many numbers at the list's beginning are x. -/
def eqN (x : Int) : List Int → Nat
  | [] => 0
  | y :: t => if y = x then eqN x t + 1 else 0
theorem eqN_le (x : Int) : ∀ l, eqN x l ≤ l.length
  | [] => Nat.le_refl _
  | y :: t => by
    unfold eqN
    have := eqN_le x t
    split <;> simp <;> omega
theorem eqN_is (x : Int) : ∀ (l : List Int) (k : Nat), k ≤ l.length → (∀ i, i < k → l[i]? = some x) → (k = l.length ∨ ∃ y, l[k]? = some y ∧ y ≠ x) → eqN x l = k
  | [], k, hk, _, _ => by simp at hk; subst hk; rfl
  | y :: t, 0, _, _, h => by
    rcases h with h | ⟨z, hz, hn⟩
    · simp at h
    · simp at hz
      subst hz
      simp [eqN, hn]
  | y :: t, k + 1, hk, ha, h => by
    have h0 := ha 0 (by omega)
    simp at h0
    subst h0
    have := eqN_is y t k (by simpa using hk) (fun i hi => by simpa using ha (i + 1) (by omega)) (by simpa using h)
    simp [eqN, this]
def rowB (x : Int) (k : Nat) : List UInt8 := (32 :: Lib.itoa x) ++ (if 1 < k then 42 :: Lib.itoa k else [])
def tell : Nat → List UInt8 → List Int → List UInt8
  | 0, b, _ => b
  | _ + 1, b, [] => b
  | n + 1, b, x :: t => if 65536 < b.length then b else tell n (b ++ rowB x (eqN x (x :: t))) ((x :: t).drop (eqN x (x :: t)))
def tellV (b : List UInt8) (l : List Int) : List UInt8 := tell l.length b l
theorem eqN_head (x : Int) (t : List Int) : 1 ≤ eqN x (x :: t) := by simp [eqN]
theorem tell_more : ∀ (n m : Nat) (b : List UInt8) (l : List Int), l.length ≤ n → l.length ≤ m → tell n b l = tell m b l
  | 0, 0, _, _, _, _ => rfl
  | 0, m + 1, b, l, h, _ => by
    have : l = [] := List.eq_nil_of_length_eq_zero (by omega)
    subst this; rfl
  | n + 1, 0, b, l, _, h => by
    have : l = [] := List.eq_nil_of_length_eq_zero (by omega)
    subst this; rfl
  | n + 1, m + 1, b, [], _, _ => rfl
  | n + 1, m + 1, b, x :: t, h1, h2 => by
    unfold tell
    split
    · rfl
    · have h := eqN_head x t
      refine tell_more n m _ _ ?_ ?_ <;> (simp only [List.length_drop, List.length_cons] at *; omega)
theorem tellV_nil (b : List UInt8) : tellV b [] = b := rfl
theorem tellV_long (b : List UInt8) (l : List Int) (h : 65536 < b.length) : tellV b l = b := by
  cases l with
  | nil => rfl
  | cons x t => simp [tellV, tell, h]
theorem tellV_step (b : List UInt8) (x : Int) (t : List Int) (h : b.length ≤ 65536) : tellV b (x :: t) = tellV (b ++ rowB x (eqN x (x :: t))) ((x :: t).drop (eqN x (x :: t))) := by
  have h1 := eqN_head x t
  unfold tellV
  rw [List.length_cons]
  rw [tell, if_neg (by omega)]
  exact tell_more _ _ _ _ (by simp; omega) (Nat.le_refl _)
def picksW : List UInt8 := [112, 105, 99, 107, 115]
def drawsW : List UInt8 := [32, 100, 114, 97, 119, 115]
def encB (p d : List Int) : List UInt8 := tellV (tellV picksW p ++ drawsW) d
def encT (p d : List Int) : List UInt8 := if 1048576 < p.length ∨ 1048576 < d.length ∨ 65536 < (encB p d).length then [] else encB p d
def encE (p d : List Int) : Int := if 1048576 < p.length ∨ 1048576 < d.length ∨ 65536 < (encB p d).length then 2 else 0
theorem dec_len : ∀ (k n : Nat), n < 10 ^ (k + 1) → (Lib.decDigits n).length ≤ k + 1
  | 0, n, h => by
    rw [Lib.decDigits, dif_pos (by omega)]
    simp
  | k + 1, n, h => by
    rw [Lib.decDigits]
    split
    · simp
    · have := dec_len k (n / 10) (by rw [Nat.pow_succ] at h; omega)
      simp
      omega
def okX (x : Int) : Prop := -9223372036854775808 ≤ x ∧ x ≤ 9223372036854775807
theorem itoa_len (x : Int) (h : okX x) : (Lib.itoa x).length ≤ 20 := by
  obtain ⟨h1, h2⟩ := h
  have h3 : (10 : Nat) ^ (18 + 1) = 10000000000000000000 := by decide
  unfold Lib.itoa
  split
  · have := dec_len 18 x.natAbs (by omega)
    simp
    omega
  · have := dec_len 18 x.toNat (by omega)
    omega
theorem rowB_len (x : Int) (k : Nat) (h : okX x) (hk : k ≤ 1048576) : (rowB x k).length ≤ 42 := by
  have h1 := itoa_len x h
  have h2 := itoa_len k ⟨by omega, by omega⟩
  unfold rowB
  split <;> simp <;> omega
theorem tell_len : ∀ (n : Nat) (b : List UInt8) (l : List Int), (∀ x ∈ l, okX x) → l.length ≤ 1048576 → b.length ≤ 65578 → (tell n b l).length ≤ 65578
  | 0, b, l, _, _, hb => hb
  | n + 1, b, [], _, _, hb => hb
  | n + 1, b, x :: t, hl, hn, hb => by
    unfold tell
    split
    · exact hb
    · have h1 := rowB_len x (eqN x (x :: t)) (hl x (List.mem_cons_self ..)) (by have := eqN_le x (x :: t); omega)
      refine tell_len n _ _ (fun y hy => hl y (List.mem_of_mem_drop hy)) (by simp only [List.length_drop]; omega) ?_
      rw [List.length_append]
      omega
theorem tellV_len (b : List UInt8) (l : List Int) (hl : ∀ x ∈ l, okX x) (hn : l.length ≤ 1048576) (hb : b.length ≤ 65578) : (tellV b l).length ≤ 65578 := tell_len _ _ _ hl hn hb
end Go.Sc
