import Derived.Test.YtaipeclmfgdegaaFrNew
import Derived.Test.YtaipeclmfgdegaaFrStepAny
/-! The law's own remainder; a new arena with a table. -/
namespace Go.Proofs.Ytaipeclmfgdegaa
open Go.RowKit Go.HeapKit Go.IntWalk

theorem mod8_any (x : Int) (n : Nat) (hn : 0 < n) (hn2 : n ≤ 4611686018427387904) (w : World) : Calls Try.prog 18 #[.int .i64 x, .int .i64 n] w fun e w' => e = .returned (.int .i64 (x % n)) ∧ w' = w := by
  have h0 : ¬ (n : Int) = 0 := by omega
  have hlt := Int.tmod_lt_of_pos x (show (0 : Int) < n by omega)
  by_cases hr : x.tmod n < 0
  · have e : x.tmod n + n = x % n := by
      rw [Int.emod_eq_tmod]
      have : ¬ (0 ≤ x) := fun h => by have := Int.tmod_nonneg (n : Int) h; omega
      have h2 : ¬ (n : Int) ∣ x := fun h => by rw [Int.tmod_eq_zero_of_dvd h] at hr; omega
      simp [this, h2]
    have h3 : -(n : Int) < x.tmod n := Int.lt_tmod_of_pos x (by omega)
    go_enter Try.func18, Try.ntmps18
    go_wp2
    go_ret
    rw [← e]
    exact ⟨rfl, rfl⟩
  · have e : x.tmod n = x % n := by
      rw [Int.emod_eq_tmod]
      by_cases h : 0 ≤ x
      · simp [h]
      · have : (n : Int) ∣ x := by
          apply Int.dvd_of_tmod_eq_zero
          have h9 := Int.tmod_nonneg (n : Int) (show 0 ≤ -x by omega)
          rw [Int.neg_tmod] at h9
          omega
        simp [this]
    go_enter Try.func18, Try.ntmps18
    go_wp2
    go_ret
    rw [← e]
    exact ⟨rfl, rfl⟩
theorem newA_as (n : Int) (k : Nat) (e : n = k) (hk : k ≤ 1048576) (w : World) :
    Calls Try.prog 6 #[.int .i64 n] w fun e w' => e = .returned (.tuple #[.pointer (some ⟨w.heap.size, 0, none⟩), .int .i64 0]) ∧ NewA w w' w.heap.size (Ar.new k) := by
  subst e
  exact newA_new k w hk
/-- The arena of a table of n frames, as New leaves it. -/
def tabA (n : Nat) : Ar := layF 0 n { Ar.new (1 + 10 * n) with cells := List.replicate (1 + 10 * n) 0 }
theorem fnew_fresh (p : Nat) (F : Nat → Prop) (n : Nat) (w : World) (h : ArF w p F (Ar.new (1 + 10 * n))) (hn : 1 ≤ n ∧ n ≤ 4096) :
    Calls Try.prog 11 #[.iface 26 (.pointer (some ⟨p, 0, none⟩)), .int .i64 n] w fun e w' => e = .returned (.tuple #[.agg #[.int .i64 0, .int .i64 n], .int .i64 0]) ∧ AA w w' p F (tabA n) := by
  have := fnew_ok p F (Ar.new (1 + 10 * n)) n w h hn (by simp [Ar.new]) (by simp [Ar.new]) (by simp [Ar.new]; omega)
  simpa [Ar.new, Ar.more, Ar.noted, tabA] using this
/-- What the cells of the table hold. -/
theorem layF_val (n k : Nat) (A : Ar) (hA : A.cells.length = 1 + 10 * n) (hk : k ≤ n) (i : Nat) : (layF 0 k A).val i = if ∃ f, f < k ∧ i = 1 + 10 * f then 1 else A.val i := by
  induction k with
  | zero => simp [layF]
  | succ k ih =>
    have ih := ih (by omega)
    show (Ar.did _ 1 _ 1 0).2.val i = _
    rw [show (0 + 1 + 10 * k : Nat) = 1 + 10 * k by omega, did_store _ _ _ (by rw [layF_len, hA]; omega)]
    simp only
    rw [val_noted, val_put _ _ _ _ (by rw [layF_len, hA]; omega), ih]
    by_cases e : i = 1 + 10 * k
    · rw [if_pos e, if_pos ⟨k, by omega, e⟩]
    · rw [if_neg e]
      by_cases h : ∃ f, f < k ∧ i = 1 + 10 * f
      · obtain ⟨f, h1, h2⟩ := h
        rw [if_pos ⟨f, h1, h2⟩, if_pos ⟨f, by omega, h2⟩]
      · rw [if_neg h, if_neg]
        rintro ⟨f, h1, h2⟩
        exact h ⟨f, by omega, h2⟩
theorem layF_rest (k : Nat) (A : Ar) (b : Nat) : (layF b k A).on = A.on ∧ (A.on = false → (layF b k A).log = A.log) ∧ (layF b k A).size = A.size ∧ (layF b k A).actor = A.actor := by
  induction k with
  | zero => exact ⟨rfl, fun _ => rfl, rfl, rfl⟩
  | succ k ih =>
    have key : ∀ (B : Ar) (x : Int), (B.did 1 x 1 0).2.on = B.on ∧ (B.on = false → (B.did 1 x 1 0).2.log = B.log) ∧ (B.did 1 x 1 0).2.size = B.size ∧ (B.did 1 x 1 0).2.actor = B.actor := by
      intro B x
      unfold Ar.did
      rw [if_neg (show ¬ (1 : Int) = 0 by decide), if_pos rfl]
      split
      · unfold Ar.noted Ar.put
        cases h : B.on <;> simp
      · exact ⟨rfl, fun _ => rfl, rfl, rfl⟩
    have := key (layF b k A) ((b + 1 + 10 * k : Nat) : Int)
    exact ⟨this.1.trans ih.1, fun h => (this.2.1 (ih.1.trans h)).trans (ih.2.1 h), this.2.2.1.trans ih.2.2.1, this.2.2.2.trans ih.2.2.2⟩
theorem tabA_len (n : Nat) : (tabA n).cells.length = 1 + 10 * n := by unfold tabA; rw [layF_len]; simp
theorem tabA_val (n i : Nat) : (tabA n).val i = if ∃ f, f < n ∧ i = 1 + 10 * f then 1 else 0 := by
  unfold tabA
  rw [layF_val n n _ (by simp) (Nat.le_refl _)]
  have : (({ Ar.new (1 + 10 * n) with cells := List.replicate (1 + 10 * n) 0 } : Ar)).val i = 0 := by simp [Ar.val, List.getD_eq_getElem?_getD, List.getElem?_replicate]; split <;> rfl
  rw [this]
theorem tabA_rest (n : Nat) : (tabA n).on = false ∧ (tabA n).log = [] ∧ (tabA n).size = 1 + 10 * n := by
  have h := layF_rest n ({ Ar.new (1 + 10 * n) with cells := List.replicate (1 + 10 * n) 0 } : Ar) 0
  exact ⟨h.1, h.2.1 rfl, h.2.2.1⟩
end Go.Proofs.Ytaipeclmfgdegaa
