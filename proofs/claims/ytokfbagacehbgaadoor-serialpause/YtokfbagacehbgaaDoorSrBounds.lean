import Derived.Test.YtokfbagacehbgaaDoorSrPlain
/-! A verified program's run stays in its bounds. -/
namespace Go.Proofs.YtokfbagacehbgaaDoor
set_option linter.unusedVariables false
set_option maxRecDepth 20000
open Go.RowKit Go.PlainOps

/-- What is known of an instruction of a valid function. -/
structure StepOk (fs : List Fn) (n : Nat) (at_ : Nat) (i : Ins) : Prop where
  kind : 0 ≤ i.kind ∧ i.kind < 10
  jump : i.kind = 3 → 0 ≤ i.a ∧ i.a < n
  branch : i.kind = 4 → 0 ≤ i.b ∧ i.b < n
  next : i.kind ≠ 3 → i.kind ≠ 9 → at_ + 1 < n
  reg : i.kind ≠ 3 → i.kind ≠ 5 → i.kind ≠ 6 → 0 ≤ i.a ∧ i.a < 16
  regb : i.kind = 1 ∨ i.kind = 2 → 0 ≤ i.b ∧ i.b < 16
  regc : i.kind = 2 → 0 ≤ i.c ∧ i.c < 16
  op : i.kind = 2 → 0 ≤ i.k ∧ i.k < 16
  slot : i.kind = 5 → 0 ≤ i.a ∧ i.a < 8
  load : i.kind = 7 → 0 ≤ i.b ∧ i.b < 8
  fn : i.kind = 5 → 0 ≤ i.b ∧ i.b < fs.length
  args : i.kind = 5 → parV fs i.b = 0 ∨ (0 ≤ i.c ∧ i.c + parV fs i.b ≤ 16)
theorem step_ok {fs : List Fn} {f : Fn} {at_ : Nat} {i : Ins} (hV : Valid fs f) (hi : f.code[at_]? = some i) : StepOk fs f.code.length at_ i := by
  have hG := good_of hV.shape hV.code
  have hf := (code_parts hV.code).1 _ _ hi
  obtain ⟨w1, w2, w3⟩ := fits_ways hf
  have hk := fits_kind hf
  obtain ⟨_, ⟨_, _, hr⟩, ⟨_, hs⟩, _, _⟩ := valid_bounds hV
  have hw := hG.ways _ _ hi
  have h6 : i.kind = 2 → 0 ≤ i.k ∧ i.k < 16 := by
    intro e
    unfold fitsV at hf
    rw [e] at hf
    simp [fK, belowV] at hf
    omega
  obtain ⟨k, a, b, c, K⟩ := i
  simp only at hk w1 w2 w3 h6 ⊢
  rcases kinds (i := ⟨k, a, b, c, K⟩) hk.1 hk.2 with e | e | e | e | e | e | e | e | e | e
  all_goals
    simp only at e
    subst e
    simp [fA, fB, fC, allowsV, belowV, holdsV] at w1 w2 w3
    simp [exitsV, fN, fA, fB] at hw
    refine ⟨by simp, ?_, ?_, ?_, ?_, ?_, ?_, ?_, ?_, ?_, ?_, ?_⟩ <;> simp <;> first | done | omega

theorem getD_ok {l : List Int} (h : ∀ x ∈ l, okI x) (k : Nat) : okI (l.getD k 0) := by
  rw [List.getD_eq_getElem?_getD]
  cases hq : l[k]? with
  | none => simp [okI]
  | some x => exact h x (List.mem_of_getElem? hq)
theorem set_ok {l : List Int} (h : ∀ x ∈ l, okI x) (k : Nat) {x : Int} (hx : okI x) : ∀ y ∈ l.set k x, okI y := by
  intro y hy
  rcases List.mem_or_eq_of_mem_set hy with h1 | h1
  · exact h y h1
  · subst h1; exact hx
theorem wrap_ok (x : Int) : okI (wrap64 x) := by unfold okI wrap64; omega
theorem bvOk (v : BitVec 64) : okI v.toInt := by have := bv_bounds v; exact ⟨by omega, by omega⟩
theorem ite_ok {p : Prop} [Decidable p] {a b : Int} (ha : okI a) (hb : okI b) : okI (if p then a else b) := by by_cases h : p <;> simp [h, ha, hb]
theorem zero_ok : okI 0 := by simp [okI]
theorem truth_ok (x : Bool) : okI (truthV x) := by cases x <;> simp [truthV, okI]
theorem rem_ok (a b : Int) (ha : okI a) : okI (remV a b) := by
  unfold remV
  refine ite_ok ha ?_
  have : (a.tmod b).natAbs ≤ a.natAbs := by rw [Int.natAbs_tmod]; exact Nat.mod_le _ _
  unfold okI at ha ⊢
  by_cases h0 : 0 ≤ a
  · have := Int.tmod_nonneg b h0
    omega
  · have h2 := Int.tmod_nonneg b (show 0 ≤ -a by omega)
    rw [Int.neg_tmod] at h2
    omega
theorem shr_ok (a b : Int) (ha : okI a) : okI (shrV a b) := by
  unfold shrV
  have hp : (0 : Int) < 2 ^ (b % 64).toNat := Int.pow_pos (by decide)
  generalize (2 : Int) ^ (b % 64).toNat = p at hp
  have h1 : (1 : Int) ≤ p := by omega
  unfold okI at ha ⊢
  by_cases h0 : 0 ≤ a
  · have h2 := Int.ediv_le_self p h0
    have h3 := Int.ediv_nonneg h0 (show 0 ≤ p by omega)
    omega
  · have h2 : -9223372036854775808 ≤ a / p := by
      apply Int.le_ediv_of_mul_le hp
      have : (-9223372036854775808 : Int) * p ≤ -9223372036854775808 * 1 := Int.mul_le_mul_of_nonpos_left (by decide) h1
      omega
    have h3 : a / p < 1 := by
      apply Int.ediv_lt_of_lt_mul hp
      omega
    omega
theorem work_ok (op a b : Int) (ha : okI a) (hb : okI b) : okI (workV op a b) := by
  unfold workV
  refine ite_ok (wrap_ok _) (ite_ok (wrap_ok _) (ite_ok (wrap_ok _) (ite_ok (ite_ok zero_ok (wrap_ok _)) (ite_ok (rem_ok _ _ ha) (ite_ok (by rw [bits_and]; exact bvOk _) (ite_ok (by rw [bits_or]; exact bvOk _) (ite_ok (by rw [bits_xor]; exact bvOk _) (ite_ok (wrap_ok _) (ite_ok (shr_ok _ _ ha) (ite_ok (ite_ok hb ha) (ite_ok (ite_ok hb ha) (ite_ok (truth_ok _) (ite_ok (truth_ok _) (ite_ok (truth_ok _) (truth_ok _)))))))))))))))
theorem args_ok {l : List Int} (h : ∀ x ∈ l, okI x) (a n : Nat) : ∀ x ∈ argsV l a n, okI x := by
  intro x hx
  unfold argsV at hx
  obtain ⟨k, _, rfl⟩ := List.mem_map.1 hx
  split
  · exact getD_ok h _
  · simp [okI]
theorem args_len (l : List Int) (a n : Nat) : (argsV l a n).length = 16 := by simp [argsV]
end Go.Proofs.YtokfbagacehbgaaDoor
