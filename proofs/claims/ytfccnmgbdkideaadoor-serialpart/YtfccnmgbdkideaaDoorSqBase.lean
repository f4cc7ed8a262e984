import Derived.Test.YtfccnmgbdkideaaDoorSqPlain
import Derived.Test.YtfccnmgbdkideaaDoorSrLives
/-! SerialShape: what its walk reads. -/
namespace Go.Proofs.YtfccnmgbdkideaaDoor
set_option linter.unusedVariables false
set_option maxRecDepth 20000
open Go.RowKit Go.HeapKit Go.PlainOps

/-! ### Plainly -/
theorem Grows.par_lt {fs : List Fn} {K : List Ky} {D : List Int} (h : Grows fs K D) {k q : Nat} {x : Ky} (hx : K[k]? = some x) (hp : x.parent = (q : Int)) : q < k := by
  by_cases h0 : k = 0
  · subst h0
    rw [h.first.1] at hx
    injection hx with hx
    subst hx
    have hp' : (-1 : Int) = (q : Int) := hp
    omega
  · obtain ⟨x', d, p, y, h1, h2, h3⟩ := h.at k (by omega) (List.getElem?_eq_some_iff.1 hx).1
    rw [hx] at h1
    injection h1 with h1
    have h4 := h3.par
    rw [← h1, hp] at h4
    have h5 := (List.getElem?_eq_some_iff.1 h3.at_).1
    simp at h5
    omega
theorem Anc.le {fs : List Fn} {K : List Ky} {D : List Int} (hG : Grows fs K D) {k p : Nat} (h : Anc K k p) : p ≤ k := by
  induction h with
  | refl p => exact Nat.le_refl _
  | up hx hp _ ih => have := hG.par_lt hx hp; omega
theorem Anc.step {fs : List Fn} {K : List Ky} {D : List Int} (hG : Grows fs K D) {k p : Nat} (h : Anc K k p) (hlt : p < k) : ∃ (x : Ky) (q : Nat), K[k]? = some x ∧ x.parent = (q : Int) ∧ q < k ∧ Anc K q p := by
  cases h with
  | refl => omega
  | up hx hp h2 => exact ⟨_, _, hx, hp, hG.par_lt hx hp, h2⟩
theorem Grows.dep {fs : List Fn} {K : List Ky} {D : List Int} (h : Grows fs K D) : ∀ (i : Nat) (d : Int), D[i]? = some d → 1 ≤ d ∧ d ≤ (i : Int) + 1 := by
  induction h with
  | one => intro i d hd; cases i with
    | zero => simp at hd; omega
    | succ i => simp at hd
  | @more K D x d p y hg hn ih =>
    intro i e he
    have hl := hg.len
    by_cases hi : i < D.length
    · rw [List.getElem?_append_left hi] at he
      exact ih i e he
    · rw [List.getElem?_append_right (by omega)] at he
      have hi2 : i - D.length = 0 := by
        have := (List.getElem?_eq_some_iff.1 he).1
        simp at this
        omega
      rw [hi2] at he
      simp at he
      have h1 := ih p (d - 1) hn.dep
      have h2 := (List.getElem?_eq_some_iff.1 hn.dep).1
      omega
theorem cnt_le (K : List Ky) (p : Int) : cntK K p ≤ K.length := List.length_filter_le _ _
theorem sum_take_bound {l : List Nd} (h : ∀ (j : Nat) (y : Nd), l[j]? = some y → 1 ≤ y.work) (k : Nat) : 0 ≤ sumW (l.take k) ∧ sumW (l.take k) ≤ sumW l := by
  have hp : ∀ m : List Nd, (∀ y ∈ m, 1 ≤ y.work) → 0 ≤ sumW m := by
    intro m hm
    induction m with
    | nil => exact Int.le_refl _
    | cons x m ih =>
      have h1 := hm x (by simp)
      have h2 := ih (fun y hy => hm y (by simp [hy]))
      simp only [sumW, List.map_cons, List.foldr_cons] at h2 ⊢
      omega
  have ha : ∀ y ∈ l, 1 ≤ y.work := fun y hy => by
    obtain ⟨j, hj, e⟩ := List.getElem_of_mem hy
    exact h j y (by rw [List.getElem?_eq_getElem hj, e])
  have h1 := hp (l.take k) (fun y hy => ha y (List.mem_of_mem_take hy))
  have h2 := hp (l.drop k) (fun y hy => ha y (List.mem_of_mem_drop hy))
  have h3 := sum_app (l.take k) (l.drop k)
  rw [List.take_append_drop] at h3
  omega
theorem sum_take_step {l : List Nd} {k : Nat} {x : Nd} (h : l[k]? = some x) : sumW (l.take (k + 1)) = sumW (l.take k) + x.work := by
  rw [List.take_add_one, h, sum_app]
  simp [sumW]
theorem max_take_step {D : List Int} {k : Nat} {d : Int} (h : D[k]? = some d) : maxD (D.take (k + 1)) = imax (maxD (D.take k)) d := by
  rw [List.take_add_one, h]
  exact max_app _ _
theorem max_bound {fs : List Fn} {K : List Ky} {D : List Int} (h : Grows fs K D) (k : Nat) : 0 ≤ maxD (D.take k) ∧ maxD (D.take k) ≤ (K.length : Int) := by
  induction k with
  | zero => exact ⟨Int.le_refl _, by simp [maxD]⟩
  | succ k ih =>
    have hl := h.len
    by_cases hk : k < D.length
    · obtain ⟨d, hd⟩ : ∃ d, D[k]? = some d := ⟨D[k], by simp⟩
      rw [max_take_step hd]
      have := h.dep k d hd
      unfold imax
      split <;> omega
    · rw [List.take_of_length_le (by omega)] at ih ⊢
      exact ih
/-- Tree and Eval of a run that ends. -/
structure Ends (l : List Fn) (L : List Nd) (V : Val) (D : List Int) : Prop where
  all : AllV l
  tasks : V.tasks = (L.length : Int)
  good : Grows l (keys L) D
  dep : V.depth = maxD D
  sum : sumW L = V.work
  most : V.work ≤ 4194304
  fin : ∀ (j : Nat) (y : Nd), L[j]? = some y → 1 ≤ y.work
  v : ∃ y, L[0]? = some y ∧ y.v = V.v
  len : L.length ≤ 8388608
theorem eval_tree {l : List Fn} {zs : List Int} {fuel : Int} (hok : ∀ f ∈ l, f.Ok) (hz : ∀ x ∈ zs, okI x) (he0 : (evalV l zs fuel).2 = 0) : ∃ D, Ends l (treeV l zs fuel) (evalV l zs fuel).1 D := by
  have hr0 : refusedV l zs fuel = 0 := by
    by_cases h : refusedV l zs fuel = 0
    · exact h
    · unfold evalV at he0
      rw [if_pos h] at he0
      exact absurd he0 h
  obtain ⟨hcz, hpz, hf0, hf1⟩ := refused_zero hr0
  have hA := allV_of hcz hok
  obtain ⟨F, rfl⟩ := Int.eq_ofNat_of_zero_le hf0
  have hz8 := root_le hA hpz
  have hBg := root_begins hA true hz F (by omega)
  have hbare := run_bare' l zs F
  have hev2 : evalV l zs (F : Int) = (match runV l false zs F with
    | .gave e => (zeroVal, e)
    | .done v sp s => (⟨v, (F : Int) - s.fuel, s.tasks, s.depth, sp⟩, 0)) := by
    unfold evalV
    rw [if_neg (by simpa using hr0)]
    rfl
  rw [hbare] at hev2
  cases hq : runV l true zs F with
  | gave e =>
    rw [hq] at hev2
    have : evalV l zs (F : Int) = (zeroVal, e) := hev2
    rw [this] at he0
    exact absurd he0 (gave_ne hA hBg hq)
  | done v sp s =>
    rw [hq] at hev2
    have hev3 : evalV l zs (F : Int) = (⟨v, (F : Int) - s.fuel, s.tasks, s.depth, sp⟩, 0) := hev2
    obtain ⟨D, hW⟩ := run_shape hq
    obtain ⟨_, _, _, h4, h5, _⟩ := child_done hA hBg rfl hq
    have h6 := h5.tasks
    have htv : treeV l zs (F : Int) = s.nodes := by
      unfold treeV
      rw [show (F : Int).toNat = F from rfl, hq]
    rw [hev3, htv]
    exact ⟨D, ⟨hA, by show (s.tasks : Int) = _; rw [hW.len], hW.good, hW.max, by have := hW.sum; show _ = (F : Int) - s.fuel; omega, by show (F : Int) - s.fuel ≤ _; omega, hW.fin, hW.v, by rw [hW.len]; omega⟩⟩
/-! ### In memory -/
structure SeenD (w : World) (a : Option Addr) (n : Nat) (l : List Nd) : Prop where
  len : n = l.length
  ex : 0 < n → ∃ b, a = some ⟨b, 0, none⟩ ∧ b < w.heap.size ∧ ∀ k x, l[k]? = some x → ∀ j y, x.l[j]? = some y → w.cell? ⟨b, k * 7 + j, none⟩ = some (.int .i64 y)
theorem SeenD.more {w w' : World} {a : Option Addr} {n : Nat} {l : List Nd} (h : SeenD w a n l) (hk : Keeps None w w') : SeenD w' a n l := by
  refine ⟨h.len, fun h0 => ?_⟩
  obtain ⟨b, rfl, hb, hc⟩ := h.ex h0
  exact ⟨b, rfl, Nat.lt_of_lt_of_le hb hk.size, fun k x hx j y hy => hk.cell (hc k x hx j y hy) (fun f => f)⟩
theorem row_seenD {w : World} {nv : Value} {l : List Nd} (h : w.ownsRow 0 33 7 nv l.length (ndVals l)) : ∃ a c, nv = .slice a l.length c ∧ SeenD w a l.length l := by
  rcases h.2 with ⟨rfl, h0⟩ | ⟨g, cap, cur, rfl, hb0, hg, hnc, hcm, hcs, htk⟩
  · exact ⟨none, 0, by rw [h0], ⟨rfl, fun h => by omega⟩⟩
  · refine ⟨_, cap, rfl, ⟨rfl, fun _ => ⟨g, rfl, blk_lt hg, fun k x hx j y hy => ?_⟩⟩⟩
    have h1 := ndVals_at l k x hx j y hy
    rw [← htk, List.getElem?_take] at h1
    rw [blk_cell hg, ← Array.getElem?_toList]
    split at h1
    · exact h1
    · cases h1
/-- Numbers in a block of their own. -/
def IsN (w : World) (g : Nat) (l : List Int) : Prop := w.heap[g]? = some (.cells (l.map (Value.int .i64)).toArray 3 (0, 0))
theorem IsN.kept {w w' : World} {S : Nat → Prop} {g : Nat} {l : List Int} (h : IsN w g l) (hk : Keeps S w w') (hS : ¬ S g) : IsN w' g l := blk_kept h hk hS
theorem IsN.at {w : World} {g : Nat} {l : List Int} (h : IsN w g l) {k : Nat} {x : Int} (hx : l[k]? = some x) : w.cell? ⟨g, k, none⟩ = some (.int .i64 x) := by
  rw [blk_cell h]
  simp [hx]
theorem IsN.set {w : World} {g : Nat} {l : List Int} (h : IsN w g l) (k : Nat) (x : Int) : IsN (w.setCell ⟨g, k, none⟩ (.int .i64 x)) g (l.set k x) := by
  unfold IsN at *
  rw [blk_set h, List.map_set]
  simp
theorem nums_made (w : World) (n : Nat) (hn : n * 8 ≤ 140737488355328) : ∃ w', (Instr.makeSlice 90 (.int .i64 n) (.int .i64 n)).run Tryd.prog w = .ok (.slice (some ⟨w.heap.size, 0, none⟩) n n) w' ∧ IsN w' w.heap.size (List.replicate n 0) ∧ Keeps None w w' := by
  obtain ⟨i0, hi, hz0, hz1, hz2⟩ := info_parts Tryd.infoInt
  obtain ⟨M, hM, _, hr⟩ := run_make_block (P := Tryd.prog) (w := w) 90 3 i0 _ 1 8 Tryd.underlying90 hi hz0 hz1 hz2 n (by omega) (by omega)
  refine ⟨_, hr, ?_, Keeps.alloc None w _⟩
  unfold IsN
  rw [heap_alloc_new, hM, Nat.mul_one, made_one _ rfl]
  congr 3
  apply List.ext_getElem <;> simp
end Go.Proofs.YtfccnmgbdkideaaDoor
