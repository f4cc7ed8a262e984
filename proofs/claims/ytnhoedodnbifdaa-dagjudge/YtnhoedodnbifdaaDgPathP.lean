import Derived.Test.YtnhoedodnbifdaaDgPlain
/-! A longest path, plainly. -/
namespace Go.Proofs.Ytnhoedodnbifdaa
set_option linter.unusedVariables false
set_option maxRecDepth 20000

def grt (l : List Int) : Int := l.foldl max 0
theorem grt_snoc (l : List Int) (x : Int) : grt (l ++ [x]) = max (grt l) x := by simp [grt]
theorem grt_foldl (l : List Int) : grt l = l.foldl (fun m a => max m (id a)) 0 := rfl
theorem grt_ge (l : List Int) : 0 ≤ grt l ∧ ∀ a ∈ l, a ≤ grt l := by
  have := foldmax_ge id l 0
  rw [grt_foldl]
  exact this
theorem grt_eq (l : List Int) : grt l = 0 ∨ grt l ∈ l := by
  rcases foldmax_eq id l 0 with h | ⟨a, ha, h⟩
  · exact .inl h
  · right
    rw [grt_foldl, h]
    exact ha
/-- The greatest, by what it is. -/
theorem grt_is {n : Nat} {F : Nat → Int} {x : Int} (h1 : ∃ j, j < n ∧ F j = x) (h2 : ∀ i, i < n → F i ≤ x) (h0 : 0 ≤ x) : grt ((List.range n).map F) = x := by
  obtain ⟨j, hj, rfl⟩ := h1
  have hge := (grt_ge ((List.range n).map F)).2 (F j) (List.mem_map.2 ⟨j, List.mem_range.2 hj, rfl⟩)
  rcases grt_eq ((List.range n).map F) with h | h
  · omega
  · obtain ⟨i, hi, e⟩ := List.mem_map.1 h
    have := h2 i (List.mem_range.1 hi)
    omega
/-- A path: each node there, each ahead of the next one. -/
structure PathOk (n : Int) (l : List Ed) (path : List Int) : Prop where
  rng : ∀ x ∈ path, 0 ≤ x ∧ x < n
  link : ∀ i x y, path[i]? = some x → path[i + 1]? = some y → ∃ e ∈ l, e.f = x ∧ e.t = y
/-- On the way back from the last node. -/
structure Trace (n : Nat) (l : List Ed) (last : Nat) (acc : List Int) (node : Int) : Prop where
  rng : ∀ x ∈ acc, 0 ≤ x ∧ x < (n : Int)
  link : ∀ i x y, acc[i]? = some x → acc[i + 1]? = some y → ∃ e ∈ l, e.f = y ∧ e.t = x
  next : (node = -1 ∧ (acc.length : Int) = R l last) ∨ ∃ a : Nat, node = a ∧ a < n ∧ (acc.length : Int) + R l a = R l last ∧ ∀ x, acc.getLast? = some x → ∃ e ∈ l, e.f = a ∧ e.t = x
theorem Trace.start {n : Nat} {l : List Ed} {last : Nat} (h : last < n) : Trace n l last [] last :=
  ⟨(fun x hx => by cases hx), (fun i x y hx => by simp at hx), .inr ⟨last, rfl, h, by simp, fun x hx => by simp at hx⟩⟩
theorem Trace.step {n : Nat} {l : List Ed} {last : Nat} {acc : List Int} {a : Nat} {B : Nat → Int} (hd : Dag (n : Int) l) (h : Trace n l last acc a) (hB : GoodB n l (R l) B) : a < n ∧ (acc.length : Int) < R l last ∧ Trace n l last (acc ++ [(a : Int)]) (B a) := by
  rcases h.next with ⟨h1, _⟩ | ⟨a', h1, h2, h3, h4⟩
  · omega
  · obtain rfl : a = a' := by omega
    have hone := R_one l a
    refine ⟨h2, by omega, ⟨fun x hx => ?_, fun i x y hx hy => ?_, ?_⟩⟩
    · rcases List.mem_append.1 hx with hx | hx
      · exact h.rng x hx
      · simp at hx; omega
    · by_cases hi : i + 1 < acc.length
      · rw [List.getElem?_append_left (by omega)] at hx hy
        exact h.link i x y hx hy
      · have hlt := (List.getElem?_eq_some_iff.1 hy).1
        simp at hlt
        have hi2 : i + 1 = acc.length := by omega
        rw [List.getElem?_append_left (by omega)] at hx
        rw [hi2, List.getElem?_append_right (Nat.le_refl _)] at hy
        simp at hy
        subst hy
        refine h4 x ?_
        rw [List.getLast?_eq_getElem?, show acc.length - 1 = i by omega]
        exact hx
    · rcases hB a h2 with ⟨b1, b2⟩ | ⟨e, he, b, hb1, hb2, hb3, hb4⟩
      · exact .inl ⟨b1, by simp; omega⟩
      · have hok := hd.ok e he
        refine .inr ⟨b, hb3, by omega, by simp; omega, fun x hx => ?_⟩
        simp at hx
        subst hx
        exact ⟨e, he, hb1, hb2⟩
theorem Trace.done {n : Nat} {l : List Ed} {last : Nat} {acc : List Int} (h : Trace n l last acc (-1)) : (acc.length : Int) = R l last ∧ PathOk n l acc.reverse := by
  have hlen : (acc.length : Int) = R l last := by
    rcases h.next with ⟨_, h1⟩ | ⟨a, h1, _⟩
    · exact h1
    · omega
  refine ⟨hlen, ⟨fun x hx => h.rng x (List.mem_reverse.1 hx), fun i x y hx hy => ?_⟩⟩
  have h1 := (List.getElem?_eq_some_iff.1 hy).1
  simp at h1
  rw [List.getElem?_reverse (by omega)] at hx hy
  obtain ⟨e, he, e1, e2⟩ := h.link (acc.length - 1 - (i + 1)) y x hy (by rw [show acc.length - 1 - (i + 1) + 1 = acc.length - 1 - i by omega]; exact hx)
  exact ⟨e, he, e1, e2⟩
theorem Trace.neg {n : Nat} {l : List Ed} {last : Nat} {acc : List Int} {node : Int} (h : Trace n l last acc node) : node = -1 ∨ ∃ a : Nat, node = a ∧ a < n := by
  rcases h.next with ⟨h1, _⟩ | ⟨a, h1, h2, _⟩
  · exact .inl h1
  · exact .inr ⟨a, h1, h2⟩
theorem map_range_set (n k : Nat) (G : Nat → Int) (x : Int) : ((List.range n).map G).set k x = (List.range n).map (fun j => if j = k then x else G j) := by
  apply List.ext_getElem?
  intro i
  rw [List.getElem?_set]
  by_cases e : k = i
  · subst e
    by_cases h : k < n
    · simp [h]
    · simp [h]
  · rw [if_neg e]
    by_cases h : i < n
    · simp [h, Ne.symm e]
    · simp [h]
theorem map_range_self (l : List Int) : (List.range l.length).map (fun k => l.getD k 0) = l := by
  apply List.ext_getElem?
  intro i
  by_cases h : i < l.length
  · simp [h]
  · simp [h]
theorem map_range_rev (l : List Int) : (List.range l.length).map (fun k => l.getD (l.length - 1 - k) 0) = l.reverse := by
  apply List.ext_getElem?
  intro i
  by_cases h : i < l.length
  · rw [List.getElem?_reverse h]
    simp [h, show l.length - 1 - i < l.length by omega]
  · simp [h]
end Go.Proofs.Ytnhoedodnbifdaa
