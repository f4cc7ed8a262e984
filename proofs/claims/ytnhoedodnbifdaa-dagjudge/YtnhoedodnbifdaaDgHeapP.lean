import Derived.WalkKit
/-! A heap in a list, plainly. -/
namespace Go.Proofs.Ytnhoedodnbifdaa
set_option linter.unusedVariables false
set_option maxRecDepth 20000

def at' (l : List Int) (i : Nat) : Int := l.getD i 0
theorem at_set (l : List Int) (i j : Nat) (x : Int) (hi : i < l.length) : at' (l.set i x) j = if j = i then x else at' l j := by
  unfold at'
  simp only [List.getD_eq_getElem?_getD, List.getElem?_set]
  by_cases e : i = j
  · subst e; simp [hi]
  · simp [e, Ne.symm e]
theorem at_get {l : List Int} {i : Nat} (hi : i < l.length) : l[i]? = some (at' l i) := by
  unfold at'; simp [hi]
theorem at_mem {l : List Int} {i : Nat} (hi : i < l.length) : at' l i ∈ l := by
  unfold at'; simp [hi]
theorem mem_at {l : List Int} {x : Int} (h : x ∈ l) : ∃ i, i < l.length ∧ at' l i = x := by
  obtain ⟨i, hi, rfl⟩ := List.mem_iff_getElem.1 h
  exact ⟨i, hi, by simp [at', hi]⟩
/-- Two elements exchanged. -/
def sw (l : List Int) (a b : Nat) : List Int := (l.set a (at' l b)).set b (at' l a)
theorem sw_len (l : List Int) (a b : Nat) : (sw l a b).length = l.length := by simp [sw]
theorem at_sw (l : List Int) (a b j : Nat) (ha : a < l.length) (hb : b < l.length) : at' (sw l a b) j = if j = b then at' l a else if j = a then at' l b else at' l j := by
  unfold sw
  rw [at_set _ _ _ _ (by simpa using hb), at_set _ _ _ _ ha]
theorem sw_perm (l : List Int) (a b : Nat) (ha : a < l.length) (hb : b < l.length) : (sw l a b).Perm l := by
  have h := Array.swap_perm (xs := l.toArray) (i := a) (j := b) (by simpa using ha) (by simpa using hb)
  have e : (l.toArray.swap a b (by simpa using ha) (by simpa using hb)).toList = sw l a b := by
    simp [Array.swap, sw, at', ha, hb]
  rw [← e]
  exact h.toList

/-- No element stands ahead of the one at half its place. -/
def Hp (l : List Int) : Prop := ∀ i, 0 < i → i < l.length → at' l ((i - 1) / 2) ≤ at' l i
/-- As 'Hp', but at one place, which may be too small there. -/
structure Up (l : List Int) (p : Nat) : Prop where
  pos : p < l.length
  rest : ∀ i, 0 < i → i < l.length → i ≠ p → at' l ((i - 1) / 2) ≤ at' l i
  skip : ∀ c, 0 < p → c < l.length → 0 < c → (c - 1) / 2 = p → at' l ((p - 1) / 2) ≤ at' l c
theorem Up.start {l : List Int} (h : Hp l) (x : Int) : Up (l ++ [x]) l.length := by
  have ha : ∀ i, i < l.length → at' (l ++ [x]) i = at' l i := fun i hi => by simp [at', List.getElem?_append_left hi]
  refine ⟨by simp, fun i h0 hi hne => ?_, fun c _ hc _ hp => ?_⟩
  · simp at hi
    rw [ha _ (by omega), ha _ (by omega)]
    exact h i h0 (by omega)
  · simp at hc; omega
theorem Up.done {l : List Int} {p : Nat} (h : Up l p) (hp : p = 0 ∨ ¬ at' l p < at' l ((p - 1) / 2)) : Hp l := by
  intro i h0 hi
  by_cases e : i = p
  · subst e; omega
  · exact h.rest i h0 hi e
theorem Up.step {l : List Int} {p : Nat} (h : Up l p) (h0 : 0 < p) (hlt : at' l p < at' l ((p - 1) / 2)) : Up (sw l p ((p - 1) / 2)) ((p - 1) / 2) := by
  have hp := h.pos
  have hu : (p - 1) / 2 < l.length := by omega
  have hs := fun j => at_sw l p ((p - 1) / 2) j hp hu
  refine ⟨by rw [sw_len]; exact hu, fun i hi0 hi hne => ?_, fun c hq hc hc0 hcp => ?_⟩
  · rw [sw_len] at hi
    rw [hs, hs]
    rw [if_neg (show ¬ i = (p - 1) / 2 from hne)]
    by_cases e1 : i = p
    · subst e1
      simp; omega
    · rw [if_neg e1]
      by_cases e2 : (i - 1) / 2 = (p - 1) / 2
      · rw [if_pos e2]
        have := h.rest i hi0 hi e1
        rw [e2] at this
        omega
      · rw [if_neg e2]
        by_cases e3 : (i - 1) / 2 = p
        · rw [if_pos e3]
          exact h.skip i h0 hi hi0 e3
        · rw [if_neg e3]
          exact h.rest i hi0 hi e1
  · rw [sw_len] at hc
    rw [hs, hs]
    have a1 : ¬ ((p - 1) / 2 - 1) / 2 = (p - 1) / 2 := by omega
    have a2 : ¬ ((p - 1) / 2 - 1) / 2 = p := by omega
    rw [if_neg a1, if_neg a2]
    have b1 : ¬ c = (p - 1) / 2 := by omega
    rw [if_neg b1]
    have hg := h.rest ((p - 1) / 2) (by omega) hu (by omega)
    by_cases e : c = p
    · rw [if_pos e]; exact hg
    · rw [if_neg e]
      have := h.rest c hc0 hc e
      rw [hcp] at this
      omega
/-- As 'Hp', but at one place, which may be too great there. -/
structure Dn (l : List Int) (p : Nat) : Prop where
  rest : ∀ i, 0 < i → i < l.length → (i - 1) / 2 ≠ p → at' l ((i - 1) / 2) ≤ at' l i
  skip : ∀ c, 0 < p → c < l.length → 0 < c → (c - 1) / 2 = p → at' l ((p - 1) / 2) ≤ at' l c
/-- The place with the lesser element; a place behind the end holds none. -/
def leastV (l : List Int) (a b : Nat) : Nat := if b < l.length ∧ at' l b < at' l a then b else a
def downV (l : List Int) (p : Nat) : Nat := leastV l p (leastV l (2 * p + 1) (2 * p + 2))
theorem down_cases (l : List Int) (p : Nat) : (downV l p = p ∧ (∀ c, c < l.length → 0 < c → (c - 1) / 2 = p → at' l p ≤ at' l c)) ∨
    (downV l p < l.length ∧ p < downV l p ∧ (downV l p - 1) / 2 = p ∧ at' l (downV l p) < at' l p ∧ ∀ c, c < l.length → 0 < c → (c - 1) / 2 = p → at' l (downV l p) ≤ at' l c) := by
  have hc : ∀ c, 0 < c → (c - 1) / 2 = p → c = 2 * p + 1 ∨ c = 2 * p + 2 := by intro c h0 h1; omega
  unfold downV
  by_cases e2 : 2 * p + 2 < l.length ∧ at' l (2 * p + 2) < at' l (2 * p + 1)
  · rw [show leastV l (2 * p + 1) (2 * p + 2) = 2 * p + 2 by unfold leastV; rw [if_pos e2]]
    unfold leastV
    by_cases e1 : 2 * p + 2 < l.length ∧ at' l (2 * p + 2) < at' l p
    · rw [if_pos e1]
      refine .inr ⟨e1.1, by omega, by omega, e1.2, fun c hl h0 h1 => ?_⟩
      rcases hc c h0 h1 with rfl | rfl <;> omega
    · rw [if_neg e1]
      refine .inl ⟨rfl, fun c hl h0 h1 => ?_⟩
      rcases hc c h0 h1 with rfl | rfl <;> omega
  · rw [show leastV l (2 * p + 1) (2 * p + 2) = 2 * p + 1 by unfold leastV; rw [if_neg e2]]
    unfold leastV
    by_cases e1 : 2 * p + 1 < l.length ∧ at' l (2 * p + 1) < at' l p
    · rw [if_pos e1]
      refine .inr ⟨e1.1, by omega, by omega, e1.2, fun c hl h0 h1 => ?_⟩
      rcases hc c h0 h1 with rfl | rfl <;> omega
    · rw [if_neg e1]
      refine .inl ⟨rfl, fun c hl h0 h1 => ?_⟩
      rcases hc c h0 h1 with rfl | rfl <;> omega
theorem Dn.done {l : List Int} {p : Nat} (h : Dn l p) (e : downV l p = p) : Hp l := by
  rcases down_cases l p with ⟨_, hc⟩ | ⟨_, h2, _⟩
  · intro i h0 hi
    by_cases hp : (i - 1) / 2 = p
    · rw [hp]; exact hc i hi h0 hp
    · exact h.rest i h0 hi hp
  · omega
theorem Dn.step {l : List Int} {p : Nat} (h : Dn l p) (hp : p < l.length) (e : downV l p ≠ p) : Dn (sw l p (downV l p)) (downV l p) := by
  rcases down_cases l p with ⟨h1, _⟩ | ⟨hl, hlt, hpar, hsm, hmin⟩
  · exact absurd h1 e
  · obtain ⟨q, hq⟩ : ∃ q, q = downV l p := ⟨_, rfl⟩
    rw [← hq] at hl hlt hpar hsm hmin ⊢
    have hs := fun j => at_sw l p q j hp hl
    refine ⟨fun i h0 hi hne => ?_, fun c hq0 hc hc0 hcp => ?_⟩
    · rw [sw_len] at hi
      rw [hs, hs]
      rw [if_neg hne]
      by_cases e1 : i = q
      · subst e1
        rw [if_pos hpar, if_pos rfl]; omega
      · rw [if_neg e1]
        by_cases e2 : i = p
        · subst e2
          rw [if_pos rfl, if_neg (by omega)]
          exact h.skip q h0 hl (by omega) hpar
        · rw [if_neg e2]
          by_cases e3 : (i - 1) / 2 = p
          · rw [if_pos e3]
            exact hmin i hi h0 e3
          · rw [if_neg e3]
            exact h.rest i h0 hi e3
    · rw [sw_len] at hc
      rw [hs, hs]
      rw [hpar, if_neg (by omega), if_pos rfl, if_neg (by omega), if_neg (by omega)]
      have := h.rest c hc0 hc (by omega)
      rw [hcp] at this
      exact this
theorem Hp.head {l : List Int} (h : Hp l) : ∀ i, i < l.length → at' l 0 ≤ at' l i := by
  intro i
  induction i using Nat.strongRecOn with
  | ind i ih =>
    intro hi
    by_cases e : i = 0
    · subst e; exact Int.le_refl _
    · have h1 := h i (by omega) hi
      have h2 := ih ((i - 1) / 2) (by omega) (by omega)
      omega
/-- Behind the exchange of the first and the last one, without the last one. -/
theorem Dn.start {l : List Int} (h : Hp l) (h0 : 0 < l.length) : Dn ((sw l 0 (l.length - 1)).take (l.length - 1)) 0 := by
  have hs := fun j => at_sw l 0 (l.length - 1) j h0 (by omega)
  have ht : ∀ j, j < l.length - 1 → at' ((sw l 0 (l.length - 1)).take (l.length - 1)) j = at' (sw l 0 (l.length - 1)) j := by
    intro j hj
    unfold at'
    simp [hj]
  have hlen : ((sw l 0 (l.length - 1)).take (l.length - 1)).length = l.length - 1 := by rw [List.length_take, sw_len]; omega
  refine ⟨fun i hi0 hi hne => ?_, fun c hq => by omega⟩
  rw [hlen] at hi
  rw [ht _ (by omega), ht _ (by omega), hs, hs]
  rw [if_neg (by omega), if_neg (by omega), if_neg (by omega), if_neg (by omega)]
  exact h i hi0 (by omega)
theorem popped_perm {l : List Int} (h0 : 0 < l.length) : ((sw l 0 (l.length - 1)).take (l.length - 1) ++ [at' l 0]).Perm l := by
  have e : (sw l 0 (l.length - 1)).take (l.length - 1) ++ [at' l 0] = sw l 0 (l.length - 1) := by
    have h1 : (sw l 0 (l.length - 1))[l.length - 1]? = some (at' l 0) := by
      rw [at_get (by rw [sw_len]; omega), at_sw l 0 _ _ h0 (by omega), if_pos rfl]
    have h2 := List.take_append_drop (l.length - 1) (sw l 0 (l.length - 1))
    have h3 : (sw l 0 (l.length - 1)).drop (l.length - 1) = [at' l 0] := by
      rw [List.drop_eq_getElem_cons (by rw [sw_len]; omega)]
      rw [List.getElem?_eq_getElem (by rw [sw_len]; omega)] at h1
      injection h1 with h1
      rw [h1, List.drop_eq_nil_of_le (by rw [sw_len]; omega)]
    rw [h3] at h2
    exact h2
  rw [e]
  exact sw_perm l 0 _ h0 (by omega)

/-- What a heap holds: a set of nodes. -/
structure Of (l : List Int) (S : Nat → Prop) : Prop where
  hp : Hp l
  nd : l.Nodup
  pos : ∀ x ∈ l, 0 ≤ x
  mem : ∀ x : Nat, (x : Int) ∈ l ↔ S x
theorem Of.push {l l' : List Int} {S : Nat → Prop} (h : Of l S) {x : Nat} (hx : ¬ S x) (hp : Hp l') (pm : l'.Perm (l ++ [(x : Int)])) : Of l' (fun y => S y ∨ y = x) := by
  have hnx : ¬ (x : Int) ∈ l := fun hm => hx ((h.mem x).1 hm)
  refine ⟨hp, pm.nodup_iff.2 ?_, fun y hy => ?_, fun y => ?_⟩
  · rw [List.nodup_append]
    exact ⟨h.nd, by simp, fun a ha b hb => by simp at hb; subst hb; exact fun e => hnx (e ▸ ha)⟩
  · have := pm.mem_iff.1 hy
    rcases List.mem_append.1 this with h1 | h1
    · exact h.pos y h1
    · simp at h1; omega
  · rw [pm.mem_iff, List.mem_append, h.mem, List.mem_singleton]
    constructor
    · rintro (h1 | h1)
      · exact .inl h1
      · exact .inr (by omega)
    · rintro (h1 | h1)
      · exact .inl h1
      · exact .inr (by omega)
theorem Of.pop {l l' : List Int} {S : Nat → Prop} (h : Of l S) {r : Int} (hp : Hp l') (pm : (l' ++ [r]).Perm l) : Of l' (fun y => S y ∧ (y : Int) ≠ r) := by
  have nd := pm.nodup_iff.2 h.nd
  rw [List.nodup_append] at nd
  obtain ⟨n1, _, n2⟩ := nd
  refine ⟨hp, n1, fun y hy => h.pos y (pm.mem_iff.1 (List.mem_append.2 (.inl hy))), fun y => ?_⟩
  rw [← h.mem, ← pm.mem_iff, List.mem_append]
  constructor
  · intro hy
    exact ⟨.inl hy, n2 _ hy r (by simp)⟩
  · rintro ⟨hy | hy, hne⟩
    · exact hy
    · simp at hy; exact absurd hy hne
theorem Of.first {l : List Int} {S : Nat → Prop} (h : Of l S) (h0 : 0 < l.length) : ∃ r : Nat, at' l 0 = r ∧ S r ∧ ∀ y, S y → r ≤ y := by
  have hm := at_mem h0
  have hp := h.pos _ hm
  refine ⟨(at' l 0).toNat, by omega, ?_, fun y hy => ?_⟩
  · rw [← h.mem, Int.toNat_of_nonneg hp]; exact hm
  · obtain ⟨i, hi, e⟩ := mem_at ((h.mem y).2 hy)
    have := h.hp.head i hi
    omega
theorem Of.congr {l : List Int} {S T : Nat → Prop} (h : Of l S) (e : ∀ x, S x ↔ T x) : Of l T := ⟨h.hp, h.nd, h.pos, fun x => (h.mem x).trans (e x)⟩
end Go.Proofs.Ytnhoedodnbifdaa
