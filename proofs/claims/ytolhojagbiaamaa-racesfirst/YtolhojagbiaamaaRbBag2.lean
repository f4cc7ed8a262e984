import Derived.Test.YtolhojagbiaamaaRbBag
/-! The sets hold the bags: the beginning, a spawn. -/
namespace Go.Proofs.Ytolhojagbiaamaa
set_option linter.unusedVariables false
set_option maxRecDepth 20000
set_option linter.unusedSimpArgs false

def newR (rt : Nat → Nat) (T : Nat) : Nat → Nat := fun x => if x = T then T else rt x
theorem getD_appB (M : List Bool) (k : Nat) (hk : k < M.length) : (M ++ [false]).getD k false = M.getD k false := by
  rw [List.getD_eq_getElem?_getD, List.getD_eq_getElem?_getD, List.getElem?_append_left hk]
theorem getD_appB2 (M : List Bool) : (M ++ [false]).getD M.length false = false := by
  rw [List.getD_eq_getElem?_getD]
  simp
theorem getD_appZ (A : List Int) (k : Nat) (hk : k < A.length) : (A ++ [-1]).getD k 0 = A.getD k 0 := by
  rw [List.getD_eq_getElem?_getD, List.getD_eq_getElem?_getD, List.getElem?_append_left hk]
theorem getD_appZ2 (A : List Int) : (A ++ [-1]).getD A.length 0 = -1 := by
  rw [List.getD_eq_getElem?_getD]
  simp
theorem BagI.spawn {B : List Bg} {rt : Nat → Nat} {M : List Bool} {A : List Int} {T : Nat} (h : BagI B rt M A T) : BagI (⟨T, [T], []⟩ :: B) (newR rt T) (M ++ [false]) (A ++ [-1]) (T + 1) := by
  have hn : ∀ x ∈ allB B, newR rt T x = rt x := fun x hx => by unfold newR; rw [if_neg (by have := h.lt x hx; omega)]
  have hT : newR rt T T = T := by unfold newR; rw [if_pos rfl]
  have hMk : ∀ x ∈ allB B, (M ++ [false]).getD (rt x) false = M.getD (rt x) false := fun x hx => getD_appB _ _ (by rw [h.lm]; exact h.rlt x (h.lt x hx))
  have hidT : ∀ b ∈ B, b.id < T := fun b hb => h.lt _ (mem_all_P hb (h.ids b hb))
  have hA : ∀ b ∈ B, (A ++ [-1]).getD b.id 0 = A.getD b.id 0 := fun b hb => getD_appZ _ _ (by rw [h.la]; exact hidT b hb)
  have hall : allB (⟨T, [T], []⟩ :: B) = T :: allB B := by simp [allB]
  refine ⟨⟨?_, ?_, ?_, ?_⟩, ?_, ?_, ?_, ?_, by simp [h.lm], by simp [h.la]⟩
  · intro b hb x hx
    rcases List.mem_cons.1 hb with rfl | hb
    · simp only [List.mem_singleton] at hx
      subst hx
      simp only
      rw [hT]
      refine ⟨by first | rfl | trivial, ?_⟩
      have := getD_appB2 M
      rw [h.lm] at this
      exact this
    · rw [hn x (mem_all_P hb hx), hn b.id (mem_all_P hb (h.ids b hb)), hMk x (mem_all_P hb hx)]
      exact h.r.p b hb x hx
  · intro b hb x hx
    rcases List.mem_cons.1 hb with rfl | hb
    · simp at hx
    · obtain ⟨e, g1, g2, g3, g4⟩ := h.r.o b hb x hx
      exact ⟨e, by rw [hA b hb]; exact g1, g2, by rw [hn x (mem_all_O hb hx), hn e (mem_all_O hb g2)]; exact g3, by rw [hn x (mem_all_O hb hx), hMk x (mem_all_O hb hx)]; exact g4⟩
  · intro b hb hO
    rcases List.mem_cons.1 hb with rfl | hb
    · have := getD_appZ2 A
      rw [h.la] at this
      exact this
    · rw [hA b hb]
      exact h.r.none b hb hO
  · intro x y hx hy heq
    rw [hall] at hx hy
    rcases List.mem_cons.1 hx with hx1 | hx1
    · rcases List.mem_cons.1 hy with hy1 | hy1
      · exact ⟨_, List.mem_cons_self .., .inl ⟨by simp [hx1], by simp [hy1]⟩⟩
      · rw [hx1, hT, hn y hy1] at heq
        have := h.rlt y (h.lt y hy1)
        omega
    · rcases List.mem_cons.1 hy with hy1 | hy1
      · rw [hy1, hT, hn x hx1] at heq
        have := h.rlt x (h.lt x hx1)
        omega
      · rw [hn x hx1, hn y hy1] at heq
        obtain ⟨b, hb, hh⟩ := h.r.apart x y hx1 hy1 heq
        exact ⟨b, by simp [hb], hh⟩
  · intro b hb
    rcases List.mem_cons.1 hb with rfl | hb
    · simp
    · exact h.ids b hb
  · rw [hall]
    exact List.nodup_cons.2 ⟨fun hx => by have := h.lt T hx; omega, h.nd⟩
  · rw [hall]
    intro x hx
    rcases List.mem_cons.1 hx with rfl | hx
    · omega
    · have := h.lt x hx; omega
  · intro x hx
    unfold newR
    split
    · omega
    · have := h.rlt x (by omega); omega
theorem bag_zero : BagI [⟨0, [0], []⟩] (fun _ => 0) [false] [-1] 1 := by
  refine ⟨⟨?_, ?_, ?_, ?_⟩, ?_, ?_, ?_, ?_, rfl, rfl⟩
  · intro b hb x hx
    simp at hb
    subst hb
    exact ⟨rfl, rfl⟩
  · intro b hb x hx
    simp at hb
    subst hb
    simp at hx
  · intro b hb _
    simp at hb
    subst hb
    rfl
  · intro x y hx hy _
    simp [allB] at hx hy
    subst hx hy
    exact ⟨_, List.mem_cons_self .., .inl ⟨by simp, by simp⟩⟩
  · intro b hb
    simp at hb
    subst hb
    simp
  · simp [allB]
  · intro x hx
    simp [allB] at hx
    omega
  · intro x hx
    exact hx |> fun _ => by decide
/-- A task more among the ways up. -/
theorem Fo.more {U : List Nat} {rt d : Nat → Nat} (h : Fo U rt d) : Fo (U ++ [U.length]) (newR rt U.length) d := by
  have hlt : ∀ x, x < U.length → (U ++ [U.length]).getD x 0 = U.getD x 0 := fun x hx => by
    rw [List.getD_eq_getElem?_getD, List.getD_eq_getElem?_getD, List.getElem?_append_left hx]
  have hnw : (U ++ [U.length]).getD U.length 0 = U.length := by rw [List.getD_eq_getElem?_getD]; simp
  have hn : ∀ x, x < U.length → newR rt U.length x = rt x := fun x hx => by unfold newR; rw [if_neg (by omega)]
  have hT : newR rt U.length U.length = U.length := by unfold newR; rw [if_pos rfl]
  refine ⟨fun x hx => ?_, fun x hx e => ?_, fun x hx e => ?_, fun x hx => ?_⟩
  · simp at hx ⊢
    by_cases e : x = U.length
    · subst e; rw [List.getD_eq_getElem?_getD] at hnw; rw [hnw]; omega
    · have := h.up x (by omega)
      have h2 := hlt x (by omega)
      rw [List.getD_eq_getElem?_getD] at h2
      rw [h2]; omega
  · simp at hx
    by_cases e2 : x = U.length
    · subst e2; exact hT
    · rw [hlt x (by omega)] at e
      rw [hn x (by omega)]
      exact h.fix x (by omega) e
  · simp at hx
    by_cases e2 : x = U.length
    · subst e2; exact (e hnw).elim
    · rw [hlt x (by omega)] at e ⊢
      obtain ⟨m1, m2⟩ := h.mv x (by omega) e
      refine ⟨m1, ?_⟩
      rw [hn _ (h.up x (by omega)), hn x (by omega)]
      exact m2
  · simp at hx ⊢
    by_cases e2 : x = U.length
    · subst e2
      rw [hT]
      rw [List.getD_eq_getElem?_getD] at hnw
      exact ⟨by omega, hnw⟩
    · obtain ⟨r1, r2⟩ := h.root x (by omega)
      rw [hn x (by omega)]
      have h2 := hlt (rt x) r1
      rw [List.getD_eq_getElem?_getD] at h2
      exact ⟨by omega, by rw [h2]; exact r2⟩
end Go.Proofs.Ytolhojagbiaamaa
