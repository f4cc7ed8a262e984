import Derived.Test.YtolhojagbiaamaaPkAH
import Derived.Test.YtolhojagbiaamaaPkAD
/-! The sets hold the bags, behind each kind of deed. -/
namespace Go.Proofs.Ytolhojagbiaamaa
set_option linter.unusedVariables false
set_option maxRecDepth 20000
set_option linter.unusedSimpArgs false

theorem mem_all_P {B : List Bg} {b : Bg} {x : Nat} (hb : b ∈ B) (hx : x ∈ b.P) : x ∈ allB B := by
  induction B with
  | nil => simp at hb
  | cons t r ih =>
    rw [allB_cons]
    rcases List.mem_cons.1 hb with rfl | hb
    · simp [hx]
    · simp [ih hb]
theorem mem_all_O {B : List Bg} {b : Bg} {x : Nat} (hb : b ∈ B) (hx : x ∈ b.O) : x ∈ allB B := by
  induction B with
  | nil => simp at hb
  | cons t r ih =>
    rw [allB_cons]
    rcases List.mem_cons.1 hb with rfl | hb
    · simp [hx]
    · simp [ih hb]
/-- The top's tasks are none of the others'. -/
theorem top_apart {t : Bg} {r : List Bg} (hnd : (allB (t :: r)).Nodup) : (∀ x, x ∈ t.P → x ∉ t.O) ∧ (∀ x, x ∈ t.P ∨ x ∈ t.O → x ∉ allB r) ∧ (allB r).Nodup := by
  rw [allB_cons, List.nodup_append] at hnd
  obtain ⟨n1, n2, n3⟩ := hnd
  rw [List.nodup_append] at n1
  refine ⟨fun x h1 h2 => n1.2.2 x h1 x h2 rfl, fun x h1 h2 => n3 x ?_ x h2 rfl, n2⟩
  rcases h1 with h1 | h1 <;> simp [h1]
theorem getD_setZ (A : List Int) (x y : Nat) (v : Int) (hx : x < A.length) : (A.set x v).getD y 0 = if y = x then v else A.getD y 0 := by
  rw [List.getD_eq_getElem?_getD, List.getD_eq_getElem?_getD, List.getElem?_set]
  by_cases h : y = x
  · subst h; simp [hx]
  · rw [if_neg (fun e => h e.symm), if_neg h]
theorem getD_setB (M : List Bool) (x y : Nat) (v : Bool) (hx : x < M.length) : (M.set x v).getD y false = if y = x then v else M.getD y false := by
  rw [List.getD_eq_getElem?_getD, List.getD_eq_getElem?_getD, List.getElem?_set]
  by_cases h : y = x
  · subst h; simp [hx]
  · rw [if_neg (fun e => h e.symm), if_neg h]
/-- What else is known of the bags and the sets. -/
structure BagI (B : List Bg) (rt : Nat → Nat) (M : List Bool) (A : List Int) (T : Nat) : Prop where
  r : BagR B rt M A T
  ids : ∀ b ∈ B, b.id ∈ b.P
  nd : (allB B).Nodup
  lt : ∀ x ∈ allB B, x < T
  rlt : ∀ x, x < T → rt x < T
  lm : M.length = T
  la : A.length = T
theorem late_ok {t : Bg} {r : List Bg} {rt : Nat → Nat} {M : List Bool} {A : List Int} {T : Nat} (h : BagI (t :: r) rt M A T) : LateOk rt A t.id T ∧ (A.getD t.id 0 = -1 → t.O = []) ∧ (∀ e : Nat, A.getD t.id 0 = (e : Int) → e ∈ t.O ∧ rt t.id ≠ rt e ∧ ∀ x ∈ t.O, rt x = rt e) := by
  have hid := h.ids t (by simp)
  have hO : A.getD t.id 0 = -1 → t.O = [] := by
    intro hA
    cases hO : t.O with
    | nil => rfl
    | cons x xs =>
      obtain ⟨e, h1, _⟩ := h.r.o t (by simp) x (by rw [hO]; simp)
      rw [hA] at h1
      omega
  have hE : ∀ e : Nat, A.getD t.id 0 = (e : Int) → e ∈ t.O ∧ rt t.id ≠ rt e ∧ ∀ x ∈ t.O, rt x = rt e := by
    intro e hA
    have hne : t.O ≠ [] := fun hn => by
      have := h.r.none t (by simp) hn
      omega
    obtain ⟨x, xs, hx⟩ := List.exists_cons_of_ne_nil hne
    obtain ⟨e', h1, h2, _⟩ := h.r.o t (by simp) x (by rw [hx]; simp)
    have he : e' = e := by omega
    subst he
    refine ⟨h2, fun heq => ?_, fun y hy => ?_⟩
    · have hm := (h.r.p t (by simp) t.id hid).2
      obtain ⟨_, _, _, _, hm2⟩ := h.r.o t (by simp) e' h2
      rw [heq, hm2] at hm
      cases hm
    · obtain ⟨e2, g1, g2, g3, _⟩ := h.r.o t (by simp) y hy
      have : e2 = e' := by omega
      rw [this] at g3
      exact g3
  refine ⟨?_, hO, hE⟩
  by_cases hA : A.getD t.id 0 = -1
  · exact .inl hA
  · right
    have hne : t.O ≠ [] := fun hn => hA (h.r.none t (by simp) hn)
    obtain ⟨x, xs, hx⟩ := List.exists_cons_of_ne_nil hne
    obtain ⟨e, h1, h2, _⟩ := h.r.o t (by simp) x (by rw [hx]; simp)
    exact ⟨e, h1, h.lt e (mem_all_O (b := t) (by simp) h2), (hE e h1).2.1⟩
/-- Roots of different bags are different. -/
theorem root_ne {t : Bg} {r : List Bg} {rt : Nat → Nat} {M : List Bool} {A : List Int} {T : Nat} (h : BagI (t :: r) rt M A T) {x y : Nat} (hx : x ∈ t.P ∨ x ∈ t.O) (hy : y ∈ allB r) : rt x ≠ rt y := by
  intro e
  obtain ⟨a1, a2, a3⟩ := top_apart h.nd
  have hxa : x ∈ allB (t :: r) := by rw [allB_cons]; rcases hx with hx | hx <;> simp [hx]
  have hya : y ∈ allB (t :: r) := by rw [allB_cons]; simp [hy]
  obtain ⟨b, hb, hh⟩ := h.r.apart x y hxa hya e
  rcases List.mem_cons.1 hb with rfl | hb
  · rcases hh with ⟨_, hh⟩ | ⟨_, hh⟩
    · exact a2 y (.inl hh) hy
    · exact a2 y (.inr hh) hy
  · rcases hh with ⟨hh, _⟩ | ⟨hh, _⟩
    · exact a2 x hx (mem_all_P hb hh)
    · exact a2 x hx (mem_all_O hb hh)
/-- A sync. -/
theorem BagI.sync {t : Bg} {r : List Bg} {rt : Nat → Nat} {M : List Bool} {A : List Int} {T : Nat} (h : BagI (t :: r) rt M A T) : BagI (⟨t.id, t.P ++ t.O, []⟩ :: r) (waitR rt A t.id) M (A.set t.id (-1)) T := by
  have hid := h.ids t (by simp)
  have hidT : t.id < T := h.lt _ (mem_all_P (b := t) (by simp) hid)
  obtain ⟨_, l2, l3⟩ := late_ok h
  obtain ⟨a1, a2, a3⟩ := top_apart h.nd
  have hall : allB (⟨t.id, t.P ++ t.O, []⟩ :: r) = allB (t :: r) := by simp [allB]
  have hidr : ∀ b ∈ r, b.id ≠ t.id := fun b hb e => a2 t.id (.inl hid) (mem_all_P hb (by rw [← e]; exact h.ids b (by simp [hb])))
  -- the roots behind the wait
  have hw : (∀ x ∈ t.P, waitR rt A t.id x = rt t.id) ∧ (∀ x ∈ t.O, waitR rt A t.id x = rt t.id) ∧ (∀ x ∈ allB r, waitR rt A t.id x = rt x) ∧ (∀ x, x < T → waitR rt A t.id x < T) ∧ ∀ x y, x ∈ allB r → (y ∈ t.P ∨ y ∈ t.O) → waitR rt A t.id x ≠ waitR rt A t.id y := by
    by_cases hA : A.getD t.id 0 = -1
    · have e : waitR rt A t.id = rt := by unfold waitR; rw [if_pos hA]
      have hO := l2 hA
      rw [e]
      exact ⟨fun x hx => (h.r.p t (by simp) x hx).1, fun x hx => by rw [hO] at hx; simp at hx, fun x _ => rfl, h.rlt, fun x y hx hy e => root_ne h hy hx e.symm⟩
    · obtain ⟨e0, h1⟩ : ∃ e0 : Nat, A.getD t.id 0 = (e0 : Int) := by
        rcases (late_ok h).1 with h1 | ⟨e0, h1, _⟩
        · exact (hA h1).elim
        · exact ⟨e0, h1⟩
      obtain ⟨g1, g2, g3⟩ := l3 e0 h1
      have e : waitR rt A t.id = joinR rt t.id e0 := by unfold waitR; rw [if_neg hA, h1]; rfl
      rw [e]
      have p1 : ∀ x ∈ t.P, joinR rt t.id e0 x = rt t.id := fun x hx => by
        unfold joinR
        rw [(h.r.p t (by simp) x hx).1, if_neg g2]
      have p2 : ∀ x ∈ t.O, joinR rt t.id e0 x = rt t.id := fun x hx => by
        unfold joinR
        rw [if_pos (g3 x hx)]
      have p3 : ∀ x ∈ allB r, joinR rt t.id e0 x = rt x := fun x hx => by
        unfold joinR
        rw [if_neg (fun e => root_ne h (.inr g1) hx e.symm)]
      refine ⟨p1, p2, p3, fun x hx => ?_, fun x y hx hy heq => ?_⟩
      · unfold joinR
        split
        · exact h.rlt _ hidT
        · exact h.rlt x hx
      · rw [p3 x hx] at heq
        have : joinR rt t.id e0 y = rt t.id := by rcases hy with hy | hy; exact p1 y hy; exact p2 y hy
        rw [this] at heq
        exact root_ne h (.inl hid) hx heq.symm
  obtain ⟨w1, w2, w3, w4, w5⟩ := hw
  have wid : waitR rt A t.id t.id = rt t.id := w1 _ hid
  have hget : ∀ b ∈ r, (A.set t.id (-1)).getD b.id 0 = A.getD b.id 0 := fun b hb => by rw [getD_setZ _ _ _ _ (by rw [h.la]; exact hidT), if_neg (hidr b hb)]
  refine ⟨⟨?_, ?_, ?_, ?_⟩, ?_, by rw [hall]; exact h.nd, by rw [hall]; exact h.lt, w4, h.lm, by rw [List.length_set]; exact h.la⟩
  · intro b hb x hx
    rcases List.mem_cons.1 hb with rfl | hb
    · have hx' : waitR rt A t.id x = rt t.id := by
        rcases List.mem_append.1 hx with hx | hx
        · exact w1 x hx
        · exact w2 x hx
      simp only
      rw [hx', wid]
      exact ⟨rfl, (h.r.p t (by simp) t.id hid).2⟩
    · have hb' : b ∈ t :: r := by simp [hb]
      rw [w3 x (mem_all_P hb hx), w3 b.id (mem_all_P hb (h.ids b hb'))]
      exact h.r.p b hb' x hx
  · intro b hb x hx
    rcases List.mem_cons.1 hb with rfl | hb
    · simp at hx
    · have hb' : b ∈ t :: r := by simp [hb]
      obtain ⟨e, g1, g2, g3, g4⟩ := h.r.o b hb' x hx
      exact ⟨e, by rw [hget b hb]; exact g1, g2, by rw [w3 x (mem_all_O hb hx), w3 e (mem_all_O hb g2)]; exact g3, by rw [w3 x (mem_all_O hb hx)]; exact g4⟩
  · intro b hb hO
    rcases List.mem_cons.1 hb with rfl | hb
    · simp only
      rw [getD_setZ _ _ _ _ (by rw [h.la]; exact hidT), if_pos rfl]
    · rw [hget b hb]
      exact h.r.none b (by simp [hb]) hO
  · intro x y hx hy heq
    rw [hall, allB_cons, List.mem_append, List.mem_append] at hx hy
    rcases hx with hx | hx
    · rcases hy with hy | hy
      · refine ⟨_, List.mem_cons_self .., .inl ⟨List.mem_append.2 hx, List.mem_append.2 hy⟩⟩
      · exact (w5 y x hy hx heq.symm).elim
    · rcases hy with hy | hy
      · exact (w5 x y hx hy heq).elim
      · rw [w3 x hx, w3 y hy] at heq
        obtain ⟨b, hb, hh⟩ := h.r.apart x y (by rw [allB_cons]; simp [hx]) (by rw [allB_cons]; simp [hy]) heq
        rcases List.mem_cons.1 hb with rfl | hb
        · exfalso
          rcases hh with ⟨hh, _⟩ | ⟨hh, _⟩
          · exact a2 x (.inl hh) hx
          · exact a2 x (.inr hh) hx
        · exact ⟨b, by simp [hb], hh⟩
  · intro b hb
    rcases List.mem_cons.1 hb with rfl | hb
    · exact List.mem_append.2 (.inl hid)
    · exact h.ids b (by simp [hb])
/-- What all of a bag's tasks come to. -/
theorem uO_root {t u : Bg} {r : List Bg} {rt : Nat → Nat} {M : List Bool} {A : List Int} {T : Nat} (h : BagI (t :: u :: r) rt M A T) : (A.getD u.id 0 = -1 → u.O = []) ∧ (∀ e : Nat, A.getD u.id 0 = (e : Int) → e ∈ u.O ∧ ∀ x ∈ u.O, rt x = rt e) ∧ (A.getD u.id 0 = -1 ∨ ∃ e : Nat, A.getD u.id 0 = (e : Int)) := by
  refine ⟨?_, ?_, ?_⟩
  · intro hA
    cases hO : u.O with
    | nil => rfl
    | cons x xs =>
      obtain ⟨e, h1, _⟩ := h.r.o u (by simp) x (by rw [hO]; simp)
      rw [hA] at h1
      omega
  · intro e hA
    have hne : u.O ≠ [] := fun hn => by
      have := h.r.none u (by simp) hn
      omega
    obtain ⟨x, xs, hx⟩ := List.exists_cons_of_ne_nil hne
    obtain ⟨e', h1, h2, _⟩ := h.r.o u (by simp) x (by rw [hx]; simp)
    have he : e' = e := by omega
    subst he
    refine ⟨h2, fun y hy => ?_⟩
    obtain ⟨e2, g1, g2, g3, _⟩ := h.r.o u (by simp) y hy
    have : e2 = e' := by omega
    rw [this] at g3
    exact g3
  · by_cases hO : u.O = []
    · exact .inl (h.r.none u (by simp) hO)
    · obtain ⟨x, xs, hx⟩ := List.exists_cons_of_ne_nil hO
      obtain ⟨e, h1, _⟩ := h.r.o u (by simp) x (by rw [hx]; simp)
      exact .inr ⟨e, h1⟩
/-- A return, behind its wait. -/
theorem BagI.ret {t u : Bg} {r : List Bg} {rt : Nat → Nat} {M : List Bool} {A : List Int} {T : Nat} (h : BagI (t :: u :: r) rt M A T) (hO : t.O = []) : BagI (⟨u.id, u.P, t.P ++ u.O⟩ :: r) (endR rt A u.id t.id) (M.set (rt t.id) true) (A.set u.id (t.id : Int)) T := by
  have hid := h.ids t (by simp)
  have hidT : t.id < T := h.lt _ (mem_all_P (b := t) (by simp) hid)
  have uid := h.ids u (by simp)
  have uidT : u.id < T := h.lt _ (mem_all_P (b := u) (by simp) uid)
  obtain ⟨a1, a2, a3⟩ := top_apart h.nd
  obtain ⟨b1, b2, b3⟩ := top_apart a3
  obtain ⟨u1, u2, u3⟩ := uO_root h
  have htP : ∀ x ∈ t.P, rt x = rt t.id := fun x hx => (h.r.p t (by simp) x hx).1
  have hrne : ∀ y, y ∈ allB (u :: r) → rt y ≠ rt t.id := fun y hy e => root_ne h (.inl hid) hy e.symm
  have hsub : ∀ b ∈ r, b ∈ t :: u :: r := fun b hb => by simp [hb]
  have hrid : ∀ b ∈ r, b.id ≠ u.id := fun b hb e => b2 u.id (.inl uid) (mem_all_P hb (by rw [← e]; exact h.ids b (hsub b hb)))
  have hget : ∀ b ∈ r, (A.set u.id (t.id : Int)).getD b.id 0 = A.getD b.id 0 := fun b hb => by rw [getD_setZ _ _ _ _ (by rw [h.la]; exact uidT), if_neg (hrid b hb)]
  have hgu : (A.set u.id (t.id : Int)).getD u.id 0 = (t.id : Int) := by rw [getD_setZ _ _ _ _ (by rw [h.la]; exact uidT), if_pos rfl]
  have hM : ∀ k, (M.set (rt t.id) true).getD k false = if k = rt t.id then true else M.getD k false := fun k => getD_setB _ _ _ _ (by rw [h.lm]; exact h.rlt _ hidT)
  have hperm : (allB (⟨u.id, u.P, t.P ++ u.O⟩ :: r)).Perm (allB (t :: u :: r)) := by
    rw [allB_cons, allB_cons, allB_cons, hO]
    simp only [List.append_nil]
    have h1 : (u.P ++ (t.P ++ u.O)).Perm (t.P ++ (u.P ++ u.O)) := by
      rw [← List.append_assoc, ← List.append_assoc]
      exact List.Perm.append_right _ List.perm_append_comm
    have h2 := h1.append_right (allB r)
    rwa [List.append_assoc t.P] at h2
  -- the roots behind it: those of the new late bag are one, the others as they were
  have hw : ∃ q : Nat, (∀ x, x ∈ t.P ∨ x ∈ u.O → endR rt A u.id t.id x = q) ∧ (∀ x, x ∈ u.P ∨ x ∈ allB r → endR rt A u.id t.id x = rt x ∧ rt x ≠ q) ∧ (M.set (rt t.id) true).getD q false = true ∧ (∀ x, x < T → endR rt A u.id t.id x < T) := by
    rcases u3 with hA | ⟨e, hA⟩
    · have he : endR rt A u.id t.id = rt := by unfold endR; rw [if_pos hA]
      rw [he]
      refine ⟨rt t.id, fun x hx => ?_, fun x hx => ⟨rfl, hrne x ?_⟩, by rw [hM, if_pos rfl], h.rlt⟩
      · rcases hx with hx | hx
        · exact htP x hx
        · rw [u1 hA] at hx; simp at hx
      · rw [allB_cons]
        rcases hx with hx | hx <;> simp [hx]
    · obtain ⟨g1, g2⟩ := u2 e hA
      have he : endR rt A u.id t.id = joinR rt e t.id := by unfold endR; rw [if_neg (by rw [hA]; omega), hA]; rfl
      rw [he]
      have heall : e ∈ allB (u :: r) := mem_all_O (b := u) (by simp) g1
      have hne : rt e ≠ rt t.id := hrne e heall
      have hj : ∀ x, x ∈ allB (u :: r) → joinR rt e t.id x = rt x := fun x hx => by unfold joinR; rw [if_neg (hrne x hx)]
      refine ⟨rt e, fun x hx => ?_, fun x hx => ?_, ?_, fun x hx => ?_⟩
      · rcases hx with hx | hx
        · unfold joinR; rw [if_pos (htP x hx)]
        · rw [hj x (mem_all_O (b := u) (by simp) hx)]; exact g2 x hx
      · have hxa : x ∈ allB (u :: r) := by
          rw [allB_cons]
          rcases hx with hx | hx <;> simp [hx]
        refine ⟨hj x hxa, fun heq => ?_⟩
        obtain ⟨b, hb, hh⟩ := h.r.apart x e (by rw [allB_cons]; simp [hxa]) (by rw [allB_cons]; simp [heall]) heq
        rcases List.mem_cons.1 hb with rfl | hb
        · rcases hh with ⟨hh, _⟩ | ⟨hh, _⟩
          · exact a2 x (.inl hh) hxa
          · exact a2 x (.inr hh) hxa
        · rcases List.mem_cons.1 hb with rfl | hb
          · rcases hh with ⟨_, hh⟩ | ⟨hh, _⟩
            · exact b1 e hh g1
            · rcases hx with hx | hx
              · exact b1 x hx hh
              · exact b2 x (.inr hh) hx
          · rcases hh with ⟨_, hh⟩ | ⟨_, hh⟩
            · exact b2 e (.inr g1) (mem_all_P hb hh)
            · exact b2 e (.inr g1) (mem_all_O hb hh)
      · rw [hM, if_neg hne]
        obtain ⟨_, _, _, _, g5⟩ := h.r.o u (by simp) e g1
        exact g5
      · unfold joinR
        split
        · exact h.rlt e (h.lt e (by rw [allB_cons]; simp [heall]))
        · exact h.rlt x hx
  obtain ⟨q, w1, w2, w3, w4⟩ := hw
  have hMP : ∀ b, b ∈ u :: r → ∀ x ∈ b.P, (M.set (rt t.id) true).getD (rt x) false = false := fun b hb x hx => by
    rw [hM, if_neg (hrne x (mem_all_P hb hx))]
    exact (h.r.p b (by simp; right; simpa using hb) x hx).2
  refine ⟨⟨?_, ?_, ?_, ?_⟩, ?_, hperm.nodup_iff.2 h.nd, fun x hx => h.lt x (hperm.mem_iff.1 hx), w4, by rw [List.length_set]; exact h.lm, by rw [List.length_set]; exact h.la⟩
  · intro b hb x hx
    rcases List.mem_cons.1 hb with rfl | hb
    · simp only at hx ⊢
      rw [(w2 x (.inl hx)).1, (w2 u.id (.inl uid)).1]
      exact ⟨(h.r.p u (by simp) x hx).1, hMP u (by simp) x hx⟩
    · rw [(w2 x (.inr (mem_all_P hb hx))).1, (w2 b.id (.inr (mem_all_P hb (h.ids b (hsub b hb))))).1]
      exact ⟨(h.r.p b (hsub b hb) x hx).1, hMP b (by simp [hb]) x hx⟩
  · intro b hb x hx
    rcases List.mem_cons.1 hb with rfl | hb
    · simp only at hx ⊢
      refine ⟨t.id, hgu, List.mem_append.2 (.inl hid), ?_, ?_⟩
      · rw [w1 x (List.mem_append.1 hx), w1 t.id (.inl hid)]
      · rw [w1 x (List.mem_append.1 hx)]; exact w3
    · obtain ⟨e, g1, g2, g3, g4⟩ := h.r.o b (hsub b hb) x hx
      refine ⟨e, by rw [hget b hb]; exact g1, g2, ?_, ?_⟩
      · rw [(w2 x (.inr (mem_all_O hb hx))).1, (w2 e (.inr (mem_all_O hb g2))).1]; exact g3
      · rw [(w2 x (.inr (mem_all_O hb hx))).1, hM, if_neg (hrne x (by rw [allB_cons]; simp [mem_all_O hb hx]))]
        exact g4
  · intro b hb hbO
    rcases List.mem_cons.1 hb with rfl | hb
    · simp only at hbO
      have := (List.append_eq_nil_iff.1 hbO).1
      rw [this] at hid
      simp at hid
    · rw [hget b hb]
      exact h.r.none b (hsub b hb) hbO
  · intro x y hx hy heq
    rw [allB_cons] at hx hy
    simp only [List.mem_append] at hx hy
    have side : ∀ z, ((z ∈ u.P ∨ (z ∈ t.P ∨ z ∈ u.O)) ∨ z ∈ allB r) → (z ∈ t.P ∨ z ∈ u.O) ∨ (z ∈ u.P ∨ z ∈ allB r) := by
      rintro z ((h | h) | h)
      · exact .inr (.inl h)
      · exact .inl h
      · exact .inr (.inr h)
    rcases side x hx with hx1 | hx1
    · rcases side y hy with hy1 | hy1
      · exact ⟨_, List.mem_cons_self .., .inr ⟨List.mem_append.2 hx1, List.mem_append.2 hy1⟩⟩
      · rw [w1 x hx1, (w2 y hy1).1] at heq
        exact ((w2 y hy1).2 heq.symm).elim
    · rcases side y hy with hy1 | hy1
      · rw [w1 y hy1, (w2 x hx1).1] at heq
        exact ((w2 x hx1).2 heq).elim
      · rw [(w2 x hx1).1, (w2 y hy1).1] at heq
        have hin : ∀ z, z ∈ u.P ∨ z ∈ allB r → z ∈ allB (u :: r) := fun z hz => by rw [allB_cons]; rcases hz with hz | hz <;> simp [hz]
        obtain ⟨b, hb, hh⟩ := h.r.apart x y (by rw [allB_cons]; simp [hin x hx1]) (by rw [allB_cons]; simp [hin y hy1]) heq
        rcases List.mem_cons.1 hb with rfl | hb
        · exfalso
          rcases hh with ⟨hh, _⟩ | ⟨hh, _⟩
          · exact a2 x (.inl hh) (hin x hx1)
          · exact a2 x (.inr hh) (hin x hx1)
        · rcases List.mem_cons.1 hb with rfl | hb
          · rcases hh with hh | ⟨hh, _⟩
            · exact ⟨_, List.mem_cons_self .., .inl hh⟩
            · exfalso
              rcases hx1 with hx1 | hx1
              · exact b1 x hx1 hh
              · exact b2 x (.inr hh) hx1
          · exact ⟨b, by simp [hb], hh⟩
  · intro b hb
    rcases List.mem_cons.1 hb with rfl | hb
    · exact uid
    · exact h.ids b (hsub b hb)
end Go.Proofs.Ytolhojagbiaamaa
/-! The sets hold the bags: the beginning, a spawn. -/
namespace Go.Proofs.Ytolhojagbiaamaa
set_option linter.unusedVariables false
set_option maxRecDepth 20000
set_option linter.unusedSimpArgs false

def newR (rt : Nat → Nat) (T : Nat) : Nat → Nat := fun x => if x = T then T else rt x
theorem getD_appB (M : List Bool) (k : Nat) (hk : k < M.length) : (M ++ [false]).getD k false = M.getD k false := by
  rw [List.getD_eq_getElem?_getD, List.getD_eq_getElem?_getD, List.getElem?_append_left hk]
theorem getD_appB2 (M : List Bool) : (M ++ [false]).getD M.length false = false := by
  rw [List.getD_eq_getElem?_getD]
  simp
theorem getD_appZ (A : List Int) (k : Nat) (hk : k < A.length) : (A ++ [-1]).getD k 0 = A.getD k 0 := by
  rw [List.getD_eq_getElem?_getD, List.getD_eq_getElem?_getD, List.getElem?_append_left hk]
theorem getD_appZ2 (A : List Int) : (A ++ [-1]).getD A.length 0 = -1 := by
  rw [List.getD_eq_getElem?_getD]
  simp
theorem BagI.spawn {B : List Bg} {rt : Nat → Nat} {M : List Bool} {A : List Int} {T : Nat} (h : BagI B rt M A T) : BagI (⟨T, [T], []⟩ :: B) (newR rt T) (M ++ [false]) (A ++ [-1]) (T + 1) := by
  have hn : ∀ x ∈ allB B, newR rt T x = rt x := fun x hx => by unfold newR; rw [if_neg (by have := h.lt x hx; omega)]
  have hT : newR rt T T = T := by unfold newR; rw [if_pos rfl]
  have hMk : ∀ x ∈ allB B, (M ++ [false]).getD (rt x) false = M.getD (rt x) false := fun x hx => getD_appB _ _ (by rw [h.lm]; exact h.rlt x (h.lt x hx))
  have hidT : ∀ b ∈ B, b.id < T := fun b hb => h.lt _ (mem_all_P hb (h.ids b hb))
  have hA : ∀ b ∈ B, (A ++ [-1]).getD b.id 0 = A.getD b.id 0 := fun b hb => getD_appZ _ _ (by rw [h.la]; exact hidT b hb)
  have hall : allB (⟨T, [T], []⟩ :: B) = T :: allB B := by simp [allB]
  refine ⟨⟨?_, ?_, ?_, ?_⟩, ?_, ?_, ?_, ?_, by simp [h.lm], by simp [h.la]⟩
  · intro b hb x hx
    rcases List.mem_cons.1 hb with rfl | hb
    · simp only [List.mem_singleton] at hx
      subst hx
      simp only
      rw [hT]
      refine ⟨by first | rfl | trivial, ?_⟩
      have := getD_appB2 M
      rw [h.lm] at this
      exact this
    · rw [hn x (mem_all_P hb hx), hn b.id (mem_all_P hb (h.ids b hb)), hMk x (mem_all_P hb hx)]
      exact h.r.p b hb x hx
  · intro b hb x hx
    rcases List.mem_cons.1 hb with rfl | hb
    · simp at hx
    · obtain ⟨e, g1, g2, g3, g4⟩ := h.r.o b hb x hx
      exact ⟨e, by rw [hA b hb]; exact g1, g2, by rw [hn x (mem_all_O hb hx), hn e (mem_all_O hb g2)]; exact g3, by rw [hn x (mem_all_O hb hx), hMk x (mem_all_O hb hx)]; exact g4⟩
  · intro b hb hO
    rcases List.mem_cons.1 hb with rfl | hb
    · have := getD_appZ2 A
      rw [h.la] at this
      exact this
    · rw [hA b hb]
      exact h.r.none b hb hO
  · intro x y hx hy heq
    rw [hall] at hx hy
    rcases List.mem_cons.1 hx with hx1 | hx1
    · rcases List.mem_cons.1 hy with hy1 | hy1
      · exact ⟨_, List.mem_cons_self .., .inl ⟨by simp [hx1], by simp [hy1]⟩⟩
      · rw [hx1, hT, hn y hy1] at heq
        have := h.rlt y (h.lt y hy1)
        omega
    · rcases List.mem_cons.1 hy with hy1 | hy1
      · rw [hy1, hT, hn x hx1] at heq
        have := h.rlt x (h.lt x hx1)
        omega
      · rw [hn x hx1, hn y hy1] at heq
        obtain ⟨b, hb, hh⟩ := h.r.apart x y hx1 hy1 heq
        exact ⟨b, by simp [hb], hh⟩
  · intro b hb
    rcases List.mem_cons.1 hb with rfl | hb
    · simp
    · exact h.ids b hb
  · rw [hall]
    exact List.nodup_cons.2 ⟨fun hx => by have := h.lt T hx; omega, h.nd⟩
  · rw [hall]
    intro x hx
    rcases List.mem_cons.1 hx with rfl | hx
    · omega
    · have := h.lt x hx; omega
  · intro x hx
    unfold newR
    split
    · omega
    · have := h.rlt x (by omega); omega
theorem bag_zero : BagI [⟨0, [0], []⟩] (fun _ => 0) [false] [-1] 1 := by
  refine ⟨⟨?_, ?_, ?_, ?_⟩, ?_, ?_, ?_, ?_, rfl, rfl⟩
  · intro b hb x hx
    simp at hb
    subst hb
    exact ⟨rfl, rfl⟩
  · intro b hb x hx
    simp at hb
    subst hb
    simp at hx
  · intro b hb _
    simp at hb
    subst hb
    rfl
  · intro x y hx hy _
    simp [allB] at hx hy
    subst hx hy
    exact ⟨_, List.mem_cons_self .., .inl ⟨by simp, by simp⟩⟩
  · intro b hb
    simp at hb
    subst hb
    simp
  · simp [allB]
  · intro x hx
    simp [allB] at hx
    omega
  · intro x hx
    exact hx |> fun _ => by decide
/-- A task more among the ways up. -/
theorem Fo.more {U : List Nat} {rt d : Nat → Nat} (h : Fo U rt d) : Fo (U ++ [U.length]) (newR rt U.length) d := by
  have hlt : ∀ x, x < U.length → (U ++ [U.length]).getD x 0 = U.getD x 0 := fun x hx => by
    rw [List.getD_eq_getElem?_getD, List.getD_eq_getElem?_getD, List.getElem?_append_left hx]
  have hnw : (U ++ [U.length]).getD U.length 0 = U.length := by rw [List.getD_eq_getElem?_getD]; simp
  have hn : ∀ x, x < U.length → newR rt U.length x = rt x := fun x hx => by unfold newR; rw [if_neg (by omega)]
  have hT : newR rt U.length U.length = U.length := by unfold newR; rw [if_pos rfl]
  refine ⟨fun x hx => ?_, fun x hx e => ?_, fun x hx e => ?_, fun x hx => ?_⟩
  · simp at hx ⊢
    by_cases e : x = U.length
    · subst e; rw [List.getD_eq_getElem?_getD] at hnw; rw [hnw]; omega
    · have := h.up x (by omega)
      have h2 := hlt x (by omega)
      rw [List.getD_eq_getElem?_getD] at h2
      rw [h2]; omega
  · simp at hx
    by_cases e2 : x = U.length
    · subst e2; exact hT
    · rw [hlt x (by omega)] at e
      rw [hn x (by omega)]
      exact h.fix x (by omega) e
  · simp at hx
    by_cases e2 : x = U.length
    · subst e2; exact (e hnw).elim
    · rw [hlt x (by omega)] at e ⊢
      obtain ⟨m1, m2⟩ := h.mv x (by omega) e
      refine ⟨m1, ?_⟩
      rw [hn _ (h.up x (by omega)), hn x (by omega)]
      exact m2
  · simp at hx ⊢
    by_cases e2 : x = U.length
    · subst e2
      rw [hT]
      rw [List.getD_eq_getElem?_getD] at hnw
      exact ⟨by omega, hnw⟩
    · obtain ⟨r1, r2⟩ := h.root x (by omega)
      rw [hn x (by omega)]
      have h2 := hlt (rt x) r1
      rw [List.getD_eq_getElem?_getD] at h2
      exact ⟨by omega, by rw [h2]; exact r2⟩
end Go.Proofs.Ytolhojagbiaamaa
/-! Sets of tasks in memory: begin. -/
namespace Go.Proofs.Ytolhojagbiaamaa
set_option linter.unusedVariables false
set_option maxRecDepth 20000
set_option linter.unusedSimpArgs false
open Go.RowKit Go.HeapKit

def RowB (w : World) (base : Nat) (v : Value) (M : List Bool) : Prop := w.ownsRow base 4 1 v M.length (bvs M)
theorem bvs_len (M : List Bool) : (bvs M).length = M.length := by simp [bvs]
theorem bool_more (base : Nat) (s : Value) (l : List Bool) (x : Bool) (ty : Nat) (w : World) (h : RowB w base s l) (hb : base ≤ w.heap.size) (hlen : l.length + 1 ≤ 140737488355328) {g0 : Nat}
    (hg0 : w.heap[g0]? = some (.cells #[.bool x] 4 (0, 0))) :
    ∃ g cap w', (Builtin.append_ #[57, 57] ty #[s, .slice (some ⟨g0, 0, none⟩) 1 1]).run Try.prog w = .ok (.slice (some ⟨g, 0, none⟩) (l.length + 1) cap) w' ∧
      RowB w' base (.slice (some ⟨g, 0, none⟩) (l.length + 1) cap) (l ++ [x]) ∧ Keeps (fun k => s.ownBlock = some k) w w' ∧ (s.ownBlock = some g ∨ w.heap.size ≤ g) := by
  obtain ⟨i0, hi, hz0, hz1, hz2⟩ := info_parts Try.infoBoolR
  obtain ⟨v', w1, hr, ho, hgr, hm, hk⟩ := run_append_apart (P := Try.prog) w base 57 ty 4 i0 _ 1 1 Try.underlying57 hi hz0 hz1 hz2 rfl (by decide) s l.length _ h
    ⟨g0, 0, none⟩ 1 1 [.bool x] rfl (by
      intro j u hu
      rw [show (⟨g0, 0, none⟩ : Addr).add j = ⟨g0, j, none⟩ by unfold Addr.add; split <;> simp_all, blk_cell hg0]
      simpa using hu) (by
      intro u hu
      simp at hu
      subst hu; rfl) (by unfold maxLen; omega) (by omega) hb
  obtain ⟨g, cap, rfl⟩ : ∃ g cap, v' = .slice (some ⟨g, 0, none⟩) (l.length + 1) cap := by
    rcases ho.2 with ⟨_, h0⟩ | ⟨b, cap, cur, rfl, _⟩
    · omega
    · exact ⟨b, cap, rfl⟩
  refine ⟨g, cap, w1, hr, by unfold RowB; simpa [bvs] using ho, (Keeps.refl _ w).andGrown hgr (fun k e => .inl e), ?_⟩
  rcases hm with hm | ⟨g', e, hg⟩
  · exact .inl (hm.symm.trans rfl)
  · simp [Value.ownBlock] at e; exact .inr (by omega)
/-- A block of the model's own book-keeping, or a box for a pointer to a sweep. -/
def bookO : Obj → Bool
  | .cells c t _ => decide (t = 71 ∧ c.size = 1)
  | .map _ _ => false
  | _ => true
def Bk (w : World) (i : Nat) : Prop := ∃ o, w.heap[i]? = some o ∧ bookO o = true
/-- What may be written: from a block on, and no book-keeping. -/
def Fp (w : World) (base : Nat) : Nat → Prop := fun i => base ≤ i ∧ ¬ Bk w i
theorem not_bk_cells {w : World} {i : Nat} {c : Array Value} {t : TypeId} {f : Nat × Nat} (h : w.heap[i]? = some (.cells c t f)) (ht : t ≠ 71 ∨ c.size ≠ 1) : ¬ Bk w i := by
  rintro ⟨o, h1, h2⟩
  rw [h] at h1
  cases h1
  have := of_decide_eq_true (h2 : decide _ = true)
  rcases ht with ht | ht
  · exact ht this.1
  · exact ht this.2
theorem not_bk_map {w : World} {i : Nat} {es : Array MapEntry} {cl : Nat} (h : w.heap[i]? = some (.map es cl)) : ¬ Bk w i := by
  rintro ⟨o, h1, h2⟩
  rw [h] at h1
  cases h1
  cases h2
theorem Fp.trans {w w1 w2 : World} {base : Nat} {T : Nat → Prop} (h : Keeps (Fp w base) w w1) (k : Keeps T w1 w2) (hT : ∀ i, T i → i < w.heap.size → base ≤ i ∧ ¬ Bk w1 i) : Keeps (Fp w base) w w2 :=
  Keeps.trans h k (fun i hi hl => ⟨(hT i hi hl).1, fun hb => (hT i hi hl).2 (by
    obtain ⟨o, h1, h2⟩ := hb
    exact ⟨o, (h.block i hl (fun hf => hf.2 ⟨o, h1, h2⟩)).trans h1, h2⟩)⟩)
theorem Fp.trans2 {w w1 w2 : World} {base : Nat} (h : Keeps (Fp w base) w w1) (k : Keeps (Fp w1 base) w1 w2) : Keeps (Fp w base) w w2 := Fp.trans h k (fun i hi _ => hi)
theorem Fp.low {w w1 : World} {base : Nat} (h : Keeps (Fp w base) w w1) : Keeps (fun i => base ≤ i) w w1 := h.mono (fun i hi _ => hi.1)
theorem Fp.book {w w1 : World} {base i : Nat} {o : Obj} (h : Keeps (Fp w base) w w1) (hi : w.heap[i]? = some o) (ho : bookO o = true) : w1.heap[i]? = some o :=
  (h.block i (blk_lt hi) (fun hf => hf.2 ⟨o, hi, ho⟩)).trans hi
theorem Fp.one {w : World} {base S : Nat} {w1 : World} (h : Keeps (· = S) w w1) (hb : base ≤ S) (hn : ¬ Bk w S) : Keeps (Fp w base) w w1 := h.mono (fun i e _ => by subst e; exact ⟨hb, hn⟩)
/-- The sets in memory, whatever their lists are. -/
structure SetV (w : World) (base S o : Nat) (U : List Int) (M : List Bool) (A : List Int) (vu vm vl : Value) : Prop where
  c0 : w.cell? ⟨S, o, none⟩ = some vu
  c1 : w.cell? ⟨S, o + 1, none⟩ = some vm
  c2 : w.cell? ⟨S, o + 2, none⟩ = some vl
  ru : RowZ w base vu U
  rm : RowB w base vm M
  rl : RowZ w base vl A
  ne : ∀ b, vu.ownBlock = some b → vl.ownBlock ≠ some b
  blk : ∃ c t, w.heap[S]? = some (.cells c t (0, 0)) ∧ t ≠ 3 ∧ t ≠ 4
section
variable {w w' : World} {base S o : Nat} {U A : List Int} {M : List Bool} {vu vm vl : Value}
theorem SetV.more (h : SetV w base S o U M A vu vm vl) (hk : Keeps None w w') : SetV w' base S o U M A vu vm vl := by
  obtain ⟨c, t, b1, b2, b3⟩ := h.blk
  exact ⟨hk.cell h.c0 (fun f => f), hk.cell h.c1 (fun f => f), hk.cell h.c2 (fun f => f), h.ru.more hk, row_kept h.rm hk (fun _ _ f => f), h.rl.more hk, h.ne, c, t, blk_kept b1 hk (fun f => f), b2, b3⟩
theorem SetV.nb (h : SetV w base S o U M A vu vm vl) : (∀ i, vu.ownBlock = some i → ¬ Bk w i) ∧ (∀ i, vm.ownBlock = some i → ¬ Bk w i) ∧ (∀ i, vl.ownBlock = some i → ¬ Bk w i) ∧ ¬ Bk w S := by
  obtain ⟨c, t, h1, h2, h3⟩ := h.blk
  have hlt : o + 1 < c.size := by
    have := h.c1
    rw [blk_cell h1] at this
    exact (Array.getElem?_eq_some_iff.1 this).1
  refine ⟨fun b hb => ?_, fun b hb => ?_, fun b hb => ?_, not_bk_cells h1 (.inr (by omega))⟩
  · obtain ⟨_, hu⟩ := own_block h.ru hb; exact not_bk_cells hu (.inl (by decide))
  · obtain ⟨_, hu⟩ := own_block h.rm hb; exact not_bk_cells hu (.inl (by decide))
  · obtain ⟨_, hu⟩ := own_block h.rl hb; exact not_bk_cells hu (.inl (by decide))
/-- What a begin writes. -/
def Fs (S : Nat) (vu vm vl : Value) : Nat → Prop := fun i => vu.ownBlock = some i ∨ vm.ownBlock = some i ∨ vl.ownBlock = some i ∨ i = S
theorem SetV.fp (h : SetV w base S o U M A vu vm vl) (hS : base ≤ S) {w2 : World} (hk : Keeps (Fs S vu vm vl) w w2) : Keeps (Fp w base) w w2 := hk.mono (fun i e _ => by
  rcases e with e | e | e | e
  · exact ⟨row_low h.ru e, h.nb.1 i e⟩
  · exact ⟨row_low h.rm e, h.nb.2.1 i e⟩
  · exact ⟨row_low h.rl e, h.nb.2.2.1 i e⟩
  · subst e; exact ⟨hS, h.nb.2.2.2⟩)
theorem cell_setne {w : World} {S i j : Nat} {v : Value} (h : i ≠ j) : (w.setCell ⟨S, i, none⟩ v).cell? ⟨S, j, none⟩ = w.cell? ⟨S, j, none⟩ := by
  cases hb : w.heap[S]? with
  | none => simp [World.cell?, World.setCell, Array.getElem?_modify, hb]
  | some o =>
    cases o with
    | cells c t fz => simp [World.cell?, World.setCell, Array.getElem?_modify, hb, Array.getElem?_setIfInBounds, h]
    | _ => simp [World.cell?, World.setCell, Array.getElem?_modify, hb]
theorem SetV.neS (h : SetV w base S o U M A vu vm vl) : (∀ b, vu.ownBlock = some b → b ≠ S) ∧ (∀ b, vm.ownBlock = some b → b ≠ S) ∧ (∀ b, vl.ownBlock = some b → b ≠ S) ∧ (∀ b, vu.ownBlock = some b → vm.ownBlock ≠ some b) ∧ (∀ b, vl.ownBlock = some b → vm.ownBlock ≠ some b) := by
  obtain ⟨c, t, h1, h2, h3⟩ := h.blk
  refine ⟨fun b hb => ?_, fun b hb => ?_, fun b hb => ?_, fun b hb hb2 => ?_, fun b hb hb2 => ?_⟩
  · obtain ⟨_, hu⟩ := own_block h.ru hb; exact (ne_of_types h1 hu h2).symm
  · obtain ⟨_, hu⟩ := own_block h.rm hb; exact (ne_of_types h1 hu h3).symm
  · obtain ⟨_, hu⟩ := own_block h.rl hb; exact (ne_of_types h1 hu h2).symm
  · obtain ⟨_, hu⟩ := own_block h.ru hb; obtain ⟨_, hm⟩ := own_block h.rm hb2; exact ne_of_types hu hm (by decide) rfl
  · obtain ⟨_, hu⟩ := own_block h.rl hb; obtain ⟨_, hm⟩ := own_block h.rm hb2; exact ne_of_types hu hm (by decide) rfl
/-- One more way up. -/
theorem SetV.appU (h : SetV w base S o U M A vu vm vl) (x : Int) (hb : base ≤ w.heap.size) (hlen : U.length ≤ 5000) {g0 : Nat} (hg0 : w.heap[g0]? = some (.cells #[.int .i64 x] 3 (0, 0))) :
    ∃ g c w', (Builtin.append_ #[33, 33] 33 #[vu, .slice (some ⟨g0, 0, none⟩) 1 1]).run Try.prog w = .ok (.slice (some ⟨g, 0, none⟩) (U.length + 1) c) w' ∧ w'.cell? ⟨S, o, none⟩ = some vu ∧ w'.frozen? ⟨S, o, none⟩ = false ∧
      SetV (w'.setCell ⟨S, o, none⟩ (.slice (some ⟨g, 0, none⟩) (U.length + 1) c)) base S o (U ++ [x]) M A (.slice (some ⟨g, 0, none⟩) (U.length + 1) c) vm vl ∧ Keeps (fun i => vu.ownBlock = some i ∨ i = S) w (w'.setCell ⟨S, o, none⟩ (.slice (some ⟨g, 0, none⟩) (U.length + 1) c)) ∧ (∀ i, i ≠ o → (w'.setCell ⟨S, o, none⟩ (.slice (some ⟨g, 0, none⟩) (U.length + 1) c)).cell? ⟨S, i, none⟩ = w.cell? ⟨S, i, none⟩) ∧ (vu.ownBlock = some g ∨ w.heap.size ≤ g) := by
  obtain ⟨g, c, w1, hr, hR, hk, hm⟩ := intZ_more base vu U x 33 w h.ru hb (by omega) hg0
  obtain ⟨n1, n2, n3, n4, n5⟩ := h.neS
  obtain ⟨cc, t, b1, b2, b3⟩ := h.blk
  have hS : ∀ b, vu.ownBlock = some b → b ≠ S := n1
  have b1' := blk_kept b1 hk (fun e => hS _ e rfl)
  have hk2 : Keeps (· = S) w1 (w1.setCell ⟨S, o, none⟩ (.slice (some ⟨g, 0, none⟩) (U.length + 1) c)) := keeps_one (Keeps.refl _ _) _
  have hgS : g ≠ S := by
    rcases hm with hm | ⟨hm, _⟩
    · exact n1 g hm
    · have := blk_lt b1; omega
  have hcell : ∀ i, w1.cell? ⟨S, i, none⟩ = w.cell? ⟨S, i, none⟩ := fun i => by rw [blk_cell b1', blk_cell b1]
  have hlt : o < cc.size := by
    have := h.c0
    rw [blk_cell b1] at this
    exact (Array.getElem?_eq_some_iff.1 this).1
  refine ⟨g, c, w1, hr, by rw [hcell]; exact h.c0, blk_free b1' _, ⟨?_, ?_, ?_, ?_, ?_, ?_, ?_, cc.setIfInBounds o _, t, blk_set b1' _, b2, b3⟩, (hk.mono (fun i e _ => .inl e)).trans hk2 (fun i e _ => .inr e), fun i hi => by rw [cell_setne (Ne.symm hi), hcell], by rcases hm with hm | ⟨hm, _⟩; exact .inl hm; exact .inr hm⟩
  · rw [blk_cell (blk_set b1' _)]; simp [hlt]
  · rw [cell_setne (by omega), hcell]; exact h.c1
  · rw [cell_setne (by omega), hcell]; exact h.c2
  · have : RowZ w1 base (.slice (some ⟨g, 0, none⟩) (U.length + 1) c) (U ++ [x]) := hR
    exact this.kept hk2 (fun b e => by simp [Value.ownBlock] at e; subst e; exact hgS)
  · exact row_kept (row_kept h.rm hk (fun b e e2 => n4 b e2 e)) hk2 (fun b e => n2 b e)
  · exact (h.rl.kept hk (fun b e e2 => h.ne b e2 e)).kept hk2 (fun b e => n3 b e)
  · intro b e1 e2
    simp [Value.ownBlock] at e1
    subst e1
    rcases hm with hm | ⟨hm, _⟩
    · exact h.ne g hm e2
    · have := own_lt h.rl e2; omega
/-- One more late one. -/
theorem SetV.appA (h : SetV w base S o U M A vu vm vl) (x : Int) (hb : base ≤ w.heap.size) (hlen : A.length ≤ 5000) {g0 : Nat} (hg0 : w.heap[g0]? = some (.cells #[.int .i64 x] 3 (0, 0))) :
    ∃ g c w', (Builtin.append_ #[33, 33] 33 #[vl, .slice (some ⟨g0, 0, none⟩) 1 1]).run Try.prog w = .ok (.slice (some ⟨g, 0, none⟩) (A.length + 1) c) w' ∧ w'.cell? ⟨S, o + 2, none⟩ = some vl ∧ w'.frozen? ⟨S, o + 2, none⟩ = false ∧
      SetV (w'.setCell ⟨S, o + 2, none⟩ (.slice (some ⟨g, 0, none⟩) (A.length + 1) c)) base S o U M (A ++ [x]) vu vm (.slice (some ⟨g, 0, none⟩) (A.length + 1) c) ∧ Keeps (fun i => vl.ownBlock = some i ∨ i = S) w (w'.setCell ⟨S, o + 2, none⟩ (.slice (some ⟨g, 0, none⟩) (A.length + 1) c)) ∧ (∀ i, i ≠ o + 2 → (w'.setCell ⟨S, o + 2, none⟩ (.slice (some ⟨g, 0, none⟩) (A.length + 1) c)).cell? ⟨S, i, none⟩ = w.cell? ⟨S, i, none⟩) ∧ (vl.ownBlock = some g ∨ w.heap.size ≤ g) := by
  obtain ⟨g, c, w1, hr, hR, hk, hm⟩ := intZ_more base vl A x 33 w h.rl hb (by omega) hg0
  obtain ⟨n1, n2, n3, n4, n5⟩ := h.neS
  obtain ⟨cc, t, b1, b2, b3⟩ := h.blk
  have b1' := blk_kept b1 hk (fun e => n3 _ e rfl)
  have hk2 : Keeps (· = S) w1 (w1.setCell ⟨S, o + 2, none⟩ (.slice (some ⟨g, 0, none⟩) (A.length + 1) c)) := keeps_one (Keeps.refl _ _) _
  have hgS : g ≠ S := by
    rcases hm with hm | ⟨hm, _⟩
    · exact n3 g hm
    · have := blk_lt b1; omega
  have hcell : ∀ i, w1.cell? ⟨S, i, none⟩ = w.cell? ⟨S, i, none⟩ := fun i => by rw [blk_cell b1', blk_cell b1]
  have hlt : o + 2 < cc.size := by
    have := h.c2
    rw [blk_cell b1] at this
    exact (Array.getElem?_eq_some_iff.1 this).1
  refine ⟨g, c, w1, hr, by rw [hcell]; exact h.c2, blk_free b1' _, ⟨?_, ?_, ?_, ?_, ?_, ?_, ?_, cc.setIfInBounds (o + 2) _, t, blk_set b1' _, b2, b3⟩, (hk.mono (fun i e _ => .inl e)).trans hk2 (fun i e _ => .inr e), fun i hi => by rw [cell_setne (Ne.symm hi), hcell], by rcases hm with hm | ⟨hm, _⟩; exact .inl hm; exact .inr hm⟩
  · rw [cell_setne (by omega), hcell]; exact h.c0
  · rw [cell_setne (by omega), hcell]; exact h.c1
  · rw [blk_cell (blk_set b1' _)]; simp [hlt]
  · exact (h.ru.kept hk (fun b e e2 => h.ne b e e2)).kept hk2 (fun b e => n1 b e)
  · exact row_kept (row_kept h.rm hk (fun b e e2 => n5 b e2 e)) hk2 (fun b e => n2 b e)
  · have : RowZ w1 base (.slice (some ⟨g, 0, none⟩) (A.length + 1) c) (A ++ [x]) := hR
    exact this.kept hk2 (fun b e => by simp [Value.ownBlock] at e; subst e; exact hgS)
  · intro b e1 e2
    simp [Value.ownBlock] at e2
    subst e2
    rcases hm with hm | ⟨hm, _⟩
    · exact h.ne g e1 hm
    · have := own_lt h.ru e1; omega
/-- One more mark. -/
theorem SetV.appM (h : SetV w base S o U M A vu vm vl) (x : Bool) (hb : base ≤ w.heap.size) (hlen : M.length ≤ 5000) {g0 : Nat} (hg0 : w.heap[g0]? = some (.cells #[.bool x] 4 (0, 0))) :
    ∃ g c w', (Builtin.append_ #[57, 57] 57 #[vm, .slice (some ⟨g0, 0, none⟩) 1 1]).run Try.prog w = .ok (.slice (some ⟨g, 0, none⟩) (M.length + 1) c) w' ∧ w'.cell? ⟨S, o + 1, none⟩ = some vm ∧ w'.frozen? ⟨S, o + 1, none⟩ = false ∧
      SetV (w'.setCell ⟨S, o + 1, none⟩ (.slice (some ⟨g, 0, none⟩) (M.length + 1) c)) base S o U (M ++ [x]) A vu (.slice (some ⟨g, 0, none⟩) (M.length + 1) c) vl ∧ Keeps (fun i => vm.ownBlock = some i ∨ i = S) w (w'.setCell ⟨S, o + 1, none⟩ (.slice (some ⟨g, 0, none⟩) (M.length + 1) c)) ∧ (∀ i, i ≠ o + 1 → (w'.setCell ⟨S, o + 1, none⟩ (.slice (some ⟨g, 0, none⟩) (M.length + 1) c)).cell? ⟨S, i, none⟩ = w.cell? ⟨S, i, none⟩) := by
  obtain ⟨g, c, w1, hr, hR, hk, hm⟩ := bool_more base vm M x 57 w h.rm hb (by omega) hg0
  obtain ⟨n1, n2, n3, n4, n5⟩ := h.neS
  obtain ⟨cc, t, b1, b2, b3⟩ := h.blk
  have b1' := blk_kept b1 hk (fun e => n2 _ e rfl)
  have hk2 : Keeps (· = S) w1 (w1.setCell ⟨S, o + 1, none⟩ (.slice (some ⟨g, 0, none⟩) (M.length + 1) c)) := keeps_one (Keeps.refl _ _) _
  have hgS : g ≠ S := by
    rcases hm with hm | hm
    · exact n2 g hm
    · have := blk_lt b1; omega
  have hcell : ∀ i, w1.cell? ⟨S, i, none⟩ = w.cell? ⟨S, i, none⟩ := fun i => by rw [blk_cell b1', blk_cell b1]
  have hlt : o + 1 < cc.size := by
    have := h.c1
    rw [blk_cell b1] at this
    exact (Array.getElem?_eq_some_iff.1 this).1
  refine ⟨g, c, w1, hr, by rw [hcell]; exact h.c1, blk_free b1' _, ⟨?_, ?_, ?_, ?_, ?_, ?_, h.ne, cc.setIfInBounds (o + 1) _, t, blk_set b1' _, b2, b3⟩, (hk.mono (fun i e _ => .inl e)).trans hk2 (fun i e _ => .inr e), fun i hi => by rw [cell_setne (Ne.symm hi), hcell]⟩
  · rw [cell_setne (by omega), hcell]; exact h.c0
  · rw [blk_cell (blk_set b1' _)]; simp [hlt]
  · rw [cell_setne (by omega), hcell]; exact h.c2
  · exact (h.ru.kept hk (fun b e e2 => n4 b e e2)).kept hk2 (fun b e => n1 b e)
  · have : RowB w1 base (.slice (some ⟨g, 0, none⟩) (M.length + 1) c) (M ++ [x]) := hR
    exact row_kept this hk2 (fun b e => by simp [Value.ownBlock] at e; subst e; exact hgS)
  · exact (h.rl.kept hk (fun b e e2 => n5 b e e2)).kept hk2 (fun b e => n3 b e)
end
set_option maxHeartbeats 1600000 in
theorem begin_ok (w : World) (base S o : Nat) (U A : List Int) (M : List Bool) (vu vm vl : Value) (h : SetV w base S o U M A vu vm vl) (hl1 : M.length = U.length) (hl2 : A.length = U.length) (hn : U.length ≤ 5000) (hb : base ≤ w.heap.size) (hbS : base ≤ S) :
    Calls Try.prog 53 #[.pointer (some ⟨S, o, none⟩)] w fun e w' => e = .returned (.int .i64 (U.length : Nat)) ∧ (∃ gu cu gm cm gl cl, SetV w' base S o (U ++ [(U.length : Int)]) (M ++ [false]) (A ++ [-1]) (.slice (some ⟨gu, 0, none⟩) (U.length + 1) cu) (.slice (some ⟨gm, 0, none⟩) (U.length + 1) cm) (.slice (some ⟨gl, 0, none⟩) (U.length + 1) cl) ∧ (vu.ownBlock = some gu ∨ w.heap.size ≤ gu) ∧ (vl.ownBlock = some gl ∨ w.heap.size ≤ gl)) ∧ Keeps (Fs S vu vm vl) w w' ∧ (∀ i, i ≠ o → i ≠ o + 1 → i ≠ o + 2 → w'.cell? ⟨S, i, none⟩ = w.cell? ⟨S, i, none⟩) := by
  obtain ⟨ua, uc, hvu, _⟩ := h.ru.shape
  subst hvu
  obtain ⟨T, hT⟩ : ∃ T, T = U.length := ⟨_, rfl⟩
  have c0 := h.c0
  have kA := Keeps.alloc None w (.cells #[.int .i64 (T : Int)] 3)
  obtain ⟨g1, c1, w1, hr1, x1, y1, hV1, hk1, hc1, hm1⟩ := (h.more kA).appU (T : Int) (by simp; omega) hn (heap_alloc_new w _)
  rw [← hT] at c0 hr1 x1 hV1 hk1 hc1 hm1
  have k1 : Keeps (Fs S (.slice ua T uc) vm vl) w (w1.setCell ⟨S, o, none⟩ (.slice (some ⟨g1, 0, none⟩) (T + 1) c1)) := (kA.mono (fun _ f _ => f.elim)).trans hk1 (fun i e _ => by
    rcases e with e | e
    · exact .inl e
    · exact .inr (.inr (.inr e)))
  have d1 : ∀ i, i ≠ o → (w1.setCell ⟨S, o, none⟩ (.slice (some ⟨g1, 0, none⟩) (T + 1) c1)).cell? ⟨S, i, none⟩ = w.cell? ⟨S, i, none⟩ := fun i hi => by
    rw [hc1 i hi]
    obtain ⟨cc, t, b1, _⟩ := h.blk
    rw [blk_cell (blk_kept b1 kA (fun f => f)), blk_cell b1]
  obtain ⟨W1, hW1⟩ : ∃ W1, W1 = w1.setCell ⟨S, o, none⟩ (.slice (some ⟨g1, 0, none⟩) (T + 1) c1) := ⟨_, rfl⟩
  have hs1 : base ≤ W1.heap.size := by rw [hW1]; have := k1.size; omega
  have hV1' : SetV W1 base S o (U ++ [(T : Int)]) M A (.slice (some ⟨g1, 0, none⟩) (T + 1) c1) vm vl := by rw [hW1]; exact hV1
  have k1' : Keeps (Fs S (.slice ua T uc) vm vl) w W1 := by rw [hW1]; exact k1
  have d1' : ∀ i, i ≠ o → W1.cell? ⟨S, i, none⟩ = w.cell? ⟨S, i, none⟩ := by rw [hW1]; exact d1
  have m1 := hV1'.c1
  have kB := Keeps.alloc None W1 (.cells #[.bool false] 4)
  obtain ⟨g2, c2, w2, hr2, x2, y2, hV2, hk2, hc2⟩ := (hV1'.more kB).appM false (by simp; omega) (by omega) (heap_alloc_new W1 _)
  rw [hl1, ← hT] at hr2 hV2 hk2 hc2
  obtain ⟨W2, hW2⟩ : ∃ W2, W2 = w2.setCell ⟨S, o + 1, none⟩ (.slice (some ⟨g2, 0, none⟩) (T + 1) c2) := ⟨_, rfl⟩
  have k2' : Keeps (Fs S (.slice ua T uc) vm vl) w W2 := by
    rw [hW2]
    refine (k1'.trans kB (fun _ f _ => f.elim)).trans hk2 (fun i e _ => ?_)
    rcases e with e | e
    · exact .inr (.inl e)
    · exact .inr (.inr (.inr e))
  have hV2' : SetV W2 base S o (U ++ [(T : Int)]) (M ++ [false]) A (.slice (some ⟨g1, 0, none⟩) (T + 1) c1) (.slice (some ⟨g2, 0, none⟩) (T + 1) c2) vl := by rw [hW2]; exact hV2
  have d2' : ∀ i, i ≠ o → i ≠ o + 1 → W2.cell? ⟨S, i, none⟩ = w.cell? ⟨S, i, none⟩ := fun i h1 h2 => by
    rw [hW2, hc2 i h2]
    obtain ⟨cc, t, b1, _⟩ := hV1'.blk
    rw [blk_cell (blk_kept b1 kB (fun f => f)), ← blk_cell b1]
    exact d1' i h1
  have hs2 : base ≤ W2.heap.size := by have := k2'.size; omega
  have l1 := hV2'.c2
  have kC := Keeps.alloc None W2 (.cells #[.int .i64 (-1)] 3)
  obtain ⟨g3, c3, w3, hr3, x3, y3, hV3, hk3, hc3, hm3⟩ := (hV2'.more kC).appA (-1) (by simp; omega) (by omega) (heap_alloc_new W2 _)
  rw [hl2, ← hT] at hr3 hV3 hk3 hc3
  have HN : Hid ((∃ gu cu gm cm gl cl, SetV (w3.setCell ⟨S, o + 2, none⟩ (.slice (some ⟨g3, 0, none⟩) (T + 1) c3)) base S o (U ++ [(T : Int)]) (M ++ [false]) (A ++ [-1]) (.slice (some ⟨gu, 0, none⟩) (T + 1) cu) (.slice (some ⟨gm, 0, none⟩) (T + 1) cm) (.slice (some ⟨gl, 0, none⟩) (T + 1) cl) ∧ ((Value.slice ua T uc).ownBlock = some gu ∨ w.heap.size ≤ gu) ∧ (vl.ownBlock = some gl ∨ w.heap.size ≤ gl)) ∧ Keeps (Fs S (.slice ua T uc) vm vl) w (w3.setCell ⟨S, o + 2, none⟩ (.slice (some ⟨g3, 0, none⟩) (T + 1) c3)) ∧ (∀ i, i ≠ o → i ≠ o + 1 → i ≠ o + 2 → (w3.setCell ⟨S, o + 2, none⟩ (.slice (some ⟨g3, 0, none⟩) (T + 1) c3)).cell? ⟨S, i, none⟩ = w.cell? ⟨S, i, none⟩)) := by
    refine ⟨⟨g1, c1, g2, c2, g3, c3, hV3, ?_, ?_⟩, (k2'.trans kC (fun _ f _ => f.elim)).trans hk3 (fun i e _ => ?_), fun i h1 h2 h3 => ?_⟩
    · rcases hm1 with hm1 | hm1
      · exact .inl hm1
      · have := kA.size; exact .inr (by omega)
    · rcases hm3 with hm3 | hm3
      · exact .inl hm3
      · have := k2'.size; have := kC.size; exact .inr (by omega)
    · rcases e with e | e
      · exact .inr (.inr (.inl e))
      · exact .inr (.inr (.inr e))
    · rw [hc3 i h3]
      obtain ⟨cc, t, b1, _⟩ := hV2'.blk
      rw [blk_cell (blk_kept b1 kC (fun f => f)), ← blk_cell b1]
      exact d2' i h1 h2
  rw [← hT]
  have HT : Hid (T = U.length) := hT
  have HW1 : Hid (W1 = w1.setCell ⟨S, o, none⟩ (.slice (some ⟨g1, 0, none⟩) (T + 1) c1)) := hW1
  have HW2 : Hid (W2 = w2.setCell ⟨S, o + 1, none⟩ (.slice (some ⟨g2, 0, none⟩) (T + 1) c2)) := hW2
  clear h hl1 hl2 kA hV1 hk1 hc1 k1 d1 hs1 hV1' k1' d1' kB hV2 hk2 hc2 k2' hV2' d2' hs2 kC hV3 hk3 hc3 hm1 hm3 hT hW1 hW2
  go_enter Try.func53, Try.ntmps53
  go_upto_region 3 with (at_builtin; refine wpList_append_run rfl (.tmp 13) (.tmp 15) 33 33 rfl rfl rfl hr1 ?_)
  rw [← HW1.out]
  clear hr1 x1 y1 c0
  go_upto_region 4 with (at_builtin; refine wpList_append_run rfl (.tmp 23) (.tmp 24) 57 57 rfl rfl rfl hr2 ?_)
  rw [← HW2.out]
  clear hr2 x2 y2 m1
  go_wp2_with (at_builtin; refine wpList_append_run rfl (.tmp 32) (.tmp 33) 33 33 rfl rfl rfl hr3 ?_)
  go_ret
  exact ⟨rfl, HN.out⟩
end Go.Proofs.Ytolhojagbiaamaa
/-! The sweep: who stands for both. -/
namespace Go.Proofs.Ytolhojagbiaamaa
set_option linter.unusedVariables false
set_option maxRecDepth 20000
set_option linter.unusedSimpArgs false
open Go.RowKit Go.HeapKit

theorem SetV.toM {w : World} {base S o gu cu gm cm gl cl : Nat} {U : List Nat} {M : List Bool} {A : List Int} (h : SetV w base S o (natZ U) M A (.slice (some ⟨gu, 0, none⟩) U.length cu) (.slice (some ⟨gm, 0, none⟩) U.length cm) (.slice (some ⟨gl, 0, none⟩) U.length cl)) (h1 : M.length = U.length) (h2 : A.length = U.length) : SetM w base S o U M A gu cu gm cm gl cl :=
  ⟨h.c0, h.c1, h.c2, h.ru, by have := h.rm; unfold RowB at this; rw [h1] at this; exact this, h.rl, h1, h2, fun e => h.ne gu rfl (by rw [e]; rfl), h.blk⟩
theorem SetM.toV {w : World} {base S o gu cu gm cm gl cl : Nat} {U : List Nat} {M : List Bool} {A : List Int} (h : SetM w base S o U M A gu cu gm cm gl cl) : SetV w base S o (natZ U) M A (.slice (some ⟨gu, 0, none⟩) U.length cu) (.slice (some ⟨gm, 0, none⟩) U.length cm) (.slice (some ⟨gl, 0, none⟩) U.length cl) :=
  ⟨h.c0, h.c1, h.c2, h.ru, by unfold RowB; rw [h.lm]; exact h.rm, h.rl, fun b e1 e2 => by simp [Value.ownBlock] at e1 e2; exact h.ne (by omega), h.blk⟩
theorem natZ_more (U : List Nat) (x : Nat) : natZ U ++ [(x : Int)] = natZ (U ++ [x]) := by simp [natZ]
def bothT (M : List Bool) (rt : Nat → Nat) (e c : Nat) : Nat := if M.getD (rt e) false = true then e else c
set_option maxHeartbeats 1600000 in
theorem forBoth_ok (w : World) (base S gu cu gm cm gl cl t p : Nat) (U : List Nat) (M : List Bool) (A : List Int) (rt d : Nat → Nat) (h : SetM w base S 1 U M A gu cu gm cm gl cl) (hF : Fo U rt d) (ht : t < U.length) (hn : U.length ≤ 5000) :
    Calls Try.prog 63 #[.pointer (some ⟨S, 0, none⟩), .int .i64 t, .int .i64 p] w fun e w' => e = .returned (.int .i64 (bothT M rt t p : Nat)) ∧ (∃ U', SetM w' base S 1 U' M A gu cu gm cm gl cl ∧ Fo U' rt d ∧ U'.length = U.length) ∧ Keeps (· = gu) w w' := by
  have HC : Hid _ := isPar_ok w base S 1 gu cu gm cm gl cl t U M A rt d h hF ht hn
  clear h hF ht hn
  cases hb : M.getD (rt t) false with
  | true =>
    have HB : Hid (bothT M rt t p = t) := by show bothT M rt t p = t; unfold bothT; rw [if_pos hb]
    rw [hb] at HC
    clear hb
    go_enter Try.func63, Try.ntmps63
    go_wp2_with (go_at_call 58; refine Calls.mono HC.out ?_; rintro _ w1 ⟨rfl, hq, hk⟩)
    go_ret
    exact ⟨by rw [HB.out]; rfl, hq, hk⟩
  | false =>
    have HB : Hid (bothT M rt t p = p) := by show bothT M rt t p = p; unfold bothT; rw [if_neg (by rw [hb]; simp)]
    rw [hb] at HC
    clear hb
    go_enter Try.func63, Try.ntmps63
    go_wp2_with (go_at_call 58; refine Calls.mono HC.out ?_; rintro _ w1 ⟨rfl, hq, hk⟩)
    go_ret
    exact ⟨by rw [HB.out]; rfl, hq, hk⟩
end Go.Proofs.Ytolhojagbiaamaa
