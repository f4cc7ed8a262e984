import Derived.Test.YtolhojagbiaamaaRbSet4
/-! The sets hold the bags, behind each kind of deed. -/
namespace Go.Proofs.Ytolhojagbiaamaa
set_option linter.unusedVariables false
set_option maxRecDepth 20000
set_option linter.unusedSimpArgs false

theorem mem_all_P {B : List Bg} {b : Bg} {x : Nat} (hb : b ∈ B) (hx : x ∈ b.P) : x ∈ allB B := by
  induction B with
  | nil => simp at hb
  | cons t r ih =>
    rw [allB_cons]
    rcases List.mem_cons.1 hb with rfl | hb
    · simp [hx]
    · simp [ih hb]
theorem mem_all_O {B : List Bg} {b : Bg} {x : Nat} (hb : b ∈ B) (hx : x ∈ b.O) : x ∈ allB B := by
  induction B with
  | nil => simp at hb
  | cons t r ih =>
    rw [allB_cons]
    rcases List.mem_cons.1 hb with rfl | hb
    · simp [hx]
    · simp [ih hb]
/-- The top's tasks are none of the others'. -/
theorem top_apart {t : Bg} {r : List Bg} (hnd : (allB (t :: r)).Nodup) : (∀ x, x ∈ t.P → x ∉ t.O) ∧ (∀ x, x ∈ t.P ∨ x ∈ t.O → x ∉ allB r) ∧ (allB r).Nodup := by
  rw [allB_cons, List.nodup_append] at hnd
  obtain ⟨n1, n2, n3⟩ := hnd
  rw [List.nodup_append] at n1
  refine ⟨fun x h1 h2 => n1.2.2 x h1 x h2 rfl, fun x h1 h2 => n3 x ?_ x h2 rfl, n2⟩
  rcases h1 with h1 | h1 <;> simp [h1]
theorem getD_setZ (A : List Int) (x y : Nat) (v : Int) (hx : x < A.length) : (A.set x v).getD y 0 = if y = x then v else A.getD y 0 := by
  rw [List.getD_eq_getElem?_getD, List.getD_eq_getElem?_getD, List.getElem?_set]
  by_cases h : y = x
  · subst h; simp [hx]
  · rw [if_neg (fun e => h e.symm), if_neg h]
theorem getD_setB (M : List Bool) (x y : Nat) (v : Bool) (hx : x < M.length) : (M.set x v).getD y false = if y = x then v else M.getD y false := by
  rw [List.getD_eq_getElem?_getD, List.getD_eq_getElem?_getD, List.getElem?_set]
  by_cases h : y = x
  · subst h; simp [hx]
  · rw [if_neg (fun e => h e.symm), if_neg h]
/-- What else is known of the bags and the sets. -/
structure BagI (B : List Bg) (rt : Nat → Nat) (M : List Bool) (A : List Int) (T : Nat) : Prop where
  r : BagR B rt M A T
  ids : ∀ b ∈ B, b.id ∈ b.P
  nd : (allB B).Nodup
  lt : ∀ x ∈ allB B, x < T
  rlt : ∀ x, x < T → rt x < T
  lm : M.length = T
  la : A.length = T
theorem late_ok {t : Bg} {r : List Bg} {rt : Nat → Nat} {M : List Bool} {A : List Int} {T : Nat} (h : BagI (t :: r) rt M A T) : LateOk rt A t.id T ∧ (A.getD t.id 0 = -1 → t.O = []) ∧ (∀ e : Nat, A.getD t.id 0 = (e : Int) → e ∈ t.O ∧ rt t.id ≠ rt e ∧ ∀ x ∈ t.O, rt x = rt e) := by
  have hid := h.ids t (by simp)
  have hO : A.getD t.id 0 = -1 → t.O = [] := by
    intro hA
    cases hO : t.O with
    | nil => rfl
    | cons x xs =>
      obtain ⟨e, h1, _⟩ := h.r.o t (by simp) x (by rw [hO]; simp)
      rw [hA] at h1
      omega
  have hE : ∀ e : Nat, A.getD t.id 0 = (e : Int) → e ∈ t.O ∧ rt t.id ≠ rt e ∧ ∀ x ∈ t.O, rt x = rt e := by
    intro e hA
    have hne : t.O ≠ [] := fun hn => by
      have := h.r.none t (by simp) hn
      omega
    obtain ⟨x, xs, hx⟩ := List.exists_cons_of_ne_nil hne
    obtain ⟨e', h1, h2, _⟩ := h.r.o t (by simp) x (by rw [hx]; simp)
    have he : e' = e := by omega
    subst he
    refine ⟨h2, fun heq => ?_, fun y hy => ?_⟩
    · have hm := (h.r.p t (by simp) t.id hid).2
      obtain ⟨_, _, _, _, hm2⟩ := h.r.o t (by simp) e' h2
      rw [heq, hm2] at hm
      cases hm
    · obtain ⟨e2, g1, g2, g3, _⟩ := h.r.o t (by simp) y hy
      have : e2 = e' := by omega
      rw [this] at g3
      exact g3
  refine ⟨?_, hO, hE⟩
  by_cases hA : A.getD t.id 0 = -1
  · exact .inl hA
  · right
    have hne : t.O ≠ [] := fun hn => hA (h.r.none t (by simp) hn)
    obtain ⟨x, xs, hx⟩ := List.exists_cons_of_ne_nil hne
    obtain ⟨e, h1, h2, _⟩ := h.r.o t (by simp) x (by rw [hx]; simp)
    exact ⟨e, h1, h.lt e (mem_all_O (b := t) (by simp) h2), (hE e h1).2.1⟩
/-- Roots of different bags are different. -/
theorem root_ne {t : Bg} {r : List Bg} {rt : Nat → Nat} {M : List Bool} {A : List Int} {T : Nat} (h : BagI (t :: r) rt M A T) {x y : Nat} (hx : x ∈ t.P ∨ x ∈ t.O) (hy : y ∈ allB r) : rt x ≠ rt y := by
  intro e
  obtain ⟨a1, a2, a3⟩ := top_apart h.nd
  have hxa : x ∈ allB (t :: r) := by rw [allB_cons]; rcases hx with hx | hx <;> simp [hx]
  have hya : y ∈ allB (t :: r) := by rw [allB_cons]; simp [hy]
  obtain ⟨b, hb, hh⟩ := h.r.apart x y hxa hya e
  rcases List.mem_cons.1 hb with rfl | hb
  · rcases hh with ⟨_, hh⟩ | ⟨_, hh⟩
    · exact a2 y (.inl hh) hy
    · exact a2 y (.inr hh) hy
  · rcases hh with ⟨hh, _⟩ | ⟨hh, _⟩
    · exact a2 x hx (mem_all_P hb hh)
    · exact a2 x hx (mem_all_O hb hh)
/-- A sync. -/
theorem BagI.sync {t : Bg} {r : List Bg} {rt : Nat → Nat} {M : List Bool} {A : List Int} {T : Nat} (h : BagI (t :: r) rt M A T) : BagI (⟨t.id, t.P ++ t.O, []⟩ :: r) (waitR rt A t.id) M (A.set t.id (-1)) T := by
  have hid := h.ids t (by simp)
  have hidT : t.id < T := h.lt _ (mem_all_P (b := t) (by simp) hid)
  obtain ⟨_, l2, l3⟩ := late_ok h
  obtain ⟨a1, a2, a3⟩ := top_apart h.nd
  have hall : allB (⟨t.id, t.P ++ t.O, []⟩ :: r) = allB (t :: r) := by simp [allB]
  have hidr : ∀ b ∈ r, b.id ≠ t.id := fun b hb e => a2 t.id (.inl hid) (mem_all_P hb (by rw [← e]; exact h.ids b (by simp [hb])))
  -- the roots behind the wait
  have hw : (∀ x ∈ t.P, waitR rt A t.id x = rt t.id) ∧ (∀ x ∈ t.O, waitR rt A t.id x = rt t.id) ∧ (∀ x ∈ allB r, waitR rt A t.id x = rt x) ∧ (∀ x, x < T → waitR rt A t.id x < T) ∧ ∀ x y, x ∈ allB r → (y ∈ t.P ∨ y ∈ t.O) → waitR rt A t.id x ≠ waitR rt A t.id y := by
    by_cases hA : A.getD t.id 0 = -1
    · have e : waitR rt A t.id = rt := by unfold waitR; rw [if_pos hA]
      have hO := l2 hA
      rw [e]
      exact ⟨fun x hx => (h.r.p t (by simp) x hx).1, fun x hx => by rw [hO] at hx; simp at hx, fun x _ => rfl, h.rlt, fun x y hx hy e => root_ne h hy hx e.symm⟩
    · obtain ⟨e0, h1⟩ : ∃ e0 : Nat, A.getD t.id 0 = (e0 : Int) := by
        rcases (late_ok h).1 with h1 | ⟨e0, h1, _⟩
        · exact (hA h1).elim
        · exact ⟨e0, h1⟩
      obtain ⟨g1, g2, g3⟩ := l3 e0 h1
      have e : waitR rt A t.id = joinR rt t.id e0 := by unfold waitR; rw [if_neg hA, h1]; rfl
      rw [e]
      have p1 : ∀ x ∈ t.P, joinR rt t.id e0 x = rt t.id := fun x hx => by
        unfold joinR
        rw [(h.r.p t (by simp) x hx).1, if_neg g2]
      have p2 : ∀ x ∈ t.O, joinR rt t.id e0 x = rt t.id := fun x hx => by
        unfold joinR
        rw [if_pos (g3 x hx)]
      have p3 : ∀ x ∈ allB r, joinR rt t.id e0 x = rt x := fun x hx => by
        unfold joinR
        rw [if_neg (fun e => root_ne h (.inr g1) hx e.symm)]
      refine ⟨p1, p2, p3, fun x hx => ?_, fun x y hx hy heq => ?_⟩
      · unfold joinR
        split
        · exact h.rlt _ hidT
        · exact h.rlt x hx
      · rw [p3 x hx] at heq
        have : joinR rt t.id e0 y = rt t.id := by rcases hy with hy | hy; exact p1 y hy; exact p2 y hy
        rw [this] at heq
        exact root_ne h (.inl hid) hx heq.symm
  obtain ⟨w1, w2, w3, w4, w5⟩ := hw
  have wid : waitR rt A t.id t.id = rt t.id := w1 _ hid
  have hget : ∀ b ∈ r, (A.set t.id (-1)).getD b.id 0 = A.getD b.id 0 := fun b hb => by rw [getD_setZ _ _ _ _ (by rw [h.la]; exact hidT), if_neg (hidr b hb)]
  refine ⟨⟨?_, ?_, ?_, ?_⟩, ?_, by rw [hall]; exact h.nd, by rw [hall]; exact h.lt, w4, h.lm, by rw [List.length_set]; exact h.la⟩
  · intro b hb x hx
    rcases List.mem_cons.1 hb with rfl | hb
    · have hx' : waitR rt A t.id x = rt t.id := by
        rcases List.mem_append.1 hx with hx | hx
        · exact w1 x hx
        · exact w2 x hx
      simp only
      rw [hx', wid]
      exact ⟨rfl, (h.r.p t (by simp) t.id hid).2⟩
    · have hb' : b ∈ t :: r := by simp [hb]
      rw [w3 x (mem_all_P hb hx), w3 b.id (mem_all_P hb (h.ids b hb'))]
      exact h.r.p b hb' x hx
  · intro b hb x hx
    rcases List.mem_cons.1 hb with rfl | hb
    · simp at hx
    · have hb' : b ∈ t :: r := by simp [hb]
      obtain ⟨e, g1, g2, g3, g4⟩ := h.r.o b hb' x hx
      exact ⟨e, by rw [hget b hb]; exact g1, g2, by rw [w3 x (mem_all_O hb hx), w3 e (mem_all_O hb g2)]; exact g3, by rw [w3 x (mem_all_O hb hx)]; exact g4⟩
  · intro b hb hO
    rcases List.mem_cons.1 hb with rfl | hb
    · simp only
      rw [getD_setZ _ _ _ _ (by rw [h.la]; exact hidT), if_pos rfl]
    · rw [hget b hb]
      exact h.r.none b (by simp [hb]) hO
  · intro x y hx hy heq
    rw [hall, allB_cons, List.mem_append, List.mem_append] at hx hy
    rcases hx with hx | hx
    · rcases hy with hy | hy
      · refine ⟨_, List.mem_cons_self .., .inl ⟨List.mem_append.2 hx, List.mem_append.2 hy⟩⟩
      · exact (w5 y x hy hx heq.symm).elim
    · rcases hy with hy | hy
      · exact (w5 x y hx hy heq).elim
      · rw [w3 x hx, w3 y hy] at heq
        obtain ⟨b, hb, hh⟩ := h.r.apart x y (by rw [allB_cons]; simp [hx]) (by rw [allB_cons]; simp [hy]) heq
        rcases List.mem_cons.1 hb with rfl | hb
        · exfalso
          rcases hh with ⟨hh, _⟩ | ⟨hh, _⟩
          · exact a2 x (.inl hh) hx
          · exact a2 x (.inr hh) hx
        · exact ⟨b, by simp [hb], hh⟩
  · intro b hb
    rcases List.mem_cons.1 hb with rfl | hb
    · exact List.mem_append.2 (.inl hid)
    · exact h.ids b (by simp [hb])
/-- What all of a bag's tasks come to. -/
theorem uO_root {t u : Bg} {r : List Bg} {rt : Nat → Nat} {M : List Bool} {A : List Int} {T : Nat} (h : BagI (t :: u :: r) rt M A T) : (A.getD u.id 0 = -1 → u.O = []) ∧ (∀ e : Nat, A.getD u.id 0 = (e : Int) → e ∈ u.O ∧ ∀ x ∈ u.O, rt x = rt e) ∧ (A.getD u.id 0 = -1 ∨ ∃ e : Nat, A.getD u.id 0 = (e : Int)) := by
  refine ⟨?_, ?_, ?_⟩
  · intro hA
    cases hO : u.O with
    | nil => rfl
    | cons x xs =>
      obtain ⟨e, h1, _⟩ := h.r.o u (by simp) x (by rw [hO]; simp)
      rw [hA] at h1
      omega
  · intro e hA
    have hne : u.O ≠ [] := fun hn => by
      have := h.r.none u (by simp) hn
      omega
    obtain ⟨x, xs, hx⟩ := List.exists_cons_of_ne_nil hne
    obtain ⟨e', h1, h2, _⟩ := h.r.o u (by simp) x (by rw [hx]; simp)
    have he : e' = e := by omega
    subst he
    refine ⟨h2, fun y hy => ?_⟩
    obtain ⟨e2, g1, g2, g3, _⟩ := h.r.o u (by simp) y hy
    have : e2 = e' := by omega
    rw [this] at g3
    exact g3
  · by_cases hO : u.O = []
    · exact .inl (h.r.none u (by simp) hO)
    · obtain ⟨x, xs, hx⟩ := List.exists_cons_of_ne_nil hO
      obtain ⟨e, h1, _⟩ := h.r.o u (by simp) x (by rw [hx]; simp)
      exact .inr ⟨e, h1⟩
/-- A return, behind its wait. -/
theorem BagI.ret {t u : Bg} {r : List Bg} {rt : Nat → Nat} {M : List Bool} {A : List Int} {T : Nat} (h : BagI (t :: u :: r) rt M A T) (hO : t.O = []) : BagI (⟨u.id, u.P, t.P ++ u.O⟩ :: r) (endR rt A u.id t.id) (M.set (rt t.id) true) (A.set u.id (t.id : Int)) T := by
  have hid := h.ids t (by simp)
  have hidT : t.id < T := h.lt _ (mem_all_P (b := t) (by simp) hid)
  have uid := h.ids u (by simp)
  have uidT : u.id < T := h.lt _ (mem_all_P (b := u) (by simp) uid)
  obtain ⟨a1, a2, a3⟩ := top_apart h.nd
  obtain ⟨b1, b2, b3⟩ := top_apart a3
  obtain ⟨u1, u2, u3⟩ := uO_root h
  have htP : ∀ x ∈ t.P, rt x = rt t.id := fun x hx => (h.r.p t (by simp) x hx).1
  have hrne : ∀ y, y ∈ allB (u :: r) → rt y ≠ rt t.id := fun y hy e => root_ne h (.inl hid) hy e.symm
  have hsub : ∀ b ∈ r, b ∈ t :: u :: r := fun b hb => by simp [hb]
  have hrid : ∀ b ∈ r, b.id ≠ u.id := fun b hb e => b2 u.id (.inl uid) (mem_all_P hb (by rw [← e]; exact h.ids b (hsub b hb)))
  have hget : ∀ b ∈ r, (A.set u.id (t.id : Int)).getD b.id 0 = A.getD b.id 0 := fun b hb => by rw [getD_setZ _ _ _ _ (by rw [h.la]; exact uidT), if_neg (hrid b hb)]
  have hgu : (A.set u.id (t.id : Int)).getD u.id 0 = (t.id : Int) := by rw [getD_setZ _ _ _ _ (by rw [h.la]; exact uidT), if_pos rfl]
  have hM : ∀ k, (M.set (rt t.id) true).getD k false = if k = rt t.id then true else M.getD k false := fun k => getD_setB _ _ _ _ (by rw [h.lm]; exact h.rlt _ hidT)
  have hperm : (allB (⟨u.id, u.P, t.P ++ u.O⟩ :: r)).Perm (allB (t :: u :: r)) := by
    rw [allB_cons, allB_cons, allB_cons, hO]
    simp only [List.append_nil]
    have h1 : (u.P ++ (t.P ++ u.O)).Perm (t.P ++ (u.P ++ u.O)) := by
      rw [← List.append_assoc, ← List.append_assoc]
      exact List.Perm.append_right _ List.perm_append_comm
    have h2 := h1.append_right (allB r)
    rwa [List.append_assoc t.P] at h2
  -- the roots behind it: those of the new late bag are one, the others as they were
  have hw : ∃ q : Nat, (∀ x, x ∈ t.P ∨ x ∈ u.O → endR rt A u.id t.id x = q) ∧ (∀ x, x ∈ u.P ∨ x ∈ allB r → endR rt A u.id t.id x = rt x ∧ rt x ≠ q) ∧ (M.set (rt t.id) true).getD q false = true ∧ (∀ x, x < T → endR rt A u.id t.id x < T) := by
    rcases u3 with hA | ⟨e, hA⟩
    · have he : endR rt A u.id t.id = rt := by unfold endR; rw [if_pos hA]
      rw [he]
      refine ⟨rt t.id, fun x hx => ?_, fun x hx => ⟨rfl, hrne x ?_⟩, by rw [hM, if_pos rfl], h.rlt⟩
      · rcases hx with hx | hx
        · exact htP x hx
        · rw [u1 hA] at hx; simp at hx
      · rw [allB_cons]
        rcases hx with hx | hx <;> simp [hx]
    · obtain ⟨g1, g2⟩ := u2 e hA
      have he : endR rt A u.id t.id = joinR rt e t.id := by unfold endR; rw [if_neg (by rw [hA]; omega), hA]; rfl
      rw [he]
      have heall : e ∈ allB (u :: r) := mem_all_O (b := u) (by simp) g1
      have hne : rt e ≠ rt t.id := hrne e heall
      have hj : ∀ x, x ∈ allB (u :: r) → joinR rt e t.id x = rt x := fun x hx => by unfold joinR; rw [if_neg (hrne x hx)]
      refine ⟨rt e, fun x hx => ?_, fun x hx => ?_, ?_, fun x hx => ?_⟩
      · rcases hx with hx | hx
        · unfold joinR; rw [if_pos (htP x hx)]
        · rw [hj x (mem_all_O (b := u) (by simp) hx)]; exact g2 x hx
      · have hxa : x ∈ allB (u :: r) := by
          rw [allB_cons]
          rcases hx with hx | hx <;> simp [hx]
        refine ⟨hj x hxa, fun heq => ?_⟩
        obtain ⟨b, hb, hh⟩ := h.r.apart x e (by rw [allB_cons]; simp [hxa]) (by rw [allB_cons]; simp [heall]) heq
        rcases List.mem_cons.1 hb with rfl | hb
        · rcases hh with ⟨hh, _⟩ | ⟨hh, _⟩
          · exact a2 x (.inl hh) hxa
          · exact a2 x (.inr hh) hxa
        · rcases List.mem_cons.1 hb with rfl | hb
          · rcases hh with ⟨_, hh⟩ | ⟨hh, _⟩
            · exact b1 e hh g1
            · rcases hx with hx | hx
              · exact b1 x hx hh
              · exact b2 x (.inr hh) hx
          · rcases hh with ⟨_, hh⟩ | ⟨_, hh⟩
            · exact b2 e (.inr g1) (mem_all_P hb hh)
            · exact b2 e (.inr g1) (mem_all_O hb hh)
      · rw [hM, if_neg hne]
        obtain ⟨_, _, _, _, g5⟩ := h.r.o u (by simp) e g1
        exact g5
      · unfold joinR
        split
        · exact h.rlt e (h.lt e (by rw [allB_cons]; simp [heall]))
        · exact h.rlt x hx
  obtain ⟨q, w1, w2, w3, w4⟩ := hw
  have hMP : ∀ b, b ∈ u :: r → ∀ x ∈ b.P, (M.set (rt t.id) true).getD (rt x) false = false := fun b hb x hx => by
    rw [hM, if_neg (hrne x (mem_all_P hb hx))]
    exact (h.r.p b (by simp; right; simpa using hb) x hx).2
  refine ⟨⟨?_, ?_, ?_, ?_⟩, ?_, hperm.nodup_iff.2 h.nd, fun x hx => h.lt x (hperm.mem_iff.1 hx), w4, by rw [List.length_set]; exact h.lm, by rw [List.length_set]; exact h.la⟩
  · intro b hb x hx
    rcases List.mem_cons.1 hb with rfl | hb
    · simp only at hx ⊢
      rw [(w2 x (.inl hx)).1, (w2 u.id (.inl uid)).1]
      exact ⟨(h.r.p u (by simp) x hx).1, hMP u (by simp) x hx⟩
    · rw [(w2 x (.inr (mem_all_P hb hx))).1, (w2 b.id (.inr (mem_all_P hb (h.ids b (hsub b hb))))).1]
      exact ⟨(h.r.p b (hsub b hb) x hx).1, hMP b (by simp [hb]) x hx⟩
  · intro b hb x hx
    rcases List.mem_cons.1 hb with rfl | hb
    · simp only at hx ⊢
      refine ⟨t.id, hgu, List.mem_append.2 (.inl hid), ?_, ?_⟩
      · rw [w1 x (List.mem_append.1 hx), w1 t.id (.inl hid)]
      · rw [w1 x (List.mem_append.1 hx)]; exact w3
    · obtain ⟨e, g1, g2, g3, g4⟩ := h.r.o b (hsub b hb) x hx
      refine ⟨e, by rw [hget b hb]; exact g1, g2, ?_, ?_⟩
      · rw [(w2 x (.inr (mem_all_O hb hx))).1, (w2 e (.inr (mem_all_O hb g2))).1]; exact g3
      · rw [(w2 x (.inr (mem_all_O hb hx))).1, hM, if_neg (hrne x (by rw [allB_cons]; simp [mem_all_O hb hx]))]
        exact g4
  · intro b hb hbO
    rcases List.mem_cons.1 hb with rfl | hb
    · simp only at hbO
      have := (List.append_eq_nil_iff.1 hbO).1
      rw [this] at hid
      simp at hid
    · rw [hget b hb]
      exact h.r.none b (hsub b hb) hbO
  · intro x y hx hy heq
    rw [allB_cons] at hx hy
    simp only [List.mem_append] at hx hy
    have side : ∀ z, ((z ∈ u.P ∨ (z ∈ t.P ∨ z ∈ u.O)) ∨ z ∈ allB r) → (z ∈ t.P ∨ z ∈ u.O) ∨ (z ∈ u.P ∨ z ∈ allB r) := by
      rintro z ((h | h) | h)
      · exact .inr (.inl h)
      · exact .inl h
      · exact .inr (.inr h)
    rcases side x hx with hx1 | hx1
    · rcases side y hy with hy1 | hy1
      · exact ⟨_, List.mem_cons_self .., .inr ⟨List.mem_append.2 hx1, List.mem_append.2 hy1⟩⟩
      · rw [w1 x hx1, (w2 y hy1).1] at heq
        exact ((w2 y hy1).2 heq.symm).elim
    · rcases side y hy with hy1 | hy1
      · rw [w1 y hy1, (w2 x hx1).1] at heq
        exact ((w2 x hx1).2 heq).elim
      · rw [(w2 x hx1).1, (w2 y hy1).1] at heq
        have hin : ∀ z, z ∈ u.P ∨ z ∈ allB r → z ∈ allB (u :: r) := fun z hz => by rw [allB_cons]; rcases hz with hz | hz <;> simp [hz]
        obtain ⟨b, hb, hh⟩ := h.r.apart x y (by rw [allB_cons]; simp [hin x hx1]) (by rw [allB_cons]; simp [hin y hy1]) heq
        rcases List.mem_cons.1 hb with rfl | hb
        · exfalso
          rcases hh with ⟨hh, _⟩ | ⟨hh, _⟩
          · exact a2 x (.inl hh) (hin x hx1)
          · exact a2 x (.inr hh) (hin x hx1)
        · rcases List.mem_cons.1 hb with rfl | hb
          · rcases hh with hh | ⟨hh, _⟩
            · exact ⟨_, List.mem_cons_self .., .inl hh⟩
            · exfalso
              rcases hx1 with hx1 | hx1
              · exact b1 x hx1 hh
              · exact b2 x (.inr hh) hx1
          · exact ⟨b, by simp [hb], hh⟩
  · intro b hb
    rcases List.mem_cons.1 hb with rfl | hb
    · exact uid
    · exact h.ids b (hsub b hb)
end Go.Proofs.Ytolhojagbiaamaa
