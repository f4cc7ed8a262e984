import Derived.Test.YtolhojagbiaamaaRbPlain
/-! The bags against the row: a task's work is parallel to what comes next just where its deeds are; who stands for all writers and readers of a place tells each race. -/
namespace Go.Proofs.Ytolhojagbiaamaa
set_option linter.unusedVariables false
set_option maxRecDepth 20000
set_option linter.unusedSimpArgs false

/-- All tasks of the bags. -/
def allB : List Bg → List Nat
  | [] => []
  | t :: r => (t.P ++ t.O) ++ allB r
theorem inP_mem : ∀ {S : List Bg} {k x : Nat}, inP S k x → x ∈ allB S
  | [], _, _, h => h.elim
  | t :: r, k, x, h => by
    rcases h with h | h
    · simp [allB, h.2]
    · simp [allB, inP_mem h]
theorem inO_mem : ∀ {S : List Bg} {k x : Nat}, inO S k x → x ∈ allB S
  | [], _, _, h => h.elim
  | t :: r, k, x, h => by
    rcases h with h | h
    · simp [allB, h.2]
    · simp [allB, inO_mem h]
theorem not_both : ∀ {S : List Bg}, (allB S).Nodup → ∀ {k j x : Nat}, inP S k x → ¬ inO S j x
  | [], _, _, _, _, h, _ => h.elim
  | t :: r, hnd, k, j, x, hp, ho => by
    simp only [allB, List.nodup_append] at hnd
    obtain ⟨⟨h1, h2, h3⟩, h4, h5⟩ := hnd
    rcases hp with ⟨_, hp⟩ | hp
    · rcases ho with ⟨_, ho⟩ | ho
      · exact h3 x hp x ho rfl
      · exact h5 x (by simp [hp]) x (inO_mem ho) rfl
    · rcases ho with ⟨_, ho⟩ | ho
      · exact h5 x (by simp [ho]) x (inP_mem hp) rfl
      · exact not_both h4 hp ho
/-- The bags and the pieces of the row go together. -/
def Prs (ds : List Dd) (n : Nat) : List Bg → List Tk → Prop
  | [], [] => True
  | b :: bs, t :: ts => b.id ∈ b.P ∧ (∀ a, a < n → (doer ds a ∈ b.P ↔ a ∈ t.P)) ∧ (∀ a, a < n → (doer ds a ∈ b.O ↔ a ∈ t.O)) ∧ Prs ds n bs ts
  | _, _ => False
theorem Prs.len {ds : List Dd} {n : Nat} : ∀ {bs : List Bg} {ts : List Tk}, Prs ds n bs ts → bs.length = ts.length
  | [], [], _ => rfl
  | [], _ :: _, h => h.elim
  | _ :: _, [], h => h.elim
  | b :: bs, t :: ts, h => by have := Prs.len h.2.2.2; simp [this]
/-- The entries that a deed does not change: it is none of their own. -/
theorem Prs.more {ds : List Dd} {n : Nat} : ∀ {bs : List Bg} {ts : List Tk}, Prs ds n bs ts → doer ds n ∉ allB bs → (∀ a, a ∈ Cof ts → a < n) → (∀ a, a ∈ Oof ts → a < n) → Prs ds (n + 1) bs ts
  | [], [], _, _, _, _ => trivial
  | [], _ :: _, h, _, _, _ => h.elim
  | _ :: _, [], h, _, _, _ => h.elim
  | b :: bs, t :: ts, h, hd, hC, hO => by
    obtain ⟨h1, h2, h3, h4⟩ := h
    simp only [allB, List.mem_append, not_or] at hd
    refine ⟨h1, fun a ha => ?_, fun a ha => ?_, Prs.more h4 hd.2 (fun a ha => hC a (List.mem_append.2 (.inl ha))) (fun a ha => hO a (List.mem_append.2 (.inr ha)))⟩
    · by_cases e : a = n
      · subst e
        exact ⟨fun h => (hd.1.1 h).elim, fun h => by have := hC a (List.mem_append.2 (.inr h)); omega⟩
      · exact h2 a (by omega)
    · by_cases e : a = n
      · subst e
        exact ⟨fun h => (hd.1.2 h).elim, fun h => by have := hO a (List.mem_append.2 (.inl h)); omega⟩
      · exact h3 a (by omega)
theorem Prs.late {ds : List Dd} {n : Nat} : ∀ {bs : List Bg} {ts : List Tk}, Prs ds n bs ts → ∀ a, a < n → ((∃ k, inO bs k (doer ds a)) ↔ a ∈ Oof ts)
  | [], [], _, a, _ => by simp [inO, Oof]
  | [], _ :: _, h, _, _ => h.elim
  | _ :: _, [], h, _, _ => h.elim
  | b :: bs, t :: ts, h, a, ha => by
    have ih := Prs.late h.2.2.2 a ha
    have h3 := h.2.2.1 a ha
    rw [oof_cons, List.mem_append, ← ih, ← h3]
    constructor
    · rintro ⟨k, hk | hk⟩
      · exact .inl hk.2
      · exact .inr ⟨k, hk⟩
    · rintro (hk | ⟨k, hk⟩)
      · exact ⟨_, .inl ⟨rfl, hk⟩⟩
      · exact ⟨k, .inr hk⟩
/-- The bags behind the first n deeds. -/
structure BInv (ds : List Dd) (n : Nat) : Prop where
  prs : Prs ds n (bgN ds n) (stN ds n)
  nd : (allB (bgN ds n)).Nodup
  lt : ∀ x ∈ allB (bgN ds n), x < cntB ds n
  doers : ∀ a, a < n → doer ds a < cntB ds n
  pos : 1 ≤ cntB ds n
  bot : ∃ (A : List Bg) (e : Bg), bgN ds n = A ++ [e] ∧ 0 ∈ e.P
theorem binv_zero (ds : List Dd) : BInv ds 0 := by
  refine ⟨⟨by simp, fun a ha => by omega, fun a ha => by omega, trivial⟩, by simp [bgN, allB], by simp [bgN, allB, cntB], fun a ha => by omega, by simp [cntB], [], ⟨0, [0], []⟩, rfl, by simp⟩
theorem allB_cons (t : Bg) (r : List Bg) : allB (t :: r) = (t.P ++ t.O) ++ allB r := rfl
theorem binv_step {ds : List Dd} {n : Nat} (hI : Inv ds n) (h : BInv ds n) (hst : stN ds n ≠ []) (hk : (ds.getD n ⟨3, 0⟩).k = 1 → 2 ≤ (stN ds n).length) : BInv ds (n + 1) := by
  obtain ⟨hp, hnd, hlt, hdo, hpos, A, e, hA, he⟩ := h
  cases hs : stN ds n with
  | nil => exact (hst hs).elim
  | cons t r =>
    cases hb : bgN ds n with
    | nil => rw [hb] at hA; simp at hA
    | cons b bs =>
      rw [hs, hb] at hp
      rw [hb] at hnd hlt hA
      obtain ⟨p1, p2, p3, p4⟩ := hp
      have hC : ∀ a, a ∈ Cof (t :: r) → a < n := fun a ha => (hI.all a).1 (by rw [hs]; exact List.mem_append.2 (.inl ha))
      have hO : ∀ a, a ∈ Oof (t :: r) → a < n := fun a ha => (hI.all a).1 (by rw [hs]; exact List.mem_append.2 (.inr ha))
      have hd : doer ds n = b.id := by unfold doer; rw [hb]; rfl
      rw [allB_cons, List.nodup_append] at hnd
      obtain ⟨n1, n2, n3⟩ := hnd
      rw [List.nodup_append] at n1
      obtain ⟨n4, n5, n6⟩ := n1
      have hidr : b.id ∉ allB bs := fun h => n3 b.id (by simp [p1]) b.id h rfl
      have hidO : b.id ∉ b.O := fun h => n6 b.id p1 b.id h rfl
      have hmore := Prs.more (n := n) p4 (by rw [hd]; exact hidr) (fun a ha => hC a (List.mem_append.2 (.inl ha))) (fun a ha => hO a (List.mem_append.2 (.inr ha)))
      have hidlt : b.id < cntB ds n := hlt b.id (by simp [allB, p1])
      have hs' : stN ds (n + 1) = stepT n ((ds.getD n ⟨3, 0⟩).k) (t :: r) := by rw [← hs]; rfl
      have hb' : bgN ds (n + 1) = stepB ((ds.getD n ⟨3, 0⟩).k) (cntB ds n) (b :: bs) := by rw [← hb]; rfl
      have hc' : cntB ds (n + 1) = if (ds.getD n ⟨3, 0⟩).k = 0 then cntB ds n + 1 else cntB ds n := rfl
      -- the top entry behind a deed of its own
      have topP : ∀ a, a < n + 1 → (doer ds a ∈ b.P ↔ a ∈ t.P ++ [n]) := fun a ha => by
        by_cases ea : a = n
        · subst ea; rw [hd]; simp [p1]
        · rw [p2 a (by omega)]; simp [ea]
      have topO : ∀ a, a < n + 1 → (doer ds a ∈ b.O ↔ a ∈ t.O) := fun a ha => by
        by_cases ea : a = n
        · subst ea; rw [hd]; exact ⟨fun h => (hidO h).elim, fun h => by have := hO a (List.mem_append.2 (.inl h)); omega⟩
        · exact p3 a (by omega)
      have hdo' : ∀ c, cntB ds n ≤ c → ∀ a, a < n + 1 → doer ds a < c := fun c hc a ha => by
        by_cases ea : a = n
        · subst ea; rw [hd]; omega
        · have := hdo a (by omega); omega
      by_cases k0 : (ds.getD n ⟨3, 0⟩).k = 0
      · rw [k0] at hs' hb'
        rw [if_pos k0] at hc'
        rw [st0] at hs'
        rw [sb0] at hb'
        refine ⟨?_, ?_, ?_, by rw [hc']; exact hdo' _ (by omega), by omega, ?_⟩
        · rw [hs', hb']
          refine ⟨by simp, fun a ha => ?_, fun a ha => by simp, p1, topP, topO, hmore⟩
          have := hdo' _ (Nat.le_refl _) a ha
          simp
          omega
        · rw [hb', allB_cons, allB_cons]
          have hT : cntB ds n ∉ b.P ++ b.O ++ allB bs := fun h => by have := hlt _ h; omega
          simp only [List.singleton_append, List.append_nil, List.nil_append]
          refine List.nodup_cons.2 ⟨hT, List.nodup_append.2 ⟨List.nodup_append.2 ⟨n4, n5, n6⟩, n2, n3⟩⟩
        · rw [hb', hc']
          intro x hx
          simp only [allB, List.append_nil, List.singleton_append, List.mem_cons] at hx
          rcases hx with rfl | hx
          · omega
          · have := hlt x hx; omega
        · rw [hb']
          exact ⟨⟨cntB ds n, [cntB ds n], []⟩ :: A, e, by rw [hA]; rfl, he⟩
      · rw [if_neg k0] at hc'
        by_cases k1 : (ds.getD n ⟨3, 0⟩).k = 1
        · have h2 := hk k1
          rw [hs] at h2
          obtain ⟨u, r', hr⟩ : ∃ u r', r = u :: r' := by
            cases r with
            | nil => simp at h2
            | cons u r' => exact ⟨u, r', rfl⟩
          subst hr
          obtain ⟨ub, br, hbr⟩ : ∃ ub br, bs = ub :: br := by
            cases bs with
            | nil => exact p4.elim
            | cons ub br => exact ⟨ub, br, rfl⟩
          subst hbr
          rw [k1] at hs' hb'
          rw [st1] at hs'
          rw [sb1] at hb'
          obtain ⟨q1, q2, q3, q4⟩ := hmore
          refine ⟨?_, ?_, ?_, by rw [hc']; exact hdo' _ (Nat.le_refl _), by omega, ?_⟩
          · rw [hs', hb']
            refine ⟨q1, q2, fun a ha => ?_, q4⟩
            have e1 := topP a ha
            have e2 := topO a ha
            have e3 := q3 a ha
            simp only [List.mem_append, List.mem_singleton] at e1 e2 e3 ⊢
            rw [e1, e2, e3]
            constructor
            · rintro (((h | h) | h) | h)
              · exact .inl (.inl (.inl h))
              · exact .inl (.inr h)
              · exact .inl (.inl (.inr h))
              · exact .inr h
            · rintro (((h | h) | h) | h)
              · exact .inl (.inl (.inl h))
              · exact .inl (.inr h)
              · exact .inl (.inl (.inr h))
              · exact .inr h
          · rw [hb']
            have hperm : (allB (⟨ub.id, ub.P, (b.P ++ b.O) ++ ub.O⟩ :: br)).Perm ((b.P ++ b.O) ++ allB (ub :: br)) := by
              rw [allB_cons, allB_cons]
              simp only
              have : (ub.P ++ (b.P ++ b.O ++ ub.O) ++ allB br).Perm ((b.P ++ b.O) ++ (ub.P ++ ub.O ++ allB br)) := by
                have h1 : (ub.P ++ (b.P ++ b.O ++ ub.O)).Perm ((b.P ++ b.O ++ ub.O) ++ ub.P) := List.perm_append_comm
                have h2 : ((b.P ++ b.O ++ ub.O) ++ ub.P).Perm ((b.P ++ b.O) ++ (ub.P ++ ub.O)) := by
                  rw [List.append_assoc (b.P ++ b.O)]
                  exact List.Perm.append_left _ List.perm_append_comm
                have h3 := (h1.trans h2).append_right (allB br)
                rwa [List.append_assoc (b.P ++ b.O)] at h3
              exact this
            exact hperm.nodup_iff.2 (List.nodup_append.2 ⟨List.nodup_append.2 ⟨n4, n5, n6⟩, n2, n3⟩)
          · rw [hb', hc']
            intro x hx
            refine hlt x ?_
            simp only [allB, List.mem_append] at hx ⊢
            rcases hx with (h | ((h | h) | h)) | h
            · exact .inr (.inl (.inl h))
            · exact .inl (.inl h)
            · exact .inl (.inr h)
            · exact .inr (.inl (.inr h))
            · exact .inr (.inr h)
          · rw [hb']
            cases A with
            | nil => simp at hA
            | cons a1 A1 =>
              injection hA with _ hA
              cases A1 with
              | nil =>
                simp at hA
                obtain ⟨hA1, hA2⟩ := hA
                subst hA2
                exact ⟨[], ⟨ub.id, ub.P, (b.P ++ b.O) ++ ub.O⟩, rfl, by rw [hA1]; exact he⟩
              | cons a2 A2 =>
                injection hA with _ hA
                exact ⟨⟨ub.id, ub.P, (b.P ++ b.O) ++ ub.O⟩ :: A2, e, by rw [hA]; rfl, he⟩
        · by_cases k2 : (ds.getD n ⟨3, 0⟩).k = 2
          · rw [k2] at hs' hb'
            rw [st2] at hs'
            rw [sb2] at hb'
            refine ⟨?_, ?_, ?_, by rw [hc']; exact hdo' _ (Nat.le_refl _), by omega, ?_⟩
            · rw [hs', hb']
              refine ⟨by simp [p1], fun a ha => ?_, fun a ha => by simp, hmore⟩
              have e1 := topP a ha
              have e2 := topO a ha
              simp only [List.mem_append, List.mem_singleton] at e1 e2 ⊢
              rw [e1, e2]
              constructor
              · rintro ((h | h) | h)
                · exact .inl (.inl h)
                · exact .inr h
                · exact .inl (.inr h)
              · rintro ((h | h) | h)
                · exact .inl (.inl h)
                · exact .inr h
                · exact .inl (.inr h)
            · rw [hb', allB_cons]
              simp only [List.append_nil]
              exact List.nodup_append.2 ⟨List.nodup_append.2 ⟨n4, n5, n6⟩, n2, n3⟩
            · rw [hb', hc']
              intro x hx
              refine hlt x ?_
              simpa [allB] using hx
            · rw [hb']
              cases A with
              | nil =>
                simp at hA
                obtain ⟨hA1, hA2⟩ := hA
                subst hA2
                exact ⟨[], ⟨b.id, b.P ++ b.O, []⟩, rfl, by rw [hA1]; simp [he]⟩
              | cons a1 A1 =>
                injection hA with _ hA
                exact ⟨⟨b.id, b.P ++ b.O, []⟩ :: A1, e, by rw [hA]; rfl, he⟩
          · rw [st3 _ _ _ _ k0 k1 k2] at hs'
            rw [sb3 _ _ _ _ k0 k1 k2] at hb'
            refine ⟨?_, ?_, ?_, by rw [hc']; exact hdo' _ (Nat.le_refl _), by omega, ?_⟩
            · rw [hs', hb']
              exact ⟨p1, topP, topO, hmore⟩
            · rw [hb', allB_cons]
              exact List.nodup_append.2 ⟨List.nodup_append.2 ⟨n4, n5, n6⟩, n2, n3⟩
            · rw [hb', hc']; exact hlt
            · rw [hb']; exact ⟨A, e, hA, he⟩
end Go.Proofs.Ytolhojagbiaamaa
