import Derived.Test.YtolhojagbiaamabPkAB
import Derived.Test.YtolhojagbiaamabPkAF
/-! Bags of tasks, plainly: which tasks' deeds are ahead of what comes next and which are parallel to it; who stands for all that wrote a place. -/
namespace Go.Proofs.Ytolhojagbiaamab
set_option linter.unusedVariables false
set_option maxRecDepth 20000
set_option linter.unusedSimpArgs false

/-- A task that has not returned: its number; the tasks whose deeds are ahead by it; those for which it has to wait. -/
structure Bg where
  id : Nat
  P : List Nat
  O : List Nat
/-- Behind a deed of a kind; the current task comes first, T tasks have begun. -/
def stepB (k : Int) (T : Nat) : List Bg → List Bg
  | [] => []
  | t :: r =>
    if k = 0 then ⟨T, [T], []⟩ :: t :: r
    else if k = 1 then match r with
      | [] => []
      | u :: r' => ⟨u.id, u.P, (t.P ++ t.O) ++ u.O⟩ :: r'
    else if k = 2 then ⟨t.id, t.P ++ t.O, []⟩ :: r
    else t :: r
theorem sb0 (T : Nat) (t : Bg) (r : List Bg) : stepB 0 T (t :: r) = ⟨T, [T], []⟩ :: t :: r := by simp [stepB]
theorem sb1 (T : Nat) (t u : Bg) (r : List Bg) : stepB 1 T (t :: u :: r) = ⟨u.id, u.P, (t.P ++ t.O) ++ u.O⟩ :: r := by simp [stepB]
theorem sb2 (T : Nat) (t : Bg) (r : List Bg) : stepB 2 T (t :: r) = ⟨t.id, t.P ++ t.O, []⟩ :: r := by simp [stepB]
theorem sb3 (k : Int) (T : Nat) (t : Bg) (r : List Bg) (h0 : ¬ k = 0) (h1 : ¬ k = 1) (h2 : ¬ k = 2) : stepB k T (t :: r) = t :: r := by simp [stepB, h0, h1, h2]
/-- How many tasks have begun behind the first n deeds; the bags; whose a deed is. -/
def cntB (ds : List Dd) : Nat → Nat
  | 0 => 1
  | n + 1 => if (ds.getD n ⟨3, 0⟩).k = 0 then cntB ds n + 1 else cntB ds n
def bgN (ds : List Dd) : Nat → List Bg
  | 0 => [⟨0, [0], []⟩]
  | n + 1 => stepB ((ds.getD n ⟨3, 0⟩).k) (cntB ds n) (bgN ds n)
def topI : List Bg → Nat
  | [] => 0
  | t :: _ => t.id
def doer (ds : List Dd) (n : Nat) : Nat := topI (bgN ds n)
/-- x lies at depth k among those ahead, or among those to be waited for. -/
def inP : List Bg → Nat → Nat → Prop
  | [], _, _ => False
  | t :: r, k, x => (k = r.length ∧ x ∈ t.P) ∨ inP r k x
def inO : List Bg → Nat → Nat → Prop
  | [], _, _ => False
  | t :: r, k, x => (k = r.length ∧ x ∈ t.O) ∨ inO r k x
theorem inP_lt : ∀ {S : List Bg} {k x : Nat}, inP S k x → k < S.length
  | [], _, _, h => h.elim
  | t :: r, k, x, h => by
    rcases h with h | h
    · simp [h.1]
    · have := inP_lt h; simp; omega
theorem inO_lt : ∀ {S : List Bg} {k x : Nat}, inO S k x → k < S.length
  | [], _, _, h => h.elim
  | t :: r, k, x, h => by
    rcases h with h | h
    · simp [h.1]
    · have := inO_lt h; simp; omega
/-- y stands for x: as long as x is parallel to what comes next, so is y. -/
structure Dom (S : List Bg) (x y : Nat) : Prop where
  o : ∀ k, inO S k x → ∃ j, j ≤ k ∧ inO S j y
  p : ∀ k, inP S k x → (∃ j, inO S j y) ∨ ∃ j, k ≤ j ∧ inP S j y
theorem Dom.spawn {t : Bg} {r : List Bg} {x y T : Nat} (hx : x ≠ T) (h : Dom (t :: r) x y) : Dom (⟨T, [T], []⟩ :: t :: r) x y := by
  refine ⟨fun k hk => ?_, fun k hk => ?_⟩
  · rcases hk with ⟨_, hk⟩ | hk
    · cases hk
    · obtain ⟨j, h1, h2⟩ := h.o k hk
      exact ⟨j, h1, .inr h2⟩
  · rcases hk with ⟨_, hk⟩ | hk
    · simp at hk; exact (hx hk).elim
    · rcases h.p k hk with ⟨j, h1⟩ | ⟨j, h1, h2⟩
      · exact .inl ⟨j, .inr h1⟩
      · exact .inr ⟨j, h1, .inr h2⟩
theorem Dom.sync {t : Bg} {r : List Bg} {x y : Nat} (h : Dom (t :: r) x y) : Dom (⟨t.id, t.P ++ t.O, []⟩ :: r) x y := by
  have hmv : ∀ j, inO (t :: r) j y → (∃ j', j' ≤ j ∧ inO (⟨t.id, t.P ++ t.O, []⟩ :: r) j' y) ∨ inP (⟨t.id, t.P ++ t.O, []⟩ :: r) r.length y := by
    intro j hj
    rcases hj with ⟨_, hj⟩ | hj
    · exact .inr (.inl ⟨rfl, List.mem_append.2 (.inr hj)⟩)
    · exact .inl ⟨j, Nat.le_refl _, .inr hj⟩
  refine ⟨fun k hk => ?_, fun k hk => ?_⟩
  · rcases hk with ⟨_, hk⟩ | hk
    · cases hk
    · have hkl := inO_lt hk
      obtain ⟨j, h1, h2⟩ := h.o k (.inr hk)
      rcases h2 with ⟨h2, _⟩ | h2
      · omega
      · exact ⟨j, h1, .inr h2⟩
  · have key : (∃ j, inO (t :: r) j y) ∨ (∃ j, k ≤ j ∧ inP (t :: r) j y) := by
      rcases hk with ⟨rfl, hk⟩ | hk
      · rcases List.mem_append.1 hk with hk | hk
        · exact h.p _ (.inl ⟨rfl, hk⟩)
        · obtain ⟨j, _, h2⟩ := h.o _ (.inl ⟨rfl, hk⟩)
          exact .inl ⟨j, h2⟩
      · exact h.p k (.inr hk)
    have hkl : k ≤ r.length := by
      rcases hk with ⟨rfl, _⟩ | hk
      · exact Nat.le_refl _
      · exact Nat.le_of_lt (inP_lt hk)
    rcases key with ⟨j, h1⟩ | ⟨j, h1, h2⟩
    · rcases hmv j h1 with ⟨j', _, h3⟩ | h3
      · exact .inl ⟨j', h3⟩
      · exact .inr ⟨_, hkl, h3⟩
    · rcases h2 with ⟨rfl, h2⟩ | h2
      · exact .inr ⟨_, h1, .inl ⟨rfl, List.mem_append.2 (.inl h2)⟩⟩
      · exact .inr ⟨j, h1, .inr h2⟩
theorem Dom.ret {t u : Bg} {r : List Bg} {x y : Nat} (h : Dom (t :: u :: r) x y) : Dom (⟨u.id, u.P, (t.P ++ t.O) ++ u.O⟩ :: r) x y := by
  have hO : ∀ j, inO (t :: u :: r) j y → ∃ j', j' ≤ j ∧ inO (⟨u.id, u.P, (t.P ++ t.O) ++ u.O⟩ :: r) j' y := by
    intro j hj
    rcases hj with ⟨rfl, hj⟩ | ⟨rfl, hj⟩ | hj
    · exact ⟨r.length, by simp, .inl ⟨rfl, by simp [hj]⟩⟩
    · exact ⟨r.length, Nat.le_refl _, .inl ⟨rfl, by simp [hj]⟩⟩
    · exact ⟨j, Nat.le_refl _, .inr hj⟩
  have hP : ∀ j, inP (t :: u :: r) j y → (∃ j', inO (⟨u.id, u.P, (t.P ++ t.O) ++ u.O⟩ :: r) j' y) ∨ inP (⟨u.id, u.P, (t.P ++ t.O) ++ u.O⟩ :: r) j y := by
    intro j hj
    rcases hj with ⟨rfl, hj⟩ | ⟨rfl, hj⟩ | hj
    · exact .inl ⟨r.length, .inl ⟨rfl, by simp [hj]⟩⟩
    · exact .inr (.inl ⟨rfl, hj⟩)
    · exact .inr (.inr hj)
  refine ⟨fun k hk => ?_, fun k hk => ?_⟩
  · rcases hk with ⟨rfl, hk⟩ | hk
    · simp only [List.mem_append] at hk
      rcases hk with (hk | hk) | hk
      · rcases h.p (u :: r).length (.inl ⟨rfl, hk⟩) with ⟨j, h1⟩ | ⟨j, h1, h2⟩
        · obtain ⟨j', h3, h4⟩ := hO j h1
          have := inO_lt h4
          exact ⟨j', by simp at this; omega, h4⟩
        · rcases h2 with ⟨rfl, h2⟩ | h2
          · exact ⟨r.length, Nat.le_refl _, .inl ⟨rfl, by simp [h2]⟩⟩
          · have := inP_lt h2
            omega
      · obtain ⟨j, _, h2⟩ := h.o (u :: r).length (.inl ⟨rfl, hk⟩)
        obtain ⟨j', h3, h4⟩ := hO j h2
        have := inO_lt h4
        exact ⟨j', by simp at this; omega, h4⟩
      · obtain ⟨j, _, h2⟩ := h.o r.length (.inr (.inl ⟨rfl, hk⟩))
        obtain ⟨j', h3, h4⟩ := hO j h2
        have := inO_lt h4
        exact ⟨j', by simp at this; omega, h4⟩
    · obtain ⟨j, h1, h2⟩ := h.o k (.inr (.inr hk))
      obtain ⟨j', h3, h4⟩ := hO j h2
      exact ⟨j', by omega, h4⟩
  · have hk' : inP (t :: u :: r) k x := by
      rcases hk with ⟨rfl, hk⟩ | hk
      · exact .inr (.inl ⟨rfl, hk⟩)
      · exact .inr (.inr hk)
    rcases h.p k hk' with ⟨j, h1⟩ | ⟨j, h1, h2⟩
    · obtain ⟨j', _, h4⟩ := hO j h1
      exact .inl ⟨j', h4⟩
    · rcases hP j h2 with h3 | h3
      · exact .inl h3
      · exact .inr ⟨j, h1, h3⟩
/-- Is a task's work parallel to what comes next? -/
def Late (S : List Bg) (x : Nat) : Prop := ∃ k, inO S k x
theorem Dom.late {S : List Bg} {x y : Nat} (h : Dom S x y) (hx : Late S x) : Late S y := by
  obtain ⟨k, hk⟩ := hx
  obtain ⟨j, _, hj⟩ := h.o k hk
  exact ⟨j, hj⟩
end Go.Proofs.Ytolhojagbiaamab
/-! The bags against the row: a task's work is parallel to what comes next just where its deeds are; who stands for all writers and readers of a place tells each race. -/
namespace Go.Proofs.Ytolhojagbiaamab
set_option linter.unusedVariables false
set_option maxRecDepth 20000
set_option linter.unusedSimpArgs false

/-- All tasks of the bags. -/
def allB : List Bg → List Nat
  | [] => []
  | t :: r => (t.P ++ t.O) ++ allB r
theorem inP_mem : ∀ {S : List Bg} {k x : Nat}, inP S k x → x ∈ allB S
  | [], _, _, h => h.elim
  | t :: r, k, x, h => by
    rcases h with h | h
    · simp [allB, h.2]
    · simp [allB, inP_mem h]
theorem inO_mem : ∀ {S : List Bg} {k x : Nat}, inO S k x → x ∈ allB S
  | [], _, _, h => h.elim
  | t :: r, k, x, h => by
    rcases h with h | h
    · simp [allB, h.2]
    · simp [allB, inO_mem h]
theorem not_both : ∀ {S : List Bg}, (allB S).Nodup → ∀ {k j x : Nat}, inP S k x → ¬ inO S j x
  | [], _, _, _, _, h, _ => h.elim
  | t :: r, hnd, k, j, x, hp, ho => by
    simp only [allB, List.nodup_append] at hnd
    obtain ⟨⟨h1, h2, h3⟩, h4, h5⟩ := hnd
    rcases hp with ⟨_, hp⟩ | hp
    · rcases ho with ⟨_, ho⟩ | ho
      · exact h3 x hp x ho rfl
      · exact h5 x (by simp [hp]) x (inO_mem ho) rfl
    · rcases ho with ⟨_, ho⟩ | ho
      · exact h5 x (by simp [ho]) x (inP_mem hp) rfl
      · exact not_both h4 hp ho
/-- The bags and the pieces of the row go together. -/
def Prs (ds : List Dd) (n : Nat) : List Bg → List Tk → Prop
  | [], [] => True
  | b :: bs, t :: ts => b.id ∈ b.P ∧ (∀ a, a < n → (doer ds a ∈ b.P ↔ a ∈ t.P)) ∧ (∀ a, a < n → (doer ds a ∈ b.O ↔ a ∈ t.O)) ∧ Prs ds n bs ts
  | _, _ => False
theorem Prs.len {ds : List Dd} {n : Nat} : ∀ {bs : List Bg} {ts : List Tk}, Prs ds n bs ts → bs.length = ts.length
  | [], [], _ => rfl
  | [], _ :: _, h => h.elim
  | _ :: _, [], h => h.elim
  | b :: bs, t :: ts, h => by have := Prs.len h.2.2.2; simp [this]
/-- The entries that a deed does not change: it is none of their own. -/
theorem Prs.more {ds : List Dd} {n : Nat} : ∀ {bs : List Bg} {ts : List Tk}, Prs ds n bs ts → doer ds n ∉ allB bs → (∀ a, a ∈ Cof ts → a < n) → (∀ a, a ∈ Oof ts → a < n) → Prs ds (n + 1) bs ts
  | [], [], _, _, _, _ => trivial
  | [], _ :: _, h, _, _, _ => h.elim
  | _ :: _, [], h, _, _, _ => h.elim
  | b :: bs, t :: ts, h, hd, hC, hO => by
    obtain ⟨h1, h2, h3, h4⟩ := h
    simp only [allB, List.mem_append, not_or] at hd
    refine ⟨h1, fun a ha => ?_, fun a ha => ?_, Prs.more h4 hd.2 (fun a ha => hC a (List.mem_append.2 (.inl ha))) (fun a ha => hO a (List.mem_append.2 (.inr ha)))⟩
    · by_cases e : a = n
      · subst e
        exact ⟨fun h => (hd.1.1 h).elim, fun h => by have := hC a (List.mem_append.2 (.inr h)); omega⟩
      · exact h2 a (by omega)
    · by_cases e : a = n
      · subst e
        exact ⟨fun h => (hd.1.2 h).elim, fun h => by have := hO a (List.mem_append.2 (.inl h)); omega⟩
      · exact h3 a (by omega)
theorem Prs.late {ds : List Dd} {n : Nat} : ∀ {bs : List Bg} {ts : List Tk}, Prs ds n bs ts → ∀ a, a < n → ((∃ k, inO bs k (doer ds a)) ↔ a ∈ Oof ts)
  | [], [], _, a, _ => by simp [inO, Oof]
  | [], _ :: _, h, _, _ => h.elim
  | _ :: _, [], h, _, _ => h.elim
  | b :: bs, t :: ts, h, a, ha => by
    have ih := Prs.late h.2.2.2 a ha
    have h3 := h.2.2.1 a ha
    rw [oof_cons, List.mem_append, ← ih, ← h3]
    constructor
    · rintro ⟨k, hk | hk⟩
      · exact .inl hk.2
      · exact .inr ⟨k, hk⟩
    · rintro (hk | ⟨k, hk⟩)
      · exact ⟨_, .inl ⟨rfl, hk⟩⟩
      · exact ⟨k, .inr hk⟩
/-- The bags behind the first n deeds. -/
structure BInv (ds : List Dd) (n : Nat) : Prop where
  prs : Prs ds n (bgN ds n) (stN ds n)
  nd : (allB (bgN ds n)).Nodup
  lt : ∀ x ∈ allB (bgN ds n), x < cntB ds n
  doers : ∀ a, a < n → doer ds a < cntB ds n
  pos : 1 ≤ cntB ds n
  bot : ∃ (A : List Bg) (e : Bg), bgN ds n = A ++ [e] ∧ 0 ∈ e.P
theorem binv_zero (ds : List Dd) : BInv ds 0 := by
  refine ⟨⟨by simp, fun a ha => by omega, fun a ha => by omega, trivial⟩, by simp [bgN, allB], by simp [bgN, allB, cntB], fun a ha => by omega, by simp [cntB], [], ⟨0, [0], []⟩, rfl, by simp⟩
theorem allB_cons (t : Bg) (r : List Bg) : allB (t :: r) = (t.P ++ t.O) ++ allB r := rfl
theorem binv_step {ds : List Dd} {n : Nat} (hI : Inv ds n) (h : BInv ds n) (hst : stN ds n ≠ []) (hk : (ds.getD n ⟨3, 0⟩).k = 1 → 2 ≤ (stN ds n).length) : BInv ds (n + 1) := by
  obtain ⟨hp, hnd, hlt, hdo, hpos, A, e, hA, he⟩ := h
  cases hs : stN ds n with
  | nil => exact (hst hs).elim
  | cons t r =>
    cases hb : bgN ds n with
    | nil => rw [hb] at hA; simp at hA
    | cons b bs =>
      rw [hs, hb] at hp
      rw [hb] at hnd hlt hA
      obtain ⟨p1, p2, p3, p4⟩ := hp
      have hC : ∀ a, a ∈ Cof (t :: r) → a < n := fun a ha => (hI.all a).1 (by rw [hs]; exact List.mem_append.2 (.inl ha))
      have hO : ∀ a, a ∈ Oof (t :: r) → a < n := fun a ha => (hI.all a).1 (by rw [hs]; exact List.mem_append.2 (.inr ha))
      have hd : doer ds n = b.id := by unfold doer; rw [hb]; rfl
      rw [allB_cons, List.nodup_append] at hnd
      obtain ⟨n1, n2, n3⟩ := hnd
      rw [List.nodup_append] at n1
      obtain ⟨n4, n5, n6⟩ := n1
      have hidr : b.id ∉ allB bs := fun h => n3 b.id (by simp [p1]) b.id h rfl
      have hidO : b.id ∉ b.O := fun h => n6 b.id p1 b.id h rfl
      have hmore := Prs.more (n := n) p4 (by rw [hd]; exact hidr) (fun a ha => hC a (List.mem_append.2 (.inl ha))) (fun a ha => hO a (List.mem_append.2 (.inr ha)))
      have hidlt : b.id < cntB ds n := hlt b.id (by simp [allB, p1])
      have hs' : stN ds (n + 1) = stepT n ((ds.getD n ⟨3, 0⟩).k) (t :: r) := by rw [← hs]; rfl
      have hb' : bgN ds (n + 1) = stepB ((ds.getD n ⟨3, 0⟩).k) (cntB ds n) (b :: bs) := by rw [← hb]; rfl
      have hc' : cntB ds (n + 1) = if (ds.getD n ⟨3, 0⟩).k = 0 then cntB ds n + 1 else cntB ds n := rfl
      -- the top entry behind a deed of its own
      have topP : ∀ a, a < n + 1 → (doer ds a ∈ b.P ↔ a ∈ t.P ++ [n]) := fun a ha => by
        by_cases ea : a = n
        · subst ea; rw [hd]; simp [p1]
        · rw [p2 a (by omega)]; simp [ea]
      have topO : ∀ a, a < n + 1 → (doer ds a ∈ b.O ↔ a ∈ t.O) := fun a ha => by
        by_cases ea : a = n
        · subst ea; rw [hd]; exact ⟨fun h => (hidO h).elim, fun h => by have := hO a (List.mem_append.2 (.inl h)); omega⟩
        · exact p3 a (by omega)
      have hdo' : ∀ c, cntB ds n ≤ c → ∀ a, a < n + 1 → doer ds a < c := fun c hc a ha => by
        by_cases ea : a = n
        · subst ea; rw [hd]; omega
        · have := hdo a (by omega); omega
      by_cases k0 : (ds.getD n ⟨3, 0⟩).k = 0
      · rw [k0] at hs' hb'
        rw [if_pos k0] at hc'
        rw [st0] at hs'
        rw [sb0] at hb'
        refine ⟨?_, ?_, ?_, by rw [hc']; exact hdo' _ (by omega), by omega, ?_⟩
        · rw [hs', hb']
          refine ⟨by simp, fun a ha => ?_, fun a ha => by simp, p1, topP, topO, hmore⟩
          have := hdo' _ (Nat.le_refl _) a ha
          simp
          omega
        · rw [hb', allB_cons, allB_cons]
          have hT : cntB ds n ∉ b.P ++ b.O ++ allB bs := fun h => by have := hlt _ h; omega
          simp only [List.singleton_append, List.append_nil, List.nil_append]
          refine List.nodup_cons.2 ⟨hT, List.nodup_append.2 ⟨List.nodup_append.2 ⟨n4, n5, n6⟩, n2, n3⟩⟩
        · rw [hb', hc']
          intro x hx
          simp only [allB, List.append_nil, List.singleton_append, List.mem_cons] at hx
          rcases hx with rfl | hx
          · omega
          · have := hlt x hx; omega
        · rw [hb']
          exact ⟨⟨cntB ds n, [cntB ds n], []⟩ :: A, e, by rw [hA]; rfl, he⟩
      · rw [if_neg k0] at hc'
        by_cases k1 : (ds.getD n ⟨3, 0⟩).k = 1
        · have h2 := hk k1
          rw [hs] at h2
          obtain ⟨u, r', hr⟩ : ∃ u r', r = u :: r' := by
            cases r with
            | nil => simp at h2
            | cons u r' => exact ⟨u, r', rfl⟩
          subst hr
          obtain ⟨ub, br, hbr⟩ : ∃ ub br, bs = ub :: br := by
            cases bs with
            | nil => exact p4.elim
            | cons ub br => exact ⟨ub, br, rfl⟩
          subst hbr
          rw [k1] at hs' hb'
          rw [st1] at hs'
          rw [sb1] at hb'
          obtain ⟨q1, q2, q3, q4⟩ := hmore
          refine ⟨?_, ?_, ?_, by rw [hc']; exact hdo' _ (Nat.le_refl _), by omega, ?_⟩
          · rw [hs', hb']
            refine ⟨q1, q2, fun a ha => ?_, q4⟩
            have e1 := topP a ha
            have e2 := topO a ha
            have e3 := q3 a ha
            simp only [List.mem_append, List.mem_singleton] at e1 e2 e3 ⊢
            rw [e1, e2, e3]
            constructor
            · rintro (((h | h) | h) | h)
              · exact .inl (.inl (.inl h))
              · exact .inl (.inr h)
              · exact .inl (.inl (.inr h))
              · exact .inr h
            · rintro (((h | h) | h) | h)
              · exact .inl (.inl (.inl h))
              · exact .inl (.inr h)
              · exact .inl (.inl (.inr h))
              · exact .inr h
          · rw [hb']
            have hperm : (allB (⟨ub.id, ub.P, (b.P ++ b.O) ++ ub.O⟩ :: br)).Perm ((b.P ++ b.O) ++ allB (ub :: br)) := by
              rw [allB_cons, allB_cons]
              simp only
              have : (ub.P ++ (b.P ++ b.O ++ ub.O) ++ allB br).Perm ((b.P ++ b.O) ++ (ub.P ++ ub.O ++ allB br)) := by
                have h1 : (ub.P ++ (b.P ++ b.O ++ ub.O)).Perm ((b.P ++ b.O ++ ub.O) ++ ub.P) := List.perm_append_comm
                have h2 : ((b.P ++ b.O ++ ub.O) ++ ub.P).Perm ((b.P ++ b.O) ++ (ub.P ++ ub.O)) := by
                  rw [List.append_assoc (b.P ++ b.O)]
                  exact List.Perm.append_left _ List.perm_append_comm
                have h3 := (h1.trans h2).append_right (allB br)
                rwa [List.append_assoc (b.P ++ b.O)] at h3
              exact this
            exact hperm.nodup_iff.2 (List.nodup_append.2 ⟨List.nodup_append.2 ⟨n4, n5, n6⟩, n2, n3⟩)
          · rw [hb', hc']
            intro x hx
            refine hlt x ?_
            simp only [allB, List.mem_append] at hx ⊢
            rcases hx with (h | ((h | h) | h)) | h
            · exact .inr (.inl (.inl h))
            · exact .inl (.inl h)
            · exact .inl (.inr h)
            · exact .inr (.inl (.inr h))
            · exact .inr (.inr h)
          · rw [hb']
            cases A with
            | nil => simp at hA
            | cons a1 A1 =>
              injection hA with _ hA
              cases A1 with
              | nil =>
                simp at hA
                obtain ⟨hA1, hA2⟩ := hA
                subst hA2
                exact ⟨[], ⟨ub.id, ub.P, (b.P ++ b.O) ++ ub.O⟩, rfl, by rw [hA1]; exact he⟩
              | cons a2 A2 =>
                injection hA with _ hA
                exact ⟨⟨ub.id, ub.P, (b.P ++ b.O) ++ ub.O⟩ :: A2, e, by rw [hA]; rfl, he⟩
        · by_cases k2 : (ds.getD n ⟨3, 0⟩).k = 2
          · rw [k2] at hs' hb'
            rw [st2] at hs'
            rw [sb2] at hb'
            refine ⟨?_, ?_, ?_, by rw [hc']; exact hdo' _ (Nat.le_refl _), by omega, ?_⟩
            · rw [hs', hb']
              refine ⟨by simp [p1], fun a ha => ?_, fun a ha => by simp, hmore⟩
              have e1 := topP a ha
              have e2 := topO a ha
              simp only [List.mem_append, List.mem_singleton] at e1 e2 ⊢
              rw [e1, e2]
              constructor
              · rintro ((h | h) | h)
                · exact .inl (.inl h)
                · exact .inr h
                · exact .inl (.inr h)
              · rintro ((h | h) | h)
                · exact .inl (.inl h)
                · exact .inr h
                · exact .inl (.inr h)
            · rw [hb', allB_cons]
              simp only [List.append_nil]
              exact List.nodup_append.2 ⟨List.nodup_append.2 ⟨n4, n5, n6⟩, n2, n3⟩
            · rw [hb', hc']
              intro x hx
              refine hlt x ?_
              simpa [allB] using hx
            · rw [hb']
              cases A with
              | nil =>
                simp at hA
                obtain ⟨hA1, hA2⟩ := hA
                subst hA2
                exact ⟨[], ⟨b.id, b.P ++ b.O, []⟩, rfl, by rw [hA1]; simp [he]⟩
              | cons a1 A1 =>
                injection hA with _ hA
                exact ⟨⟨b.id, b.P ++ b.O, []⟩ :: A1, e, by rw [hA]; rfl, he⟩
          · rw [st3 _ _ _ _ k0 k1 k2] at hs'
            rw [sb3 _ _ _ _ k0 k1 k2] at hb'
            refine ⟨?_, ?_, ?_, by rw [hc']; exact hdo' _ (Nat.le_refl _), by omega, ?_⟩
            · rw [hs', hb']
              exact ⟨p1, topP, topO, hmore⟩
            · rw [hb', allB_cons]
              exact List.nodup_append.2 ⟨List.nodup_append.2 ⟨n4, n5, n6⟩, n2, n3⟩
            · rw [hb', hc']; exact hlt
            · rw [hb']; exact ⟨A, e, hA, he⟩
end Go.Proofs.Ytolhojagbiaamab
/-! One writer and one reader of a place stand for all. -/
namespace Go.Proofs.Ytolhojagbiaamab
set_option linter.unusedVariables false
set_option maxRecDepth 20000
set_option linter.unusedSimpArgs false

def kdN (ds : List Dd) (a : Nat) : Int := (ds.getD a ⟨3, 0⟩).k
def lcN (ds : List Dd) (a : Nat) : Int := (ds.getD a ⟨3, 0⟩).loc
theorem inP_bot : ∀ (A : List Bg) (e : Bg) (x : Nat), x ∈ e.P → inP (A ++ [e]) 0 x
  | [], e, x, h => .inl ⟨rfl, h⟩
  | t :: A, e, x, h => .inr (inP_bot A e x h)
theorem not_late_root {ds : List Dd} {n : Nat} (h : BInv ds n) : ¬ Late (bgN ds n) 0 := by
  rintro ⟨k, hk⟩
  obtain ⟨A, e, hA, he⟩ := h.bot
  have hp := inP_bot A e 0 he
  rw [← hA] at hp
  exact not_both h.nd hp hk
/-- Which deeds are parallel to a read or a write. -/
theorem par_late {ds : List Dd} {n : Nat} (hI : Inv ds n) (h : BInv ds n) (hst : stN ds n ≠ []) (h1 : ¬ kdN ds n = 1) (h2 : ¬ kdN ds n = 2) {a : Nat} (ha : a < n) : (¬ Ah ds a n ↔ Late (bgN ds n) (doer ds a)) := by
  cases hs : stN ds n with
  | nil => exact (hst hs).elim
  | cons t r =>
    have hg := hI.good
    rw [hs] at hg
    have hA := next_ah hs hg a
    have hL := Prs.late h.prs a ha
    unfold Late
    rw [hL, hs]
    have hC : Ah ds a n ↔ a ∈ Cof (t :: r) := by
      rw [hA]
      constructor
      · rintro (h | ⟨h | h, _⟩)
        · exact h
        · exact (h1 h).elim
        · exact (h2 h).elim
      · exact .inl
    rw [hC]
    have hin : a ∈ Cof (t :: r) ++ Oof (t :: r) := by
      have := (hI.all a).2 ha
      rw [hs] at this
      exact this
    have hnd : (Cof (t :: r) ++ Oof (t :: r)).Nodup := by
      have := hI.nd
      rw [hs] at this
      exact this
    constructor
    · intro hn
      rcases List.mem_append.1 hin with h | h
      · exact (hn h).elim
      · exact h
    · intro ho hc
      exact (List.nodup_append.1 hnd).2.2 a hc a ho rfl
/-- Who stands for the writers and the readers of each place, behind the first n deeds. -/
structure Std (ds : List Dd) (n : Nat) (wr rd : Int → Nat) : Prop where
  w : ∀ a, a < n → kdN ds a = 4 → Dom (bgN ds n) (doer ds a) (wr (lcN ds a))
  r : ∀ a, a < n → kdN ds a = 3 → Dom (bgN ds n) (doer ds a) (rd (lcN ds a))
  wh : ∀ L, wr L = 0 ∨ ∃ a, a < n ∧ kdN ds a = 4 ∧ lcN ds a = L ∧ doer ds a = wr L
  rh : ∀ L, rd L = 0 ∨ ∃ a, a < n ∧ kdN ds a = 3 ∧ lcN ds a = L ∧ doer ds a = rd L
theorem std_zero (ds : List Dd) : Std ds 0 (fun _ => 0) (fun _ => 0) := ⟨fun a ha => by omega, fun a ha => by omega, fun L => .inl rfl, fun L => .inl rfl⟩
/-- A spawn, a return or a sync. -/
theorem Std.other {ds : List Dd} {n : Nat} {wr rd : Int → Nat} (h : Std ds n wr rd) (hb : BInv ds n) (hst : stN ds n ≠ []) (hk1 : kdN ds n = 1 → 2 ≤ (stN ds n).length) (hk : ¬ kdN ds n = 3 ∧ ¬ kdN ds n = 4) : Std ds (n + 1) wr rd := by
  have hstep : ∀ x y, x < cntB ds n → Dom (bgN ds n) x y → Dom (bgN ds (n + 1)) x y := by
    intro x y hx hd
    have hb' : bgN ds (n + 1) = stepB (kdN ds n) (cntB ds n) (bgN ds n) := rfl
    cases hbg : bgN ds n with
    | nil => obtain ⟨A, e, hA, _⟩ := hb.bot; rw [hbg] at hA; simp at hA
    | cons b bs =>
      rw [hbg] at hb' hd
      by_cases k0 : kdN ds n = 0
      · rw [k0, sb0] at hb'; rw [hb']; exact hd.spawn (by omega)
      · by_cases k1 : kdN ds n = 1
        · have hl := Prs.len hb.prs
          have h2 := hk1 k1
          rw [hbg] at hl
          obtain ⟨u, br, rfl⟩ : ∃ u br, bs = u :: br := by
            cases bs with
            | nil => simp at hl; omega
            | cons u br => exact ⟨u, br, rfl⟩
          rw [k1, sb1] at hb'; rw [hb']; exact hd.ret
        · by_cases k2 : kdN ds n = 2
          · rw [k2, sb2] at hb'; rw [hb']; exact hd.sync
          · rw [sb3 _ _ _ _ k0 k1 k2] at hb'; rw [hb']; exact hd
  refine ⟨fun a ha hka => ?_, fun a ha hka => ?_, fun L => ?_, fun L => ?_⟩
  · have hne : a ≠ n := fun e => by subst e; exact hk.2 hka
    exact hstep _ _ (hb.doers a (by omega)) (h.w a (by omega) hka)
  · have hne : a ≠ n := fun e => by subst e; exact hk.1 hka
    exact hstep _ _ (hb.doers a (by omega)) (h.r a (by omega) hka)
  · rcases h.wh L with h | ⟨a, h1, h2⟩
    · exact .inl h
    · exact .inr ⟨a, by omega, h2⟩
  · rcases h.rh L with h | ⟨a, h1, h2⟩
    · exact .inl h
    · exact .inr ⟨a, by omega, h2⟩
/-- Who stands for both. -/
theorem dom_both {S : List Bg} {t : Bg} {r : List Bg} (hS : S = t :: r) (hid : t.id ∈ t.P) (hnd : (allB S).Nodup) {y : Nat} :
    (Late S y → Dom S t.id y) ∧ Dom S t.id t.id ∧ (¬ Late S y → ∀ x, Dom S x y → Dom S x t.id) := by
  subst hS
  have hin : inP (t :: r) r.length t.id := .inl ⟨rfl, hid⟩
  refine ⟨fun hy => ⟨fun k hk => (not_both hnd hin hk).elim, fun k _ => .inl hy⟩, ⟨fun k hk => (not_both hnd hin hk).elim, fun k hk => .inr ⟨r.length, ?_, hin⟩⟩, fun hy x hd => ⟨fun k hk => (hy (hd.late ⟨k, hk⟩)).elim, fun k hk => ?_⟩⟩
  · have := inP_lt hk; simp at this; omega
  · rcases hd.p k hk with h | ⟨j, h1, h2⟩
    · exact (hy h).elim
    · have := inP_lt h2
      exact .inr ⟨r.length, by simp at this; omega, hin⟩
open Classical in
/-- The place's writer behind one more. -/
noncomputable def bothV (S : List Bg) (y d : Nat) : Nat := if Late S y then y else d
theorem bg_same {ds : List Dd} {n : Nat} (h : kdN ds n = 3 ∨ kdN ds n = 4) (hne : bgN ds n ≠ []) : bgN ds (n + 1) = bgN ds n := by
  have hb' : bgN ds (n + 1) = stepB (kdN ds n) (cntB ds n) (bgN ds n) := rfl
  rw [hb']
  cases hbg : bgN ds n with
  | nil => exact (hne hbg).elim
  | cons b bs => exact sb3 _ _ _ _ (by omega) (by omega) (by omega)
theorem bg_top {ds : List Dd} {n : Nat} (h : BInv ds n) (hst : stN ds n ≠ []) : ∃ t r, bgN ds n = t :: r ∧ t.id ∈ t.P ∧ doer ds n = t.id := by
  cases hbg : bgN ds n with
  | nil => obtain ⟨A, e, hA, _⟩ := h.bot; rw [hbg] at hA; simp at hA
  | cons b bs =>
    have hp := h.prs
    rw [hbg] at hp
    cases hs : stN ds n with
    | nil => exact (hst hs).elim
    | cons t r =>
      rw [hs] at hp
      exact ⟨b, bs, rfl, hp.1, by unfold doer; rw [hbg]; rfl⟩
def updZ (f : Int → Nat) (L : Int) (v : Nat) : Int → Nat := fun x => if x = L then v else f x
theorem updZ_eq (f : Int → Nat) (L : Int) (v : Nat) : updZ f L v L = v := by unfold updZ; rw [if_pos rfl]
theorem updZ_ne {f : Int → Nat} {L x : Int} {v : Nat} (h : x ≠ L) : updZ f L v x = f x := by unfold updZ; rw [if_neg h]
theorem Std.write {ds : List Dd} {n : Nat} {wr rd : Int → Nat} (h : Std ds n wr rd) (hb : BInv ds n) (hst : stN ds n ≠ []) (hk : kdN ds n = 4) :
    Std ds (n + 1) (updZ wr (lcN ds n) (bothV (bgN ds n) (wr (lcN ds n)) (doer ds n))) rd := by
  obtain ⟨t, r, hbg, hid, hdo⟩ := bg_top hb hst
  have hsame := bg_same (.inr hk) (by rw [hbg]; simp)
  obtain ⟨d1, d2, d3⟩ := dom_both (y := wr (lcN ds n)) hbg hid hb.nd
  have hbv : (Late (bgN ds n) (wr (lcN ds n)) ∧ bothV (bgN ds n) (wr (lcN ds n)) (doer ds n) = wr (lcN ds n)) ∨ (¬ Late (bgN ds n) (wr (lcN ds n)) ∧ bothV (bgN ds n) (wr (lcN ds n)) (doer ds n) = t.id) := by
    unfold bothV
    by_cases hl : Late (bgN ds n) (wr (lcN ds n))
    · left; exact ⟨hl, by rw [if_pos hl]⟩
    · right; exact ⟨hl, by rw [if_neg hl]; exact hdo⟩
  refine ⟨fun a ha hka => ?_, fun a ha hka => ?_, fun L => ?_, fun L => ?_⟩
  · rw [hsame]
    by_cases ea : a = n
    · subst ea
      rw [updZ_eq, hdo]
      rcases hbv with ⟨hl, e⟩ | ⟨hl, e⟩
      · rw [hdo] at e; rw [e]; exact d1 hl
      · rw [hdo] at e; rw [e]; exact d2
    · by_cases eL : lcN ds a = lcN ds n
      · rw [eL, updZ_eq]
        have hold := h.w a (by omega) hka
        rw [eL] at hold
        rcases hbv with ⟨hl, e⟩ | ⟨hl, e⟩
        · rw [e]; exact hold
        · rw [e]; exact d3 hl _ hold
      · rw [updZ_ne eL]
        exact h.w a (by omega) hka
  · rw [hsame]
    exact h.r a (by have : a ≠ n := fun e => by subst e; omega
                    omega) hka
  · by_cases eL : L = lcN ds n
    · subst eL
      rw [updZ_eq]
      rcases hbv with ⟨hl, e⟩ | ⟨hl, e⟩
      · rw [e]
        rcases h.wh (lcN ds n) with h | ⟨a, h1, h2⟩
        · exact .inl h
        · exact .inr ⟨a, by omega, h2⟩
      · rw [e]
        exact .inr ⟨n, by omega, hk, rfl, hdo⟩
    · rw [updZ_ne eL]
      rcases h.wh L with h | ⟨a, h1, h2⟩
      · exact .inl h
      · exact .inr ⟨a, by omega, h2⟩
  · rcases h.rh L with h | ⟨a, h1, h2⟩
    · exact .inl h
    · exact .inr ⟨a, by omega, h2⟩
theorem Std.read {ds : List Dd} {n : Nat} {wr rd : Int → Nat} (h : Std ds n wr rd) (hb : BInv ds n) (hst : stN ds n ≠ []) (hk : kdN ds n = 3) :
    Std ds (n + 1) wr (updZ rd (lcN ds n) (bothV (bgN ds n) (rd (lcN ds n)) (doer ds n))) := by
  obtain ⟨t, r, hbg, hid, hdo⟩ := bg_top hb hst
  have hsame := bg_same (.inl hk) (by rw [hbg]; simp)
  obtain ⟨d1, d2, d3⟩ := dom_both (y := rd (lcN ds n)) hbg hid hb.nd
  have hbv : (Late (bgN ds n) (rd (lcN ds n)) ∧ bothV (bgN ds n) (rd (lcN ds n)) (doer ds n) = rd (lcN ds n)) ∨ (¬ Late (bgN ds n) (rd (lcN ds n)) ∧ bothV (bgN ds n) (rd (lcN ds n)) (doer ds n) = t.id) := by
    unfold bothV
    by_cases hl : Late (bgN ds n) (rd (lcN ds n))
    · left; exact ⟨hl, by rw [if_pos hl]⟩
    · right; exact ⟨hl, by rw [if_neg hl]; exact hdo⟩
  refine ⟨fun a ha hka => ?_, fun a ha hka => ?_, fun L => ?_, fun L => ?_⟩
  · rw [hsame]
    exact h.w a (by have : a ≠ n := fun e => by subst e; omega
                    omega) hka
  · rw [hsame]
    by_cases ea : a = n
    · subst ea
      rw [updZ_eq, hdo]
      rcases hbv with ⟨hl, e⟩ | ⟨hl, e⟩
      · rw [hdo] at e; rw [e]; exact d1 hl
      · rw [hdo] at e; rw [e]; exact d2
    · by_cases eL : lcN ds a = lcN ds n
      · rw [eL, updZ_eq]
        have hold := h.r a (by omega) hka
        rw [eL] at hold
        rcases hbv with ⟨hl, e⟩ | ⟨hl, e⟩
        · rw [e]; exact hold
        · rw [e]; exact d3 hl _ hold
      · rw [updZ_ne eL]
        exact h.r a (by omega) hka
  · rcases h.wh L with h | ⟨a, h1, h2⟩
    · exact .inl h
    · exact .inr ⟨a, by omega, h2⟩
  · by_cases eL : L = lcN ds n
    · subst eL
      rw [updZ_eq]
      rcases hbv with ⟨hl, e⟩ | ⟨hl, e⟩
      · rw [e]
        rcases h.rh (lcN ds n) with h | ⟨a, h1, h2⟩
        · exact .inl h
        · exact .inr ⟨a, by omega, h2⟩
      · rw [e]
        exact .inr ⟨n, by omega, hk, rfl, hdo⟩
    · rw [updZ_ne eL]
      rcases h.rh L with h | ⟨a, h1, h2⟩
      · exact .inl h
      · exact .inr ⟨a, by omega, h2⟩
/-- A race of a deed with an earlier one. -/
def RaceW (ds : List Dd) (a n : Nat) : Prop := (kdN ds a = 3 ∨ kdN ds a = 4) ∧ (kdN ds n = 3 ∨ kdN ds n = 4) ∧ lcN ds a = lcN ds n ∧ (kdN ds a = 4 ∨ kdN ds n = 4) ∧ ¬ Ah ds a n
theorem race_read {ds : List Dd} {n : Nat} {wr rd : Int → Nat} (hI : Inv ds n) (hb : BInv ds n) (h : Std ds n wr rd) (hst : stN ds n ≠ []) (hk : kdN ds n = 3) : Late (bgN ds n) (wr (lcN ds n)) ↔ ∃ a, a < n ∧ RaceW ds a n := by
  have hpar := fun a (ha : a < n) => par_late hI hb hst (by omega) (by omega) ha
  constructor
  · intro hl
    rcases h.wh (lcN ds n) with h0 | ⟨a, h1, h2, h3, h4⟩
    · rw [h0] at hl; exact (not_late_root hb hl).elim
    · refine ⟨a, h1, .inr h2, .inl hk, h3, .inl h2, ?_⟩
      rw [hpar a h1, h4]
      exact hl
  · rintro ⟨a, ha, h1, _, h3, h4, h5⟩
    have hk4 : kdN ds a = 4 := by rcases h4 with h4 | h4 <;> omega
    have hd := h.w a ha hk4
    rw [h3] at hd
    exact hd.late ((hpar a ha).1 h5)
theorem race_write {ds : List Dd} {n : Nat} {wr rd : Int → Nat} (hI : Inv ds n) (hb : BInv ds n) (h : Std ds n wr rd) (hst : stN ds n ≠ []) (hk : kdN ds n = 4) : (Late (bgN ds n) (wr (lcN ds n)) ∨ Late (bgN ds n) (rd (lcN ds n))) ↔ ∃ a, a < n ∧ RaceW ds a n := by
  have hpar := fun a (ha : a < n) => par_late hI hb hst (by omega) (by omega) ha
  constructor
  · rintro (hl | hl)
    · rcases h.wh (lcN ds n) with h0 | ⟨a, h1, h2, h3, h4⟩
      · rw [h0] at hl; exact (not_late_root hb hl).elim
      · refine ⟨a, h1, .inr h2, .inr hk, h3, .inl h2, ?_⟩
        rw [hpar a h1, h4]
        exact hl
    · rcases h.rh (lcN ds n) with h0 | ⟨a, h1, h2, h3, h4⟩
      · rw [h0] at hl; exact (not_late_root hb hl).elim
      · refine ⟨a, h1, .inl h2, .inr hk, h3, .inr hk, ?_⟩
        rw [hpar a h1, h4]
        exact hl
  · rintro ⟨a, ha, h1, _, h3, h4, h5⟩
    rcases h1 with h1 | h1
    · have hd := h.r a ha h1
      rw [h3] at hd
      exact .inr (hd.late ((hpar a ha).1 h5))
    · have hd := h.w a ha h1
      rw [h3] at hd
      exact .inl (hd.late ((hpar a ha).1 h5))
end Go.Proofs.Ytolhojagbiaamab
/-! Sets of tasks in memory: root, parallel. -/
namespace Go.Proofs.Ytolhojagbiaamab
set_option linter.unusedVariables false
set_option maxRecDepth 20000
set_option linter.unusedSimpArgs false
open Go.RowKit Go.HeapKit

/-- Ways up to a root. -/
structure Fo (U : List Nat) (rt d : Nat → Nat) : Prop where
  up : ∀ x, x < U.length → U.getD x 0 < U.length
  fix : ∀ x, x < U.length → U.getD x 0 = x → rt x = x
  mv : ∀ x, x < U.length → U.getD x 0 ≠ x → d (U.getD x 0) < d x ∧ rt (U.getD x 0) = rt x
  root : ∀ x, x < U.length → rt x < U.length ∧ U.getD (rt x) 0 = rt x
theorem getD_set (U : List Nat) (x v y : Nat) (hx : x < U.length) : (U.set x v).getD y 0 = if y = x then v else U.getD y 0 := by
  rw [List.getD_eq_getElem?_getD, List.getD_eq_getElem?_getD, List.getElem?_set]
  by_cases h : y = x
  · subst h; simp [hx]
  · rw [if_neg (fun e => h e.symm), if_neg h]
/-- A way is made shorter. -/
theorem Fo.half {U : List Nat} {rt d : Nat → Nat} (h : Fo U rt d) {x : Nat} (hx : x < U.length) (hne : U.getD x 0 ≠ x) : Fo (U.set x (U.getD (U.getD x 0) 0)) rt d ∧ d (U.getD (U.getD x 0) 0) < d x ∧ rt (U.getD (U.getD x 0) 0) = rt x := by
  obtain ⟨m1, m2⟩ := h.mv x hx hne
  have hy := h.up x hx
  have hz : d (U.getD (U.getD x 0) 0) ≤ d (U.getD x 0) ∧ rt (U.getD (U.getD x 0) 0) = rt (U.getD x 0) := by
    by_cases e : U.getD (U.getD x 0) 0 = U.getD x 0
    · rw [e]; exact ⟨Nat.le_refl _, rfl⟩
    · obtain ⟨a1, a2⟩ := h.mv _ hy e
      exact ⟨by omega, a2⟩
  have hd : d (U.getD (U.getD x 0) 0) < d x := by omega
  have hr : rt (U.getD (U.getD x 0) 0) = rt x := hz.2.trans m2
  refine ⟨⟨?_, ?_, ?_, ?_⟩, hd, hr⟩
  · intro y hy'
    rw [List.length_set] at hy' ⊢
    rw [getD_set _ _ _ _ hx]
    split
    · exact h.up _ (h.up x hx)
    · exact h.up y hy'
  · intro y hy' e
    rw [List.length_set] at hy'
    rw [getD_set _ _ _ _ hx] at e
    split at e
    · rename_i h1
      subst h1
      rw [e] at hd
      omega
    · exact h.fix y hy' e
  · intro y hy' e
    rw [List.length_set] at hy'
    rw [getD_set _ _ _ _ hx] at e ⊢
    split
    · rename_i h1; subst h1; exact ⟨hd, hr⟩
    · rename_i h1; rw [if_neg h1] at e; exact h.mv y hy' e
  · intro y hy'
    rw [List.length_set] at hy' ⊢
    obtain ⟨r1, r2⟩ := h.root y hy'
    refine ⟨r1, ?_⟩
    rw [getD_set _ _ _ _ hx]
    split
    · rename_i h1
      exfalso
      rw [h1] at r2
      exact hne r2
    · exact r2
theorem natZ_lenB (L : List Nat) : (natZ L).length = L.length := by simp [natZ]
/-- Bools of the call's own. -/
def bvs (l : List Bool) : List Value := l.map Value.bool
/-- The sets in memory, at a place of a block. -/
structure SetM (w : World) (base S o : Nat) (U : List Nat) (M : List Bool) (A : List Int) (gu cu gm cm gl cl : Nat) : Prop where
  c0 : w.cell? ⟨S, o, none⟩ = some (.slice (some ⟨gu, 0, none⟩) U.length cu)
  c1 : w.cell? ⟨S, o + 1, none⟩ = some (.slice (some ⟨gm, 0, none⟩) U.length cm)
  c2 : w.cell? ⟨S, o + 2, none⟩ = some (.slice (some ⟨gl, 0, none⟩) U.length cl)
  ru : RowZ w base (.slice (some ⟨gu, 0, none⟩) U.length cu) (natZ U)
  rm : w.ownsRow base 4 1 (.slice (some ⟨gm, 0, none⟩) U.length cm) U.length (bvs M)
  rl : RowZ w base (.slice (some ⟨gl, 0, none⟩) U.length cl) A
  lm : M.length = U.length
  la : A.length = U.length
  ne : gu ≠ gl
  blk : ∃ c t, w.heap[S]? = some (.cells c t (0, 0)) ∧ t ≠ 3 ∧ t ≠ 4
section
variable {w w' : World} {base S o gu cu gm cm gl cl : Nat} {U : List Nat} {M : List Bool} {A : List Int}
theorem SetM.ublk (h : SetM w base S o U M A gu cu gm cm gl cl) : ∃ cur, w.heap[gu]? = some (.cells cur 3 (0, 0)) := own_block h.ru rfl
theorem SetM.lblk (h : SetM w base S o U M A gu cu gm cm gl cl) : ∃ cur, w.heap[gl]? = some (.cells cur 3 (0, 0)) := own_block h.rl rfl
theorem SetM.mblk (h : SetM w base S o U M A gu cu gm cm gl cl) : ∃ cur, w.heap[gm]? = some (.cells cur 4 (0, 0)) := own_block h.rm rfl
theorem ne_of_types {w : World} {p q : Nat} {c c' : Array Value} {t t' : TypeId} {f f' : Nat × Nat} (hp : w.heap[p]? = some (.cells c t f)) (hq : w.heap[q]? = some (.cells c' t' f')) (ht : t ≠ t') : p ≠ q := by
  intro e
  subst e
  rw [hp] at hq
  injection hq with hq
  injection hq with _ hq
  exact ht hq
theorem SetM.neS (h : SetM w base S o U M A gu cu gm cm gl cl) : S ≠ gu ∧ S ≠ gm ∧ S ≠ gl ∧ gm ≠ gu ∧ gm ≠ gl := by
  obtain ⟨c, t, h1, h2, h3⟩ := h.blk
  obtain ⟨_, hu⟩ := h.ublk
  obtain ⟨_, hl⟩ := h.lblk
  obtain ⟨_, hm⟩ := h.mblk
  exact ⟨ne_of_types h1 hu h2, ne_of_types h1 hm h3, ne_of_types h1 hl h2, ne_of_types hm hu (by decide), ne_of_types hm hl (by decide)⟩
theorem SetM.kept {P : Nat → Prop} (h : SetM w base S o U M A gu cu gm cm gl cl) (hk : Keeps P w w') (h0 : ¬ P S) (h1 : ¬ P gu) (h2 : ¬ P gm) (h3 : ¬ P gl) : SetM w' base S o U M A gu cu gm cm gl cl := by
  obtain ⟨c, t, b1, b2, b3⟩ := h.blk
  exact ⟨hk.cell h.c0 h0, hk.cell h.c1 h0, hk.cell h.c2 h0, h.ru.kept hk (fun g e => by simp [Value.ownBlock] at e; subst e; exact h1), row_kept h.rm hk (fun g e => by simp [Value.ownBlock] at e; subst e; exact h2), h.rl.kept hk (fun g e => by simp [Value.ownBlock] at e; subst e; exact h3), h.lm, h.la, h.ne, c, t, blk_kept b1 hk h0, b2, b3⟩
theorem SetM.more (h : SetM w base S o U M A gu cu gm cm gl cl) (hk : Keeps None w w') : SetM w' base S o U M A gu cu gm cm gl cl := h.kept hk (fun f => f) (fun f => f) (fun f => f) (fun f => f)
theorem SetM.uat (h : SetM w base S o U M A gu cu gm cm gl cl) {x : Nat} (hx : x < U.length) : w.cell? ⟨gu, x, none⟩ = some (.int .i64 (U.getD x 0 : Nat)) ∧ w.frozen? ⟨gu, x, none⟩ = false := by
  have hr := h.ru
  rw [← natZ_lenB U] at hr
  obtain ⟨h1, h2, _⟩ := RowZ.at (k := x) (x := ((U.getD x 0 : Nat) : Int)) hr (by simp [natZ, List.getD_eq_getElem?_getD, hx])
  exact ⟨h1, h2⟩
/-- One of the ways up is another one. -/
theorem SetM.putU (h : SetM w base S o U M A gu cu gm cm gl cl) (x v : Nat) : SetM (w.setCell ⟨gu, x, none⟩ (.int .i64 v)) base S o (U.set x v) M A gu cu gm cm gl cl ∧ Keeps (· = gu) w (w.setCell ⟨gu, x, none⟩ (.int .i64 v)) := by
  have hk : Keeps (· = gu) w (w.setCell ⟨gu, x, none⟩ (.int .i64 v)) := keeps_one (Keeps.refl _ _) _
  obtain ⟨n1, n2, n3, n4, n5⟩ := h.neS
  obtain ⟨c, t, b1, b2, b3⟩ := h.blk
  have hr := h.ru
  rw [← natZ_lenB U] at hr
  have hp := RowZ.put (k := x) hr (v : Int)
  have e : (natZ U).set x (v : Int) = natZ (U.set x v) := by simp [natZ, List.map_set]
  rw [e, natZ_lenB] at hp
  refine ⟨⟨?_, ?_, ?_, ?_, ?_, ?_, by rw [List.length_set]; exact h.lm, by rw [List.length_set]; exact h.la, h.ne, c, t, blk_kept b1 hk n1, b2, b3⟩, hk⟩
  · rw [List.length_set]; exact hk.cell h.c0 n1
  · rw [List.length_set]; exact hk.cell h.c1 n1
  · rw [List.length_set]; exact hk.cell h.c2 n1
  · rw [List.length_set]; exact hp
  · rw [List.length_set]; exact row_kept h.rm hk (fun g e => by simp [Value.ownBlock] at e; subst e; exact n4)
  · rw [List.length_set]; exact h.rl.kept hk (fun g e => by simp [Value.ownBlock] at e; subst e; exact fun e => h.ne e.symm)
end
set_option maxHeartbeats 1600000 in
theorem root_ok (w : World) (base S o gu cu gm cm gl cl t : Nat) (U : List Nat) (M : List Bool) (A : List Int) (rt d : Nat → Nat) (h : SetM w base S o U M A gu cu gm cm gl cl) (hF : Fo U rt d) (ht : t < U.length) (hn : U.length ≤ 5000) :
    Calls Try.prog 71 #[.pointer (some ⟨S, o, none⟩), .int .i64 t] w fun e w' => e = .returned (.int .i64 (rt t : Nat)) ∧ (∃ U', SetM w' base S o U' M A gu cu gm cm gl cl ∧ Fo U' rt d ∧ U'.length = U.length) ∧ Keeps (· = gu) w w' := by
  have H0 : Hid (SetM w base S o U M A gu cu gm cm gl cl ∧ Fo U rt d) := ⟨h, hF⟩
  obtain ⟨T, hT⟩ : ∃ T, T = U.length := ⟨_, rfl⟩
  have HT : Hid (T = U.length) := hT
  rw [← hT] at ht hn
  clear h hF hT
  go_enter Try.func71, Try.ntmps71
  go_wp2_with fail
  go_loopw [1] (fun s1 wr => ∃ (x : Nat) (U' : List Nat), x < T ∧ s1 = .int .i64 x ∧ SetM wr base S o U' M A gu cu gm cm gl cl ∧ Fo U' rt d ∧ U'.length = T ∧ rt x = rt t ∧ Keeps (· = gu) w wr) (fun s1 _ => d (intOf s1).toNat)
  case atStart => exact ⟨t, U, ht, rfl, H0.out.1, H0.out.2, HT.out.symm, rfl, Keeps.refl _ _⟩
  case round =>
    clear H0
    obtain ⟨x, U', hx, rfl, hM, hF, hl, hrt, hkp⟩ := hrel
    have hxU : x < U'.length := by omega
    have c0 := hM.c0
    rw [hl] at c0
    obtain ⟨y, hy⟩ : ∃ y, y = U'.getD x 0 := ⟨_, rfl⟩
    obtain ⟨uy, uf⟩ := hM.uat hxU
    rw [← hy] at uy
    have hyT : y < T := by rw [hy, ← hl]; exact hF.up x hxU
    have i1 : (x : Int) < (T : Int) := by omega
    by_cases hyx : y = x
    · have HN : Hid (rt t = x ∧ (∃ U', SetM wr base S o U' M A gu cu gm cm gl cl ∧ Fo U' rt d ∧ U'.length = T) ∧ Keeps (· = gu) w wr) := ⟨by rw [← hrt]; exact hF.fix x hxU (by rw [← hy]; exact hyx), ⟨U', hM, hF, hl⟩, hkp⟩
      subst hyx
      clear hM hF hl hrt hkp hy
      go_wp2
      go_ret
      refine ⟨by rw [HN.out.1]; rfl, ?_, HN.out.2.2⟩
      obtain ⟨U2, a1, a2, a3⟩ := HN.out.2.1
      exact ⟨U2, a1, a2, a3.trans HT.out⟩
    · obtain ⟨z, hz⟩ : ∃ z, z = U'.getD y 0 := ⟨_, rfl⟩
      obtain ⟨uz, _⟩ := hM.uat (x := y) (by omega)
      rw [← hz] at uz
      obtain ⟨f1, f2, f3⟩ := hF.half hxU (by rw [← hy]; exact hyx)
      rw [← hy, ← hz] at f1 f2 f3
      have hzT : z < T := by rw [hz, ← hl]; exact hF.up y (by omega)
      obtain ⟨hM2, hk2⟩ := hM.putU x z
      have i2 : (y : Int) < (T : Int) := by omega
      have i3 : ¬ (y : Int) = (x : Int) := by omega
      have HN : Hid (SetM ((wr.setCell ⟨gu, x, none⟩ (.int .i64 z)).drew) base S o (U'.set x z) M A gu cu gm cm gl cl ∧ Fo (U'.set x z) rt d ∧ (U'.set x z).length = T ∧ rt z = rt t ∧ Keeps (· = gu) w ((wr.setCell ⟨gu, x, none⟩ (.int .i64 z)).drew) ∧ d z < d x) := ⟨hM2.more (Keeps.drew None _), f1, by rw [List.length_set]; exact hl, f3.trans hrt, (hkp.trans hk2 (fun _ e _ => e)).andDrew, f2⟩
      have u2 : (wr.setCell ⟨gu, x, none⟩ (.int .i64 z)).drew.cell? ⟨gu, x, none⟩ = some (.int .i64 z) := by
        have := ((hM2.more (Keeps.drew None _)).uat (x := x) (by rw [List.length_set]; omega)).1
        rw [getD_set _ _ _ _ hxU, if_pos rfl] at this
        exact this
      have c2 : (wr.setCell ⟨gu, x, none⟩ (.int .i64 z)).drew.cell? ⟨S, o, none⟩ = some (.slice (some ⟨gu, 0, none⟩) T cu) := by
        have := (hM2.more (Keeps.drew None _)).c0
        rw [List.length_set, hl] at this
        exact this
      clear hM hF hl hrt hkp hy hz f1 f2 f3 hM2 hk2 hxU hyx
      go_wp2_with fail
      go_cut [1] (fun s1 wx => s1 = .int .i64 x ∧ wx = (wr.setCell ⟨gu, x, none⟩ (.int .i64 z)).drew)
      case first =>
        go_region
        go_wp2_with fail
        go_meet
        exact ⟨rfl, rfl⟩
      case rest =>
      obtain ⟨rfl, hwc⟩ := hcut
      have hwc' := hwc.symm
      subst hwc'
      obtain ⟨W, hW⟩ : ∃ W, W = (wr.setCell ⟨gu, x, none⟩ (.int .i64 z)).drew := ⟨_, rfl⟩
      rw [← hW] at u2 c2 HN ⊢
      clear hW uy uf uz c0
      go_wp2
      go_roundw
      case rel => exact ⟨z, U'.set x z, hzT, rfl, HN.out.1, HN.out.2.1, HN.out.2.2.1, HN.out.2.2.2.1, HN.out.2.2.2.2.1⟩
      case measure => simp [intOf]; exact HN.out.2.2.2.2.2
end Go.Proofs.Ytolhojagbiaamab
/-! Sets of tasks in memory: parallel, join, wait. -/
namespace Go.Proofs.Ytolhojagbiaamab
set_option linter.unusedVariables false
set_option maxRecDepth 20000
set_option linter.unusedSimpArgs false
open Go.RowKit Go.HeapKit

section
variable {w w' : World} {base S o gu cu gm cm gl cl : Nat} {U : List Nat} {M : List Bool} {A : List Int}
theorem SetM.mat (h : SetM w base S o U M A gu cu gm cm gl cl) {x : Nat} (hx : x < U.length) : w.cell? ⟨gm, x, none⟩ = some (.bool (M.getD x false)) ∧ w.frozen? ⟨gm, x, none⟩ = false := by
  rcases h.rm.2 with ⟨h0, _⟩ | ⟨g', cap, cur, hv, hbg, hg, hnc, hcm, hcs, htake⟩
  · cases h0
  · injection hv with e1 e2 e3
    injection e1 with e1
    injection e1 with e1
    subst e1 e3
    have hv : (bvs M)[x]? = some (.bool (M.getD x false)) := by
      have : x < M.length := by rw [h.lm]; exact hx
      simp [bvs, List.getD_eq_getElem?_getD, this]
    refine ⟨?_, blk_free hg x⟩
    rw [blk_cell hg]
    rw [← htake, List.getElem?_take] at hv
    split at hv
    · simpa using hv
    · cases hv
theorem SetM.lat (h : SetM w base S o U M A gu cu gm cm gl cl) {x : Nat} (hx : x < U.length) : w.cell? ⟨gl, x, none⟩ = some (.int .i64 (A.getD x 0)) ∧ w.frozen? ⟨gl, x, none⟩ = false := by
  have hr := h.rl
  rw [← h.la] at hr
  obtain ⟨h1, h2, _⟩ := RowZ.at (k := x) (x := A.getD x 0) hr (by have : x < A.length := by rw [h.la]; exact hx
                                                                  simp [List.getD_eq_getElem?_getD, this])
  exact ⟨h1, h2⟩
theorem SetM.putA (h : SetM w base S o U M A gu cu gm cm gl cl) (x : Nat) (v : Int) : SetM (w.setCell ⟨gl, x, none⟩ (.int .i64 v)) base S o U M (A.set x v) gu cu gm cm gl cl ∧ Keeps (· = gl) w (w.setCell ⟨gl, x, none⟩ (.int .i64 v)) := by
  have hk : Keeps (· = gl) w (w.setCell ⟨gl, x, none⟩ (.int .i64 v)) := keeps_one (Keeps.refl _ _) _
  obtain ⟨n1, n2, n3, n4, n5⟩ := h.neS
  obtain ⟨c, t, b1, b2, b3⟩ := h.blk
  have hr := h.rl
  rw [← h.la] at hr
  have hp := RowZ.put (k := x) hr v
  rw [h.la] at hp
  exact ⟨⟨hk.cell h.c0 n3, hk.cell h.c1 n3, hk.cell h.c2 n3, h.ru.kept hk (fun g e => by simp [Value.ownBlock] at e; subst e; exact h.ne), row_kept h.rm hk (fun g e => by simp [Value.ownBlock] at e; subst e; exact n5), hp, h.lm, by rw [List.length_set]; exact h.la, h.ne, c, t, blk_kept b1 hk n3, b2, b3⟩, hk⟩
theorem SetM.putM (h : SetM w base S o U M A gu cu gm cm gl cl) (x : Nat) (v : Bool) : SetM (w.setCell ⟨gm, x, none⟩ (.bool v)) base S o U (M.set x v) A gu cu gm cm gl cl ∧ Keeps (· = gm) w (w.setCell ⟨gm, x, none⟩ (.bool v)) := by
  have hk : Keeps (· = gm) w (w.setCell ⟨gm, x, none⟩ (.bool v)) := keeps_one (Keeps.refl _ _) _
  obtain ⟨n1, n2, n3, n4, n5⟩ := h.neS
  obtain ⟨c, t, b1, b2, b3⟩ := h.blk
  have hp := row_set h.rm x (.bool v)
  have e : (bvs M).set x (.bool v) = bvs (M.set x v) := by simp [bvs, List.map_set]
  rw [e] at hp
  exact ⟨⟨hk.cell h.c0 n2, hk.cell h.c1 n2, hk.cell h.c2 n2, h.ru.kept hk (fun g e => by simp [Value.ownBlock] at e; subst e; exact fun e => n4 e.symm), hp, h.rl.kept hk (fun g e => by simp [Value.ownBlock] at e; subst e; exact fun e => n5 e.symm), by rw [List.length_set]; exact h.lm, h.la, h.ne, c, t, blk_kept b1 hk n2, b2, b3⟩, hk⟩
end
set_option maxHeartbeats 1600000 in
theorem isPar_ok (w : World) (base S o gu cu gm cm gl cl t : Nat) (U : List Nat) (M : List Bool) (A : List Int) (rt d : Nat → Nat) (h : SetM w base S o U M A gu cu gm cm gl cl) (hF : Fo U rt d) (ht : t < U.length) (hn : U.length ≤ 5000) :
    Calls Try.prog 56 #[.pointer (some ⟨S, o, none⟩), .int .i64 t] w fun e w' => e = .returned (.bool (M.getD (rt t) false)) ∧ (∃ U', SetM w' base S o U' M A gu cu gm cm gl cl ∧ Fo U' rt d ∧ U'.length = U.length) ∧ Keeps (· = gu) w w' := by
  obtain ⟨T, hT⟩ : ∃ T, T = U.length := ⟨_, rfl⟩
  have HT : Hid (T = U.length ∧ rt t < T) := ⟨hT, by rw [hT]; exact (hF.root t ht).1⟩
  have c1 := h.c1
  rw [← hT] at c1
  have hS : S ≠ gu := h.neS.1
  have HC : Hid (∀ w1, Keeps None w w1 → Calls Try.prog 71 #[.pointer (some ⟨S, o, none⟩), .int .i64 t] w1 fun e w' => e = .returned (.int .i64 (rt t : Nat)) ∧ w'.cell? ⟨S, o + 1, none⟩ = some (.slice (some ⟨gm, 0, none⟩) T cm) ∧ w'.cell? ⟨gm, rt t, none⟩ = some (.bool (M.getD (rt t) false)) ∧ Hid ((∃ U', SetM w' base S o U' M A gu cu gm cm gl cl ∧ Fo U' rt d ∧ U'.length = U.length) ∧ Keeps (· = gu) w w')) := fun w1 hk => (root_ok w1 base S o gu cu gm cm gl cl t U M A rt d (h.more hk) hF ht hn).mono fun e w' hp => by
    obtain ⟨h1, ⟨U', h2, h3, h4⟩, h5⟩ := hp
    have hc := h2.c1
    rw [h4, ← hT] at hc
    exact ⟨h1, hc, (h2.mat (by rw [h4]; exact (hF.root t ht).1)).1, ⟨⟨U', h2, h3, h4⟩, (hk.mono (fun _ f _ => f.elim)).trans h5 (fun _ e _ => e)⟩⟩
  have m1 := (h.mat (hF.root t ht).1).1
  obtain ⟨R, hR⟩ : ∃ R, R = rt t := ⟨_, rfl⟩
  rw [← hR] at HC HT m1 ⊢
  have i1 : (R : Int) < (T : Int) := by have := HT.out.2; omega
  clear h hF ht hn hT hR
  go_enter Try.func56, Try.ntmps56
  go_wp2_with fail
  go_cut [4] (fun s4 wx => s4 = .bool (M.getD R false) ∧ (∃ U', SetM wx base S o U' M A gu cu gm cm gl cl ∧ Fo U' rt d ∧ U'.length = U.length) ∧ Keeps (· = gu) w wx)
  case first =>
    go_region_held3 (fun w' => w'.cell? ⟨S, o + 1, none⟩ = some (.slice (some ⟨gm, 0, none⟩) T cm) ∧ w'.cell? ⟨gm, R, none⟩ = some (.bool (M.getD R false))) (first | exact ⟨q1, q2⟩ | go_keep) (first | (go_at_call 71; refine Calls.mono (HC.out _ (Keeps.drew None _)) ?_; rintro _ w2 ⟨rfl, q1, q2, q3⟩))
    all_goals (go_wp2_with fail; go_meet)
    all_goals exact ⟨rfl, q3.out⟩
  case rest =>
  obtain ⟨rfl, hq⟩ := hcut
  have HQ : Hid _ := hq
  clear hq
  go_wp2
  go_ret
  exact ⟨rfl, HQ.out⟩
/-- Two sets are one. -/
theorem Fo.join {U : List Nat} {rt d : Nat → Nat} (h : Fo U rt d) {f s : Nat} (hf : f < U.length) (hs : s < U.length) (hne : rt f ≠ rt s) :
    Fo (U.set (rt s) (rt f)) (fun x => if rt x = rt s then rt f else rt x) (fun x => d x + (if rt x = rt s then d (rt f) + 1 else 0)) := by
  obtain ⟨f1, f2⟩ := h.root f hf
  obtain ⟨s1, s2⟩ := h.root s hs
  have rf : rt (rt f) = rt f := h.fix _ f1 f2
  have rs : rt (rt s) = rt s := h.fix _ s1 s2
  refine ⟨?_, ?_, ?_, ?_⟩
  · intro x hx
    rw [List.length_set] at hx ⊢
    rw [getD_set _ _ _ _ s1]
    split
    · exact f1
    · exact h.up x hx
  · intro x hx e
    rw [List.length_set] at hx
    rw [getD_set _ _ _ _ s1] at e
    split at e
    · rename_i h1
      subst h1
      exact (hne e).elim
    · rename_i h1
      have hr := h.fix x hx e
      have hn2 : rt x ≠ rt s := fun e2 => h1 (by rw [← e2]; exact hr.symm)
      simp only [if_neg hn2]
      exact hr
  · intro x hx e
    rw [List.length_set] at hx
    rw [getD_set _ _ _ _ s1] at e ⊢
    split
    · rename_i h1
      subst h1
      simp only [rs, rf, if_true, if_neg hne]
      exact ⟨by omega, trivial⟩
    · rename_i h1
      rw [if_neg h1] at e
      obtain ⟨m1, m2⟩ := h.mv x hx e
      simp only [m2]
      exact ⟨by omega, trivial⟩
  · intro x hx
    rw [List.length_set] at hx ⊢
    obtain ⟨r1, r2⟩ := h.root x hx
    by_cases e : rt x = rt s
    · simp only [if_pos e]
      refine ⟨f1, ?_⟩
      rw [getD_set _ _ _ _ s1, if_neg hne]
      exact f2
    · simp only [if_neg e]
      refine ⟨r1, ?_⟩
      rw [getD_set _ _ _ _ s1, if_neg e]
      exact r2
def joinR (rt : Nat → Nat) (f s : Nat) : Nat → Nat := fun x => if rt x = rt s then rt f else rt x
set_option maxHeartbeats 1600000 in
theorem join_ok (w : World) (base S o gu cu gm cm gl cl f s : Nat) (U : List Nat) (M : List Bool) (A : List Int) (rt d : Nat → Nat) (h : SetM w base S o U M A gu cu gm cm gl cl) (hF : Fo U rt d) (hf : f < U.length) (hs : s < U.length) (hne : rt f ≠ rt s) (hn : U.length ≤ 5000) :
    Calls Try.prog 58 #[.pointer (some ⟨S, o, none⟩), .int .i64 f, .int .i64 s] w fun e w' => e = .returned (.tuple #[]) ∧ (∃ U' d', SetM w' base S o U' M A gu cu gm cm gl cl ∧ Fo U' (joinR rt f s) d' ∧ U'.length = U.length) ∧ Keeps (· = gu) w w' := by
  obtain ⟨T, hT⟩ : ∃ T, T = U.length := ⟨_, rfl⟩
  have c0 := h.c0
  rw [← hT] at c0
  have step : ∀ (x : Nat) (w1 : World) (U1 : List Nat), x < T → SetM w1 base S o U1 M A gu cu gm cm gl cl → Fo U1 rt d → U1.length = T → Keeps (· = gu) w w1 → Calls Try.prog 71 #[.pointer (some ⟨S, o, none⟩), .int .i64 x] w1 fun e w' => e = .returned (.int .i64 (rt x : Nat)) ∧ w'.cell? ⟨S, o, none⟩ = some (.slice (some ⟨gu, 0, none⟩) T cu) ∧ Hid ((∃ U', SetM w' base S o U' M A gu cu gm cm gl cl ∧ Fo U' rt d ∧ U'.length = T) ∧ Keeps (· = gu) w w') := fun x w1 U1 hx h1 h2 h3 h4 => (root_ok w1 base S o gu cu gm cm gl cl x U1 M A rt d h1 h2 (by omega) (by omega)).mono fun e w' hp => by
    obtain ⟨p1, ⟨U', p2, p3, p4⟩, p5⟩ := hp
    have hc := p2.c0
    rw [p4, h3] at hc
    exact ⟨p1, hc, ⟨⟨U', p2, p3, p4.trans h3⟩, h4.trans p5 (fun _ e _ => e)⟩⟩
  have HST : Hid _ := step
  have H0 : Hid (SetM w base S o U M A gu cu gm cm gl cl ∧ Fo U rt d ∧ U.length = T ∧ f < T ∧ s < T ∧ rt f ≠ rt s ∧ rt s < T ∧ rt f < T) := ⟨h, hF, hT.symm, by omega, by omega, hne, by rw [hT]; exact (hF.root s hs).1, by rw [hT]; exact (hF.root f hf).1⟩
  have i1 : ((rt s : Nat) : Int) < (T : Int) := by have := H0.out.2.2.2.2.2.2.1; omega
  have HSG : Hid (S ≠ gu) := h.neS.1
  clear h hF hf hs hne hn hT step
  go_enter Try.func58, Try.ntmps58
  have HG : Hid (∀ w2, ((∃ U', SetM w2 base S o U' M A gu cu gm cm gl cl ∧ Fo U' rt d ∧ U'.length = T) ∧ Keeps (· = gu) w w2) → w2.cell? ⟨gu, rt s, none⟩ ≠ none ∧ w2.frozen? ⟨gu, rt s, none⟩ = false ∧ (∃ U' d', SetM (w2.setCell ⟨gu, rt s, none⟩ (.int .i64 (rt f : Nat))) base S o U' M A gu cu gm cm gl cl ∧ Fo U' (joinR rt f s) d' ∧ U'.length = U.length) ∧ Keeps (· = gu) w (w2.setCell ⟨gu, rt s, none⟩ (.int .i64 (rt f : Nat)))) := by
    rintro w2 ⟨⟨U', p2, p3, p4⟩, p5⟩
    obtain ⟨a1, a2, a3, a4, a5, a6, a7, a8⟩ := H0.out
    obtain ⟨u1, u2⟩ := p2.uat (x := rt s) (by omega)
    obtain ⟨m1, m2⟩ := p2.putU (rt s) (rt f)
    refine ⟨by rw [u1]; simp, u2, ⟨_, _, m1, p3.join (by omega) (by omega) a6, by rw [List.length_set, p4, a3]⟩, p5.trans m2 (fun _ e _ => e)⟩
  have TK : Hid True := trivial
  go_region_held3 (fun w' => w'.cell? ⟨S, o, none⟩ = some (.slice (some ⟨gu, 0, none⟩) T cu)) (first | exact q6 | exact q4 | exact q1 | go_keep) (first
    | (go_at_call 71; have tk := TK.out; clear TK tk; refine Calls.mono (HST.out s _ U H0.out.2.2.2.2.1 (H0.out.1.more (Keeps.drew None _)) H0.out.2.1 H0.out.2.2.1 ((Keeps.refl _ _).andDrew)) ?_; rintro _ w2 ⟨rfl, q1, q2⟩; obtain ⟨⟨U2, v1, v2, v3⟩, v4⟩ := q2.out; have V1 : Hid _ := v1; have V2 : Hid _ := v2; have V3 : Hid _ := v3; have V4 : Hid _ := v4; clear v1 v2 v3 v4)
    | (go_at_call 71; refine Calls.mono (HST.out f _ U2 H0.out.2.2.2.1 V1.out V2.out V3.out V4.out) ?_; rintro _ w3 ⟨rfl, q4, q5⟩; obtain ⟨g1, g2, g3, g4⟩ := HG.out w3 q5.out; obtain ⟨gv, hgv⟩ := Option.ne_none_iff_exists'.1 g1; have HG3 : Hid _ := g3; have HG4 : Hid _ := g4; have q6 := (keeps_one (Keeps.refl (· = gu) w3) (o := rt s) (.int .i64 (rt f : Nat))).cell q4 HSG.out; clear g3 g4 g1))
  all_goals (go_wp2_with fail; go_end0)
  all_goals exact ⟨rfl, HG3.out, HG4.out⟩
end Go.Proofs.Ytolhojagbiaamab
