import Derived.Test.YtolhojagbiaamaaRcPlain
/-! Bags of tasks, plainly: which tasks' deeds are ahead of what comes next and which are parallel to it; who stands for all that wrote a place. -/
namespace Go.Proofs.Ytolhojagbiaamaa
set_option linter.unusedVariables false
set_option maxRecDepth 20000
set_option linter.unusedSimpArgs false

/-- A task that has not returned: its number; the tasks whose deeds are ahead by it; those for which it has to wait. -/
structure Bg where
  id : Nat
  P : List Nat
  O : List Nat
/-- Behind a deed of a kind; the current task comes first, T tasks have begun. -/
def stepB (k : Int) (T : Nat) : List Bg → List Bg
  | [] => []
  | t :: r =>
    if k = 0 then ⟨T, [T], []⟩ :: t :: r
    else if k = 1 then match r with
      | [] => []
      | u :: r' => ⟨u.id, u.P, (t.P ++ t.O) ++ u.O⟩ :: r'
    else if k = 2 then ⟨t.id, t.P ++ t.O, []⟩ :: r
    else t :: r
theorem sb0 (T : Nat) (t : Bg) (r : List Bg) : stepB 0 T (t :: r) = ⟨T, [T], []⟩ :: t :: r := by simp [stepB]
theorem sb1 (T : Nat) (t u : Bg) (r : List Bg) : stepB 1 T (t :: u :: r) = ⟨u.id, u.P, (t.P ++ t.O) ++ u.O⟩ :: r := by simp [stepB]
theorem sb2 (T : Nat) (t : Bg) (r : List Bg) : stepB 2 T (t :: r) = ⟨t.id, t.P ++ t.O, []⟩ :: r := by simp [stepB]
theorem sb3 (k : Int) (T : Nat) (t : Bg) (r : List Bg) (h0 : ¬ k = 0) (h1 : ¬ k = 1) (h2 : ¬ k = 2) : stepB k T (t :: r) = t :: r := by simp [stepB, h0, h1, h2]
/-- How many tasks have begun behind the first n deeds; the bags; whose a deed is. -/
def cntB (ds : List Dd) : Nat → Nat
  | 0 => 1
  | n + 1 => if (ds.getD n ⟨3, 0⟩).k = 0 then cntB ds n + 1 else cntB ds n
def bgN (ds : List Dd) : Nat → List Bg
  | 0 => [⟨0, [0], []⟩]
  | n + 1 => stepB ((ds.getD n ⟨3, 0⟩).k) (cntB ds n) (bgN ds n)
def topI : List Bg → Nat
  | [] => 0
  | t :: _ => t.id
def doer (ds : List Dd) (n : Nat) : Nat := topI (bgN ds n)
/-- x lies at depth k among those ahead, or among those to be waited for. -/
def inP : List Bg → Nat → Nat → Prop
  | [], _, _ => False
  | t :: r, k, x => (k = r.length ∧ x ∈ t.P) ∨ inP r k x
def inO : List Bg → Nat → Nat → Prop
  | [], _, _ => False
  | t :: r, k, x => (k = r.length ∧ x ∈ t.O) ∨ inO r k x
theorem inP_lt : ∀ {S : List Bg} {k x : Nat}, inP S k x → k < S.length
  | [], _, _, h => h.elim
  | t :: r, k, x, h => by
    rcases h with h | h
    · simp [h.1]
    · have := inP_lt h; simp; omega
theorem inO_lt : ∀ {S : List Bg} {k x : Nat}, inO S k x → k < S.length
  | [], _, _, h => h.elim
  | t :: r, k, x, h => by
    rcases h with h | h
    · simp [h.1]
    · have := inO_lt h; simp; omega
/-- y stands for x: as long as x is parallel to what comes next, so is y. -/
structure Dom (S : List Bg) (x y : Nat) : Prop where
  o : ∀ k, inO S k x → ∃ j, j ≤ k ∧ inO S j y
  p : ∀ k, inP S k x → (∃ j, inO S j y) ∨ ∃ j, k ≤ j ∧ inP S j y
theorem Dom.spawn {t : Bg} {r : List Bg} {x y T : Nat} (hx : x ≠ T) (h : Dom (t :: r) x y) : Dom (⟨T, [T], []⟩ :: t :: r) x y := by
  refine ⟨fun k hk => ?_, fun k hk => ?_⟩
  · rcases hk with ⟨_, hk⟩ | hk
    · cases hk
    · obtain ⟨j, h1, h2⟩ := h.o k hk
      exact ⟨j, h1, .inr h2⟩
  · rcases hk with ⟨_, hk⟩ | hk
    · simp at hk; exact (hx hk).elim
    · rcases h.p k hk with ⟨j, h1⟩ | ⟨j, h1, h2⟩
      · exact .inl ⟨j, .inr h1⟩
      · exact .inr ⟨j, h1, .inr h2⟩
theorem Dom.sync {t : Bg} {r : List Bg} {x y : Nat} (h : Dom (t :: r) x y) : Dom (⟨t.id, t.P ++ t.O, []⟩ :: r) x y := by
  have hmv : ∀ j, inO (t :: r) j y → (∃ j', j' ≤ j ∧ inO (⟨t.id, t.P ++ t.O, []⟩ :: r) j' y) ∨ inP (⟨t.id, t.P ++ t.O, []⟩ :: r) r.length y := by
    intro j hj
    rcases hj with ⟨_, hj⟩ | hj
    · exact .inr (.inl ⟨rfl, List.mem_append.2 (.inr hj)⟩)
    · exact .inl ⟨j, Nat.le_refl _, .inr hj⟩
  refine ⟨fun k hk => ?_, fun k hk => ?_⟩
  · rcases hk with ⟨_, hk⟩ | hk
    · cases hk
    · have hkl := inO_lt hk
      obtain ⟨j, h1, h2⟩ := h.o k (.inr hk)
      rcases h2 with ⟨h2, _⟩ | h2
      · omega
      · exact ⟨j, h1, .inr h2⟩
  · have key : (∃ j, inO (t :: r) j y) ∨ (∃ j, k ≤ j ∧ inP (t :: r) j y) := by
      rcases hk with ⟨rfl, hk⟩ | hk
      · rcases List.mem_append.1 hk with hk | hk
        · exact h.p _ (.inl ⟨rfl, hk⟩)
        · obtain ⟨j, _, h2⟩ := h.o _ (.inl ⟨rfl, hk⟩)
          exact .inl ⟨j, h2⟩
      · exact h.p k (.inr hk)
    have hkl : k ≤ r.length := by
      rcases hk with ⟨rfl, _⟩ | hk
      · exact Nat.le_refl _
      · exact Nat.le_of_lt (inP_lt hk)
    rcases key with ⟨j, h1⟩ | ⟨j, h1, h2⟩
    · rcases hmv j h1 with ⟨j', _, h3⟩ | h3
      · exact .inl ⟨j', h3⟩
      · exact .inr ⟨_, hkl, h3⟩
    · rcases h2 with ⟨rfl, h2⟩ | h2
      · exact .inr ⟨_, h1, .inl ⟨rfl, List.mem_append.2 (.inl h2)⟩⟩
      · exact .inr ⟨j, h1, .inr h2⟩
theorem Dom.ret {t u : Bg} {r : List Bg} {x y : Nat} (h : Dom (t :: u :: r) x y) : Dom (⟨u.id, u.P, (t.P ++ t.O) ++ u.O⟩ :: r) x y := by
  have hO : ∀ j, inO (t :: u :: r) j y → ∃ j', j' ≤ j ∧ inO (⟨u.id, u.P, (t.P ++ t.O) ++ u.O⟩ :: r) j' y := by
    intro j hj
    rcases hj with ⟨rfl, hj⟩ | ⟨rfl, hj⟩ | hj
    · exact ⟨r.length, by simp, .inl ⟨rfl, by simp [hj]⟩⟩
    · exact ⟨r.length, Nat.le_refl _, .inl ⟨rfl, by simp [hj]⟩⟩
    · exact ⟨j, Nat.le_refl _, .inr hj⟩
  have hP : ∀ j, inP (t :: u :: r) j y → (∃ j', inO (⟨u.id, u.P, (t.P ++ t.O) ++ u.O⟩ :: r) j' y) ∨ inP (⟨u.id, u.P, (t.P ++ t.O) ++ u.O⟩ :: r) j y := by
    intro j hj
    rcases hj with ⟨rfl, hj⟩ | ⟨rfl, hj⟩ | hj
    · exact .inl ⟨r.length, .inl ⟨rfl, by simp [hj]⟩⟩
    · exact .inr (.inl ⟨rfl, hj⟩)
    · exact .inr (.inr hj)
  refine ⟨fun k hk => ?_, fun k hk => ?_⟩
  · rcases hk with ⟨rfl, hk⟩ | hk
    · simp only [List.mem_append] at hk
      rcases hk with (hk | hk) | hk
      · rcases h.p (u :: r).length (.inl ⟨rfl, hk⟩) with ⟨j, h1⟩ | ⟨j, h1, h2⟩
        · obtain ⟨j', h3, h4⟩ := hO j h1
          have := inO_lt h4
          exact ⟨j', by simp at this; omega, h4⟩
        · rcases h2 with ⟨rfl, h2⟩ | h2
          · exact ⟨r.length, Nat.le_refl _, .inl ⟨rfl, by simp [h2]⟩⟩
          · have := inP_lt h2
            omega
      · obtain ⟨j, _, h2⟩ := h.o (u :: r).length (.inl ⟨rfl, hk⟩)
        obtain ⟨j', h3, h4⟩ := hO j h2
        have := inO_lt h4
        exact ⟨j', by simp at this; omega, h4⟩
      · obtain ⟨j, _, h2⟩ := h.o r.length (.inr (.inl ⟨rfl, hk⟩))
        obtain ⟨j', h3, h4⟩ := hO j h2
        have := inO_lt h4
        exact ⟨j', by simp at this; omega, h4⟩
    · obtain ⟨j, h1, h2⟩ := h.o k (.inr (.inr hk))
      obtain ⟨j', h3, h4⟩ := hO j h2
      exact ⟨j', by omega, h4⟩
  · have hk' : inP (t :: u :: r) k x := by
      rcases hk with ⟨rfl, hk⟩ | hk
      · exact .inr (.inl ⟨rfl, hk⟩)
      · exact .inr (.inr hk)
    rcases h.p k hk' with ⟨j, h1⟩ | ⟨j, h1, h2⟩
    · obtain ⟨j', _, h4⟩ := hO j h1
      exact .inl ⟨j', h4⟩
    · rcases hP j h2 with h3 | h3
      · exact .inl h3
      · exact .inr ⟨j, h1, h3⟩
/-- Is a task's work parallel to what comes next? -/
def Late (S : List Bg) (x : Nat) : Prop := ∃ k, inO S k x
theorem Dom.late {S : List Bg} {x y : Nat} (h : Dom S x y) (hx : Late S x) : Late S y := by
  obtain ⟨k, hk⟩ := hx
  obtain ⟨j, _, hj⟩ := h.o k hk
  exact ⟨j, hj⟩
end Go.Proofs.Ytolhojagbiaamaa
