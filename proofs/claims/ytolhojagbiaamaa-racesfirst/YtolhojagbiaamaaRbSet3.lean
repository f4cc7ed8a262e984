import Derived.Test.YtolhojagbiaamaaRbSet2
/-! Sets of tasks in memory: wait. -/
namespace Go.Proofs.Ytolhojagbiaamaa
set_option linter.unusedVariables false
set_option maxRecDepth 20000
set_option linter.unusedSimpArgs false
open Go.RowKit Go.HeapKit

set_option maxHeartbeats 1600000 in
theorem wait_none (w : World) (base S o gu cu gm cm gl cl t : Nat) (U : List Nat) (M : List Bool) (A : List Int) (h : SetM w base S o U M A gu cu gm cm gl cl) (ht : t < U.length) (hA : A.getD t 0 = -1) (hn : U.length ≤ 5000) :
    Calls Try.prog 55 #[.pointer (some ⟨S, o, none⟩), .int .i64 t] w fun e w' => e = .returned (.tuple #[]) ∧ w' = w := by
  obtain ⟨T, hT⟩ : ∃ T, T = U.length := ⟨_, rfl⟩
  have c2 := h.c2
  have l1 := (h.lat ht).1
  rw [← hT] at c2 ht
  rw [hA] at l1
  have i1 : (t : Int) < (T : Int) := by omega
  clear h hA hn hT
  go_enter Try.func55, Try.ntmps55
  go_wp2
  go_end0
  exact ⟨rfl, rfl⟩
set_option maxHeartbeats 1600000 in
theorem wait_some (w : World) (base S o gu cu gm cm gl cl t e0 : Nat) (U : List Nat) (M : List Bool) (A : List Int) (rt d : Nat → Nat) (h : SetM w base S o U M A gu cu gm cm gl cl) (hF : Fo U rt d) (ht : t < U.length) (he : e0 < U.length) (hA : A.getD t 0 = (e0 : Int)) (hne : rt t ≠ rt e0) (hn : U.length ≤ 5000) :
    Calls Try.prog 55 #[.pointer (some ⟨S, o, none⟩), .int .i64 t] w fun e w' => e = .returned (.tuple #[]) ∧ (∃ U' d', SetM w' base S o U' M (A.set t (-1)) gu cu gm cm gl cl ∧ Fo U' (joinR rt t e0) d' ∧ U'.length = U.length) ∧ Keeps (fun i => i = gu ∨ i = gl) w w' := by
  obtain ⟨T, hT⟩ : ∃ T, T = U.length := ⟨_, rfl⟩
  have c2 := h.c2
  have l1 := (h.lat ht).1
  rw [← hT] at c2
  rw [hA] at l1
  have HC : Hid _ := join_ok w base S o gu cu gm cm gl cl t e0 U M A rt d h hF ht he hne hn
  rw [← hT] at ht he hn
  have i1 : (t : Int) < (T : Int) := by omega
  have i2 : ¬ (e0 : Int) = -1 := by omega
  have HT : Hid (T = U.length) := hT
  clear h hF hA hT hne
  go_enter Try.func55, Try.ntmps55
  go_upto_region 3 with (go_at_call 62; refine Calls.mono HC.out ?_; rintro _ w1 ⟨rfl, ⟨U1, d1, hM1, hF1, hl1⟩, hk1⟩)
  have c3 := hM1.c2
  rw [hl1, ← HT.out] at c3
  obtain ⟨l3, f3⟩ := hM1.lat (x := t) (by rw [hl1, ← HT.out]; exact ht)
  obtain ⟨hM2, hk2⟩ := hM1.putA t (-1)
  have HN : Hid ((∃ U' d', SetM (w1.setCell ⟨gl, t, none⟩ (.int .i64 (-1))) base S o U' M (A.set t (-1)) gu cu gm cm gl cl ∧ Fo U' (joinR rt t e0) d' ∧ U'.length = U.length) ∧ Keeps (fun i => i = gu ∨ i = gl) w (w1.setCell ⟨gl, t, none⟩ (.int .i64 (-1)))) := ⟨⟨U1, d1, hM2, hF1, hl1⟩, (hk1.mono (fun i e _ => .inl e)).trans hk2 (fun i e _ => .inr e)⟩
  clear hM1 hF1 hl1 hk1 hM2 hk2
  go_wp2
  go_end0
  exact ⟨rfl, HN.out⟩
/-- The sets hold the bags. -/
structure BagR (B : List Bg) (rt : Nat → Nat) (M : List Bool) (A : List Int) (T : Nat) : Prop where
  p : ∀ b ∈ B, ∀ x ∈ b.P, rt x = rt b.id ∧ M.getD (rt x) false = false
  o : ∀ b ∈ B, ∀ x ∈ b.O, ∃ e : Nat, A.getD b.id 0 = (e : Int) ∧ e ∈ b.O ∧ rt x = rt e ∧ M.getD (rt x) false = true
  none : ∀ b ∈ B, b.O = [] → A.getD b.id 0 = -1
  apart : ∀ x y, x ∈ allB B → y ∈ allB B → rt x = rt y → ∃ b ∈ B, (x ∈ b.P ∧ y ∈ b.P) ∨ (x ∈ b.O ∧ y ∈ b.O)
theorem inO_ex : ∀ {S : List Bg} {k x : Nat}, inO S k x → ∃ b ∈ S, x ∈ b.O
  | [], _, _, h => h.elim
  | t :: r, k, x, h => by
    rcases h with ⟨_, h⟩ | h
    · exact ⟨t, by simp, h⟩
    · obtain ⟨b, hb, hx⟩ := inO_ex h
      exact ⟨b, by simp [hb], hx⟩
theorem ex_inO : ∀ {S : List Bg} {x : Nat}, (∃ b ∈ S, x ∈ b.O) → ∃ k, inO S k x
  | [], _, ⟨b, hb, _⟩ => by simp at hb
  | t :: r, x, ⟨b, hb, hx⟩ => by
    rcases List.mem_cons.1 hb with rfl | hb
    · exact ⟨_, .inl ⟨rfl, hx⟩⟩
    · obtain ⟨k, hk⟩ := ex_inO ⟨b, hb, hx⟩
      exact ⟨k, .inr hk⟩
/-- What parallel tells. -/
theorem BagR.late {B : List Bg} {rt : Nat → Nat} {M : List Bool} {A : List Int} {T : Nat} (h : BagR B rt M A T) {x : Nat} (hx : x ∈ allB B) : M.getD (rt x) false = true ↔ Late B x := by
  constructor
  · intro hm
    have : ∀ {S : List Bg}, x ∈ allB S → ∃ b ∈ S, x ∈ b.P ∨ x ∈ b.O := by
      intro S
      induction S with
      | nil => intro h; simp [allB] at h
      | cons t r ih =>
        intro h
        rw [allB_cons, List.mem_append, List.mem_append] at h
        rcases h with h | h
        · exact ⟨t, by simp, h⟩
        · obtain ⟨b, hb, h2⟩ := ih h
          exact ⟨b, by simp [hb], h2⟩
    obtain ⟨b, hb, h2 | h2⟩ := this hx
    · have := (h.p b hb x h2).2
      rw [this] at hm
      cases hm
    · exact ex_inO ⟨b, hb, h2⟩
  · rintro ⟨k, hk⟩
    obtain ⟨b, hb, hx⟩ := inO_ex hk
    obtain ⟨e, _, _, _, h4⟩ := h.o b hb x hx
    exact h4
end Go.Proofs.Ytolhojagbiaamaa
