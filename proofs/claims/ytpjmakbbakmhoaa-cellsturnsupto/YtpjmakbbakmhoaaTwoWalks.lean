import Derived.Test.YtpjmakbbakmhoaaPlaysAny
/-! New of both, and two pairs beside one book. -/
namespace Go.Proofs.Ytpjmakbbakmhoaa
open Go.RowKit Go.HeapKit

def fineW (n : Int) : Bool := decide (0 ≤ n) && decide (n ≤ 1048576)
def szW (n : Int) : Nat := if fineW n then n.toNat else 0
def errW (n : Int) : Int := if fineW n then 0 else 3

theorem rnew_w (n : Int) (w : World) : Calls Try.prog 24 #[.int .i64 n] w fun e w' => e = .returned (.tuple #[.pointer (some ⟨w.heap.size, 0, none⟩), .int .i64 (errW n)]) ∧
    IsRef w' w.heap.size (.slice none 0 0) (.slice none 0 0) (Ar.new (szW n)) ∧ Keeps None w w' := by
  by_cases h0 : n < 0
  · have e1 : fineW n = false := by simp [fineW]; omega
    go_enter Try.func24, Try.ntmps24
    go_wp2
    go_ret2
    exact ⟨by simp [errW, e1], ⟨by simpa [szW, e1, Ar.new] using new_at w _ _ rfl, World.ownsRow_nil _ _ _ _, World.ownsRow_nil _ _ _ _, by simp [szW, e1, Ar.new]⟩, (Keeps.refl _ _).andAlloc _⟩
  by_cases h1 : 1048576 < n
  · have e1 : fineW n = false := by simp [fineW]; omega
    go_enter Try.func24, Try.ntmps24
    go_wp2
    go_ret2
    exact ⟨by simp [errW, e1], ⟨by simpa [szW, e1, Ar.new] using new_at w _ _ rfl, World.ownsRow_nil _ _ _ _, World.ownsRow_nil _ _ _ _, by simp [szW, e1, Ar.new]⟩, (Keeps.refl _ _).andAlloc _⟩
  · have e1 : fineW n = true := by simp [fineW]; omega
    obtain ⟨k, rfl⟩ : ∃ k : Nat, n = k := ⟨n.toNat, by omega⟩
    go_enter Try.func24, Try.ntmps24
    go_wp2
    go_ret2
    exact ⟨by simp [errW, e1], ⟨by simpa [szW, e1, Ar.new] using new_at w _ _ rfl, World.ownsRow_nil _ _ _ _, World.ownsRow_nil _ _ _ _, by simp [szW, e1, Ar.new]; omega⟩, (Keeps.refl _ _).andAlloc _⟩

theorem ar_new (n : Int) (w : World) : Calls Try.prog 25 #[.int .i64 n] w fun e w' => ∃ av F, e = .returned (.tuple #[av, .int .i64 (errW n)]) ∧
    IsAr w' av F (Ar.new (szW n)) ∧ Keeps None w w' ∧ (∀ k, F k → w.heap.size ≤ k) ∧ ((fineW n = false ∧ av = .pointer none) ∨ (fineW n = true ∧ ∃ p, av = .pointer (some ⟨p, 0, none⟩))) := by
  cases e1 : fineW n with
  | false =>
    refine (new_bad n w e1).mono ?_
    rintro e w' ⟨rfl, rfl⟩
    exact ⟨.pointer none, None, by simp [errW, e1], .inl ⟨rfl, by simp [szW, e1, Ar.new], rfl, rfl, rfl⟩, Keeps.refl _ _, fun _ f => f.elim, .inl ⟨rfl, rfl⟩⟩
  | true =>
    obtain ⟨k, rfl⟩ : ∃ k : Nat, n = k := ⟨n.toNat, by simp [fineW] at e1; omega⟩
    refine (new_ok k w (by simp [fineW] at e1; omega)).mono ?_
    rintro e w' ⟨rfl, hS, hk⟩
    refine ⟨_, Foot w.heap.size (.slice none 0 0) (.slice none 0 0), by simp [errW, e1], .inr ⟨_, _, _, rfl, by simpa [szW, e1] using hS, rfl⟩, hk, ?_, .inr ⟨rfl, _, rfl⟩⟩
    rintro i (rfl | e | e)
    · omega
    · simp [Value.ownBlock] at e
    · simp [Value.ownBlock] at e

/-- Two pairs and the book: all apart. -/
structure Two (w : World) (b0 : Nat) (av0 av1 : Value) (r0 r1 pb k : Nat) : Prop where
  ex : ∃ F0 G0 F1 G1 H A0 A1 nN nA, Pr w av0 r0 F0 G0 A0 ∧ Pr w av1 r1 F1 G1 A1 ∧ Bk w pb H nN nA ∧ (∀ i, F0 i ∨ G0 i → ¬ (F1 i ∨ G1 i)) ∧ (∀ i, F0 i ∨ G0 i ∨ F1 i ∨ G1 i ∨ H i → b0 ≤ i) ∧
    A0.log.length ≤ k ∧ A1.log.length ≤ k ∧ nN ≤ k ∧ nA ≤ k
theorem Pr.lt {w : World} {av : Value} {r : Nat} {F G : Nat → Prop} {A : Ar} (h : Pr w av r F G A) {k : Nat} (hk : F k ∨ G k) : k < w.heap.size := by
  obtain ⟨ha, ⟨vr, lr, hr, rfl⟩, -⟩ := h
  rcases hk with f | f
  · exact ha.lt f
  · exact hr.foot_lt f
theorem Bk.off {w : World} {pb nN nA : Nat} {H F G : Nat → Prop} {av : Value} {r : Nat} {A : Ar} (hb : Bk w pb H nN nA) (h : Pr w av r F G A) {k : Nat} (hk : F k ∨ G k) : ¬ H k := by
  obtain ⟨ha, ⟨vr, lr, hr, rfl⟩, -⟩ := h
  intro e
  rcases hk with f | f
  · exact hb.off_ar ha e f
  · exact hb.off_ref hr e f
theorem Two.swap {w : World} {b0 : Nat} {av0 av1 : Value} {r0 r1 pb k : Nat} (h : Two w b0 av0 av1 r0 r1 pb k) : Two w b0 av1 av0 r1 r0 pb k := by
  obtain ⟨F0, G0, F1, G1, H, A0, A1, nN, nA, h0, h1, hb, ho, hB, l0, l1, l2, l3⟩ := h
  exact ⟨F1, G1, F0, G0, H, A1, A0, nN, nA, h1, h0, hb, fun i f g => ho i g f, fun i f => hB i (by rcases f with f | f | f | f | f <;> simp [f]), l1, l0, l2, l3⟩
/-- A move on the first pair. -/
theorem two_plays {b0 : Nat} {av0 av1 : Value} {r0 r1 pb j : Nat} (s k x a b : Int) (w : World) (h : Two w b0 av0 av1 r0 r1 pb j) (hj : j ≤ 2097152) (hb0 : b0 ≤ w.heap.size) :
    Calls Try.prog 27 #[av0, .pointer (some ⟨r0, 0, none⟩), .agg #[.int .i64 s, .int .i64 k, .int .i64 x, .int .i64 a, .int .i64 b], .pointer (some ⟨pb, 0, none⟩)] w fun e w' => e = .returned (.bool true) ∧ Two w' b0 av0 av1 r0 r1 pb (j + 1) ∧ Keeps (fun i => b0 ≤ i) w w' := by
  obtain ⟨F0, G0, F1, G1, H, A0, A1, nN, nA, h0, h1, hb, ho, hB, l0, l1, l2, l3⟩ := h
  refine (plays_any av0 r0 pb F0 G0 H A0 nN nA s k x a b w h0 hb (by omega) (by omega) (by omega)).mono ?_
  rintro e w' ⟨rfl, F', G', H', A', nN', nA', hp', hb', hk, hm, m0, m1, m2⟩
  refine ⟨rfl, ⟨F', G', F1, G1, H', A', A1, nN', nA', hp', h1.kept hk ?_, hb', ?_, ?_, by omega, by omega, by omega, by omega⟩, hk.mono ?_⟩
  · intro i f g
    rcases g with g | g | g
    · exact ho i (.inl g) f
    · exact ho i (.inr g) f
    · exact hb.off h1 f g
  · intro i f g
    rcases hm i (by rcases f with f | f <;> simp [f]) with e | e | e | e
    · exact ho i (.inl e) g
    · exact ho i (.inr e) g
    · exact hb.off h1 g e
    · have := h1.lt g; omega
  · intro i f
    have f' : (F' i ∨ G' i ∨ H' i) ∨ F1 i ∨ G1 i := by rcases f with f | f | f | f | f <;> simp [f]
    rcases f' with f | f
    · rcases hm i f with e | e | e | e
      · exact hB i (.inl e)
      · exact hB i (.inr (.inl e))
      · exact hB i (by simp [e])
      · omega
    · exact hB i (by rcases f with f | f <;> simp [f])
  · intro i f _
    exact hB i (by rcases f with f | f | f <;> simp [f])
end Go.Proofs.Ytpjmakbbakmhoaa
