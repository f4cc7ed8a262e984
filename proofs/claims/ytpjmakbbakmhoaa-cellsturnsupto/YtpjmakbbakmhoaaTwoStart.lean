import Derived.Test.YtpjmakbbakmhoaaTwoWalks
/-! What 'walk' begins with. -/
namespace Go.Proofs.Ytpjmakbbakmhoaa
open Go.RowKit Go.HeapKit

theorem foot_nil {p k : Nat} (h : Foot p (.slice none 0 0) (.slice none 0 0) k) : k = p := by
  rcases h with h | h | h
  · exact h
  · simp [Value.ownBlock] at h
  · simp [Value.ownBlock] at h
theorem two_start {w w1 w2 w3 w4 : World} {a0 a1 : Nat} {av0 av1 : Value} {F0 F1 : Nat → Prop} (hk1 : Keeps None w w1) (hk2 : Keeps None w1 w2) (hk3 : Keeps None w2 w3) (hk4 : Keeps None w3 w4)
    (hR0 : IsRef w1 w.heap.size (.slice none 0 0) (.slice none 0 0) (Ar.new a0)) (hR1 : IsRef w2 w1.heap.size (.slice none 0 0) (.slice none 0 0) (Ar.new a1)) (hA0 : IsAr w3 av0 F0 (Ar.new a0)) (hA1 : IsAr w4 av1 F1 (Ar.new a1))
    (hf0 : ∀ k, F0 k → w2.heap.size ≤ k) (hf1 : ∀ k, F1 k → w3.heap.size ≤ k) :
    Two (w4.alloc (.cells #[.slice none 0 0, .slice none 0 0, .int .i64 0] 40)) w.heap.size av0 av1 w.heap.size w1.heap.size w4.heap.size 0 ∧
      Keeps (fun i => w.heap.size ≤ i) w (w4.alloc (.cells #[.slice none 0 0, .slice none 0 0, .int .i64 0] 40)) := by
  have s1 := hR0.lt
  have s2 := hR1.lt
  have s3 := hk3.size
  have s4 := hk4.size
  have k5 := Keeps.alloc None w4 (.cells #[.slice none 0 0, .slice none 0 0, .int .i64 0] 40)
  have k45 := hk4.trans k5 (fun _ f _ => f)
  have k35 := hk3.trans k45 (fun _ f _ => f)
  have k25 := hk2.trans k35 (fun _ f _ => f)
  have k15 := hk1.trans k25 (fun _ f _ => f)
  have l0 : ∀ k, F0 k → k < w3.heap.size := fun k f => hA0.lt f
  have l1 : ∀ k, F1 k → k < w4.heap.size := fun k f => hA1.lt f
  refine ⟨⟨F0, _, F1, _, _, _, _, 0, 0, ⟨hA0.kept k45 (fun _ _ f => f), ⟨_, _, hR0.kept k25 (fun _ _ f => f), rfl⟩, ?_⟩, ⟨hA1.kept k5 (fun _ _ f => f), ⟨_, _, hR1.kept k35 (fun _ _ f => f), rfl⟩, ?_⟩,
    ⟨_, _, _, [], [], ⟨new_at w4 _ _ rfl, World.ownsRow_nil _ _ _ _, World.ownsRow_nil _ _ _ _⟩, rfl⟩, ?_, ?_, by simp [Ar.new], by simp [Ar.new], by omega, by omega⟩, k15.mono (fun _ f _ => f.elim)⟩
  · intro k f g; have := foot_nil g; have := hf0 k f; omega
  · intro k f g; have := foot_nil g; have := hf1 k f; omega
  · intro k f g
    rcases f with f | f <;> rcases g with g | g
    · have := l0 k f; have := hf1 k g; omega
    · have := hf0 k f; have := foot_nil g; omega
    · have := foot_nil f; have := hf1 k g; omega
    · have := foot_nil f; have := foot_nil g; omega
  · intro k f
    rcases f with f | f | f | f | f
    · have := hf0 k f; omega
    · have := foot_nil f; omega
    · have := hf1 k f; omega
    · have := foot_nil f; omega
    · have : k = w4.heap.size := foot_nil f
      omega
end Go.Proofs.Ytpjmakbbakmhoaa
