import Derived.Test.YteahlgaaifoabaaDqDo
/-! The document's memory with all that it may touch. -/
namespace Go.Proofs.Yteahlgaaifoabaa
open Go.RowKit Go.HeapKit Go.IntWalk

def MmF (w : World) (p : Nat) (F : Nat → Prop) (A : Ar) : Prop := ∃ vc vl, IsMem w p vc vl A ∧ F = Foot p vc vl
def MM (w w' : World) (p : Nat) (F : Nat → Prop) (A : Ar) : Prop := ∃ F', MmF w' p F' A ∧ Keeps F w w' ∧ ∀ k, F' k → F k ∨ w.heap.size ≤ k
theorem MmF.lt {w : World} {p : Nat} {F : Nat → Prop} {A : Ar} (h : MmF w p F A) {k : Nat} (hk : F k) : k < w.heap.size := by
  obtain ⟨vc, vl, h, rfl⟩ := h
  exact h.foot_lt hk
theorem MmF.kept {w w' : World} {p : Nat} {F S : Nat → Prop} {A : Ar} (h : MmF w p F A) (hk : Keeps S w w') (hS : ∀ k, F k → ¬ S k) : MmF w' p F A := by
  obtain ⟨vc, vl, h, rfl⟩ := h
  exact ⟨vc, vl, h.kept hk hS, rfl⟩
theorem MM.of {w w' : World} {p : Nat} {vc vl : Value} {A : Ar} (h : MAfter w w' p vc vl A) : MM w w' p (Foot p vc vl) A := by
  obtain ⟨vc', vl', h', hk, mc, ml⟩ := h
  refine ⟨_, ⟨vc', vl', h', rfl⟩, hk, ?_⟩
  intro k hk
  rcases hk with rfl | hk | hk
  · exact .inl (.inl rfl)
  · rcases mc with e | ⟨g, e, hg⟩
    · exact .inl (.inr (.inl (e ▸ hk)))
    · rw [e] at hk; injection hk with hk; exact .inr (by omega)
  · rcases ml with e | ⟨g, e, hg⟩
    · exact .inl (.inr (.inr (e ▸ hk)))
    · rw [e] at hk; injection hk with hk; exact .inr (by omega)
theorem MM.trans {w w1 w2 : World} {p : Nat} {F F1 : Nat → Prop} {B : Ar} (hk : Keeps F w w1) (hf : ∀ k, F1 k → F k ∨ w.heap.size ≤ k) (h2 : MM w1 w2 p F1 B) : MM w w2 p F B := by
  obtain ⟨F2, g, k, m⟩ := h2
  have := hk.size
  exact ⟨F2, g, hk.trans k (fun i f hi => by rcases hf i f with f | f; exact f; omega), fun k f => by
    rcases m k f with f | f
    · exact hf k f
    · exact .inr (by omega)⟩
theorem MM.out {w w1 w4 w' : World} {p g : Nat} {F : Nat → Prop} {B : Ar} (h : MM w1 w4 p F B) (h01 : Keeps None w w1) (hg : w.heap.size ≤ g) (hg1 : g < w1.heap.size) (hF : ¬ F g) (hk : Keeps (· = g) w4 w') : MM w w' p F B := by
  obtain ⟨F', h1, h2, h3⟩ := h
  have := h01.size
  refine ⟨F', h1.kept hk (fun k f e => ?_), ((h01.mono (fun _ f _ => f.elim)).trans h2 (fun _ f _ => f)).trans hk (fun i e hi => by omega), fun k f => ?_⟩
  · subst e
    rcases h3 _ f with f | f
    · exact hF f
    · omega
  · rcases h3 k f with f | f
    · exact .inl f
    · exact .inr (by omega)
theorem mm_fits (p : Nat) (F : Nat → Prop) (A : Ar) (x : Int) (n : Nat) (w : World) (hx : x = n) (h : MmF w p F A) (hn : 0 < n) (hm : A.cells.length + n ≤ A.size) (hlog : A.log.length < 1000000000000) :
    Calls Try.prog 35 #[.pointer (some ⟨p, 0, none⟩), .agg #[.int .i64 4, .int .i64 0, .int .i64 x, .int .i64 0, .int .i64 0, .int .i64 0]] w fun e w' => e = .returned (.tuple #[.int .i64 A.cells.length, .bool true]) ∧ MM w w' p F ((A.more n).noted ⟨0, 4, A.cells.length, n, 0, true⟩) := by
  subst hx
  obtain ⟨vc, vl, h, rfl⟩ := h
  refine (mdo_fits p vc vl A n w h hn hm hlog).mono ?_
  rintro e w' ⟨rfl, hA⟩
  exact ⟨rfl, MM.of hA⟩
theorem mm_many (p : Nat) (F : Nat → Prop) (A : Ar) (x : Int) (n : Nat) (w : World) (hx : x = n) (h : MmF w p F A) (hn : 0 < n) (hm : A.size < A.cells.length + n) (hn2 : n ≤ 1048576) :
    Calls Try.prog 35 #[.pointer (some ⟨p, 0, none⟩), .agg #[.int .i64 4, .int .i64 0, .int .i64 x, .int .i64 0, .int .i64 0, .int .i64 0]] w fun e w' => e = .returned (.tuple #[.int .i64 0, .bool false]) ∧ Keeps None w w' := by
  subst hx
  obtain ⟨vc, vl, h, rfl⟩ := h
  exact mdo_many p vc vl A n w h hn hm hn2
end Go.Proofs.Yteahlgaaifoabaa
