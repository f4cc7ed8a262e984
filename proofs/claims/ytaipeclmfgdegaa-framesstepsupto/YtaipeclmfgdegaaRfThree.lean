import Derived.Test.YtaipeclmfgdegaaRfLawC
import Derived.Test.YtaipeclmfgdegaaRfLaw
/-! FramesSteps: three arenas; an op on two arenas that hold the same. -/
namespace Go.Proofs.Ytaipeclmfgdegaa
open Go.RowKit Go.HeapKit Go.IntWalk

/-- The second arena holds what the first one holds, and is not watched. -/
structure Twin (B C : Ar) : Prop where
  cells : C.cells = B.cells
  size : C.size = B.size
  off : C.on = false
  log : C.log = []
section
variable {B C : Ar}
theorem noted_cells (A : Ar) (x : Acc) : (A.noted x).cells = A.cells := by unfold Ar.noted; split <;> rfl
theorem noted_size (A : Ar) (x : Acc) : (A.noted x).size = A.size := by unfold Ar.noted; split <;> rfl
theorem noted_on8 (A : Ar) (x : Acc) : (A.noted x).on = A.on := by unfold Ar.noted; split <;> rfl
theorem noted_off {A : Ar} (h : A.on = false) (x : Acc) : (A.noted x).log = A.log := by unfold Ar.noted; rw [if_neg (by rw [h]; simp)]
theorem Twin.note (h : Twin B C) (x y : Acc) : Twin (B.noted x) (C.noted y) :=
  ⟨by rw [noted_cells, noted_cells, h.cells], by rw [noted_size, noted_size, h.size], by rw [noted_on8]; exact h.off, by rw [noted_off h.off]; exact h.log⟩
theorem Twin.put (h : Twin B C) (k : Nat) (v : Int) : Twin (B.put k v) (C.put k v) := ⟨by simp [Ar.put, h.cells], h.size, h.off, h.log⟩
theorem Twin.more (h : Twin B C) (n : Nat) : Twin (B.more n) (C.more n) := ⟨by simp [Ar.more, h.cells], h.size, h.off, h.log⟩
theorem Twin.has (h : Twin B C) (x : Int) : C.has x = B.has x := by unfold Ar.has; rw [h.cells]
theorem Twin.val (h : Twin B C) (k : Nat) : C.val k = B.val k := by unfold Ar.val; rw [h.cells]
theorem Twin.did (h : Twin B C) (k x a b : Int) : (C.did k x a b).1 = (B.did k x a b).1 ∧ Twin (B.did k x a b).2 (C.did k x a b).2 := by
  have hh := h.has x
  have hv := h.val x.toNat
  unfold Ar.did
  rw [hh, hv, h.size, h.cells]
  repeat' split
  all_goals first
    | exact ⟨rfl, h⟩
    | exact ⟨rfl, h.note _ _⟩
    | exact ⟨rfl, (h.put _ _).note _ _⟩
    | exact ⟨rfl, (h.more _).note _ _⟩
theorem Twin.acc (h : Twin B C) (o : OpF) : (o.acc C).1 = (o.acc B).1 ∧ Twin (o.acc B).2 (o.acc C).2 := by
  unfold OpF.acc
  repeat' split
  all_goals exact h.did _ _ _ _
theorem Twin.step (h : Twin B C) (o : OpF) : (o.step C).1 = (o.step B).1 ∧ Twin (o.step B).2 (o.step C).2 := by
  obtain ⟨h1, h2⟩ := h.acc o
  unfold OpF.step
  rw [h1]
  split
  · exact ⟨rfl, h⟩
  · split
    · exact ⟨rfl, h2⟩
    · exact ⟨rfl, h2⟩
end
/-- The program's two arenas and the document's. -/
structure St3 (w wr : World) (p q b : Nat) (F G K : Nat → Prop) (B D C : Ar) : Prop where
  ar : ArF wr p F B
  rf : RfF wr q G D
  br : ArF wr b K C
  fg : ∀ k, F k → ¬ G k
  fk : ∀ k, F k → ¬ K k
  gk : ∀ k, G k → ¬ K k
  lo : ∀ k, F k ∨ G k ∨ K k → w.heap.size ≤ k
  kp : Keeps None w wr
section
variable {w wr wx : World} {p q b : Nat} {F G K : Nat → Prop} {B D C E : Ar}
theorem St3.lt (h : St3 w wr p q b F G K B D C) {k : Nat} (hk : F k ∨ G k ∨ K k) : k < wr.heap.size := by
  rcases hk with f | f | f
  · exact h.ar.lt f
  · exact h.rf.lt f
  · exact h.br.lt f
theorem St3.kept (h : St3 w wr p q b F G K B D C) (hk : Keeps None wr wx) : St3 w wx p q b F G K B D C :=
  ⟨h.ar.kept hk (fun _ _ f => f), h.rf.kept hk (fun _ _ f => f), h.br.kept hk (fun _ _ f => f), h.fg, h.fk, h.gk, h.lo, h.kp.trans hk (fun _ f _ => f)⟩
/-- Whatever else is written, as long as it is new and none of the arenas'. -/
theorem St3.keptS {S : Nat → Prop} (h : St3 w wr p q b F G K B D C) (hk : Keeps S wr wx) (hS : ∀ k, S k → w.heap.size ≤ k ∧ ¬ (F k ∨ G k ∨ K k)) : St3 w wx p q b F G K B D C :=
  ⟨h.ar.kept hk (fun k f s => (hS k s).2 (.inl f)), h.rf.kept hk (fun k f s => (hS k s).2 (.inr (.inl f))), h.br.kept hk (fun k f s => (hS k s).2 (.inr (.inr f))), h.fg, h.fk, h.gk, h.lo, h.kp.trans hk (fun i s hi => by have := (hS i s).1; omega)⟩
theorem St3.accA (h : St3 w wr p q b F G K B D C) (h2 : AA wr wx p F E) : ∃ F', St3 w wx p q b F' G K E D C ∧ (∀ k, F' k → F k ∨ wr.heap.size ≤ k) ∧ Keeps F wr wx := by
  obtain ⟨F', h1, hk, hf⟩ := h2
  have hs := h.kp.size
  refine ⟨F', ⟨h1, h.rf.kept hk (fun k g f => h.fg k f g), h.br.kept hk (fun k g f => h.fk k f g), fun k f g => ?_, fun k f g => ?_, h.gk, fun k f => ?_, h.kp.trans hk (fun i f hi => by have := h.lo i (.inl f); omega)⟩, hf, hk⟩
  · rcases hf k f with f | f
    · exact h.fg k f g
    · have := h.rf.lt g; omega
  · rcases hf k f with f | f
    · exact h.fk k f g
    · have := h.br.lt g; omega
  · rcases f with f | f
    · rcases hf k f with f | f
      · exact h.lo k (.inl f)
      · omega
    · exact h.lo k (.inr f)
theorem St3.accB (h : St3 w wr p q b F G K B D C) (h2 : AA wr wx b K E) : ∃ K', St3 w wx p q b F G K' B D E ∧ (∀ k, K' k → K k ∨ wr.heap.size ≤ k) ∧ Keeps K wr wx := by
  obtain ⟨K', h1, hk, hf⟩ := h2
  have hs := h.kp.size
  refine ⟨K', ⟨h.ar.kept hk (fun k f g => h.fk k f g), h.rf.kept hk (fun k f g => h.gk k f g), h1, h.fg, fun k f g => ?_, fun k f g => ?_, fun k f => ?_, h.kp.trans hk (fun i f hi => by have := h.lo i (.inr (.inr f)); omega)⟩, hf, hk⟩
  · rcases hf k g with g | g
    · exact h.fk k f g
    · have := h.ar.lt f; omega
  · rcases hf k g with g | g
    · exact h.gk k f g
    · have := h.rf.lt f; omega
  · rcases f with f | f | f
    · exact h.lo k (.inl f)
    · exact h.lo k (.inr (.inl f))
    · rcases hf k f with f | f
      · exact h.lo k (.inr (.inr f))
      · omega
theorem St3.accR (h : St3 w wr p q b F G K B D C) (h2 : RR wr wx q G E) : ∃ G', St3 w wx p q b F G' K B E C ∧ (∀ k, G' k → G k ∨ wr.heap.size ≤ k) ∧ Keeps G wr wx := by
  obtain ⟨G', h1, hk, hf⟩ := h2
  have hs := h.kp.size
  refine ⟨G', ⟨h.ar.kept hk (fun k f g => h.fg k f g), h1, h.br.kept hk (fun k f g => h.gk k g f), fun k f g => ?_, h.fk, fun k f g => ?_, fun k f => ?_, h.kp.trans hk (fun i f hi => by have := h.lo i (.inr (.inl f)); omega)⟩, hf, hk⟩
  · rcases hf k g with g | g
    · exact h.fg k f g
    · have := h.ar.lt f; omega
  · rcases hf k f with f | f
    · exact h.gk k f g
    · have := h.br.lt g; omega
  · rcases f with f | f | f
    · exact h.lo k (.inl f)
    · rcases hf k f with f | f
      · exact h.lo k (.inr (.inl f))
      · omega
    · exact h.lo k (.inr (.inr f))
end
end Go.Proofs.Ytaipeclmfgdegaa
