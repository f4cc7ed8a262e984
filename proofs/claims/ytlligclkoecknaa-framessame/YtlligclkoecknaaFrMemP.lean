import Derived.Test.YtlligclkoecknaaFrLaw
import Derived.Test.YtlligclkoecknaaFrOut
/-! A play in memory. -/
namespace Go.Proofs.Ytlligclkoecknaa
open Go.RowKit Go.HeapKit Go.IntWalk

def Actr.vals (a : Actr) : List Value := .int .i64 a.num :: (a.op.vals.toList ++ a.fin.vals.toList)
theorem add0 (g n : Nat) : (⟨g, 0, none⟩ : Addr).add n = ⟨g, n, none⟩ := by unfold Addr.add; split <;> simp_all
theorem Actr.vals_length (a : Actr) : a.vals.length = 17 := rfl
def actVals (l : List Actr) : List Value := l.flatMap Actr.vals
theorem actVals_length (l : List Actr) : (actVals l).length = l.length * 17 := by
  induction l with
  | nil => rfl
  | cons x l ih => simp only [actVals, List.flatMap_cons, List.length_append, Actr.vals_length, List.length_cons] at ih ⊢; omega
theorem actVals_app (a b : List Actr) : actVals (a ++ b) = actVals a ++ actVals b := by simp [actVals]
theorem actVals_one (a : Actr) : actVals [a] = a.vals := by simp [actVals]
theorem actVals_cons (a : Actr) (b : List Actr) : actVals (a :: b) = a.vals ++ actVals b := by simp [actVals]
def Pl.vals (S : Pl) (p : Nat) (vr va vh vd : Value) : Array Value :=
  #[.pointer (some ⟨p, 0, none⟩), .int .i64 0, .int .i64 S.frames, vr, va, .int .i64 S.born, .int .i64 S.round, .int .i64 S.forked, .int .i64 S.child, .bool S.done, vh, vd]
def GPl (P : Nat) (va vh vd : Value) (rs : List Value) (k : Nat) : Prop := k = P ∨ va.ownBlock = some k ∨ vh.ownBlock = some k ∨ vd.ownBlock = some k ∨ ∃ i, i < rs.length ∧ (rs.getD i undef).ownBlock = some k
structure IsPlay (w0 w : World) (P p : Nat) (F : Nat → Prop) (ao : Option Addr) (cap : Nat) (va vh vd : Value) (rs : List Value) (S : Pl) : Prop where
  blk : w.heap[P]? = some (.cells (S.vals p (.slice ao S.rounds.length cap) va vh vd) 86 (0, 0))
  ar : ArF w p F S.A
  al : w.ownsRow 0 100 17 va S.alive.length (actVals S.alive)
  ho : w.ownsRow 0 3 1 vh S.holders.length (S.holders.map (Value.int .i64))
  re : w.ownsRow 0 48 1 vd S.reads.length rs
  rl : rs.length = S.reads.length
  row : ∀ i, i < S.reads.length → w.ownsRow 0 2 1 (rs.getD i undef) (S.reads.getD i []).length ((S.reads.getD i []).map (Value.int .i64))
  apart : ∀ i j k, i < rs.length → j < rs.length → i ≠ j → (rs.getD i undef).ownBlock = some k → (rs.getD j undef).ownBlock ≠ some k
  off : ∀ k, F k → ¬ GPl P va vh vd rs k
  kp : Keeps None w0 w
  lo : ∀ k, F k ∨ GPl P va vh vd rs k → w0.heap.size ≤ k
  ro : Ints w0 ao S.rounds
section
variable {w0 w wx : World} {P p : Nat} {F : Nat → Prop} {ao : Option Addr} {cap : Nat} {va vh vd : Value} {rs : List Value} {S : Pl}
theorem IsPlay.lt (h : IsPlay w0 w P p F ao cap va vh vd rs S) : P < w.heap.size := (Array.getElem?_eq_some_iff.1 h.blk).1
theorem IsPlay.glt (h : IsPlay w0 w P p F ao cap va vh vd rs S) {k : Nat} (hk : GPl P va vh vd rs k) : k < w.heap.size := by
  rcases hk with rfl | e | e | e | ⟨i, hi, e⟩
  · exact h.lt
  · exact own_lt h.al e
  · exact own_lt h.ho e
  · exact own_lt h.re e
  · exact own_lt (h.row i (by rw [← h.rl]; exact hi)) e
theorem IsPlay.kept (h : IsPlay w0 w P p F ao cap va vh vd rs S) (hk : Keeps None w wx) : IsPlay w0 wx P p F ao cap va vh vd rs S :=
  ⟨(hk.block P h.lt (fun f => f)).trans h.blk, h.ar.kept hk (fun _ _ f => f), hk.own h.al (fun _ _ f => f), hk.own h.ho (fun _ _ f => f), hk.own h.re (fun _ _ f => f), h.rl, fun i hi => hk.own (h.row i hi) (fun _ _ f => f), h.apart, h.off, h.kp.trans hk (fun _ f _ => f), h.lo, h.ro⟩
theorem IsPlay.acc {B : Ar} (h : IsPlay w0 w P p F ao cap va vh vd rs S) (h2 : AA w wx p F B) : ∃ F', IsPlay w0 wx P p F' ao cap va vh vd rs { S with A := B } := by
  obtain ⟨F2, g2, hk, hf⟩ := h2
  have hs := h.kp.size
  have hG : ∀ k, GPl P va vh vd rs k → ¬ F k := fun k g f => h.off k f g
  refine ⟨F2, (hk.block P h.lt (hG P (.inl rfl))).trans h.blk, g2, hk.own h.al (fun k e => hG k (.inr (.inl e))), hk.own h.ho (fun k e => hG k (.inr (.inr (.inl e)))), hk.own h.re (fun k e => hG k (.inr (.inr (.inr (.inl e))))), h.rl, fun i hi => hk.own (h.row i hi) (fun k e => hG k (.inr (.inr (.inr (.inr ⟨i, by rw [h.rl]; exact hi, e⟩))))), h.apart, fun k f g => ?_, h.kp.trans hk (fun i f hi => by have := h.lo i (.inl f); omega), fun k f => ?_, h.ro⟩
  · rcases hf k f with f | f
    · exact h.off k f g
    · have := h.glt g; omega
  · rcases f with f | f
    · rcases hf k f with f | f
      · exact h.lo k (.inl f)
      · omega
    · exact h.lo k (.inr f)
theorem IsPlay.nP (h : IsPlay w0 w P p F ao cap va vh vd rs S) : va.ownBlock ≠ some P ∧ vh.ownBlock ≠ some P ∧ vd.ownBlock ≠ some P ∧ ∀ i, i < rs.length → (rs.getD i undef).ownBlock ≠ some P :=
  ⟨fun e => absurd (own_type h.al e h.blk) (by decide), fun e => absurd (own_type h.ho e h.blk) (by decide), fun e => absurd (own_type h.re e h.blk) (by decide), fun i hi e => absurd (own_type (h.row i (by rw [← h.rl]; exact hi)) e h.blk) (by decide)⟩
/-- A store into a field of the play. -/
theorem IsPlay.set (h : IsPlay w0 w P p F ao cap va vh vd rs S) (i : Nat) (v : Value) (S' : Pl) (hv : S'.vals p (.slice ao S'.rounds.length cap) va vh vd = (S.vals p (.slice ao S.rounds.length cap) va vh vd).setIfInBounds i v)
    (hA : S'.A = S.A) (hal : S'.alive = S.alive) (hho : S'.holders = S.holders) (hre : S'.reads = S.reads) (hrd : S'.rounds = S.rounds) : IsPlay w0 (w.setCell ⟨P, i, none⟩ v) P p F ao cap va vh vd rs S' := by
  have hk := Keeps.setCell (S := (· = P)) w (a := ⟨P, i, none⟩) rfl v
  obtain ⟨n1, n2, n3, n4⟩ := h.nP
  have hl := h.lo P (.inr (.inl rfl))
  refine ⟨by rw [setCell_block h.blk v, hv], by rw [hA]; exact h.ar.kept hk (fun k f e => h.off k f (.inl e)), by rw [hal]; exact hk.own h.al (fun k e e2 => n1 (e2 ▸ e)), by rw [hho]; exact hk.own h.ho (fun k e e2 => n2 (e2 ▸ e)), by rw [hre]; exact hk.own h.re (fun k e e2 => n3 (e2 ▸ e)), by rw [hre]; exact h.rl, fun i hi => ?_, h.apart, h.off, h.kp.trans hk (fun i e hi => by omega), h.lo, by rw [hrd]; exact h.ro⟩
  rw [hre] at hi ⊢
  exact hk.own (h.row i hi) (fun k e e2 => n4 i (by rw [h.rl]; exact hi) (e2 ▸ e))
/-- The fields. -/
theorem IsPlay.c0 (h : IsPlay w0 w P p F ao cap va vh vd rs S) : w.cell? ⟨P, 0, none⟩ = some (.pointer (some ⟨p, 0, none⟩)) := cell_of_block h.blk 0
theorem IsPlay.c1 (h : IsPlay w0 w P p F ao cap va vh vd rs S) : w.cell? ⟨P, 1, none⟩ = some (.int .i64 0) := cell_of_block h.blk 1
theorem IsPlay.c2 (h : IsPlay w0 w P p F ao cap va vh vd rs S) : w.cell? ⟨P, 2, none⟩ = some (.int .i64 S.frames) := cell_of_block h.blk 2
theorem IsPlay.c3 (h : IsPlay w0 w P p F ao cap va vh vd rs S) : w.cell? ⟨P, 3, none⟩ = some (.slice ao S.rounds.length cap) := cell_of_block h.blk 3
theorem IsPlay.c4 (h : IsPlay w0 w P p F ao cap va vh vd rs S) : w.cell? ⟨P, 4, none⟩ = some va := cell_of_block h.blk 4
theorem IsPlay.c5 (h : IsPlay w0 w P p F ao cap va vh vd rs S) : w.cell? ⟨P, 5, none⟩ = some (.int .i64 S.born) := cell_of_block h.blk 5
theorem IsPlay.c6 (h : IsPlay w0 w P p F ao cap va vh vd rs S) : w.cell? ⟨P, 6, none⟩ = some (.int .i64 S.round) := cell_of_block h.blk 6
theorem IsPlay.c7 (h : IsPlay w0 w P p F ao cap va vh vd rs S) : w.cell? ⟨P, 7, none⟩ = some (.int .i64 S.forked) := cell_of_block h.blk 7
theorem IsPlay.c8 (h : IsPlay w0 w P p F ao cap va vh vd rs S) : w.cell? ⟨P, 8, none⟩ = some (.int .i64 S.child) := cell_of_block h.blk 8
theorem IsPlay.c9 (h : IsPlay w0 w P p F ao cap va vh vd rs S) : w.cell? ⟨P, 9, none⟩ = some (.bool S.done) := cell_of_block h.blk 9
theorem IsPlay.c10 (h : IsPlay w0 w P p F ao cap va vh vd rs S) : w.cell? ⟨P, 10, none⟩ = some vh := cell_of_block h.blk 10
theorem IsPlay.c11 (h : IsPlay w0 w P p F ao cap va vh vd rs S) : w.cell? ⟨P, 11, none⟩ = some vd := cell_of_block h.blk 11
theorem IsPlay.free (h : IsPlay w0 w P p F ao cap va vh vd rs S) (i : Nat) : w.frozen? ⟨P, i, none⟩ = false := free_of_block h.blk i
/-- A round's number. -/
theorem IsPlay.round_cell (h : IsPlay w0 w P p F ao cap va vh vd rs S) (i : Nat) (hi : i < S.rounds.length) : ∃ b off, ao = some ⟨b, off, none⟩ ∧ w.cell? ⟨b, off + i, none⟩ = some (.int .i64 (S.rounds.getD i 0)) := by
  obtain ⟨b, off, e, -, hc⟩ := h.ro (by omega)
  exact ⟨b, off, e, h.kp.cell (hc i hi) (fun f => f)⟩
/-- A list of what was read. -/
theorem IsPlay.read_cell (h : IsPlay w0 w P p F ao cap va vh vd rs S) (i : Nat) (hi : i < S.reads.length) : ∃ g c, vd = .slice (some ⟨g, 0, none⟩) S.reads.length c ∧ S.reads.length ≤ c ∧ w.cell? ⟨g, i, none⟩ = some (rs.getD i undef) ∧ w.frozen? ⟨g, i, none⟩ = false := by
  have hc := h.re
  rcases hc.2 with ⟨_, h0⟩ | ⟨g, cap, cur, rfl, _, hg, hn, _, hcs, ht⟩
  · omega
  · refine ⟨g, cap, rfl, hn, ?_, free_of_block hg i⟩
    have hu := hc.cells (g := g) rfl i (rs.getD i undef) (by rw [List.getD_eq_getElem?_getD, List.getElem?_eq_getElem (by rw [h.rl]; exact hi)]; rfl)
    rwa [add0] at hu
/-- The living. -/
theorem IsPlay.alive_at (h : IsPlay w0 w P p F ao cap va vh vd rs S) (i : Nat) (hi : i < S.alive.length) : ∃ g c, va = .slice (some ⟨g, 0, none⟩) S.alive.length c ∧ S.alive.length ≤ c ∧ w.frozen? ⟨g, 0, none⟩ = false ∧ ∀ j, j < 17 → w.cell? ⟨g, i * 17 + j, none⟩ = some ((S.alive.getD i default).vals.getD j undef) ∧ w.frozen? ⟨g, i * 17 + j, none⟩ = false := by
  have hc := h.al
  rcases hc.2 with ⟨_, h0⟩ | ⟨g, cap, cur, rfl, _, hg, hn, _, hcs, ht⟩
  · omega
  · refine ⟨g, cap, rfl, hn, free_of_block hg 0, fun j hj => ⟨?_, free_of_block hg _⟩⟩
    have hsplit : S.alive = S.alive.take i ++ S.alive.getD i default :: S.alive.drop (i + 1) := by
      rw [List.getD_eq_getElem?_getD, List.getElem?_eq_getElem hi]
      simp
    generalize S.alive.getD i default = a at hsplit ⊢
    have hu := hc.cells (g := g) rfl (i * 17 + j) (a.vals.getD j undef) (by
      have hl : (actVals (S.alive.take i)).length = i * 17 := by rw [actVals_length]; simp; omega
      conv => lhs; arg 1; rw [hsplit]
      rw [actVals_app, actVals_cons, List.getElem?_append_right (by omega), hl, Nat.add_sub_cancel_left, List.getElem?_append_left (by rw [Actr.vals_length]; exact hj), List.getD_eq_getElem?_getD, List.getElem?_eq_getElem (by rw [Actr.vals_length]; exact hj)]
      simp)
    rwa [add0] at hu
end
end Go.Proofs.Ytlligclkoecknaa
