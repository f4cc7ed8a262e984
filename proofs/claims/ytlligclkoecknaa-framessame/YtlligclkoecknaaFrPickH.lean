import Derived.Test.YtlligclkoecknaaFrDel
import Derived.Test.YtlligclkoecknaaFrApp
/-! What the tail of a pick leans on. -/
namespace Go.Proofs.Ytlligclkoecknaa
open Go.RowKit Go.HeapKit Go.IntWalk

section
variable {w0 w w1 : World} {P p : Nat} {F : Nat → Prop} {ao : Option Addr} {cap : Nat} {va vh vd : Value} {rs : List Value} {S : Pl}
theorem IsPlay.acts (h : IsPlay w0 w P p F ao cap va vh vd rs S) {i g n c : Nat} (hi : i < S.alive.length) (hv : va = .slice (some ⟨g, 0, none⟩) n c) {num m0 m1 m2 m3 m4 m5 m6 m7 y0 y1 y2 y3 y4 y5 y6 y7 : Int} (ha : S.alive.getD i default = ⟨num, ⟨m0, m1, m2, m3, m4, m5, m6, m7⟩, ⟨y0, y1, y2, y3, y4, y5, y6, y7⟩⟩) (q : Nat) (hq : i * 17 = q) :
    w.cell? ⟨g, q, none⟩ = some (.int .i64 num) ∧ (w.cell? ⟨g, q + 1, none⟩ = some (.int .i64 m0) ∧ w.cell? ⟨g, q + 2, none⟩ = some (.int .i64 m1) ∧ w.cell? ⟨g, q + 3, none⟩ = some (.int .i64 m2) ∧ w.cell? ⟨g, q + 4, none⟩ = some (.int .i64 m3) ∧ w.cell? ⟨g, q + 5, none⟩ = some (.int .i64 m4) ∧ w.cell? ⟨g, q + 6, none⟩ = some (.int .i64 m5) ∧ w.cell? ⟨g, q + 7, none⟩ = some (.int .i64 m6) ∧ w.cell? ⟨g, q + 8, none⟩ = some (.int .i64 m7)) ∧ (w.cell? ⟨g, q + 9, none⟩ = some (.int .i64 y0) ∧ w.cell? ⟨g, q + 10, none⟩ = some (.int .i64 y1) ∧ w.cell? ⟨g, q + 11, none⟩ = some (.int .i64 y2) ∧ w.cell? ⟨g, q + 12, none⟩ = some (.int .i64 y3) ∧ w.cell? ⟨g, q + 13, none⟩ = some (.int .i64 y4) ∧ w.cell? ⟨g, q + 14, none⟩ = some (.int .i64 y5) ∧ w.cell? ⟨g, q + 15, none⟩ = some (.int .i64 y6) ∧ w.cell? ⟨g, q + 16, none⟩ = some (.int .i64 y7)) ∧ (w.frozen? ⟨g, q + 1, none⟩ = false ∧ w.frozen? ⟨g, q + 2, none⟩ = false ∧ w.frozen? ⟨g, q + 3, none⟩ = false ∧ w.frozen? ⟨g, q + 4, none⟩ = false ∧ w.frozen? ⟨g, q + 5, none⟩ = false ∧ w.frozen? ⟨g, q + 6, none⟩ = false ∧ w.frozen? ⟨g, q + 7, none⟩ = false ∧ w.frozen? ⟨g, q + 8, none⟩ = false) := by
  subst hq
  obtain ⟨g', c', e', -, -, hc'⟩ := h.alive_at i hi
  rw [hv] at e'
  injection e' with e1 e2 e3
  injection e1 with e1
  injection e1 with e1
  subst e1
  rw [ha] at hc'
  exact ⟨(hc' 0 (by omega)).1, ⟨(hc' 1 (by omega)).1, (hc' 2 (by omega)).1, (hc' 3 (by omega)).1, (hc' 4 (by omega)).1, (hc' 5 (by omega)).1, (hc' 6 (by omega)).1, (hc' 7 (by omega)).1, (hc' 8 (by omega)).1⟩, ⟨(hc' 9 (by omega)).1, (hc' 10 (by omega)).1, (hc' 11 (by omega)).1, (hc' 12 (by omega)).1, (hc' 13 (by omega)).1, (hc' 14 (by omega)).1, (hc' 15 (by omega)).1, (hc' 16 (by omega)).1⟩, ⟨(hc' 1 (by omega)).2, (hc' 2 (by omega)).2, (hc' 3 (by omega)).2, (hc' 4 (by omega)).2, (hc' 5 (by omega)).2, (hc' 6 (by omega)).2, (hc' 7 (by omega)).2, (hc' 8 (by omega)).2⟩⟩
theorem IsPlay.putOk {x : Pl × OpF} {a : Actr} {S1 : Pl} (h : IsPlay w0 w P p F ao cap va vh vd rs x.1) (hal : x.1.alive = S1.alive) {i g n c : Nat} (hi : i < S1.alive.length) (hn : n = S1.alive.length) (hv : va = .slice (some ⟨g, 0, none⟩) n c) (hf : (S1.alive.getD i default).num = a.num ∧ (S1.alive.getD i default).fin = a.fin) (q : Nat) (hq : i * 17 = q) :
    IsPlay w0 (setsFrom w g (q + 1) x.2.vals.toList) P p F ao cap va vh vd rs (Pl.put i a x) := by
  subst hq hn
  have h1 := h.opset i (by rw [hal]; exact hi) (by rw [hal]; exact hv) x.2
  have e : ({ x.1 with alive := x.1.alive.set i { x.1.alive.getD i default with op := x.2 } } : Pl) = Pl.put i a x := by
    obtain ⟨e1, e2⟩ := hf
    have e3 : ({ x.1.alive.getD i default with op := x.2 } : Actr) = { a with op := x.2 } := by
      rw [hal]
      show Actr.mk (S1.alive.getD i default).num x.2 (S1.alive.getD i default).fin = Actr.mk a.num x.2 a.fin
      rw [e1, e2]
    rw [e3]
    rfl
  rw [e] at h1
  exact h1
theorem IsPlay.alived {va' : Value} {l' : List Actr} (h : IsPlay w0 w P p F ao cap va vh vd rs S) (hk : Keeps (fun k => va.ownBlock = some k) w w1) (hm : Moved w va va') (ho : w1.ownsRow 0 100 17 va' l'.length (actVals l')) :
    IsPlay w0 (w1.setCell ⟨P, 4, none⟩ va') P p F ao cap va' vh vd rs { S with alive := l' } ∧ Keeps (fun k => va.ownBlock = some k ∨ k = P) w (w1.setCell ⟨P, 4, none⟩ va') := by
  have hs := h.kp.size
  have hs1 := hk.size
  obtain ⟨n1, n2, n3, n4⟩ := h.nP
  have hb : w1.heap[P]? = _ := (hk.block P h.lt n1).trans h.blk
  have hkp : Keeps (· = P) w1 (w1.setCell ⟨P, 4, none⟩ va') := Keeps.setCell (S := (· = P)) w1 (a := ⟨P, 4, none⟩) rfl _
  have hall : Keeps (fun k => va.ownBlock = some k ∨ k = P) w (w1.setCell ⟨P, 4, none⟩ va') := (hk.mono (fun _ f _ => .inl f)).trans hkp (fun _ e _ => .inr e)
  have hlP := h.lo P (.inr (.inl rfl))
  have hnP' : va'.ownBlock ≠ some P := fun e => absurd (own_type ho e hb) (by decide)
  have hG : ∀ k, GPl P va' vh vd rs k → GPl P va vh vd rs k ∨ w.heap.size ≤ k := by
    intro k g
    rcases g with e | e | e | e | e
    · exact .inl (.inl e)
    · rcases moved_off hm e with e | e
      · exact .inl (.inr (.inl e))
      · exact .inr e
    · exact .inl (.inr (.inr (.inl e)))
    · exact .inl (.inr (.inr (.inr (.inl e))))
    · exact .inl (.inr (.inr (.inr (.inr e))))
  refine ⟨⟨(setCell_block hb va').trans rfl, h.ar.kept hall (fun k f e => by rcases e with e | e; exact h.off k f (.inr (.inl e)); exact h.off k f (.inl e)), ?_, hall.own h.ho (fun k e e2 => by rcases e2 with e2 | e2; exact own_apart h.al h.ho (by decide) e2 e; exact n2 (e2 ▸ e)), hall.own h.re (fun k e e2 => by rcases e2 with e2 | e2; exact own_apart h.al h.re (by decide) e2 e; exact n3 (e2 ▸ e)), h.rl, fun i hi => hall.own (h.row i hi) (fun k e e2 => by rcases e2 with e2 | e2; exact own_apart h.al (h.row i hi) (by decide) e2 e; exact n4 i (by rw [h.rl]; exact hi) (e2 ▸ e)), h.apart, fun k f g => ?_, h.kp.trans hall (fun k e hi => by rcases e with e | e; have := h.lo k (.inr (.inr (.inl e))); omega; omega), fun k f => ?_, h.ro⟩, hall⟩
  · have := hkp.own ho (fun k e e2 => hnP' (e2 ▸ e))
    simpa using this
  · rcases hG k g with g | g
    · exact h.off k f g
    · have := h.ar.lt f; omega
  · rcases f with f | f
    · exact h.lo k (.inl f)
    · rcases hG k f with f | f
      · exact h.lo k (.inr f)
      · omega
end
theorem nextFork_alive (S : Pl) : S.nextFork.1.alive = S.alive := by
  unfold Pl.nextFork
  split
  · rfl
  · split <;> rfl
theorem nextFetch_alive (S : Pl) : S.nextFetch.1.alive = S.alive := by
  unfold Pl.nextFetch
  split
  · rfl
  · exact nextFork_alive _
theorem taken_alive (S : Pl) (v : Int) : (S.taken v).1.alive = S.alive := by
  unfold Pl.taken
  split <;> rfl
theorem nextFork_with (S : Pl) (l : List Actr) : ({ S with alive := l } : Pl).nextFork = ({ S.nextFork.1 with alive := l }, S.nextFork.2) := by
  unfold Pl.nextFork
  simp only
  split
  · rfl
  · split <;> rfl
theorem nextFork_same (S : Pl) : S.nextFork.1.frames = S.frames ∧ S.nextFork.1.child = S.child ∧ S.nextFork.1.round = S.round ∧ S.nextFork.1.born = S.born := by
  unfold Pl.nextFork
  split
  · exact ⟨rfl, rfl, rfl, rfl⟩
  · split <;> exact ⟨rfl, rfl, rfl, rfl⟩
theorem wrap_i64 (x : Int) (h1 : -9223372036854775808 ≤ x) (h2 : x ≤ 9223372036854775807) : IntKind.i64.wrap x = x := (i64_left x).trans (wrap_small h1 h2)
theorem put_twice (S : Pl) (i : Nat) (a : Actr) (o : OpF) : Pl.put i a (Pl.put i a (S, o)).nextFork = Pl.put i a S.nextFork := by
  have e : Pl.put i a (S, o) = { S with alive := S.alive.set i { a with op := o } } := rfl
  rw [e, nextFork_with]
  unfold Pl.put
  simp only [nextFork_alive, List.set_set]
/-- Bounds on what a play holds. -/
structure Small (S : Pl) : Prop where
  al : S.alive.length ≤ 600
  ho : S.holders.length ≤ 100
  re : S.reads.length ≤ 100
  row : ∀ r, (S.reads.getD r []).length ≤ 100
end Go.Proofs.Ytlligclkoecknaa
