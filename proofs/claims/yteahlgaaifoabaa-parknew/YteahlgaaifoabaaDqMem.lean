import Derived.Test.YteahlgaaifoabaaDqBase
import Derived.Deep.RegionHeld3
import Derived.Deep.DeepCutAuto
import Derived.Deep.QuietTactic
import Derived.BigQuiet
/-! The document's memory of the deque. -/
namespace Go.Proofs.Yteahlgaaifoabaa
open Go.RowKit Go.HeapKit

structure IsMem (w : World) (p : Nat) (vc vl : Value) (A : Ar) : Prop where
  blk : w.heap[p]? = some (.cells #[vc, .int .i64 A.size, .int .i64 A.actor, vl] 30 (0, 0))
  cells : w.ownsRow 0 2 1 vc A.cells.length (A.cells.map (Value.int .i64))
  log : w.ownsRow 0 95 6 vl A.log.length (logVals A.log)
  fit : A.cells.length ≤ A.size ∧ A.size ≤ 1048576
  on : A.on = true

section
variable {w : World} {p : Nat} {vc vl : Value} {A : Ar}
theorem IsMem.lt (h : IsMem w p vc vl A) : p < w.heap.size := (Array.getElem?_eq_some_iff.1 h.blk).1
theorem IsMem.foot_lt (h : IsMem w p vc vl A) {k : Nat} (hk : Foot p vc vl k) : k < w.heap.size := by
  rcases hk with rfl | hk | hk
  · exact h.lt
  · exact own_lt h.cells hk
  · exact own_lt h.log hk
theorem IsMem.ncp (h : IsMem w p vc vl A) : vc.ownBlock ≠ some p := fun e => absurd (own_type h.cells e h.blk) (by decide)
theorem IsMem.nlp (h : IsMem w p vc vl A) : vl.ownBlock ≠ some p := fun e => absurd (own_type h.log e h.blk) (by decide)
theorem IsMem.ncl (h : IsMem w p vc vl A) {g : Nat} (hg : vc.ownBlock = some g) : vl.ownBlock ≠ some g := own_apart h.cells h.log (by decide) hg
theorem IsMem.c0 (h : IsMem w p vc vl A) : w.cell? ⟨p, 0, none⟩ = some vc := by rw [cell_of_block h.blk]; rfl
theorem IsMem.c1 (h : IsMem w p vc vl A) : w.cell? ⟨p, 1, none⟩ = some (.int .i64 A.size) := by rw [cell_of_block h.blk]; rfl
theorem IsMem.c2 (h : IsMem w p vc vl A) : w.cell? ⟨p, 2, none⟩ = some (.int .i64 A.actor) := by rw [cell_of_block h.blk]; rfl
theorem IsMem.c3 (h : IsMem w p vc vl A) : w.cell? ⟨p, 3, none⟩ = some vl := by rw [cell_of_block h.blk]; rfl
theorem IsMem.free (h : IsMem w p vc vl A) (i : Nat) : w.frozen? ⟨p, i, none⟩ = false := free_of_block h.blk i
theorem IsMem.kept {w' : World} {S : Nat → Prop} (h : IsMem w p vc vl A) (hk : Keeps S w w') (hS : ∀ k, Foot p vc vl k → ¬ S k) : IsMem w' p vc vl A :=
  ⟨(hk.block p h.lt (hS p (.inl rfl))).trans h.blk, hk.own h.cells (fun k e => hS k (.inr (.inl e))), hk.own h.log (fun k e => hS k (.inr (.inr e))), h.fit, h.on⟩
theorem IsMem.alloc (h : IsMem w p vc vl A) (o : Obj) : IsMem (w.alloc o) p vc vl A := h.kept (Keeps.alloc None w o) (fun _ _ f => f)
theorem IsMem.drew (h : IsMem w p vc vl A) : IsMem w.drew p vc vl A := h.kept (Keeps.drew None w) (fun _ _ f => f)
theorem IsMem.at (h : IsMem w p vc vl A) (k : Nat) (hk : k < A.cells.length) :
    ∃ g cap, vc = .slice (some ⟨g, 0, none⟩) A.cells.length cap ∧ A.cells.length ≤ cap ∧ g ≠ p ∧ w.cell? ⟨g, k, none⟩ = some (.int .i64 (A.cells.getD k 0)) ∧ w.frozen? ⟨g, k, none⟩ = false := by
  have hc := h.cells
  rcases hc.2 with ⟨_, h0⟩ | ⟨g, cap, cur, rfl, _, hg, hn, _, hcs, ht⟩
  · omega
  · refine ⟨g, cap, rfl, hn, fun e => h.ncp (by rw [← e]; rfl), ?_, free_of_block hg k⟩
    have hu := hc.cells (g := g) rfl k (.int .i64 (A.cells.getD k 0)) (by simp [List.getD, hk])
    rwa [show (⟨g, 0, none⟩ : Addr).add k = ⟨g, k, none⟩ by unfold Addr.add; split <;> simp_all] at hu
theorem IsMem.put (h : IsMem w p vc vl A) (k : Nat) {g cap : Nat} (hv : vc = .slice (some ⟨g, 0, none⟩) A.cells.length cap) (v : Int) :
    IsMem (w.setCell ⟨g, k, none⟩ (.int .i64 v)) p vc vl (A.put k v) := by
  have hgp : g ≠ p := fun e => h.ncp (by rw [hv, ← e]; rfl)
  have hl : vl.ownBlock ≠ some g := h.ncl (by rw [hv]; rfl)
  have hkp : Keeps (· = g) w (w.setCell ⟨g, k, none⟩ (.int .i64 v)) := Keeps.setCell (S := (· = g)) w (a := ⟨g, k, none⟩) rfl _
  refine ⟨?_, ?_, hkp.own h.log (fun i hi e => hl (e ▸ hi)), by simpa [Ar.put] using h.fit, h.on⟩
  · rw [hkp.block p h.lt (fun e => hgp e.symm), h.blk]
    simp [Ar.put]
  · have := h.cells
    subst hv
    have := own_set this k (.int .i64 v)
    simpa [Ar.put, List.map_set] using this
theorem IsMem.logged {w1 : World} {vl' : Value} {x : Acc} {S : Nat → Prop} (h : IsMem w p vc vl A) (hk : Keeps S w w1) (hS : ∀ k, S k → vl.ownBlock = some k) (ho : w1.ownsRow 0 95 6 vl' (A.log.length + 1) (logVals A.log ++ x.vals)) :
    IsMem (w1.setCell ⟨p, 3, none⟩ vl') p vc vl' { A with log := A.log ++ [x] } := by
  have hb : w1.heap[p]? = _ := (hk.block p h.lt (fun s => h.nlp (hS p s))).trans h.blk
  have hkp : Keeps (· = p) w1 (w1.setCell ⟨p, 3, none⟩ vl') := Keeps.setCell (S := (· = p)) w1 (a := ⟨p, 3, none⟩) rfl _
  have hc1 : w1.ownsRow 0 2 1 vc A.cells.length (A.cells.map (Value.int .i64)) := hk.own h.cells (fun k e s => h.ncl e (hS k s))
  have hlp : ∀ k, vl'.ownBlock = some k → k ≠ p := fun k e e2 => by
    subst e2
    exact absurd (own_type ho e hb) (by decide)
  refine ⟨(setCell_block hb vl').trans rfl, hkp.own hc1 (fun k e e2 => h.ncp (e2 ▸ e)), ?_, h.fit, h.on⟩
  have := hkp.own ho hlp
  simpa [logVals] using this
/-- The cells, one zero longer. -/
theorem IsMem.longer {w1 : World} {vc' : Value} {S : Nat → Prop} (h : IsMem w p vc vl A) (hk : Keeps S w w1) (hS : ∀ k, S k → vc.ownBlock = some k) (hfit : A.cells.length < A.size)
    (ho : w1.ownsRow 0 2 1 vc' (A.cells.length + 1) (A.cells.map (Value.int .i64) ++ [.int .i64 0])) :
    IsMem (w1.setCell ⟨p, 0, none⟩ vc') p vc' vl (A.more 1) := by
  have hb : w1.heap[p]? = _ := (hk.block p h.lt (fun s => h.ncp (hS p s))).trans h.blk
  have hkp : Keeps (· = p) w1 (w1.setCell ⟨p, 0, none⟩ vc') := Keeps.setCell (S := (· = p)) w1 (a := ⟨p, 0, none⟩) rfl _
  have hl1 := hk.own h.log (fun k e s => h.ncl (hS k s) e)
  have hlp : ∀ k, vc'.ownBlock = some k → k ≠ p := fun k e e2 => by
    subst e2
    exact absurd (own_type ho e hb) (by decide)
  refine ⟨(setCell_block hb vc').trans (by simp [Ar.more]), ?_, hkp.own hl1 (fun k e e2 => h.nlp (e2 ▸ e)), by have := h.fit; simp [Ar.more]; omega, h.on⟩
  have := hkp.own ho hlp
  simpa [Ar.more] using this
end

/-- What comes of the document's arena. -/
def MAfter (w w' : World) (p : Nat) (vc vl : Value) (A : Ar) : Prop := ∃ vc' vl', IsMem w' p vc' vl' A ∧ Keeps (Foot p vc vl) w w' ∧ Moved w vc vc' ∧ Moved w vl vl'
theorem MAfter.trans {w w1 w2 : World} {p : Nat} {vc vl vc1 vl1 : Value} {A : Ar} (hk : Keeps (Foot p vc vl) w w1) (mc : Moved w vc vc1) (ml : Moved w vl vl1) (h : MAfter w1 w2 p vc1 vl1 A) : MAfter w w2 p vc vl A := by
  obtain ⟨vc', vl', hA, hk2, mc2, ml2⟩ := h
  refine ⟨vc', vl', hA, hk.trans hk2 ?_, mc.trans mc2 hk.size, ml.trans ml2 hk.size⟩
  intro i hi hlt
  rcases hi with rfl | hi | hi
  · exact .inl rfl
  · rcases mc with mc | ⟨g, mc, hg⟩
    · exact .inr (.inl (mc ▸ hi))
    · rw [mc] at hi; injection hi with hi; omega
  · rcases ml with ml | ⟨g, ml, hg⟩
    · exact .inr (.inr (ml ▸ hi))
    · rw [ml] at hi; injection hi with hi; omega
theorem MAfter.same {w : World} {p : Nat} {vc vl : Value} {A : Ar} (h : IsMem w p vc vl A) : MAfter w w p vc vl A := ⟨vc, vl, h, Keeps.refl _ _, .refl _ _, .refl _ _⟩

/-- The append of a log, whatever arena it is of. -/
theorem row_append (vl : Value) (l : List Acc) (x : Acc) (g ty : Nat) (w : World) (h : w.ownsRow 0 95 6 vl l.length (logVals l)) (hlog : l.length < 1000000000000)
    (hg : w.heap[g]? = some (.cells #[.int .i64 x.who, .int .i64 x.kind, .int .i64 x.addr, .int .i64 x.a, .int .i64 x.b, .bool x.ok] 95 (0, 0))) :
    ∃ b cap w', (Builtin.append_ #[28, 28] ty #[vl, .slice (some ⟨g, 0, none⟩) 1 1]).run Try.prog w = .ok (.slice (some ⟨b, 0, none⟩) (l.length + 1) cap) w' ∧
      w'.ownsRow 0 95 6 (.slice (some ⟨b, 0, none⟩) (l.length + 1) cap) (l.length + 1) (logVals l ++ x.vals) ∧ w.grownBy w' vl.ownBlock ∧ Moved w vl (.slice (some ⟨b, 0, none⟩) (l.length + 1) cap) := by
  obtain ⟨i0, hi, hz0, hz1, hz2⟩ := info_parts Try.infoAcc
  obtain ⟨v', w', hr, ho, hgr, hm, -⟩ := run_append_moved (P := Try.prog) w 0 28 ty 95 i0 _ 6 48 Try.underlying28 hi hz0 hz1 hz2 rfl (by decide) vl l.length (logVals l) h
    ⟨g, 0, none⟩ 1 1 x.vals rfl (by
      intro j u hu
      rw [show (⟨g, 0, none⟩ : Addr).add j = ⟨g, j, none⟩ by unfold Addr.add; split <;> simp_all, cell_of_block hg]
      simpa [Acc.vals] using hu) (by
      intro u hu
      simp [Acc.vals] at hu
      rcases hu with rfl | rfl | rfl | rfl | rfl | rfl <;> rfl) (by unfold maxLen; omega) (by omega) (Nat.zero_le _)
  rcases ho.2 with ⟨_, h0⟩ | ⟨b, cap, cur, rfl, _⟩
  · omega
  · exact ⟨b, cap, w', hr, ho, hgr, hm⟩

end Go.Proofs.Yteahlgaaifoabaa
