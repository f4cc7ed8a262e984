import Derived.Test.YtheginjjncnheaaHiRefSer
import Derived.Test.YtheginjjncnheaaHiCutWalk
/-! Lists that are written over; two that hold the same. -/
namespace Go.Proofs.Ytheginjjncnheaa
set_option linter.unusedVariables false
set_option maxRecDepth 20000
open Go.RowKit Go.HeapKit

theorem heldPut {w : World} {g off n cap : Nat} {zs : List Int} (h : Held w (.slice (some ⟨g, off, none⟩) n cap) zs) (hn : n = zs.length) {k : Nat} (hk : k < n) (z : Int) :
    Held (w.setCell ⟨g, off + k, none⟩ (.int .i64 z)) (.slice (some ⟨g, off, none⟩) n cap) (zs.set k z) := by
  rcases h with ⟨e, _⟩ | ⟨g', off', cap', cur, e, hb, hc, hs, hr⟩
  · cases e
  · injection e with e1 e2 e3
    injection e1 with e1
    injection e1 with e1 e4
    subst e1 e3 e4
    refine .inr ⟨g, off, cap, cur.setIfInBounds (off + k) (.int .i64 z), by simp [hn], blk_set hb _, by simpa using hc, by simpa using hs, ?_⟩
    intro i x hx
    by_cases hik : i = k
    · subst hik
      rw [List.getElem?_set_self (by omega)] at hx
      injection hx with hx
      subst hx
      rw [Array.getElem?_setIfInBounds_self]
      simp
      omega
    · rw [List.getElem?_set_ne (by omega)] at hx
      rw [Array.getElem?_setIfInBounds_ne (by omega)]
      exact hr i x hx
theorem heldFree {w : World} {v : Value} {zs : List Int} (h : Held w v zs) {g : Nat} (hg : v.ownBlock = some g) (i : Nat) : w.frozen? ⟨g, i, none⟩ = false := by
  obtain ⟨cur, hc⟩ := h.type hg
  exact blk_free hc i

/-- The two lists that are written over, behind the world W. -/
structure Tail (W wr : World) (c r : Value) (m q : Nat) : Prop where
  kp : Keeps (fun k => W.heap.size ≤ k) W wr
  row : ∃ l : List Cl, l.length = m ∧ wr.ownsRow W.heap.size 49 7 c m (clVals l)
  held : ∃ zs : List Int, zs.length = q ∧ Held wr r zs
  low : ∀ g, r.ownBlock = some g → W.heap.size ≤ g
theorem Tail.apart {W wr : World} {c r : Value} {m q : Nat} (h : Tail W wr c r m q) {k : Nat} (h1 : c.ownBlock = some k) : r.ownBlock ≠ some k := by
  obtain ⟨l, _, hr⟩ := h.row
  obtain ⟨zs, _, hz⟩ := h.held
  intro h2
  obtain ⟨cur, hc⟩ := hz.type h2
  exact absurd (own_type hr h1 hc) (by decide)
theorem Tail.putC {W wr : World} {r : Value} {g cap m q : Nat} (h : Tail W wr (.slice (some ⟨g, 0, none⟩) m cap) r m q) {k : Nat} (hk : k < m) (x : Cl) :
    Tail W (set7 wr g (k * 7) x) (.slice (some ⟨g, 0, none⟩) m cap) r m q := by
  obtain ⟨l, hl, hr⟩ := h.row
  obtain ⟨zs, hz, hh⟩ := h.held
  exact ⟨h.kp.trans (keeps_set7 wr g (k * 7) x) (fun i e hi => by subst e; exact row_low hr rfl), ⟨l.set k x, by simpa using hl, row_set7 hr k (by omega) x⟩, ⟨zs, hz, hh.kept (keeps_set7 wr g (k * 7) x) (fun b e e2 => h.apart (k := g) rfl (e2 ▸ e))⟩, h.low⟩
theorem Tail.putR {W wr : World} {c : Value} {g off cap m q : Nat} (h : Tail W wr c (.slice (some ⟨g, off, none⟩) q cap) m q) {k : Nat} (hk : k < q) (z : Int) :
    Tail W (wr.setCell ⟨g, off + k, none⟩ (.int .i64 z)) c (.slice (some ⟨g, off, none⟩) q cap) m q := by
  obtain ⟨l, hl, hr⟩ := h.row
  obtain ⟨zs, hz, hh⟩ := h.held
  have hs : Keeps (· = g) wr (wr.setCell ⟨g, off + k, none⟩ (.int .i64 z)) := Keeps.setCell (S := (· = g)) wr (a := ⟨g, off + k, none⟩) rfl _
  exact ⟨h.kp.trans hs (fun i e hi => by subst e; exact h.low _ rfl), ⟨l, hl, row_kept hr hs (fun b e e2 => h.apart (k := b) e (e2 ▸ rfl))⟩, ⟨zs.set k z, by simpa using hz, heldPut hh hz.symm hk z⟩, h.low⟩
theorem Tail.moreC {W wr : World} {c r : Value} {m q : Nat} (h : Tail W wr c r m q) (x : Cl) (hm : m ≤ 40) :
    ∃ g cap w', (Builtin.append_ #[27, 27] 27 #[c, .slice (some ⟨wr.heap.size, 0, none⟩) 1 1]).run Try.prog (wr.alloc (.cells #[.int .i64 x.who, .int .i64 x.kind, .int .i64 x.arg, .int .i64 x.beg, .int .i64 x.fin, .int .i64 x.code, .int .i64 x.v] 49)) = .ok (.slice (some ⟨g, 0, none⟩) (m + 1) cap) w' ∧
      Tail W w' (.slice (some ⟨g, 0, none⟩) (m + 1) cap) r (m + 1) q := by
  obtain ⟨l, hl, hr⟩ := h.row
  obtain ⟨zs, hz, hh⟩ := h.held
  obtain ⟨g, cap, w', hrun, ho, hk, hm⟩ := call_more W.heap.size c l x m 27 wr hl.symm hr h.kp.size (by omega)
  exact ⟨g, cap, w', hrun, h.kp.trans hk (fun i e hi => row_low hr e), ⟨_, by simp [hl], ho⟩, ⟨zs, hz, hh.kept hk (fun b e e2 => h.apart e2 e)⟩, h.low⟩
theorem Tail.moreR {W wr : World} {c r : Value} {m q : Nat} (h : Tail W wr c r m q) (z : Int) (hq : q ≤ 40) :
    ∃ a' c' w', (Builtin.append_ #[28, 28] 28 #[r, .slice (some ⟨wr.heap.size, 0, none⟩) 1 1]).run Try.prog (wr.alloc (.cells #[.int .i64 z] 2)) = .ok (.slice a' (q + 1) c') w' ∧ Tail W w' c (.slice a' (q + 1) c') m (q + 1) := by
  obtain ⟨l, hl, hr⟩ := h.row
  obtain ⟨zs, hz, hh⟩ := h.held
  obtain ⟨v', w', hrun, hh', hk, hm⟩ := held_more r zs z 28 wr hh (by omega)
  obtain ⟨a', c', rfl, -⟩ := hh'.shape
  rw [show (zs ++ [z]).length = q + 1 by simp [hz]] at *
  refine ⟨a', c', w', hrun, h.kp.trans hk (fun i e hi => h.low i e), ⟨l, hl, row_kept hr hk (fun b e e2 => h.apart e e2)⟩, ⟨_, by simp [hz], hh'⟩, ?_⟩
  intro g e
  rcases hm with hm | ⟨g', e', hg'⟩
  · exact h.low g (hm.symm.trans e)
  · rw [e'] at e; injection e with e; have := h.kp.size; omega
theorem serC_length (l : List (Int × Int)) (most : Int) : (serC l most).length ≤ 40 ∧ (serZ l most).length ≤ 40 := by
  unfold serC serZ
  split
  · rename_i he
    have := (errS_zero he).1
    have h2 := serS_length most.toNat l l.length
    omega
  · simp

end Go.Proofs.Ytheginjjncnheaa
