import Derived.Test.YtcjmceedkfjbeaaDoorRpBase2
import Derived.Test.YtcjmceedkfjbeaaDoorPgSlots
/-! The document's search of a slot's states. -/
namespace Go.Proofs.YtcjmceedkfjbeaaDoor
set_option linter.unusedVariables false
set_option maxRecDepth 20000
open Go.RowKit Go.HeapKit

theorem met_bool {n : Nat} {fr : List Pt} {p q here : Pt} (hp : PtOk n p) (hq : PtOk n q) (hl : fr.length = n * 5) (hh : here.2 ≠ 0) (hne : q ≠ p) : metV (fr.set (ptIx p) here) q = metV fr q := by
  have := met_set hp hq hl hh (fr := fr)
  cases h1 : metV fr q
  · cases h2 : metV (fr.set (ptIx p) here) q
    · rfl
    · rcases this.1 h2 with h | h
      · exact absurd h hne
      · rw [h1] at h; cases h
  · exact this.2 (.inr h1)
theorem sumAt_set {n : Nat} {fr : List Pt} (hb : Bare n fr) (hl : fr.length = n * 5) {a : Nat} {st : Int} {here : Pt} (hp : PtOk n ((a : Int), st)) (hh : here.2 ≠ 0) (hm : metV fr ((a : Int), st) = false) (k : Nat) (hk : k < n) :
    sumAt (fr.set (ptIx ((a : Int), st)) here) k = if k = a then sumAt fr k + st else sumAt fr k := by
  have ok : ∀ s : Int, s = 1 ∨ s = 2 ∨ s = 4 → PtOk n ((k : Int), s) := fun s hs => ⟨by simp, by simp; omega, hs⟩
  have hs : metV (fr.set (ptIx ((a : Int), st)) here) ((a : Int), st) = true := (met_set hp hp hl hh).2 (.inl rfl)
  rw [sum_at (hb.set hp) k hk, sum_at hb k hk]
  by_cases e : k = a
  · subst e
    rw [if_pos rfl]
    rcases hp.st with h | h | h
    · simp only at h
      subst h
      rw [met_bool hp (ok 2 (by simp)) hl hh (by simp), met_bool hp (ok 4 (by simp)) hl hh (by simp), hs, hm]
      simp
      omega
    · simp only at h
      subst h
      rw [met_bool hp (ok 1 (by simp)) hl hh (by simp), met_bool hp (ok 4 (by simp)) hl hh (by simp), hs, hm]
      simp
      omega
    · simp only at h
      subst h
      rw [met_bool hp (ok 2 (by simp)) hl hh (by simp), met_bool hp (ok 1 (by simp)) hl hh (by simp), hs, hm]
      simp
  · rw [if_neg e]
    have ne : ∀ s : Int, ((k : Int), s) ≠ ((a : Int), st) := fun s h => e (by simp at h; omega)
    rw [met_bool hp (ok 1 (by simp)) hl hh (ne 1), met_bool hp (ok 2 (by simp)) hl hh (ne 2), met_bool hp (ok 4 (by simp)) hl hh (ne 4)]
theorem and_met {n : Nat} {fr : List Pt} (hb : Bare n fr) (k : Nat) (hk : k < n) (st : Int) (hst : st = 1 ∨ st = 2 ∨ st = 4) : (bits BinOp.and .i64 (sumAt fr k) st == 0) = !metV fr ((k : Int), st) := by
  rw [sum_at hb k hk]
  rcases hst with rfl | rfl | rfl <;> cases metV fr (k, 1) <;> cases metV fr (k, 2) <;> cases metV fr (k, 4) <;> rfl
theorem sum_fr0 (n : Nat) (hn : 1 ≤ n) (k : Nat) (hk : k < n) : sumAt (fr0 n) k = if k = 0 then 1 else 0 := by
  have ok : ∀ s : Int, s = 1 ∨ s = 2 ∨ s = 4 → PtOk n ((k : Int), s) := fun s hs => ⟨by simp, by simp; omega, hs⟩
  have m : ∀ s : Int, s = 1 ∨ s = 2 ∨ s = 4 → metV (fr0 n) ((k : Int), s) = decide (k = 0 ∧ s = 1) := by
    intro s hs
    have := fr0_met hn (ok s hs)
    cases h : metV (fr0 n) ((k : Int), s)
    · symm
      rw [decide_eq_false_iff_not]
      rintro ⟨rfl, rfl⟩
      rw [this.2 rfl] at h
      cases h
    · symm
      rw [decide_eq_true_eq]
      have := this.1 h
      simp at this
      exact ⟨by omega, this.2⟩
  rw [sum_at (fr0_bare n hn) k hk, m 1 (by simp), m 2 (by simp), m 4 (by simp)]
  by_cases h : k = 0 <;> simp [h]
def sums (fr : List Pt) (n : Nat) : Array Value := ((List.range n).map (fun k => Value.int .i64 (sumAt fr k))).toArray
theorem sums_set {n : Nat} {fr : List Pt} (hb : Bare n fr) (hl : fr.length = n * 5) {a : Nat} {st : Int} {here : Pt} (hp : PtOk n ((a : Int), st)) (hh : here.2 ≠ 0) (hm : metV fr ((a : Int), st) = false) :
    (sums fr n).setIfInBounds a (.int .i64 (sumAt fr a + st)) = sums (fr.set (ptIx ((a : Int), st)) here) n := by
  unfold sums
  rw [range_set]
  congr 1
  apply List.map_congr_left
  intro j hj
  rw [sumAt_set hb hl hp hh hm j (List.mem_range.1 hj)]
  by_cases e : j = a
  · subst e; simp
  · simp [e]

/-- The search's memory: the function, what was met, the places, the states. -/
structure Srch (w wr : World) (B M n : Nat) (fv : Array Value) (fr : List Pt) (P S : List Int) (pv sv : Value) : Prop where
  keep : Keeps None w wr
  box : wr.heap[B]? = some (.cells fv 40 (0, 0))
  met : wr.heap[M]? = some (.cells (sums fr n) 3 (0, 0))
  pl : wr.ownsRow 0 3 1 pv P.length (P.map (Value.int .i64))
  st : wr.ownsRow 0 3 1 sv S.length (S.map (Value.int .i64))
  low : w.heap.size ≤ B
  lowM : w.heap.size ≤ M
  pne : pv.ownBlock ≠ some M
  sne : sv.ownBlock ≠ some M
  psn : ∀ g, pv.ownBlock = some g → sv.ownBlock ≠ some g
  plow : ∀ g, pv.ownBlock = some g → w.heap.size ≤ g
  slow : ∀ g, sv.ownBlock = some g → w.heap.size ≤ g
section
variable {w wr w' : World} {B M n : Nat} {fv : Array Value} {fr : List Pt} {P S : List Int} {pv sv : Value}
theorem Srch.more (h : Srch w wr B M n fv fr P S pv sv) (hk : Keeps None wr w') : Srch w w' B M n fv fr P S pv sv :=
  ⟨h.keep.trans hk (fun _ f _ => f), blk_kept h.box hk (fun f => f), blk_kept h.met hk (fun f => f), hk.own h.pl (fun _ _ f => f), hk.own h.st (fun _ _ f => f), h.low, h.lowM, h.pne, h.sne, h.psn, h.plow, h.slow⟩
theorem Srch.mark (h : Srch w wr B M n fv fr P S pv sv) (hb : Bare n fr) (hl : fr.length = n * 5) {a : Nat} {st : Int} {here : Pt} (hp : PtOk n ((a : Int), st)) (hh : here.2 ≠ 0) (hm : metV fr ((a : Int), st) = false) :
    Srch w (wr.setCell ⟨M, a, none⟩ (.int .i64 (sumAt fr a + st))) B M n fv (fr.set (ptIx ((a : Int), st)) here) P S pv sv := by
  have hk : Keeps (· = M) wr (wr.setCell ⟨M, a, none⟩ (.int .i64 (sumAt fr a + st))) := Keeps.setCell (S := (· = M)) wr rfl _
  refine ⟨h.keep.trans hk (fun i e hi => by have := h.lowM; omega), blk_kept h.box hk (blk_ne h.box h.met (by decide)), ?_, hk.own h.pl (fun g e q => h.pne (q ▸ e)), hk.own h.st (fun g e q => h.sne (q ▸ e)), h.low, h.lowM, h.pne, h.sne, h.psn, h.plow, h.slow⟩
  rw [blk_set h.met, sums_set hb hl hp hh hm]
theorem Srch.pushP (h : Srch w wr B M n fv fr P S pv sv) {x : Int} {g cap m : Nat} (hm : m = (P ++ [x]).length) (ho : w'.ownsRow 0 3 1 (.slice (some ⟨g, 0, none⟩) m cap) m ((P ++ [x]).map (Value.int .i64)))
    (hk : Keeps (fun k => pv.ownBlock = some k) wr w') (hg : pv.ownBlock = some g ∨ wr.heap.size ≤ g) : Srch w w' B M n fv fr (P ++ [x]) S (.slice (some ⟨g, 0, none⟩) m cap) sv := by
  subst hm
  have hM : g ≠ M := by
    rintro rfl
    rcases hg with e | e
    · exact h.pne e
    · have := blk_lt h.met; omega
  have hw : w.heap.size ≤ g := by
    rcases hg with e | e
    · exact h.plow g e
    · have := h.keep.size; omega
  refine ⟨h.keep.trans hk (fun i e hi => by have := h.plow i e; omega), blk_kept h.box hk (fun e => ?_), blk_kept h.met hk (fun e => h.pne e), ho, hk.own h.st (fun k e q => h.psn k q e), h.low, h.lowM, fun e => by simp [Value.ownBlock] at e; exact hM e, h.sne, fun k e q => ?_, fun k e => by simp [Value.ownBlock] at e; omega, h.slow⟩
  · have := own_type h.pl e h.box
    exact absurd this (by decide)
  · simp [Value.ownBlock] at e
    subst e
    rcases hg with e | e
    · exact h.psn _ e q
    · have := own_lt h.st q; omega
theorem Srch.pushS (h : Srch w wr B M n fv fr P S pv sv) {x : Int} {g cap m : Nat} (hm : m = (S ++ [x]).length) (ho : w'.ownsRow 0 3 1 (.slice (some ⟨g, 0, none⟩) m cap) m ((S ++ [x]).map (Value.int .i64)))
    (hk : Keeps (fun k => sv.ownBlock = some k) wr w') (hg : sv.ownBlock = some g ∨ wr.heap.size ≤ g) : Srch w w' B M n fv fr P (S ++ [x]) pv (.slice (some ⟨g, 0, none⟩) m cap) := by
  subst hm
  have hM : g ≠ M := by
    rintro rfl
    rcases hg with e | e
    · exact h.sne e
    · have := blk_lt h.met; omega
  have hw : w.heap.size ≤ g := by
    rcases hg with e | e
    · exact h.slow g e
    · have := h.keep.size; omega
  refine ⟨h.keep.trans hk (fun i e hi => by have := h.slow i e; omega), blk_kept h.box hk (fun e => ?_), blk_kept h.met hk (fun e => h.sne e), hk.own h.pl (fun k e q => h.psn k e q), ho, h.low, h.lowM, h.pne, fun e => by simp [Value.ownBlock] at e; exact hM e, fun k e q => ?_, h.plow, fun k e => by simp [Value.ownBlock] at e; omega⟩
  · have := own_type h.st e h.box
    exact absurd this (by decide)
  · simp [Value.ownBlock] at q
    subst q
    rcases hg with q | q
    · exact h.psn _ e q
    · have := own_lt h.pl e; omega
/-- A cell of a row of numbers. -/
theorem row_cell {w : World} {v : Value} {l : List Int} (h : w.ownsRow 0 3 1 v l.length (l.map (Value.int .i64))) {k : Nat} {x : Int} (hx : l[k]? = some x) : ∃ g cap, v = .slice (some ⟨g, 0, none⟩) l.length cap ∧ w.cell? ⟨g, k, none⟩ = some (.int .i64 x) := by
  have hk := (List.getElem?_eq_some_iff.1 hx).1
  rcases h.2 with ⟨rfl, h0⟩ | ⟨g, cap, cur, rfl, hb, hg, hn, hm, hc, ht⟩
  · omega
  · refine ⟨g, cap, rfl, ?_⟩
    rw [blk_cell hg]
    have : (l.map (Value.int .i64))[k]? = some (.int .i64 x) := by simp [hx]
    rw [← ht, List.getElem?_take, Nat.mul_one, if_pos hk] at this
    simpa using this
end
theorem row_made_n (w : World) (m : Nat) (hm : m ≤ 512) : (Instr.makeSlice 77 (.int .i64 m) (.int .i64 m)).run Tryd.prog w = .ok (.slice (some ⟨w.heap.size, 0, none⟩) m m) (w.alloc (.cells ((List.range m).map (fun _ => Value.int .i64 0)).toArray 3)) := by
  obtain ⟨i0, hi, hz0, hz1, hz2⟩ := info_parts Tryd.infoInt
  obtain ⟨M, hM, _, hr⟩ := run_make_block (P := Tryd.prog) (w := w) 77 3 i0 _ 1 8 Tryd.underlying77 hi hz0 hz1 hz2 m (by omega) (by omega)
  rw [hr, hM, Nat.mul_one, made_one _ rfl]
end Go.Proofs.YtcjmceedkfjbeaaDoor
