import Derived.Test.YtcjmceedkfjbeaaDoorRpFlow2
import Derived.Test.YtcjmceedkfjbeaaDoorPgCheck2
/-! What Check answers, phase by phase. -/
namespace Go.Proofs.YtcjmceedkfjbeaaDoor
set_option linter.unusedVariables false
set_option maxRecDepth 20000
open Go.RowKit Go.HeapKit

theorem check_count {l : List Fn} (h : l.length < 1 ∨ 32 < l.length) : checkV l = (50, 0, 0) := by unfold checkV; rw [if_pos h]
def ShapesTo (l : List Fn) (k : Nat) : Prop := ∀ j f, j < k → l[j]? = some f → shapeV f = true
def CodesTo (l : List Fn) (k : Nat) : Prop := ∀ j f, j < k → l[j]? = some f → codeFault false l f = none
def SlotsTo (l : List Fn) (k : Nat) : Prop := ∀ j f, j < k → l[j]? = some f → slotFault f = none
theorem check_shape {l : List Fn} {k : Nat} {f : Fn} (h0 : 1 ≤ l.length ∧ l.length ≤ 32) (hk : l[k]? = some f) (h1 : ShapesTo l k) (h2 : shapeV f = false) : checkV l = (51, (k : Int), 0) := by
  unfold checkV
  rw [if_neg (by omega), firstAt_some _ l 0 k f () hk (fun j y hj hy => by rw [h1 j y hj hy]; rfl) (by rw [h2]; rfl)]
  simp
theorem check_code {l : List Fn} {k : Nat} {f : Fn} {e x : Int} (h0 : 1 ≤ l.length ∧ l.length ≤ 32) (hk : l[k]? = some f) (h1 : ShapesTo l l.length) (h2 : CodesTo l k) (h3 : codeFault false l f = some (e, x)) : checkV l = (e, (k : Int), x) := by
  unfold checkV
  rw [if_neg (by omega), firstAt_none _ l 0 (fun j y hy => by rw [h1 j y (List.getElem?_eq_some_iff.1 hy).1 hy]; rfl)]
  simp only
  rw [firstAt_some _ l 0 k f (e, x) hk (fun j y hj hy => h2 j y hj hy) h3]
  simp
theorem check_slot {l : List Fn} {k : Nat} {f : Fn} {e x : Int} (h0 : 1 ≤ l.length ∧ l.length ≤ 32) (hk : l[k]? = some f) (h1 : ShapesTo l l.length) (h2 : CodesTo l l.length) (h4 : SlotsTo l k) (h3 : slotFault f = some (e, x)) : checkV l = (e, (k : Int), x) := by
  unfold checkV
  rw [if_neg (by omega), firstAt_none _ l 0 (fun j y hy => by rw [h1 j y (List.getElem?_eq_some_iff.1 hy).1 hy]; rfl)]
  simp only
  rw [firstAt_none _ l 0 (fun j y hy => h2 j y (List.getElem?_eq_some_iff.1 hy).1 hy)]
  simp only
  rw [firstAt_some _ l 0 k f (e, x) hk (fun j y hj hy => h4 j y hj hy) h3]
  simp
theorem check_good {l : List Fn} (h0 : 1 ≤ l.length ∧ l.length ≤ 32) (h1 : ShapesTo l l.length) (h2 : CodesTo l l.length) (h4 : SlotsTo l l.length) : checkV l = (0, 0, 0) := by
  unfold checkV
  rw [if_neg (by omega), firstAt_none _ l 0 (fun j y hy => by rw [h1 j y (List.getElem?_eq_some_iff.1 hy).1 hy]; rfl)]
  simp only
  rw [firstAt_none _ l 0 (fun j y hy => h2 j y (List.getElem?_eq_some_iff.1 hy).1 hy)]
  simp only
  rw [firstAt_none _ l 0 (fun j y hy => h4 j y (List.getElem?_eq_some_iff.1 hy).1 hy)]
theorem code_bad {fs : List Fn} {f : Fn} {j : Nat} {i : Ins} (hi : f.code[j]? = some i) (h0 : ∀ (q : Nat) y, q < j → f.code[q]? = some y → fitsV false fs f y = true) (h1 : fitsV false fs f i = false) : codeFault false fs f = some (52, (j : Int)) := by
  unfold codeFault
  rw [firstAt_some _ f.code 0 j i () hi (fun q y hq hy => by rw [h0 q y hq hy]; rfl) (by rw [h1]; rfl)]
  simp
theorem code_out {fs : List Fn} {f : Fn} (h0 : ∀ (q : Nat) y, f.code[q]? = some y → fitsV false fs f y = true) (h1 : runsOut f = true) : codeFault false fs f = some (53, (f.code.length : Int) - 1) := by
  unfold codeFault
  rw [firstAt_none _ f.code 0 (fun q y hy => by rw [h0 q y hy]; rfl)]
  simp [h1]
theorem slot_bad {f : Fn} {j : Nat} {i : Ins} (hi : f.code[j]? = some i) (h0 : ∀ (q : Nat) y, q < j → f.code[q]? = some y → misuseV y (rowV f q) = 0) (h1 : misuseV i (rowV f j) ≠ 0) : slotFault f = some (misuseV i (rowV f j), (j : Int)) := by
  unfold slotFault
  rw [firstAt_some _ f.code 0 j i (misuseV i (rowV f j)) hi (fun q y hq hy => by rw [Nat.zero_add, if_pos (h0 q y hq hy)]) (by rw [Nat.zero_add, if_neg h1])]
  simp
theorem slot_good {f : Fn} (h0 : ∀ (q : Nat) y, f.code[q]? = some y → misuseV y (rowV f q) = 0) : slotFault f = none := by
  unfold slotFault
  rw [firstAt_none _ f.code 0 (fun q y hy => by rw [Nat.zero_add, if_pos (h0 q y hy)])]
  rfl
/-- Check, under way: the program's box, the answer's. -/
structure CkIn (w wr : World) (B : Nat) (a : Option Addr) (n c : Nat) : Prop where
  keep : Keeps None w wr
  box : wr.heap[B]? = some (.cells #[.slice a n c] 25 (0, 0))
  ans : wr.heap[B + 1]? = some (.cells #[.int .i64 0, .int .i64 0, .int .i64 0] 31 (0, 0))
  low : w.heap.size ≤ B
theorem CkIn.more {w wr w' : World} {B : Nat} {a : Option Addr} {n c : Nat} (h : CkIn w wr B a n c) (hk : Keeps None wr w') : CkIn w w' B a n c :=
  ⟨h.keep.trans hk (fun _ f _ => f), blk_kept h.box hk (fun f => f), blk_kept h.ans hk (fun f => f), h.low⟩
theorem CkIn.put {w wr : World} {B : Nat} {a : Option Addr} {n c : Nat} (h : CkIn w wr B a n c) (e k x : Int) :
    (((wr.setCell ⟨B + 1, 0, none⟩ (.int .i64 e)).setCell ⟨B + 1, 1, none⟩ (.int .i64 k)).setCell ⟨B + 1, 2, none⟩ (.int .i64 x)).heap[B + 1]? = some (.cells #[.int .i64 e, .int .i64 k, .int .i64 x] 31 (0, 0)) ∧
    Keeps None w (((wr.setCell ⟨B + 1, 0, none⟩ (.int .i64 e)).setCell ⟨B + 1, 1, none⟩ (.int .i64 k)).setCell ⟨B + 1, 2, none⟩ (.int .i64 x)) := by
  have hk : Keeps (· = B + 1) wr _ := (((Keeps.refl (· = B + 1) wr).andSet (x := ⟨B + 1, 0, none⟩) (.inl rfl) (.int .i64 e)).andSet (x := ⟨B + 1, 1, none⟩) (.inl rfl) (.int .i64 k)).andSet (x := ⟨B + 1, 2, none⟩) (.inl rfl) (.int .i64 x)
  refine ⟨?_, h.keep.trans hk (fun i e hi => by have := h.low; omega)⟩
  rw [blk_set (blk_set (blk_set h.ans _) _) _]
  rfl
/-- The way out. -/
theorem CkIn.end_ {w wr : World} {B : Nat} {a : Option Addr} {n c : Nat} {l : List Fn} (h : CkIn w wr B a n c) {e k x : Int} (hv : checkV l = (e, k, x)) {tmps : Array Value} (ht : tmps.getD 2 undef = .pointer (some ⟨B + 1, 0, none⟩)) :
    bodyPost Tryd.prog Tryd.f29 (fun e w' => e = .returned (checkF l) ∧ Keeps None w w') .ret { tmps := tmps, defers := [] } (((wr.setCell ⟨B + 1, 0, none⟩ (.int .i64 e)).setCell ⟨B + 1, 1, none⟩ (.int .i64 k)).setCell ⟨B + 1, 2, none⟩ (.int .i64 x)) := by
  obtain ⟨h1, h2⟩ := h.put e k x
  exact fault_end rfl h1 ht rfl ⟨by unfold checkF; rw [hv], h2⟩
end Go.Proofs.YtcjmceedkfjbeaaDoor
