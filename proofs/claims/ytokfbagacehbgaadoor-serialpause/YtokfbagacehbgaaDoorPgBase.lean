import Derived.Test.YtokfbagacehbgaaDoorRows
import Derived.Test.YtokfbagacehbgaaDoorHeap
import Derived.Test.YtokfbagacehbgaaDoorPgPlain
/-! Programs in memory: instructions and functions that can be read; the two tables. -/
namespace Go.Proofs.YtokfbagacehbgaaDoor
set_option linter.unusedVariables false
set_option maxRecDepth 20000
open Go.RowKit Go.HeapKit

def insCells (i : Ins) : List Value := [.int .i64 i.kind, .int .i64 i.a, .int .i64 i.b, .int .i64 i.c, .int .i64 i.k]
def insV (i : Ins) : Value := .agg #[.int .i64 i.kind, .int .i64 i.a, .int .i64 i.b, .int .i64 i.c, .int .i64 i.k]
/-- An instruction lies there. -/
structure InsAt (w : World) (g o : Nat) (i : Ins) : Prop where
  kind : w.cell? ⟨g, o, none⟩ = some (.int .i64 i.kind)
  a : w.cell? ⟨g, o + 1, none⟩ = some (.int .i64 i.a)
  b : w.cell? ⟨g, o + 2, none⟩ = some (.int .i64 i.b)
  c : w.cell? ⟨g, o + 3, none⟩ = some (.int .i64 i.c)
  k : w.cell? ⟨g, o + 4, none⟩ = some (.int .i64 i.k)
structure SeenI (w : World) (a : Option Addr) (n : Nat) (l : List Ins) : Prop where
  len : n = l.length
  ex : 0 < n → ∃ b off, a = some ⟨b, off, none⟩ ∧ b < w.heap.size ∧ ∀ k i, l[k]? = some i → InsAt w b (off + k * 5) i
def fnV (f : Fn) (ca : Option Addr) (cc : Nat) : Value := .agg #[.int .i64 f.params, .int .i64 f.regs, .int .i64 f.slots, .slice ca f.code.length cc]
structure FnAt (w : World) (b o : Nat) (f : Fn) (ca : Option Addr) (cc : Nat) : Prop where
  params : w.cell? ⟨b, o, none⟩ = some (.int .i64 f.params)
  regs : w.cell? ⟨b, o + 1, none⟩ = some (.int .i64 f.regs)
  slots : w.cell? ⟨b, o + 2, none⟩ = some (.int .i64 f.slots)
  code : w.cell? ⟨b, o + 3, none⟩ = some (.slice ca f.code.length cc)
  seen : SeenI w ca f.code.length f.code
structure SeenF (w : World) (a : Option Addr) (n : Nat) (l : List Fn) : Prop where
  len : n = l.length
  ex : 0 < n → ∃ b off, a = some ⟨b, off, none⟩ ∧ b < w.heap.size ∧ ∀ k f, l[k]? = some f → ∃ ca cc, FnAt w b (off + k * 4) f ca cc
theorem InsAt.kept {w w' : World} {b o : Nat} {i : Ins} {S : Nat → Prop} (h : InsAt w b o i) (hk : Keeps S w w') (hS : ¬ S b) : InsAt w' b o i :=
  ⟨hk.cell h.kind hS, hk.cell h.a hS, hk.cell h.b hS, hk.cell h.c hS, hk.cell h.k hS⟩
theorem SeenI.more {w w' : World} {a : Option Addr} {n : Nat} {l : List Ins} (h : SeenI w a n l) (hk : Keeps None w w') : SeenI w' a n l := by
  refine ⟨h.len, fun h0 => ?_⟩
  obtain ⟨b, off, rfl, hb, hc⟩ := h.ex h0
  exact ⟨b, off, rfl, Nat.lt_of_lt_of_le hb hk.size, fun k i hi => (hc k i hi).kept hk (fun f => f)⟩
theorem FnAt.more {w w' : World} {b o : Nat} {f : Fn} {ca : Option Addr} {cc : Nat} (h : FnAt w b o f ca cc) (hk : Keeps None w w') : FnAt w' b o f ca cc :=
  ⟨hk.cell h.params (fun f => f), hk.cell h.regs (fun f => f), hk.cell h.slots (fun f => f), hk.cell h.code (fun f => f), h.seen.more hk⟩
theorem SeenF.more {w w' : World} {a : Option Addr} {n : Nat} {l : List Fn} (h : SeenF w a n l) (hk : Keeps None w w') : SeenF w' a n l := by
  refine ⟨h.len, fun h0 => ?_⟩
  obtain ⟨b, off, rfl, hb, hc⟩ := h.ex h0
  refine ⟨b, off, rfl, Nat.lt_of_lt_of_le hb hk.size, fun k f hf => ?_⟩
  obtain ⟨ca, cc, h1⟩ := hc k f hf
  exact ⟨ca, cc, h1.more hk⟩
theorem SeenI.at {w : World} {a : Option Addr} {n : Nat} {l : List Ins} (h : SeenI w a n l) {k : Nat} (hk : k < n) : ∃ b off i, a = some ⟨b, off, none⟩ ∧ l[k]? = some i ∧ InsAt w b (off + k * 5) i := by
  obtain ⟨b, off, rfl, hb, hc⟩ := h.ex (by omega)
  have hl := h.len
  exact ⟨b, off, l[k]'(by omega), rfl, by simp, hc k _ (by simp)⟩
theorem SeenF.at {w : World} {a : Option Addr} {n : Nat} {l : List Fn} (h : SeenF w a n l) {k : Nat} (hk : k < n) : ∃ b off f ca cc, a = some ⟨b, off, none⟩ ∧ l[k]? = some f ∧ FnAt w b (off + k * 4) f ca cc := by
  obtain ⟨b, off, rfl, hb, hc⟩ := h.ex (by omega)
  have hl := h.len
  obtain ⟨ca, cc, h1⟩ := hc k (l[k]'(by omega)) (by simp)
  exact ⟨b, off, l[k]'(by omega), ca, cc, rfl, by simp, h1⟩

/-- The table of the kinds, and the first point, lie where the program laid them. -/
def formCells : Array Value := #[.int .i64 1, .int .i64 0, .int .i64 0, .int .i64 0, .bool true, .int .i64 1, .int .i64 1, .int .i64 0, .int .i64 0, .bool true, .int .i64 1, .int .i64 1, .int .i64 1, .int .i64 6, .bool true,
  .int .i64 3, .int .i64 0, .int .i64 0, .int .i64 0, .bool false, .int .i64 1, .int .i64 3, .int .i64 0, .int .i64 0, .bool true, .int .i64 2, .int .i64 4, .int .i64 5, .int .i64 0, .bool true,
  .int .i64 0, .int .i64 0, .int .i64 0, .int .i64 0, .bool true, .int .i64 1, .int .i64 2, .int .i64 0, .int .i64 0, .bool true, .int .i64 1, .int .i64 0, .int .i64 0, .int .i64 0, .bool true,
  .int .i64 1, .int .i64 0, .int .i64 0, .int .i64 0, .bool false]
theorem Tryd.gForms : Tryd.prog.globalNamed "plunder/prog.forms" = some 0 := by kernel_rfl
theorem Tryd.gStart : Tryd.prog.globalNamed "plunder/prog.start" = some 1 := by kernel_rfl
structure Tabs (w : World) : Prop where
  forms : ∃ t fr, w.heap[0]? = some (.cells formCells t fr)
  start : ∃ t fr, w.heap[1]? = some (.cells #[.int .i64 0, .int .i64 1] t fr)
theorem Tabs.more {w w' : World} (h : Tabs w) (hk : Keeps None w w') : Tabs w' := by
  obtain ⟨t, fr, h1⟩ := h.forms
  obtain ⟨t2, fr2, h2⟩ := h.start
  exact ⟨⟨t, fr, (hk.block 0 (Array.getElem?_eq_some_iff.1 h1).1 (fun f => f)).trans h1⟩, ⟨t2, fr2, (hk.block 1 (Array.getElem?_eq_some_iff.1 h2).1 (fun f => f)).trans h2⟩⟩
theorem cell_of_heap {w : World} {g : Nat} {cs : Array Value} {t : TypeId} {fr : Nat × Nat} (h : w.heap[g]? = some (.cells cs t fr)) (j : Nat) : w.cell? ⟨g, j, none⟩ = cs[j]? := by
  simp [World.cell?, h]
theorem Tabs.at {w : World} (h : Tabs w) (n : Nat) (hn : n < 10) : w.cell? ⟨0, n * 5, none⟩ = some (.int .i64 (fA n)) ∧ w.cell? ⟨0, n * 5 + 1, none⟩ = some (.int .i64 (fB n)) ∧ w.cell? ⟨0, n * 5 + 2, none⟩ = some (.int .i64 (fC n)) ∧
    w.cell? ⟨0, n * 5 + 3, none⟩ = some (.int .i64 (fK n)) ∧ w.cell? ⟨0, n * 5 + 4, none⟩ = some (.bool (fN n)) := by
  obtain ⟨t, fr, h1⟩ := h.forms
  rw [cell_of_heap h1, cell_of_heap h1, cell_of_heap h1, cell_of_heap h1, cell_of_heap h1]
  have hd : ∀ n, n < 10 → formCells[n * 5]? = some (.int .i64 (fA n)) ∧ formCells[n * 5 + 1]? = some (.int .i64 (fB n)) ∧ formCells[n * 5 + 2]? = some (.int .i64 (fC n)) ∧ formCells[n * 5 + 3]? = some (.int .i64 (fK n)) ∧ formCells[n * 5 + 4]? = some (.bool (fN n)) := by
    intro n hn
    match n, hn with
    | 0, _ => exact ⟨rfl, rfl, rfl, rfl, rfl⟩
    | 1, _ => exact ⟨rfl, rfl, rfl, rfl, rfl⟩
    | 2, _ => exact ⟨rfl, rfl, rfl, rfl, rfl⟩
    | 3, _ => exact ⟨rfl, rfl, rfl, rfl, rfl⟩
    | 4, _ => exact ⟨rfl, rfl, rfl, rfl, rfl⟩
    | 5, _ => exact ⟨rfl, rfl, rfl, rfl, rfl⟩
    | 6, _ => exact ⟨rfl, rfl, rfl, rfl, rfl⟩
    | 7, _ => exact ⟨rfl, rfl, rfl, rfl, rfl⟩
    | 8, _ => exact ⟨rfl, rfl, rfl, rfl, rfl⟩
    | 9, _ => exact ⟨rfl, rfl, rfl, rfl, rfl⟩
    | n + 10, h => omega
  exact hd n hn
theorem Tabs.start0 {w : World} (h : Tabs w) : w.cell? ⟨1, 0, none⟩ = some (.int .i64 0) ∧ w.cell? ⟨1, 1, none⟩ = some (.int .i64 1) := by
  obtain ⟨t, fr, h1⟩ := h.start
  rw [cell_of_heap h1, cell_of_heap h1]
  exact ⟨rfl, rfl⟩

/-- What is thrown. -/
def faultV (e n a : Int) : Value := .agg #[.int .i64 e, .int .i64 n, .int .i64 a]
def thrown (e n a : Int) : List PanicEntry := [{ v := .iface 59 (faultV e n a), recovered := false }]

/-- All fields are numbers of 64 bits. -/
def okI (x : Int) : Prop := -9223372036854775808 ≤ x ∧ x ≤ 9223372036854775807
structure Ins.Ok (i : Ins) : Prop where
  kind : okI i.kind
  a : okI i.a
  b : okI i.b
  c : okI i.c
  k : okI i.k
structure Fn.Ok (f : Fn) : Prop where
  params : okI f.params
  regs : okI f.regs
  slots : okI f.slots
  code : ∀ i ∈ f.code, i.Ok
end Go.Proofs.YtokfbagacehbgaaDoor
