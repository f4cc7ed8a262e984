import Derived.Test.YtaipeclmfgdegaaHeap
/-! An arena: plainly, and how it lies in memory. -/
namespace Go.Proofs.Ytaipeclmfgdegaa
open Go.RowKit Go.HeapKit

structure Acc where
  who : Int
  kind : Int
  addr : Int
  a : Int
  b : Int
  ok : Bool
def Acc.vals (x : Acc) : List Value := [.int .i64 x.who, .int .i64 x.kind, .int .i64 x.addr, .int .i64 x.a, .int .i64 x.b, .bool x.ok]
theorem Acc.vals_length (x : Acc) : x.vals.length = 6 := rfl
def logVals (l : List Acc) : List Value := l.flatMap Acc.vals
theorem logVals_length (l : List Acc) : (logVals l).length = l.length * 6 := by
  induction l with
  | nil => rfl
  | cons x l ih => simp only [logVals, List.flatMap_cons, List.length_append, Acc.vals_length, List.length_cons] at ih ⊢; omega

structure Ar where
  size : Nat
  cells : List Int
  on : Bool
  actor : Int
  log : List Acc
def Ar.noted (A : Ar) (x : Acc) : Ar := if A.on then { A with log := A.log ++ [{ x with who := A.actor }] } else A
def Ar.put (A : Ar) (k : Nat) (v : Int) : Ar := { A with cells := A.cells.set k v }
def Ar.more (A : Ar) (n : Nat) : Ar := { A with cells := A.cells ++ List.replicate n 0 }

theorem setCell_block {w : World} {p i : Nat} {c : Array Value} {t : TypeId} {fz : Nat × Nat} (h : w.heap[p]? = some (.cells c t fz)) (v : Value) :
    (w.setCell ⟨p, i, none⟩ v).heap[p]? = some (.cells (c.setIfInBounds i v) t fz) := by
  simp [World.setCell, Array.getElem?_modify, h]
theorem cell_of_block {w : World} {p : Nat} {c : Array Value} {t : TypeId} {fz : Nat × Nat} (h : w.heap[p]? = some (.cells c t fz)) (i : Nat) : w.cell? ⟨p, i, none⟩ = c[i]? := by
  simp [World.cell?, h]
theorem free_of_block {w : World} {p : Nat} {c : Array Value} {t : TypeId} (h : w.heap[p]? = some (.cells c t (0, 0))) (i : Nat) : w.frozen? ⟨p, i, none⟩ = false := by
  simp [World.frozen?, h]

def Foot (p : Nat) (vc vl : Value) (k : Nat) : Prop := k = p ∨ vc.ownBlock = some k ∨ vl.ownBlock = some k

structure IsArena (w : World) (p : Nat) (vc vl : Value) (A : Ar) : Prop where
  blk : w.heap[p]? = some (.cells #[.int .i64 A.size, .int .i64 A.cells.length, vc, .bool A.on, .int .i64 A.actor, vl] 84 (0, 0))
  cells : w.ownsRow 0 2 1 vc A.cells.length (A.cells.map (Value.int .i64))
  log : w.ownsRow 0 89 6 vl A.log.length (logVals A.log)
  fit : A.cells.length ≤ A.size ∧ A.size ≤ 1048576

section
variable {w : World} {p : Nat} {vc vl : Value} {A : Ar}
theorem IsArena.lt (h : IsArena w p vc vl A) : p < w.heap.size := (Array.getElem?_eq_some_iff.1 h.blk).1
theorem IsArena.foot_lt (h : IsArena w p vc vl A) {k : Nat} (hk : Foot p vc vl k) : k < w.heap.size := by
  rcases hk with rfl | hk | hk
  · exact h.lt
  · exact own_lt h.cells hk
  · exact own_lt h.log hk
theorem IsArena.ncp (h : IsArena w p vc vl A) : vc.ownBlock ≠ some p := fun e => by
  have := own_type h.cells e h.blk
  exact absurd this (by decide)
theorem IsArena.nlp (h : IsArena w p vc vl A) : vl.ownBlock ≠ some p := fun e => by
  have := own_type h.log e h.blk
  exact absurd this (by decide)
theorem IsArena.ncl (h : IsArena w p vc vl A) {g : Nat} (hg : vc.ownBlock = some g) : vl.ownBlock ≠ some g := own_apart h.cells h.log (by decide) hg
theorem IsArena.c0 (h : IsArena w p vc vl A) : w.cell? ⟨p, 0, none⟩ = some (.int .i64 A.size) := by rw [cell_of_block h.blk]; rfl
theorem IsArena.c1 (h : IsArena w p vc vl A) : w.cell? ⟨p, 1, none⟩ = some (.int .i64 A.cells.length) := by rw [cell_of_block h.blk]; rfl
theorem IsArena.c2 (h : IsArena w p vc vl A) : w.cell? ⟨p, 2, none⟩ = some vc := by rw [cell_of_block h.blk]; rfl
theorem IsArena.c3 (h : IsArena w p vc vl A) : w.cell? ⟨p, 3, none⟩ = some (.bool A.on) := by rw [cell_of_block h.blk]; rfl
theorem IsArena.c4 (h : IsArena w p vc vl A) : w.cell? ⟨p, 4, none⟩ = some (.int .i64 A.actor) := by rw [cell_of_block h.blk]; rfl
theorem IsArena.c5 (h : IsArena w p vc vl A) : w.cell? ⟨p, 5, none⟩ = some vl := by rw [cell_of_block h.blk]; rfl
theorem IsArena.free (h : IsArena w p vc vl A) (i : Nat) : w.frozen? ⟨p, i, none⟩ = false := free_of_block h.blk i

theorem IsArena.kept {w' : World} {S : Nat → Prop} (h : IsArena w p vc vl A) (hk : Keeps S w w') (hS : ∀ k, Foot p vc vl k → ¬ S k) : IsArena w' p vc vl A :=
  ⟨(hk.block p h.lt (hS p (.inl rfl))).trans h.blk, hk.own h.cells (fun k e => hS k (.inr (.inl e))), hk.own h.log (fun k e => hS k (.inr (.inr e))), h.fit⟩
theorem IsArena.alloc (h : IsArena w p vc vl A) (o : Obj) : IsArena (w.alloc o) p vc vl A := h.kept (Keeps.alloc None w o) (fun _ _ f => f)
theorem IsArena.drew (h : IsArena w p vc vl A) : IsArena w.drew p vc vl A := h.kept (Keeps.drew None w) (fun _ _ f => f)

/-- A cell in use. -/
theorem IsArena.at (h : IsArena w p vc vl A) (k : Nat) (hk : k < A.cells.length) :
    ∃ g cap, vc = .slice (some ⟨g, 0, none⟩) A.cells.length cap ∧ A.cells.length ≤ cap ∧ g ≠ p ∧ w.cell? ⟨g, k, none⟩ = some (.int .i64 (A.cells.getD k 0)) ∧ w.frozen? ⟨g, k, none⟩ = false := by
  have hc := h.cells
  rcases hc.2 with ⟨_, h0⟩ | ⟨g, cap, cur, rfl, _, hg, hn, _, hcs, ht⟩
  · omega
  · refine ⟨g, cap, rfl, hn, fun e => h.ncp (by rw [← e]; rfl), ?_, free_of_block hg k⟩
    have hu := hc.cells (g := g) rfl k (.int .i64 (A.cells.getD k 0)) (by simp [List.getD, hk])
    rwa [show (⟨g, 0, none⟩ : Addr).add k = ⟨g, k, none⟩ by unfold Addr.add; split <;> simp_all] at hu

theorem own_set {w : World} {e : TypeId} {g n cap : Nat} {xs : List Value} (h : w.ownsRow 0 e 1 (.slice (some ⟨g, 0, none⟩) n cap) n xs) (k : Nat) (v : Value) :
    (w.setCell ⟨g, k, none⟩ v).ownsRow 0 e 1 (.slice (some ⟨g, 0, none⟩) n cap) n (xs.set k v) := by
  rcases h.2 with ⟨h0, _⟩ | ⟨g', cap', cur, he, hb, hg, hn, hm, hcs, ht⟩
  · cases h0
  · injection he with e1 e2 e3
    injection e1 with e1
    injection e1 with e1
    subst e1 e3
    refine ⟨by simpa using h.1, .inr ⟨g, cap, cur.setIfInBounds k v, rfl, hb, setCell_block hg v, hn, hm, by simpa using hcs, ?_⟩⟩
    rw [Array.toList_setIfInBounds, List.take_set, ht]

/-- A store into a cell in use. -/
theorem IsArena.put (h : IsArena w p vc vl A) (k : Nat) {g cap : Nat} (hv : vc = .slice (some ⟨g, 0, none⟩) A.cells.length cap) (v : Int) :
    IsArena (w.setCell ⟨g, k, none⟩ (.int .i64 v)) p vc vl (A.put k v) := by
  have hgp : g ≠ p := fun e => h.ncp (by rw [hv, ← e]; rfl)
  have hl : vl.ownBlock ≠ some g := h.ncl (by rw [hv]; rfl)
  have hkp : Keeps (· = g) w (w.setCell ⟨g, k, none⟩ (.int .i64 v)) := Keeps.setCell (S := (· = g)) w (a := ⟨g, k, none⟩) rfl _
  refine ⟨?_, ?_, hkp.own h.log (fun i hi e => hl (e ▸ hi)), by simpa [Ar.put] using h.fit⟩
  · rw [hkp.block p h.lt (fun e => hgp e.symm), h.blk]
    simp [Ar.put]
  · have := h.cells
    subst hv
    have := own_set this k (.int .i64 v)
    simpa [Ar.put, List.map_set] using this

/-- The log, one longer: behind the append (w1, v') and the store of the field. -/
theorem IsArena.logged {w1 : World} {vl' : Value} {x : Acc} {S : Nat → Prop} (h : IsArena w p vc vl A) (hk : Keeps S w w1) (hS : ∀ k, S k → vl.ownBlock = some k) (ho : w1.ownsRow 0 89 6 vl' (A.log.length + 1) (logVals A.log ++ x.vals)) :
    IsArena (w1.setCell ⟨p, 5, none⟩ vl') p vc vl' { A with log := A.log ++ [x] } := by
  have hb : w1.heap[p]? = _ := (hk.block p h.lt (fun s => h.nlp (hS p s))).trans h.blk
  have hkp : Keeps (· = p) w1 (w1.setCell ⟨p, 5, none⟩ vl') := Keeps.setCell (S := (· = p)) w1 (a := ⟨p, 5, none⟩) rfl _
  have hc1 : w1.ownsRow 0 2 1 vc A.cells.length (A.cells.map (Value.int .i64)) := hk.own h.cells (fun k e s => h.ncl e (hS k s))
  have hlp : ∀ k, vl'.ownBlock = some k → k ≠ p := fun k e e2 => by
    subst e2
    exact absurd (own_type ho e hb) (by decide)
  refine ⟨(setCell_block hb vl').trans rfl, hkp.own hc1 (fun k e e2 => h.ncp (e2 ▸ e)), ?_, h.fit⟩
  have := hkp.own ho hlp
  simpa [logVals] using this
end
end Go.Proofs.Ytaipeclmfgdegaa
