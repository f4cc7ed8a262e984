import Derived.Test.YtlbkfehakomicaaDoorRows
import Derived.Test.YtlbkfehakomicaaDoorPkAA
import Derived.Test.YtlbkfehakomicaaDoorPkBA
import Derived.OwnWalk
import Derived.Deep.RegionHeld3
import Derived.Deep.QuietTactic
import Derived.Deep.DeepCutAuto
import Derived.BigQuiet
/-! Dags in memory: edges that can be read. -/
namespace Go.Proofs.YtlbkfehakomicaaDoor.Dg
set_option linter.unusedVariables false
set_option maxRecDepth 20000
open Go.RowKit Go.HeapKit

theorem blk_cell {w : World} {p : Nat} {c : Array Value} {t : TypeId} {fz : Nat × Nat} (h : w.heap[p]? = some (.cells c t fz)) (i : Nat) : w.cell? ⟨p, i, none⟩ = c[i]? := by
  simp [World.cell?, h]
theorem blk_free {w : World} {p : Nat} {c : Array Value} {t : TypeId} (h : w.heap[p]? = some (.cells c t (0, 0))) (i : Nat) : w.frozen? ⟨p, i, none⟩ = false := by
  simp [World.frozen?, h]
theorem blk_set {w : World} {p i : Nat} {c : Array Value} {t : TypeId} {fz : Nat × Nat} (h : w.heap[p]? = some (.cells c t fz)) (v : Value) :
    (w.setCell ⟨p, i, none⟩ v).heap[p]? = some (.cells (c.setIfInBounds i v) t fz) := by
  simp [World.setCell, Array.getElem?_modify, h]
theorem blk_lt {w : World} {p : Nat} {o : Obj} (h : w.heap[p]? = some o) : p < w.heap.size := (Array.getElem?_eq_some_iff.1 h).1
theorem blk_kept {w w' : World} {S : Nat → Prop} {p : Nat} {o : Obj} (h : w.heap[p]? = some o) (hk : Keeps S w w') (hS : ¬ S p) : w'.heap[p]? = some o := (hk.block p (blk_lt h) hS).trans h

def okI (x : Int) : Prop := -9223372036854775808 ≤ x ∧ x ≤ 9223372036854775807
def dagV (n : Int) (a : Option Addr) (m c : Nat) : Value := .agg #[.int .i64 n, .slice a m c]
/-- An edge lies there. -/
structure EdAt (w : World) (g o : Nat) (e : Ed) : Prop where
  f : w.cell? ⟨g, o, none⟩ = some (.int .i64 e.f)
  t : w.cell? ⟨g, o + 1, none⟩ = some (.int .i64 e.t)
structure SeenE (w : World) (a : Option Addr) (n : Nat) (l : List Ed) : Prop where
  len : n = l.length
  ex : 0 < n → ∃ b off, a = some ⟨b, off, none⟩ ∧ b < w.heap.size ∧ ∀ k i, l[k]? = some i → EdAt w b (off + k * 2) i
theorem EdAt.kept {w w' : World} {b o : Nat} {i : Ed} {S : Nat → Prop} (h : EdAt w b o i) (hk : Keeps S w w') (hS : ¬ S b) : EdAt w' b o i :=
  ⟨hk.cell h.f hS, hk.cell h.t hS⟩
theorem SeenE.kept {w w' : World} {S : Nat → Prop} {a : Option Addr} {n : Nat} {l : List Ed} (h : SeenE w a n l) (hk : Keeps S w w') (hS : ∀ x, a = some x → x.block < w.heap.size → ¬ S x.block) : SeenE w' a n l := by
  refine ⟨h.len, fun h0 => ?_⟩
  obtain ⟨b, off, rfl, hb, hc⟩ := h.ex h0
  exact ⟨b, off, rfl, Nat.lt_of_lt_of_le hb hk.size, fun k i hi => (hc k i hi).kept hk (hS _ rfl hb)⟩
theorem SeenE.more {w w' : World} {a : Option Addr} {n : Nat} {l : List Ed} (h : SeenE w a n l) (hk : Keeps None w w') : SeenE w' a n l := h.kept hk (fun _ _ _ f => f)
theorem SeenE.at {w : World} {a : Option Addr} {n : Nat} {l : List Ed} (h : SeenE w a n l) {k : Nat} (hk : k < n) : ∃ b off i, a = some ⟨b, off, none⟩ ∧ l[k]? = some i ∧ EdAt w b (off + k * 2) i := by
  obtain ⟨b, off, rfl, hb, hc⟩ := h.ex (by omega)
  have hl := h.len
  exact ⟨b, off, l[k]'(by omega), rfl, by simp, hc k _ (by simp)⟩
def edVals (l : List Ed) : List Value := l.flatMap (fun t => [Value.int .i64 t.f, .int .i64 t.t])
theorem edVals_length (l : List Ed) : (edVals l).length = l.length * 2 := by
  induction l with
  | nil => rfl
  | cons x l ih => simp only [edVals, List.flatMap_cons, List.length_append, List.length_cons, List.length_nil] at ih ⊢; omega
theorem edVals_append (a b : List Ed) : edVals (a ++ b) = edVals a ++ edVals b := by simp [edVals]
theorem edVals_one (l : List Ed) : ∀ u ∈ edVals l, u.oneCell' = true := by
  intro u hu
  simp only [edVals, List.mem_flatMap] at hu
  obtain ⟨e, _, h⟩ := hu
  simp at h
  rcases h with rfl | rfl <;> rfl
theorem edVals_at (l : List Ed) (k : Nat) (x : Ed) (h : l[k]? = some x) : (edVals l)[k * 2]? = some (.int .i64 x.f) ∧ (edVals l)[k * 2 + 1]? = some (.int .i64 x.t) := by
  induction l generalizing k with
  | nil => simp at h
  | cons y l ih =>
    have e : edVals (y :: l) = [Value.int .i64 y.f, .int .i64 y.t] ++ edVals l := rfl
    rw [e]
    cases k with
    | zero => simp at h; subst h; simp
    | succ k =>
      have := ih k (by simpa using h)
      rw [show (k + 1) * 2 = k * 2 + 2 by omega]
      simpa using this
/-- Edges in a block of our own, from its beginning on, with room for one more behind them. -/
structure OwnE (w : World) (g n : Nat) (l : List Ed) : Prop where
  ex : ∃ cur, w.heap[g]? = some (.cells cur 70 (0, 0)) ∧ n * 2 ≤ cur.size ∧ ∀ k i, l[k]? = some i → cur[k * 2]? = some (.int .i64 i.f) ∧ cur[k * 2 + 1]? = some (.int .i64 i.t)
  len : n = l.length
theorem OwnE.kept {w w' : World} {S : Nat → Prop} {g n : Nat} {l : List Ed} (h : OwnE w g n l) (hk : Keeps S w w') (hS : ¬ S g) : OwnE w' g n l := by
  obtain ⟨cur, hb, hs, hc⟩ := h.ex
  exact ⟨⟨cur, blk_kept hb hk hS, hs, hc⟩, h.len⟩
theorem OwnE.lt {w : World} {g n : Nat} {l : List Ed} (h : OwnE w g n l) : g < w.heap.size := by
  obtain ⟨cur, hb, _⟩ := h.ex
  exact blk_lt hb
theorem OwnE.at {w : World} {g n : Nat} {l : List Ed} (h : OwnE w g n l) {k : Nat} {i : Ed} (hk : l[k]? = some i) : EdAt w g (k * 2) i := by
  obtain ⟨cur, hb, _, hc⟩ := h.ex
  exact ⟨by rw [blk_cell hb]; exact (hc k i hk).1, by rw [blk_cell hb]; exact (hc k i hk).2⟩
theorem OwnE.free {w : World} {g n : Nat} {l : List Ed} (h : OwnE w g n l) (k : Nat) : w.frozen? ⟨g, k, none⟩ = false := by
  obtain ⟨cur, hb, _, hc⟩ := h.ex
  exact blk_free hb k
theorem OwnE.seen {w : World} {g n m : Nat} {l : List Ed} (h : OwnE w g n l) (hm : m ≤ n) : SeenE w (some ⟨g, 0, none⟩) m (l.take m) := by
  have hl := h.len
  refine ⟨by simp; omega, fun h0 => ⟨g, 0, rfl, h.lt, fun k i hi => ?_⟩⟩
  rw [Nat.zero_add]
  rw [List.getElem?_take] at hi
  split at hi
  · exact h.at hi
  · cases hi
theorem OwnE.set {w : World} {g n : Nat} {l : List Ed} (h : OwnE w g n l) (k : Nat) (x : Ed) (hk : k < n) : OwnE ((w.setCell ⟨g, k * 2, none⟩ (.int .i64 x.f)).setCell ⟨g, k * 2 + 1, none⟩ (.int .i64 x.t)) g n (l.set k x) := by
  obtain ⟨cur, hb, hs, hc⟩ := h.ex
  have hl := h.len
  refine ⟨⟨_, blk_set (blk_set hb _) _, by simp; omega, fun j i hi => ?_⟩, by simp; omega⟩
  rw [List.getElem?_set] at hi
  by_cases e : k = j
  · subst e
    rw [if_pos rfl, if_pos (by omega)] at hi
    injection hi with hi
    subst hi
    simp [Array.getElem?_setIfInBounds]
    omega
  · rw [if_neg e] at hi
    have := hc j i hi
    simp only [Array.getElem?_setIfInBounds]
    rw [if_neg (by omega), if_neg (by omega), if_neg (by omega), if_neg (by omega)]
    exact this
end Go.Proofs.YtlbkfehakomicaaDoor.Dg
/-! Rows of edges of our own. -/
namespace Go.Proofs.YtlbkfehakomicaaDoor.Dg
set_option linter.unusedVariables false
set_option maxRecDepth 20000
open Go.RowKit Go.HeapKit

theorem blk_new (w : World) (o : Obj) (n : Nat) (hn : w.heap.size = n) : (w.alloc o).heap[n]? = some o := by subst hn; exact heap_alloc_new w o
theorem row_shape {w : World} {base : Nat} {e : TypeId} {size : Nat} {v : Value} {n : Nat} {xs : List Value} (h : w.ownsRow base e size v n xs) : ∃ ao cap, v = .slice ao n cap := by
  rcases h.2 with ⟨rfl, rfl⟩ | ⟨g, cap, cur, rfl, _⟩
  · exact ⟨none, 0, rfl⟩
  · exact ⟨_, cap, rfl⟩
theorem row_base {w : World} {base base' : Nat} {e : TypeId} {size : Nat} {v : Value} {n : Nat} {xs : List Value} (h : w.ownsRow base e size v n xs) (hb : base' ≤ base) : w.ownsRow base' e size v n xs := by
  refine ⟨h.1, ?_⟩
  rcases h.2 with h | ⟨g, cap, cur, hv, hbg, r⟩
  · exact .inl h
  · exact .inr ⟨g, cap, cur, hv, Nat.le_trans hb hbg, r⟩
theorem row_low {w : World} {base : Nat} {e : TypeId} {size : Nat} {v : Value} {n : Nat} {xs : List Value} (h : w.ownsRow base e size v n xs) {g : Nat} (hg : v.ownBlock = some g) : base ≤ g := by
  rcases h.2 with ⟨rfl, rfl⟩ | ⟨g', cap, cur, rfl, hbg, r⟩
  · simp [Value.ownBlock] at hg
  · simp [Value.ownBlock] at hg; omega
/-- A row stands while its block does. -/
theorem row_kept {S : Nat → Prop} {w w' : World} {base : Nat} {e : TypeId} {size : Nat} {v : Value} {n : Nat} {xs : List Value} (ho : w.ownsRow base e size v n xs) (h : Keeps S w w') (hS : ∀ g, v.ownBlock = some g → ¬ S g) : w'.ownsRow base e size v n xs := h.own ho hS
theorem row_nil (w : World) (base : Nat) (e : TypeId) (size : Nat) : w.ownsRow base e size (.slice none 0 0) 0 [] := ⟨by simp, .inl ⟨rfl, rfl⟩⟩

theorem row_set {w : World} {base : Nat} {e : TypeId} {size g n cap : Nat} {xs : List Value} (h : w.ownsRow base e size (.slice (some ⟨g, 0, none⟩) n cap) n xs) (k : Nat) (v : Value) :
    (w.setCell ⟨g, k, none⟩ v).ownsRow base e size (.slice (some ⟨g, 0, none⟩) n cap) n (xs.set k v) := by
  rcases h.2 with ⟨h0, _⟩ | ⟨g', cap', cur, he, hb, hg, hn, hm, hcs, ht⟩
  · cases h0
  · injection he with e1 e2 e3
    injection e1 with e1
    injection e1 with e1
    subst e1 e3
    refine ⟨by simpa using h.1, .inr ⟨g, cap, cur.setIfInBounds k v, rfl, hb, blk_set hg v, hn, hm, by simpa using hcs, ?_⟩⟩
    rw [Array.toList_setIfInBounds, List.take_set, ht]
theorem keeps_one {w0 w : World} {g o : Nat} (h : Keeps (· = g) w0 w) (v : Value) : Keeps (· = g) w0 (w.setCell ⟨g, o, none⟩ v) := h.andSet (x := ⟨g, o, none⟩) (.inl rfl) v
theorem Tryd.infoEdge : (Tryd.prog.info? 70).map (fun i => (i.zero, i.size, i.bytes)) = some (some (.agg #[.int .i64 0, .int .i64 0]), 2, 16) := by kernel_rfl
/-- An element of a row of edges lies so, and may be written. -/
theorem ed_elem {w : World} {base : Nat} {a : Option Addr} {n c : Nat} {l : List Ed} {k : Nat} {x : Ed} (h : w.ownsRow base 70 2 (.slice a n c) n (edVals l)) (hx : l[k]? = some x) :
    ∃ g, a = some ⟨g, 0, none⟩ ∧ base ≤ g ∧ g < w.heap.size ∧ n ≤ c ∧ w.cell? ⟨g, k * 2, none⟩ = some (.int .i64 x.f) ∧ w.cell? ⟨g, k * 2 + 1, none⟩ = some (.int .i64 x.t) ∧ ∀ i, w.frozen? ⟨g, i, none⟩ = false := by
  have hlen : l.length * 2 = n * 2 := by have := h.1; rw [edVals_length] at this; exact this
  have hk := (List.getElem?_eq_some_iff.1 hx).1
  rcases h.2 with ⟨_, h1⟩ | ⟨g, cap, cur, hv, hbg, hg, hnc, hcm, hcs, htake⟩
  · omega
  · injection hv with e1 e2 e3
    subst e1 e3
    have hcell : ∀ j u, (edVals l)[j]? = some u → w.cell? ⟨g, j, none⟩ = some u := by
      intro j u this
      rw [blk_cell hg]
      rw [← htake, List.getElem?_take] at this
      split at this
      · simpa using this
      · cases this
    exact ⟨g, rfl, hbg, (Array.getElem?_eq_some_iff.1 hg).1, hnc, hcell _ _ (edVals_at l k x hx).1, hcell _ _ (edVals_at l k x hx).2, fun i => blk_free hg i⟩
/-- 'append(l, t)' of a edge. -/
theorem ed_more (base : Nat) (s : Value) (l : List Ed) (x : Ed) (n ty g0 : Nat) (w : World) (hn : n = l.length) (h : w.ownsRow base 70 2 s n (edVals l)) (hb : base ≤ w.heap.size) (hlen : (n + 1) * 16 ≤ 140737488355328)
    (hg0 : w.heap[g0]? = some (.cells #[.int .i64 x.f, .int .i64 x.t] 70 (0, 0))) :
    ∃ g cap w', (Builtin.append_ #[32, 32] ty #[s, .slice (some ⟨g0, 0, none⟩) 1 1]).run Tryd.prog w = .ok (.slice (some ⟨g, 0, none⟩) (n + 1) cap) w' ∧
      w'.ownsRow base 70 2 (.slice (some ⟨g, 0, none⟩) (n + 1) cap) (n + 1) (edVals (l ++ [x])) ∧ Keeps (fun k => s.ownBlock = some k) w w' ∧ (s.ownBlock = some g ∨ w.heap.size ≤ g) := by
  obtain ⟨i0, hi, hz0, hz1, hz2⟩ := info_parts Tryd.infoEdge
  obtain ⟨v', w1, hr, ho, hgr, hm, -⟩ := run_append_moved (P := Tryd.prog) w base 32 ty 70 i0 _ 2 16 Tryd.underlying32 hi hz0 hz1 hz2 rfl (by decide) s n _ h
    ⟨g0, 0, none⟩ 1 1 [.int .i64 x.f, .int .i64 x.t] rfl (by
      intro j u hu
      rw [show (⟨g0, 0, none⟩ : Addr).add j = ⟨g0, j, none⟩ by unfold Addr.add; split <;> simp_all, blk_cell hg0]
      simpa using hu) (by
      intro u hu
      simp at hu
      rcases hu with rfl | rfl <;> rfl) (by unfold maxLen; omega) hlen hb
  obtain ⟨g, cap, rfl⟩ : ∃ g cap, v' = .slice (some ⟨g, 0, none⟩) (n + 1) cap := by
    rcases ho.2 with ⟨_, h0⟩ | ⟨b, cap, cur, rfl, _⟩
    · omega
    · exact ⟨b, cap, rfl⟩
  refine ⟨g, cap, w1, hr, by rw [edVals_append]; exact ho, (Keeps.refl _ w).andGrown hgr (fun k e => .inl e), ?_⟩
  rcases hm with hm | ⟨g', e, hg⟩
  · exact .inl (hm.symm.trans rfl)
  · simp [Value.ownBlock] at e; exact .inr (by omega)
def set2 (w : World) (g o : Nat) (x : Ed) : World := (w.setCell ⟨g, o, none⟩ (.int .i64 x.f)).setCell ⟨g, o + 1, none⟩ (.int .i64 x.t)
theorem edVals_set (l : List Ed) (k : Nat) (x : Ed) (hk : k < l.length) : ((edVals l).set (k * 2) (.int .i64 x.f)).set (k * 2 + 1) (.int .i64 x.t) = edVals (l.set k x) := by
  induction l generalizing k with
  | nil => simp at hk
  | cons y l ih =>
    have e : edVals (y :: l) = [Value.int .i64 y.f, .int .i64 y.t] ++ edVals l := rfl
    cases k with
    | zero => rfl
    | succ k =>
      have h1 := ih k (by simpa using hk)
      have e2 : edVals ((y :: l).set (k + 1) x) = [Value.int .i64 y.f, .int .i64 y.t] ++ edVals (l.set k x) := rfl
      rw [e, e2, ← h1, show (k + 1) * 2 = k * 2 + 2 by omega]
      rfl
theorem row_set2 {w : World} {base : Nat} {g n cap : Nat} {l : List Ed} (h : w.ownsRow base 70 2 (.slice (some ⟨g, 0, none⟩) n cap) n (edVals l)) (k : Nat) (hk : k < l.length) (x : Ed) :
    (set2 w g (k * 2) x).ownsRow base 70 2 (.slice (some ⟨g, 0, none⟩) n cap) n (edVals (l.set k x)) := by
  rw [← edVals_set l k x hk]
  exact row_set (row_set h _ _) _ _
theorem keeps_set2 (w : World) (g o : Nat) (x : Ed) : Keeps (· = g) w (set2 w g o x) := keeps_one (keeps_one (Keeps.refl _ w) _) _
/-- A list of edges of the law's own, with a mark in the room behind it. -/
structure RoomE (w : World) (base g n cap : Nat) (l : List Ed) : Prop where
  len : n = l.length
  row : w.ownsRow base 70 2 (.slice (some ⟨g, 0, none⟩) (n + 1) cap) (n + 1) (edVals (l ++ [(⟨-77, 0⟩ : Ed)]))
section
variable {w w' : World} {base g n cap : Nat} {l : List Ed}
theorem RoomE.lt (h : RoomE w base g n cap l) : g < w.heap.size := own_lt h.row rfl
theorem RoomE.low (h : RoomE w base g n cap l) : base ≤ g := row_low h.row rfl
theorem RoomE.kept {S : Nat → Prop} (h : RoomE w base g n cap l) (hk : Keeps S w w') (hS : ¬ S g) : RoomE w' base g n cap l :=
  ⟨h.len, row_kept h.row hk (fun k e => by simp [Value.ownBlock] at e; subst e; exact hS)⟩
theorem RoomE.at (h : RoomE w base g n cap l) {k : Nat} {x : Ed} (hx : (l ++ [(⟨-77, 0⟩ : Ed)])[k]? = some x) : w.cell? ⟨g, k * 2, none⟩ = some (.int .i64 x.f) ∧ w.cell? ⟨g, k * 2 + 1, none⟩ = some (.int .i64 x.t) ∧ ∀ i, w.frozen? ⟨g, i, none⟩ = false := by
  obtain ⟨g', e, _, _, _, h1, h2, h3⟩ := ed_elem h.row hx
  injection e with e
  injection e with e
  subst e
  exact ⟨h1, h2, h3⟩
theorem RoomE.seen (h : RoomE w base g n cap l) : SeenE w (some ⟨g, 0, none⟩) n l := by
  refine ⟨h.len, fun h0 => ⟨g, 0, rfl, h.lt, fun k x hx => ?_⟩⟩
  obtain ⟨h1, h2, _⟩ := h.at (k := k) (x := x) (by rw [List.getElem?_append_left (List.getElem?_eq_some_iff.1 hx).1]; exact hx)
  rw [Nat.zero_add]
  exact ⟨h1, h2⟩
theorem RoomE.fits (h : RoomE w base g n cap l) : n + 1 ≤ cap := by
  rcases h.row.2 with ⟨e, _⟩ | ⟨g', cap', cur, e, _, _, hn, _⟩
  · cases e
  · injection e with _ _ e; subst e; exact hn
theorem RoomE.mark (h : RoomE w base g n cap l) : w.cell? ⟨g, n * 2, none⟩ = some (.int .i64 (-77)) := (h.at (k := n) (x := (⟨-77, 0⟩ : Ed)) (by rw [h.len]; simp)).1
theorem RoomE.put (h : RoomE w base g n cap l) {k : Nat} (hk : k < n) (x : Ed) : RoomE (set2 w g (k * 2) x) base g n cap (l.set k x) := by
  refine ⟨by simpa using h.len, ?_⟩
  have := row_set2 h.row k (by simp; have := h.len; omega) x
  rwa [List.set_append_left _ _ (by have := h.len; omega)] at this
end
end Go.Proofs.YtlbkfehakomicaaDoor.Dg
/-! Check: the program's and the document's. -/
namespace Go.Proofs.YtlbkfehakomicaaDoor.Dg
set_option linter.unusedVariables false
set_option maxRecDepth 20000
open Go.RowKit Go.HeapKit

theorem keeps1 (w : World) (a : Obj) : Keeps None w (w.alloc a) := (Keeps.refl _ _).andAlloc _
theorem check_bad {n : Int} {l : List Ed} {i : Nat} {e : Ed} (he : l[i]? = some e) (hb : edBad n e = true) : (if l.any (edBad n) then (71 : Int) else 0) = 71 := by
  rw [if_pos]
  exact List.any_eq_true.2 ⟨e, List.mem_of_getElem? he, hb⟩
theorem check_good {n : Int} {l : List Ed} {m : Nat} (hm : m = l.length) (hg : ∀ k e, k < m → l[k]? = some e → edBad n e = false) : (if l.any (edBad n) then (71 : Int) else 0) = 0 := by
  rw [if_neg]
  intro h
  obtain ⟨e, he, hb⟩ := List.any_eq_true.1 h
  obtain ⟨k, hk, rfl⟩ := List.mem_iff_getElem.1 he
  have := hg k l[k] (by omega) (List.getElem?_eq_getElem hk)
  rw [hb] at this
  cases this
theorem check_more {n : Int} {l : List Ed} {i : Nat} {e : Ed} (he : l[i]? = some e) (hb : edBad n e = false) (hg : ∀ k e, k < i → l[k]? = some e → edBad n e = false) : ∀ k e, k < i + 1 → l[k]? = some e → edBad n e = false := by
  intro k e' hk hk2
  by_cases h : k = i
  · subst h
    rw [he] at hk2
    injection hk2 with hk2
    subst hk2
    exact hb
  · exact hg k e' (by omega) hk2
theorem check_any (n : Int) (a : Option Addr) (m c : Nat) (l : List Ed) (w : World) (h : SeenE w a m l) (hs : m * 16 ≤ 140737488351232) :
    Calls Tryd.prog 33 #[dagV n a m c] w fun e w' => e = .returned (.int .i64 (checkV n l)) ∧ Keeps None w w' := by
  have hl : Hid (m = l.length) := h.len
  unfold dagV
  by_cases c1 : n < 0
  · go_enter Tryd.func33, Tryd.ntmps33
    go_wp2_with fail
    go_ret
    exact ⟨by simp [checkV, c1], keeps1 _ _⟩
  · by_cases c2 : 4096 < n
    · go_enter Tryd.func33, Tryd.ntmps33
      go_wp2_with fail
      go_ret
      exact ⟨by simp [checkV, c2], keeps1 _ _⟩
    · by_cases c3 : 16384 < m
      · have c3' : (16384 : Int) < (m : Int) := by omega
        have E : Hid (checkV n l = 2) := by
          have := hl.out
          show _ = _
          rw [checkV, if_neg (by omega), if_pos (by omega)]
        generalize checkV n l = q at E ⊢
        go_enter Tryd.func33, Tryd.ntmps33
        go_wp2_with fail
        go_ret
        exact ⟨by rw [E.out]; rfl, keeps1 _ _⟩
      · have c3' : ¬ (16384 : Int) < (m : Int) := by omega
        have E : Hid (checkV n l = if l.any (edBad n) then 71 else 0) := by
          have := hl.out
          show _ = _
          rw [checkV, if_neg (by omega), if_neg (by omega)]
        generalize checkV n l = q at E ⊢
        go_enter Tryd.func33, Tryd.ntmps33
        go_wp2_with fail
        go_loopw [20, 4] (fun s20 _ wr => ∃ i : Nat, s20 = .int .i64 i ∧ i ≤ m ∧ wr.heap[w.heap.size]? = some (.cells #[.int .i64 n, .slice a m c] 34 (0, 0)) ∧ Keeps None w wr ∧ ∀ k e, k < i → l[k]? = some e → edBad n e = false) (fun s20 _ _ => m - (intOf s20).toNat)
        case atStart => exact ⟨0, rfl, by omega, heap_alloc_new w _, keeps1 _ _, fun k e hk => by omega⟩
        case round =>
          obtain ⟨i, rfl, hi, hb, hk, hg⟩ := hrel
          have HG : Hid (∀ k e, k < i → l[k]? = some e → edBad n e = false) := hg
          clear hg
          have d0 := (blk_cell hb 0).trans rfl
          have d1 := (blk_cell hb 1).trans rfl
          by_cases hlt : i < m
          · have hlt' : (i : Int) < (m : Int) := by omega
            obtain ⟨b, off, e, rfl, he, hat⟩ := (h.more hk).at hlt
            have HE : Hid (l[i]? = some e) := he
            obtain ⟨ef, et⟩ := e
            have e0 := hat.f
            have e1 := hat.t
            simp only at e0 e1
            have m0 : ¬ m = 0 := by omega
            have d2 : (wr.alloc (Obj.cells #[.int .i64 ef, .int .i64 et] 70)).cell? ⟨w.heap.size, 0, none⟩ = some (.int .i64 n) := (keeps1 wr _).cell d0 (fun f => f)
            clear he hat
            by_cases b1 : ef < 0
            · go_wp2_with fail
              go_ret
              exact ⟨by rw [E.out, check_bad HE.out (by simp [edBad, b1])]; rfl, hk.andAlloc _⟩
            · by_cases b2 : et ≤ ef
              · go_wp2_with fail
                go_ret
                exact ⟨by rw [E.out, check_bad HE.out (by simp [edBad, b2])]; rfl, hk.andAlloc _⟩
              · by_cases b3 : n ≤ et
                · go_wp2_with fail
                  go_ret
                  exact ⟨by rw [E.out, check_bad HE.out (by simp [edBad, b3])]; rfl, hk.andAlloc _⟩
                · go_wp2_with fail
                  have hb' : edBad n ⟨ef, et⟩ = false := by simp [edBad]; omega
                  exact ⟨⟨i + 1, by simp, by omega, blk_kept hb (keeps1 wr _) (fun f => f), hk.andAlloc _, check_more HE.out hb' HG.out⟩, by simp [intOf]; omega⟩
          · have hlt' : ¬ (i : Int) < (m : Int) := by omega
            obtain rfl : i = m := by omega
            go_wp2_with fail
            go_ret
            exact ⟨by rw [E.out, check_good hl.out HG.out]; rfl, hk⟩
end Go.Proofs.YtlbkfehakomicaaDoor.Dg
/-! The law's own copy of a dag: the right edges written into it; whether the mark stands; two lists compared. -/
namespace Go.Proofs.YtlbkfehakomicaaDoor.Dg
set_option linter.unusedVariables false
set_option maxRecDepth 20000
open Go.RowKit Go.HeapKit

theorem take_setE {l l' : List Ed} {k : Nat} {x : Ed} (hx : l[k]? = some x) (hl : k < l'.length) : (l.take k ++ l'.drop k).set k x = l.take (k + 1) ++ l'.drop (k + 1) := by
  have hk := (List.getElem?_eq_some_iff.1 hx).1
  rw [List.set_append_right _ _ (by simp; omega), List.length_take, Nat.min_eq_left (by omega), Nat.sub_self, List.take_add_one, hx, List.drop_eq_getElem_cons hl, List.set_cons_zero]
  simp
theorem blk_old2 {w : World} {g : Nat} {ob : Obj} (h : w.heap[g]? = some ob) (o : Obj) : (w.alloc o).heap[g]? = some ob := blk_kept h (Keeps.alloc None w o) (fun f => f)
theorem Keeps.drewN (S : Nat → Prop) (w : World) (m : Nat) : Keeps S w (w.drewN m) := by
  induction m with
  | zero => exact Keeps.refl _ _
  | succ m ih => exact ih.andDrew
theorem drew4 {w wr : World} {s0 base g m cap : Nat} {o1 o2 : Obj} {l : List Ed} (h : wr.heap[s0]? = some o1 ∧ wr.heap[s0 + 1]? = some o2 ∧ RoomE wr base g m cap l ∧ Keeps (· = g) w wr) :
    wr.drew.heap[s0]? = some o1 ∧ wr.drew.heap[s0 + 1]? = some o2 ∧ RoomE wr.drew base g m cap l ∧ Keeps (· = g) w wr.drew :=
  ⟨h.1, h.2.1, h.2.2.1.kept (Keeps.drew None _) (fun f => f), h.2.2.2.andDrew⟩
end Go.Proofs.YtlbkfehakomicaaDoor.Dg
/-! The law's own copy of a dag: with other edges and a mark behind them, then with the right ones. -/
namespace Go.Proofs.YtlbkfehakomicaaDoor.Dg
set_option linter.unusedVariables false
set_option maxRecDepth 20000
open Go.RowKit Go.HeapKit

def mvE (e : Ed) : Ed := ⟨e.f, IntKind.i64.wrap (e.t + 1)⟩
theorem keeps3 (w : World) (a b c : Obj) : Keeps None w (((w.alloc a).alloc b).alloc c) := (((Keeps.refl _ _).andAlloc _).andAlloc _).andAlloc _
theorem results_row {P : Program} {fn : Func} {q : Tmp} {ty : TypeId} (h : fn.results = #[.cell q ty]) {tmps : Array Value} {w : World} {g : Nat} (ha : tmps.getD q undef = .pointer (some ⟨g, 0, none⟩)) {v : Value}
    (hl : (loadVar ty ⟨g, 0, none⟩).run P w = .ok v w) : (results fn tmps).run P w = .ok v w := by
  have ha' : tmps[q]?.getD undef = .pointer (some ⟨g, 0, none⟩) := by simpa using ha
  simp [results, h, ha', asAddr, hl]
theorem dag_end {Q : Ending → World → Prop} {a : Act} {w1 : World} {g : Nat} {c : Array Value} {t : TypeId} {fn : Func} (q : Tmp) (hfn : fn.results = #[.cell q 34]) (hc : c.size = 2) (hb : w1.heap[g]? = some (.cells c t (0, 0)))
    (ha : a.tmps.getD q undef = .pointer (some ⟨g, 0, none⟩)) (hd : a.defers = []) (v0 v1 : Value)
    (hQ : ∀ w', Keeps (· = g) w1 w' → Q (.returned (.agg #[v0, v1])) w') :
    bodyPost Tryd.prog fn Q .ret a ((w1.setCell ⟨g, 0, none⟩ v0).setCell ⟨g, 1, none⟩ v1) := by
  have hb2 := blk_set (i := 1) (blk_set (i := 0) hb v0) v1
  have hc3 : (c.setIfInBounds 0 v0).setIfInBounds 1 v1 = #[v0, v1] := by
    obtain ⟨l⟩ := c
    match l, hc with
    | [_, _], _ => rfl
  rw [hc3] at hb2
  refine bodyPost_ret (results_row (q := q) (ty := 34) hfn ha (run_loadVar_row _ g t 34 _ _ _ hb2 Tryd.underlying34 rfl (by kernel_rfl))) hd ?_
  exact hQ _ ((Keeps.setCell (S := (· = g)) w1 (a := ⟨g, 0, none⟩) rfl _).andSet (x := ⟨g, 1, none⟩) (.inl rfl) _)
theorem blk_old {w : World} {g : Nat} {ob : Obj} (h : w.heap[g]? = some ob) (o : Obj) : (w.alloc o).heap[g]? = some ob := blk_kept h (Keeps.alloc None w o) (fun f => f)
end Go.Proofs.YtlbkfehakomicaaDoor.Dg
/-! A row of lists of numbers. -/
namespace Go.Proofs.YtlbkfehakomicaaDoor.Dg
set_option linter.unusedVariables false
set_option maxRecDepth 20000
open Go.RowKit Go.HeapKit

def iv (l : List Int) : List Value := l.map (Value.int .i64)
theorem iv_len (l : List Int) : (iv l).length = l.length := by simp [iv]
theorem Tryd.infoInt : (Tryd.prog.info? 3).map (fun i => (i.zero, i.size, i.bytes)) = some (some (.int .i64 0), 1, 8) := by kernel_rfl
theorem Tryd.infoInts : (Tryd.prog.info? 41).map (fun i => (i.zero, i.size, i.bytes)) = some (some (.slice none 0 0), 1, 24) := by kernel_rfl
/-- 'append(l, x)' of a number. -/
theorem int_more (base : Nat) (s : Value) (l : List Int) (x : Int) (n ty g0 : Nat) (w : World) (hn : n = l.length) (h : w.ownsRow base 3 1 s n (iv l)) (hb : base ≤ w.heap.size) (hlen : (n + 1) * 8 ≤ 140737488355328)
    (hg0 : w.heap[g0]? = some (.cells #[.int .i64 x] 3 (0, 0))) :
    ∃ g cap w', (Builtin.append_ #[41, 41] ty #[s, .slice (some ⟨g0, 0, none⟩) 1 1]).run Tryd.prog w = .ok (.slice (some ⟨g, 0, none⟩) (n + 1) cap) w' ∧
      w'.ownsRow base 3 1 (.slice (some ⟨g, 0, none⟩) (n + 1) cap) (n + 1) (iv (l ++ [x])) ∧ Keeps (fun k => s.ownBlock = some k) w w' ∧ (s.ownBlock = some g ∨ w.heap.size ≤ g) := by
  obtain ⟨i0, hi, hz0, hz1, hz2⟩ := info_parts Tryd.infoInt
  obtain ⟨v', w1, hr, ho, hgr, hm, -⟩ := run_append_moved (P := Tryd.prog) w base 41 ty 3 i0 _ 1 8 Tryd.underlying41 hi hz0 hz1 hz2 rfl (by decide) s n _ h
    ⟨g0, 0, none⟩ 1 1 [.int .i64 x] rfl (by
      intro j u hu
      rw [show (⟨g0, 0, none⟩ : Addr).add j = ⟨g0, j, none⟩ by unfold Addr.add; split <;> simp_all, blk_cell hg0]
      simpa using hu) (by
      intro u hu
      simp at hu
      subst hu; rfl) (by unfold maxLen; omega) hlen hb
  obtain ⟨g, cap, rfl⟩ : ∃ g cap, v' = .slice (some ⟨g, 0, none⟩) (n + 1) cap := by
    rcases ho.2 with ⟨_, h0⟩ | ⟨b, cap, cur, rfl, _⟩
    · omega
    · exact ⟨b, cap, rfl⟩
  refine ⟨g, cap, w1, hr, by simpa [iv] using ho, (Keeps.refl _ w).andGrown hgr (fun k e => .inl e), ?_⟩
  rcases hm with hm | ⟨g', e, hg⟩
  · exact .inl (hm.symm.trans rfl)
  · simp [Value.ownBlock] at e; exact .inr (by omega)
/-- n lists of numbers, in rows of their own. -/
structure IsL (w : World) (base g n : Nat) (vs : Nat → Value) (L : Nat → List Int) : Prop where
  outer : w.heap[g]? = some (.cells ((List.range n).map vs).toArray 41 (0, 0))
  low : base ≤ g
  rows : ∀ k, k < n → w.ownsRow base 3 1 (vs k) (L k).length (iv (L k))
  apart : ∀ i j b, i < n → j < n → i ≠ j → (vs i).ownBlock = some b → (vs j).ownBlock ≠ some b
theorem IsL.kept {S : Nat → Prop} {w w' : World} {base g n : Nat} {vs : Nat → Value} {L : Nat → List Int} (h : IsL w base g n vs L) (hk : Keeps S w w') (hS : ¬ S g) (hR : ∀ k b, k < n → (vs k).ownBlock = some b → ¬ S b) : IsL w' base g n vs L :=
  ⟨blk_kept h.outer hk hS, h.low, fun k hkn => row_kept (h.rows k hkn) hk (fun b e => hR k b hkn e), h.apart⟩
theorem IsL.more {w w' : World} {base g n : Nat} {vs : Nat → Value} {L : Nat → List Int} (h : IsL w base g n vs L) (hk : Keeps None w w') : IsL w' base g n vs L := h.kept hk (fun f => f) (fun _ _ _ _ f => f)
/-- Nothing but blocks that are new has been touched. -/
theorem IsL.below {w w' : World} {base g n B : Nat} {vs : Nat → Value} {L : Nat → List Int} (h : IsL w base g n vs L) (hk : Keeps (fun i => B ≤ i) w w') (hB : w.heap.size ≤ B) : IsL w' base g n vs L :=
  h.kept hk (fun e => by have := blk_lt h.outer; omega) (fun k b hkn e hle => by have := own_lt (h.rows k hkn) e; omega)
theorem range_at {α : Type} (n k : Nat) (O : Nat → α) (hk : k < n) : ((List.range n).map O).toArray[k]? = some (O k) := by
  simp [hk]
theorem range_set {α : Type} (n k : Nat) (O : Nat → α) (v : α) : (((List.range n).map O).toArray.setIfInBounds k v) = ((List.range n).map (fun j => if j = k then v else O j)).toArray := by
  apply Array.ext
  · simp
  · intro i h1 h2
    by_cases h : k = i
    · simp [h]
    · simp [h, Ne.symm h]
theorem made_one (z : Value) (hz : z.cells = #[z]) (n : Nat) : madeCells z.cells n = ((List.range n).map (fun _ => z)).toArray := by
  rw [hz]
  apply Array.ext
  · simp [madeCells]
  · intro i h1 h2
    simp [madeCells, Nat.mod_one]
theorem IsL.at {w : World} {base g n : Nat} {vs : Nat → Value} {L : Nat → List Int} (h : IsL w base g n vs L) {k : Nat} (hk : k < n) : w.cell? ⟨g, k, none⟩ = some (vs k) := by
  rw [blk_cell h.outer, range_at n k _ hk]
theorem IsL.start (w : World) (base n : Nat) (hb : base ≤ w.heap.size) : IsL (w.alloc (.cells ((List.range n).map (fun _ => Value.slice none 0 0)).toArray 41)) base w.heap.size n (fun _ => .slice none 0 0) (fun _ => []) :=
  ⟨blk_new _ _ _ rfl, hb, fun k _ => row_nil _ _ _ _, fun i j b _ _ _ e => by simp [Value.ownBlock] at e⟩
def upd {α : Type} (f : Nat → α) (k : Nat) (v : α) (j : Nat) : α := if j = k then v else f j
/-- 'ls[k] = append(ls[k], x)', of which the store is still to come. -/
theorem list_more {w : World} {base g n : Nat} {vs : Nat → Value} {L : Nat → List Int} (h : IsL w base g n vs L) (k : Nat) (hk : k < n) (x : Int) (ty g0 : Nat) (hb : base ≤ w.heap.size) (hlen : ((L k).length + 1) * 8 ≤ 140737488355328)
    (hg0 : w.heap[g0]? = some (.cells #[.int .i64 x] 3 (0, 0))) :
    ∃ b cap w', (Builtin.append_ #[41, 41] ty #[vs k, .slice (some ⟨g0, 0, none⟩) 1 1]).run Tryd.prog w = .ok (.slice (some ⟨b, 0, none⟩) ((L k).length + 1) cap) w' ∧ w'.cell? ⟨g, k, none⟩ = some (vs k) ∧ w'.frozen? ⟨g, k, none⟩ = false ∧ Keeps (fun i => (vs k).ownBlock = some i) w w' ∧
      IsL (w'.setCell ⟨g, k, none⟩ (.slice (some ⟨b, 0, none⟩) ((L k).length + 1) cap)) base g n (upd vs k (.slice (some ⟨b, 0, none⟩) ((L k).length + 1) cap)) (upd L k (L k ++ [x])) ∧ Keeps (fun i => base ≤ i) w (w'.setCell ⟨g, k, none⟩ (.slice (some ⟨b, 0, none⟩) ((L k).length + 1) cap)) := by
  obtain ⟨b, cap, w', hr, ho, hk2, hm⟩ := int_more base (vs k) (L k) x _ ty g0 w rfl (h.rows k hk) hb hlen hg0
  have hng : ∀ j b, j < n → (vs j).ownBlock = some b → b ≠ g := by
    intro j b hj e e2
    subst e2
    exact absurd (own_type (h.rows j hj) e h.outer) (by decide)
  have hgS : ¬ (vs k).ownBlock = some g := fun e => hng k g hk e rfl
  have hbg : b ≠ g := by
    rcases hm with e | e
    · exact hng k b hk e
    · have := blk_lt h.outer; omega
  have ho2 := blk_kept h.outer hk2 hgS
  have hkS : Keeps (· = g) w' (w'.setCell ⟨g, k, none⟩ (.slice (some ⟨b, 0, none⟩) ((L k).length + 1) cap)) := Keeps.setCell (S := (· = g)) w' rfl _
  refine ⟨_, _, w', hr, by rw [blk_cell ho2, range_at n k _ hk], blk_free ho2 k, hk2, ⟨?_, h.low, fun j hj => ?_, fun i j c hi hj hne e e2 => ?_⟩, ?_⟩
  · rw [blk_set ho2, range_set]
    rfl
  · by_cases e : j = k
    · subst e
      simp only [upd, if_true]
      have := row_kept ho hkS (fun c e => by simp [Value.ownBlock] at e; omega)
      simpa using this
    · simp only [upd, if_neg e]
      exact row_kept (row_kept (h.rows j hj) hk2 (fun c e1 e2 => h.apart j k c hj hk e e1 e2)) hkS (fun c e1 e2 => hng j c hj e1 e2)
  · by_cases e1 : i = k
    · subst e1
      simp only [upd, if_true, if_neg (Ne.symm hne)] at e e2
      have eb : b = c := by simpa [Value.ownBlock] using e
      rcases hm with e3 | e3
      · exact h.apart i j b hi hj hne e3 (eb ▸ e2)
      · have := own_lt (h.rows j hj) e2; omega
    · by_cases e4 : j = k
      · subst e4
        simp only [upd, if_true, if_neg hne] at e e2
        have eb : b = c := by simpa [Value.ownBlock] using e2
        rcases hm with e3 | e3
        · exact h.apart i j b hi hj hne (eb ▸ e) e3
        · have := own_lt (h.rows i hi) e; omega
      · simp only [upd, if_neg e1, if_neg e4] at e e2
        exact h.apart i j c hi hj hne e e2
  · exact (hk2.mono (fun i e _ => row_low (h.rows k hk) e)).trans hkS (fun i e _ => by subst e; exact h.low)
end Go.Proofs.YtlbkfehakomicaaDoor.Dg
/-! For each node those that it is ahead of; those that are ahead of it. -/
namespace Go.Proofs.YtlbkfehakomicaaDoor.Dg
set_option linter.unusedVariables false
set_option maxRecDepth 20000
open Go.RowKit Go.HeapKit

theorem make_lists (n : Nat) (w : World) (hn : n ≤ 4096) : (Instr.makeSlice 86 (.int .i64 n) (.int .i64 n)).run Tryd.prog w = .ok (.slice (some ⟨w.heap.size, 0, none⟩) n n) (w.alloc (.cells ((List.range n).map (fun _ => Value.slice none 0 0)).toArray 41)) := by
  obtain ⟨i0, hi, hz0, hz1, hz2⟩ := info_parts Tryd.infoInts
  obtain ⟨M, hM, _, hr⟩ := run_make_block (P := Tryd.prog) (w := w) 86 41 i0 _ 1 24 Tryd.underlying86 hi hz0 hz1 hz2 n (by omega) (by omega)
  rw [made_one _ rfl, Nat.mul_one] at hM
  rw [hr, hM]
theorem IsL.congr {w : World} {base g n : Nat} {vs : Nat → Value} {L L' : Nat → List Int} (h : IsL w base g n vs L) (e : ∀ k, k < n → L k = L' k) : IsL w base g n vs L' :=
  ⟨h.outer, h.low, fun k hk => by rw [← e k hk]; exact h.rows k hk, h.apart⟩
set_option maxHeartbeats 3200000 in
theorem flw_any (n : Nat) (a : Option Addr) (m c : Nat) (l : List Ed) (w : World) (h : SeenE w a m l) (hd : Dag (n : Int) l) :
    Calls Tryd.prog 52 #[dagV n a m c] w fun e w' => ∃ g vs, e = .returned (.slice (some ⟨g, 0, none⟩) n n) ∧ IsL w' w.heap.size g n vs (flw l) ∧ Keeps None w w' := by
  have HS : Hid (SeenE w a m l) := h
  have HD : Hid (Dag (n : Int) l) := hd
  have hl : Hid (m = l.length) := h.len
  have hn : n ≤ 4096 := by have := hd.hi; omega
  have hm : m ≤ 16384 := by have := hd.len; have := hl.out; omega
  clear h hd
  obtain ⟨s0, hs0⟩ : ∃ s0, s0 = w.heap.size := ⟨_, rfl⟩
  have HS0 : Hid (s0 = w.heap.size) := hs0
  have hmk := make_lists n (w.alloc (.cells #[.int .i64 n, .slice a m c] 34)) hn
  unfold dagV
  go_enter Tryd.func52, Tryd.ntmps52
  go_wp2_with (at_make; refine wpList_make_run rfl (.tmp 7) (.tmp 7) 86 rfl rfl rfl hmk ?_)
  clear hmk
  rw [← hs0]
  clear hs0
  go_loopw [12, 5] (fun s12 _ wr => ∃ (i : Nat) (vs : Nat → Value), s12 = .int .i64 i ∧ i ≤ m ∧ IsL wr s0 (s0 + 1) n vs (flw (l.take i)) ∧ Keeps None w wr) (fun s12 _ _ => m - (intOf s12).toNat)
  case atStart =>
    have e := HS0.out
    have hst := IsL.start (w.alloc (.cells #[.int .i64 n, .slice a m c] 34)) s0 n (by simp; omega)
    rw [show (w.alloc (.cells #[.int .i64 n, .slice a m c] 34)).heap.size = s0 + 1 by simp; omega] at hst
    exact ⟨0, _, rfl, Nat.zero_le _, hst.congr (fun k _ => by simp [flw]), ((Keeps.refl None w).andAlloc _).andAlloc _⟩
  case round =>
    obtain ⟨i, vs, rfl, hi, hL, hkp⟩ := hrel
    skip
    by_cases hlt : i < m
    · obtain ⟨b, off, e, rfl, he, hat⟩ := (HS.out.more hkp).at hlt
      have hok := HD.out.ok e (List.mem_of_getElem? he)
      have hs0 := HS0.out
      have hsz := hkp.size
      have e0 := hat.f
      have e1 := hat.t
      obtain ⟨ef, et⟩ := e
      simp only at e0 e1 hok
      obtain ⟨f, rfl⟩ := Int.eq_ofNat_of_zero_le hok.1
      obtain ⟨t, rfl⟩ := Int.eq_ofNat_of_zero_le (show 0 ≤ et by omega)
      have m0 : ¬ m = 0 := by omega
      have i1 : (i : Int) < (m : Int) := by omega
      have i2 : (f : Int) < (n : Int) := by omega
      have n0 : ¬ n = 0 := by omega
      have hkn : f < n := by omega
      have hll : (flw (l.take i) f).length ≤ 16384 := by
        have := flw_len (l.take i) f
        rw [List.length_take] at this
        have := hl.out
        omega
      obtain ⟨wa, hwa⟩ : ∃ wa, wa = wr.alloc (.cells #[.int .i64 f, .int .i64 t] 70) := ⟨_, rfl⟩
      have hwk : Keeps None wr wa := by rw [hwa]; exact Keeps.alloc None wr _
      have hLa := hL.more hwk
      have hws : wa.heap.size = wr.heap.size + 1 := by rw [hwa]; simp
      have f0 : wa.cell? ⟨wr.heap.size, 0, none⟩ = some (.int .i64 f) := by rw [hwa]; exact (blk_cell (blk_new wr (.cells #[.int .i64 f, .int .i64 t] 70) _ rfl) 0).trans rfl
      have f1 : wa.cell? ⟨wr.heap.size, 1, none⟩ = some (.int .i64 t) := by rw [hwa]; exact (blk_cell (blk_new wr (.cells #[.int .i64 f, .int .i64 t] 70) _ rfl) 1).trans rfl
      have g1 := hLa.at hkn
      have hDk : Keeps None wa (wa.drew.alloc (.cells #[.int .i64 t] 3)) := ((Keeps.refl None wa).andDrew).andAlloc _
      obtain ⟨vb, vc, w2, hr, y1, y2, hk3, hL2, hk2⟩ := list_more (hLa.more hDk) f hkn t 41 wa.heap.size (by simp; omega) (by omega) (blk_new _ _ _ (by simp))
      generalize hln : (flw (l.take i) f).length + 1 = ln at hr hL2 hk2
      have g2 : (wa.alloc (.cells #[.int .i64 t] 3)).cell? ⟨s0 + 1, f, none⟩ = some (vs f) := (Keeps.alloc None wa _).cell g1 (fun f => f)
      have f2 : (wa.alloc (.cells #[.int .i64 t] 3)).cell? ⟨wr.heap.size, 0, none⟩ = some (.int .i64 f) := (Keeps.alloc None wa _).cell f0 (fun f => f)
      have f3 : (wa.alloc (.cells #[.int .i64 t] 3)).cell? ⟨wr.heap.size, 1, none⟩ = some (.int .i64 t) := (Keeps.alloc None wa _).cell f1 (fun f => f)
      have hbe : wa.heap[wr.heap.size]? = some (.cells #[.int .i64 f, .int .i64 t] 70 (0, 0)) := by rw [hwa]; exact blk_new _ _ _ rfl
      have hbe2 := blk_kept hbe hDk (fun f => f)
      have f4 : w2.cell? ⟨wr.heap.size, 0, none⟩ = some (.int .i64 f) := (blk_cell (blk_kept hbe2 hk3 (fun e => absurd (own_type ((hLa.more hDk).rows f hkn) e hbe2) (by decide))) 0).trans rfl
      clear hbe hbe2
      have HN : Hid (IsL (w2.setCell ⟨s0 + 1, f, none⟩ (.slice (some ⟨vb, 0, none⟩) ln vc)) s0 (s0 + 1) n (upd vs f (.slice (some ⟨vb, 0, none⟩) ln vc)) (flw (l.take (i + 1))) ∧ Keeps None w (w2.setCell ⟨s0 + 1, f, none⟩ (.slice (some ⟨vb, 0, none⟩) ln vc))) := by
        refine ⟨hL2.congr (fun k _ => ?_), ((hkp.trans hwk (fun _ f _ => f)).trans hDk (fun _ f _ => f)).trans hk2 (fun j e hj => by omega)⟩
        rw [flw_take l i _ he]
        unfold upd
        simp only [Int.natCast_inj]
        by_cases e : k = f
        · subst e; simp
        · rw [if_neg e, if_neg (Ne.symm e)]
      skip
      obtain ⟨sa, sn, cs, hv⟩ : ∃ sa sn cs, vs f = .slice sa sn cs := by
        obtain ⟨ao, cp, e⟩ := row_shape (hL.rows f hkn)
        exact ⟨_, _, _, e⟩
      rw [hv] at hr y1 g1 g2
      clear hL hkp hL2 hk2 hDk hLa hwk he hat hok HS HD hv hll hln hk3 hsz hs0 
      go_upto_region 5 with fail
      rw [← hwa]
      clear hwa
      go_wp2_with fail
      go_region_law (refine step_append_run rfl (.tmp 23) (.tmp 26) 41 41 rfl (by simp [Act.eval]) (by simp [Act.eval]) hr ?_)
      all_goals (go_wp2_with fail; exact ⟨⟨i + 1, _, by go_num, by omega, HN.out⟩, by simp [intOf]; omega⟩)
    · have i1 : ¬ (i : Int) < (m : Int) := by omega
      obtain rfl : i = m := by omega
      have HN : Hid (IsL wr w.heap.size (s0 + 1) n vs (flw l) ∧ Keeps None w wr) := by
        rw [List.take_of_length_le (by have := hl.out; omega), HS0.out] at hL
        rw [HS0.out]
        exact ⟨hL, hkp⟩
      clear hL hkp
      go_wp2_with fail
      go_ret
      exact ⟨_, rfl, ⟨_, HN.out.1⟩, HN.out.2⟩
end Go.Proofs.YtlbkfehakomicaaDoor.Dg
