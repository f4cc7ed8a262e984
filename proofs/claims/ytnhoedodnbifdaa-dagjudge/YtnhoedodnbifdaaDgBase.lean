import Derived.Test.YtnhoedodnbifdaaRows
import Derived.Test.YtnhoedodnbifdaaHeap
import Derived.Test.YtnhoedodnbifdaaDgPlain
import Derived.OwnWalk
/-! Dags in memory: edges that can be read. -/
namespace Go.Proofs.Ytnhoedodnbifdaa
set_option linter.unusedVariables false
set_option maxRecDepth 20000
open Go.RowKit Go.HeapKit

theorem blk_cell {w : World} {p : Nat} {c : Array Value} {t : TypeId} {fz : Nat × Nat} (h : w.heap[p]? = some (.cells c t fz)) (i : Nat) : w.cell? ⟨p, i, none⟩ = c[i]? := by
  simp [World.cell?, h]
theorem blk_free {w : World} {p : Nat} {c : Array Value} {t : TypeId} (h : w.heap[p]? = some (.cells c t (0, 0))) (i : Nat) : w.frozen? ⟨p, i, none⟩ = false := by
  simp [World.frozen?, h]
theorem blk_set {w : World} {p i : Nat} {c : Array Value} {t : TypeId} {fz : Nat × Nat} (h : w.heap[p]? = some (.cells c t fz)) (v : Value) :
    (w.setCell ⟨p, i, none⟩ v).heap[p]? = some (.cells (c.setIfInBounds i v) t fz) := by
  simp [World.setCell, Array.getElem?_modify, h]
theorem blk_lt {w : World} {p : Nat} {o : Obj} (h : w.heap[p]? = some o) : p < w.heap.size := (Array.getElem?_eq_some_iff.1 h).1
theorem blk_kept {w w' : World} {S : Nat → Prop} {p : Nat} {o : Obj} (h : w.heap[p]? = some o) (hk : Keeps S w w') (hS : ¬ S p) : w'.heap[p]? = some o := (hk.block p (blk_lt h) hS).trans h

def okI (x : Int) : Prop := -9223372036854775808 ≤ x ∧ x ≤ 9223372036854775807
def dagV (n : Int) (a : Option Addr) (m c : Nat) : Value := .agg #[.int .i64 n, .slice a m c]
/-- An edge lies there. -/
structure EdAt (w : World) (g o : Nat) (e : Ed) : Prop where
  f : w.cell? ⟨g, o, none⟩ = some (.int .i64 e.f)
  t : w.cell? ⟨g, o + 1, none⟩ = some (.int .i64 e.t)
structure SeenE (w : World) (a : Option Addr) (n : Nat) (l : List Ed) : Prop where
  len : n = l.length
  ex : 0 < n → ∃ b off, a = some ⟨b, off, none⟩ ∧ b < w.heap.size ∧ ∀ k i, l[k]? = some i → EdAt w b (off + k * 2) i
theorem EdAt.kept {w w' : World} {b o : Nat} {i : Ed} {S : Nat → Prop} (h : EdAt w b o i) (hk : Keeps S w w') (hS : ¬ S b) : EdAt w' b o i :=
  ⟨hk.cell h.f hS, hk.cell h.t hS⟩
theorem SeenE.kept {w w' : World} {S : Nat → Prop} {a : Option Addr} {n : Nat} {l : List Ed} (h : SeenE w a n l) (hk : Keeps S w w') (hS : ∀ x, a = some x → x.block < w.heap.size → ¬ S x.block) : SeenE w' a n l := by
  refine ⟨h.len, fun h0 => ?_⟩
  obtain ⟨b, off, rfl, hb, hc⟩ := h.ex h0
  exact ⟨b, off, rfl, Nat.lt_of_lt_of_le hb hk.size, fun k i hi => (hc k i hi).kept hk (hS _ rfl hb)⟩
theorem SeenE.more {w w' : World} {a : Option Addr} {n : Nat} {l : List Ed} (h : SeenE w a n l) (hk : Keeps None w w') : SeenE w' a n l := h.kept hk (fun _ _ _ f => f)
theorem SeenE.at {w : World} {a : Option Addr} {n : Nat} {l : List Ed} (h : SeenE w a n l) {k : Nat} (hk : k < n) : ∃ b off i, a = some ⟨b, off, none⟩ ∧ l[k]? = some i ∧ EdAt w b (off + k * 2) i := by
  obtain ⟨b, off, rfl, hb, hc⟩ := h.ex (by omega)
  have hl := h.len
  exact ⟨b, off, l[k]'(by omega), rfl, by simp, hc k _ (by simp)⟩
def edVals (l : List Ed) : List Value := l.flatMap (fun t => [Value.int .i64 t.f, .int .i64 t.t])
theorem edVals_length (l : List Ed) : (edVals l).length = l.length * 2 := by
  induction l with
  | nil => rfl
  | cons x l ih => simp only [edVals, List.flatMap_cons, List.length_append, List.length_cons, List.length_nil] at ih ⊢; omega
theorem edVals_append (a b : List Ed) : edVals (a ++ b) = edVals a ++ edVals b := by simp [edVals]
theorem edVals_one (l : List Ed) : ∀ u ∈ edVals l, u.oneCell' = true := by
  intro u hu
  simp only [edVals, List.mem_flatMap] at hu
  obtain ⟨e, _, h⟩ := hu
  simp at h
  rcases h with rfl | rfl <;> rfl
theorem edVals_at (l : List Ed) (k : Nat) (x : Ed) (h : l[k]? = some x) : (edVals l)[k * 2]? = some (.int .i64 x.f) ∧ (edVals l)[k * 2 + 1]? = some (.int .i64 x.t) := by
  induction l generalizing k with
  | nil => simp at h
  | cons y l ih =>
    have e : edVals (y :: l) = [Value.int .i64 y.f, .int .i64 y.t] ++ edVals l := rfl
    rw [e]
    cases k with
    | zero => simp at h; subst h; simp
    | succ k =>
      have := ih k (by simpa using h)
      rw [show (k + 1) * 2 = k * 2 + 2 by omega]
      simpa using this
/-- Edges in a block of our own, from its beginning on, with room for one more behind them. -/
structure OwnE (w : World) (g n : Nat) (l : List Ed) : Prop where
  ex : ∃ cur, w.heap[g]? = some (.cells cur 52 (0, 0)) ∧ n * 2 ≤ cur.size ∧ ∀ k i, l[k]? = some i → cur[k * 2]? = some (.int .i64 i.f) ∧ cur[k * 2 + 1]? = some (.int .i64 i.t)
  len : n = l.length
theorem OwnE.kept {w w' : World} {S : Nat → Prop} {g n : Nat} {l : List Ed} (h : OwnE w g n l) (hk : Keeps S w w') (hS : ¬ S g) : OwnE w' g n l := by
  obtain ⟨cur, hb, hs, hc⟩ := h.ex
  exact ⟨⟨cur, blk_kept hb hk hS, hs, hc⟩, h.len⟩
theorem OwnE.lt {w : World} {g n : Nat} {l : List Ed} (h : OwnE w g n l) : g < w.heap.size := by
  obtain ⟨cur, hb, _⟩ := h.ex
  exact blk_lt hb
theorem OwnE.at {w : World} {g n : Nat} {l : List Ed} (h : OwnE w g n l) {k : Nat} {i : Ed} (hk : l[k]? = some i) : EdAt w g (k * 2) i := by
  obtain ⟨cur, hb, _, hc⟩ := h.ex
  exact ⟨by rw [blk_cell hb]; exact (hc k i hk).1, by rw [blk_cell hb]; exact (hc k i hk).2⟩
theorem OwnE.free {w : World} {g n : Nat} {l : List Ed} (h : OwnE w g n l) (k : Nat) : w.frozen? ⟨g, k, none⟩ = false := by
  obtain ⟨cur, hb, _, hc⟩ := h.ex
  exact blk_free hb k
theorem OwnE.seen {w : World} {g n m : Nat} {l : List Ed} (h : OwnE w g n l) (hm : m ≤ n) : SeenE w (some ⟨g, 0, none⟩) m (l.take m) := by
  have hl := h.len
  refine ⟨by simp; omega, fun h0 => ⟨g, 0, rfl, h.lt, fun k i hi => ?_⟩⟩
  rw [Nat.zero_add]
  rw [List.getElem?_take] at hi
  split at hi
  · exact h.at hi
  · cases hi
theorem OwnE.set {w : World} {g n : Nat} {l : List Ed} (h : OwnE w g n l) (k : Nat) (x : Ed) (hk : k < n) : OwnE ((w.setCell ⟨g, k * 2, none⟩ (.int .i64 x.f)).setCell ⟨g, k * 2 + 1, none⟩ (.int .i64 x.t)) g n (l.set k x) := by
  obtain ⟨cur, hb, hs, hc⟩ := h.ex
  have hl := h.len
  refine ⟨⟨_, blk_set (blk_set hb _) _, by simp; omega, fun j i hi => ?_⟩, by simp; omega⟩
  rw [List.getElem?_set] at hi
  by_cases e : k = j
  · subst e
    rw [if_pos rfl, if_pos (by omega)] at hi
    injection hi with hi
    subst hi
    simp [Array.getElem?_setIfInBounds]
    omega
  · rw [if_neg e] at hi
    have := hc j i hi
    simp only [Array.getElem?_setIfInBounds]
    rw [if_neg (by omega), if_neg (by omega), if_neg (by omega), if_neg (by omega)]
    exact this
end Go.Proofs.Ytnhoedodnbifdaa
