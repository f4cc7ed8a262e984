import Derived.Test.YtheginjjncnheaaRows
import Derived.OwnWalk
import Derived.Test.YtheginjjncnheaaHeap
/-! Calls of a history, plainly; lists of them in memory. -/
namespace Go.Proofs.Ytheginjjncnheaa
open Go.RowKit Go.HeapKit

theorem blk_cell {w : World} {p : Nat} {c : Array Value} {t : TypeId} {fz : Nat × Nat} (h : w.heap[p]? = some (.cells c t fz)) (i : Nat) : w.cell? ⟨p, i, none⟩ = c[i]? := by
  simp [World.cell?, h]
theorem blk_free {w : World} {p : Nat} {c : Array Value} {t : TypeId} (h : w.heap[p]? = some (.cells c t (0, 0))) (i : Nat) : w.frozen? ⟨p, i, none⟩ = false := by
  simp [World.frozen?, h]
theorem blk_set {w : World} {p i : Nat} {c : Array Value} {t : TypeId} {fz : Nat × Nat} (h : w.heap[p]? = some (.cells c t fz)) (v : Value) :
    (w.setCell ⟨p, i, none⟩ v).heap[p]? = some (.cells (c.setIfInBounds i v) t fz) := by
  simp [World.setCell, Array.getElem?_modify, h]
theorem blk_new (w : World) (o : Obj) (n : Nat) (hn : w.heap.size = n) : (w.alloc o).heap[n]? = some o := by subst hn; exact heap_alloc_new w o
theorem row_shape {w : World} {base : Nat} {e : TypeId} {size : Nat} {v : Value} {n : Nat} {xs : List Value} (h : w.ownsRow base e size v n xs) : ∃ ao cap, v = .slice ao n cap := by
  rcases h.2 with ⟨rfl, rfl⟩ | ⟨g, cap, cur, rfl, _⟩
  · exact ⟨none, 0, rfl⟩
  · exact ⟨_, cap, rfl⟩
theorem row_base {w : World} {base base' : Nat} {e : TypeId} {size : Nat} {v : Value} {n : Nat} {xs : List Value} (h : w.ownsRow base e size v n xs) (hb : base' ≤ base) : w.ownsRow base' e size v n xs := by
  refine ⟨h.1, ?_⟩
  rcases h.2 with h | ⟨g, cap, cur, hv, hbg, r⟩
  · exact .inl h
  · exact .inr ⟨g, cap, cur, hv, Nat.le_trans hb hbg, r⟩
theorem row_low {w : World} {base : Nat} {e : TypeId} {size : Nat} {v : Value} {n : Nat} {xs : List Value} (h : w.ownsRow base e size v n xs) {g : Nat} (hg : v.ownBlock = some g) : base ≤ g := by
  rcases h.2 with ⟨rfl, rfl⟩ | ⟨g', cap, cur, rfl, hbg, r⟩
  · simp [Value.ownBlock] at hg
  · simp [Value.ownBlock] at hg; omega
/-- A row stands while its block does. -/
theorem row_kept {S : Nat → Prop} {w w' : World} {base : Nat} {e : TypeId} {size : Nat} {v : Value} {n : Nat} {xs : List Value} (ho : w.ownsRow base e size v n xs) (h : Keeps S w w') (hS : ∀ g, v.ownBlock = some g → ¬ S g) : w'.ownsRow base e size v n xs := h.own ho hS
theorem row_nil (w : World) (base : Nat) (e : TypeId) (size : Nat) : w.ownsRow base e size (.slice none 0 0) 0 [] := ⟨by simp, .inl ⟨rfl, rfl⟩⟩

structure Cl where
  who : Int
  kind : Int
  arg : Int
  beg : Int
  fin : Int
  code : Int
  v : Int
deriving DecidableEq
def Cl.vals (c : Cl) : List Value := [.int .i64 c.who, .int .i64 c.kind, .int .i64 c.arg, .int .i64 c.beg, .int .i64 c.fin, .int .i64 c.code, .int .i64 c.v]
def Cl.value (c : Cl) : Value := .agg #[.int .i64 c.who, .int .i64 c.kind, .int .i64 c.arg, .int .i64 c.beg, .int .i64 c.fin, .int .i64 c.code, .int .i64 c.v]
theorem Cl.vals_length (c : Cl) : c.vals.length = 7 := rfl
def clVals (l : List Cl) : List Value := l.flatMap Cl.vals
theorem clVals_length (l : List Cl) : (clVals l).length = l.length * 7 := by
  induction l with
  | nil => rfl
  | cons x l ih => simp only [clVals, List.flatMap_cons, List.length_append, Cl.vals_length, List.length_cons] at ih ⊢; omega
theorem clVals_append (a b : List Cl) : clVals (a ++ b) = clVals a ++ clVals b := by simp [clVals]
theorem clVals_one (c : Cl) : clVals [c] = c.vals := by simp [clVals]
theorem clVals_at (l : List Cl) (k : Nat) (x : Cl) (h : l[k]? = some x) (j : Nat) (u : Value) (hu : x.vals[j]? = some u) : (clVals l)[k * 7 + j]? = some u := by
  have hj : j < 7 := by have := (List.getElem?_eq_some_iff.1 hu).1; simpa [Cl.vals] using this
  induction l generalizing k with
  | nil => simp at h
  | cons y l ih =>
    have e : clVals (y :: l) = y.vals ++ clVals l := rfl
    rw [e]
    cases k with
    | zero => simp at h; subst h; rw [List.getElem?_append_left (by rw [Cl.vals_length]; omega)]; simpa using hu
    | succ k =>
      rw [List.getElem?_append_right (by rw [Cl.vals_length]; omega), Cl.vals_length, show (k + 1) * 7 + j - 7 = k * 7 + j by omega]
      exact ih k (by simpa using h)

/-- The seven cells of a call. -/
structure C7 (w : World) (b o : Nat) (x : Cl) : Prop where
  c0 : w.cell? ⟨b, o, none⟩ = some (.int .i64 x.who)
  c1 : w.cell? ⟨b, o + 1, none⟩ = some (.int .i64 x.kind)
  c2 : w.cell? ⟨b, o + 2, none⟩ = some (.int .i64 x.arg)
  c3 : w.cell? ⟨b, o + 3, none⟩ = some (.int .i64 x.beg)
  c4 : w.cell? ⟨b, o + 4, none⟩ = some (.int .i64 x.fin)
  c5 : w.cell? ⟨b, o + 5, none⟩ = some (.int .i64 x.code)
  c6 : w.cell? ⟨b, o + 6, none⟩ = some (.int .i64 x.v)

/-- A list of calls that can be read. -/
structure Seen (w : World) (a : Option Addr) (n : Nat) (l : List Cl) : Prop where
  len : n = l.length
  ex : 0 < n → ∃ b off, a = some ⟨b, off, none⟩ ∧ b < w.heap.size ∧ ∀ k x, l[k]? = some x → C7 w b (off + k * 7) x
def blockOf (a : Option Addr) : Option Nat := a.map (·.block)
theorem C7.kept {w w' : World} {b o : Nat} {x : Cl} (h : C7 w b o x) {S : Nat → Prop} (hk : Keeps S w w') (hS : ¬ S b) : C7 w' b o x :=
  ⟨hk.cell h.c0 hS, hk.cell h.c1 hS, hk.cell h.c2 hS, hk.cell h.c3 hS, hk.cell h.c4 hS, hk.cell h.c5 hS, hk.cell h.c6 hS⟩
theorem Seen.kept {w w' : World} {a : Option Addr} {n : Nat} {l : List Cl} (h : Seen w a n l) {S : Nat → Prop} (hk : Keeps S w w') (hS : 0 < n → ∀ b, blockOf a = some b → b < w.heap.size → ¬ S b) : Seen w' a n l := by
  refine ⟨h.len, fun h0 => ?_⟩
  obtain ⟨b, off, rfl, hb, hc⟩ := h.ex h0
  exact ⟨b, off, rfl, Nat.lt_of_lt_of_le hb hk.size, fun k x hx => (hc k x hx).kept hk (hS h0 b rfl hb)⟩
theorem Seen.low {w : World} {a : Option Addr} {n : Nat} {l : List Cl} (h : Seen w a n l) (h0 : 0 < n) {b : Nat} (hb : blockOf a = some b) : b < w.heap.size := by
  obtain ⟨b', off, rfl, hlt, _⟩ := h.ex h0
  simp [blockOf] at hb
  omega
theorem Seen.more {w w' : World} {a : Option Addr} {n : Nat} {l : List Cl} (h : Seen w a n l) (hk : Keeps None w w') : Seen w' a n l := h.kept hk (fun _ _ _ _ f => f)
theorem Seen.of_row {w : World} {base : Nat} {a : Option Addr} {n c : Nat} {l : List Cl} (hl : n = l.length) (h : w.ownsRow base 49 7 (.slice a n c) n (clVals l)) : Seen w a n l := by
  refine ⟨hl, fun h0 => ?_⟩
  rcases h.2 with ⟨_, h1⟩ | ⟨g, cap, cur, hv, hbg, hg, hnc, hcm, hcs, htake⟩
  · omega
  · injection hv with e1 e2 e3
    subst e1
    have hlt := (Array.getElem?_eq_some_iff.1 hg).1
    refine ⟨g, 0, rfl, hlt, fun k x hx => ?_⟩
    have hcell : ∀ j u, x.vals[j]? = some u → w.cell? ⟨g, 0 + k * 7 + j, none⟩ = some u := by
      intro j u hu
      have := clVals_at l k x hx j u hu
      rw [blk_cell hg]
      rw [← htake, List.getElem?_take] at this
      split at this
      · simpa using this
      · cases this
    exact ⟨hcell 0 _ rfl, hcell 1 _ rfl, hcell 2 _ rfl, hcell 3 _ rfl, hcell 4 _ rfl, hcell 5 _ rfl, hcell 6 _ rfl⟩

theorem Try.infoCall : (Try.prog.info? 49).map (fun i => (i.zero, i.size, i.bytes)) = some (some (.agg #[.int .i64 0, .int .i64 0, .int .i64 0, .int .i64 0, .int .i64 0, .int .i64 0, .int .i64 0]), 7, 56) := by kernel_rfl

/-- 'append(s, c)' of a call. -/
theorem call_more (base : Nat) (s : Value) (l : List Cl) (x : Cl) (n ty : Nat) (w : World) (hn : n = l.length) (h : w.ownsRow base 49 7 s n (clVals l)) (hb : base ≤ w.heap.size) (hlen : (n + 1) * 56 ≤ 140737488355328) :
    ∃ g cap w', (Builtin.append_ #[27, 27] ty #[s, .slice (some ⟨w.heap.size, 0, none⟩) 1 1]).run Try.prog (w.alloc (.cells #[.int .i64 x.who, .int .i64 x.kind, .int .i64 x.arg, .int .i64 x.beg, .int .i64 x.fin, .int .i64 x.code, .int .i64 x.v] 49)) = .ok (.slice (some ⟨g, 0, none⟩) (n + 1) cap) w' ∧
      w'.ownsRow base 49 7 (.slice (some ⟨g, 0, none⟩) (n + 1) cap) (n + 1) (clVals (l ++ [x])) ∧ Keeps (fun k => s.ownBlock = some k) w w' ∧ (s.ownBlock = some g ∨ w.heap.size ≤ g) := by
  obtain ⟨i0, hi, hz0, hz1, hz2⟩ := info_parts Try.infoCall
  obtain ⟨v', w1, hr, ho, hgr, hm, -⟩ := run_append_moved (P := Try.prog) (w.alloc (.cells #[.int .i64 x.who, .int .i64 x.kind, .int .i64 x.arg, .int .i64 x.beg, .int .i64 x.fin, .int .i64 x.code, .int .i64 x.v] 49)) base 27 ty 49 i0 _ 7 56 Try.underlying27 hi hz0 hz1 hz2 rfl (by decide) s n _ (h.alloc _)
    ⟨w.heap.size, 0, none⟩ 1 1 x.vals rfl (by
      intro j u hu
      rw [show (⟨w.heap.size, 0, none⟩ : Addr).add j = ⟨w.heap.size, j, none⟩ by unfold Addr.add; split <;> simp_all, blk_cell (blk_new w _ _ rfl)]
      simpa [Cl.vals] using hu) (by
      intro u hu
      simp [Cl.vals] at hu
      rcases hu with rfl | rfl | rfl | rfl | rfl | rfl | rfl <;> rfl) (by unfold maxLen; omega) hlen (by simp; omega)
  obtain ⟨g, cap, rfl⟩ : ∃ g cap, v' = .slice (some ⟨g, 0, none⟩) (n + 1) cap := by
    rcases ho.2 with ⟨_, h0⟩ | ⟨b, cap, cur, rfl, _⟩
    · omega
    · exact ⟨b, cap, rfl⟩
  refine ⟨g, cap, w1, hr, by rw [clVals_append, clVals_one]; exact ho, ((Keeps.refl _ w).andAlloc _).andGrown hgr (fun k e => .inl e), ?_⟩
  rcases hm with hm | ⟨g', e, hg⟩
  · exact .inl (hm.symm.trans rfl)
  · simp [Value.ownBlock] at e; simp at hg; exact .inr (by omega)

theorem row_set {w : World} {base : Nat} {e : TypeId} {size g n cap : Nat} {xs : List Value} (h : w.ownsRow base e size (.slice (some ⟨g, 0, none⟩) n cap) n xs) (k : Nat) (v : Value) :
    (w.setCell ⟨g, k, none⟩ v).ownsRow base e size (.slice (some ⟨g, 0, none⟩) n cap) n (xs.set k v) := by
  rcases h.2 with ⟨h0, _⟩ | ⟨g', cap', cur, he, hb, hg, hn, hm, hcs, ht⟩
  · cases h0
  · injection he with e1 e2 e3
    injection e1 with e1
    injection e1 with e1
    subst e1 e3
    refine ⟨by simpa using h.1, .inr ⟨g, cap, cur.setIfInBounds k v, rfl, hb, blk_set hg v, hn, hm, by simpa using hcs, ?_⟩⟩
    rw [Array.toList_setIfInBounds, List.take_set, ht]
/-- Seven stores: one call of the list is another one. -/
def set7 (w : World) (g o : Nat) (x : Cl) : World :=
  ((((((w.setCell ⟨g, o, none⟩ (.int .i64 x.who)).setCell ⟨g, o + 1, none⟩ (.int .i64 x.kind)).setCell ⟨g, o + 2, none⟩ (.int .i64 x.arg)).setCell ⟨g, o + 3, none⟩ (.int .i64 x.beg)).setCell ⟨g, o + 4, none⟩ (.int .i64 x.fin)).setCell ⟨g, o + 5, none⟩ (.int .i64 x.code)).setCell ⟨g, o + 6, none⟩ (.int .i64 x.v)
theorem clVals_set (l : List Cl) (k : Nat) (x : Cl) (hk : k < l.length) : (((((((clVals l).set (k * 7) (.int .i64 x.who)).set (k * 7 + 1) (.int .i64 x.kind)).set (k * 7 + 2) (.int .i64 x.arg)).set (k * 7 + 3) (.int .i64 x.beg)).set (k * 7 + 4) (.int .i64 x.fin)).set (k * 7 + 5) (.int .i64 x.code)).set (k * 7 + 6) (.int .i64 x.v) = clVals (l.set k x) := by
  induction l generalizing k with
  | nil => simp at hk
  | cons y l ih =>
    have e : clVals (y :: l) = y.vals ++ clVals l := rfl
    cases k with
    | zero => rfl
    | succ k =>
      have h1 := ih k (by simpa using hk)
      have e2 : clVals ((y :: l).set (k + 1) x) = y.vals ++ clVals (l.set k x) := rfl
      rw [e, e2, ← h1]
      have hs : ∀ (xs : List Value) (j : Nat) (u : Value), (y.vals ++ xs).set ((k + 1) * 7 + j) u = y.vals ++ xs.set (k * 7 + j) u := by
        intro xs j u
        rw [List.set_append_right _ _ (by rw [Cl.vals_length]; omega), Cl.vals_length, show (k + 1) * 7 + j - 7 = k * 7 + j by omega]
      have h0 := hs (clVals l) 0 (.int .i64 x.who)
      simp only [Nat.add_zero] at h0
      rw [h0, hs, hs, hs, hs, hs, hs]
theorem row_set7 {w : World} {base : Nat} {g n cap : Nat} {l : List Cl} (h : w.ownsRow base 49 7 (.slice (some ⟨g, 0, none⟩) n cap) n (clVals l)) (k : Nat) (hk : k < l.length) (x : Cl) :
    (set7 w g (k * 7) x).ownsRow base 49 7 (.slice (some ⟨g, 0, none⟩) n cap) n (clVals (l.set k x)) := by
  rw [← clVals_set l k x hk]
  exact row_set (row_set (row_set (row_set (row_set (row_set (row_set h _ _) _ _) _ _) _ _) _ _) _ _) _ _
theorem keeps_one {w0 w : World} {g o : Nat} (h : Keeps (· = g) w0 w) (v : Value) : Keeps (· = g) w0 (w.setCell ⟨g, o, none⟩ v) := h.andSet (x := ⟨g, o, none⟩) (.inl rfl) v
theorem keeps_set7 (w : World) (g o : Nat) (x : Cl) : Keeps (· = g) w (set7 w g o x) :=
  keeps_one (keeps_one (keeps_one (keeps_one (keeps_one (keeps_one (keeps_one (Keeps.refl _ w) _) _) _) _) _) _) _
/-- An element of a row lies so, and may be written. -/
theorem row_elem {w : World} {base : Nat} {a : Option Addr} {n c : Nat} {l : List Cl} {k : Nat} {x : Cl} (h : w.ownsRow base 49 7 (.slice a n c) n (clVals l)) (hx : l[k]? = some x) :
    ∃ g, a = some ⟨g, 0, none⟩ ∧ base ≤ g ∧ g < w.heap.size ∧ n ≤ c ∧ C7 w g (k * 7) x ∧ ∀ i, w.frozen? ⟨g, i, none⟩ = false := by
  have hlen : l.length * 7 = n * 7 := by have := h.1; rw [clVals_length] at this; exact this
  have hk := (List.getElem?_eq_some_iff.1 hx).1
  rcases h.2 with ⟨_, h1⟩ | ⟨g, cap, cur, hv, hbg, hg, hnc, hcm, hcs, htake⟩
  · omega
  · injection hv with e1 e2 e3
    subst e1 e3
    have hcell : ∀ j u, x.vals[j]? = some u → w.cell? ⟨g, k * 7 + j, none⟩ = some u := by
      intro j u hu
      have := clVals_at l k x hx j u hu
      rw [blk_cell hg]
      rw [← htake, List.getElem?_take] at this
      split at this
      · simpa using this
      · cases this
    exact ⟨g, rfl, hbg, (Array.getElem?_eq_some_iff.1 hg).1, hnc, ⟨hcell 0 _ rfl, hcell 1 _ rfl, hcell 2 _ rfl, hcell 3 _ rfl, hcell 4 _ rfl, hcell 5 _ rfl, hcell 6 _ rfl⟩, fun i => blk_free hg i⟩
end Go.Proofs.Ytheginjjncnheaa
