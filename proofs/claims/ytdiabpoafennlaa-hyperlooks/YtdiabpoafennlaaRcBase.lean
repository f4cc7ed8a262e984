import Derived.Test.YtdiabpoafennlaaRows
import Derived.OwnWalk
import Derived.Test.YtdiabpoafennlaaHeap
import Derived.Deep.QuietTactic
import Derived.BigQuiet
/-! Deeds, plainly; lists of them in memory. -/
namespace Go.Proofs.Ytdiabpoafennlaa
set_option linter.unusedVariables false
set_option maxRecDepth 20000
open Go.RowKit Go.HeapKit

theorem blk_cell {w : World} {p : Nat} {c : Array Value} {t : TypeId} {fz : Nat × Nat} (h : w.heap[p]? = some (.cells c t fz)) (i : Nat) : w.cell? ⟨p, i, none⟩ = c[i]? := by
  simp [World.cell?, h]
theorem blk_free {w : World} {p : Nat} {c : Array Value} {t : TypeId} (h : w.heap[p]? = some (.cells c t (0, 0))) (i : Nat) : w.frozen? ⟨p, i, none⟩ = false := by
  simp [World.frozen?, h]
theorem blk_set {w : World} {p i : Nat} {c : Array Value} {t : TypeId} {fz : Nat × Nat} (h : w.heap[p]? = some (.cells c t fz)) (v : Value) :
    (w.setCell ⟨p, i, none⟩ v).heap[p]? = some (.cells (c.setIfInBounds i v) t fz) := by
  simp [World.setCell, Array.getElem?_modify, h]
theorem blk_new (w : World) (o : Obj) (n : Nat) (hn : w.heap.size = n) : (w.alloc o).heap[n]? = some o := by subst hn; exact heap_alloc_new w o
theorem blk_lt {w : World} {p : Nat} {o : Obj} (h : w.heap[p]? = some o) : p < w.heap.size := (Array.getElem?_eq_some_iff.1 h).1
theorem row_shape {w : World} {base : Nat} {e : TypeId} {size : Nat} {v : Value} {n : Nat} {xs : List Value} (h : w.ownsRow base e size v n xs) : ∃ ao cap, v = .slice ao n cap := by
  rcases h.2 with ⟨rfl, rfl⟩ | ⟨g, cap, cur, rfl, _⟩
  · exact ⟨none, 0, rfl⟩
  · exact ⟨_, cap, rfl⟩
theorem row_base {w : World} {base base' : Nat} {e : TypeId} {size : Nat} {v : Value} {n : Nat} {xs : List Value} (h : w.ownsRow base e size v n xs) (hb : base' ≤ base) : w.ownsRow base' e size v n xs := by
  refine ⟨h.1, ?_⟩
  rcases h.2 with h | ⟨g, cap, cur, hv, hbg, r⟩
  · exact .inl h
  · exact .inr ⟨g, cap, cur, hv, Nat.le_trans hb hbg, r⟩
theorem row_low {w : World} {base : Nat} {e : TypeId} {size : Nat} {v : Value} {n : Nat} {xs : List Value} (h : w.ownsRow base e size v n xs) {g : Nat} (hg : v.ownBlock = some g) : base ≤ g := by
  rcases h.2 with ⟨rfl, rfl⟩ | ⟨g', cap, cur, rfl, hbg, r⟩
  · simp [Value.ownBlock] at hg
  · simp [Value.ownBlock] at hg; omega
/-- A row stands while its block does. -/
theorem row_kept {S : Nat → Prop} {w w' : World} {base : Nat} {e : TypeId} {size : Nat} {v : Value} {n : Nat} {xs : List Value} (ho : w.ownsRow base e size v n xs) (h : Keeps S w w') (hS : ∀ g, v.ownBlock = some g → ¬ S g) : w'.ownsRow base e size v n xs := h.own ho hS
theorem row_nil (w : World) (base : Nat) (e : TypeId) (size : Nat) : w.ownsRow base e size (.slice none 0 0) 0 [] := ⟨by simp, .inl ⟨rfl, rfl⟩⟩
theorem row_set {w : World} {base : Nat} {e : TypeId} {size g n cap : Nat} {xs : List Value} (h : w.ownsRow base e size (.slice (some ⟨g, 0, none⟩) n cap) n xs) (k : Nat) (v : Value) :
    (w.setCell ⟨g, k, none⟩ v).ownsRow base e size (.slice (some ⟨g, 0, none⟩) n cap) n (xs.set k v) := by
  rcases h.2 with ⟨h0, _⟩ | ⟨g', cap', cur, he, hb, hg, hn, hm, hcs, ht⟩
  · cases h0
  · injection he with e1 e2 e3
    injection e1 with e1
    injection e1 with e1
    subst e1 e3
    refine ⟨by simpa using h.1, .inr ⟨g, cap, cur.setIfInBounds k v, rfl, hb, blk_set hg v, hn, hm, by simpa using hcs, ?_⟩⟩
    rw [Array.toList_setIfInBounds, List.take_set, ht]
theorem keeps_one {w0 w : World} {g o : Nat} (h : Keeps (· = g) w0 w) (v : Value) : Keeps (· = g) w0 (w.setCell ⟨g, o, none⟩ v) := h.andSet (x := ⟨g, o, none⟩) (.inl rfl) v

structure Dd where
  k : Int
  loc : Int
deriving DecidableEq
def Dd.vals (c : Dd) : List Value := [.int .i64 c.k, .int .i64 c.loc]
theorem Dd.vals_length (c : Dd) : c.vals.length = 2 := rfl
def ddVals (l : List Dd) : List Value := l.flatMap Dd.vals
theorem ddVals_length (l : List Dd) : (ddVals l).length = l.length * 2 := by
  induction l with
  | nil => rfl
  | cons x l ih => simp only [ddVals, List.flatMap_cons, List.length_append, Dd.vals_length, List.length_cons] at ih ⊢; omega
theorem ddVals_append (a b : List Dd) : ddVals (a ++ b) = ddVals a ++ ddVals b := by simp [ddVals]
theorem ddVals_one (c : Dd) : ddVals [c] = c.vals := by simp [ddVals]
theorem ddVals_at (l : List Dd) (k : Nat) (x : Dd) (h : l[k]? = some x) (j : Nat) (u : Value) (hu : x.vals[j]? = some u) : (ddVals l)[k * 2 + j]? = some u := by
  have hj : j < 2 := by have := (List.getElem?_eq_some_iff.1 hu).1; simpa [Dd.vals] using this
  induction l generalizing k with
  | nil => simp at h
  | cons y l ih =>
    have e : ddVals (y :: l) = y.vals ++ ddVals l := rfl
    rw [e]
    cases k with
    | zero => simp at h; subst h; rw [List.getElem?_append_left (by rw [Dd.vals_length]; omega)]; simpa using hu
    | succ k =>
      rw [List.getElem?_append_right (by rw [Dd.vals_length]; omega), Dd.vals_length, show (k + 1) * 2 + j - 2 = k * 2 + j by omega]
      exact ih k (by simpa using h)

/-- The two cells of a deed. -/
structure C2 (w : World) (b o : Nat) (x : Dd) : Prop where
  c0 : w.cell? ⟨b, o, none⟩ = some (.int .i64 x.k)
  c1 : w.cell? ⟨b, o + 1, none⟩ = some (.int .i64 x.loc)

/-- A list of deeds that can be read. -/
structure Seen (w : World) (a : Option Addr) (n : Nat) (l : List Dd) : Prop where
  len : n = l.length
  ex : 0 < n → ∃ b off, a = some ⟨b, off, none⟩ ∧ b < w.heap.size ∧ ∀ k x, l[k]? = some x → C2 w b (off + k * 2) x
def blockOf (a : Option Addr) : Option Nat := a.map (·.block)
theorem C2.kept {w w' : World} {b o : Nat} {x : Dd} (h : C2 w b o x) {S : Nat → Prop} (hk : Keeps S w w') (hS : ¬ S b) : C2 w' b o x :=
  ⟨hk.cell h.c0 hS, hk.cell h.c1 hS⟩
theorem Seen.kept {w w' : World} {a : Option Addr} {n : Nat} {l : List Dd} (h : Seen w a n l) {S : Nat → Prop} (hk : Keeps S w w') (hS : 0 < n → ∀ b, blockOf a = some b → b < w.heap.size → ¬ S b) : Seen w' a n l := by
  refine ⟨h.len, fun h0 => ?_⟩
  obtain ⟨b, off, rfl, hb, hc⟩ := h.ex h0
  exact ⟨b, off, rfl, Nat.lt_of_lt_of_le hb hk.size, fun k x hx => (hc k x hx).kept hk (hS h0 b rfl hb)⟩
theorem Seen.low {w : World} {a : Option Addr} {n : Nat} {l : List Dd} (h : Seen w a n l) (h0 : 0 < n) {b : Nat} (hb : blockOf a = some b) : b < w.heap.size := by
  obtain ⟨b', off, rfl, hlt, _⟩ := h.ex h0
  simp [blockOf] at hb
  omega
theorem Seen.more {w w' : World} {a : Option Addr} {n : Nat} {l : List Dd} (h : Seen w a n l) (hk : Keeps None w w') : Seen w' a n l := h.kept hk (fun _ _ _ _ f => f)
theorem Seen.below {w w' : World} {a : Option Addr} {n B : Nat} {l : List Dd} (h : Seen w a n l) (hk : Keeps (fun i => B ≤ i) w w') (hB : w.heap.size ≤ B) : Seen w' a n l := h.kept hk (fun _ _ _ h1 h2 => by omega)
/-- One element, as it is read. -/
theorem Seen.elem {w : World} {a : Option Addr} {n : Nat} {l : List Dd} (h : Seen w a n l) {k : Nat} (hk : k < n) : ∃ b off x, a = some ⟨b, off, none⟩ ∧ b < w.heap.size ∧ l[k]? = some x ∧ C2 w b (off + k * 2) x := by
  obtain ⟨b, off, rfl, hb, hc⟩ := h.ex (by omega)
  obtain ⟨x, hx⟩ : ∃ x, l[k]? = some x := ⟨l[k]'(by have := h.len; omega), by simp⟩
  exact ⟨b, off, x, rfl, hb, hx, hc k x hx⟩

theorem Try.infoDeed : (Try.prog.info? 45).map (fun i => (i.zero, i.size, i.bytes)) = some (some (.agg #[.int .i64 0, .int .i64 0]), 2, 16) := by kernel_rfl

/-- A row of deeds that begins at the head of its block. -/
def IsD (w : World) (base g n cap : Nat) (l : List Dd) : Prop := n = l.length ∧ w.ownsRow base 45 2 (.slice (some ⟨g, 0, none⟩) n cap) n (ddVals l)
theorem row_elem {w : World} {base : Nat} {a : Option Addr} {n c : Nat} {l : List Dd} {k : Nat} {x : Dd} (h : w.ownsRow base 45 2 (.slice a n c) n (ddVals l)) (hx : l[k]? = some x) :
    ∃ g, a = some ⟨g, 0, none⟩ ∧ base ≤ g ∧ g < w.heap.size ∧ n ≤ c ∧ C2 w g (k * 2) x ∧ ∀ i, w.frozen? ⟨g, i, none⟩ = false := by
  have hlen : l.length * 2 = n * 2 := by have := h.1; rw [ddVals_length] at this; exact this
  have hk := (List.getElem?_eq_some_iff.1 hx).1
  rcases h.2 with ⟨_, h1⟩ | ⟨g, cap, cur, hv, hbg, hg, hnc, hcm, hcs, htake⟩
  · omega
  · injection hv with e1 e2 e3
    subst e1 e3
    have hcell : ∀ j u, x.vals[j]? = some u → w.cell? ⟨g, k * 2 + j, none⟩ = some u := by
      intro j u hu
      have := ddVals_at l k x hx j u hu
      rw [blk_cell hg]
      rw [← htake, List.getElem?_take] at this
      split at this
      · simpa using this
      · cases this
    exact ⟨g, rfl, hbg, (Array.getElem?_eq_some_iff.1 hg).1, hnc, ⟨hcell 0 _ rfl, hcell 1 _ rfl⟩, fun i => blk_free hg i⟩
theorem Seen.of_row {w : World} {base : Nat} {a : Option Addr} {n c : Nat} {l : List Dd} (hl : n = l.length) (h : w.ownsRow base 45 2 (.slice a n c) n (ddVals l)) : Seen w a n l := by
  refine ⟨hl, fun h0 => ?_⟩
  obtain ⟨g, rfl, _, hlt, _⟩ := row_elem (k := 0) h (List.getElem?_eq_getElem (by omega))
  refine ⟨g, 0, rfl, hlt, fun k x hx => ?_⟩
  obtain ⟨g', e, _, _, _, hc, _⟩ := row_elem h hx
  injection e with e
  injection e with e
  subst e
  simpa using hc
/-- 'append(s, d)' of a deed. -/
theorem deed_more (base : Nat) (s : Value) (l : List Dd) (x : Dd) (n ty : Nat) (w : World) (hn : n = l.length) (h : w.ownsRow base 45 2 s n (ddVals l)) (hb : base ≤ w.heap.size) (hlen : (n + 1) * 16 ≤ 140737488355328) {g0 : Nat}
    (hg0 : w.heap[g0]? = some (.cells #[.int .i64 x.k, .int .i64 x.loc] 45 (0, 0))) :
    ∃ g cap w', (Builtin.append_ #[22, 22] ty #[s, .slice (some ⟨g0, 0, none⟩) 1 1]).run Try.prog w = .ok (.slice (some ⟨g, 0, none⟩) (n + 1) cap) w' ∧
      w'.ownsRow base 45 2 (.slice (some ⟨g, 0, none⟩) (n + 1) cap) (n + 1) (ddVals (l ++ [x])) ∧ Keeps (fun k => s.ownBlock = some k) w w' ∧ (s.ownBlock = some g ∨ w.heap.size ≤ g) := by
  obtain ⟨i0, hi, hz0, hz1, hz2⟩ := info_parts Try.infoDeed
  obtain ⟨v', w1, hr, ho, hgr, hm, -⟩ := run_append_moved (P := Try.prog) w base 22 ty 45 i0 _ 2 16 Try.underlying22 hi hz0 hz1 hz2 rfl (by decide) s n _ h
    ⟨g0, 0, none⟩ 1 1 x.vals rfl (by
      intro j u hu
      rw [show (⟨g0, 0, none⟩ : Addr).add j = ⟨g0, j, none⟩ by unfold Addr.add; split <;> simp_all, blk_cell hg0]
      simpa [Dd.vals] using hu) (by
      intro u hu
      simp [Dd.vals] at hu
      rcases hu with rfl | rfl <;> rfl) (by unfold maxLen; omega) hlen hb
  obtain ⟨g, cap, rfl⟩ : ∃ g cap, v' = .slice (some ⟨g, 0, none⟩) (n + 1) cap := by
    rcases ho.2 with ⟨_, h0⟩ | ⟨b, cap, cur, rfl, _⟩
    · omega
    · exact ⟨b, cap, rfl⟩
  refine ⟨g, cap, w1, hr, by rw [ddVals_append, ddVals_one]; exact ho, (Keeps.refl _ w).andGrown hgr (fun k e => .inl e), ?_⟩
  rcases hm with hm | ⟨g', e, hg⟩
  · exact .inl (hm.symm.trans rfl)
  · simp [Value.ownBlock] at e; exact .inr (by omega)
/-- Two stores: one deed of the list is another one. -/
def set2 (w : World) (g o : Nat) (x : Dd) : World := (w.setCell ⟨g, o, none⟩ (.int .i64 x.k)).setCell ⟨g, o + 1, none⟩ (.int .i64 x.loc)
theorem ddVals_set (l : List Dd) (k : Nat) (x : Dd) (hk : k < l.length) : ((ddVals l).set (k * 2) (.int .i64 x.k)).set (k * 2 + 1) (.int .i64 x.loc) = ddVals (l.set k x) := by
  induction l generalizing k with
  | nil => simp at hk
  | cons y l ih =>
    have e : ddVals (y :: l) = y.vals ++ ddVals l := rfl
    cases k with
    | zero => rfl
    | succ k =>
      have h1 := ih k (by simpa using hk)
      have e2 : ddVals ((y :: l).set (k + 1) x) = y.vals ++ ddVals (l.set k x) := rfl
      rw [e, e2, ← h1]
      have hs : ∀ (xs : List Value) (j : Nat) (u : Value), (y.vals ++ xs).set ((k + 1) * 2 + j) u = y.vals ++ xs.set (k * 2 + j) u := by
        intro xs j u
        rw [List.set_append_right _ _ (by rw [Dd.vals_length]; omega), Dd.vals_length, show (k + 1) * 2 + j - 2 = k * 2 + j by omega]
      have h0 := hs (ddVals l) 0 (.int .i64 x.k)
      simp only [Nat.add_zero] at h0
      rw [h0, hs]
theorem row_set2 {w : World} {base : Nat} {g n cap : Nat} {l : List Dd} (h : w.ownsRow base 45 2 (.slice (some ⟨g, 0, none⟩) n cap) n (ddVals l)) (k : Nat) (hk : k < l.length) (x : Dd) :
    (set2 w g (k * 2) x).ownsRow base 45 2 (.slice (some ⟨g, 0, none⟩) n cap) n (ddVals (l.set k x)) := by
  rw [← ddVals_set l k x hk]
  exact row_set (row_set h _ _) _ _
theorem keeps_set2 (w : World) (g o : Nat) (x : Dd) : Keeps (· = g) w (set2 w g o x) := keeps_one (keeps_one (Keeps.refl _ w) _) _
/-- The part of a row that is looked at. -/
theorem IsD.seen {w : World} {base g n cap m : Nat} {l : List Dd} (h : IsD w base g n cap l) (hm : m ≤ n) : Seen w (some ⟨g, 0, none⟩) m (l.take m) := by
  refine ⟨by simp; have := h.1; omega, fun h0 => ?_⟩
  obtain ⟨b, off, e, hb, hc⟩ := (Seen.of_row h.1 h.2).ex (by omega)
  injection e with e
  injection e with e1 e2
  subst e1 e2
  refine ⟨g, 0, rfl, hb, fun k x hx => hc k x ?_⟩
  rw [List.getElem?_take] at hx
  split at hx
  · exact hx
  · cases hx
theorem IsD.kept {S : Nat → Prop} {w w' : World} {base g n cap : Nat} {l : List Dd} (h : IsD w base g n cap l) (hk : Keeps S w w') (hS : ¬ S g) : IsD w' base g n cap l :=
  ⟨h.1, row_kept h.2 hk (fun k e => by simp [Value.ownBlock] at e; subst e; exact hS)⟩
theorem IsD.lt {w : World} {base g n cap : Nat} {l : List Dd} (h : IsD w base g n cap l) : g < w.heap.size := own_lt h.2 rfl
theorem IsD.low {w : World} {base g n cap : Nat} {l : List Dd} (h : IsD w base g n cap l) : base ≤ g := row_low h.2 rfl
theorem IsD.fits {w : World} {base g n cap : Nat} {l : List Dd} (h : IsD w base g n cap l) : n ≤ cap := by
  rcases h.2.2 with ⟨e, _⟩ | ⟨g', cap', cur, e, _, _, hn, _⟩
  · cases e
  · injection e with _ _ e; subst e; exact hn
theorem IsD.put {w : World} {base g n cap : Nat} {l : List Dd} (h : IsD w base g n cap l) {k : Nat} (hk : k < n) (x : Dd) : IsD (set2 w g (k * 2) x) base g n cap (l.set k x) :=
  ⟨by simpa using h.1, row_set2 h.2 k (by have := h.1; omega) x⟩
theorem IsD.elem {w : World} {base g n cap : Nat} {l : List Dd} (h : IsD w base g n cap l) {k : Nat} {x : Dd} (hx : l[k]? = some x) : C2 w g (k * 2) x := by
  obtain ⟨g', e, _, _, _, hc, _⟩ := row_elem h.2 hx
  injection e with e
  injection e with e
  subst e
  exact hc
theorem IsD.free {w : World} {base g n cap : Nat} {l : List Dd} (h : IsD w base g n cap l) (i : Nat) : w.frozen? ⟨g, i, none⟩ = false := by
  obtain ⟨cur, hc⟩ := own_block h.2 rfl
  exact blk_free hc i
end Go.Proofs.Ytdiabpoafennlaa
