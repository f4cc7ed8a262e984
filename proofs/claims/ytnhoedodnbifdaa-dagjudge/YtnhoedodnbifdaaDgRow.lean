import Derived.Test.YtnhoedodnbifdaaDgBase
/-! Rows of edges of our own. -/
namespace Go.Proofs.Ytnhoedodnbifdaa
set_option linter.unusedVariables false
set_option maxRecDepth 20000
open Go.RowKit Go.HeapKit

theorem blk_new (w : World) (o : Obj) (n : Nat) (hn : w.heap.size = n) : (w.alloc o).heap[n]? = some o := by subst hn; exact heap_alloc_new w o
theorem row_shape {w : World} {base : Nat} {e : TypeId} {size : Nat} {v : Value} {n : Nat} {xs : List Value} (h : w.ownsRow base e size v n xs) : ∃ ao cap, v = .slice ao n cap := by
  rcases h.2 with ⟨rfl, rfl⟩ | ⟨g, cap, cur, rfl, _⟩
  · exact ⟨none, 0, rfl⟩
  · exact ⟨_, cap, rfl⟩
theorem row_base {w : World} {base base' : Nat} {e : TypeId} {size : Nat} {v : Value} {n : Nat} {xs : List Value} (h : w.ownsRow base e size v n xs) (hb : base' ≤ base) : w.ownsRow base' e size v n xs := by
  refine ⟨h.1, ?_⟩
  rcases h.2 with h | ⟨g, cap, cur, hv, hbg, r⟩
  · exact .inl h
  · exact .inr ⟨g, cap, cur, hv, Nat.le_trans hb hbg, r⟩
theorem row_low {w : World} {base : Nat} {e : TypeId} {size : Nat} {v : Value} {n : Nat} {xs : List Value} (h : w.ownsRow base e size v n xs) {g : Nat} (hg : v.ownBlock = some g) : base ≤ g := by
  rcases h.2 with ⟨rfl, rfl⟩ | ⟨g', cap, cur, rfl, hbg, r⟩
  · simp [Value.ownBlock] at hg
  · simp [Value.ownBlock] at hg; omega
/-- A row stands while its block does. -/
theorem row_kept {S : Nat → Prop} {w w' : World} {base : Nat} {e : TypeId} {size : Nat} {v : Value} {n : Nat} {xs : List Value} (ho : w.ownsRow base e size v n xs) (h : Keeps S w w') (hS : ∀ g, v.ownBlock = some g → ¬ S g) : w'.ownsRow base e size v n xs := h.own ho hS
theorem row_nil (w : World) (base : Nat) (e : TypeId) (size : Nat) : w.ownsRow base e size (.slice none 0 0) 0 [] := ⟨by simp, .inl ⟨rfl, rfl⟩⟩

theorem row_set {w : World} {base : Nat} {e : TypeId} {size g n cap : Nat} {xs : List Value} (h : w.ownsRow base e size (.slice (some ⟨g, 0, none⟩) n cap) n xs) (k : Nat) (v : Value) :
    (w.setCell ⟨g, k, none⟩ v).ownsRow base e size (.slice (some ⟨g, 0, none⟩) n cap) n (xs.set k v) := by
  rcases h.2 with ⟨h0, _⟩ | ⟨g', cap', cur, he, hb, hg, hn, hm, hcs, ht⟩
  · cases h0
  · injection he with e1 e2 e3
    injection e1 with e1
    injection e1 with e1
    subst e1 e3
    refine ⟨by simpa using h.1, .inr ⟨g, cap, cur.setIfInBounds k v, rfl, hb, blk_set hg v, hn, hm, by simpa using hcs, ?_⟩⟩
    rw [Array.toList_setIfInBounds, List.take_set, ht]
theorem keeps_one {w0 w : World} {g o : Nat} (h : Keeps (· = g) w0 w) (v : Value) : Keeps (· = g) w0 (w.setCell ⟨g, o, none⟩ v) := h.andSet (x := ⟨g, o, none⟩) (.inl rfl) v
theorem Try.infoEdge : (Try.prog.info? 52).map (fun i => (i.zero, i.size, i.bytes)) = some (some (.agg #[.int .i64 0, .int .i64 0]), 2, 16) := by kernel_rfl
/-- An element of a row of edges lies so, and may be written. -/
theorem ed_elem {w : World} {base : Nat} {a : Option Addr} {n c : Nat} {l : List Ed} {k : Nat} {x : Ed} (h : w.ownsRow base 52 2 (.slice a n c) n (edVals l)) (hx : l[k]? = some x) :
    ∃ g, a = some ⟨g, 0, none⟩ ∧ base ≤ g ∧ g < w.heap.size ∧ n ≤ c ∧ w.cell? ⟨g, k * 2, none⟩ = some (.int .i64 x.f) ∧ w.cell? ⟨g, k * 2 + 1, none⟩ = some (.int .i64 x.t) ∧ ∀ i, w.frozen? ⟨g, i, none⟩ = false := by
  have hlen : l.length * 2 = n * 2 := by have := h.1; rw [edVals_length] at this; exact this
  have hk := (List.getElem?_eq_some_iff.1 hx).1
  rcases h.2 with ⟨_, h1⟩ | ⟨g, cap, cur, hv, hbg, hg, hnc, hcm, hcs, htake⟩
  · omega
  · injection hv with e1 e2 e3
    subst e1 e3
    have hcell : ∀ j u, (edVals l)[j]? = some u → w.cell? ⟨g, j, none⟩ = some u := by
      intro j u this
      rw [blk_cell hg]
      rw [← htake, List.getElem?_take] at this
      split at this
      · simpa using this
      · cases this
    exact ⟨g, rfl, hbg, (Array.getElem?_eq_some_iff.1 hg).1, hnc, hcell _ _ (edVals_at l k x hx).1, hcell _ _ (edVals_at l k x hx).2, fun i => blk_free hg i⟩
/-- 'append(l, t)' of a edge. -/
theorem ed_more (base : Nat) (s : Value) (l : List Ed) (x : Ed) (n ty g0 : Nat) (w : World) (hn : n = l.length) (h : w.ownsRow base 52 2 s n (edVals l)) (hb : base ≤ w.heap.size) (hlen : (n + 1) * 16 ≤ 140737488355328)
    (hg0 : w.heap[g0]? = some (.cells #[.int .i64 x.f, .int .i64 x.t] 52 (0, 0))) :
    ∃ g cap w', (Builtin.append_ #[22, 22] ty #[s, .slice (some ⟨g0, 0, none⟩) 1 1]).run Try.prog w = .ok (.slice (some ⟨g, 0, none⟩) (n + 1) cap) w' ∧
      w'.ownsRow base 52 2 (.slice (some ⟨g, 0, none⟩) (n + 1) cap) (n + 1) (edVals (l ++ [x])) ∧ Keeps (fun k => s.ownBlock = some k) w w' ∧ (s.ownBlock = some g ∨ w.heap.size ≤ g) := by
  obtain ⟨i0, hi, hz0, hz1, hz2⟩ := info_parts Try.infoEdge
  obtain ⟨v', w1, hr, ho, hgr, hm, -⟩ := run_append_moved (P := Try.prog) w base 22 ty 52 i0 _ 2 16 Try.underlying22 hi hz0 hz1 hz2 rfl (by decide) s n _ h
    ⟨g0, 0, none⟩ 1 1 [.int .i64 x.f, .int .i64 x.t] rfl (by
      intro j u hu
      rw [show (⟨g0, 0, none⟩ : Addr).add j = ⟨g0, j, none⟩ by unfold Addr.add; split <;> simp_all, blk_cell hg0]
      simpa using hu) (by
      intro u hu
      simp at hu
      rcases hu with rfl | rfl <;> rfl) (by unfold maxLen; omega) hlen hb
  obtain ⟨g, cap, rfl⟩ : ∃ g cap, v' = .slice (some ⟨g, 0, none⟩) (n + 1) cap := by
    rcases ho.2 with ⟨_, h0⟩ | ⟨b, cap, cur, rfl, _⟩
    · omega
    · exact ⟨b, cap, rfl⟩
  refine ⟨g, cap, w1, hr, by rw [edVals_append]; exact ho, (Keeps.refl _ w).andGrown hgr (fun k e => .inl e), ?_⟩
  rcases hm with hm | ⟨g', e, hg⟩
  · exact .inl (hm.symm.trans rfl)
  · simp [Value.ownBlock] at e; exact .inr (by omega)
def set2 (w : World) (g o : Nat) (x : Ed) : World := (w.setCell ⟨g, o, none⟩ (.int .i64 x.f)).setCell ⟨g, o + 1, none⟩ (.int .i64 x.t)
theorem edVals_set (l : List Ed) (k : Nat) (x : Ed) (hk : k < l.length) : ((edVals l).set (k * 2) (.int .i64 x.f)).set (k * 2 + 1) (.int .i64 x.t) = edVals (l.set k x) := by
  induction l generalizing k with
  | nil => simp at hk
  | cons y l ih =>
    have e : edVals (y :: l) = [Value.int .i64 y.f, .int .i64 y.t] ++ edVals l := rfl
    cases k with
    | zero => rfl
    | succ k =>
      have h1 := ih k (by simpa using hk)
      have e2 : edVals ((y :: l).set (k + 1) x) = [Value.int .i64 y.f, .int .i64 y.t] ++ edVals (l.set k x) := rfl
      rw [e, e2, ← h1, show (k + 1) * 2 = k * 2 + 2 by omega]
      rfl
theorem row_set2 {w : World} {base : Nat} {g n cap : Nat} {l : List Ed} (h : w.ownsRow base 52 2 (.slice (some ⟨g, 0, none⟩) n cap) n (edVals l)) (k : Nat) (hk : k < l.length) (x : Ed) :
    (set2 w g (k * 2) x).ownsRow base 52 2 (.slice (some ⟨g, 0, none⟩) n cap) n (edVals (l.set k x)) := by
  rw [← edVals_set l k x hk]
  exact row_set (row_set h _ _) _ _
theorem keeps_set2 (w : World) (g o : Nat) (x : Ed) : Keeps (· = g) w (set2 w g o x) := keeps_one (keeps_one (Keeps.refl _ w) _) _
/-- A list of edges of the law's own, with a mark in the room behind it. -/
structure RoomE (w : World) (base g n cap : Nat) (l : List Ed) : Prop where
  len : n = l.length
  row : w.ownsRow base 52 2 (.slice (some ⟨g, 0, none⟩) (n + 1) cap) (n + 1) (edVals (l ++ [(⟨-77, 0⟩ : Ed)]))
section
variable {w w' : World} {base g n cap : Nat} {l : List Ed}
theorem RoomE.lt (h : RoomE w base g n cap l) : g < w.heap.size := own_lt h.row rfl
theorem RoomE.low (h : RoomE w base g n cap l) : base ≤ g := row_low h.row rfl
theorem RoomE.kept {S : Nat → Prop} (h : RoomE w base g n cap l) (hk : Keeps S w w') (hS : ¬ S g) : RoomE w' base g n cap l :=
  ⟨h.len, row_kept h.row hk (fun k e => by simp [Value.ownBlock] at e; subst e; exact hS)⟩
theorem RoomE.at (h : RoomE w base g n cap l) {k : Nat} {x : Ed} (hx : (l ++ [(⟨-77, 0⟩ : Ed)])[k]? = some x) : w.cell? ⟨g, k * 2, none⟩ = some (.int .i64 x.f) ∧ w.cell? ⟨g, k * 2 + 1, none⟩ = some (.int .i64 x.t) ∧ ∀ i, w.frozen? ⟨g, i, none⟩ = false := by
  obtain ⟨g', e, _, _, _, h1, h2, h3⟩ := ed_elem h.row hx
  injection e with e
  injection e with e
  subst e
  exact ⟨h1, h2, h3⟩
theorem RoomE.seen (h : RoomE w base g n cap l) : SeenE w (some ⟨g, 0, none⟩) n l := by
  refine ⟨h.len, fun h0 => ⟨g, 0, rfl, h.lt, fun k x hx => ?_⟩⟩
  obtain ⟨h1, h2, _⟩ := h.at (k := k) (x := x) (by rw [List.getElem?_append_left (List.getElem?_eq_some_iff.1 hx).1]; exact hx)
  rw [Nat.zero_add]
  exact ⟨h1, h2⟩
theorem RoomE.fits (h : RoomE w base g n cap l) : n + 1 ≤ cap := by
  rcases h.row.2 with ⟨e, _⟩ | ⟨g', cap', cur, e, _, _, hn, _⟩
  · cases e
  · injection e with _ _ e; subst e; exact hn
theorem RoomE.mark (h : RoomE w base g n cap l) : w.cell? ⟨g, n * 2, none⟩ = some (.int .i64 (-77)) := (h.at (k := n) (x := (⟨-77, 0⟩ : Ed)) (by rw [h.len]; simp)).1
theorem RoomE.put (h : RoomE w base g n cap l) {k : Nat} (hk : k < n) (x : Ed) : RoomE (set2 w g (k * 2) x) base g n cap (l.set k x) := by
  refine ⟨by simpa using h.len, ?_⟩
  have := row_set2 h.row k (by simp; have := h.len; omega) x
  rwa [List.set_append_left _ _ (by have := h.len; omega)] at this
end
end Go.Proofs.Ytnhoedodnbifdaa
