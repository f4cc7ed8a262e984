import Derived.Test.YtbeblgeiafkniaaDoorRows
import Derived.Test.YtbeblgeiafkniaaDoorHeap
import Derived.Test.YtbeblgeiafkniaaDoorScPlain
import Derived.OwnWalk
import Derived.WalkMore
import Derived.Deep.RegionHeld3
import Derived.Deep.QuietTactic
import Derived.Deep.DeepCutAuto
import Derived.BigQuiet
/-! Lists of numbers in memory: seen, owned, in a block of their own. -/
namespace Go.Proofs.YtbeblgeiafkniaaDoor
set_option linter.unusedVariables false
set_option maxRecDepth 20000
open Go.RowKit Go.HeapKit

theorem blk_cell {w : World} {p : Nat} {c : Array Value} {t : TypeId} {fz : Nat × Nat} (h : w.heap[p]? = some (.cells c t fz)) (i : Nat) : w.cell? ⟨p, i, none⟩ = c[i]? := by
  simp [World.cell?, h]
theorem blk_free {w : World} {p : Nat} {c : Array Value} {t : TypeId} (h : w.heap[p]? = some (.cells c t (0, 0))) (i : Nat) : w.frozen? ⟨p, i, none⟩ = false := by
  simp [World.frozen?, h]
theorem blk_set {w : World} {p i : Nat} {c : Array Value} {t : TypeId} {fz : Nat × Nat} (h : w.heap[p]? = some (.cells c t fz)) (v : Value) :
    (w.setCell ⟨p, i, none⟩ v).heap[p]? = some (.cells (c.setIfInBounds i v) t fz) := by
  simp [World.setCell, Array.getElem?_modify, h]
theorem blk_lt {w : World} {p : Nat} {o : Obj} (h : w.heap[p]? = some o) : p < w.heap.size := (Array.getElem?_eq_some_iff.1 h).1
theorem blk_kept {w w' : World} {S : Nat → Prop} {p : Nat} {o : Obj} (h : w.heap[p]? = some o) (hk : Keeps S w w') (hS : ¬ S p) : w'.heap[p]? = some o := (hk.block p (blk_lt h) hS).trans h
theorem blk_new (w : World) (o : Obj) (n : Nat) (hn : w.heap.size = n) : (w.alloc o).heap[n]? = some o := by subst hn; exact heap_alloc_new w o
theorem blk_old {w : World} {g : Nat} {ob : Obj} (h : w.heap[g]? = some ob) (o : Obj) : (w.alloc o).heap[g]? = some ob := blk_kept h (Keeps.alloc None w o) (fun f => f)
theorem blk_other {w : World} {g p i : Nat} {ob : Obj} (h : w.heap[g]? = some ob) (v : Value) (hn : g ≠ p) : (w.setCell ⟨p, i, none⟩ v).heap[g]? = some ob := blk_kept h (Keeps.setCell (S := (· = p)) w rfl v) hn
theorem keeps1 (w : World) (a : Obj) : Keeps None w (w.alloc a) := (Keeps.refl _ _).andAlloc _
theorem Keeps.drewN (S : Nat → Prop) (w : World) (m : Nat) : Keeps S w (w.drewN m) := by
  induction m with
  | zero => exact Keeps.refl _ _
  | succ m ih => exact ih.andDrew
theorem keeps_one {w0 w : World} {g o : Nat} (h : Keeps (· = g) w0 w) (v : Value) : Keeps (· = g) w0 (w.setCell ⟨g, o, none⟩ v) := h.andSet (x := ⟨g, o, none⟩) (.inl rfl) v

theorem row_shape {w : World} {base : Nat} {e : TypeId} {size : Nat} {v : Value} {n : Nat} {xs : List Value} (h : w.ownsRow base e size v n xs) : ∃ ao cap, v = .slice ao n cap := by
  rcases h.2 with ⟨rfl, rfl⟩ | ⟨g, cap, cur, rfl, _⟩
  · exact ⟨none, 0, rfl⟩
  · exact ⟨_, cap, rfl⟩
theorem row_base {w : World} {base base' : Nat} {e : TypeId} {size : Nat} {v : Value} {n : Nat} {xs : List Value} (h : w.ownsRow base e size v n xs) (hb : base' ≤ base) : w.ownsRow base' e size v n xs := by
  refine ⟨h.1, ?_⟩
  rcases h.2 with h | ⟨g, cap, cur, hv, hbg, r⟩
  · exact .inl h
  · exact .inr ⟨g, cap, cur, hv, Nat.le_trans hb hbg, r⟩
theorem row_low {w : World} {base : Nat} {e : TypeId} {size : Nat} {v : Value} {n : Nat} {xs : List Value} (h : w.ownsRow base e size v n xs) {g : Nat} (hg : v.ownBlock = some g) : base ≤ g := by
  rcases h.2 with ⟨rfl, rfl⟩ | ⟨g', cap, cur, rfl, hbg, r⟩
  · simp [Value.ownBlock] at hg
  · simp [Value.ownBlock] at hg; omega
theorem row_kept {S : Nat → Prop} {w w' : World} {base : Nat} {e : TypeId} {size : Nat} {v : Value} {n : Nat} {xs : List Value} (ho : w.ownsRow base e size v n xs) (h : Keeps S w w') (hS : ∀ g, v.ownBlock = some g → ¬ S g) : w'.ownsRow base e size v n xs := h.own ho hS
theorem row_more {w w' : World} {base : Nat} {e : TypeId} {size : Nat} {v : Value} {n : Nat} {xs : List Value} (ho : w.ownsRow base e size v n xs) (h : Keeps None w w') : w'.ownsRow base e size v n xs := h.own ho (fun _ _ f => f)
theorem row_nil (w : World) (base : Nat) (e : TypeId) (size : Nat) : w.ownsRow base e size (.slice none 0 0) 0 [] := ⟨by simp, .inl ⟨rfl, rfl⟩⟩
theorem row_set {w : World} {base : Nat} {e : TypeId} {size g n cap : Nat} {xs : List Value} (h : w.ownsRow base e size (.slice (some ⟨g, 0, none⟩) n cap) n xs) (k : Nat) (v : Value) :
    (w.setCell ⟨g, k, none⟩ v).ownsRow base e size (.slice (some ⟨g, 0, none⟩) n cap) n (xs.set k v) := by
  rcases h.2 with ⟨h0, _⟩ | ⟨g', cap', cur, he, hb, hg, hn, hm, hcs, ht⟩
  · cases h0
  · injection he with e1 e2 e3
    injection e1 with e1
    injection e1 with e1
    subst e1 e3
    refine ⟨by simpa using h.1, .inr ⟨g, cap, cur.setIfInBounds k v, rfl, hb, blk_set hg v, hn, hm, by simpa using hcs, ?_⟩⟩
    rw [Array.toList_setIfInBounds, List.take_set, ht]

def okI (x : Int) : Prop := -9223372036854775808 ≤ x ∧ x ≤ 9223372036854775807
theorem okI_of_wf {x : Int} (h : (Lit.int .i64 x).wf = true) : okI x := by
  have h1 : IntKind.i64.min = -9223372036854775808 := by decide
  have h2 : IntKind.i64.max = 9223372036854775807 := by decide
  simp [Lit.wf, h1, h2] at h
  unfold okI
  omega
def iv (l : List Int) : List Value := l.map (Value.int .i64)
theorem iv_len (l : List Int) : (iv l).length = l.length := by simp [iv]
theorem iv_at (l : List Int) (k : Nat) (x : Int) (h : l[k]? = some x) : (iv l)[k]? = some (.int .i64 x) := by simp [iv, h]
theorem Tryd.infoInt : (Tryd.prog.info? 3).map (fun i => (i.zero, i.size, i.bytes)) = some (some (.int .i64 0), 1, 8) := by kernel_rfl

/-- A list of numbers that can be read. -/
structure SeenN (w : World) (a : Option Addr) (n : Nat) (l : List Int) : Prop where
  len : n = l.length
  ex : 0 < n → ∃ b off, a = some ⟨b, off, none⟩ ∧ b < w.heap.size ∧ ∀ k i, l[k]? = some i → w.cell? ⟨b, off + k, none⟩ = some (.int .i64 i)
theorem SeenN.kept {w w' : World} {S : Nat → Prop} {a : Option Addr} {n : Nat} {l : List Int} (h : SeenN w a n l) (hk : Keeps S w w') (hS : ∀ x, a = some x → 0 < n → x.block < w.heap.size → ¬ S x.block) : SeenN w' a n l := by
  refine ⟨h.len, fun h0 => ?_⟩
  obtain ⟨b, off, rfl, hb, hc⟩ := h.ex h0
  exact ⟨b, off, rfl, Nat.lt_of_lt_of_le hb hk.size, fun k i hi => hk.cell (hc k i hi) (hS ⟨b, off, none⟩ rfl h0 hb)⟩
theorem SeenN.more {w w' : World} {a : Option Addr} {n : Nat} {l : List Int} (h : SeenN w a n l) (hk : Keeps None w w') : SeenN w' a n l := h.kept hk (fun _ _ _ _ f => f)
theorem SeenN.at {w : World} {a : Option Addr} {n : Nat} {l : List Int} (h : SeenN w a n l) {k : Nat} (hk : k < n) : ∃ b off i, a = some ⟨b, off, none⟩ ∧ l[k]? = some i ∧ w.cell? ⟨b, off + k, none⟩ = some (.int .i64 i) := by
  obtain ⟨b, off, rfl, hb, hc⟩ := h.ex (by omega)
  have hl := h.len
  exact ⟨b, off, l[k]'(by omega), rfl, by simp, hc k _ (by simp)⟩
theorem SeenN.lt {w : World} {a : Option Addr} {n : Nat} {l : List Int} (h : SeenN w a n l) : ∀ x, a = some x → 0 < n → x.block < w.heap.size := by
  intro x hx h0
  obtain ⟨b, off, e, hb, _⟩ := h.ex h0
  rw [e] at hx
  injection hx with hx
  subst hx
  exact hb
/-- The first m of them. -/
theorem SeenN.take {w : World} {a : Option Addr} {n : Nat} {l : List Int} (h : SeenN w a n l) {m : Nat} (hm : m ≤ n) : SeenN w a m (l.take m) := by
  have hl := h.len
  refine ⟨by simp; omega, fun h0 => ?_⟩
  obtain ⟨b, off, e, hb, hc⟩ := h.ex (by omega)
  refine ⟨b, off, e, hb, fun k i hi => hc k i ?_⟩
  rw [List.getElem?_take] at hi
  split at hi
  · exact hi
  · cases hi
theorem row_elem {w : World} {base : Nat} {a : Option Addr} {n c : Nat} {l : List Int} {k : Nat} {x : Int} (h : w.ownsRow base 3 1 (.slice a n c) n (iv l)) (hx : l[k]? = some x) :
    ∃ g, a = some ⟨g, 0, none⟩ ∧ base ≤ g ∧ g < w.heap.size ∧ n ≤ c ∧ c ≤ maxLen ∧ w.cell? ⟨g, k, none⟩ = some (.int .i64 x) ∧ ∀ i, w.frozen? ⟨g, i, none⟩ = false := by
  have hlen : l.length = n := by have := h.1; rw [iv_len] at this; omega
  have hk := (List.getElem?_eq_some_iff.1 hx).1
  rcases h.2 with ⟨_, h1⟩ | ⟨g, cap, cur, hv, hbg, hg, hnc, hcm, hcs, htake⟩
  · omega
  · injection hv with e1 e2 e3
    subst e1 e3
    have hcell : ∀ j u, (iv l)[j]? = some u → w.cell? ⟨g, j, none⟩ = some u := by
      intro j u this
      rw [blk_cell hg]
      rw [← htake, List.getElem?_take] at this
      split at this
      · simpa using this
      · cases this
    exact ⟨g, rfl, hbg, (Array.getElem?_eq_some_iff.1 hg).1, hnc, hcm, hcell _ _ (iv_at l k x hx), fun i => blk_free hg i⟩
theorem row_len {w : World} {base : Nat} {v : Value} {n : Nat} {l : List Int} (h : w.ownsRow base 3 1 v n (iv l)) : n = l.length := by
  have := h.1
  rw [iv_len] at this
  omega
theorem row_seen {w : World} {base : Nat} {a : Option Addr} {n c : Nat} {l : List Int} (h : w.ownsRow base 3 1 (.slice a n c) n (iv l)) : SeenN w a n l := by
  have hl := row_len h
  refine ⟨hl, fun h0 => ?_⟩
  obtain ⟨g, rfl, _, hlt, _⟩ := row_elem h (k := 0) (x := l[0]'(by omega)) (List.getElem?_eq_getElem _)
  refine ⟨g, 0, rfl, hlt, fun i e hi => ?_⟩
  obtain ⟨g', e', _, _, _, _, h1, _⟩ := row_elem h hi
  injection e' with e'
  injection e' with e'
  subst e'
  rw [Nat.zero_add]
  exact h1
theorem row_setI {w : World} {base g n cap : Nat} {l : List Int} (h : w.ownsRow base 3 1 (.slice (some ⟨g, 0, none⟩) n cap) n (iv l)) (k : Nat) (x : Int) :
    (w.setCell ⟨g, k, none⟩ (.int .i64 x)).ownsRow base 3 1 (.slice (some ⟨g, 0, none⟩) n cap) n (iv (l.set k x)) := by
  have := row_set h k (.int .i64 x)
  rwa [show (iv l).set k (Value.int .i64 x) = iv (l.set k x) by simp [iv]] at this
/-- 'append(l, x)' of a number. -/
theorem int_more (base : Nat) (s : Value) (l : List Int) (x : Int) (n ty g0 : Nat) (w : World) (hn : n = l.length) (h : w.ownsRow base 3 1 s n (iv l)) (hb : base ≤ w.heap.size) (hlen : (n + 1) * 8 ≤ 140737488355328)
    (hg0 : w.heap[g0]? = some (.cells #[.int .i64 x] 3 (0, 0))) :
    ∃ g cap w', (Builtin.append_ #[22, 22] ty #[s, .slice (some ⟨g0, 0, none⟩) 1 1]).run Tryd.prog w = .ok (.slice (some ⟨g, 0, none⟩) (n + 1) cap) w' ∧
      w'.ownsRow base 3 1 (.slice (some ⟨g, 0, none⟩) (n + 1) cap) (n + 1) (iv (l ++ [x])) ∧ Keeps (fun k => s.ownBlock = some k) w w' ∧ (s.ownBlock = some g ∨ w.heap.size ≤ g) := by
  obtain ⟨i0, hi, hz0, hz1, hz2⟩ := info_parts Tryd.infoInt
  obtain ⟨v', w1, hr, ho, hgr, hm, -⟩ := run_append_moved (P := Tryd.prog) w base 22 ty 3 i0 _ 1 8 Tryd.underlying22 hi hz0 hz1 hz2 rfl (by decide) s n _ h
    ⟨g0, 0, none⟩ 1 1 [.int .i64 x] rfl (by
      intro j u hu
      rw [show (⟨g0, 0, none⟩ : Addr).add j = ⟨g0, j, none⟩ by unfold Addr.add; split <;> simp_all, blk_cell hg0]
      simpa using hu) (by
      intro u hu
      simp at hu
      subst hu; rfl) (by unfold maxLen; omega) hlen hb
  obtain ⟨g, cap, rfl⟩ : ∃ g cap, v' = .slice (some ⟨g, 0, none⟩) (n + 1) cap := by
    rcases ho.2 with ⟨_, h0⟩ | ⟨b, cap, cur, rfl, _⟩
    · omega
    · exact ⟨b, cap, rfl⟩
  refine ⟨g, cap, w1, hr, by simpa [iv] using ho, (Keeps.refl _ w).andGrown hgr (fun k e => .inl e), ?_⟩
  rcases hm with hm | ⟨g', e, hg⟩
  · exact .inl (hm.symm.trans rfl)
  · simp [Value.ownBlock] at e; exact .inr (by omega)
def upd {α : Type} (f : Nat → α) (k : Nat) (v : α) (j : Nat) : α := if j = k then v else f j
theorem range_at {α : Type} (n k : Nat) (O : Nat → α) (hk : k < n) : ((List.range n).map O).toArray[k]? = some (O k) := by
  simp [hk]
theorem range_set {α : Type} (n k : Nat) (O : Nat → α) (v : α) : (((List.range n).map O).toArray.setIfInBounds k v) = ((List.range n).map (fun j => if j = k then v else O j)).toArray := by
  apply Array.ext
  · simp
  · intro i h1 h2
    by_cases h : k = i
    · simp [h]
    · simp [h, Ne.symm h]
theorem made_one (z : Value) (hz : z.cells = #[z]) (n : Nat) : madeCells z.cells n = ((List.range n).map (fun _ => z)).toArray := by
  rw [hz]
  apply Array.ext
  · simp [madeCells]
  · intro i h1 h2
    simp [madeCells, Nat.mod_one]
/-- A block that holds n numbers. -/
def IsN (w : World) (g n : Nat) (F : Nat → Int) : Prop := w.heap[g]? = some (.cells ((List.range n).map (fun k => Value.int .i64 (F k))).toArray 3 (0, 0))
theorem IsN.at {w : World} {g n : Nat} {F : Nat → Int} (h : IsN w g n F) {k : Nat} (hk : k < n) : w.cell? ⟨g, k, none⟩ = some (.int .i64 (F k)) := by
  rw [blk_cell h, range_at n k _ hk]
theorem IsN.free {w : World} {g n : Nat} {F : Nat → Int} (h : IsN w g n F) (k : Nat) : w.frozen? ⟨g, k, none⟩ = false := blk_free h k
theorem IsN.kept {w w' : World} {S : Nat → Prop} {g n : Nat} {F : Nat → Int} (h : IsN w g n F) (hk : Keeps S w w') (hS : ¬ S g) : IsN w' g n F := blk_kept h hk hS
theorem IsN.more {w w' : World} {g n : Nat} {F : Nat → Int} (h : IsN w g n F) (hk : Keeps None w w') : IsN w' g n F := blk_kept h hk (fun f => f)
theorem IsN.set {w : World} {g n : Nat} {F : Nat → Int} (h : IsN w g n F) (k : Nat) (x : Int) : IsN (w.setCell ⟨g, k, none⟩ (.int .i64 x)) g n (upd F k x) := by
  unfold IsN
  rw [blk_set h, range_set]
  congr 4
  funext j
  unfold upd
  split <;> rfl
theorem IsN.congr {w : World} {g n : Nat} {F G : Nat → Int} (h : IsN w g n F) (e : ∀ k, k < n → F k = G k) : IsN w g n G := by
  unfold IsN at h ⊢
  rw [h]
  congr 3
  apply List.map_congr_left
  intro k hk
  rw [e k (List.mem_range.1 hk)]
theorem IsN.row {w : World} {g n : Nat} {F : Nat → Int} (h : IsN w g n F) (base : Nat) (hb : base ≤ g) (hn : n ≤ 1099511627776) : w.ownsRow base 3 1 (.slice (some ⟨g, 0, none⟩) n n) n (iv ((List.range n).map F)) := by
  refine ⟨by simp [iv], .inr ⟨g, n, _, rfl, hb, h, Nat.le_refl _, by unfold maxLen; omega, by simp, ?_⟩⟩
  rw [List.take_of_length_le (by simp)]
  simp [iv, Function.comp_def]
theorem IsN.lt {w : World} {g n : Nat} {F : Nat → Int} (h : IsN w g n F) : g < w.heap.size := blk_lt h
theorem IsN.seen {w : World} {g n : Nat} {F : Nat → Int} (h : IsN w g n F) : SeenN w (some ⟨g, 0, none⟩) n ((List.range n).map F) := by
  refine ⟨by simp, fun h0 => ⟨g, 0, rfl, h.lt, fun k i hi => ?_⟩⟩
  have hk : k < n := by have := (List.getElem?_eq_some_iff.1 hi).1; simpa using this
  rw [Nat.zero_add, h.at hk]
  simp [hk] at hi
  rw [hi]
theorem make_ints (n : Nat) (w : World) (hn : n ≤ 1099511627776) : (Instr.makeSlice 22 (.int .i64 n) (.int .i64 n)).run Tryd.prog w = .ok (.slice (some ⟨w.heap.size, 0, none⟩) n n) (w.alloc (.cells ((List.range n).map (fun _ => Value.int .i64 0)).toArray 3)) := by
  obtain ⟨i0, hi, hz0, hz1, hz2⟩ := info_parts Tryd.infoInt
  obtain ⟨M, hM, _, hr⟩ := run_make_block (P := Tryd.prog) (w := w) 22 3 i0 _ 1 8 Tryd.underlying22 hi hz0 hz1 hz2 n (by omega) (by omega)
  rw [made_one _ rfl, Nat.mul_one] at hM
  rw [hr, hM]
theorem isN_new (w : World) (n g : Nat) (hg : w.heap.size = g) : IsN (w.alloc (.cells ((List.range n).map (fun _ => Value.int .i64 0)).toArray 3)) g n (fun _ => 0) := blk_new _ _ _ hg
theorem step_make_run {P : Program} {w : World} {ops : Array Oper} {o : Oper} {a : Act} {K : Act → World → Prop} {Q : Exit → Act → World → Prop} {E : Prop}
    (hg : o.guard = none) (l c : Operand) (t : TypeId) (hop : o.op = Op.makeSlice t l c)
    {vl vc v' : Value} {w' : World} (hl : a.eval l = vl) (hc : a.eval c = vc)
    (hr : (Instr.makeSlice t vl vc).run P w = .ok v' w') (hK : K (a.put o.dst v') w') :
    if Region.wanted o (yielded ops a.tmps) = true then Oper.wp P o a w K Q else E := by
  have hw : Region.wanted o (yielded ops a.tmps) = true := by simp [Region.wanted, hg]
  rw [if_pos hw]
  unfold Oper.wp
  simp [execOp, hop, hl, hc, hr, Result.andThen]
  exact hK
end Go.Proofs.YtbeblgeiafkniaaDoor
