import Derived.WalkKit
import Derived.Laws.CopyOwn
import Derived.Deep.RegionLaw
import Derived.ArgAppend
import Derived.Test.YtdiabpoafennlabRows
import Derived.OwnWalk
import Derived.Deep.QuietTactic
import Derived.BigQuiet
/-! Memory: which blocks a call leaves as they were; rows of the call's own that are appended to, and whose block stays or is new. Whatever the program. -/
namespace Go.HeapKit
open Go.RowKit

/-- All blocks but those of S stand as they stood. -/
structure Keeps (S : Nat → Prop) (w w' : World) : Prop where
  os : w'.os = w.os
  tape : w'.tape = w.tape
  output : w'.output = w.output
  size : w.heap.size ≤ w'.heap.size
  block : ∀ k, k < w.heap.size → ¬ S k → w'.heap[k]? = w.heap[k]?

def None : Nat → Prop := fun _ => False

theorem Keeps.refl (S : Nat → Prop) (w : World) : Keeps S w w := ⟨rfl, rfl, rfl, Nat.le_refl _, fun _ _ _ => rfl⟩
theorem Keeps.trans {S T : Nat → Prop} {a b c : World} (h : Keeps S a b) (k : Keeps T b c) (hT : ∀ i, T i → i < a.heap.size → S i) : Keeps S a c :=
  ⟨k.os.trans h.os, k.tape.trans h.tape, k.output.trans h.output, Nat.le_trans h.size k.size,
   fun i hi hn => (k.block i (Nat.lt_of_lt_of_le hi h.size) (fun t => hn (hT i t hi))).trans (h.block i hi hn)⟩
theorem Keeps.mono {S T : Nat → Prop} {a b : World} (h : Keeps S a b) (hT : ∀ i, S i → i < a.heap.size → T i) : Keeps T a b :=
  ⟨h.os, h.tape, h.output, h.size, fun i hi hn => h.block i hi (fun s => hn (hT i s hi))⟩
theorem Keeps.drew (S : Nat → Prop) (w : World) : Keeps S w w.drew := ⟨rfl, rfl, rfl, Nat.le_refl _, fun _ _ _ => rfl⟩
theorem Keeps.alloc (S : Nat → Prop) (w : World) (o : Obj) : Keeps S w (w.alloc o) := ⟨rfl, rfl, rfl, by simp, fun k hk _ => Below.heap_alloc _ _ _ hk⟩
theorem Keeps.setCell {S : Nat → Prop} (w : World) {a : Addr} (ha : S a.block) (v : Value) : Keeps S w (w.setCell a v) :=
  ⟨rfl, rfl, rfl, by simp [World.setCell], fun k _ hn => Below.heap_setCell _ _ _ _ (fun e => hn (e ▸ ha))⟩
theorem Keeps.grown {S : Nat → Prop} {w w' : World} {row : Option Nat} (hg : w.grownBy w' row) (hr : ∀ k, row = some k → S k) : Keeps S w w' :=
  ⟨hg.os, hg.tape, hg.output, hg.size, fun k hk hn => hg.block k hk (fun e => hn (hr k e.symm))⟩
theorem Keeps.andAlloc {S : Nat → Prop} {a b : World} (h : Keeps S a b) (o : Obj) : Keeps S a (b.alloc o) := h.trans (Keeps.alloc None b o) (fun _ f _ => f.elim)
theorem Keeps.andDrew {S : Nat → Prop} {a b : World} (h : Keeps S a b) : Keeps S a b.drew := h.trans (Keeps.drew None b) (fun _ f _ => f.elim)
theorem Keeps.andSet {S : Nat → Prop} {a b : World} (h : Keeps S a b) {x : Addr} (hx : S x.block ∨ a.heap.size ≤ x.block) (v : Value) : Keeps S a (b.setCell x v) :=
  h.trans (Keeps.setCell (S := (· = x.block)) b rfl v) (fun i e hi => by subst e; rcases hx with hx | hx; exact hx; omega)
theorem Keeps.andGrown {S : Nat → Prop} {a b c : World} {row : Option Nat} (h : Keeps S a b) (hg : b.grownBy c row) (hr : ∀ k, row = some k → S k ∨ a.heap.size ≤ k) : Keeps S a c :=
  h.trans (Keeps.grown (S := fun k => row = some k) hg (fun _ e => e)) (fun i e hi => by rcases hr i e with hx | hx; exact hx; omega)
theorem Keeps.below {S : Nat → Prop} {w w' : World} (h : Keeps S w w') (B : Nat) (hB : B ≤ w.heap.size) (hS : ∀ k, S k → B ≤ k) : Below B w w' :=
  ⟨h.os, h.tape, h.output, h.size, fun k hk => h.block k (by omega) (fun s => by have := hS k s; omega)⟩
theorem Keeps.cell {S : Nat → Prop} {w w' : World} (h : Keeps S w w') {a : Addr} {v : Value} (hc : w.cell? a = some v) (hn : ¬ S a.block) : w'.cell? a = some v := by
  have hlt : a.block < w.heap.size := by
    cases hb : w.heap[a.block]? with
    | none => simp [World.cell?, hb] at hc
    | some o => exact (Array.getElem?_eq_some_iff.1 hb).1
  exact (World.cell?_of_block (h.block _ hlt hn)).trans hc
theorem Keeps.own {S : Nat → Prop} {w w' : World} (h : Keeps S w w') {base : Nat} {e : TypeId} {size : Nat} {v : Value} {n : Nat} {xs : List Value} (ho : w.ownsRow base e size v n xs)
    (hn : ∀ k, v.ownBlock = some k → ¬ S k) : w'.ownsRow base e size v n xs := by
  refine ⟨ho.1, ?_⟩
  rcases ho.2 with h0 | ⟨g, cap, cur, rfl, hb, hg, r⟩
  · exact .inl h0
  · exact .inr ⟨g, cap, cur, rfl, hb, (h.block g (Array.getElem?_eq_some_iff.1 hg).1 (hn g rfl)).trans hg, r⟩

/-- The row's block is the one it was, or a new one. -/
def Moved (w : World) (v v' : Value) : Prop := v'.ownBlock = v.ownBlock ∨ ∃ g, v'.ownBlock = some g ∧ w.heap.size ≤ g
theorem Moved.refl (w : World) (v : Value) : Moved w v v := .inl rfl
theorem Moved.trans {w w1 : World} {v v1 v2 : Value} (h : Moved w v v1) (k : Moved w1 v1 v2) (hs : w.heap.size ≤ w1.heap.size) : Moved w v v2 := by
  rcases k with k | ⟨g, k, hg⟩
  · rcases h with h | ⟨g, h, hg⟩
    · exact .inl (k.trans h)
    · exact .inr ⟨g, k.trans h, hg⟩
  · exact .inr ⟨g, k, by omega⟩

theorem own_lt {w : World} {base : Nat} {e : TypeId} {size : Nat} {v : Value} {n : Nat} {xs : List Value} (h : w.ownsRow base e size v n xs) {g : Nat} (hg : v.ownBlock = some g) : g < w.heap.size := by
  rcases h.2 with ⟨rfl, _⟩ | ⟨g', cap, cur, rfl, _, hb, _⟩
  · simp [Value.ownBlock] at hg
  · simp [Value.ownBlock] at hg
    subst hg
    exact (Array.getElem?_eq_some_iff.1 hb).1
/-- Rows of different elements lie in different blocks. -/
theorem own_type {w : World} {base : Nat} {e : TypeId} {size : Nat} {v : Value} {n : Nat} {xs : List Value} (h : w.ownsRow base e size v n xs) {g : Nat} (hg : v.ownBlock = some g)
    {c : Array Value} {e' : TypeId} {fz : Nat × Nat} (hb : w.heap[g]? = some (.cells c e' fz)) : e = e' := by
  rcases h.2 with ⟨rfl, _⟩ | ⟨g', cap, cur, rfl, _, hb', _⟩
  · simp [Value.ownBlock] at hg
  · simp [Value.ownBlock] at hg
    subst hg
    rw [hb] at hb'
    simp at hb'
    exact hb'.2.1.symm
theorem own_block {w : World} {base : Nat} {e : TypeId} {size : Nat} {v : Value} {n : Nat} {xs : List Value} (h : w.ownsRow base e size v n xs) {g : Nat} (hg : v.ownBlock = some g) :
    ∃ c, w.heap[g]? = some (.cells c e (0, 0)) := by
  rcases h.2 with ⟨rfl, _⟩ | ⟨g', cap, cur, rfl, _, hb', _⟩
  · simp [Value.ownBlock] at hg
  · simp [Value.ownBlock] at hg
    subst hg
    exact ⟨cur, hb'⟩
theorem own_apart {w : World} {b1 b2 : Nat} {e1 e2 : TypeId} {s1 s2 : Nat} {v1 v2 : Value} {n1 n2 : Nat} {x1 x2 : List Value} (h1 : w.ownsRow b1 e1 s1 v1 n1 x1) (h2 : w.ownsRow b2 e2 s2 v2 n2 x2) (he : e1 ≠ e2) {g : Nat} (hg : v1.ownBlock = some g) :
    v2.ownBlock ≠ some g := by
  intro hg2
  obtain ⟨c, hc⟩ := own_block h2 hg2
  exact he (own_type h1 hg hc)

section
variable {P : Program} (w : World)

/-- 'append(s, x...)' on a row of the call's own: what it owns behind it; its block is the old one or new. -/
theorem run_append_moved (base : Nat) (t ty e : TypeId) (i : TypeInfo) (z : Value) (size bytes : Nat) (ht : P.underlying t = some (.slice e)) (hi : P.info? e = some i) (hz : i.zero = some z)
    (hsize : i.size = size) (hby : i.bytes = bytes) (hzs : z.cells.size = size) (hsz : 0 < size)
    (v : Value) (n : Nat) (xs : List Value) (hown : w.ownsRow base e size v n xs)
    (a : Addr) (m c : Nat) (news : List Value) (hl : news.length = m * size) (hnews : ∀ j u, news[j]? = some u → w.cell? (a.add j) = some u) (h1 : ∀ u ∈ news, u.oneCell' = true)
    (h63 : n + m ≤ maxLen) (hbytes : (n + m) * bytes ≤ 140737488355328) (hbase : base ≤ w.heap.size) :
    ∃ v' w', (Builtin.append_ #[t, t] ty #[v, .slice (some a) m c]).run P w = .ok v' w' ∧ w'.ownsRow base e size v' (n + m) (xs ++ news) ∧ w.grownBy w' v.ownBlock ∧ Moved w v v' ∧
      (v' = .slice none 0 0 ↔ v = .slice none 0 0 ∧ m = 0) := by
  obtain ⟨v', w', hr, ho, hg, hn⟩ := run_append_own (P := P) w base t ty e i z size bytes ht hi hz hsize hby hzs hsz v n xs hown a m c news hl hnews h1 h63 hbytes hbase
  refine ⟨v', w', hr, ho, hg, ?_, hn⟩
  subst hsize
  subst hby
  have hsmall : n + m ≤ 9223372036854775807 := by simp only [maxLen] at h63; omega
  rcases hown.2 with ⟨rfl, rfl⟩ | ⟨g, cap, cur, rfl, hbg, hgg, hnc, hcm, hcs, htake⟩
  · by_cases hm : m = 0
    · rw [hn.2 ⟨rfl, hm⟩]
      exact .inl rfl
    · have hr2 := run_append_nil (P := P) w t ty e i z ht hi hz a m c news hl hnews (by omega) (by omega) (by have hb := hbytes; simp only [Nat.zero_add] at hb; omega)
      rw [hr] at hr2
      injection hr2 with e1 e2
      exact .inr ⟨w.heap.size, by rw [e1]; rfl, Nat.le_refl _⟩
  · by_cases hroom : n + m ≤ cap
    · have hfit : n * i.size + news.length ≤ cur.size := by rw [hl, hcs, ← Nat.add_mul]; exact Nat.mul_le_mul_right _ hroom
      have hr2 := run_append_room (P := P) w t ty e i ht hi g n cap cur hgg a m c news hl hnews h1 hroom hfit
      rw [hr] at hr2
      injection hr2 with e1 e2
      exact .inl (by rw [e1]; rfl)
    · have holds : ∀ j u, xs[j]? = some u → w.cell? ((⟨g, 0, none⟩ : Addr).add j) = some u := hown.cells (g := g) rfl
      have hr2 := run_append_grow (P := P) w t ty e i z ht hi hz ⟨g, 0, none⟩ n cap xs hown.1 holds a m c news hl hnews (by omega) (by omega) (growslice_fits (by omega) hbytes)
      rw [hr] at hr2
      injection hr2 with e1 e2
      exact .inr ⟨w.heap.size, by rw [e1]; rfl, Nat.le_refl _⟩

variable {w}
/-- One step by its run's equation. -/
theorem wpList_append_run {ops : Array Oper} {rest : List Oper} {o : Oper} {a : Act} {Q : Exit → Act → World → Prop} (hgd : o.guard = none) (s x : Operand) (t t' : TypeId)
    (ho : o.op = .call { callee := .builtin .append, args := #[s, x], argTypes := #[t, t'] }) {v u v' : Value} {w' : World} (hs : a.eval s = v) (hx : a.eval x = u)
    (hr : (Builtin.append_ #[t, t'] o.type #[v, u]).run P w = .ok v' w') (h : wpList P ops Q rest (a.put o.dst v') w') : wpList P ops Q (o :: rest) a w :=
  wpList_plain hgd fun _ hK => by
    unfold Oper.wp execOp
    simp only [ho, resolve, invoke, builtin, Sem.run_bind, Sem.run_pure, Result.andThen_ok, List.map_toArray, List.map_cons, List.map_nil, hs, hx, hr]
    exact hK _ _ h

theorem step_append_run {ops : Array Oper} {o : Oper} {a : Act} {K : Act → World → Prop} {Q : Exit → Act → World → Prop} {E : Prop}
    (hg : o.guard = none) (s x : Operand) (t t' : TypeId) (hop : o.op = Op.call { callee := Callee.builtin Builtin.append, args := #[s, x], argTypes := #[t, t'] })
    {v u v' : Value} {w' : World} (hs : a.eval s = v) (hx : a.eval x = u)
    (hr : (Builtin.append_ #[t, t'] o.type #[v, u]).run P w = .ok v' w') (hK : K (a.put o.dst v') w') :
    if Region.wanted o (yielded ops a.tmps) = true then Oper.wp P o a w K Q else E := by
  have hw : Region.wanted o (yielded ops a.tmps) = true := by simp [Region.wanted, hg]
  rw [if_pos hw]
  unfold Oper.wp
  simp [execOp, hop, resolve, invoke, builtin, hs, hx, hr, Result.andThen]
  exact hK

end
end Go.HeapKit
/-! Deeds, plainly; lists of them in memory. -/
namespace Go.Proofs.Ytdiabpoafennlab
set_option linter.unusedVariables false
set_option maxRecDepth 20000
open Go.RowKit Go.HeapKit

theorem blk_cell {w : World} {p : Nat} {c : Array Value} {t : TypeId} {fz : Nat × Nat} (h : w.heap[p]? = some (.cells c t fz)) (i : Nat) : w.cell? ⟨p, i, none⟩ = c[i]? := by
  simp [World.cell?, h]
theorem blk_free {w : World} {p : Nat} {c : Array Value} {t : TypeId} (h : w.heap[p]? = some (.cells c t (0, 0))) (i : Nat) : w.frozen? ⟨p, i, none⟩ = false := by
  simp [World.frozen?, h]
theorem blk_set {w : World} {p i : Nat} {c : Array Value} {t : TypeId} {fz : Nat × Nat} (h : w.heap[p]? = some (.cells c t fz)) (v : Value) :
    (w.setCell ⟨p, i, none⟩ v).heap[p]? = some (.cells (c.setIfInBounds i v) t fz) := by
  simp [World.setCell, Array.getElem?_modify, h]
theorem blk_new (w : World) (o : Obj) (n : Nat) (hn : w.heap.size = n) : (w.alloc o).heap[n]? = some o := by subst hn; exact heap_alloc_new w o
theorem blk_lt {w : World} {p : Nat} {o : Obj} (h : w.heap[p]? = some o) : p < w.heap.size := (Array.getElem?_eq_some_iff.1 h).1
theorem row_shape {w : World} {base : Nat} {e : TypeId} {size : Nat} {v : Value} {n : Nat} {xs : List Value} (h : w.ownsRow base e size v n xs) : ∃ ao cap, v = .slice ao n cap := by
  rcases h.2 with ⟨rfl, rfl⟩ | ⟨g, cap, cur, rfl, _⟩
  · exact ⟨none, 0, rfl⟩
  · exact ⟨_, cap, rfl⟩
theorem row_base {w : World} {base base' : Nat} {e : TypeId} {size : Nat} {v : Value} {n : Nat} {xs : List Value} (h : w.ownsRow base e size v n xs) (hb : base' ≤ base) : w.ownsRow base' e size v n xs := by
  refine ⟨h.1, ?_⟩
  rcases h.2 with h | ⟨g, cap, cur, hv, hbg, r⟩
  · exact .inl h
  · exact .inr ⟨g, cap, cur, hv, Nat.le_trans hb hbg, r⟩
theorem row_low {w : World} {base : Nat} {e : TypeId} {size : Nat} {v : Value} {n : Nat} {xs : List Value} (h : w.ownsRow base e size v n xs) {g : Nat} (hg : v.ownBlock = some g) : base ≤ g := by
  rcases h.2 with ⟨rfl, rfl⟩ | ⟨g', cap, cur, rfl, hbg, r⟩
  · simp [Value.ownBlock] at hg
  · simp [Value.ownBlock] at hg; omega
/-- A row stands while its block does. -/
theorem row_kept {S : Nat → Prop} {w w' : World} {base : Nat} {e : TypeId} {size : Nat} {v : Value} {n : Nat} {xs : List Value} (ho : w.ownsRow base e size v n xs) (h : Keeps S w w') (hS : ∀ g, v.ownBlock = some g → ¬ S g) : w'.ownsRow base e size v n xs := h.own ho hS
theorem row_nil (w : World) (base : Nat) (e : TypeId) (size : Nat) : w.ownsRow base e size (.slice none 0 0) 0 [] := ⟨by simp, .inl ⟨rfl, rfl⟩⟩
theorem row_set {w : World} {base : Nat} {e : TypeId} {size g n cap : Nat} {xs : List Value} (h : w.ownsRow base e size (.slice (some ⟨g, 0, none⟩) n cap) n xs) (k : Nat) (v : Value) :
    (w.setCell ⟨g, k, none⟩ v).ownsRow base e size (.slice (some ⟨g, 0, none⟩) n cap) n (xs.set k v) := by
  rcases h.2 with ⟨h0, _⟩ | ⟨g', cap', cur, he, hb, hg, hn, hm, hcs, ht⟩
  · cases h0
  · injection he with e1 e2 e3
    injection e1 with e1
    injection e1 with e1
    subst e1 e3
    refine ⟨by simpa using h.1, .inr ⟨g, cap, cur.setIfInBounds k v, rfl, hb, blk_set hg v, hn, hm, by simpa using hcs, ?_⟩⟩
    rw [Array.toList_setIfInBounds, List.take_set, ht]
theorem keeps_one {w0 w : World} {g o : Nat} (h : Keeps (· = g) w0 w) (v : Value) : Keeps (· = g) w0 (w.setCell ⟨g, o, none⟩ v) := h.andSet (x := ⟨g, o, none⟩) (.inl rfl) v

structure Dd where
  k : Int
  loc : Int
deriving DecidableEq
def Dd.vals (c : Dd) : List Value := [.int .i64 c.k, .int .i64 c.loc]
theorem Dd.vals_length (c : Dd) : c.vals.length = 2 := rfl
def ddVals (l : List Dd) : List Value := l.flatMap Dd.vals
theorem ddVals_length (l : List Dd) : (ddVals l).length = l.length * 2 := by
  induction l with
  | nil => rfl
  | cons x l ih => simp only [ddVals, List.flatMap_cons, List.length_append, Dd.vals_length, List.length_cons] at ih ⊢; omega
theorem ddVals_append (a b : List Dd) : ddVals (a ++ b) = ddVals a ++ ddVals b := by simp [ddVals]
theorem ddVals_one (c : Dd) : ddVals [c] = c.vals := by simp [ddVals]
theorem ddVals_at (l : List Dd) (k : Nat) (x : Dd) (h : l[k]? = some x) (j : Nat) (u : Value) (hu : x.vals[j]? = some u) : (ddVals l)[k * 2 + j]? = some u := by
  have hj : j < 2 := by have := (List.getElem?_eq_some_iff.1 hu).1; simpa [Dd.vals] using this
  induction l generalizing k with
  | nil => simp at h
  | cons y l ih =>
    have e : ddVals (y :: l) = y.vals ++ ddVals l := rfl
    rw [e]
    cases k with
    | zero => simp at h; subst h; rw [List.getElem?_append_left (by rw [Dd.vals_length]; omega)]; simpa using hu
    | succ k =>
      rw [List.getElem?_append_right (by rw [Dd.vals_length]; omega), Dd.vals_length, show (k + 1) * 2 + j - 2 = k * 2 + j by omega]
      exact ih k (by simpa using h)

/-- The two cells of a deed. -/
structure C2 (w : World) (b o : Nat) (x : Dd) : Prop where
  c0 : w.cell? ⟨b, o, none⟩ = some (.int .i64 x.k)
  c1 : w.cell? ⟨b, o + 1, none⟩ = some (.int .i64 x.loc)

/-- A list of deeds that can be read. -/
structure Seen (w : World) (a : Option Addr) (n : Nat) (l : List Dd) : Prop where
  len : n = l.length
  ex : 0 < n → ∃ b off, a = some ⟨b, off, none⟩ ∧ b < w.heap.size ∧ ∀ k x, l[k]? = some x → C2 w b (off + k * 2) x
def blockOf (a : Option Addr) : Option Nat := a.map (·.block)
theorem C2.kept {w w' : World} {b o : Nat} {x : Dd} (h : C2 w b o x) {S : Nat → Prop} (hk : Keeps S w w') (hS : ¬ S b) : C2 w' b o x :=
  ⟨hk.cell h.c0 hS, hk.cell h.c1 hS⟩
theorem Seen.kept {w w' : World} {a : Option Addr} {n : Nat} {l : List Dd} (h : Seen w a n l) {S : Nat → Prop} (hk : Keeps S w w') (hS : 0 < n → ∀ b, blockOf a = some b → b < w.heap.size → ¬ S b) : Seen w' a n l := by
  refine ⟨h.len, fun h0 => ?_⟩
  obtain ⟨b, off, rfl, hb, hc⟩ := h.ex h0
  exact ⟨b, off, rfl, Nat.lt_of_lt_of_le hb hk.size, fun k x hx => (hc k x hx).kept hk (hS h0 b rfl hb)⟩
theorem Seen.low {w : World} {a : Option Addr} {n : Nat} {l : List Dd} (h : Seen w a n l) (h0 : 0 < n) {b : Nat} (hb : blockOf a = some b) : b < w.heap.size := by
  obtain ⟨b', off, rfl, hlt, _⟩ := h.ex h0
  simp [blockOf] at hb
  omega
theorem Seen.more {w w' : World} {a : Option Addr} {n : Nat} {l : List Dd} (h : Seen w a n l) (hk : Keeps None w w') : Seen w' a n l := h.kept hk (fun _ _ _ _ f => f)
theorem Seen.below {w w' : World} {a : Option Addr} {n B : Nat} {l : List Dd} (h : Seen w a n l) (hk : Keeps (fun i => B ≤ i) w w') (hB : w.heap.size ≤ B) : Seen w' a n l := h.kept hk (fun _ _ _ h1 h2 => by omega)
/-- One element, as it is read. -/
theorem Seen.elem {w : World} {a : Option Addr} {n : Nat} {l : List Dd} (h : Seen w a n l) {k : Nat} (hk : k < n) : ∃ b off x, a = some ⟨b, off, none⟩ ∧ b < w.heap.size ∧ l[k]? = some x ∧ C2 w b (off + k * 2) x := by
  obtain ⟨b, off, rfl, hb, hc⟩ := h.ex (by omega)
  obtain ⟨x, hx⟩ : ∃ x, l[k]? = some x := ⟨l[k]'(by have := h.len; omega), by simp⟩
  exact ⟨b, off, x, rfl, hb, hx, hc k x hx⟩

theorem Try.infoDeed : (Try.prog.info? 44).map (fun i => (i.zero, i.size, i.bytes)) = some (some (.agg #[.int .i64 0, .int .i64 0]), 2, 16) := by kernel_rfl

theorem row_elem {w : World} {base : Nat} {a : Option Addr} {n c : Nat} {l : List Dd} {k : Nat} {x : Dd} (h : w.ownsRow base 44 2 (.slice a n c) n (ddVals l)) (hx : l[k]? = some x) :
    ∃ g, a = some ⟨g, 0, none⟩ ∧ base ≤ g ∧ g < w.heap.size ∧ n ≤ c ∧ C2 w g (k * 2) x ∧ ∀ i, w.frozen? ⟨g, i, none⟩ = false := by
  have hlen : l.length * 2 = n * 2 := by have := h.1; rw [ddVals_length] at this; exact this
  have hk := (List.getElem?_eq_some_iff.1 hx).1
  rcases h.2 with ⟨_, h1⟩ | ⟨g, cap, cur, hv, hbg, hg, hnc, hcm, hcs, htake⟩
  · omega
  · injection hv with e1 e2 e3
    subst e1 e3
    have hcell : ∀ j u, x.vals[j]? = some u → w.cell? ⟨g, k * 2 + j, none⟩ = some u := by
      intro j u hu
      have := ddVals_at l k x hx j u hu
      rw [blk_cell hg]
      rw [← htake, List.getElem?_take] at this
      split at this
      · simpa using this
      · cases this
    exact ⟨g, rfl, hbg, (Array.getElem?_eq_some_iff.1 hg).1, hnc, ⟨hcell 0 _ rfl, hcell 1 _ rfl⟩, fun i => blk_free hg i⟩
theorem Seen.of_row {w : World} {base : Nat} {a : Option Addr} {n c : Nat} {l : List Dd} (hl : n = l.length) (h : w.ownsRow base 44 2 (.slice a n c) n (ddVals l)) : Seen w a n l := by
  refine ⟨hl, fun h0 => ?_⟩
  obtain ⟨g, rfl, _, hlt, _⟩ := row_elem (k := 0) h (List.getElem?_eq_getElem (by omega))
  refine ⟨g, 0, rfl, hlt, fun k x hx => ?_⟩
  obtain ⟨g', e, _, _, _, hc, _⟩ := row_elem h hx
  injection e with e
  injection e with e
  subst e
  simpa using hc
/-- 'append(s, d)' of a deed. -/
theorem deed_more (base : Nat) (s : Value) (l : List Dd) (x : Dd) (n ty : Nat) (w : World) (hn : n = l.length) (h : w.ownsRow base 44 2 s n (ddVals l)) (hb : base ≤ w.heap.size) (hlen : (n + 1) * 16 ≤ 140737488355328) {g0 : Nat}
    (hg0 : w.heap[g0]? = some (.cells #[.int .i64 x.k, .int .i64 x.loc] 44 (0, 0))) :
    ∃ g cap w', (Builtin.append_ #[22, 22] ty #[s, .slice (some ⟨g0, 0, none⟩) 1 1]).run Try.prog w = .ok (.slice (some ⟨g, 0, none⟩) (n + 1) cap) w' ∧
      w'.ownsRow base 44 2 (.slice (some ⟨g, 0, none⟩) (n + 1) cap) (n + 1) (ddVals (l ++ [x])) ∧ Keeps (fun k => s.ownBlock = some k) w w' ∧ (s.ownBlock = some g ∨ w.heap.size ≤ g) := by
  obtain ⟨i0, hi, hz0, hz1, hz2⟩ := info_parts Try.infoDeed
  obtain ⟨v', w1, hr, ho, hgr, hm, -⟩ := run_append_moved (P := Try.prog) w base 22 ty 44 i0 _ 2 16 Try.underlying22 hi hz0 hz1 hz2 rfl (by decide) s n _ h
    ⟨g0, 0, none⟩ 1 1 x.vals rfl (by
      intro j u hu
      rw [show (⟨g0, 0, none⟩ : Addr).add j = ⟨g0, j, none⟩ by unfold Addr.add; split <;> simp_all, blk_cell hg0]
      simpa [Dd.vals] using hu) (by
      intro u hu
      simp [Dd.vals] at hu
      rcases hu with rfl | rfl <;> rfl) (by unfold maxLen; omega) hlen hb
  obtain ⟨g, cap, rfl⟩ : ∃ g cap, v' = .slice (some ⟨g, 0, none⟩) (n + 1) cap := by
    rcases ho.2 with ⟨_, h0⟩ | ⟨b, cap, cur, rfl, _⟩
    · omega
    · exact ⟨b, cap, rfl⟩
  refine ⟨g, cap, w1, hr, by rw [ddVals_append, ddVals_one]; exact ho, (Keeps.refl _ w).andGrown hgr (fun k e => .inl e), ?_⟩
  rcases hm with hm | ⟨g', e, hg⟩
  · exact .inl (hm.symm.trans rfl)
  · simp [Value.ownBlock] at e; exact .inr (by omega)
theorem ddVals_set (l : List Dd) (k : Nat) (x : Dd) (hk : k < l.length) : ((ddVals l).set (k * 2) (.int .i64 x.k)).set (k * 2 + 1) (.int .i64 x.loc) = ddVals (l.set k x) := by
  induction l generalizing k with
  | nil => simp at hk
  | cons y l ih =>
    have e : ddVals (y :: l) = y.vals ++ ddVals l := rfl
    cases k with
    | zero => rfl
    | succ k =>
      have h1 := ih k (by simpa using hk)
      have e2 : ddVals ((y :: l).set (k + 1) x) = y.vals ++ ddVals (l.set k x) := rfl
      rw [e, e2, ← h1]
      have hs : ∀ (xs : List Value) (j : Nat) (u : Value), (y.vals ++ xs).set ((k + 1) * 2 + j) u = y.vals ++ xs.set (k * 2 + j) u := by
        intro xs j u
        rw [List.set_append_right _ _ (by rw [Dd.vals_length]; omega), Dd.vals_length, show (k + 1) * 2 + j - 2 = k * 2 + j by omega]
      have h0 := hs (ddVals l) 0 (.int .i64 x.k)
      simp only [Nat.add_zero] at h0
      rw [h0, hs]
end Go.Proofs.Ytdiabpoafennlab
/-! Check: the program's and the document's. -/
namespace Go.Proofs.Ytdiabpoafennlab
set_option linter.unusedVariables false
set_option maxRecDepth 20000
set_option linter.unusedSimpArgs false
open Go.RowKit Go.HeapKit

theorem blk_kept {w w' : World} {S : Nat → Prop} {p : Nat} {o : Obj} (h : w.heap[p]? = some o) (hk : Keeps S w w') (hS : ¬ S p) : w'.heap[p]? = some o := (hk.block p (blk_lt h) hS).trans h
theorem cell_of_heap {w : World} {g : Nat} {cs : Array Value} {t : TypeId} {fz : Nat × Nat} (h : w.heap[g]? = some (.cells cs t fz)) (i : Nat) : w.cell? ⟨g, i, none⟩ = cs[i]? := by simp [World.cell?, h]
/-- Is a deed wrong at a depth; the depth behind it. -/
def badK (k : Int) (d : Nat) : Bool := decide (k < 0) || decide (k > 4) || (decide (k = 1) && decide (d = 0))
def nxtK (k : Int) (d : Nat) : Nat := if k = 0 then d + 1 else if k = 1 then d - 1 else d
def chkL : List Dd → Nat → Nat → Option Nat
  | [], _, _ => none
  | x :: l, i, d => if badK x.k d = true then some i else chkL l (i + 1) (nxtK x.k d)
def chkE (l : List Dd) : Int := if l.length > 4096 then 2 else match chkL l 0 0 with | some _ => 190 | none => 0
def chkA (l : List Dd) : Int := if l.length > 4096 then 0 else match chkL l 0 0 with | some i => i | none => 0
theorem chkL_step {l : List Dd} {k : Nat} {x : Dd} (hx : l[k]? = some x) (i d : Nat) : chkL (l.drop k) i d = if badK x.k d = true then some i else chkL (l.drop (k + 1)) (i + 1) (nxtK x.k d) := by
  obtain ⟨h1, h2⟩ := List.getElem?_eq_some_iff.1 hx
  rw [List.drop_eq_getElem_cons h1, h2]
  rfl
def spotV (e a : Int) : Value := .agg #[.int .i64 e, .int .i64 a]
theorem results_one {P : Program} {fn : Func} {q : Tmp} {ty : TypeId} (h : fn.results = #[.cell q ty]) {tmps : Array Value} {w : World} {g : Nat} (ha : tmps.getD q undef = .pointer (some ⟨g, 0, none⟩)) {v : Value}
    (hl : (loadVar ty ⟨g, 0, none⟩).run P w = .ok v w) : (results fn tmps).run P w = .ok v w := by
  have ha' : tmps[q]?.getD undef = .pointer (some ⟨g, 0, none⟩) := by simpa using ha
  simp [results, h, ha', asAddr, hl]
theorem load_spot (w : World) (g : Nat) (t : TypeId) (e a : Int) (hb : w.heap[g]? = some (.cells #[.int .i64 e, .int .i64 a] t (0, 0))) : (loadVar 85 ⟨g, 0, none⟩).run Try.prog w = .ok (spotV e a) w :=
  run_loadVar_row _ g t 85 _ _ _ hb Try.underlying85 rfl (by kernel_rfl)
theorem spot_end {Q : Ending → World → Prop} {a : Act} {w1 : World} {g : Nat} {t : TypeId} {fn : Func} {e x : Int} (hfn : fn.results = #[.cell 2 85]) (hb : w1.heap[g]? = some (.cells #[.int .i64 e, .int .i64 x] t (0, 0)))
    (ha : a.tmps.getD 2 undef = .pointer (some ⟨g, 0, none⟩)) (hd : a.defers = []) (hQ : Q (.returned (spotV e x)) w1) : bodyPost Try.prog fn Q .ret a w1 :=
  bodyPost_ret (results_one (q := 2) (ty := 85) hfn ha (load_spot _ g t e x hb)) hd hQ
/-- The box of the answer while it is empty, and what is stored into it. -/
theorem spot_put {w0 w : World} {g : Nat} (hk : Keeps None w0 w) (hg : w0.heap.size ≤ g) (hb : w.heap[g]? = some (.cells #[.int .i64 0, .int .i64 0] 85 (0, 0))) (e x : Int) :
    ((w.setCell ⟨g, 0, none⟩ (.int .i64 e)).setCell ⟨g, 1, none⟩ (.int .i64 x)).heap[g]? = some (.cells #[.int .i64 e, .int .i64 x] 85 (0, 0)) ∧ Keeps None w0 ((w.setCell ⟨g, 0, none⟩ (.int .i64 e)).setCell ⟨g, 1, none⟩ (.int .i64 x)) :=
  ⟨blk_set (i := 1) (blk_set (i := 0) hb _) _, (hk.andSet (x := ⟨g, 0, none⟩) (.inr hg) _).andSet (x := ⟨g, 1, none⟩) (.inr hg) _⟩

/-- What is told by the first wrong one. -/
theorem chk_long {l : List Dd} (h : l.length > 4096) : chkE l = 2 ∧ chkA l = 0 := ⟨by unfold chkE; rw [if_pos h], by unfold chkA; rw [if_pos h]⟩
theorem chk_some {l : List Dd} (h : ¬ l.length > 4096) {i : Nat} (hc : chkL l 0 0 = some i) : chkE l = 190 ∧ chkA l = i := ⟨by unfold chkE; rw [if_neg h, hc], by unfold chkA; rw [if_neg h, hc]⟩
theorem chk_none {l : List Dd} (h : ¬ l.length > 4096) (hc : chkL l 0 0 = none) : chkE l = 0 ∧ chkA l = 0 := ⟨by unfold chkE; rw [if_neg h, hc], by unfold chkA; rw [if_neg h, hc]⟩
theorem spot_eq {l : List Dd} {e x : Int} (h : chkE l = e ∧ chkA l = x) : Ending.returned (spotV e x) = Ending.returned (spotV (chkE l) (chkA l)) := by rw [h.1, h.2]


set_option maxHeartbeats 1600000 in
theorem check_ok (a : Option Addr) (n c : Nat) (l : List Dd) (w : World) (hS : Seen w a n l) :
    Calls Try.prog 28 #[.slice a n c] w fun e w' => e = .returned (spotV (chkE l) (chkA l)) ∧ Keeps None w w' := by
  have HS : Hid (Seen w a n l) := hS
  have hlen : n = l.length := hS.len
  have HLen : Hid (n = l.length) := hlen
  clear hS
  have B0 := blk_new w (.cells #[.int .i64 0, .int .i64 0] 85) _ rfl
  have K0 := Keeps.alloc None w (.cells #[.int .i64 0, .int .i64 0] 85)
  by_cases hlong : n > 4096
  · have i1 : (n : Int) > 4096 := by omega
    have HE : Hid (chkE l = 2 ∧ chkA l = 0) := chk_long (by omega)
    clear hlen B0 K0
    go_enter Try.func28, Try.ntmps28
    go_wp2
    exact spot_end rfl (heap_alloc_new _ _) rfl rfl ⟨spot_eq HE.out, Keeps.alloc None w _⟩
  · have i1 : ¬ (n : Int) > 4096 := by omega
    have HShort : Hid (¬ l.length > 4096) := by intro; omega
    have HB : Hid (Keeps None w (w.alloc (.cells #[.int .i64 0, .int .i64 0] 85)) ∧ (w.alloc (.cells #[.int .i64 0, .int .i64 0] 85)).heap[w.heap.size]? = some (.cells #[.int .i64 0, .int .i64 0] 85 (0, 0))) := ⟨K0, B0⟩
    clear hlen B0 K0
    go_enter Try.func28, Try.ntmps28
    go_wp2_with fail
    go_loopw [3, 4, 5, 12] (fun d _ _ i wr => ∃ k dd : Nat, k ≤ n ∧ dd ≤ k ∧ i = .int .i64 k ∧ d = .int .i64 dd ∧ chkL l 0 0 = chkL (l.drop k) k dd ∧ Keeps None w wr ∧ wr.heap[w.heap.size]? = some (.cells #[.int .i64 0, .int .i64 0] 85 (0, 0))) (fun _ _ _ i _ => n - (intOf i).toNat)
    case atStart => exact ⟨0, 0, Nat.zero_le _, Nat.le_refl _, rfl, rfl, rfl, HB.out⟩
    case round =>
      clear HB
      obtain ⟨k, dd, hk, hdd, rfl, rfl, hch, hkp, hbox⟩ := hrel
      by_cases hkn : k < n
      · obtain ⟨b, off, x, rfl, hb, hx, u0, u1⟩ := (HS.out.more hkp).elem hkn
        have i2 : (k : Int) < (n : Int) := by omega
        have hch2 := hch.trans (chkL_step hx k dd)
        have kA := hkp.andAlloc (.cells #[.int .i64 x.k, .int .i64 x.loc] 44)
        have bB := (blk_kept hbox (Keeps.alloc None wr (.cells #[.int .i64 x.k, .int .i64 x.loc] 44)) (fun f => f))
        have HP := spot_put kA (Nat.le_refl _) bB 190 k
        have d0 := cell_of_heap bB 0
        have d1 := cell_of_heap bB 1
        have f0 := blk_free bB 0
        have f1 := blk_free bB 1
        by_cases hbad : badK x.k dd = true
        · rw [if_pos hbad] at hch2
          have HE : Hid (chkE l = 190 ∧ chkA l = k) := chk_some HShort.out hch2
          have HQ : Hid _ := HP
          clear HP hch hch2 hkp hbox kA bB hx
          have HBad : Hid (badK x.k dd = true) := hbad
          clear hbad
          by_cases n0 : x.k < 0
          · go_wp2
            exact spot_end rfl HQ.out.1 rfl rfl ⟨spot_eq HE.out, HQ.out.2⟩
          · by_cases n4 : x.k > 4
            · go_wp2
              exact spot_end rfl HQ.out.1 rfl rfl ⟨spot_eq HE.out, HQ.out.2⟩
            · have n1 : x.k = 1 ∧ dd = 0 := by have := HBad.out; unfold badK at this; simp [n0] at this; omega
              have e3 : x.k = 1 := n1.1
              have e4 : dd = 0 := n1.2
              subst e4
              clear n1 HBad
              obtain ⟨xk, xl⟩ := x
              simp only at e3
              subst e3
              go_wp2
              exact spot_end rfl HQ.out.1 rfl rfl ⟨spot_eq HE.out, HQ.out.2⟩
        · rw [if_neg hbad] at hch2
          have n0 : ¬ x.k < 0 := fun h => hbad (by unfold badK; simp [h])
          have n4 : ¬ x.k > 4 := fun h => hbad (by unfold badK; simp; omega)
          have n1 : ¬ (x.k = 1 ∧ dd = 0) := fun h => hbad (by unfold badK; simp [h.1, h.2])
          have HN : Hid (chkL l 0 0 = chkL (l.drop (k + 1)) (k + 1) (nxtK x.k dd) ∧ Keeps None w (wr.alloc (.cells #[.int .i64 x.k, .int .i64 x.loc] 44)) ∧ (wr.alloc (.cells #[.int .i64 x.k, .int .i64 x.loc] 44)).heap[w.heap.size]? = some (.cells #[.int .i64 0, .int .i64 0] 85 (0, 0))) := ⟨hch2, kA, bB⟩
          clear HP hch hch2 hkp hbox kA bB hx hbad d0 d1 f0 f1
          by_cases e0 : x.k = 0
          · have HE0 : Hid (x.k = 0) := e0
            clear n1
            go_wp2
            go_roundw
            case rel => exact ⟨k + 1, dd + 1, by omega, by omega, by go_num, by go_num, by have := HN.out; simpa [nxtK, HE0.out] using this⟩
            case measure => simp [intOf]; omega
          · by_cases e1 : x.k = 1
            · have n5 : ¬ (dd : Int) = 0 := by omega
              have HE1 : Hid (x.k = 1) := e1
              clear n1
              go_wp2
              go_roundw
              case rel => exact ⟨k + 1, dd - 1, by omega, by omega, by go_num, by go_num, by have := HN.out; simpa [nxtK, HE1.out] using this⟩
              case measure => simp [intOf]; omega
            · clear n1
              go_wp2
              go_roundw
              case rel => exact ⟨k + 1, dd, by omega, by omega, by go_num, by go_num, by have := HN.out; simpa [nxtK, e0, e1] using this⟩
              case measure => simp [intOf]; omega
      · have hkn2 : k = n := by omega
        have hch2 : chkL l 0 0 = none := by rw [hch, List.drop_eq_nil_of_le (by have := HLen.out; omega)]; rfl
        have HE : Hid (chkE l = 0 ∧ chkA l = 0) := chk_none HShort.out hch2
        subst hkn2
        have HP := spot_put hkp (Nat.le_refl _) hbox 0 0
        have d0 := cell_of_heap hbox 0
        have d1 := cell_of_heap hbox 1
        have f0 := blk_free hbox 0
        have f1 := blk_free hbox 1
        have HQ : Hid _ := HP
        clear HP hch hch2 hkp hbox
        go_wp2
        exact spot_end rfl HQ.out.1 rfl rfl ⟨spot_eq HE.out, HQ.out.2⟩

set_option maxHeartbeats 1600000 in
theorem rcheck_ok (a : Option Addr) (n c : Nat) (l : List Dd) (w : World) (hS : Seen w a n l) :
    Calls Try.prog 38 #[.slice a n c] w fun e w' => e = .returned (spotV (chkE l) (chkA l)) ∧ Keeps None w w' := by
  have HS : Hid (Seen w a n l) := hS
  have hlen : n = l.length := hS.len
  have HLen : Hid (n = l.length) := hlen
  clear hS
  have B0 := blk_new w (.cells #[.int .i64 0, .int .i64 0] 85) _ rfl
  have K0 := Keeps.alloc None w (.cells #[.int .i64 0, .int .i64 0] 85)
  by_cases hlong : n > 4096
  · have i1 : (n : Int) > 4096 := by omega
    have HE : Hid (chkE l = 2 ∧ chkA l = 0) := chk_long (by omega)
    clear hlen B0 K0
    go_enter Try.func38, Try.ntmps38
    go_wp2
    exact spot_end rfl (heap_alloc_new _ _) rfl rfl ⟨spot_eq HE.out, Keeps.alloc None w _⟩
  · have i1 : ¬ (n : Int) > 4096 := by omega
    have HShort : Hid (¬ l.length > 4096) := by intro; omega
    have HB : Hid (Keeps None w (w.alloc (.cells #[.int .i64 0, .int .i64 0] 85)) ∧ (w.alloc (.cells #[.int .i64 0, .int .i64 0] 85)).heap[w.heap.size]? = some (.cells #[.int .i64 0, .int .i64 0] 85 (0, 0))) := ⟨K0, B0⟩
    clear hlen B0 K0
    go_enter Try.func38, Try.ntmps38
    go_wp2_with fail
    go_loopw [3, 4, 5] (fun d i _ wr => ∃ k dd : Nat, k ≤ n ∧ dd ≤ k ∧ i = .int .i64 k ∧ d = .int .i64 dd ∧ chkL l 0 0 = chkL (l.drop k) k dd ∧ Keeps None w wr ∧ wr.heap[w.heap.size]? = some (.cells #[.int .i64 0, .int .i64 0] 85 (0, 0))) (fun _ i _ _ => n - (intOf i).toNat)
    case atStart => exact ⟨0, 0, Nat.zero_le _, Nat.le_refl _, rfl, rfl, rfl, HB.out⟩
    case round =>
      clear HB
      obtain ⟨k, dd, hk, hdd, rfl, rfl, hch, hkp, hbox⟩ := hrel
      by_cases hkn : k < n
      · obtain ⟨b, off, x, rfl, hb, hx, u0, u1⟩ := (HS.out.more hkp).elem hkn
        have i2 : (k : Int) < (n : Int) := by omega
        have hch2 := hch.trans (chkL_step hx k dd)
        have kA := hkp
        have bB := hbox
        have HP := spot_put kA (Nat.le_refl _) bB 190 k
        have d0 := cell_of_heap bB 0
        have d1 := cell_of_heap bB 1
        have f0 := blk_free bB 0
        have f1 := blk_free bB 1
        by_cases hbad : badK x.k dd = true
        · rw [if_pos hbad] at hch2
          have HE : Hid (chkE l = 190 ∧ chkA l = k) := chk_some HShort.out hch2
          have HQ : Hid _ := HP
          clear HP hch hch2 hkp hbox kA bB hx
          have HBad : Hid (badK x.k dd = true) := hbad
          clear hbad
          by_cases n0 : x.k < 0
          · go_wp2
            exact spot_end rfl HQ.out.1 rfl rfl ⟨spot_eq HE.out, HQ.out.2⟩
          · by_cases n4 : x.k > 4
            · go_wp2
              exact spot_end rfl HQ.out.1 rfl rfl ⟨spot_eq HE.out, HQ.out.2⟩
            · have n1 : x.k = 1 ∧ dd = 0 := by have := HBad.out; unfold badK at this; simp [n0] at this; omega
              have e3 : x.k = 1 := n1.1
              have e4 : dd = 0 := n1.2
              subst e4
              clear n1 HBad
              obtain ⟨xk, xl⟩ := x
              simp only at e3
              subst e3
              go_wp2
              exact spot_end rfl HQ.out.1 rfl rfl ⟨spot_eq HE.out, HQ.out.2⟩
        · rw [if_neg hbad] at hch2
          have n0 : ¬ x.k < 0 := fun h => hbad (by unfold badK; simp [h])
          have n4 : ¬ x.k > 4 := fun h => hbad (by unfold badK; simp; omega)
          have n1 : ¬ (x.k = 1 ∧ dd = 0) := fun h => hbad (by unfold badK; simp [h.1, h.2])
          have HN : Hid (chkL l 0 0 = chkL (l.drop (k + 1)) (k + 1) (nxtK x.k dd) ∧ Keeps None w wr ∧ wr.heap[w.heap.size]? = some (.cells #[.int .i64 0, .int .i64 0] 85 (0, 0))) := ⟨hch2, kA, bB⟩
          clear HP hch hch2 hkp hbox kA bB hx hbad d0 d1 f0 f1
          by_cases e0 : x.k = 0
          · have HE0 : Hid (x.k = 0) := e0
            clear n1
            go_wp2
            go_roundw
            case rel => exact ⟨k + 1, dd + 1, by omega, by omega, by go_num, by go_num, by have := HN.out; simpa [nxtK, HE0.out] using this⟩
            case measure => simp [intOf]; omega
          · by_cases e1 : x.k = 1
            · have n5 : ¬ (dd : Int) = 0 := by omega
              have HE1 : Hid (x.k = 1) := e1
              clear n1
              go_wp2
              go_roundw
              case rel => exact ⟨k + 1, dd - 1, by omega, by omega, by go_num, by go_num, by have := HN.out; simpa [nxtK, HE1.out] using this⟩
              case measure => simp [intOf]; omega
            · clear n1
              go_wp2
              go_roundw
              case rel => exact ⟨k + 1, dd, by omega, by omega, by go_num, by go_num, by have := HN.out; simpa [nxtK, e0, e1] using this⟩
              case measure => simp [intOf]; omega
      · have hkn2 : k = n := by omega
        have hch2 : chkL l 0 0 = none := by rw [hch, List.drop_eq_nil_of_le (by have := HLen.out; omega)]; rfl
        have HE : Hid (chkE l = 0 ∧ chkA l = 0) := chk_none HShort.out hch2
        subst hkn2
        have HP := spot_put hkp (Nat.le_refl _) hbox 0 0
        have d0 := cell_of_heap hbox 0
        have d1 := cell_of_heap hbox 1
        have f0 := blk_free hbox 0
        have f1 := blk_free hbox 1
        have HQ : Hid _ := HP
        clear HP hch hch2 hkp hbox
        go_wp2
        exact spot_end rfl HQ.out.1 rfl rfl ⟨spot_eq HE.out, HQ.out.2⟩
end Go.Proofs.Ytdiabpoafennlab
/-! Lists of one-cell values in memory; append of a whole list. -/
namespace Go.Proofs.Ytdiabpoafennlab
set_option linter.unusedVariables false
set_option maxRecDepth 20000
set_option linter.unusedSimpArgs false
open Go.RowKit Go.HeapKit

def iv (l : List Int) : List Value := l.map (Value.int .i64)
theorem iv_len (l : List Int) : (iv l).length = l.length := by simp [iv]
theorem iv_app (a b : List Int) : iv (a ++ b) = iv a ++ iv b := by simp [iv]
def bv' (l : List Bool) : List Value := l.map Value.bool
theorem bv_len (l : List Bool) : (bv' l).length = l.length := by simp [bv']
theorem keeps_drewN (w : World) (m : Nat) : Keeps None w (w.drewN m) := ⟨rfl, rfl, rfl, Nat.le_refl _, fun _ _ _ => rfl⟩
/-- A list of one-cell values that can be read. -/
structure SeenV (w : World) (a : Option Addr) (n : Nat) (vs : List Value) : Prop where
  len : n = vs.length
  ex : 0 < n → ∃ b off, a = some ⟨b, off, none⟩ ∧ b < w.heap.size ∧ ∀ k v, vs[k]? = some v → w.cell? ⟨b, off + k, none⟩ = some v
theorem SeenV.kept {w w' : World} {S : Nat → Prop} {a : Option Addr} {n : Nat} {vs : List Value} (h : SeenV w a n vs) (hk : Keeps S w w') (hS : 0 < n → ∀ b, blockOf a = some b → b < w.heap.size → ¬ S b) : SeenV w' a n vs := by
  refine ⟨h.len, fun h0 => ?_⟩
  obtain ⟨b, off, rfl, hb, hc⟩ := h.ex h0
  exact ⟨b, off, rfl, Nat.lt_of_lt_of_le hb hk.size, fun k v hv => hk.cell (hc k v hv) (hS h0 b rfl hb)⟩
theorem SeenV.more {w w' : World} {a : Option Addr} {n : Nat} {vs : List Value} (h : SeenV w a n vs) (hk : Keeps None w w') : SeenV w' a n vs := h.kept hk (fun _ _ _ _ f => f)
theorem SeenV.at {w : World} {a : Option Addr} {n : Nat} {vs : List Value} (h : SeenV w a n vs) {k : Nat} (hk : k < n) : ∃ b off v, a = some ⟨b, off, none⟩ ∧ b < w.heap.size ∧ vs[k]? = some v ∧ w.cell? ⟨b, off + k, none⟩ = some v := by
  obtain ⟨b, off, rfl, hb, hc⟩ := h.ex (by omega)
  have hl := h.len
  exact ⟨b, off, vs[k]'(by omega), rfl, hb, by simp, hc k _ (by simp)⟩
theorem SeenV.nil (w : World) (a : Option Addr) : SeenV w a 0 [] := ⟨rfl, fun h => absurd h (by omega)⟩
theorem own_cell1 {w : World} {base : Nat} {e : TypeId} {a : Option Addr} {n c : Nat} {vs : List Value} {k : Nat} {x : Value} (h : w.ownsRow base e 1 (.slice a n c) n vs) (hx : vs[k]? = some x) :
    ∃ g, a = some ⟨g, 0, none⟩ ∧ base ≤ g ∧ g < w.heap.size ∧ n ≤ c ∧ w.cell? ⟨g, k, none⟩ = some x ∧ ∀ i, w.frozen? ⟨g, i, none⟩ = false := by
  have hlen : vs.length = n := by have := h.1; omega
  have hk := (List.getElem?_eq_some_iff.1 hx).1
  rcases h.2 with ⟨_, h1⟩ | ⟨g, cap, cur, hv, hbg, hg, hnc, hcm, hcs, htake⟩
  · omega
  · injection hv with e1 e2 e3
    subst e1 e3
    have hcell : ∀ j u, vs[j]? = some u → w.cell? ⟨g, j, none⟩ = some u := by
      intro j u this
      rw [blk_cell hg]
      rw [← htake, List.getElem?_take] at this
      split at this
      · simpa using this
      · cases this
    exact ⟨g, rfl, hbg, (Array.getElem?_eq_some_iff.1 hg).1, hnc, hcell _ _ hx, fun i => blk_free hg i⟩
theorem own_seen1 {w : World} {base : Nat} {e : TypeId} {a : Option Addr} {n c : Nat} {vs : List Value} (h : w.ownsRow base e 1 (.slice a n c) n vs) : SeenV w a n vs := by
  have hlen : n = vs.length := by have := h.1; omega
  refine ⟨hlen, fun h0 => ?_⟩
  obtain ⟨g, rfl, _, hlt, _⟩ := own_cell1 h (k := 0) (x := vs[0]'(by omega)) (by simp)
  refine ⟨g, 0, rfl, hlt, fun k v hv => ?_⟩
  obtain ⟨g', e', _, _, _, hc, _⟩ := own_cell1 h hv
  injection e' with e'
  injection e' with e'
  subst e'
  rw [Nat.zero_add]
  exact hc
theorem own_nilAny {w : World} {base : Nat} (e : TypeId) (size : Nat) (hb : base ≤ w.heap.size) : (w.alloc (.cells #[] e)).ownsRow base e size (.slice (some ⟨w.heap.size, 0, none⟩) 0 0) 0 [] :=
  ⟨by simp, .inr ⟨w.heap.size, 0, #[], rfl, hb, heap_alloc_new w _, by simp, by simp, by simp, by simp⟩⟩
theorem addr_at (b off j : Nat) : (⟨b, off, none⟩ : Addr).add j = ⟨b, off + j, none⟩ := by unfold Addr.add; split <;> simp_all
/-- 'append(s, x...)' of a whole list, which may be nil. -/
theorem run_append_all {P : Program} (w : World) (base : Nat) (t ty e : TypeId) (i : TypeInfo) (z : Value) (size bytes : Nat) (ht : P.underlying t = some (.slice e)) (hi : P.info? e = some i) (hz : i.zero = some z)
    (hsize : i.size = size) (hby : i.bytes = bytes) (hzs : z.cells.size = size) (hsz : 0 < size)
    (v : Value) (n : Nat) (xs : List Value) (hown : w.ownsRow base e size v n xs)
    (a : Option Addr) (m c : Nat) (news : List Value) (hl : news.length = m * size) (hnews : 0 < m → ∃ b off, a = some ⟨b, off, none⟩ ∧ ∀ j u, news[j]? = some u → w.cell? ⟨b, off + j, none⟩ = some u) (h1 : ∀ u ∈ news, u.oneCell' = true)
    (h63 : n + m ≤ maxLen) (hbytes : (n + m) * bytes ≤ 140737488355328) (hbase : base ≤ w.heap.size) :
    ∃ v' w', (Builtin.append_ #[t, t] ty #[v, .slice a m c]).run P w = .ok v' w' ∧ w'.ownsRow base e size v' (n + m) (xs ++ news) ∧ Keeps (fun k => v.ownBlock = some k) w w' ∧ Moved w v v' ∧
      (v' = .slice none 0 0 ↔ v = .slice none 0 0 ∧ m = 0) := by
  cases a with
  | none =>
    have h0 : m = 0 := by
      rcases Nat.eq_zero_or_pos m with h | h
      · exact h
      · obtain ⟨b, off, e, _⟩ := hnews h
        cases e
    subst h0
    have hn0 : news = [] := List.eq_nil_of_length_eq_zero (by omega)
    subst hn0
    obtain ⟨a', cap, rfl⟩ := row_shape hown
    have hnc : n ≤ cap := by
      rcases hown.2 with ⟨e, h⟩ | ⟨_, _, _, e, _, _, hh, _⟩
      · rw [h]; exact Nat.zero_le _
      · injection e with _ e1 e2
        subst e2
        exact hh
    refine ⟨_, w, ?_, by rw [List.append_nil]; exact hown, Keeps.refl _ _, Moved.refl _ _, by simp⟩
    cases a' <;> simp [Builtin.append_, run_underlying ht, sizeOf, typeInfo, zeroValue, hi, hz, Builtin.lenOf, Builtin.firstCells, storeCells, hnc]
  | some x =>
    by_cases hm : 0 < m
    · obtain ⟨b, off, e', hc⟩ := hnews hm
      injection e' with e'
      subst e'
      obtain ⟨v', w', hr, ho, hg, hmv, hn⟩ := run_append_moved (P := P) w base t ty e i z size bytes ht hi hz hsize hby hzs hsz v n xs hown ⟨b, off, none⟩ m c news hl (fun j u hu => by rw [addr_at]; exact hc j u hu) h1 h63 hbytes hbase
      exact ⟨v', w', hr, ho, (Keeps.refl _ w).andGrown hg (fun k e => .inl e), hmv, hn⟩
    · have h0 : m = 0 := by omega
      subst h0
      have hn0 : news = [] := List.eq_nil_of_length_eq_zero (by omega)
      subst hn0
      obtain ⟨v', w', hr, ho, hg, hmv, hn⟩ := run_append_moved (P := P) w base t ty e i z size bytes ht hi hz hsize hby hzs hsz v n xs hown x 0 c [] hl (fun j u hu => by simp at hu) h1 h63 hbytes hbase
      exact ⟨v', w', hr, ho, (Keeps.refl _ w).andGrown hg (fun k e => .inl e), hmv, hn⟩
theorem Try.infoI64 : (Try.prog.info? 2).map (fun i => (i.zero, i.size, i.bytes)) = some (some (.int .i64 0), 1, 8) := by kernel_rfl
theorem Try.infoI : (Try.prog.info? 3).map (fun i => (i.zero, i.size, i.bytes)) = some (some (.int .i64 0), 1, 8) := by kernel_rfl
theorem Try.infoBool : (Try.prog.info? 4).map (fun i => (i.zero, i.size, i.bytes)) = some (some (.bool false), 1, 1) := by kernel_rfl
theorem iv_one {l : List Int} : ∀ u ∈ iv l, u.oneCell' = true := by
  intro u hu
  obtain ⟨z, _, rfl⟩ := List.mem_map.1 hu
  rfl
theorem bv_one {l : List Bool} : ∀ u ∈ bv' l, u.oneCell' = true := by
  intro u hu
  obtain ⟨z, _, rfl⟩ := List.mem_map.1 hu
  rfl
theorem dd_one {l : List Dd} : ∀ u ∈ ddVals l, u.oneCell' = true := by
  intro u hu
  obtain ⟨z, _, h⟩ := List.mem_flatMap.1 hu
  simp [Dd.vals] at h
  rcases h with rfl | rfl <;> rfl
theorem Seen.cells {w : World} {a : Option Addr} {n : Nat} {l : List Dd} (h : Seen w a n l) : 0 < n → ∃ b off, a = some ⟨b, off, none⟩ ∧ ∀ j u, (ddVals l)[j]? = some u → w.cell? ⟨b, off + j, none⟩ = some u := by
  intro h0
  obtain ⟨b, off, rfl, hb, hc⟩ := h.ex h0
  refine ⟨b, off, rfl, fun j u hu => ?_⟩
  have hj := (List.getElem?_eq_some_iff.1 hu).1
  rw [ddVals_length] at hj
  obtain ⟨x, hx⟩ : ∃ x, l[j / 2]? = some x := ⟨l[j / 2]'(by omega), by simp⟩
  have hd := hc _ x hx
  rcases Nat.mod_two_eq_zero_or_one j with h2 | h2
  · have := ddVals_at l (j / 2) x hx 0 (.int .i64 x.k) rfl
    rw [show j / 2 * 2 + 0 = j by omega] at this
    rw [this] at hu
    injection hu with hu
    subst hu
    have := hd.c0
    rwa [show off + j / 2 * 2 = off + j by omega] at this
  · have := ddVals_at l (j / 2) x hx 1 (.int .i64 x.loc) rfl
    rw [show j / 2 * 2 + 1 = j by omega] at this
    rw [this] at hu
    injection hu with hu
    subst hu
    have := hd.c1
    rwa [show off + j / 2 * 2 + 1 = off + j by omega] at this
/-- 'append([]api.Deed{}, l...)'. -/
theorem deeds_copy (w : World) (a : Option Addr) (n c : Nat) (l : List Dd) (ty : TypeId) (h : Seen w a n l) (hn : n * 16 ≤ 140737488355328) : ∃ v w', (Builtin.append_ #[22, 22] ty #[.slice (some ⟨w.heap.size, 0, none⟩) 0 0, .slice a n c]).run Try.prog (w.alloc (.cells #[] 44)) = .ok v w' ∧
    w'.ownsRow w.heap.size 44 2 v n (ddVals l) ∧ Keeps None w w' := by
  obtain ⟨i0, hi, hz0, hz1, hz2⟩ := info_parts Try.infoDeed
  have kA := Keeps.alloc None w (.cells #[] 44)
  obtain ⟨v', w', hr, ho, hk, -, -⟩ := run_append_all (P := Try.prog) (w.alloc (.cells #[] 44)) w.heap.size 22 ty 44 i0 _ 2 16 Try.underlying22 hi hz0 hz1 hz2 rfl (by decide) _ 0 []
    (own_nilAny 44 2 (Nat.le_refl _)) a n c (ddVals l) (by rw [ddVals_length, h.len]) (h.more kA).cells dd_one (by unfold maxLen; omega) (by omega) kA.size
  refine ⟨v', w', hr, by simpa using ho, kA.trans hk (fun i e hi => by simp [Value.ownBlock] at e; omega)⟩
theorem bools_copy (w : World) (a : Option Addr) (n c : Nat) (l : List Bool) (ty : TypeId) (h : SeenV w a n (bv' l)) (hn : n ≤ 140737488355328) : ∃ v w', (Builtin.append_ #[23, 23] ty #[.slice (some ⟨w.heap.size, 0, none⟩) 0 0, .slice a n c]).run Try.prog (w.alloc (.cells #[] 4)) = .ok v w' ∧
    w'.ownsRow w.heap.size 4 1 v n (bv' l) ∧ Keeps None w w' := by
  obtain ⟨i0, hi, hz0, hz1, hz2⟩ := info_parts Try.infoBool
  have kA := Keeps.alloc None w (.cells #[] 4)
  obtain ⟨v', w', hr, ho, hk, -, -⟩ := run_append_all (P := Try.prog) (w.alloc (.cells #[] 4)) w.heap.size 23 ty 4 i0 _ 1 1 Try.underlying23 hi hz0 hz1 hz2 rfl (by decide) _ 0 []
    (own_nilAny 4 1 (Nat.le_refl _)) a n c (bv' l) (by have := h.len; omega) (fun h0 => by obtain ⟨b, off, e, _, hc⟩ := (h.more kA).ex h0; exact ⟨b, off, e, hc⟩) bv_one (by unfold maxLen; omega) (by omega) kA.size
  refine ⟨v', w', hr, by simpa using ho, kA.trans hk (fun i e hi => by simp [Value.ownBlock] at e; omega)⟩
theorem ints_copy (w : World) (a : Option Addr) (n c : Nat) (l : List Int) (ty : TypeId) (h : SeenV w a n (iv l)) (hn : n * 8 ≤ 140737488355328) : ∃ v w', (Builtin.append_ #[24, 24] ty #[.slice (some ⟨w.heap.size, 0, none⟩) 0 0, .slice a n c]).run Try.prog (w.alloc (.cells #[] 3)) = .ok v w' ∧
    w'.ownsRow w.heap.size 3 1 v n (iv l) ∧ Keeps None w w' := by
  obtain ⟨i0, hi, hz0, hz1, hz2⟩ := info_parts Try.infoI
  have kA := Keeps.alloc None w (.cells #[] 3)
  obtain ⟨v', w', hr, ho, hk, -, -⟩ := run_append_all (P := Try.prog) (w.alloc (.cells #[] 3)) w.heap.size 24 ty 3 i0 _ 1 8 Try.underlying24 hi hz0 hz1 hz2 rfl (by decide) _ 0 []
    (own_nilAny 3 1 (Nat.le_refl _)) a n c (iv l) (by have := h.len; omega) (fun h0 => by obtain ⟨b, off, e, _, hc⟩ := (h.more kA).ex h0; exact ⟨b, off, e, hc⟩) iv_one (by unfold maxLen; omega) (by omega) kA.size
  refine ⟨v', w', hr, by simpa using ho, kA.trans hk (fun i e hi => by simp [Value.ownBlock] at e; omega)⟩
/-- 'append(s, x)' of a number. -/
theorem i64_more (base : Nat) (s : Value) (l : List Int) (x : Int) (ty g0 : Nat) (w : World) (h : w.ownsRow base 2 1 s l.length (iv l)) (hb : base ≤ w.heap.size) (hlen : (l.length + 1) * 8 ≤ 140737488355328)
    (hg0 : w.heap[g0]? = some (.cells #[.int .i64 x] 2 (0, 0))) :
    ∃ g cap w', (Builtin.append_ #[28, 28] ty #[s, .slice (some ⟨g0, 0, none⟩) 1 1]).run Try.prog w = .ok (.slice (some ⟨g, 0, none⟩) (l.length + 1) cap) w' ∧
      w'.ownsRow base 2 1 (.slice (some ⟨g, 0, none⟩) (l.length + 1) cap) (l.length + 1) (iv (l ++ [x])) ∧ Keeps (fun k => s.ownBlock = some k) w w' ∧ (s.ownBlock = some g ∨ w.heap.size ≤ g) := by
  obtain ⟨i0, hi, hz0, hz1, hz2⟩ := info_parts Try.infoI64
  obtain ⟨v', w1, hr, ho, hgr, hm, -⟩ := run_append_moved (P := Try.prog) w base 28 ty 2 i0 _ 1 8 Try.underlying28 hi hz0 hz1 hz2 rfl (by decide) s l.length _ h
    ⟨g0, 0, none⟩ 1 1 [.int .i64 x] rfl (by
      intro j u hu
      rw [addr_at, blk_cell hg0]
      simpa using hu) (by
      intro u hu
      simp at hu
      subst hu; rfl) (by unfold maxLen; omega) hlen hb
  obtain ⟨g, cap, rfl⟩ : ∃ g cap, v' = .slice (some ⟨g, 0, none⟩) (l.length + 1) cap := by
    rcases ho.2 with ⟨_, h0⟩ | ⟨b, cap, cur, rfl, _⟩
    · omega
    · exact ⟨b, cap, rfl⟩
  refine ⟨g, cap, w1, hr, by simpa [iv] using ho, (Keeps.refl _ w).andGrown hgr (fun k e => .inl e), ?_⟩
  rcases hm with hm | ⟨g', e, hg⟩
  · exact .inl (hm.symm.trans rfl)
  · simp [Value.ownBlock] at e; exact .inr (by omega)
end Go.Proofs.Ytdiabpoafennlab
