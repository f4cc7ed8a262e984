import Derived.WalkKit
import Derived.Laws.CopyOwn
import Derived.Deep.RegionLaw
import Derived.ArgAppend
import Derived.Test.YtbdpdojeaahpjaaGreatDoorRows
import Derived.ProofKit
import Derived.LaidMore
import Derived.OpenShut
import Derived.Stop.Joined
import Derived.Deep.Slices
import Derived.SizedLaws
/-! Memory: which blocks a call leaves as they were; rows of the call's own that are appended to, and whose block stays or is new. Whatever the program. -/
namespace Go.HeapKit
open Go.RowKit

/-- All blocks but those of S stand as they stood. -/
structure Keeps (S : Nat → Prop) (w w' : World) : Prop where
  os : w'.os = w.os
  tape : w'.tape = w.tape
  output : w'.output = w.output
  size : w.heap.size ≤ w'.heap.size
  block : ∀ k, k < w.heap.size → ¬ S k → w'.heap[k]? = w.heap[k]?

def None : Nat → Prop := fun _ => False

theorem Keeps.refl (S : Nat → Prop) (w : World) : Keeps S w w := ⟨rfl, rfl, rfl, Nat.le_refl _, fun _ _ _ => rfl⟩
theorem Keeps.trans {S T : Nat → Prop} {a b c : World} (h : Keeps S a b) (k : Keeps T b c) (hT : ∀ i, T i → i < a.heap.size → S i) : Keeps S a c :=
  ⟨k.os.trans h.os, k.tape.trans h.tape, k.output.trans h.output, Nat.le_trans h.size k.size,
   fun i hi hn => (k.block i (Nat.lt_of_lt_of_le hi h.size) (fun t => hn (hT i t hi))).trans (h.block i hi hn)⟩
theorem Keeps.mono {S T : Nat → Prop} {a b : World} (h : Keeps S a b) (hT : ∀ i, S i → i < a.heap.size → T i) : Keeps T a b :=
  ⟨h.os, h.tape, h.output, h.size, fun i hi hn => h.block i hi (fun s => hn (hT i s hi))⟩
theorem Keeps.drew (S : Nat → Prop) (w : World) : Keeps S w w.drew := ⟨rfl, rfl, rfl, Nat.le_refl _, fun _ _ _ => rfl⟩
theorem Keeps.alloc (S : Nat → Prop) (w : World) (o : Obj) : Keeps S w (w.alloc o) := ⟨rfl, rfl, rfl, by simp, fun k hk _ => Below.heap_alloc _ _ _ hk⟩
theorem Keeps.setCell {S : Nat → Prop} (w : World) {a : Addr} (ha : S a.block) (v : Value) : Keeps S w (w.setCell a v) :=
  ⟨rfl, rfl, rfl, by simp [World.setCell], fun k _ hn => Below.heap_setCell _ _ _ _ (fun e => hn (e ▸ ha))⟩
theorem Keeps.grown {S : Nat → Prop} {w w' : World} {row : Option Nat} (hg : w.grownBy w' row) (hr : ∀ k, row = some k → S k) : Keeps S w w' :=
  ⟨hg.os, hg.tape, hg.output, hg.size, fun k hk hn => hg.block k hk (fun e => hn (hr k e.symm))⟩
theorem Keeps.andAlloc {S : Nat → Prop} {a b : World} (h : Keeps S a b) (o : Obj) : Keeps S a (b.alloc o) := h.trans (Keeps.alloc None b o) (fun _ f _ => f.elim)
theorem Keeps.andDrew {S : Nat → Prop} {a b : World} (h : Keeps S a b) : Keeps S a b.drew := h.trans (Keeps.drew None b) (fun _ f _ => f.elim)
theorem Keeps.andSet {S : Nat → Prop} {a b : World} (h : Keeps S a b) {x : Addr} (hx : S x.block ∨ a.heap.size ≤ x.block) (v : Value) : Keeps S a (b.setCell x v) :=
  h.trans (Keeps.setCell (S := (· = x.block)) b rfl v) (fun i e hi => by subst e; rcases hx with hx | hx; exact hx; omega)
theorem Keeps.andGrown {S : Nat → Prop} {a b c : World} {row : Option Nat} (h : Keeps S a b) (hg : b.grownBy c row) (hr : ∀ k, row = some k → S k ∨ a.heap.size ≤ k) : Keeps S a c :=
  h.trans (Keeps.grown (S := fun k => row = some k) hg (fun _ e => e)) (fun i e hi => by rcases hr i e with hx | hx; exact hx; omega)
theorem Keeps.below {S : Nat → Prop} {w w' : World} (h : Keeps S w w') (B : Nat) (hB : B ≤ w.heap.size) (hS : ∀ k, S k → B ≤ k) : Below B w w' :=
  ⟨h.os, h.tape, h.output, h.size, fun k hk => h.block k (by omega) (fun s => by have := hS k s; omega)⟩
theorem Keeps.cell {S : Nat → Prop} {w w' : World} (h : Keeps S w w') {a : Addr} {v : Value} (hc : w.cell? a = some v) (hn : ¬ S a.block) : w'.cell? a = some v := by
  have hlt : a.block < w.heap.size := by
    cases hb : w.heap[a.block]? with
    | none => simp [World.cell?, hb] at hc
    | some o => exact (Array.getElem?_eq_some_iff.1 hb).1
  exact (World.cell?_of_block (h.block _ hlt hn)).trans hc
theorem Keeps.own {S : Nat → Prop} {w w' : World} (h : Keeps S w w') {base : Nat} {e : TypeId} {size : Nat} {v : Value} {n : Nat} {xs : List Value} (ho : w.ownsRow base e size v n xs)
    (hn : ∀ k, v.ownBlock = some k → ¬ S k) : w'.ownsRow base e size v n xs := by
  refine ⟨ho.1, ?_⟩
  rcases ho.2 with h0 | ⟨g, cap, cur, rfl, hb, hg, r⟩
  · exact .inl h0
  · exact .inr ⟨g, cap, cur, rfl, hb, (h.block g (Array.getElem?_eq_some_iff.1 hg).1 (hn g rfl)).trans hg, r⟩

/-- The row's block is the one it was, or a new one. -/
def Moved (w : World) (v v' : Value) : Prop := v'.ownBlock = v.ownBlock ∨ ∃ g, v'.ownBlock = some g ∧ w.heap.size ≤ g
theorem Moved.refl (w : World) (v : Value) : Moved w v v := .inl rfl
theorem Moved.trans {w w1 : World} {v v1 v2 : Value} (h : Moved w v v1) (k : Moved w1 v1 v2) (hs : w.heap.size ≤ w1.heap.size) : Moved w v v2 := by
  rcases k with k | ⟨g, k, hg⟩
  · rcases h with h | ⟨g, h, hg⟩
    · exact .inl (k.trans h)
    · exact .inr ⟨g, k.trans h, hg⟩
  · exact .inr ⟨g, k, by omega⟩

theorem own_lt {w : World} {base : Nat} {e : TypeId} {size : Nat} {v : Value} {n : Nat} {xs : List Value} (h : w.ownsRow base e size v n xs) {g : Nat} (hg : v.ownBlock = some g) : g < w.heap.size := by
  rcases h.2 with ⟨rfl, _⟩ | ⟨g', cap, cur, rfl, _, hb, _⟩
  · simp [Value.ownBlock] at hg
  · simp [Value.ownBlock] at hg
    subst hg
    exact (Array.getElem?_eq_some_iff.1 hb).1
/-- Rows of different elements lie in different blocks. -/
theorem own_type {w : World} {base : Nat} {e : TypeId} {size : Nat} {v : Value} {n : Nat} {xs : List Value} (h : w.ownsRow base e size v n xs) {g : Nat} (hg : v.ownBlock = some g)
    {c : Array Value} {e' : TypeId} {fz : Nat × Nat} (hb : w.heap[g]? = some (.cells c e' fz)) : e = e' := by
  rcases h.2 with ⟨rfl, _⟩ | ⟨g', cap, cur, rfl, _, hb', _⟩
  · simp [Value.ownBlock] at hg
  · simp [Value.ownBlock] at hg
    subst hg
    rw [hb] at hb'
    simp at hb'
    exact hb'.2.1.symm
theorem own_block {w : World} {base : Nat} {e : TypeId} {size : Nat} {v : Value} {n : Nat} {xs : List Value} (h : w.ownsRow base e size v n xs) {g : Nat} (hg : v.ownBlock = some g) :
    ∃ c, w.heap[g]? = some (.cells c e (0, 0)) := by
  rcases h.2 with ⟨rfl, _⟩ | ⟨g', cap, cur, rfl, _, hb', _⟩
  · simp [Value.ownBlock] at hg
  · simp [Value.ownBlock] at hg
    subst hg
    exact ⟨cur, hb'⟩
theorem own_apart {w : World} {b1 b2 : Nat} {e1 e2 : TypeId} {s1 s2 : Nat} {v1 v2 : Value} {n1 n2 : Nat} {x1 x2 : List Value} (h1 : w.ownsRow b1 e1 s1 v1 n1 x1) (h2 : w.ownsRow b2 e2 s2 v2 n2 x2) (he : e1 ≠ e2) {g : Nat} (hg : v1.ownBlock = some g) :
    v2.ownBlock ≠ some g := by
  intro hg2
  obtain ⟨c, hc⟩ := own_block h2 hg2
  exact he (own_type h1 hg hc)

section
variable {P : Program} (w : World)

/-- 'append(s, x...)' on a row of the call's own: what it owns behind it; its block is the old one or new. -/
theorem run_append_moved (base : Nat) (t ty e : TypeId) (i : TypeInfo) (z : Value) (size bytes : Nat) (ht : P.underlying t = some (.slice e)) (hi : P.info? e = some i) (hz : i.zero = some z)
    (hsize : i.size = size) (hby : i.bytes = bytes) (hzs : z.cells.size = size) (hsz : 0 < size)
    (v : Value) (n : Nat) (xs : List Value) (hown : w.ownsRow base e size v n xs)
    (a : Addr) (m c : Nat) (news : List Value) (hl : news.length = m * size) (hnews : ∀ j u, news[j]? = some u → w.cell? (a.add j) = some u) (h1 : ∀ u ∈ news, u.oneCell' = true)
    (h63 : n + m ≤ maxLen) (hbytes : (n + m) * bytes ≤ 140737488355328) (hbase : base ≤ w.heap.size) :
    ∃ v' w', (Builtin.append_ #[t, t] ty #[v, .slice (some a) m c]).run P w = .ok v' w' ∧ w'.ownsRow base e size v' (n + m) (xs ++ news) ∧ w.grownBy w' v.ownBlock ∧ Moved w v v' ∧
      (v' = .slice none 0 0 ↔ v = .slice none 0 0 ∧ m = 0) := by
  obtain ⟨v', w', hr, ho, hg, hn⟩ := run_append_own (P := P) w base t ty e i z size bytes ht hi hz hsize hby hzs hsz v n xs hown a m c news hl hnews h1 h63 hbytes hbase
  refine ⟨v', w', hr, ho, hg, ?_, hn⟩
  subst hsize
  subst hby
  have hsmall : n + m ≤ 9223372036854775807 := by simp only [maxLen] at h63; omega
  rcases hown.2 with ⟨rfl, rfl⟩ | ⟨g, cap, cur, rfl, hbg, hgg, hnc, hcm, hcs, htake⟩
  · by_cases hm : m = 0
    · rw [hn.2 ⟨rfl, hm⟩]
      exact .inl rfl
    · have hr2 := run_append_nil (P := P) w t ty e i z ht hi hz a m c news hl hnews (by omega) (by omega) (by have hb := hbytes; simp only [Nat.zero_add] at hb; omega)
      rw [hr] at hr2
      injection hr2 with e1 e2
      exact .inr ⟨w.heap.size, by rw [e1]; rfl, Nat.le_refl _⟩
  · by_cases hroom : n + m ≤ cap
    · have hfit : n * i.size + news.length ≤ cur.size := by rw [hl, hcs, ← Nat.add_mul]; exact Nat.mul_le_mul_right _ hroom
      have hr2 := run_append_room (P := P) w t ty e i ht hi g n cap cur hgg a m c news hl hnews h1 hroom hfit
      rw [hr] at hr2
      injection hr2 with e1 e2
      exact .inl (by rw [e1]; rfl)
    · have holds : ∀ j u, xs[j]? = some u → w.cell? ((⟨g, 0, none⟩ : Addr).add j) = some u := hown.cells (g := g) rfl
      have hr2 := run_append_grow (P := P) w t ty e i z ht hi hz ⟨g, 0, none⟩ n cap xs hown.1 holds a m c news hl hnews (by omega) (by omega) (growslice_fits (by omega) hbytes)
      rw [hr] at hr2
      injection hr2 with e1 e2
      exact .inr ⟨w.heap.size, by rw [e1]; rfl, Nat.le_refl _⟩

variable {w}
/-- One step by its run's equation. -/
theorem wpList_append_run {ops : Array Oper} {rest : List Oper} {o : Oper} {a : Act} {Q : Exit → Act → World → Prop} (hgd : o.guard = none) (s x : Operand) (t t' : TypeId)
    (ho : o.op = .call { callee := .builtin .append, args := #[s, x], argTypes := #[t, t'] }) {v u v' : Value} {w' : World} (hs : a.eval s = v) (hx : a.eval x = u)
    (hr : (Builtin.append_ #[t, t'] o.type #[v, u]).run P w = .ok v' w') (h : wpList P ops Q rest (a.put o.dst v') w') : wpList P ops Q (o :: rest) a w :=
  wpList_plain hgd fun _ hK => by
    unfold Oper.wp execOp
    simp only [ho, resolve, invoke, builtin, Sem.run_bind, Sem.run_pure, Result.andThen_ok, List.map_toArray, List.map_cons, List.map_nil, hs, hx, hr]
    exact hK _ _ h

theorem step_append_run {ops : Array Oper} {o : Oper} {a : Act} {K : Act → World → Prop} {Q : Exit → Act → World → Prop} {E : Prop}
    (hg : o.guard = none) (s x : Operand) (t t' : TypeId) (hop : o.op = Op.call { callee := Callee.builtin Builtin.append, args := #[s, x], argTypes := #[t, t'] })
    {v u v' : Value} {w' : World} (hs : a.eval s = v) (hx : a.eval x = u)
    (hr : (Builtin.append_ #[t, t'] o.type #[v, u]).run P w = .ok v' w') (hK : K (a.put o.dst v') w') :
    if Region.wanted o (yielded ops a.tmps) = true then Oper.wp P o a w K Q else E := by
  have hw : Region.wanted o (yielded ops a.tmps) = true := by simp [Region.wanted, hg]
  rw [if_pos hw]
  unfold Oper.wp
  simp [execOp, hop, resolve, invoke, builtin, hs, hx, hr, Result.andThen]
  exact hK

/-- 'make([]T, n)': a new block. -/
theorem run_make_block (t e : TypeId) (i : TypeInfo) (z : Value) (size bytes : Nat) (ht : P.underlying t = some (.slice e)) (hi : P.info? e = some i) (hz : i.zero = some z) (hs : i.size = size) (hb : i.bytes = bytes) (n : Nat)
    (hbytes : bytes * n ≤ 281474976710656) (h63 : n ≤ 9223372036854775807) :
    ∃ M : Array Value, M = madeCells z.cells (n * size) ∧ M.size = n * size ∧ (Instr.makeSlice t (.int .i64 n) (.int .i64 n)).run P w = .ok (.slice (some ⟨w.heap.size, 0, none⟩) n n) (w.alloc (.cells M e)) := by
  subst hs hb
  refine ⟨madeCells z.cells (n * i.size), rfl, size_madeCells _ _, ?_⟩
  have h := run_make (P := P) w t e i z ht hi hz .i64 .i64 n n (by omega) (by omega) (by rw [← Int.natCast_mul]; omega) (by omega)
  simpa using h

theorem wpList_make_run {ops : Array Oper} {rest : List Oper} {o : Oper} {a : Act} {Q : Exit → Act → World → Prop} (hgd : o.guard = none) (l c : Operand) (t : TypeId)
    (ho : o.op = Op.makeSlice t l c) {vl vc v' : Value} {w' : World} (hl : a.eval l = vl) (hc : a.eval c = vc)
    (hr : (Instr.makeSlice t vl vc).run P w = .ok v' w') (h : wpList P ops Q rest (a.put o.dst v') w') : wpList P ops Q (o :: rest) a w :=
  wpList_plain hgd fun _ hK => by
    unfold Oper.wp
    simp [execOp, ho, hl, hc, hr, Result.andThen]
    exact hK _ _ h

theorem wpList_copy_run {ops : Array Oper} {rest : List Oper} {o : Oper} {a : Act} {Q : Exit → Act → World → Prop} (hgd : o.guard = none) (s x : Operand) (t t' : TypeId)
    (ho : o.op = .call { callee := .builtin .copy, args := #[s, x], argTypes := #[t, t'] }) {v u v' : Value} {w' : World} (hs : a.eval s = v) (hx : a.eval x = u)
    (hr : (Builtin.copy_ #[t, t'] o.type #[v, u]).run P w = .ok v' w') (h : wpList P ops Q rest (a.put o.dst v') w') : wpList P ops Q (o :: rest) a w :=
  wpList_plain hgd fun _ hK => by
    unfold Oper.wp execOp
    simp only [ho, resolve, invoke, builtin, Sem.run_bind, Sem.run_pure, Result.andThen_ok, List.map_toArray, List.map_cons, List.map_nil, hs, hx, hr]
    exact hK _ _ h

end
end Go.HeapKit
/-! Programs as data, plainly: what package prog answers, told by lists. -/
namespace Go.Proofs.YtbdpdojeaahpjaaGreatDoor
set_option linter.unusedVariables false
set_option maxRecDepth 20000

structure Ins where
  kind : Int
  a : Int
  b : Int
  c : Int
  k : Int
structure Fn where
  params : Int
  regs : Int
  slots : Int
  code : List Ins

/-- The table by kind. -/
def fA (n : Nat) : Int := [1, 1, 1, 3, 1, 2, 0, 1, 1, 1].getD n 0
def fB (n : Nat) : Int := [0, 1, 1, 0, 3, 4, 0, 2, 0, 0].getD n 0
def fC (n : Nat) : Int := [0, 0, 1, 0, 0, 5, 0, 0, 0, 0].getD n 0
def fK (n : Nat) : Int := [0, 0, 6, 0, 0, 0, 0, 0, 0, 0].getD n 0
def fN (n : Nat) : Bool := [true, true, true, false, true, true, true, true, true, false].getD n false

def belowV (x n : Int) : Bool := decide (0 ≤ x) && decide (x < n)
theorem belowV_iff (x n : Int) : belowV x n = true ↔ 0 ≤ x ∧ x < n := by simp [belowV]
def holdsV (f : Fn) (first n : Int) : Bool := decide (n = 0) || (decide (0 ≤ first) && decide (n ≤ f.regs - first))
def parV (fs : List Fn) (b : Int) : Int := ((fs[b.toNat]?).map Fn.params).getD 0
def allowsV (al : Bool) (fs : List Fn) (f : Fn) (what x : Int) (i : Ins) : Bool :=
  if what = 1 then belowV x f.regs else if what = 2 then belowV x f.slots else if what = 3 then belowV x f.code.length
  else if what = 4 then al || belowV x fs.length else if what = 5 then al || holdsV f x (parV fs i.b) else true
def fitsV (al : Bool) (fs : List Fn) (f : Fn) (i : Ins) : Bool :=
  belowV i.kind 10 && (!(decide (fK i.kind.toNat = 6) && (decide (i.k < 0) || decide (16 ≤ i.k)))) &&
    (allowsV al fs f (fA i.kind.toNat) i.a i && allowsV al fs f (fB i.kind.toNat) i.b i && allowsV al fs f (fC i.kind.toNat) i.c i)
def shapeV (f : Fn) : Bool :=
  decide (0 ≤ f.params) && decide (f.params ≤ 8) && decide (1 ≤ f.regs) && decide (f.params ≤ f.regs) && decide (f.regs ≤ 16) && decide (0 ≤ f.slots) && decide (f.slots ≤ 8) && decide (1 ≤ f.code.length) && decide (f.code.length ≤ 512)

/-- The first of a list that has an answer. -/
def firstAt {α β : Type} (g : Nat → α → Option β) : List α → Nat → Option (Nat × β)
  | [], _ => none
  | x :: l, n => match g n x with
    | some b => some (n, b)
    | none => firstAt g l (n + 1)
theorem firstAt_some {α β : Type} (g : Nat → α → Option β) (l : List α) (n k : Nat) (x : α) (b : β) (hk : l[k]? = some x) (h0 : ∀ j y, j < k → l[j]? = some y → g (n + j) y = none) (hb : g (n + k) x = some b) : firstAt g l n = some (n + k, b) := by
  induction l generalizing n k with
  | nil => simp at hk
  | cons y l ih =>
    cases k with
    | zero => simp at hk; subst hk; simp only [firstAt]; rw [Nat.add_zero] at hb; rw [hb]; rfl
    | succ k =>
      have h1 := h0 0 y (by omega) rfl
      rw [Nat.add_zero] at h1
      simp only [firstAt]
      rw [h1]
      have := ih (n + 1) k (by simpa using hk) (fun j z hj hz => by have := h0 (j + 1) z (by omega) (by simpa using hz); rwa [show n + (j + 1) = n + 1 + j by omega] at this) (by rwa [show n + (k + 1) = n + 1 + k by omega] at hb)
      simp only [this]
      congr 2
      omega
theorem firstAt_none {α β : Type} (g : Nat → α → Option β) (l : List α) (n : Nat) (h0 : ∀ j y, l[j]? = some y → g (n + j) y = none) : firstAt g l n = none := by
  induction l generalizing n with
  | nil => rfl
  | cons y l ih =>
    have h1 := h0 0 y rfl
    rw [Nat.add_zero] at h1
    simp only [firstAt]
    rw [h1]
    exact ih (n + 1) (fun j z hz => by have := h0 (j + 1) z (by simpa using hz); rwa [show n + (j + 1) = n + 1 + j by omega] at this)
theorem firstAt_was {α β : Type} (g : Nat → α → Option β) (l : List α) (n : Nat) (r : Nat × β) (h : firstAt g l n = some r) : ∃ k x, l[k]? = some x ∧ r.1 = n + k ∧ g (n + k) x = some r.2 ∧ ∀ j y, j < k → l[j]? = some y → g (n + j) y = none := by
  induction l generalizing n with
  | nil => cases h
  | cons y l ih =>
    simp only [firstAt] at h
    cases hg : g n y with
    | some b =>
      rw [hg] at h
      obtain rfl := Option.some.inj h
      exact ⟨0, y, rfl, rfl, hg, fun j _ hj => by omega⟩
    | none =>
      rw [hg] at h
      obtain ⟨k, x, h1, h2, h3, h4⟩ := ih (n + 1) h
      refine ⟨k + 1, x, by simpa using h1, by omega, by rwa [show n + (k + 1) = n + 1 + k by omega], ?_⟩
      intro j z hj hz
      cases j with
      | zero => simp at hz; subst hz; exact hg
      | succ j => have := h4 j z (by omega) (by simpa using hz); rwa [show n + (j + 1) = n + 1 + j by omega]
theorem firstAt_all {α β : Type} (g : Nat → α → Option β) (l : List α) (n : Nat) (h : firstAt g l n = none) : ∀ j y, l[j]? = some y → g (n + j) y = none := by
  induction l generalizing n with
  | nil => intro j y hy; simp at hy
  | cons y l ih =>
    simp only [firstAt] at h
    cases hg : g n y with
    | some b => rw [hg] at h; cases h
    | none =>
      rw [hg] at h
      intro j z hz
      cases j with
      | zero => simp at hz; subst hz; exact hg
      | succ j => have := ih (n + 1) h j z (by simpa using hz); rwa [show n + (j + 1) = n + 1 + j by omega]

/-- The last instruction goes on at the next place. -/
def runsOut (f : Fn) : Bool := match f.code[f.code.length - 1]? with
  | some i => fN i.kind.toNat
  | none => false
/-- What is wrong with the code of a function: the error, the place. -/
def codeFault (al : Bool) (fs : List Fn) (f : Fn) : Option (Int × Int) :=
  match firstAt (fun _ i => if fitsV al fs f i then none else some ()) f.code 0 with
  | some r => some (52, r.1)
  | none => if runsOut f then some (53, (f.code.length : Int) - 1) else none
def Sound (f : Fn) : Prop := shapeV f = true ∧ ∀ fs, codeFault true fs f = none

/-! ### The search -/
abbrev Pt := Int × Int
def afterV (i : Ins) (slot st : Int) : Int := if i.kind = 5 ∧ i.a = slot then 2 else if i.kind = 6 ∧ st = 2 then 4 else st
def exitsV (at_ : Int) (i : Ins) : List Int :=
  (if fN i.kind.toNat then [at_ + 1] else []) ++ (if fA i.kind.toNat = 3 then [i.a] else []) ++ (if fB i.kind.toNat = 3 then [i.b] else [])
def ptIx (p : Pt) : Nat := p.1.toNat * 5 + p.2.toNat
def metV (fr : List Pt) (p : Pt) : Bool := decide ((fr.getD (ptIx p) (0, 0)).2 ≠ 0)
def visit (goal here : Pt) (st : Int) : List Int → List Pt → List Pt → List Pt × List Pt × Bool
  | [], fr, op => (fr, op, false)
  | a :: r, fr, op =>
    if metV fr (a, st) then visit goal here st r fr op
    else if (a, st) = goal then (fr.set (ptIx (a, st)) here, op, true)
    else visit goal here st r (fr.set (ptIx (a, st)) here) (op ++ [(a, st)])
def runS (f : Fn) (slot : Int) (goal : Pt) : Nat → List Pt → List Pt → List Pt
  | 0, fr, _ => fr
  | _ + 1, fr, [] => fr
  | k + 1, fr, h :: t => match f.code[h.1.toNat]? with
    | none => fr
    | some i => match visit goal h (afterV i slot h.2) (exitsV h.1 i) fr t with
      | (fr', _, true) => fr'
      | (fr', op', false) => runS f slot goal k fr' op'
def fr0 (n : Nat) : List Pt := (List.replicate (n * 5) (0, 0)).set 1 (0, 1)
def searchV (f : Fn) (slot : Int) (goal : Pt) : List Pt := runS f slot goal (f.code.length * 10 + 2) (fr0 f.code.length) [(0, 1)]
/-- How many points are not met yet. -/
def blanks (fr : List Pt) : Nat := fr.countP (fun p => p.2 == 0)
theorem blanks_le (fr : List Pt) : blanks fr ≤ fr.length := List.countP_le_length ..
theorem blanks_set {fr : List Pt} {k : Nat} {h : Pt} (hk : k < fr.length) (h0 : (fr.getD k (0, 0)).2 = 0) (hh : h.2 ≠ 0) : blanks (fr.set k h) + 1 = blanks fr := by
  unfold blanks
  induction fr generalizing k with
  | nil => simp at hk
  | cons p fr ih =>
    cases k with
    | zero =>
      simp at h0
      simp [h0, hh]
    | succ k =>
      have := ih (k := k) (by simpa using hk) (by simpa using h0)
      simp only [List.set_cons_succ, List.countP_cons]
      omega

/-! ### The states of the slots -/
def sumAt (fr : List Pt) (at_ : Nat) : Int := (List.range 5).foldl (fun s k => if (fr.getD (at_ * 5 + k) (0, 0)).2 ≠ 0 then s + k else s) 0
def rowV (f : Fn) (at_ : Nat) : List Int := (List.range f.slots.toNat).map (fun s : Nat => sumAt (searchV f (s : Int) (0, 0)) at_)
def has2 (x : Int) : Bool := x == 2 || x == 3 || x == 6 || x == 7
def hasLess (x : Int) : Bool := !(x == 0 || x == 4)
def misuseV (i : Ins) (row : List Int) : Int :=
  if i.kind = 5 then (if has2 (row.getD i.a.toNat 0) then 54 else 0)
  else if i.kind = 7 then (if hasLess (row.getD i.b.toNat 0) then 55 else 0)
  else if i.kind = 9 then (if row.any has2 then 56 else 0) else 0
def slotFault (f : Fn) : Option (Int × Int) :=
  (firstAt (fun n i => if misuseV i (rowV f n) = 0 then none else some (misuseV i (rowV f n))) f.code 0).map (fun r => (r.2, (r.1 : Int)))

/-- What Check answers: the error, the function, the place. -/
def checkV (fs : List Fn) : Int × Int × Int :=
  if fs.length < 1 ∨ 32 < fs.length then (50, 0, 0)
  else match firstAt (fun _ f => if shapeV f then none else some ()) fs 0 with
    | some r => (51, r.1, 0)
    | none => match firstAt (fun _ f => codeFault false fs f) fs 0 with
      | some r => (r.2.1, r.1, r.2.2)
      | none => match firstAt (fun _ f => slotFault f) fs 0 with
        | some r => (r.2.1, r.1, r.2.2)
        | none => (0, 0, 0)
end Go.Proofs.YtbdpdojeaahpjaaGreatDoor
/-! Programs in memory: instructions and functions that can be read; the two tables. -/
namespace Go.Proofs.YtbdpdojeaahpjaaGreatDoor
set_option linter.unusedVariables false
set_option maxRecDepth 20000
open Go.RowKit Go.HeapKit

def insCells (i : Ins) : List Value := [.int .i64 i.kind, .int .i64 i.a, .int .i64 i.b, .int .i64 i.c, .int .i64 i.k]
def insV (i : Ins) : Value := .agg #[.int .i64 i.kind, .int .i64 i.a, .int .i64 i.b, .int .i64 i.c, .int .i64 i.k]
/-- An instruction lies there. -/
structure InsAt (w : World) (g o : Nat) (i : Ins) : Prop where
  kind : w.cell? ⟨g, o, none⟩ = some (.int .i64 i.kind)
  a : w.cell? ⟨g, o + 1, none⟩ = some (.int .i64 i.a)
  b : w.cell? ⟨g, o + 2, none⟩ = some (.int .i64 i.b)
  c : w.cell? ⟨g, o + 3, none⟩ = some (.int .i64 i.c)
  k : w.cell? ⟨g, o + 4, none⟩ = some (.int .i64 i.k)
structure SeenI (w : World) (a : Option Addr) (n : Nat) (l : List Ins) : Prop where
  len : n = l.length
  ex : 0 < n → ∃ b off, a = some ⟨b, off, none⟩ ∧ b < w.heap.size ∧ ∀ k i, l[k]? = some i → InsAt w b (off + k * 5) i
def fnV (f : Fn) (ca : Option Addr) (cc : Nat) : Value := .agg #[.int .i64 f.params, .int .i64 f.regs, .int .i64 f.slots, .slice ca f.code.length cc]
structure FnAt (w : World) (b o : Nat) (f : Fn) (ca : Option Addr) (cc : Nat) : Prop where
  params : w.cell? ⟨b, o, none⟩ = some (.int .i64 f.params)
  regs : w.cell? ⟨b, o + 1, none⟩ = some (.int .i64 f.regs)
  slots : w.cell? ⟨b, o + 2, none⟩ = some (.int .i64 f.slots)
  code : w.cell? ⟨b, o + 3, none⟩ = some (.slice ca f.code.length cc)
  seen : SeenI w ca f.code.length f.code
structure SeenF (w : World) (a : Option Addr) (n : Nat) (l : List Fn) : Prop where
  len : n = l.length
  ex : 0 < n → ∃ b off, a = some ⟨b, off, none⟩ ∧ b < w.heap.size ∧ ∀ k f, l[k]? = some f → ∃ ca cc, FnAt w b (off + k * 4) f ca cc
theorem InsAt.kept {w w' : World} {b o : Nat} {i : Ins} {S : Nat → Prop} (h : InsAt w b o i) (hk : Keeps S w w') (hS : ¬ S b) : InsAt w' b o i :=
  ⟨hk.cell h.kind hS, hk.cell h.a hS, hk.cell h.b hS, hk.cell h.c hS, hk.cell h.k hS⟩
theorem SeenI.more {w w' : World} {a : Option Addr} {n : Nat} {l : List Ins} (h : SeenI w a n l) (hk : Keeps None w w') : SeenI w' a n l := by
  refine ⟨h.len, fun h0 => ?_⟩
  obtain ⟨b, off, rfl, hb, hc⟩ := h.ex h0
  exact ⟨b, off, rfl, Nat.lt_of_lt_of_le hb hk.size, fun k i hi => (hc k i hi).kept hk (fun f => f)⟩
theorem FnAt.more {w w' : World} {b o : Nat} {f : Fn} {ca : Option Addr} {cc : Nat} (h : FnAt w b o f ca cc) (hk : Keeps None w w') : FnAt w' b o f ca cc :=
  ⟨hk.cell h.params (fun f => f), hk.cell h.regs (fun f => f), hk.cell h.slots (fun f => f), hk.cell h.code (fun f => f), h.seen.more hk⟩
theorem SeenF.more {w w' : World} {a : Option Addr} {n : Nat} {l : List Fn} (h : SeenF w a n l) (hk : Keeps None w w') : SeenF w' a n l := by
  refine ⟨h.len, fun h0 => ?_⟩
  obtain ⟨b, off, rfl, hb, hc⟩ := h.ex h0
  refine ⟨b, off, rfl, Nat.lt_of_lt_of_le hb hk.size, fun k f hf => ?_⟩
  obtain ⟨ca, cc, h1⟩ := hc k f hf
  exact ⟨ca, cc, h1.more hk⟩
theorem SeenI.at {w : World} {a : Option Addr} {n : Nat} {l : List Ins} (h : SeenI w a n l) {k : Nat} (hk : k < n) : ∃ b off i, a = some ⟨b, off, none⟩ ∧ l[k]? = some i ∧ InsAt w b (off + k * 5) i := by
  obtain ⟨b, off, rfl, hb, hc⟩ := h.ex (by omega)
  have hl := h.len
  exact ⟨b, off, l[k]'(by omega), rfl, by simp, hc k _ (by simp)⟩
theorem SeenF.at {w : World} {a : Option Addr} {n : Nat} {l : List Fn} (h : SeenF w a n l) {k : Nat} (hk : k < n) : ∃ b off f ca cc, a = some ⟨b, off, none⟩ ∧ l[k]? = some f ∧ FnAt w b (off + k * 4) f ca cc := by
  obtain ⟨b, off, rfl, hb, hc⟩ := h.ex (by omega)
  have hl := h.len
  obtain ⟨ca, cc, h1⟩ := hc k (l[k]'(by omega)) (by simp)
  exact ⟨b, off, l[k]'(by omega), ca, cc, rfl, by simp, h1⟩

/-- The table of the kinds, and the first point, lie where the program laid them. -/
def formCells : Array Value := #[.int .i64 1, .int .i64 0, .int .i64 0, .int .i64 0, .bool true, .int .i64 1, .int .i64 1, .int .i64 0, .int .i64 0, .bool true, .int .i64 1, .int .i64 1, .int .i64 1, .int .i64 6, .bool true,
  .int .i64 3, .int .i64 0, .int .i64 0, .int .i64 0, .bool false, .int .i64 1, .int .i64 3, .int .i64 0, .int .i64 0, .bool true, .int .i64 2, .int .i64 4, .int .i64 5, .int .i64 0, .bool true,
  .int .i64 0, .int .i64 0, .int .i64 0, .int .i64 0, .bool true, .int .i64 1, .int .i64 2, .int .i64 0, .int .i64 0, .bool true, .int .i64 1, .int .i64 0, .int .i64 0, .int .i64 0, .bool true,
  .int .i64 1, .int .i64 0, .int .i64 0, .int .i64 0, .bool false]
theorem Tryz.gForms : Tryz.prog.globalNamed "plunder/prog.forms" = some 0 := by kernel_rfl
theorem Tryz.gStart : Tryz.prog.globalNamed "plunder/prog.start" = some 1 := by kernel_rfl
structure Tabs (w : World) : Prop where
  forms : ∃ t fr, w.heap[0]? = some (.cells formCells t fr)
  start : ∃ t fr, w.heap[1]? = some (.cells #[.int .i64 0, .int .i64 1] t fr)
theorem Tabs.more {w w' : World} (h : Tabs w) (hk : Keeps None w w') : Tabs w' := by
  obtain ⟨t, fr, h1⟩ := h.forms
  obtain ⟨t2, fr2, h2⟩ := h.start
  exact ⟨⟨t, fr, (hk.block 0 (Array.getElem?_eq_some_iff.1 h1).1 (fun f => f)).trans h1⟩, ⟨t2, fr2, (hk.block 1 (Array.getElem?_eq_some_iff.1 h2).1 (fun f => f)).trans h2⟩⟩
theorem cell_of_heap {w : World} {g : Nat} {cs : Array Value} {t : TypeId} {fr : Nat × Nat} (h : w.heap[g]? = some (.cells cs t fr)) (j : Nat) : w.cell? ⟨g, j, none⟩ = cs[j]? := by
  simp [World.cell?, h]
theorem Tabs.at {w : World} (h : Tabs w) (n : Nat) (hn : n < 10) : w.cell? ⟨0, n * 5, none⟩ = some (.int .i64 (fA n)) ∧ w.cell? ⟨0, n * 5 + 1, none⟩ = some (.int .i64 (fB n)) ∧ w.cell? ⟨0, n * 5 + 2, none⟩ = some (.int .i64 (fC n)) ∧
    w.cell? ⟨0, n * 5 + 3, none⟩ = some (.int .i64 (fK n)) ∧ w.cell? ⟨0, n * 5 + 4, none⟩ = some (.bool (fN n)) := by
  obtain ⟨t, fr, h1⟩ := h.forms
  rw [cell_of_heap h1, cell_of_heap h1, cell_of_heap h1, cell_of_heap h1, cell_of_heap h1]
  have hd : ∀ n, n < 10 → formCells[n * 5]? = some (.int .i64 (fA n)) ∧ formCells[n * 5 + 1]? = some (.int .i64 (fB n)) ∧ formCells[n * 5 + 2]? = some (.int .i64 (fC n)) ∧ formCells[n * 5 + 3]? = some (.int .i64 (fK n)) ∧ formCells[n * 5 + 4]? = some (.bool (fN n)) := by
    intro n hn
    match n, hn with
    | 0, _ => exact ⟨rfl, rfl, rfl, rfl, rfl⟩
    | 1, _ => exact ⟨rfl, rfl, rfl, rfl, rfl⟩
    | 2, _ => exact ⟨rfl, rfl, rfl, rfl, rfl⟩
    | 3, _ => exact ⟨rfl, rfl, rfl, rfl, rfl⟩
    | 4, _ => exact ⟨rfl, rfl, rfl, rfl, rfl⟩
    | 5, _ => exact ⟨rfl, rfl, rfl, rfl, rfl⟩
    | 6, _ => exact ⟨rfl, rfl, rfl, rfl, rfl⟩
    | 7, _ => exact ⟨rfl, rfl, rfl, rfl, rfl⟩
    | 8, _ => exact ⟨rfl, rfl, rfl, rfl, rfl⟩
    | 9, _ => exact ⟨rfl, rfl, rfl, rfl, rfl⟩
    | n + 10, h => omega
  exact hd n hn
theorem Tabs.start0 {w : World} (h : Tabs w) : w.cell? ⟨1, 0, none⟩ = some (.int .i64 0) ∧ w.cell? ⟨1, 1, none⟩ = some (.int .i64 1) := by
  obtain ⟨t, fr, h1⟩ := h.start
  rw [cell_of_heap h1, cell_of_heap h1]
  exact ⟨rfl, rfl⟩

/-- What is thrown. -/
def faultV (e n a : Int) : Value := .agg #[.int .i64 e, .int .i64 n, .int .i64 a]
def thrown (e n a : Int) : List PanicEntry := [{ v := .iface 83 (faultV e n a), recovered := false }]

/-- All fields are numbers of 64 bits. -/
def okI (x : Int) : Prop := -9223372036854775808 ≤ x ∧ x ≤ 9223372036854775807
structure Ins.Ok (i : Ins) : Prop where
  kind : okI i.kind
  a : okI i.a
  b : okI i.b
  c : okI i.c
  k : okI i.k
structure Fn.Ok (f : Fn) : Prop where
  params : okI f.params
  regs : okI f.regs
  slots : okI f.slots
  code : ∀ i ∈ f.code, i.Ok
end Go.Proofs.YtbdpdojeaahpjaaGreatDoor
/-! From the row's condition on the two variables to the tables. -/
namespace Go.Proofs.YtbdpdojeaahpjaaGreatDoor
set_option linter.unusedVariables false
set_option maxRecDepth 20000
open Go.ChangeShapes Go.WideShapes Go.ChangeAt Go.RowKit

abbrev laidL : List (String × DataW Unit) := [("plunder/prog.forms", Rows.laid_plunder_prog_forms), ("plunder/prog.start", Rows.laid_plunder_prog_start)]
theorem tForms : (Tryz.prog.globals[0]?).map (·.type) = some 125 := by kernel_rfl
theorem tStart : (Tryz.prog.globals[1]?).map (·.type) = some 145 := by kernel_rfl
theorem cForms : Tryz.prog.cellsOf 125 = 50 := by kernel_rfl
theorem cForm : Tryz.prog.cellsOf 124 = 5 := by kernel_rfl
theorem cPt : Tryz.prog.cellsOf 145 = 2 := by kernel_rfl
theorem cI : Tryz.prog.cellsOf 3 = 1 := by kernel_rfl
theorem cB : Tryz.prog.cellsOf 4 = 1 := by kernel_rfl
theorem door_met (os : Os) (args : Array Value) : laidMetH Tryz.prog laidL ((World.doorLaid Tryz.prog 400 os).forCall (fun _ _ => 0) ⟨#[], args, []⟩).memory :=
  laidMetH_of_parts3 (fuel := 8) (laidMet_of_run' 8 (by kernel_rfl) (by kernel_rfl)) (by kernel_rfl) (by kernel_rfl)
section
variable {H : Type} {enc : TypeId × Value → H} {w : World} {base : Nat} {spare : TypeId → Bool} {held : Bool}
theorem int_lit {fuel : Nat} {cs : List Value} {x : DataW H × List MemPlace} {n : Int} (h : DataW.trod enc Tryz.prog w base spare held fuel 3 cs = some x) (hx : x.1 = .lit (.int .i64 n)) : cs = [.int .i64 n] := by
  obtain ⟨k, rfl, rfl, _⟩ := DataW.trod_int Tryz.underlying3 h
  simp at hx
  rw [hx]
theorem bool_lit {fuel : Nat} {cs : List Value} {x : DataW H × List MemPlace} {b : Bool} (h : DataW.trod enc Tryz.prog w base spare held fuel 4 cs = some x) (hx : x.1 = .lit (.bool b)) : cs = [.bool b] := by
  obtain ⟨k, rfl, rfl⟩ := DataW.trod_bool Tryz.underlying4 h
  simp at hx
  rw [hx]
theorem form_lit {fuel : Nat} {cs : List Value} {x : DataW H × List MemPlace} {a b c k : Int} {nx : Bool} (h : DataW.trod enc Tryz.prog w base spare held fuel 124 cs = some x) (hx : x.1 = .agg [.lit (.int .i64 a), .lit (.int .i64 b), .lit (.int .i64 c), .lit (.int .i64 k), .lit (.bool nx)]) :
    cs = [.int .i64 a, .int .i64 b, .int .i64 c, .int .i64 k, .bool nx] := by
  obtain ⟨xs, n, _, rfl, hl, hxl, hf⟩ := DataW.trod_struct Tryz.underlying124 h
  have q0 : DataW.trod enc Tryz.prog w base spare held n 3 (List.take (Tryz.prog.cellsOf 3) (List.drop 0 cs)) = xs[0]? := hf 0 _ rfl
  have q1 : DataW.trod enc Tryz.prog w base spare held n 3 (List.take (Tryz.prog.cellsOf 3) (List.drop 1 cs)) = xs[1]? := hf 1 _ rfl
  have q2 : DataW.trod enc Tryz.prog w base spare held n 3 (List.take (Tryz.prog.cellsOf 3) (List.drop 2 cs)) = xs[2]? := hf 2 _ rfl
  have q3 : DataW.trod enc Tryz.prog w base spare held n 3 (List.take (Tryz.prog.cellsOf 3) (List.drop 3 cs)) = xs[3]? := hf 3 _ rfl
  have q4 : DataW.trod enc Tryz.prog w base spare held n 4 (List.take (Tryz.prog.cellsOf 4) (List.drop 4 cs)) = xs[4]? := hf 4 _ rfl
  have hx5 : xs.length = 5 := hxl
  rw [cI] at q0 q1 q2 q3
  rw [cB] at q4
  rw [cForm] at hl
  match xs, hx5 with
  | [y0, y1, y2, y3, y4], _ =>
    simp at hx
    have e0 := int_lit q0 hx.1
    have e1 := int_lit q1 hx.2.1
    have e2 := int_lit q2 hx.2.2.1
    have e3 := int_lit q3 hx.2.2.2.1
    have e4 := bool_lit q4 hx.2.2.2.2
    match cs, hl with
    | [v0, v1, v2, v3, v4], _ =>
      simp at e0 e1 e2 e3 e4
      rw [e0, e1, e2, e3, e4]
theorem pt_lit {fuel : Nat} {cs : List Value} {x : DataW H × List MemPlace} {a b : Int} (h : DataW.trod enc Tryz.prog w base spare held fuel 145 cs = some x) (hx : x.1 = .agg [.lit (.int .i64 a), .lit (.int .i64 b)]) :
    cs = [.int .i64 a, .int .i64 b] := by
  obtain ⟨xs, n, _, rfl, hl, hxl, hf⟩ := DataW.trod_struct Tryz.underlying145 h
  have q0 : DataW.trod enc Tryz.prog w base spare held n 3 (List.take (Tryz.prog.cellsOf 3) (List.drop 0 cs)) = xs[0]? := hf 0 _ rfl
  have q1 : DataW.trod enc Tryz.prog w base spare held n 3 (List.take (Tryz.prog.cellsOf 3) (List.drop 1 cs)) = xs[1]? := hf 1 _ rfl
  have hx5 : xs.length = 2 := hxl
  rw [cI] at q0 q1
  rw [cPt] at hl
  match xs, hx5 with
  | [y0, y1], _ =>
    simp at hx
    have e0 := int_lit q0 hx.1
    have e1 := int_lit q1 hx.2
    match cs, hl with
    | [v0, v1], _ =>
      simp at e0 e1
      rw [e0, e1]
end
theorem chunks {l m : List Value} (hl : l.length = 50) (hm : m.length = 50) (h : ∀ i, i < 10 → (l.drop (i * 5)).take 5 = (m.drop (i * 5)).take 5) : l = m := by
  apply List.ext_getElem?
  intro q
  by_cases hq : q < 50
  · have := congrArg (fun x => x[q % 5]?) (h (q / 5) (by omega))
    simp only [List.getElem?_take, List.getElem?_drop, show q / 5 * 5 + q % 5 = q by omega, show q % 5 < 5 by omega, if_true] at this
    exact this
  · rw [List.getElem?_eq_none (by omega), List.getElem?_eq_none (by omega)]
theorem of_laid {W : World} (h : laidMetH Tryz.prog laidL W) : Tabs W := by
  rw [MakeChecks.laidMetH_plain _ _ _ (by kernel_rfl)] at h
  obtain ⟨ps, ⟨g0, t0, cs0, f0, p0, q0, hg0, ht0, hv0, hd0, hr, _⟩, _⟩ := h
  obtain ⟨g1, t1, cs1, f1, p1, q1, hg1, ht1, hv1, hd1, _, _⟩ := hr
  obtain rfl := Option.some.inj (Tryz.gForms.symm.trans hg0)
  obtain rfl := Option.some.inj (Tryz.gStart.symm.trans hg1)
  obtain rfl := Option.some.inj (tForms.symm.trans ht0)
  obtain rfl := Option.some.inj (tStart.symm.trans ht1)
  refine ⟨?_, ?_⟩
  · obtain ⟨xs, m1, rfl, hx1, hlen, hn, hel⟩ := DataW.trod_array Tryz.underlying125 hd0
    simp only [Prod.mk.injEq, Rows.laid_plunder_prog_forms, DataW.agg.injEq] at hx1
    rw [cForms] at hlen
    have hxs : xs.length = 10 := by have := congrArg List.length hx1.1; simpa using this.symm
    rw [cForm] at hel
    have hcs : cs0.toList = formCells.toList := by
      refine chunks hlen rfl (fun i hi => ?_)
      have h1 := hel i hi
      rw [List.getElem?_eq_getElem (by omega)] at h1
      have hxi : ∀ d, (xs.map (·.1))[i]? = some d → (xs[i]'(by omega)).1 = d := fun d hd => by
        rw [List.getElem?_map, List.getElem?_eq_getElem (by omega)] at hd
        exact Option.some.inj hd
      rw [← hx1.1] at hxi
      match i, hi with
      | 0, _ => exact form_lit h1 (hxi _ rfl)
      | 1, _ => exact form_lit h1 (hxi _ rfl)
      | 2, _ => exact form_lit h1 (hxi _ rfl)
      | 3, _ => exact form_lit h1 (hxi _ rfl)
      | 4, _ => exact form_lit h1 (hxi _ rfl)
      | 5, _ => exact form_lit h1 (hxi _ rfl)
      | 6, _ => exact form_lit h1 (hxi _ rfl)
      | 7, _ => exact form_lit h1 (hxi _ rfl)
      | 8, _ => exact form_lit h1 (hxi _ rfl)
      | 9, _ => exact form_lit h1 (hxi _ rfl)
    have hcs2 : cs0 = formCells := Array.ext' hcs
    subst hcs2
    simp only [World.var?, hg0, Option.bind_some] at hv0
    split at hv0
    · rename_i cs t fr hb
      obtain rfl := Option.some.inj hv0
      exact ⟨t, fr, hb⟩
    · cases hv0
  · have e := pt_lit hd1 (a := 0) (b := 1) rfl
    have hcs2 : cs1 = #[.int .i64 0, .int .i64 1] := Array.ext' e
    subst hcs2
    simp only [World.var?, hg1, Option.bind_some] at hv1
    split at hv1
    · rename_i cs t fr hb
      obtain rfl := Option.some.inj hv1
      exact ⟨t, fr, hb⟩
    · cases hv1
end Go.Proofs.YtbdpdojeaahpjaaGreatDoor
/-! Structs of 64-bit numbers among the arguments, and slices of them. Whatever the program. -/
namespace Go.HeapKit
open Go.ChangeShapes Go.WideShapes Go.ChangeAt Go.RowKit Go.Deep

section
variable {H : Type} {enc : TypeId × Value → H} {P : Program} {w : World} {base : Nat} {spare : Nat → Bool} {held : Bool}

/-- All fields are 64-bit numbers, one cell each, in order. -/
def allInts (P : Program) (fs : List Field) : Bool :=
  (List.range fs.length).all fun i => match fs[i]? with
    | some f => f.offset == i && (match P.underlying f.type with | some (.int .i64) => true | _ => false) && P.cellsOf f.type == 1
    | none => false
theorem allInts_at {fs : List Field} (h : allInts P fs = true) {i : Nat} {f : Field} (hf : fs[i]? = some f) : f.offset = i ∧ P.underlying f.type = some (.int .i64) ∧ P.cellsOf f.type = 1 := by
  have hi : i < fs.length := (List.getElem?_eq_some_iff.1 hf).1
  have := List.all_eq_true.1 h i (List.mem_range.2 hi)
  rw [hf] at this
  simp only [Bool.and_eq_true, beq_iff_eq] at this
  obtain ⟨⟨h1, h2⟩, h3⟩ := this
  refine ⟨h1, ?_, h3⟩
  split at h2
  · assumption
  · cases h2

theorem struct_ints {t : TypeId} {fs : Array Field} {fuel : Nat} {cs : List Value} {x : DataW H × List MemPlace} (ht : P.underlying t = some (.struct fs)) (ha : allInts P fs.toList = true) (hc : P.cellsOf t = fs.size)
    (h : DataW.trod enc P w base spare held fuel t cs = some x) : ∃ ns : List Int, ns.length = fs.size ∧ cs = ns.map (Value.int .i64) ∧ ∀ n ∈ ns, (Lit.int .i64 n).wf = true := by
  obtain ⟨xs, n, _, rfl, hl, hlen, hf⟩ := DataW.trod_struct ht h
  rw [hc] at hl
  have hat : ∀ i, i < fs.size → ∃ m : Int, cs[i]? = some (.int .i64 m) ∧ (Lit.int .i64 m).wf = true := by
    intro i hi
    have hfi : fs[i]? = some fs[i] := by simp [hi]
    obtain ⟨h1, h2, h3⟩ := allInts_at ha (i := i) (f := fs[i]) (by simp)
    have hq := hf i fs[i] hfi
    rw [h1, h3, show xs[i]? = some xs[i] by simp] at hq
    obtain ⟨m, hm, _, hw⟩ := DataW.trod_int h2 hq
    refine ⟨m, ?_, hw⟩
    have : (List.take 1 (List.drop i cs))[0]? = some (.int .i64 m) := by rw [hm]; rfl
    simpa [List.getElem?_take, List.getElem?_drop] using this
  have hall : ∀ v ∈ cs, ∃ m : Int, v = .int .i64 m ∧ (Lit.int .i64 m).wf = true := by
    intro v hv
    obtain ⟨i, hi, rfl⟩ := List.mem_iff_getElem.1 hv
    obtain ⟨m, hm, hw⟩ := hat i (by omega)
    exact ⟨m, by simpa [hi] using hm, hw⟩
  have hex : ∀ cs : List Value, (∀ v ∈ cs, ∃ m : Int, v = .int .i64 m ∧ (Lit.int .i64 m).wf = true) → ∃ ns : List Int, cs = ns.map (Value.int .i64) ∧ ∀ n ∈ ns, (Lit.int .i64 n).wf = true := by
    intro cs
    induction cs with
    | nil => exact fun _ => ⟨[], rfl, fun _ h => by cases h⟩
    | cons v cs ih =>
      intro hv
      obtain ⟨ns, rfl, hw⟩ := ih (fun u hu => hv u (List.mem_cons_of_mem _ hu))
      obtain ⟨m, rfl, hm⟩ := hv v (List.mem_cons_self ..)
      refine ⟨m :: ns, rfl, ?_⟩
      intro n hn
      rcases List.mem_cons.1 hn with rfl | hn
      · exact hm
      · exact hw n hn
  obtain ⟨ns, rfl, hw⟩ := hex cs hall
  exact ⟨ns, by simpa using hl, rfl, hw⟩

end
end Go.HeapKit
/-! A program among the arguments. -/
namespace Go.Proofs.YtbdpdojeaahpjaaGreatDoor
set_option linter.unusedVariables false
set_option maxRecDepth 20000
open Go.ChangeShapes Go.WideShapes Go.ChangeAt Go.RowKit Go.HeapKit Go.Deep

section
variable {H : Type} {enc : TypeId × Value → H} {w : World} {base : Nat} {held : Bool}
theorem spot_none {w : World} {x : Addr} {v : Value} (h : w.cell? x = some v) : x.spot = none := by
  unfold World.cell? at h
  split at h
  · split at h
    · cases h
    · rename_i hs; simpa using hs
  · cases h
theorem spot_first {w : World} {base n : Nat} {x : Addr} {cs : List Value} (h : w.cells? base (x.add (0 * n)) n = some cs) (hn : 0 < n) : x.spot = none := by
  obtain ⟨_, hl, hc⟩ := World.cells?_some h
  have h0 := hc 0 hn
  rw [Nat.zero_mul, show (x.add 0).add 0 = x by unfold Addr.add; simp, List.getElem?_eq_getElem (by omega)] at h0
  exact spot_none h0
theorem choose_list {α : Type} (p : Nat → α → Prop) (n : Nat) (h : ∀ i, i < n → ∃ x, p i x) : ∃ l : List α, l.length = n ∧ ∀ i x, l[i]? = some x → p i x := by
  induction n with
  | zero => exact ⟨[], rfl, fun i x hx => by simp at hx⟩
  | succ n ih =>
    obtain ⟨l, hl, hp⟩ := ih (fun i hi => h i (by omega))
    obtain ⟨x, hx⟩ := h n (by omega)
    refine ⟨l ++ [x], by simp [hl], fun i y hy => ?_⟩
    by_cases hi : i < n
    · rw [List.getElem?_append_left (by omega)] at hy
      exact hp i y hy
    · have hlt := (List.getElem?_eq_some_iff.1 hy).1
      simp [hl] at hlt
      obtain rfl : i = n := by omega
      rw [List.getElem?_append_right (by omega), hl] at hy
      simp at hy
      subst hy
      exact hx
theorem okI_of_wf {x : Int} (h : (Lit.int .i64 x).wf = true) : okI x := by
  have h1 : IntKind.i64.min = -9223372036854775808 := by decide
  have h2 : IntKind.i64.max = 9223372036854775807 := by decide
  simp [Lit.wf, h1, h2] at h
  unfold okI
  omega
theorem add_at {b o : Nat} (k : Nat) : (⟨b, o, none⟩ : Addr).add k = ⟨b, o + k, none⟩ := by unfold Addr.add; split <;> simp_all

theorem open_codes {fuel : Nat} {cs : List Value} {x : DataW H × List MemPlace} (h : DataW.trod enc Tryz.prog w base (fun _ => true) held fuel 33 cs = some x) :
    ∃ ca n cc l, cs = [.slice ca n cc] ∧ SeenI w ca n l ∧ ∀ i ∈ l, Ins.Ok i := by
  rcases open_slice Tryz.underlying33 h with ⟨rfl, _⟩ | ⟨a, len, cap, m, n, D, Pl, rfl, _, hl, hm, hmm, _, hall⟩
  · exact ⟨none, 0, 0, [], rfl, ⟨rfl, fun h => by omega⟩, fun i hi => by cases hi⟩
  · simp at hmm
    subst hmm
    have hc : Tryz.prog.cellsOf 37 = 5 := by kernel_rfl
    rw [hc] at hall
    have hex : ∀ i, i < len → ∃ x : Ins, x.Ok ∧ ∃ b off, a = ⟨b, off, none⟩ ∧ b < w.heap.size ∧ InsAt w b (off + i * 5) x := by
      intro i hi
      obtain ⟨cs', h1, h2⟩ := hall i (by omega)
      obtain ⟨ns, hl, rfl, hw⟩ := struct_ints Tryz.underlying37 (by kernel_rfl) (by kernel_rfl) h2
      obtain ⟨_, hlen, hcell⟩ := World.cells?_some h1
      have hl5 : ns.length = 5 := hl
      match ns, hl5 with
      | [n0, n1, n2, n3, n4], _ =>
        obtain ⟨b, off, sp⟩ := a
        have hsp : sp = none := by
          obtain ⟨cs0, hz, _⟩ := hall 0 (by omega)
          exact spot_first hz (by omega)
        subst hsp
        have hh : ∀ j, j < 5 → w.cell? ⟨b, off + i * 5 + j, none⟩ = ([n0, n1, n2, n3, n4].map (Value.int .i64))[j]? := by
          intro j hj
          have := hcell j hj
          rw [add_at, add_at] at this
          exact this
        refine ⟨⟨n0, n1, n2, n3, n4⟩, ⟨okI_of_wf (hw _ (by simp)), okI_of_wf (hw _ (by simp)), okI_of_wf (hw _ (by simp)), okI_of_wf (hw _ (by simp)), okI_of_wf (hw _ (by simp))⟩, b, off, rfl, ?_, ⟨hh 0 (by omega), hh 1 (by omega), hh 2 (by omega), hh 3 (by omega), hh 4 (by omega)⟩⟩
        have h0' := hh 0 (by omega)
        cases hb : w.heap[b]? with
        | none => simp [World.cell?, hb] at h0'
        | some o => exact (Array.getElem?_eq_some_iff.1 hb).1
    obtain ⟨l, hll, hp⟩ := choose_list _ len hex
    refine ⟨some a, len, m, l, rfl, ⟨hll.symm, fun h0 => ?_⟩, fun i hi => ?_⟩
    · obtain ⟨_, b, off, rfl, hb, _⟩ := hp 0 (l[0]'(by omega)) (by simp)
      refine ⟨b, off, rfl, hb, fun k i hi => ?_⟩
      obtain ⟨_, b', off', e, _, hat⟩ := hp k i hi
      injection e with e1 e2
      subst e1 e2
      exact hat
    · obtain ⟨k, hk, rfl⟩ := List.mem_iff_getElem.1 hi
      exact (hp k _ (by simp)).1

end
end Go.Proofs.YtbdpdojeaahpjaaGreatDoor
/-! A program among the arguments, and how great it may be. -/
namespace Go.Proofs.YtbdpdojeaahpjaaGreatDoor
set_option linter.unusedVariables false
set_option maxRecDepth 20000
open Go.ChangeShapes Go.WideShapes Go.ChangeAt Go.RowKit Go.HeapKit Go.Deep

section
variable {H : Type} {enc : TypeId × Value → H} {w : World} {base : Nat} {held : Bool}
theorem all_of {l m : List Nat} (h : l.all (· ≤ reachBytes) = true) (hm : ∀ x ∈ m, x ∈ l) : m.all (· ≤ reachBytes) = true := List.all_eq_true.2 fun x hx => List.all_eq_true.1 h x (hm x hx)
theorem mem_all {P : Program} {e : TypeId} {l : List (DataW H)} {k : Nat} {d : DataW H} (hd : l[k]? = some d) : ∀ x ∈ d.weights P e, x ∈ DataW.weightsAll P e l := by
  induction l generalizing k with
  | nil => simp at hd
  | cons y l ih =>
    intro x hx
    simp only [DataW.weightsAll, List.mem_append]
    cases k with
    | zero => simp at hd; subst hd; exact .inl hx
    | succ k => exact .inr (ih (k := k) (by simpa using hd) x hx)
theorem slice_reach {P : Program} {t e : TypeId} {fuel : Nat} {cs : List Value} {x : DataW H × List MemPlace} (ht : P.underlying t = some (.slice e)) (h : DataW.trod enc P w base (fun _ => true) held fuel t cs = some x) {a : Option Addr} {n c : Nat} (hcs : cs = [.slice a n c]) (hall : (x.1.weights P t).all (· ≤ reachBytes) = true) : n * P.bytesOf e ≤ reachBytes := by
  rcases open_slice ht h with ⟨h0, _⟩ | ⟨a', len, cap, m, n', D, Pl, h0, _, hl, hm, hmm, hx, _⟩
  · rw [hcs] at h0
    simp at h0
    rw [h0.2.1]
    simp
  · rw [hcs] at h0
    simp at h0
    obtain ⟨_, rfl, rfl⟩ := h0
    rw [hx] at hall
    simp only [DataW.weights, ht, List.all_cons, Bool.and_eq_true, decide_eq_true_eq, List.length_map, List.length_range] at hall
    simp at hmm
    have h1 : n * P.bytesOf e ≤ (n + (m - n)) * P.bytesOf e := Nat.mul_le_mul_right _ (by omega)
    omega
theorem open_funcsR {fuel : Nat} {cs : List Value} {x : DataW H × List MemPlace} (h : DataW.trod enc Tryz.prog w base (fun _ => true) held fuel 22 cs = some x) :
    ∃ ca n cc l, cs = [.slice ca n cc] ∧ SeenF w ca n l ∧ (∀ f ∈ l, Fn.Ok f) ∧ ((x.1.weights Tryz.prog 22).all (· ≤ reachBytes) = true → n * 48 ≤ reachBytes ∧ ∀ f ∈ l, f.code.length * 40 ≤ reachBytes) := by
  have hreach := fun a n c (hcs : cs = [.slice a n c]) hall => slice_reach Tryz.underlying22 h hcs hall
  rw [show Tryz.prog.bytesOf 35 = 48 by kernel_rfl] at hreach
  rcases open_slice Tryz.underlying22 h with ⟨rfl, _⟩ | ⟨a, len, cap, m, n, D, Pl, rfl, _, hl, hm, hmm, hxx, hall⟩
  · exact ⟨none, 0, 0, [], rfl, ⟨rfl, fun h => by omega⟩, (fun i hi => by cases hi), fun _ => ⟨by simp, fun i hi => by cases hi⟩⟩
  · simp at hmm
    subst hmm
    have hc : Tryz.prog.cellsOf 35 = 4 := by kernel_rfl
    rw [hc] at hall
    have hex : ∀ i, i < len → ∃ x : Fn, x.Ok ∧ (((D i).weights Tryz.prog 35).all (· ≤ reachBytes) = true → x.code.length * 40 ≤ reachBytes) ∧ ∃ b off ca cc, a = ⟨b, off, none⟩ ∧ b < w.heap.size ∧ FnAt w b (off + i * 4) x ca cc := by
      intro i hi
      obtain ⟨cs', h1, h2⟩ := hall i (by omega)
      obtain ⟨_, hlen, hcell⟩ := World.cells?_some h1
      obtain ⟨xs, n, _, hDx, hl', hxl, hf⟩ := DataW.trod_struct Tryz.underlying35 h2
      have q0 : DataW.trod enc Tryz.prog w base (fun _ => true) held n 3 (List.take (Tryz.prog.cellsOf 3) (List.drop 0 cs')) = xs[0]? := hf 0 _ rfl
      have q1 : DataW.trod enc Tryz.prog w base (fun _ => true) held n 3 (List.take (Tryz.prog.cellsOf 3) (List.drop 1 cs')) = xs[1]? := hf 1 _ rfl
      have q2 : DataW.trod enc Tryz.prog w base (fun _ => true) held n 3 (List.take (Tryz.prog.cellsOf 3) (List.drop 2 cs')) = xs[2]? := hf 2 _ rfl
      have q3 : DataW.trod enc Tryz.prog w base (fun _ => true) held n 33 (List.take (Tryz.prog.cellsOf 33) (List.drop 3 cs')) = xs[3]? := hf 3 _ rfl
      have hx4 : xs.length = 4 := hxl
      rw [List.getElem?_eq_getElem (by omega)] at q0
      rw [List.getElem?_eq_getElem (by omega)] at q1
      rw [List.getElem?_eq_getElem (by omega)] at q2
      rw [List.getElem?_eq_getElem (by omega)] at q3
      have ci : Tryz.prog.cellsOf 3 = 1 := by kernel_rfl
      have cc1 : Tryz.prog.cellsOf 33 = 1 := by kernel_rfl
      rw [ci] at q0 q1 q2
      rw [cc1] at q3
      match cs', hlen with
      | [v0, v1, v2, v3], _ =>
        obtain ⟨n0, e0, _, w0⟩ := DataW.trod_int Tryz.underlying3 q0
        obtain ⟨n1, e1, _, w1⟩ := DataW.trod_int Tryz.underlying3 q1
        obtain ⟨n2, e2, _, w2⟩ := DataW.trod_int Tryz.underlying3 q2
        obtain ⟨ca, cn, cc, l, e3, hS, hok⟩ := open_codes q3
        have hr3 := fun hall => slice_reach Tryz.underlying33 q3 e3 hall
        rw [show Tryz.prog.bytesOf 37 = 40 by kernel_rfl] at hr3
        simp at e0 e1 e2 e3
        subst e0 e1 e2 e3
        obtain ⟨b, off, sp⟩ := a
        have hsp : sp = none := by
          obtain ⟨cs0, hz, _⟩ := hall 0 (by omega)
          exact spot_first hz (by omega)
        subst hsp
        have hh : ∀ j, j < 4 → w.cell? ⟨b, off + i * 4 + j, none⟩ = [Value.int .i64 n0, .int .i64 n1, .int .i64 n2, .slice ca cn cc][j]? := by
          intro j hj
          have := hcell j hj
          rw [add_at, add_at] at this
          exact this
        have hcn := hS.len
        subst hcn
        refine ⟨⟨n0, n1, n2, l⟩, ⟨okI_of_wf w0, okI_of_wf w1, okI_of_wf w2, hok⟩, ?_, b, off, ca, cc, rfl, ?_, ⟨hh 0 (by omega), hh 1 (by omega), hh 2 (by omega), hh 3 (by omega), hS⟩⟩
        · intro hw
          refine hr3 (all_of hw fun y hy => ?_)
          have e5 : D i = .agg (xs.map (·.1)) := congrArg Prod.fst hDx
          rw [e5]
          simp only [DataW.weights, Tryz.underlying35]
          exact DataW.weights_mem_each (j := 3) rfl (by rw [List.getElem?_map, List.getElem?_eq_getElem (by omega)]; rfl) y hy
        have h0' := hh 0 (by omega)
        cases hb : w.heap[b]? with
        | none => simp [World.cell?, hb] at h0'
        | some o => exact (Array.getElem?_eq_some_iff.1 hb).1
    obtain ⟨l, hll, hp⟩ := choose_list _ len hex
    refine ⟨some a, len, m, l, rfl, ⟨hll.symm, fun h0 => ?_⟩, fun i hi => ?_, fun hw => ⟨hreach _ _ _ rfl hw, fun f hf => ?_⟩⟩
    · obtain ⟨_, _, b, off, _, _, rfl, hb, _⟩ := hp 0 (l[0]'(by omega)) (by simp)
      refine ⟨b, off, rfl, hb, fun k i hi => ?_⟩
      obtain ⟨_, _, b', off', ca, cc, e, _, hat⟩ := hp k i hi
      injection e with e1 e2
      subst e1 e2
      exact ⟨ca, cc, hat⟩
    · obtain ⟨k, hk, rfl⟩ := List.mem_iff_getElem.1 hi
      exact (hp k _ (by simp)).1
    · obtain ⟨k, hk, rfl⟩ := List.mem_iff_getElem.1 hf
      refine (hp k _ (by simp)).2.1 (all_of hw fun y hy => ?_)
      rw [hxx]
      simp only [DataW.weights, Tryz.underlying22, List.mem_cons, List.mem_append]
      exact .inr (.inl (mem_all (k := k) (by rw [List.getElem?_map, List.getElem?_range (by omega)]; rfl) y hy))
theorem open_progR {r : Reach} {b0 : Nat} {v : Value} {d : DataW H} {ps : List MemPlace} (hval : Value.okWide Tryz.prog w r b0 24 v) (hd : DataW.Trod enc Tryz.prog w base (fun _ => true) held 24 v d ps) :
    ∃ a n c l, v = .agg #[.slice a n c] ∧ SeenF w a n l ∧ (∀ f ∈ l, Fn.Ok f) ∧ ((d.weights Tryz.prog 24).all (· ≤ reachBytes) = true → n * 48 ≤ 140737488351232 ∧ ∀ f ∈ l, f.code.length * 40 ≤ 140737488351232) := by
  obtain ⟨cs, rfl, hs⟩ := okWide_struct Tryz.underlying24 hval
  rw [show Tryz.prog.cellsOf 24 = 1 by kernel_rfl] at hs
  obtain ⟨fuel, hf⟩ := hd
  obtain ⟨xs, n, _, hxx, hl', hxl, hf⟩ := DataW.trod_struct Tryz.underlying24 hf
  have q0 : DataW.trod enc Tryz.prog w base (fun _ => true) held n 22 (List.take (Tryz.prog.cellsOf 22) (List.drop 0 (Value.agg cs).cells.toList)) = xs[0]? := hf 0 _ rfl
  have hx1 : xs.length = 1 := hxl
  rw [List.getElem?_eq_getElem (by omega)] at q0
  obtain ⟨cs⟩ := cs
  match cs, hs with
  | [v0], _ =>
    rw [show Tryz.prog.cellsOf 22 = 1 by kernel_rfl] at q0
    obtain ⟨a, n, c, l, e, hS, hok, hrr⟩ := open_funcsR q0
    simp [Value.cells] at e
    subst e
    refine ⟨a, n, c, l, rfl, hS, hok, fun hw => hrr (all_of hw fun y hy => ?_)⟩
    have e5 : d = .agg (xs.map (·.1)) := congrArg Prod.fst hxx
    rw [e5]
    simp only [DataW.weights, Tryz.underlying24]
    exact DataW.weights_mem_each (j := 0) rfl (by rw [List.getElem?_map, List.getElem?_eq_getElem (by omega)]; rfl) y hy
theorem weights_at {P : Program} {ts : List TypeId} {ds : List (DataW H)} (h : (DataW.weightsEach P ts ds).all (· ≤ reachBytes) = true) {j : Nat} {t : TypeId} {d : DataW H} (ht : ts[j]? = some t) (hd : ds[j]? = some d) :
    (d.weights P t).all (· ≤ reachBytes) = true := all_of h (DataW.weights_mem_each ht hd)
end
end Go.Proofs.YtbdpdojeaahpjaaGreatDoor
