import Derived.WalkKit
import Derived.Laws.CopyOwn
import Derived.Deep.RegionLaw
import Derived.ArgAppend
import Derived.Test.YtdiabpoafennlabRows
import Derived.OwnWalk
import Derived.Deep.QuietTactic
import Derived.BigQuiet
/-! Memory: which blocks a call leaves as they were; rows of the call's own that are appended to, and whose block stays or is new. Whatever the program. -/
namespace Go.HeapKit
open Go.RowKit

/-- All blocks but those of S stand as they stood. -/
structure Keeps (S : Nat → Prop) (w w' : World) : Prop where
  os : w'.os = w.os
  tape : w'.tape = w.tape
  output : w'.output = w.output
  size : w.heap.size ≤ w'.heap.size
  block : ∀ k, k < w.heap.size → ¬ S k → w'.heap[k]? = w.heap[k]?

def None : Nat → Prop := fun _ => False

theorem Keeps.refl (S : Nat → Prop) (w : World) : Keeps S w w := ⟨rfl, rfl, rfl, Nat.le_refl _, fun _ _ _ => rfl⟩
theorem Keeps.trans {S T : Nat → Prop} {a b c : World} (h : Keeps S a b) (k : Keeps T b c) (hT : ∀ i, T i → i < a.heap.size → S i) : Keeps S a c :=
  ⟨k.os.trans h.os, k.tape.trans h.tape, k.output.trans h.output, Nat.le_trans h.size k.size,
   fun i hi hn => (k.block i (Nat.lt_of_lt_of_le hi h.size) (fun t => hn (hT i t hi))).trans (h.block i hi hn)⟩
theorem Keeps.mono {S T : Nat → Prop} {a b : World} (h : Keeps S a b) (hT : ∀ i, S i → i < a.heap.size → T i) : Keeps T a b :=
  ⟨h.os, h.tape, h.output, h.size, fun i hi hn => h.block i hi (fun s => hn (hT i s hi))⟩
theorem Keeps.drew (S : Nat → Prop) (w : World) : Keeps S w w.drew := ⟨rfl, rfl, rfl, Nat.le_refl _, fun _ _ _ => rfl⟩
theorem Keeps.alloc (S : Nat → Prop) (w : World) (o : Obj) : Keeps S w (w.alloc o) := ⟨rfl, rfl, rfl, by simp, fun k hk _ => Below.heap_alloc _ _ _ hk⟩
theorem Keeps.setCell {S : Nat → Prop} (w : World) {a : Addr} (ha : S a.block) (v : Value) : Keeps S w (w.setCell a v) :=
  ⟨rfl, rfl, rfl, by simp [World.setCell], fun k _ hn => Below.heap_setCell _ _ _ _ (fun e => hn (e ▸ ha))⟩
theorem Keeps.grown {S : Nat → Prop} {w w' : World} {row : Option Nat} (hg : w.grownBy w' row) (hr : ∀ k, row = some k → S k) : Keeps S w w' :=
  ⟨hg.os, hg.tape, hg.output, hg.size, fun k hk hn => hg.block k hk (fun e => hn (hr k e.symm))⟩
theorem Keeps.andAlloc {S : Nat → Prop} {a b : World} (h : Keeps S a b) (o : Obj) : Keeps S a (b.alloc o) := h.trans (Keeps.alloc None b o) (fun _ f _ => f.elim)
theorem Keeps.andDrew {S : Nat → Prop} {a b : World} (h : Keeps S a b) : Keeps S a b.drew := h.trans (Keeps.drew None b) (fun _ f _ => f.elim)
theorem Keeps.andSet {S : Nat → Prop} {a b : World} (h : Keeps S a b) {x : Addr} (hx : S x.block ∨ a.heap.size ≤ x.block) (v : Value) : Keeps S a (b.setCell x v) :=
  h.trans (Keeps.setCell (S := (· = x.block)) b rfl v) (fun i e hi => by subst e; rcases hx with hx | hx; exact hx; omega)
theorem Keeps.andGrown {S : Nat → Prop} {a b c : World} {row : Option Nat} (h : Keeps S a b) (hg : b.grownBy c row) (hr : ∀ k, row = some k → S k ∨ a.heap.size ≤ k) : Keeps S a c :=
  h.trans (Keeps.grown (S := fun k => row = some k) hg (fun _ e => e)) (fun i e hi => by rcases hr i e with hx | hx; exact hx; omega)
theorem Keeps.below {S : Nat → Prop} {w w' : World} (h : Keeps S w w') (B : Nat) (hB : B ≤ w.heap.size) (hS : ∀ k, S k → B ≤ k) : Below B w w' :=
  ⟨h.os, h.tape, h.output, h.size, fun k hk => h.block k (by omega) (fun s => by have := hS k s; omega)⟩
theorem Keeps.cell {S : Nat → Prop} {w w' : World} (h : Keeps S w w') {a : Addr} {v : Value} (hc : w.cell? a = some v) (hn : ¬ S a.block) : w'.cell? a = some v := by
  have hlt : a.block < w.heap.size := by
    cases hb : w.heap[a.block]? with
    | none => simp [World.cell?, hb] at hc
    | some o => exact (Array.getElem?_eq_some_iff.1 hb).1
  exact (World.cell?_of_block (h.block _ hlt hn)).trans hc
theorem Keeps.own {S : Nat → Prop} {w w' : World} (h : Keeps S w w') {base : Nat} {e : TypeId} {size : Nat} {v : Value} {n : Nat} {xs : List Value} (ho : w.ownsRow base e size v n xs)
    (hn : ∀ k, v.ownBlock = some k → ¬ S k) : w'.ownsRow base e size v n xs := by
  refine ⟨ho.1, ?_⟩
  rcases ho.2 with h0 | ⟨g, cap, cur, rfl, hb, hg, r⟩
  · exact .inl h0
  · exact .inr ⟨g, cap, cur, rfl, hb, (h.block g (Array.getElem?_eq_some_iff.1 hg).1 (hn g rfl)).trans hg, r⟩

/-- The row's block is the one it was, or a new one. -/
def Moved (w : World) (v v' : Value) : Prop := v'.ownBlock = v.ownBlock ∨ ∃ g, v'.ownBlock = some g ∧ w.heap.size ≤ g
theorem Moved.refl (w : World) (v : Value) : Moved w v v := .inl rfl
theorem Moved.trans {w w1 : World} {v v1 v2 : Value} (h : Moved w v v1) (k : Moved w1 v1 v2) (hs : w.heap.size ≤ w1.heap.size) : Moved w v v2 := by
  rcases k with k | ⟨g, k, hg⟩
  · rcases h with h | ⟨g, h, hg⟩
    · exact .inl (k.trans h)
    · exact .inr ⟨g, k.trans h, hg⟩
  · exact .inr ⟨g, k, by omega⟩

theorem own_lt {w : World} {base : Nat} {e : TypeId} {size : Nat} {v : Value} {n : Nat} {xs : List Value} (h : w.ownsRow base e size v n xs) {g : Nat} (hg : v.ownBlock = some g) : g < w.heap.size := by
  rcases h.2 with ⟨rfl, _⟩ | ⟨g', cap, cur, rfl, _, hb, _⟩
  · simp [Value.ownBlock] at hg
  · simp [Value.ownBlock] at hg
    subst hg
    exact (Array.getElem?_eq_some_iff.1 hb).1
/-- Rows of different elements lie in different blocks. -/
theorem own_type {w : World} {base : Nat} {e : TypeId} {size : Nat} {v : Value} {n : Nat} {xs : List Value} (h : w.ownsRow base e size v n xs) {g : Nat} (hg : v.ownBlock = some g)
    {c : Array Value} {e' : TypeId} {fz : Nat × Nat} (hb : w.heap[g]? = some (.cells c e' fz)) : e = e' := by
  rcases h.2 with ⟨rfl, _⟩ | ⟨g', cap, cur, rfl, _, hb', _⟩
  · simp [Value.ownBlock] at hg
  · simp [Value.ownBlock] at hg
    subst hg
    rw [hb] at hb'
    simp at hb'
    exact hb'.2.1.symm
theorem own_block {w : World} {base : Nat} {e : TypeId} {size : Nat} {v : Value} {n : Nat} {xs : List Value} (h : w.ownsRow base e size v n xs) {g : Nat} (hg : v.ownBlock = some g) :
    ∃ c, w.heap[g]? = some (.cells c e (0, 0)) := by
  rcases h.2 with ⟨rfl, _⟩ | ⟨g', cap, cur, rfl, _, hb', _⟩
  · simp [Value.ownBlock] at hg
  · simp [Value.ownBlock] at hg
    subst hg
    exact ⟨cur, hb'⟩
theorem own_apart {w : World} {b1 b2 : Nat} {e1 e2 : TypeId} {s1 s2 : Nat} {v1 v2 : Value} {n1 n2 : Nat} {x1 x2 : List Value} (h1 : w.ownsRow b1 e1 s1 v1 n1 x1) (h2 : w.ownsRow b2 e2 s2 v2 n2 x2) (he : e1 ≠ e2) {g : Nat} (hg : v1.ownBlock = some g) :
    v2.ownBlock ≠ some g := by
  intro hg2
  obtain ⟨c, hc⟩ := own_block h2 hg2
  exact he (own_type h1 hg hc)

section
variable {P : Program} (w : World)

/-- 'append(s, x...)' on a row of the call's own: what it owns behind it; its block is the old one or new. -/
theorem run_append_moved (base : Nat) (t ty e : TypeId) (i : TypeInfo) (z : Value) (size bytes : Nat) (ht : P.underlying t = some (.slice e)) (hi : P.info? e = some i) (hz : i.zero = some z)
    (hsize : i.size = size) (hby : i.bytes = bytes) (hzs : z.cells.size = size) (hsz : 0 < size)
    (v : Value) (n : Nat) (xs : List Value) (hown : w.ownsRow base e size v n xs)
    (a : Addr) (m c : Nat) (news : List Value) (hl : news.length = m * size) (hnews : ∀ j u, news[j]? = some u → w.cell? (a.add j) = some u) (h1 : ∀ u ∈ news, u.oneCell' = true)
    (h63 : n + m ≤ maxLen) (hbytes : (n + m) * bytes ≤ 140737488355328) (hbase : base ≤ w.heap.size) :
    ∃ v' w', (Builtin.append_ #[t, t] ty #[v, .slice (some a) m c]).run P w = .ok v' w' ∧ w'.ownsRow base e size v' (n + m) (xs ++ news) ∧ w.grownBy w' v.ownBlock ∧ Moved w v v' ∧
      (v' = .slice none 0 0 ↔ v = .slice none 0 0 ∧ m = 0) := by
  obtain ⟨v', w', hr, ho, hg, hn⟩ := run_append_own (P := P) w base t ty e i z size bytes ht hi hz hsize hby hzs hsz v n xs hown a m c news hl hnews h1 h63 hbytes hbase
  refine ⟨v', w', hr, ho, hg, ?_, hn⟩
  subst hsize
  subst hby
  have hsmall : n + m ≤ 9223372036854775807 := by simp only [maxLen] at h63; omega
  rcases hown.2 with ⟨rfl, rfl⟩ | ⟨g, cap, cur, rfl, hbg, hgg, hnc, hcm, hcs, htake⟩
  · by_cases hm : m = 0
    · rw [hn.2 ⟨rfl, hm⟩]
      exact .inl rfl
    · have hr2 := run_append_nil (P := P) w t ty e i z ht hi hz a m c news hl hnews (by omega) (by omega) (by have hb := hbytes; simp only [Nat.zero_add] at hb; omega)
      rw [hr] at hr2
      injection hr2 with e1 e2
      exact .inr ⟨w.heap.size, by rw [e1]; rfl, Nat.le_refl _⟩
  · by_cases hroom : n + m ≤ cap
    · have hfit : n * i.size + news.length ≤ cur.size := by rw [hl, hcs, ← Nat.add_mul]; exact Nat.mul_le_mul_right _ hroom
      have hr2 := run_append_room (P := P) w t ty e i ht hi g n cap cur hgg a m c news hl hnews h1 hroom hfit
      rw [hr] at hr2
      injection hr2 with e1 e2
      exact .inl (by rw [e1]; rfl)
    · have holds : ∀ j u, xs[j]? = some u → w.cell? ((⟨g, 0, none⟩ : Addr).add j) = some u := hown.cells (g := g) rfl
      have hr2 := run_append_grow (P := P) w t ty e i z ht hi hz ⟨g, 0, none⟩ n cap xs hown.1 holds a m c news hl hnews (by omega) (by omega) (growslice_fits (by omega) hbytes)
      rw [hr] at hr2
      injection hr2 with e1 e2
      exact .inr ⟨w.heap.size, by rw [e1]; rfl, Nat.le_refl _⟩

/-- 'append(s, make([]T, m)...)': so many zeros behind a row of the call's own. -/
theorem run_append_zeros (base : Nat) (t ti ty e : TypeId) (k : IntKind) (i : TypeInfo) (z : Value) (bytes : Nat) (ht : P.underlying t = some (.slice e)) (hti : P.underlying ti = some (.int k)) (hi : P.info? e = some i) (hz : i.zero = some z)
    (hsize : i.size = 1) (hby : i.bytes = bytes) (hzs : z.cells = #[z]) (hz1 : z.oneCell' = true)
    (v : Value) (n : Nat) (xs : List Value) (hown : w.ownsRow base e 1 v n xs) (m : Nat) (hm : 0 < m)
    (h63 : n + m ≤ maxLen) (hbytes : (n + m) * bytes ≤ 140737488355328) (hbase : base ≤ w.heap.size) :
    ∃ v' w', (Builtin.append_ #[t, ti] ty #[v, .int k m]).run P w = .ok v' w' ∧ w'.ownsRow base e 1 v' (n + m) (xs ++ List.replicate m z) ∧ w.grownBy w' v.ownBlock ∧ Moved w v v' := by
  subst hby
  have hsmall : n + m ≤ 9223372036854775807 := by simp only [maxLen] at h63; omega
  have hwrap : IntKind.i64.wrap (m : Int) = m := by rw [IntKind.wrap_i64]; omega
  have hai : ∀ w, Sem.run P (asInt (.int k (m : Int))) w = .ok (m : Int) w := fun _ => rfl
  have hm0 : ¬ m = 0 := by omega
  have hmb : m * i.bytes ≤ 140737488355328 := Nat.le_trans (Nat.mul_le_mul_right _ (by omega)) hbytes
  have hmb' : ¬ (281474976710656 < (m : Int) * (i.bytes : Int)) := by
    rw [← Int.natCast_mul]
    omega
  have hneg : ¬ ((m : Int) < 0) := by omega
  have hzc : ∀ m, Builtin.zeroCells #[z] m = (List.replicate m z).toArray := by
    intro m
    simp only [Builtin.zeroCells]
    apply Array.ext
    · simp
    · intro j h1 h2
      simp [Nat.mod_one]
  have hlen : (xs ++ List.replicate m z).length = (n + m) * 1 := by rw [List.length_append, hown.1, List.length_replicate, Nat.add_mul, Nat.mul_one, Nat.mul_one]
  rcases hown.2 with ⟨rfl, rfl⟩ | ⟨g, cap, cur, rfl, hbg, hg, hnc, hcm, hcs, htake⟩
  · have hx : xs = [] := List.eq_nil_of_length_eq_zero (by simpa using hown.1)
    subst hx
    have h63' : ¬ (9223372036854775807 < (m : Int)) := by omega
    have h48' : ¬ (281474976710656 < Builtin.nextslicecap m 0 * i.bytes) := by rw [nextslicecap_zero hm]; omega
    refine ⟨.slice (some ⟨w.heap.size, 0, none⟩) m (grownCap w m 0 e), w.drew.alloc (.cells ((List.replicate m z).toArray ++ Builtin.zeroCells #[z] (grownCap w m 0 e - m)) e), ?_, ?_, ?_, .inr ⟨_, rfl, Nat.le_refl _⟩⟩
    · simp [Builtin.append_, run_underlying ht, run_underlying hti, sizeOf, typeInfo, zeroValue, hi, hz, hsize, hzs, hzc, hai, hwrap, hneg, hmb', hm0, h63', h48', Question.forced, run_firstCells_none, newRow, grownCap]
    · refine ⟨by simp, .inr ⟨w.heap.size, _, _, by simp, hbase, heap_alloc_new w.drew _, by simpa using grownCap_ge w m 0 e, grownCap_le_maxLen w m 0 e (by omega), ?_, ?_⟩⟩
      · have := grownCap_ge w m 0 e
        simp [hzc]
        omega
      · simp [hzc]
    · exact ⟨rfl, rfl, rfl, by simp, fun k hk _ => Below.heap_alloc w.drew _ k hk⟩
  · by_cases hroom : n + m ≤ cap
    · have hfit : n * 1 + (List.replicate m z).length ≤ cur.size := by simp; omega
      have hst := run_storeCells_at P g (n * 1) e (List.replicate m z) 0 cur w hg (by simpa using hfit) (fun u hu => by rw [List.eq_of_mem_replicate hu]; exact hz1)
      simp only [Nat.add_zero] at hst
      refine ⟨.slice (some ⟨g, 0, none⟩) (n + m) cap, _, ?_, ⟨hlen, .inr ⟨g, cap, _, rfl, hbg, setRow_heap w g cur ((cur.toList.take (n * 1) ++ List.replicate m z ++ cur.toList.drop (n * 1 + (List.replicate m z).length)).toArray) e _ hg, hroom, hcm, ?_, ?_⟩⟩, ⟨rfl, rfl, rfl, by simp, fun k _ hk => setRow_other w g k _ (fun e => hk (by simp [Value.ownBlock, e]))⟩, .inl rfl⟩
      · simp [Builtin.append_, run_underlying ht, run_underlying hti, sizeOf, typeInfo, zeroValue, hi, hz, hsize, hzs, hzc, hai, hwrap, hneg, hmb', hm0, hroom, Addr.add_lit] at hst ⊢
        simp [hst]
      · simp only [List.size_toArray, List.length_append, List.length_take, List.length_drop, Array.length_toList]
        omega
      · rw [htake, ← hlen]
        exact List.take_left
    · have holds : ∀ j u, xs[j]? = some u → w.cell? ((⟨g, 0, none⟩ : Addr).add j) = some u := hown.cells (g := g) rfl
      have h63' : ¬ (9223372036854775807 < ((n : Int) + (m : Int))) := by omega
      have h48' : ¬ (281474976710656 < Builtin.nextslicecap (n + m) cap * i.bytes) := by have := growslice_fits (old := cap) (by omega) hbytes; omega
      have hf := run_firstCells_some (P := P) w.drew 1 n ⟨g, 0, none⟩ n cap xs hown.1 (by simpa using holds)
      refine ⟨.slice (some ⟨w.heap.size, 0, none⟩) (n + m) (grownCap w (n + m) cap e), w.drew.alloc (.cells (xs.toArray ++ (List.replicate m z).toArray ++ Builtin.zeroCells #[z] (grownCap w (n + m) cap e - (n + m))) e), ?_, ?_, ?_, .inr ⟨_, rfl, Nat.le_refl _⟩⟩
      · simp [Builtin.append_, run_underlying ht, run_underlying hti, sizeOf, typeInfo, zeroValue, hi, hz, hsize, hzs, hzc, hai, hwrap, hneg, hmb', hm0, hroom, h63', h48', Question.forced, hf, newRow, grownCap]
      · have hge := grownCap_ge w (n + m) cap e
        refine ⟨hlen, .inr ⟨w.heap.size, _, _, rfl, hbase, heap_alloc_new w.drew _, hge, grownCap_le_maxLen w (n + m) cap e h63, ?_, ?_⟩⟩
        · have := hown.1
          simp [hzc]
          omega
        · simp only [Array.toList_append, List.append_assoc]
          rw [← List.append_assoc, ← hlen]
          exact List.take_left
      · exact ⟨rfl, rfl, rfl, by simp, fun k hk _ => Below.heap_alloc w.drew _ k hk⟩

variable {w}
/-- One step by its run's equation. -/
theorem wpList_append_run {ops : Array Oper} {rest : List Oper} {o : Oper} {a : Act} {Q : Exit → Act → World → Prop} (hgd : o.guard = none) (s x : Operand) (t t' : TypeId)
    (ho : o.op = .call { callee := .builtin .append, args := #[s, x], argTypes := #[t, t'] }) {v u v' : Value} {w' : World} (hs : a.eval s = v) (hx : a.eval x = u)
    (hr : (Builtin.append_ #[t, t'] o.type #[v, u]).run P w = .ok v' w') (h : wpList P ops Q rest (a.put o.dst v') w') : wpList P ops Q (o :: rest) a w :=
  wpList_plain hgd fun _ hK => by
    unfold Oper.wp execOp
    simp only [ho, resolve, invoke, builtin, Sem.run_bind, Sem.run_pure, Result.andThen_ok, List.map_toArray, List.map_cons, List.map_nil, hs, hx, hr]
    exact hK _ _ h

theorem step_append_run {ops : Array Oper} {o : Oper} {a : Act} {K : Act → World → Prop} {Q : Exit → Act → World → Prop} {E : Prop}
    (hg : o.guard = none) (s x : Operand) (t t' : TypeId) (hop : o.op = Op.call { callee := Callee.builtin Builtin.append, args := #[s, x], argTypes := #[t, t'] })
    {v u v' : Value} {w' : World} (hs : a.eval s = v) (hx : a.eval x = u)
    (hr : (Builtin.append_ #[t, t'] o.type #[v, u]).run P w = .ok v' w') (hK : K (a.put o.dst v') w') :
    if Region.wanted o (yielded ops a.tmps) = true then Oper.wp P o a w K Q else E := by
  have hw : Region.wanted o (yielded ops a.tmps) = true := by simp [Region.wanted, hg]
  rw [if_pos hw]
  unfold Oper.wp
  simp [execOp, hop, resolve, invoke, builtin, hs, hx, hr, Result.andThen]
  exact hK

/-- 'make([]T, n)': a new block. -/
theorem run_make_block (t e : TypeId) (i : TypeInfo) (z : Value) (size bytes : Nat) (ht : P.underlying t = some (.slice e)) (hi : P.info? e = some i) (hz : i.zero = some z) (hs : i.size = size) (hb : i.bytes = bytes) (n : Nat)
    (hbytes : bytes * n ≤ 281474976710656) (h63 : n ≤ 9223372036854775807) :
    ∃ M : Array Value, M = madeCells z.cells (n * size) ∧ M.size = n * size ∧ (Instr.makeSlice t (.int .i64 n) (.int .i64 n)).run P w = .ok (.slice (some ⟨w.heap.size, 0, none⟩) n n) (w.alloc (.cells M e)) := by
  subst hs hb
  refine ⟨madeCells z.cells (n * i.size), rfl, size_madeCells _ _, ?_⟩
  have h := run_make (P := P) w t e i z ht hi hz .i64 .i64 n n (by omega) (by omega) (by rw [← Int.natCast_mul]; omega) (by omega)
  simpa using h

theorem wpList_make_run {ops : Array Oper} {rest : List Oper} {o : Oper} {a : Act} {Q : Exit → Act → World → Prop} (hgd : o.guard = none) (l c : Operand) (t : TypeId)
    (ho : o.op = Op.makeSlice t l c) {vl vc v' : Value} {w' : World} (hl : a.eval l = vl) (hc : a.eval c = vc)
    (hr : (Instr.makeSlice t vl vc).run P w = .ok v' w') (h : wpList P ops Q rest (a.put o.dst v') w') : wpList P ops Q (o :: rest) a w :=
  wpList_plain hgd fun _ hK => by
    unfold Oper.wp
    simp [execOp, ho, hl, hc, hr, Result.andThen]
    exact hK _ _ h

theorem wpList_copy_run {ops : Array Oper} {rest : List Oper} {o : Oper} {a : Act} {Q : Exit → Act → World → Prop} (hgd : o.guard = none) (s x : Operand) (t t' : TypeId)
    (ho : o.op = .call { callee := .builtin .copy, args := #[s, x], argTypes := #[t, t'] }) {v u v' : Value} {w' : World} (hs : a.eval s = v) (hx : a.eval x = u)
    (hr : (Builtin.copy_ #[t, t'] o.type #[v, u]).run P w = .ok v' w') (h : wpList P ops Q rest (a.put o.dst v') w') : wpList P ops Q (o :: rest) a w :=
  wpList_plain hgd fun _ hK => by
    unfold Oper.wp execOp
    simp only [ho, resolve, invoke, builtin, Sem.run_bind, Sem.run_pure, Result.andThen_ok, List.map_toArray, List.map_cons, List.map_nil, hs, hx, hr]
    exact hK _ _ h

/-- 'copy(d, s)': a whole row, of elements of whatever width, over a new block that is as long. -/
theorem run_copy_all (dT sT ty e : TypeId) (size : Nat) (hu : P.underlying dT = some (.slice e)) (hsz : (P.info? e).map (·.size) = some size) (g n c : Nat) (cur : Array Value) (t : TypeId)
    (hg : w.heap[g]? = some (.cells cur t (0, 0))) (hcs : cur.size = n * size) (v : Value) (xs : List Value) (hown : w.ownsRow 0 e size v n xs) (h1 : ∀ v ∈ xs, v.oneCell' = true) :
    ∃ w', (Builtin.copy_ #[dT, sT] ty #[.slice (some ⟨g, 0, none⟩) n c, v]).run P w = .ok (goInt n) w' ∧ w'.heap[g]? = some (.cells xs.toArray t (0, 0)) ∧ w.grownBy w' (some g) := by
  cases hq : P.info? e with
  | none => simp [hq] at hsz
  | some i =>
    have hi : i.size = size := by simpa [hq] using hsz
    rcases hown.2 with ⟨rfl, rfl⟩ | ⟨g', cap, cur', rfl, _, hg', hn, _, hcs', ht⟩
    · obtain rfl : xs = [] := List.eq_nil_of_length_eq_zero (by simpa using hown.1)
      obtain rfl : cur = #[] := Array.eq_empty_of_size_eq_zero (by simpa using hcs)
      refine ⟨w, ?_, hg, ⟨rfl, rfl, rfl, Nat.le_refl _, fun _ _ _ => rfl⟩⟩
      simp [Builtin.copy_, run_underlying hu, Builtin.lenOf, Builtin.firstCells, sizeOf, typeInfo, hq, storeCells]
    · have hf := run_firstCells_some (P := P) w size n ⟨g', 0, none⟩ n cap xs hown.1 (hown.cells (g := g') rfl)
      have hst := run_storeCells_at P g 0 t xs 0 cur w hg (by rw [hown.1, hcs]; omega) h1
      refine ⟨w.setRow g xs.toArray, ?_, setRow_heap w g cur _ t _ hg, ⟨rfl, rfl, rfl, by simp, fun k _ hk => setRow_other w g k _ (fun e => hk (by rw [e]))⟩⟩
      have he : cur.toList.take (0 + 0) ++ xs ++ cur.toList.drop (0 + 0 + xs.length) = xs := by
        rw [show cur.toList.drop (0 + 0 + xs.length) = [] from List.drop_eq_nil_of_le (by rw [hown.1, Array.length_toList, hcs]; omega)]
        simp
      rw [he] at hst
      simp [Builtin.copy_, run_underlying hu, Builtin.lenOf, sizeOf, typeInfo, hq, hi, hf, hst]
end
end Go.HeapKit
/-! Deeds, plainly; lists of them in memory. -/
namespace Go.Proofs.Ytdiabpoafennlab
set_option linter.unusedVariables false
set_option maxRecDepth 20000
open Go.RowKit Go.HeapKit

theorem blk_cell {w : World} {p : Nat} {c : Array Value} {t : TypeId} {fz : Nat × Nat} (h : w.heap[p]? = some (.cells c t fz)) (i : Nat) : w.cell? ⟨p, i, none⟩ = c[i]? := by
  simp [World.cell?, h]
theorem blk_free {w : World} {p : Nat} {c : Array Value} {t : TypeId} (h : w.heap[p]? = some (.cells c t (0, 0))) (i : Nat) : w.frozen? ⟨p, i, none⟩ = false := by
  simp [World.frozen?, h]
theorem blk_set {w : World} {p i : Nat} {c : Array Value} {t : TypeId} {fz : Nat × Nat} (h : w.heap[p]? = some (.cells c t fz)) (v : Value) :
    (w.setCell ⟨p, i, none⟩ v).heap[p]? = some (.cells (c.setIfInBounds i v) t fz) := by
  simp [World.setCell, Array.getElem?_modify, h]
theorem blk_new (w : World) (o : Obj) (n : Nat) (hn : w.heap.size = n) : (w.alloc o).heap[n]? = some o := by subst hn; exact heap_alloc_new w o
theorem blk_lt {w : World} {p : Nat} {o : Obj} (h : w.heap[p]? = some o) : p < w.heap.size := (Array.getElem?_eq_some_iff.1 h).1
theorem row_shape {w : World} {base : Nat} {e : TypeId} {size : Nat} {v : Value} {n : Nat} {xs : List Value} (h : w.ownsRow base e size v n xs) : ∃ ao cap, v = .slice ao n cap := by
  rcases h.2 with ⟨rfl, rfl⟩ | ⟨g, cap, cur, rfl, _⟩
  · exact ⟨none, 0, rfl⟩
  · exact ⟨_, cap, rfl⟩
theorem row_base {w : World} {base base' : Nat} {e : TypeId} {size : Nat} {v : Value} {n : Nat} {xs : List Value} (h : w.ownsRow base e size v n xs) (hb : base' ≤ base) : w.ownsRow base' e size v n xs := by
  refine ⟨h.1, ?_⟩
  rcases h.2 with h | ⟨g, cap, cur, hv, hbg, r⟩
  · exact .inl h
  · exact .inr ⟨g, cap, cur, hv, Nat.le_trans hb hbg, r⟩
theorem row_low {w : World} {base : Nat} {e : TypeId} {size : Nat} {v : Value} {n : Nat} {xs : List Value} (h : w.ownsRow base e size v n xs) {g : Nat} (hg : v.ownBlock = some g) : base ≤ g := by
  rcases h.2 with ⟨rfl, rfl⟩ | ⟨g', cap, cur, rfl, hbg, r⟩
  · simp [Value.ownBlock] at hg
  · simp [Value.ownBlock] at hg; omega
/-- A row stands while its block does. -/
theorem row_kept {S : Nat → Prop} {w w' : World} {base : Nat} {e : TypeId} {size : Nat} {v : Value} {n : Nat} {xs : List Value} (ho : w.ownsRow base e size v n xs) (h : Keeps S w w') (hS : ∀ g, v.ownBlock = some g → ¬ S g) : w'.ownsRow base e size v n xs := h.own ho hS
theorem row_nil (w : World) (base : Nat) (e : TypeId) (size : Nat) : w.ownsRow base e size (.slice none 0 0) 0 [] := ⟨by simp, .inl ⟨rfl, rfl⟩⟩
theorem row_set {w : World} {base : Nat} {e : TypeId} {size g n cap : Nat} {xs : List Value} (h : w.ownsRow base e size (.slice (some ⟨g, 0, none⟩) n cap) n xs) (k : Nat) (v : Value) :
    (w.setCell ⟨g, k, none⟩ v).ownsRow base e size (.slice (some ⟨g, 0, none⟩) n cap) n (xs.set k v) := by
  rcases h.2 with ⟨h0, _⟩ | ⟨g', cap', cur, he, hb, hg, hn, hm, hcs, ht⟩
  · cases h0
  · injection he with e1 e2 e3
    injection e1 with e1
    injection e1 with e1
    subst e1 e3
    refine ⟨by simpa using h.1, .inr ⟨g, cap, cur.setIfInBounds k v, rfl, hb, blk_set hg v, hn, hm, by simpa using hcs, ?_⟩⟩
    rw [Array.toList_setIfInBounds, List.take_set, ht]
theorem keeps_one {w0 w : World} {g o : Nat} (h : Keeps (· = g) w0 w) (v : Value) : Keeps (· = g) w0 (w.setCell ⟨g, o, none⟩ v) := h.andSet (x := ⟨g, o, none⟩) (.inl rfl) v

structure Dd where
  k : Int
  loc : Int
deriving DecidableEq
def Dd.vals (c : Dd) : List Value := [.int .i64 c.k, .int .i64 c.loc]
theorem Dd.vals_length (c : Dd) : c.vals.length = 2 := rfl
def ddVals (l : List Dd) : List Value := l.flatMap Dd.vals
theorem ddVals_length (l : List Dd) : (ddVals l).length = l.length * 2 := by
  induction l with
  | nil => rfl
  | cons x l ih => simp only [ddVals, List.flatMap_cons, List.length_append, Dd.vals_length, List.length_cons] at ih ⊢; omega
theorem ddVals_append (a b : List Dd) : ddVals (a ++ b) = ddVals a ++ ddVals b := by simp [ddVals]
theorem ddVals_one (c : Dd) : ddVals [c] = c.vals := by simp [ddVals]
theorem ddVals_at (l : List Dd) (k : Nat) (x : Dd) (h : l[k]? = some x) (j : Nat) (u : Value) (hu : x.vals[j]? = some u) : (ddVals l)[k * 2 + j]? = some u := by
  have hj : j < 2 := by have := (List.getElem?_eq_some_iff.1 hu).1; simpa [Dd.vals] using this
  induction l generalizing k with
  | nil => simp at h
  | cons y l ih =>
    have e : ddVals (y :: l) = y.vals ++ ddVals l := rfl
    rw [e]
    cases k with
    | zero => simp at h; subst h; rw [List.getElem?_append_left (by rw [Dd.vals_length]; omega)]; simpa using hu
    | succ k =>
      rw [List.getElem?_append_right (by rw [Dd.vals_length]; omega), Dd.vals_length, show (k + 1) * 2 + j - 2 = k * 2 + j by omega]
      exact ih k (by simpa using h)

/-- The two cells of a deed. -/
structure C2 (w : World) (b o : Nat) (x : Dd) : Prop where
  c0 : w.cell? ⟨b, o, none⟩ = some (.int .i64 x.k)
  c1 : w.cell? ⟨b, o + 1, none⟩ = some (.int .i64 x.loc)

/-- A list of deeds that can be read. -/
structure Seen (w : World) (a : Option Addr) (n : Nat) (l : List Dd) : Prop where
  len : n = l.length
  ex : 0 < n → ∃ b off, a = some ⟨b, off, none⟩ ∧ b < w.heap.size ∧ ∀ k x, l[k]? = some x → C2 w b (off + k * 2) x
def blockOf (a : Option Addr) : Option Nat := a.map (·.block)
theorem C2.kept {w w' : World} {b o : Nat} {x : Dd} (h : C2 w b o x) {S : Nat → Prop} (hk : Keeps S w w') (hS : ¬ S b) : C2 w' b o x :=
  ⟨hk.cell h.c0 hS, hk.cell h.c1 hS⟩
theorem Seen.kept {w w' : World} {a : Option Addr} {n : Nat} {l : List Dd} (h : Seen w a n l) {S : Nat → Prop} (hk : Keeps S w w') (hS : 0 < n → ∀ b, blockOf a = some b → b < w.heap.size → ¬ S b) : Seen w' a n l := by
  refine ⟨h.len, fun h0 => ?_⟩
  obtain ⟨b, off, rfl, hb, hc⟩ := h.ex h0
  exact ⟨b, off, rfl, Nat.lt_of_lt_of_le hb hk.size, fun k x hx => (hc k x hx).kept hk (hS h0 b rfl hb)⟩
theorem Seen.low {w : World} {a : Option Addr} {n : Nat} {l : List Dd} (h : Seen w a n l) (h0 : 0 < n) {b : Nat} (hb : blockOf a = some b) : b < w.heap.size := by
  obtain ⟨b', off, rfl, hlt, _⟩ := h.ex h0
  simp [blockOf] at hb
  omega
theorem Seen.more {w w' : World} {a : Option Addr} {n : Nat} {l : List Dd} (h : Seen w a n l) (hk : Keeps None w w') : Seen w' a n l := h.kept hk (fun _ _ _ _ f => f)
theorem Seen.below {w w' : World} {a : Option Addr} {n B : Nat} {l : List Dd} (h : Seen w a n l) (hk : Keeps (fun i => B ≤ i) w w') (hB : w.heap.size ≤ B) : Seen w' a n l := h.kept hk (fun _ _ _ h1 h2 => by omega)
/-- One element, as it is read. -/
theorem Seen.elem {w : World} {a : Option Addr} {n : Nat} {l : List Dd} (h : Seen w a n l) {k : Nat} (hk : k < n) : ∃ b off x, a = some ⟨b, off, none⟩ ∧ b < w.heap.size ∧ l[k]? = some x ∧ C2 w b (off + k * 2) x := by
  obtain ⟨b, off, rfl, hb, hc⟩ := h.ex (by omega)
  obtain ⟨x, hx⟩ : ∃ x, l[k]? = some x := ⟨l[k]'(by have := h.len; omega), by simp⟩
  exact ⟨b, off, x, rfl, hb, hx, hc k x hx⟩

theorem Try.infoDeed : (Try.prog.info? 44).map (fun i => (i.zero, i.size, i.bytes)) = some (some (.agg #[.int .i64 0, .int .i64 0]), 2, 16) := by kernel_rfl

/-- A row of deeds that begins at the head of its block. -/
def IsD (w : World) (base g n cap : Nat) (l : List Dd) : Prop := n = l.length ∧ w.ownsRow base 44 2 (.slice (some ⟨g, 0, none⟩) n cap) n (ddVals l)
theorem row_elem {w : World} {base : Nat} {a : Option Addr} {n c : Nat} {l : List Dd} {k : Nat} {x : Dd} (h : w.ownsRow base 44 2 (.slice a n c) n (ddVals l)) (hx : l[k]? = some x) :
    ∃ g, a = some ⟨g, 0, none⟩ ∧ base ≤ g ∧ g < w.heap.size ∧ n ≤ c ∧ C2 w g (k * 2) x ∧ ∀ i, w.frozen? ⟨g, i, none⟩ = false := by
  have hlen : l.length * 2 = n * 2 := by have := h.1; rw [ddVals_length] at this; exact this
  have hk := (List.getElem?_eq_some_iff.1 hx).1
  rcases h.2 with ⟨_, h1⟩ | ⟨g, cap, cur, hv, hbg, hg, hnc, hcm, hcs, htake⟩
  · omega
  · injection hv with e1 e2 e3
    subst e1 e3
    have hcell : ∀ j u, x.vals[j]? = some u → w.cell? ⟨g, k * 2 + j, none⟩ = some u := by
      intro j u hu
      have := ddVals_at l k x hx j u hu
      rw [blk_cell hg]
      rw [← htake, List.getElem?_take] at this
      split at this
      · simpa using this
      · cases this
    exact ⟨g, rfl, hbg, (Array.getElem?_eq_some_iff.1 hg).1, hnc, ⟨hcell 0 _ rfl, hcell 1 _ rfl⟩, fun i => blk_free hg i⟩
theorem Seen.of_row {w : World} {base : Nat} {a : Option Addr} {n c : Nat} {l : List Dd} (hl : n = l.length) (h : w.ownsRow base 44 2 (.slice a n c) n (ddVals l)) : Seen w a n l := by
  refine ⟨hl, fun h0 => ?_⟩
  obtain ⟨g, rfl, _, hlt, _⟩ := row_elem (k := 0) h (List.getElem?_eq_getElem (by omega))
  refine ⟨g, 0, rfl, hlt, fun k x hx => ?_⟩
  obtain ⟨g', e, _, _, _, hc, _⟩ := row_elem h hx
  injection e with e
  injection e with e
  subst e
  simpa using hc
/-- 'append(s, d)' of a deed. -/
theorem deed_more (base : Nat) (s : Value) (l : List Dd) (x : Dd) (n ty : Nat) (w : World) (hn : n = l.length) (h : w.ownsRow base 44 2 s n (ddVals l)) (hb : base ≤ w.heap.size) (hlen : (n + 1) * 16 ≤ 140737488355328) {g0 : Nat}
    (hg0 : w.heap[g0]? = some (.cells #[.int .i64 x.k, .int .i64 x.loc] 44 (0, 0))) :
    ∃ g cap w', (Builtin.append_ #[22, 22] ty #[s, .slice (some ⟨g0, 0, none⟩) 1 1]).run Try.prog w = .ok (.slice (some ⟨g, 0, none⟩) (n + 1) cap) w' ∧
      w'.ownsRow base 44 2 (.slice (some ⟨g, 0, none⟩) (n + 1) cap) (n + 1) (ddVals (l ++ [x])) ∧ Keeps (fun k => s.ownBlock = some k) w w' ∧ (s.ownBlock = some g ∨ w.heap.size ≤ g) := by
  obtain ⟨i0, hi, hz0, hz1, hz2⟩ := info_parts Try.infoDeed
  obtain ⟨v', w1, hr, ho, hgr, hm, -⟩ := run_append_moved (P := Try.prog) w base 22 ty 44 i0 _ 2 16 Try.underlying22 hi hz0 hz1 hz2 rfl (by decide) s n _ h
    ⟨g0, 0, none⟩ 1 1 x.vals rfl (by
      intro j u hu
      rw [show (⟨g0, 0, none⟩ : Addr).add j = ⟨g0, j, none⟩ by unfold Addr.add; split <;> simp_all, blk_cell hg0]
      simpa [Dd.vals] using hu) (by
      intro u hu
      simp [Dd.vals] at hu
      rcases hu with rfl | rfl <;> rfl) (by unfold maxLen; omega) hlen hb
  obtain ⟨g, cap, rfl⟩ : ∃ g cap, v' = .slice (some ⟨g, 0, none⟩) (n + 1) cap := by
    rcases ho.2 with ⟨_, h0⟩ | ⟨b, cap, cur, rfl, _⟩
    · omega
    · exact ⟨b, cap, rfl⟩
  refine ⟨g, cap, w1, hr, by rw [ddVals_append, ddVals_one]; exact ho, (Keeps.refl _ w).andGrown hgr (fun k e => .inl e), ?_⟩
  rcases hm with hm | ⟨g', e, hg⟩
  · exact .inl (hm.symm.trans rfl)
  · simp [Value.ownBlock] at e; exact .inr (by omega)
/-- Two stores: one deed of the list is another one. -/
def set2 (w : World) (g o : Nat) (x : Dd) : World := (w.setCell ⟨g, o, none⟩ (.int .i64 x.k)).setCell ⟨g, o + 1, none⟩ (.int .i64 x.loc)
theorem ddVals_set (l : List Dd) (k : Nat) (x : Dd) (hk : k < l.length) : ((ddVals l).set (k * 2) (.int .i64 x.k)).set (k * 2 + 1) (.int .i64 x.loc) = ddVals (l.set k x) := by
  induction l generalizing k with
  | nil => simp at hk
  | cons y l ih =>
    have e : ddVals (y :: l) = y.vals ++ ddVals l := rfl
    cases k with
    | zero => rfl
    | succ k =>
      have h1 := ih k (by simpa using hk)
      have e2 : ddVals ((y :: l).set (k + 1) x) = y.vals ++ ddVals (l.set k x) := rfl
      rw [e, e2, ← h1]
      have hs : ∀ (xs : List Value) (j : Nat) (u : Value), (y.vals ++ xs).set ((k + 1) * 2 + j) u = y.vals ++ xs.set (k * 2 + j) u := by
        intro xs j u
        rw [List.set_append_right _ _ (by rw [Dd.vals_length]; omega), Dd.vals_length, show (k + 1) * 2 + j - 2 = k * 2 + j by omega]
      have h0 := hs (ddVals l) 0 (.int .i64 x.k)
      simp only [Nat.add_zero] at h0
      rw [h0, hs]
theorem row_set2 {w : World} {base : Nat} {g n cap : Nat} {l : List Dd} (h : w.ownsRow base 44 2 (.slice (some ⟨g, 0, none⟩) n cap) n (ddVals l)) (k : Nat) (hk : k < l.length) (x : Dd) :
    (set2 w g (k * 2) x).ownsRow base 44 2 (.slice (some ⟨g, 0, none⟩) n cap) n (ddVals (l.set k x)) := by
  rw [← ddVals_set l k x hk]
  exact row_set (row_set h _ _) _ _
theorem keeps_set2 (w : World) (g o : Nat) (x : Dd) : Keeps (· = g) w (set2 w g o x) := keeps_one (keeps_one (Keeps.refl _ w) _) _
/-- The part of a row that is looked at. -/
theorem IsD.seen {w : World} {base g n cap m : Nat} {l : List Dd} (h : IsD w base g n cap l) (hm : m ≤ n) : Seen w (some ⟨g, 0, none⟩) m (l.take m) := by
  refine ⟨by simp; have := h.1; omega, fun h0 => ?_⟩
  obtain ⟨b, off, e, hb, hc⟩ := (Seen.of_row h.1 h.2).ex (by omega)
  injection e with e
  injection e with e1 e2
  subst e1 e2
  refine ⟨g, 0, rfl, hb, fun k x hx => hc k x ?_⟩
  rw [List.getElem?_take] at hx
  split at hx
  · exact hx
  · cases hx
theorem IsD.kept {S : Nat → Prop} {w w' : World} {base g n cap : Nat} {l : List Dd} (h : IsD w base g n cap l) (hk : Keeps S w w') (hS : ¬ S g) : IsD w' base g n cap l :=
  ⟨h.1, row_kept h.2 hk (fun k e => by simp [Value.ownBlock] at e; subst e; exact hS)⟩
theorem IsD.lt {w : World} {base g n cap : Nat} {l : List Dd} (h : IsD w base g n cap l) : g < w.heap.size := own_lt h.2 rfl
theorem IsD.low {w : World} {base g n cap : Nat} {l : List Dd} (h : IsD w base g n cap l) : base ≤ g := row_low h.2 rfl
theorem IsD.fits {w : World} {base g n cap : Nat} {l : List Dd} (h : IsD w base g n cap l) : n ≤ cap := by
  rcases h.2.2 with ⟨e, _⟩ | ⟨g', cap', cur, e, _, _, hn, _⟩
  · cases e
  · injection e with _ _ e; subst e; exact hn
theorem IsD.put {w : World} {base g n cap : Nat} {l : List Dd} (h : IsD w base g n cap l) {k : Nat} (hk : k < n) (x : Dd) : IsD (set2 w g (k * 2) x) base g n cap (l.set k x) :=
  ⟨by simpa using h.1, row_set2 h.2 k (by have := h.1; omega) x⟩
theorem IsD.elem {w : World} {base g n cap : Nat} {l : List Dd} (h : IsD w base g n cap l) {k : Nat} {x : Dd} (hx : l[k]? = some x) : C2 w g (k * 2) x := by
  obtain ⟨g', e, _, _, _, hc, _⟩ := row_elem h.2 hx
  injection e with e
  injection e with e
  subst e
  exact hc
theorem IsD.free {w : World} {base g n cap : Nat} {l : List Dd} (h : IsD w base g n cap l) (i : Nat) : w.frozen? ⟨g, i, none⟩ = false := by
  obtain ⟨cur, hc⟩ := own_block h.2 rfl
  exact blk_free hc i
end Go.Proofs.Ytdiabpoafennlab
/-! Check: the program's and the document's. -/
namespace Go.Proofs.Ytdiabpoafennlab
set_option linter.unusedVariables false
set_option maxRecDepth 20000
set_option linter.unusedSimpArgs false
open Go.RowKit Go.HeapKit

theorem blk_kept {w w' : World} {S : Nat → Prop} {p : Nat} {o : Obj} (h : w.heap[p]? = some o) (hk : Keeps S w w') (hS : ¬ S p) : w'.heap[p]? = some o := (hk.block p (blk_lt h) hS).trans h
theorem cell_of_heap {w : World} {g : Nat} {cs : Array Value} {t : TypeId} {fz : Nat × Nat} (h : w.heap[g]? = some (.cells cs t fz)) (i : Nat) : w.cell? ⟨g, i, none⟩ = cs[i]? := by simp [World.cell?, h]
/-- Is a deed wrong at a depth; the depth behind it. -/
def badK (k : Int) (d : Nat) : Bool := decide (k < 0) || decide (k > 4) || (decide (k = 1) && decide (d = 0))
def nxtK (k : Int) (d : Nat) : Nat := if k = 0 then d + 1 else if k = 1 then d - 1 else d
def chkL : List Dd → Nat → Nat → Option Nat
  | [], _, _ => none
  | x :: l, i, d => if badK x.k d = true then some i else chkL l (i + 1) (nxtK x.k d)
def chkE (l : List Dd) : Int := if l.length > 4096 then 2 else match chkL l 0 0 with | some _ => 190 | none => 0
def chkA (l : List Dd) : Int := if l.length > 4096 then 0 else match chkL l 0 0 with | some i => i | none => 0
theorem chkL_step {l : List Dd} {k : Nat} {x : Dd} (hx : l[k]? = some x) (i d : Nat) : chkL (l.drop k) i d = if badK x.k d = true then some i else chkL (l.drop (k + 1)) (i + 1) (nxtK x.k d) := by
  obtain ⟨h1, h2⟩ := List.getElem?_eq_some_iff.1 hx
  rw [List.drop_eq_getElem_cons h1, h2]
  rfl
theorem nxtK_le (k : Int) (d : Nat) : nxtK k d ≤ d + 1 := by unfold nxtK; split <;> (try split) <;> omega
def spotV (e a : Int) : Value := .agg #[.int .i64 e, .int .i64 a]
theorem results_one {P : Program} {fn : Func} {q : Tmp} {ty : TypeId} (h : fn.results = #[.cell q ty]) {tmps : Array Value} {w : World} {g : Nat} (ha : tmps.getD q undef = .pointer (some ⟨g, 0, none⟩)) {v : Value}
    (hl : (loadVar ty ⟨g, 0, none⟩).run P w = .ok v w) : (results fn tmps).run P w = .ok v w := by
  have ha' : tmps[q]?.getD undef = .pointer (some ⟨g, 0, none⟩) := by simpa using ha
  simp [results, h, ha', asAddr, hl]
theorem load_spot (w : World) (g : Nat) (t : TypeId) (e a : Int) (hb : w.heap[g]? = some (.cells #[.int .i64 e, .int .i64 a] t (0, 0))) : (loadVar 85 ⟨g, 0, none⟩).run Try.prog w = .ok (spotV e a) w :=
  run_loadVar_row _ g t 85 _ _ _ hb Try.underlying85 rfl (by kernel_rfl)
theorem spot_end {Q : Ending → World → Prop} {a : Act} {w1 : World} {g : Nat} {t : TypeId} {fn : Func} {e x : Int} (hfn : fn.results = #[.cell 2 85]) (hb : w1.heap[g]? = some (.cells #[.int .i64 e, .int .i64 x] t (0, 0)))
    (ha : a.tmps.getD 2 undef = .pointer (some ⟨g, 0, none⟩)) (hd : a.defers = []) (hQ : Q (.returned (spotV e x)) w1) : bodyPost Try.prog fn Q .ret a w1 :=
  bodyPost_ret (results_one (q := 2) (ty := 85) hfn ha (load_spot _ g t e x hb)) hd hQ
/-- The box of the answer while it is empty, and what is stored into it. -/
theorem spot_put {w0 w : World} {g : Nat} (hk : Keeps None w0 w) (hg : w0.heap.size ≤ g) (hb : w.heap[g]? = some (.cells #[.int .i64 0, .int .i64 0] 85 (0, 0))) (e x : Int) :
    ((w.setCell ⟨g, 0, none⟩ (.int .i64 e)).setCell ⟨g, 1, none⟩ (.int .i64 x)).heap[g]? = some (.cells #[.int .i64 e, .int .i64 x] 85 (0, 0)) ∧ Keeps None w0 ((w.setCell ⟨g, 0, none⟩ (.int .i64 e)).setCell ⟨g, 1, none⟩ (.int .i64 x)) :=
  ⟨blk_set (i := 1) (blk_set (i := 0) hb _) _, (hk.andSet (x := ⟨g, 0, none⟩) (.inr hg) _).andSet (x := ⟨g, 1, none⟩) (.inr hg) _⟩

/-- What is told by the first wrong one. -/
theorem chk_long {l : List Dd} (h : l.length > 4096) : chkE l = 2 ∧ chkA l = 0 := ⟨by unfold chkE; rw [if_pos h], by unfold chkA; rw [if_pos h]⟩
theorem chk_some {l : List Dd} (h : ¬ l.length > 4096) {i : Nat} (hc : chkL l 0 0 = some i) : chkE l = 190 ∧ chkA l = i := ⟨by unfold chkE; rw [if_neg h, hc], by unfold chkA; rw [if_neg h, hc]⟩
theorem chk_none {l : List Dd} (h : ¬ l.length > 4096) (hc : chkL l 0 0 = none) : chkE l = 0 ∧ chkA l = 0 := ⟨by unfold chkE; rw [if_neg h, hc], by unfold chkA; rw [if_neg h, hc]⟩
theorem spot_eq {l : List Dd} {e x : Int} (h : chkE l = e ∧ chkA l = x) : Ending.returned (spotV e x) = Ending.returned (spotV (chkE l) (chkA l)) := by rw [h.1, h.2]


set_option maxHeartbeats 1600000 in
theorem check_ok (a : Option Addr) (n c : Nat) (l : List Dd) (w : World) (hS : Seen w a n l) :
    Calls Try.prog 28 #[.slice a n c] w fun e w' => e = .returned (spotV (chkE l) (chkA l)) ∧ Keeps None w w' := by
  have HS : Hid (Seen w a n l) := hS
  have hlen : n = l.length := hS.len
  have HLen : Hid (n = l.length) := hlen
  clear hS
  have B0 := blk_new w (.cells #[.int .i64 0, .int .i64 0] 85) _ rfl
  have K0 := Keeps.alloc None w (.cells #[.int .i64 0, .int .i64 0] 85)
  by_cases hlong : n > 4096
  · have i1 : (n : Int) > 4096 := by omega
    have HE : Hid (chkE l = 2 ∧ chkA l = 0) := chk_long (by omega)
    clear hlen B0 K0
    go_enter Try.func28, Try.ntmps28
    go_wp2
    exact spot_end rfl (heap_alloc_new _ _) rfl rfl ⟨spot_eq HE.out, Keeps.alloc None w _⟩
  · have i1 : ¬ (n : Int) > 4096 := by omega
    have HShort : Hid (¬ l.length > 4096) := by intro; omega
    have HB : Hid (Keeps None w (w.alloc (.cells #[.int .i64 0, .int .i64 0] 85)) ∧ (w.alloc (.cells #[.int .i64 0, .int .i64 0] 85)).heap[w.heap.size]? = some (.cells #[.int .i64 0, .int .i64 0] 85 (0, 0))) := ⟨K0, B0⟩
    clear hlen B0 K0
    go_enter Try.func28, Try.ntmps28
    go_wp2_with fail
    go_loopw [3, 4, 5, 12] (fun d _ _ i wr => ∃ k dd : Nat, k ≤ n ∧ dd ≤ k ∧ i = .int .i64 k ∧ d = .int .i64 dd ∧ chkL l 0 0 = chkL (l.drop k) k dd ∧ Keeps None w wr ∧ wr.heap[w.heap.size]? = some (.cells #[.int .i64 0, .int .i64 0] 85 (0, 0))) (fun _ _ _ i _ => n - (intOf i).toNat)
    case atStart => exact ⟨0, 0, Nat.zero_le _, Nat.le_refl _, rfl, rfl, rfl, HB.out⟩
    case round =>
      clear HB
      obtain ⟨k, dd, hk, hdd, rfl, rfl, hch, hkp, hbox⟩ := hrel
      by_cases hkn : k < n
      · obtain ⟨b, off, x, rfl, hb, hx, u0, u1⟩ := (HS.out.more hkp).elem hkn
        have i2 : (k : Int) < (n : Int) := by omega
        have hch2 := hch.trans (chkL_step hx k dd)
        have kA := hkp.andAlloc (.cells #[.int .i64 x.k, .int .i64 x.loc] 44)
        have bB := (blk_kept hbox (Keeps.alloc None wr (.cells #[.int .i64 x.k, .int .i64 x.loc] 44)) (fun f => f))
        have HP := spot_put kA (Nat.le_refl _) bB 190 k
        have d0 := cell_of_heap bB 0
        have d1 := cell_of_heap bB 1
        have f0 := blk_free bB 0
        have f1 := blk_free bB 1
        by_cases hbad : badK x.k dd = true
        · rw [if_pos hbad] at hch2
          have HE : Hid (chkE l = 190 ∧ chkA l = k) := chk_some HShort.out hch2
          have HQ : Hid _ := HP
          clear HP hch hch2 hkp hbox kA bB hx
          have HBad : Hid (badK x.k dd = true) := hbad
          clear hbad
          by_cases n0 : x.k < 0
          · go_wp2
            exact spot_end rfl HQ.out.1 rfl rfl ⟨spot_eq HE.out, HQ.out.2⟩
          · by_cases n4 : x.k > 4
            · go_wp2
              exact spot_end rfl HQ.out.1 rfl rfl ⟨spot_eq HE.out, HQ.out.2⟩
            · have n1 : x.k = 1 ∧ dd = 0 := by have := HBad.out; unfold badK at this; simp [n0] at this; omega
              have e3 : x.k = 1 := n1.1
              have e4 : dd = 0 := n1.2
              subst e4
              clear n1 HBad
              obtain ⟨xk, xl⟩ := x
              simp only at e3
              subst e3
              go_wp2
              exact spot_end rfl HQ.out.1 rfl rfl ⟨spot_eq HE.out, HQ.out.2⟩
        · rw [if_neg hbad] at hch2
          have n0 : ¬ x.k < 0 := fun h => hbad (by unfold badK; simp [h])
          have n4 : ¬ x.k > 4 := fun h => hbad (by unfold badK; simp; omega)
          have n1 : ¬ (x.k = 1 ∧ dd = 0) := fun h => hbad (by unfold badK; simp [h.1, h.2])
          have HN : Hid (chkL l 0 0 = chkL (l.drop (k + 1)) (k + 1) (nxtK x.k dd) ∧ Keeps None w (wr.alloc (.cells #[.int .i64 x.k, .int .i64 x.loc] 44)) ∧ (wr.alloc (.cells #[.int .i64 x.k, .int .i64 x.loc] 44)).heap[w.heap.size]? = some (.cells #[.int .i64 0, .int .i64 0] 85 (0, 0))) := ⟨hch2, kA, bB⟩
          clear HP hch hch2 hkp hbox kA bB hx hbad d0 d1 f0 f1
          by_cases e0 : x.k = 0
          · have HE0 : Hid (x.k = 0) := e0
            clear n1
            go_wp2
            go_roundw
            case rel => exact ⟨k + 1, dd + 1, by omega, by omega, by go_num, by go_num, by have := HN.out; simpa [nxtK, HE0.out] using this⟩
            case measure => simp [intOf]; omega
          · by_cases e1 : x.k = 1
            · have n5 : ¬ (dd : Int) = 0 := by omega
              have HE1 : Hid (x.k = 1) := e1
              clear n1
              go_wp2
              go_roundw
              case rel => exact ⟨k + 1, dd - 1, by omega, by omega, by go_num, by go_num, by have := HN.out; simpa [nxtK, HE1.out] using this⟩
              case measure => simp [intOf]; omega
            · clear n1
              go_wp2
              go_roundw
              case rel => exact ⟨k + 1, dd, by omega, by omega, by go_num, by go_num, by have := HN.out; simpa [nxtK, e0, e1] using this⟩
              case measure => simp [intOf]; omega
      · have hkn2 : k = n := by omega
        have hch2 : chkL l 0 0 = none := by rw [hch, List.drop_eq_nil_of_le (by have := HLen.out; omega)]; rfl
        have HE : Hid (chkE l = 0 ∧ chkA l = 0) := chk_none HShort.out hch2
        subst hkn2
        have HP := spot_put hkp (Nat.le_refl _) hbox 0 0
        have d0 := cell_of_heap hbox 0
        have d1 := cell_of_heap hbox 1
        have f0 := blk_free hbox 0
        have f1 := blk_free hbox 1
        have HQ : Hid _ := HP
        clear HP hch hch2 hkp hbox
        go_wp2
        exact spot_end rfl HQ.out.1 rfl rfl ⟨spot_eq HE.out, HQ.out.2⟩

set_option maxHeartbeats 1600000 in
theorem rcheck_ok (a : Option Addr) (n c : Nat) (l : List Dd) (w : World) (hS : Seen w a n l) :
    Calls Try.prog 38 #[.slice a n c] w fun e w' => e = .returned (spotV (chkE l) (chkA l)) ∧ Keeps None w w' := by
  have HS : Hid (Seen w a n l) := hS
  have hlen : n = l.length := hS.len
  have HLen : Hid (n = l.length) := hlen
  clear hS
  have B0 := blk_new w (.cells #[.int .i64 0, .int .i64 0] 85) _ rfl
  have K0 := Keeps.alloc None w (.cells #[.int .i64 0, .int .i64 0] 85)
  by_cases hlong : n > 4096
  · have i1 : (n : Int) > 4096 := by omega
    have HE : Hid (chkE l = 2 ∧ chkA l = 0) := chk_long (by omega)
    clear hlen B0 K0
    go_enter Try.func38, Try.ntmps38
    go_wp2
    exact spot_end rfl (heap_alloc_new _ _) rfl rfl ⟨spot_eq HE.out, Keeps.alloc None w _⟩
  · have i1 : ¬ (n : Int) > 4096 := by omega
    have HShort : Hid (¬ l.length > 4096) := by intro; omega
    have HB : Hid (Keeps None w (w.alloc (.cells #[.int .i64 0, .int .i64 0] 85)) ∧ (w.alloc (.cells #[.int .i64 0, .int .i64 0] 85)).heap[w.heap.size]? = some (.cells #[.int .i64 0, .int .i64 0] 85 (0, 0))) := ⟨K0, B0⟩
    clear hlen B0 K0
    go_enter Try.func38, Try.ntmps38
    go_wp2_with fail
    go_loopw [3, 4, 5] (fun d i _ wr => ∃ k dd : Nat, k ≤ n ∧ dd ≤ k ∧ i = .int .i64 k ∧ d = .int .i64 dd ∧ chkL l 0 0 = chkL (l.drop k) k dd ∧ Keeps None w wr ∧ wr.heap[w.heap.size]? = some (.cells #[.int .i64 0, .int .i64 0] 85 (0, 0))) (fun _ i _ _ => n - (intOf i).toNat)
    case atStart => exact ⟨0, 0, Nat.zero_le _, Nat.le_refl _, rfl, rfl, rfl, HB.out⟩
    case round =>
      clear HB
      obtain ⟨k, dd, hk, hdd, rfl, rfl, hch, hkp, hbox⟩ := hrel
      by_cases hkn : k < n
      · obtain ⟨b, off, x, rfl, hb, hx, u0, u1⟩ := (HS.out.more hkp).elem hkn
        have i2 : (k : Int) < (n : Int) := by omega
        have hch2 := hch.trans (chkL_step hx k dd)
        have kA := hkp
        have bB := hbox
        have HP := spot_put kA (Nat.le_refl _) bB 190 k
        have d0 := cell_of_heap bB 0
        have d1 := cell_of_heap bB 1
        have f0 := blk_free bB 0
        have f1 := blk_free bB 1
        by_cases hbad : badK x.k dd = true
        · rw [if_pos hbad] at hch2
          have HE : Hid (chkE l = 190 ∧ chkA l = k) := chk_some HShort.out hch2
          have HQ : Hid _ := HP
          clear HP hch hch2 hkp hbox kA bB hx
          have HBad : Hid (badK x.k dd = true) := hbad
          clear hbad
          by_cases n0 : x.k < 0
          · go_wp2
            exact spot_end rfl HQ.out.1 rfl rfl ⟨spot_eq HE.out, HQ.out.2⟩
          · by_cases n4 : x.k > 4
            · go_wp2
              exact spot_end rfl HQ.out.1 rfl rfl ⟨spot_eq HE.out, HQ.out.2⟩
            · have n1 : x.k = 1 ∧ dd = 0 := by have := HBad.out; unfold badK at this; simp [n0] at this; omega
              have e3 : x.k = 1 := n1.1
              have e4 : dd = 0 := n1.2
              subst e4
              clear n1 HBad
              obtain ⟨xk, xl⟩ := x
              simp only at e3
              subst e3
              go_wp2
              exact spot_end rfl HQ.out.1 rfl rfl ⟨spot_eq HE.out, HQ.out.2⟩
        · rw [if_neg hbad] at hch2
          have n0 : ¬ x.k < 0 := fun h => hbad (by unfold badK; simp [h])
          have n4 : ¬ x.k > 4 := fun h => hbad (by unfold badK; simp; omega)
          have n1 : ¬ (x.k = 1 ∧ dd = 0) := fun h => hbad (by unfold badK; simp [h.1, h.2])
          have HN : Hid (chkL l 0 0 = chkL (l.drop (k + 1)) (k + 1) (nxtK x.k dd) ∧ Keeps None w wr ∧ wr.heap[w.heap.size]? = some (.cells #[.int .i64 0, .int .i64 0] 85 (0, 0))) := ⟨hch2, kA, bB⟩
          clear HP hch hch2 hkp hbox kA bB hx hbad d0 d1 f0 f1
          by_cases e0 : x.k = 0
          · have HE0 : Hid (x.k = 0) := e0
            clear n1
            go_wp2
            go_roundw
            case rel => exact ⟨k + 1, dd + 1, by omega, by omega, by go_num, by go_num, by have := HN.out; simpa [nxtK, HE0.out] using this⟩
            case measure => simp [intOf]; omega
          · by_cases e1 : x.k = 1
            · have n5 : ¬ (dd : Int) = 0 := by omega
              have HE1 : Hid (x.k = 1) := e1
              clear n1
              go_wp2
              go_roundw
              case rel => exact ⟨k + 1, dd - 1, by omega, by omega, by go_num, by go_num, by have := HN.out; simpa [nxtK, HE1.out] using this⟩
              case measure => simp [intOf]; omega
            · clear n1
              go_wp2
              go_roundw
              case rel => exact ⟨k + 1, dd, by omega, by omega, by go_num, by go_num, by have := HN.out; simpa [nxtK, e0, e1] using this⟩
              case measure => simp [intOf]; omega
      · have hkn2 : k = n := by omega
        have hch2 : chkL l 0 0 = none := by rw [hch, List.drop_eq_nil_of_le (by have := HLen.out; omega)]; rfl
        have HE : Hid (chkE l = 0 ∧ chkA l = 0) := chk_none HShort.out hch2
        subst hkn2
        have HP := spot_put hkp (Nat.le_refl _) hbox 0 0
        have d0 := cell_of_heap hbox 0
        have d1 := cell_of_heap hbox 1
        have f0 := blk_free hbox 0
        have f1 := blk_free hbox 1
        have HQ : Hid _ := HP
        clear HP hch hch2 hkp hbox
        go_wp2
        exact spot_end rfl HQ.out.1 rfl rfl ⟨spot_eq HE.out, HQ.out.2⟩
end Go.Proofs.Ytdiabpoafennlab
