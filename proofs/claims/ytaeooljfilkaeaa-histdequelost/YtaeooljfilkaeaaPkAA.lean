import Derived.WalkKit
import Derived.Laws.CopyOwn
import Derived.Deep.RegionLaw
import Derived.ArgAppend
import Derived.Test.YtaeooljfilkaeaaRows
import Derived.Laws.LoneSync
/-! Memory: which blocks a call leaves as they were; rows of the call's own that are appended to, and whose block stays or is new. Whatever the program. -/
namespace Go.HeapKit
open Go.RowKit

/-- All blocks but those of S stand as they stood. -/
structure Keeps (S : Nat → Prop) (w w' : World) : Prop where
  os : w'.os = w.os
  tape : w'.tape = w.tape
  output : w'.output = w.output
  size : w.heap.size ≤ w'.heap.size
  block : ∀ k, k < w.heap.size → ¬ S k → w'.heap[k]? = w.heap[k]?

def None : Nat → Prop := fun _ => False

theorem Keeps.refl (S : Nat → Prop) (w : World) : Keeps S w w := ⟨rfl, rfl, rfl, Nat.le_refl _, fun _ _ _ => rfl⟩
theorem Keeps.trans {S T : Nat → Prop} {a b c : World} (h : Keeps S a b) (k : Keeps T b c) (hT : ∀ i, T i → i < a.heap.size → S i) : Keeps S a c :=
  ⟨k.os.trans h.os, k.tape.trans h.tape, k.output.trans h.output, Nat.le_trans h.size k.size,
   fun i hi hn => (k.block i (Nat.lt_of_lt_of_le hi h.size) (fun t => hn (hT i t hi))).trans (h.block i hi hn)⟩
theorem Keeps.mono {S T : Nat → Prop} {a b : World} (h : Keeps S a b) (hT : ∀ i, S i → i < a.heap.size → T i) : Keeps T a b :=
  ⟨h.os, h.tape, h.output, h.size, fun i hi hn => h.block i hi (fun s => hn (hT i s hi))⟩
theorem Keeps.drew (S : Nat → Prop) (w : World) : Keeps S w w.drew := ⟨rfl, rfl, rfl, Nat.le_refl _, fun _ _ _ => rfl⟩
theorem Keeps.alloc (S : Nat → Prop) (w : World) (o : Obj) : Keeps S w (w.alloc o) := ⟨rfl, rfl, rfl, by simp, fun k hk _ => Below.heap_alloc _ _ _ hk⟩
theorem Keeps.setCell {S : Nat → Prop} (w : World) {a : Addr} (ha : S a.block) (v : Value) : Keeps S w (w.setCell a v) :=
  ⟨rfl, rfl, rfl, by simp [World.setCell], fun k _ hn => Below.heap_setCell _ _ _ _ (fun e => hn (e ▸ ha))⟩
theorem Keeps.grown {S : Nat → Prop} {w w' : World} {row : Option Nat} (hg : w.grownBy w' row) (hr : ∀ k, row = some k → S k) : Keeps S w w' :=
  ⟨hg.os, hg.tape, hg.output, hg.size, fun k hk hn => hg.block k hk (fun e => hn (hr k e.symm))⟩
theorem Keeps.andAlloc {S : Nat → Prop} {a b : World} (h : Keeps S a b) (o : Obj) : Keeps S a (b.alloc o) := h.trans (Keeps.alloc None b o) (fun _ f _ => f.elim)
theorem Keeps.andDrew {S : Nat → Prop} {a b : World} (h : Keeps S a b) : Keeps S a b.drew := h.trans (Keeps.drew None b) (fun _ f _ => f.elim)
theorem Keeps.andSet {S : Nat → Prop} {a b : World} (h : Keeps S a b) {x : Addr} (hx : S x.block ∨ a.heap.size ≤ x.block) (v : Value) : Keeps S a (b.setCell x v) :=
  h.trans (Keeps.setCell (S := (· = x.block)) b rfl v) (fun i e hi => by subst e; rcases hx with hx | hx; exact hx; omega)
theorem Keeps.andGrown {S : Nat → Prop} {a b c : World} {row : Option Nat} (h : Keeps S a b) (hg : b.grownBy c row) (hr : ∀ k, row = some k → S k ∨ a.heap.size ≤ k) : Keeps S a c :=
  h.trans (Keeps.grown (S := fun k => row = some k) hg (fun _ e => e)) (fun i e hi => by rcases hr i e with hx | hx; exact hx; omega)
theorem Keeps.below {S : Nat → Prop} {w w' : World} (h : Keeps S w w') (B : Nat) (hB : B ≤ w.heap.size) (hS : ∀ k, S k → B ≤ k) : Below B w w' :=
  ⟨h.os, h.tape, h.output, h.size, fun k hk => h.block k (by omega) (fun s => by have := hS k s; omega)⟩
theorem Keeps.cell {S : Nat → Prop} {w w' : World} (h : Keeps S w w') {a : Addr} {v : Value} (hc : w.cell? a = some v) (hn : ¬ S a.block) : w'.cell? a = some v := by
  have hlt : a.block < w.heap.size := by
    cases hb : w.heap[a.block]? with
    | none => simp [World.cell?, hb] at hc
    | some o => exact (Array.getElem?_eq_some_iff.1 hb).1
  exact (World.cell?_of_block (h.block _ hlt hn)).trans hc
theorem Keeps.own {S : Nat → Prop} {w w' : World} (h : Keeps S w w') {base : Nat} {e : TypeId} {size : Nat} {v : Value} {n : Nat} {xs : List Value} (ho : w.ownsRow base e size v n xs)
    (hn : ∀ k, v.ownBlock = some k → ¬ S k) : w'.ownsRow base e size v n xs := by
  refine ⟨ho.1, ?_⟩
  rcases ho.2 with h0 | ⟨g, cap, cur, rfl, hb, hg, r⟩
  · exact .inl h0
  · exact .inr ⟨g, cap, cur, rfl, hb, (h.block g (Array.getElem?_eq_some_iff.1 hg).1 (hn g rfl)).trans hg, r⟩

/-- The row's block is the one it was, or a new one. -/
def Moved (w : World) (v v' : Value) : Prop := v'.ownBlock = v.ownBlock ∨ ∃ g, v'.ownBlock = some g ∧ w.heap.size ≤ g
theorem Moved.refl (w : World) (v : Value) : Moved w v v := .inl rfl
theorem Moved.trans {w w1 : World} {v v1 v2 : Value} (h : Moved w v v1) (k : Moved w1 v1 v2) (hs : w.heap.size ≤ w1.heap.size) : Moved w v v2 := by
  rcases k with k | ⟨g, k, hg⟩
  · rcases h with h | ⟨g, h, hg⟩
    · exact .inl (k.trans h)
    · exact .inr ⟨g, k.trans h, hg⟩
  · exact .inr ⟨g, k, by omega⟩

theorem own_lt {w : World} {base : Nat} {e : TypeId} {size : Nat} {v : Value} {n : Nat} {xs : List Value} (h : w.ownsRow base e size v n xs) {g : Nat} (hg : v.ownBlock = some g) : g < w.heap.size := by
  rcases h.2 with ⟨rfl, _⟩ | ⟨g', cap, cur, rfl, _, hb, _⟩
  · simp [Value.ownBlock] at hg
  · simp [Value.ownBlock] at hg
    subst hg
    exact (Array.getElem?_eq_some_iff.1 hb).1
/-- Rows of different elements lie in different blocks. -/
theorem own_type {w : World} {base : Nat} {e : TypeId} {size : Nat} {v : Value} {n : Nat} {xs : List Value} (h : w.ownsRow base e size v n xs) {g : Nat} (hg : v.ownBlock = some g)
    {c : Array Value} {e' : TypeId} {fz : Nat × Nat} (hb : w.heap[g]? = some (.cells c e' fz)) : e = e' := by
  rcases h.2 with ⟨rfl, _⟩ | ⟨g', cap, cur, rfl, _, hb', _⟩
  · simp [Value.ownBlock] at hg
  · simp [Value.ownBlock] at hg
    subst hg
    rw [hb] at hb'
    simp at hb'
    exact hb'.2.1.symm
theorem own_block {w : World} {base : Nat} {e : TypeId} {size : Nat} {v : Value} {n : Nat} {xs : List Value} (h : w.ownsRow base e size v n xs) {g : Nat} (hg : v.ownBlock = some g) :
    ∃ c, w.heap[g]? = some (.cells c e (0, 0)) := by
  rcases h.2 with ⟨rfl, _⟩ | ⟨g', cap, cur, rfl, _, hb', _⟩
  · simp [Value.ownBlock] at hg
  · simp [Value.ownBlock] at hg
    subst hg
    exact ⟨cur, hb'⟩
theorem own_apart {w : World} {b1 b2 : Nat} {e1 e2 : TypeId} {s1 s2 : Nat} {v1 v2 : Value} {n1 n2 : Nat} {x1 x2 : List Value} (h1 : w.ownsRow b1 e1 s1 v1 n1 x1) (h2 : w.ownsRow b2 e2 s2 v2 n2 x2) (he : e1 ≠ e2) {g : Nat} (hg : v1.ownBlock = some g) :
    v2.ownBlock ≠ some g := by
  intro hg2
  obtain ⟨c, hc⟩ := own_block h2 hg2
  exact he (own_type h1 hg hc)

section
variable {P : Program} (w : World)

/-- 'append(s, x...)' on a row of the call's own: what it owns behind it; its block is the old one or new. -/
theorem run_append_moved (base : Nat) (t ty e : TypeId) (i : TypeInfo) (z : Value) (size bytes : Nat) (ht : P.underlying t = some (.slice e)) (hi : P.info? e = some i) (hz : i.zero = some z)
    (hsize : i.size = size) (hby : i.bytes = bytes) (hzs : z.cells.size = size) (hsz : 0 < size)
    (v : Value) (n : Nat) (xs : List Value) (hown : w.ownsRow base e size v n xs)
    (a : Addr) (m c : Nat) (news : List Value) (hl : news.length = m * size) (hnews : ∀ j u, news[j]? = some u → w.cell? (a.add j) = some u) (h1 : ∀ u ∈ news, u.oneCell' = true)
    (h63 : n + m ≤ maxLen) (hbytes : (n + m) * bytes ≤ 140737488355328) (hbase : base ≤ w.heap.size) :
    ∃ v' w', (Builtin.append_ #[t, t] ty #[v, .slice (some a) m c]).run P w = .ok v' w' ∧ w'.ownsRow base e size v' (n + m) (xs ++ news) ∧ w.grownBy w' v.ownBlock ∧ Moved w v v' ∧
      (v' = .slice none 0 0 ↔ v = .slice none 0 0 ∧ m = 0) := by
  obtain ⟨v', w', hr, ho, hg, hn⟩ := run_append_own (P := P) w base t ty e i z size bytes ht hi hz hsize hby hzs hsz v n xs hown a m c news hl hnews h1 h63 hbytes hbase
  refine ⟨v', w', hr, ho, hg, ?_, hn⟩
  subst hsize
  subst hby
  have hsmall : n + m ≤ 9223372036854775807 := by simp only [maxLen] at h63; omega
  rcases hown.2 with ⟨rfl, rfl⟩ | ⟨g, cap, cur, rfl, hbg, hgg, hnc, hcm, hcs, htake⟩
  · by_cases hm : m = 0
    · rw [hn.2 ⟨rfl, hm⟩]
      exact .inl rfl
    · have hr2 := run_append_nil (P := P) w t ty e i z ht hi hz a m c news hl hnews (by omega) (by omega) (by have hb := hbytes; simp only [Nat.zero_add] at hb; omega)
      rw [hr] at hr2
      injection hr2 with e1 e2
      exact .inr ⟨w.heap.size, by rw [e1]; rfl, Nat.le_refl _⟩
  · by_cases hroom : n + m ≤ cap
    · have hfit : n * i.size + news.length ≤ cur.size := by rw [hl, hcs, ← Nat.add_mul]; exact Nat.mul_le_mul_right _ hroom
      have hr2 := run_append_room (P := P) w t ty e i ht hi g n cap cur hgg a m c news hl hnews h1 hroom hfit
      rw [hr] at hr2
      injection hr2 with e1 e2
      exact .inl (by rw [e1]; rfl)
    · have holds : ∀ j u, xs[j]? = some u → w.cell? ((⟨g, 0, none⟩ : Addr).add j) = some u := hown.cells (g := g) rfl
      have hr2 := run_append_grow (P := P) w t ty e i z ht hi hz ⟨g, 0, none⟩ n cap xs hown.1 holds a m c news hl hnews (by omega) (by omega) (growslice_fits (by omega) hbytes)
      rw [hr] at hr2
      injection hr2 with e1 e2
      exact .inr ⟨w.heap.size, by rw [e1]; rfl, Nat.le_refl _⟩

/-- 'append(s, make([]T, m)...)': so many zeros behind a row of the call's own. -/
theorem run_append_zeros (base : Nat) (t ti ty e : TypeId) (k : IntKind) (i : TypeInfo) (z : Value) (bytes : Nat) (ht : P.underlying t = some (.slice e)) (hti : P.underlying ti = some (.int k)) (hi : P.info? e = some i) (hz : i.zero = some z)
    (hsize : i.size = 1) (hby : i.bytes = bytes) (hzs : z.cells = #[z]) (hz1 : z.oneCell' = true)
    (v : Value) (n : Nat) (xs : List Value) (hown : w.ownsRow base e 1 v n xs) (m : Nat) (hm : 0 < m)
    (h63 : n + m ≤ maxLen) (hbytes : (n + m) * bytes ≤ 140737488355328) (hbase : base ≤ w.heap.size) :
    ∃ v' w', (Builtin.append_ #[t, ti] ty #[v, .int k m]).run P w = .ok v' w' ∧ w'.ownsRow base e 1 v' (n + m) (xs ++ List.replicate m z) ∧ w.grownBy w' v.ownBlock ∧ Moved w v v' := by
  subst hby
  have hsmall : n + m ≤ 9223372036854775807 := by simp only [maxLen] at h63; omega
  have hwrap : IntKind.i64.wrap (m : Int) = m := by rw [IntKind.wrap_i64]; omega
  have hai : ∀ w, Sem.run P (asInt (.int k (m : Int))) w = .ok (m : Int) w := fun _ => rfl
  have hm0 : ¬ m = 0 := by omega
  have hmb : m * i.bytes ≤ 140737488355328 := Nat.le_trans (Nat.mul_le_mul_right _ (by omega)) hbytes
  have hmb' : ¬ (281474976710656 < (m : Int) * (i.bytes : Int)) := by
    rw [← Int.natCast_mul]
    omega
  have hneg : ¬ ((m : Int) < 0) := by omega
  have hzc : ∀ m, Builtin.zeroCells #[z] m = (List.replicate m z).toArray := by
    intro m
    simp only [Builtin.zeroCells]
    apply Array.ext
    · simp
    · intro j h1 h2
      simp [Nat.mod_one]
  have hlen : (xs ++ List.replicate m z).length = (n + m) * 1 := by rw [List.length_append, hown.1, List.length_replicate, Nat.add_mul, Nat.mul_one, Nat.mul_one]
  rcases hown.2 with ⟨rfl, rfl⟩ | ⟨g, cap, cur, rfl, hbg, hg, hnc, hcm, hcs, htake⟩
  · have hx : xs = [] := List.eq_nil_of_length_eq_zero (by simpa using hown.1)
    subst hx
    have h63' : ¬ (9223372036854775807 < (m : Int)) := by omega
    have h48' : ¬ (281474976710656 < Builtin.nextslicecap m 0 * i.bytes) := by rw [nextslicecap_zero hm]; omega
    refine ⟨.slice (some ⟨w.heap.size, 0, none⟩) m (grownCap w m 0 e), w.drew.alloc (.cells ((List.replicate m z).toArray ++ Builtin.zeroCells #[z] (grownCap w m 0 e - m)) e), ?_, ?_, ?_, .inr ⟨_, rfl, Nat.le_refl _⟩⟩
    · simp [Builtin.append_, run_underlying ht, run_underlying hti, sizeOf, typeInfo, zeroValue, hi, hz, hsize, hzs, hzc, hai, hwrap, hneg, hmb', hm0, h63', h48', Question.forced, run_firstCells_none, newRow, grownCap]
    · refine ⟨by simp, .inr ⟨w.heap.size, _, _, by simp, hbase, heap_alloc_new w.drew _, by simpa using grownCap_ge w m 0 e, grownCap_le_maxLen w m 0 e (by omega), ?_, ?_⟩⟩
      · have := grownCap_ge w m 0 e
        simp [hzc]
        omega
      · simp [hzc]
    · exact ⟨rfl, rfl, rfl, by simp, fun k hk _ => Below.heap_alloc w.drew _ k hk⟩
  · by_cases hroom : n + m ≤ cap
    · have hfit : n * 1 + (List.replicate m z).length ≤ cur.size := by simp; omega
      have hst := run_storeCells_at P g (n * 1) e (List.replicate m z) 0 cur w hg (by simpa using hfit) (fun u hu => by rw [List.eq_of_mem_replicate hu]; exact hz1)
      simp only [Nat.add_zero] at hst
      refine ⟨.slice (some ⟨g, 0, none⟩) (n + m) cap, _, ?_, ⟨hlen, .inr ⟨g, cap, _, rfl, hbg, setRow_heap w g cur ((cur.toList.take (n * 1) ++ List.replicate m z ++ cur.toList.drop (n * 1 + (List.replicate m z).length)).toArray) e _ hg, hroom, hcm, ?_, ?_⟩⟩, ⟨rfl, rfl, rfl, by simp, fun k _ hk => setRow_other w g k _ (fun e => hk (by simp [Value.ownBlock, e]))⟩, .inl rfl⟩
      · simp [Builtin.append_, run_underlying ht, run_underlying hti, sizeOf, typeInfo, zeroValue, hi, hz, hsize, hzs, hzc, hai, hwrap, hneg, hmb', hm0, hroom, Addr.add_lit] at hst ⊢
        simp [hst]
      · simp only [List.size_toArray, List.length_append, List.length_take, List.length_drop, Array.length_toList]
        omega
      · rw [htake, ← hlen]
        exact List.take_left
    · have holds : ∀ j u, xs[j]? = some u → w.cell? ((⟨g, 0, none⟩ : Addr).add j) = some u := hown.cells (g := g) rfl
      have h63' : ¬ (9223372036854775807 < ((n : Int) + (m : Int))) := by omega
      have h48' : ¬ (281474976710656 < Builtin.nextslicecap (n + m) cap * i.bytes) := by have := growslice_fits (old := cap) (by omega) hbytes; omega
      have hf := run_firstCells_some (P := P) w.drew 1 n ⟨g, 0, none⟩ n cap xs hown.1 (by simpa using holds)
      refine ⟨.slice (some ⟨w.heap.size, 0, none⟩) (n + m) (grownCap w (n + m) cap e), w.drew.alloc (.cells (xs.toArray ++ (List.replicate m z).toArray ++ Builtin.zeroCells #[z] (grownCap w (n + m) cap e - (n + m))) e), ?_, ?_, ?_, .inr ⟨_, rfl, Nat.le_refl _⟩⟩
      · simp [Builtin.append_, run_underlying ht, run_underlying hti, sizeOf, typeInfo, zeroValue, hi, hz, hsize, hzs, hzc, hai, hwrap, hneg, hmb', hm0, hroom, h63', h48', Question.forced, hf, newRow, grownCap]
      · have hge := grownCap_ge w (n + m) cap e
        refine ⟨hlen, .inr ⟨w.heap.size, _, _, rfl, hbase, heap_alloc_new w.drew _, hge, grownCap_le_maxLen w (n + m) cap e h63, ?_, ?_⟩⟩
        · have := hown.1
          simp [hzc]
          omega
        · simp only [Array.toList_append, List.append_assoc]
          rw [← List.append_assoc, ← hlen]
          exact List.take_left
      · exact ⟨rfl, rfl, rfl, by simp, fun k hk _ => Below.heap_alloc w.drew _ k hk⟩

variable {w}
/-- One step by its run's equation. -/
theorem wpList_append_run {ops : Array Oper} {rest : List Oper} {o : Oper} {a : Act} {Q : Exit → Act → World → Prop} (hgd : o.guard = none) (s x : Operand) (t t' : TypeId)
    (ho : o.op = .call { callee := .builtin .append, args := #[s, x], argTypes := #[t, t'] }) {v u v' : Value} {w' : World} (hs : a.eval s = v) (hx : a.eval x = u)
    (hr : (Builtin.append_ #[t, t'] o.type #[v, u]).run P w = .ok v' w') (h : wpList P ops Q rest (a.put o.dst v') w') : wpList P ops Q (o :: rest) a w :=
  wpList_plain hgd fun _ hK => by
    unfold Oper.wp execOp
    simp only [ho, resolve, invoke, builtin, Sem.run_bind, Sem.run_pure, Result.andThen_ok, List.map_toArray, List.map_cons, List.map_nil, hs, hx, hr]
    exact hK _ _ h

theorem step_append_run {ops : Array Oper} {o : Oper} {a : Act} {K : Act → World → Prop} {Q : Exit → Act → World → Prop} {E : Prop}
    (hg : o.guard = none) (s x : Operand) (t t' : TypeId) (hop : o.op = Op.call { callee := Callee.builtin Builtin.append, args := #[s, x], argTypes := #[t, t'] })
    {v u v' : Value} {w' : World} (hs : a.eval s = v) (hx : a.eval x = u)
    (hr : (Builtin.append_ #[t, t'] o.type #[v, u]).run P w = .ok v' w') (hK : K (a.put o.dst v') w') :
    if Region.wanted o (yielded ops a.tmps) = true then Oper.wp P o a w K Q else E := by
  have hw : Region.wanted o (yielded ops a.tmps) = true := by simp [Region.wanted, hg]
  rw [if_pos hw]
  unfold Oper.wp
  simp [execOp, hop, resolve, invoke, builtin, hs, hx, hr, Result.andThen]
  exact hK

/-- 'make([]T, n)': a new block. -/
theorem run_make_block (t e : TypeId) (i : TypeInfo) (z : Value) (size bytes : Nat) (ht : P.underlying t = some (.slice e)) (hi : P.info? e = some i) (hz : i.zero = some z) (hs : i.size = size) (hb : i.bytes = bytes) (n : Nat)
    (hbytes : bytes * n ≤ 281474976710656) (h63 : n ≤ 9223372036854775807) :
    ∃ M : Array Value, M = madeCells z.cells (n * size) ∧ M.size = n * size ∧ (Instr.makeSlice t (.int .i64 n) (.int .i64 n)).run P w = .ok (.slice (some ⟨w.heap.size, 0, none⟩) n n) (w.alloc (.cells M e)) := by
  subst hs hb
  refine ⟨madeCells z.cells (n * i.size), rfl, size_madeCells _ _, ?_⟩
  have h := run_make (P := P) w t e i z ht hi hz .i64 .i64 n n (by omega) (by omega) (by rw [← Int.natCast_mul]; omega) (by omega)
  simpa using h

theorem wpList_make_run {ops : Array Oper} {rest : List Oper} {o : Oper} {a : Act} {Q : Exit → Act → World → Prop} (hgd : o.guard = none) (l c : Operand) (t : TypeId)
    (ho : o.op = Op.makeSlice t l c) {vl vc v' : Value} {w' : World} (hl : a.eval l = vl) (hc : a.eval c = vc)
    (hr : (Instr.makeSlice t vl vc).run P w = .ok v' w') (h : wpList P ops Q rest (a.put o.dst v') w') : wpList P ops Q (o :: rest) a w :=
  wpList_plain hgd fun _ hK => by
    unfold Oper.wp
    simp [execOp, ho, hl, hc, hr, Result.andThen]
    exact hK _ _ h

theorem wpList_copy_run {ops : Array Oper} {rest : List Oper} {o : Oper} {a : Act} {Q : Exit → Act → World → Prop} (hgd : o.guard = none) (s x : Operand) (t t' : TypeId)
    (ho : o.op = .call { callee := .builtin .copy, args := #[s, x], argTypes := #[t, t'] }) {v u v' : Value} {w' : World} (hs : a.eval s = v) (hx : a.eval x = u)
    (hr : (Builtin.copy_ #[t, t'] o.type #[v, u]).run P w = .ok v' w') (h : wpList P ops Q rest (a.put o.dst v') w') : wpList P ops Q (o :: rest) a w :=
  wpList_plain hgd fun _ hK => by
    unfold Oper.wp execOp
    simp only [ho, resolve, invoke, builtin, Sem.run_bind, Sem.run_pure, Result.andThen_ok, List.map_toArray, List.map_cons, List.map_nil, hs, hx, hr]
    exact hK _ _ h

/-- 'copy(d, s)': a whole row, of elements of whatever width, over a new block that is as long. -/
theorem run_copy_all (dT sT ty e : TypeId) (size : Nat) (hu : P.underlying dT = some (.slice e)) (hsz : (P.info? e).map (·.size) = some size) (g n c : Nat) (cur : Array Value) (t : TypeId)
    (hg : w.heap[g]? = some (.cells cur t (0, 0))) (hcs : cur.size = n * size) (v : Value) (xs : List Value) (hown : w.ownsRow 0 e size v n xs) (h1 : ∀ v ∈ xs, v.oneCell' = true) :
    ∃ w', (Builtin.copy_ #[dT, sT] ty #[.slice (some ⟨g, 0, none⟩) n c, v]).run P w = .ok (goInt n) w' ∧ w'.heap[g]? = some (.cells xs.toArray t (0, 0)) ∧ w.grownBy w' (some g) := by
  cases hq : P.info? e with
  | none => simp [hq] at hsz
  | some i =>
    have hi : i.size = size := by simpa [hq] using hsz
    rcases hown.2 with ⟨rfl, rfl⟩ | ⟨g', cap, cur', rfl, _, hg', hn, _, hcs', ht⟩
    · obtain rfl : xs = [] := List.eq_nil_of_length_eq_zero (by simpa using hown.1)
      obtain rfl : cur = #[] := Array.eq_empty_of_size_eq_zero (by simpa using hcs)
      refine ⟨w, ?_, hg, ⟨rfl, rfl, rfl, Nat.le_refl _, fun _ _ _ => rfl⟩⟩
      simp [Builtin.copy_, run_underlying hu, Builtin.lenOf, Builtin.firstCells, sizeOf, typeInfo, hq, storeCells]
    · have hf := run_firstCells_some (P := P) w size n ⟨g', 0, none⟩ n cap xs hown.1 (hown.cells (g := g') rfl)
      have hst := run_storeCells_at P g 0 t xs 0 cur w hg (by rw [hown.1, hcs]; omega) h1
      refine ⟨w.setRow g xs.toArray, ?_, setRow_heap w g cur _ t _ hg, ⟨rfl, rfl, rfl, by simp, fun k _ hk => setRow_other w g k _ (fun e => hk (by rw [e]))⟩⟩
      have he : cur.toList.take (0 + 0) ++ xs ++ cur.toList.drop (0 + 0 + xs.length) = xs := by
        rw [show cur.toList.drop (0 + 0 + xs.length) = [] from List.drop_eq_nil_of_le (by rw [hown.1, Array.length_toList, hcs]; omega)]
        simp
      rw [he] at hst
      simp [Builtin.copy_, run_underlying hu, Builtin.lenOf, sizeOf, typeInfo, hq, hi, hf, hst]
end
end Go.HeapKit
/-! The part that both kinds of memory embed: size, mark (an atomic number). -/
namespace Go.Proofs.Ytaeooljfilkaeaa
open Go.RowKit Go.HeapKit

theorem atomic_load (a : Addr) (x : Int) (w : World) (hc : w.cell? a = some (.int .i64 x)) :
    (callFunc 111 #[.pointer (some a)]).run Try.prog w = .ok (.value (.int .i64 x)) w :=
  run_call_load (P := Try.prog) Try.func111 (by kernel_rfl) (by kernel_rfl) (by kernel_rfl) .i64 (by kernel_rfl) hc
theorem atomic_store (a : Addr) (y : Int) (u : Value) (w : World) (hc : w.cell? a = some u) (hz : w.frozen? a = false) :
    (callFunc 110 #[.pointer (some a), .int .i64 y]).run Try.prog w = .ok (.value (.tuple #[])) (w.setCell a (.int .i64 y)) :=
  run_call_store (P := Try.prog) Try.func110 (by kernel_rfl) (by kernel_rfl) (by kernel_rfl) (by kernel_rfl) hc hz

theorem used_any (b off : Nat) (m : Int) (w : World) (h1 : w.cell? ⟨b, off + 1, none⟩ = some (.int .i64 m)) :
    Calls Try.prog 107 #[.pointer (some ⟨b, off, none⟩)] w fun e w' => e = .returned (.int .i64 m) ∧ w' = w := by
  have hl := atomic_load ⟨b, off + 1, none⟩ m w h1
  go_enter Try.func107, Try.ntmps107
  go_wp2
  go_ret
  exact ⟨rfl, rfl⟩

theorem fits_any (n : Int) (w : World) :
    Calls Try.prog 42 #[.int .i64 n] w fun e w' => e = .returned (.bool (decide (0 ≤ n) && decide (n ≤ 1048576))) ∧ w' = w := by
  go_enter Try.func42, Try.ntmps42
  by_cases h0 : 0 ≤ n <;> by_cases h1 : n ≤ 1048576
  all_goals (go_wp2; go_ret; simp [h0, h1])

theorem has_any (b off : Nat) (m x : Int) (w : World) (h1 : w.cell? ⟨b, off + 1, none⟩ = some (.int .i64 m)) :
    Calls Try.prog 104 #[.pointer (some ⟨b, off, none⟩), .int .i64 x] w fun e w' => e = .returned (.bool (decide (0 ≤ x) && decide (x < m))) ∧ w' = w := by
  have hl := atomic_load ⟨b, off + 1, none⟩ m w h1
  by_cases h0 : 0 ≤ x
  · by_cases h2 : x < m
    all_goals
      go_enter Try.func104, Try.ntmps104
      go_wp2
      go_ret
      simp [h0, h2]
  · go_enter Try.func104, Try.ntmps104
    go_wp2
    go_ret
    simp
    omega

theorem take_few (b off : Nat) (m n : Int) (w : World) (h1 : w.cell? ⟨b, off + 1, none⟩ = some (.int .i64 m)) (hn : n < 1) :
    Calls Try.prog 106 #[.pointer (some ⟨b, off, none⟩), .int .i64 n] w fun e w' => e = .returned (.tuple #[.int .i64 0, .int .i64 21]) ∧ w' = w := by
  have hl := atomic_load ⟨b, off + 1, none⟩ m w h1
  go_enter Try.func106, Try.ntmps106
  go_wp2
  go_ret2
  exact ⟨rfl, rfl⟩
theorem take_many (b off : Nat) (s m n : Int) (w : World) (h0 : w.cell? ⟨b, off, none⟩ = some (.int .i64 s)) (h1 : w.cell? ⟨b, off + 1, none⟩ = some (.int .i64 m))
    (hb : 0 ≤ m ∧ m ≤ s ∧ s ≤ 1048576) (hn : ¬ n < 1) (hm : s - m < n) :
    Calls Try.prog 106 #[.pointer (some ⟨b, off, none⟩), .int .i64 n] w fun e w' => e = .returned (.tuple #[.int .i64 0, .int .i64 22]) ∧ w' = w := by
  have hl := atomic_load ⟨b, off + 1, none⟩ m w h1
  obtain ⟨hb1, hb2, hb3⟩ := hb
  go_enter Try.func106, Try.ntmps106
  go_wp2
  go_ret2
  exact ⟨rfl, rfl⟩
theorem take_fits (b off : Nat) (s m n : Int) (w : World) (h0 : w.cell? ⟨b, off, none⟩ = some (.int .i64 s)) (h1 : w.cell? ⟨b, off + 1, none⟩ = some (.int .i64 m))
    (f1 : w.frozen? ⟨b, off + 1, none⟩ = false) (hb : 0 ≤ m ∧ m ≤ s ∧ s ≤ 1048576) (hn : ¬ n < 1) (hm : ¬ s - m < n) :
    Calls Try.prog 106 #[.pointer (some ⟨b, off, none⟩), .int .i64 n] w fun e w' => e = .returned (.tuple #[.int .i64 m, .int .i64 0]) ∧ w' = w.setCell ⟨b, off + 1, none⟩ (.int .i64 (m + n)) := by
  have hl := atomic_load ⟨b, off + 1, none⟩ m w h1
  have hs := atomic_store ⟨b, off + 1, none⟩ (m + n) _ w h1 f1
  obtain ⟨hb1, hb2, hb3⟩ := hb
  go_enter Try.func106, Try.ntmps106
  go_wp2
  go_end0
  go_wp2
  go_ret2
  exact ⟨rfl, rfl⟩
end Go.Proofs.Ytaeooljfilkaeaa
/-! An arena: plainly, and how it lies in memory. -/
namespace Go.Proofs.Ytaeooljfilkaeaa
open Go.RowKit Go.HeapKit

structure Acc where
  who : Int
  kind : Int
  addr : Int
  a : Int
  b : Int
  ok : Bool
def Acc.vals (x : Acc) : List Value := [.int .i64 x.who, .int .i64 x.kind, .int .i64 x.addr, .int .i64 x.a, .int .i64 x.b, .bool x.ok]
theorem Acc.vals_length (x : Acc) : x.vals.length = 6 := rfl
def logVals (l : List Acc) : List Value := l.flatMap Acc.vals
theorem logVals_length (l : List Acc) : (logVals l).length = l.length * 6 := by
  induction l with
  | nil => rfl
  | cons x l ih => simp only [logVals, List.flatMap_cons, List.length_append, Acc.vals_length, List.length_cons] at ih ⊢; omega

structure Ar where
  size : Nat
  cells : List Int
  on : Bool
  actor : Int
  log : List Acc
def Ar.noted (A : Ar) (x : Acc) : Ar := if A.on then { A with log := A.log ++ [{ x with who := A.actor }] } else A
def Ar.put (A : Ar) (k : Nat) (v : Int) : Ar := { A with cells := A.cells.set k v }
def Ar.more (A : Ar) (n : Nat) : Ar := { A with cells := A.cells ++ List.replicate n 0 }

theorem setCell_block {w : World} {p i : Nat} {c : Array Value} {t : TypeId} {fz : Nat × Nat} (h : w.heap[p]? = some (.cells c t fz)) (v : Value) :
    (w.setCell ⟨p, i, none⟩ v).heap[p]? = some (.cells (c.setIfInBounds i v) t fz) := by
  simp [World.setCell, Array.getElem?_modify, h]
theorem cell_of_block {w : World} {p : Nat} {c : Array Value} {t : TypeId} {fz : Nat × Nat} (h : w.heap[p]? = some (.cells c t fz)) (i : Nat) : w.cell? ⟨p, i, none⟩ = c[i]? := by
  simp [World.cell?, h]
theorem free_of_block {w : World} {p : Nat} {c : Array Value} {t : TypeId} (h : w.heap[p]? = some (.cells c t (0, 0))) (i : Nat) : w.frozen? ⟨p, i, none⟩ = false := by
  simp [World.frozen?, h]

def Foot (p : Nat) (vc vl : Value) (k : Nat) : Prop := k = p ∨ vc.ownBlock = some k ∨ vl.ownBlock = some k

structure IsArena (w : World) (p : Nat) (vc vl : Value) (A : Ar) : Prop where
  blk : w.heap[p]? = some (.cells #[.int .i64 A.size, .int .i64 A.cells.length, vc, .bool A.on, .int .i64 A.actor, vl] 107 (0, 0))
  cells : w.ownsRow 0 2 1 vc A.cells.length (A.cells.map (Value.int .i64))
  log : w.ownsRow 0 166 6 vl A.log.length (logVals A.log)
  fit : A.cells.length ≤ A.size ∧ A.size ≤ 1048576

section
variable {w : World} {p : Nat} {vc vl : Value} {A : Ar}
theorem IsArena.lt (h : IsArena w p vc vl A) : p < w.heap.size := (Array.getElem?_eq_some_iff.1 h.blk).1
theorem IsArena.foot_lt (h : IsArena w p vc vl A) {k : Nat} (hk : Foot p vc vl k) : k < w.heap.size := by
  rcases hk with rfl | hk | hk
  · exact h.lt
  · exact own_lt h.cells hk
  · exact own_lt h.log hk
theorem IsArena.ncp (h : IsArena w p vc vl A) : vc.ownBlock ≠ some p := fun e => by
  have := own_type h.cells e h.blk
  exact absurd this (by decide)
theorem IsArena.nlp (h : IsArena w p vc vl A) : vl.ownBlock ≠ some p := fun e => by
  have := own_type h.log e h.blk
  exact absurd this (by decide)
theorem IsArena.ncl (h : IsArena w p vc vl A) {g : Nat} (hg : vc.ownBlock = some g) : vl.ownBlock ≠ some g := own_apart h.cells h.log (by decide) hg
theorem IsArena.c0 (h : IsArena w p vc vl A) : w.cell? ⟨p, 0, none⟩ = some (.int .i64 A.size) := by rw [cell_of_block h.blk]; rfl
theorem IsArena.c1 (h : IsArena w p vc vl A) : w.cell? ⟨p, 1, none⟩ = some (.int .i64 A.cells.length) := by rw [cell_of_block h.blk]; rfl
theorem IsArena.c2 (h : IsArena w p vc vl A) : w.cell? ⟨p, 2, none⟩ = some vc := by rw [cell_of_block h.blk]; rfl
theorem IsArena.c3 (h : IsArena w p vc vl A) : w.cell? ⟨p, 3, none⟩ = some (.bool A.on) := by rw [cell_of_block h.blk]; rfl
theorem IsArena.c4 (h : IsArena w p vc vl A) : w.cell? ⟨p, 4, none⟩ = some (.int .i64 A.actor) := by rw [cell_of_block h.blk]; rfl
theorem IsArena.c5 (h : IsArena w p vc vl A) : w.cell? ⟨p, 5, none⟩ = some vl := by rw [cell_of_block h.blk]; rfl
theorem IsArena.free (h : IsArena w p vc vl A) (i : Nat) : w.frozen? ⟨p, i, none⟩ = false := free_of_block h.blk i

theorem IsArena.kept {w' : World} {S : Nat → Prop} (h : IsArena w p vc vl A) (hk : Keeps S w w') (hS : ∀ k, Foot p vc vl k → ¬ S k) : IsArena w' p vc vl A :=
  ⟨(hk.block p h.lt (hS p (.inl rfl))).trans h.blk, hk.own h.cells (fun k e => hS k (.inr (.inl e))), hk.own h.log (fun k e => hS k (.inr (.inr e))), h.fit⟩
theorem IsArena.alloc (h : IsArena w p vc vl A) (o : Obj) : IsArena (w.alloc o) p vc vl A := h.kept (Keeps.alloc None w o) (fun _ _ f => f)
theorem IsArena.drew (h : IsArena w p vc vl A) : IsArena w.drew p vc vl A := h.kept (Keeps.drew None w) (fun _ _ f => f)

/-- A cell in use. -/
theorem IsArena.at (h : IsArena w p vc vl A) (k : Nat) (hk : k < A.cells.length) :
    ∃ g cap, vc = .slice (some ⟨g, 0, none⟩) A.cells.length cap ∧ A.cells.length ≤ cap ∧ g ≠ p ∧ w.cell? ⟨g, k, none⟩ = some (.int .i64 (A.cells.getD k 0)) ∧ w.frozen? ⟨g, k, none⟩ = false := by
  have hc := h.cells
  rcases hc.2 with ⟨_, h0⟩ | ⟨g, cap, cur, rfl, _, hg, hn, _, hcs, ht⟩
  · omega
  · refine ⟨g, cap, rfl, hn, fun e => h.ncp (by rw [← e]; rfl), ?_, free_of_block hg k⟩
    have hu := hc.cells (g := g) rfl k (.int .i64 (A.cells.getD k 0)) (by simp [List.getD, hk])
    rwa [show (⟨g, 0, none⟩ : Addr).add k = ⟨g, k, none⟩ by unfold Addr.add; split <;> simp_all] at hu

theorem own_set {w : World} {e : TypeId} {g n cap : Nat} {xs : List Value} (h : w.ownsRow 0 e 1 (.slice (some ⟨g, 0, none⟩) n cap) n xs) (k : Nat) (v : Value) :
    (w.setCell ⟨g, k, none⟩ v).ownsRow 0 e 1 (.slice (some ⟨g, 0, none⟩) n cap) n (xs.set k v) := by
  rcases h.2 with ⟨h0, _⟩ | ⟨g', cap', cur, he, hb, hg, hn, hm, hcs, ht⟩
  · cases h0
  · injection he with e1 e2 e3
    injection e1 with e1
    injection e1 with e1
    subst e1 e3
    refine ⟨by simpa using h.1, .inr ⟨g, cap, cur.setIfInBounds k v, rfl, hb, setCell_block hg v, hn, hm, by simpa using hcs, ?_⟩⟩
    rw [Array.toList_setIfInBounds, List.take_set, ht]

/-- A store into a cell in use. -/
theorem IsArena.put (h : IsArena w p vc vl A) (k : Nat) {g cap : Nat} (hv : vc = .slice (some ⟨g, 0, none⟩) A.cells.length cap) (v : Int) :
    IsArena (w.setCell ⟨g, k, none⟩ (.int .i64 v)) p vc vl (A.put k v) := by
  have hgp : g ≠ p := fun e => h.ncp (by rw [hv, ← e]; rfl)
  have hl : vl.ownBlock ≠ some g := h.ncl (by rw [hv]; rfl)
  have hkp : Keeps (· = g) w (w.setCell ⟨g, k, none⟩ (.int .i64 v)) := Keeps.setCell (S := (· = g)) w (a := ⟨g, k, none⟩) rfl _
  refine ⟨?_, ?_, hkp.own h.log (fun i hi e => hl (e ▸ hi)), by simpa [Ar.put] using h.fit⟩
  · rw [hkp.block p h.lt (fun e => hgp e.symm), h.blk]
    simp [Ar.put]
  · have := h.cells
    subst hv
    have := own_set this k (.int .i64 v)
    simpa [Ar.put, List.map_set] using this

/-- The log, one longer: behind the append (w1, v') and the store of the field. -/
theorem IsArena.logged {w1 : World} {vl' : Value} {x : Acc} {S : Nat → Prop} (h : IsArena w p vc vl A) (hk : Keeps S w w1) (hS : ∀ k, S k → vl.ownBlock = some k) (ho : w1.ownsRow 0 166 6 vl' (A.log.length + 1) (logVals A.log ++ x.vals)) :
    IsArena (w1.setCell ⟨p, 5, none⟩ vl') p vc vl' { A with log := A.log ++ [x] } := by
  have hb : w1.heap[p]? = _ := (hk.block p h.lt (fun s => h.nlp (hS p s))).trans h.blk
  have hkp : Keeps (· = p) w1 (w1.setCell ⟨p, 5, none⟩ vl') := Keeps.setCell (S := (· = p)) w1 (a := ⟨p, 5, none⟩) rfl _
  have hc1 : w1.ownsRow 0 2 1 vc A.cells.length (A.cells.map (Value.int .i64)) := hk.own h.cells (fun k e s => h.ncl e (hS k s))
  have hlp : ∀ k, vl'.ownBlock = some k → k ≠ p := fun k e e2 => by
    subst e2
    exact absurd (own_type ho e hb) (by decide)
  refine ⟨(setCell_block hb vl').trans rfl, hkp.own hc1 (fun k e e2 => h.ncp (e2 ▸ e)), ?_, h.fit⟩
  have := hkp.own ho hlp
  simpa [logVals] using this
end
end Go.Proofs.Ytaeooljfilkaeaa
/-! What is watched is written down. -/
namespace Go.Proofs.Ytaeooljfilkaeaa
open Go.RowKit Go.HeapKit

def Acc.value (x : Acc) : Value := .agg #[.int .i64 x.who, .int .i64 x.kind, .int .i64 x.addr, .int .i64 x.a, .int .i64 x.b, .bool x.ok]

theorem Try.infoAcc : (Try.prog.info? 166).map (fun i => (i.zero, i.size, i.bytes)) = some (some (.agg #[.int .i64 0, .int .i64 0, .int .i64 0, .int .i64 0, .int .i64 0, .bool false]), 6, 48) := by kernel_rfl
theorem Try.infoI64 : (Try.prog.info? 2).map (fun i => (i.zero, i.size, i.bytes)) = some (some (.int .i64 0), 1, 8) := by kernel_rfl

theorem new_at (w : World) (o : Obj) (n : Nat) (hn : w.heap.size = n) : (w.alloc o).heap[n]? = some o := by subst hn; exact heap_alloc_new w o
/-- The append of 'note': what was watched, behind the log. -/
theorem log_append (p : Nat) (vc vl : Value) (A : Ar) (x : Acc) (g ty : Nat) (w : World) (h : IsArena w p vc vl A) (hlog : A.log.length < 1000000000000)
    (hg : w.heap[g]? = some (.cells #[.int .i64 x.who, .int .i64 x.kind, .int .i64 x.addr, .int .i64 x.a, .int .i64 x.b, .bool x.ok] 166 (0, 0))) :
    ∃ b cap w', (Builtin.append_ #[30, 30] ty #[vl, .slice (some ⟨g, 0, none⟩) 1 1]).run Try.prog w = .ok (.slice (some ⟨b, 0, none⟩) (A.log.length + 1) cap) w' ∧
      w'.ownsRow 0 166 6 (.slice (some ⟨b, 0, none⟩) (A.log.length + 1) cap) (A.log.length + 1) (logVals A.log ++ x.vals) ∧ w.grownBy w' vl.ownBlock ∧ Moved w vl (.slice (some ⟨b, 0, none⟩) (A.log.length + 1) cap) := by
  obtain ⟨i0, hi, hz0, hz1, hz2⟩ := info_parts Try.infoAcc
  obtain ⟨v', w', hr, ho, hgr, hm, -⟩ := run_append_moved (P := Try.prog) w 0 30 ty 166 i0 _ 6 48 Try.underlying30 hi hz0 hz1 hz2 rfl (by decide) vl A.log.length (logVals A.log) h.log
    ⟨g, 0, none⟩ 1 1 x.vals rfl (by
      intro j u hu
      rw [show (⟨g, 0, none⟩ : Addr).add j = ⟨g, j, none⟩ by unfold Addr.add; split <;> simp_all, cell_of_block hg]
      simpa [Acc.vals] using hu) (by
      intro u hu
      simp [Acc.vals] at hu
      rcases hu with rfl | rfl | rfl | rfl | rfl | rfl <;> rfl) (by unfold maxLen; omega) (by omega) (Nat.zero_le _)
  rcases ho.2 with ⟨_, h0⟩ | ⟨b, cap, cur, rfl, _⟩
  · omega
  · exact ⟨b, cap, w', hr, ho, hgr, hm⟩

theorem note_off (p : Nat) (vc vl : Value) (A : Ar) (u k d a b : Int) (t : Bool) (w : World) (h : IsArena w p vc vl A) (hon : A.on = false) :
    Calls Try.prog 105 #[.pointer (some ⟨p, 0, none⟩), .agg #[.int .i64 u, .int .i64 k, .int .i64 d, .int .i64 a, .int .i64 b, .bool t]] w fun e w' => e = .returned (.tuple #[]) ∧
      w' = w.alloc (.cells #[.int .i64 u, .int .i64 k, .int .i64 d, .int .i64 a, .int .i64 b, .bool t] 166) := by
  have c3 := (h.alloc (.cells #[.int .i64 u, .int .i64 k, .int .i64 d, .int .i64 a, .int .i64 b, .bool t] 166)).c3
  rw [hon] at c3
  go_enter Try.func105, Try.ntmps105
  go_wp2
  go_end0
  exact ⟨rfl, rfl⟩

set_option maxHeartbeats 1600000 in
theorem note_on (p : Nat) (vc vl : Value) (A : Ar) (u k d a b : Int) (t : Bool) (w : World) (h : IsArena w p vc vl A) (hon : A.on = true) (hlog : A.log.length < 1000000000000) :
    Calls Try.prog 105 #[.pointer (some ⟨p, 0, none⟩), .agg #[.int .i64 u, .int .i64 k, .int .i64 d, .int .i64 a, .int .i64 b, .bool t]] w fun e w' => e = .returned (.tuple #[]) ∧
      ∃ vl', IsArena w' p vc vl' { A with log := A.log ++ [⟨A.actor, k, d, a, b, t⟩] } ∧ Keeps (fun i => i = p ∨ vl.ownBlock = some i) w w' ∧ Moved w vl vl' := by
  have h1 := h.alloc (.cells #[.int .i64 u, .int .i64 k, .int .i64 d, .int .i64 a, .int .i64 b, .bool t] 166)
  have c3 := h1.c3
  rw [hon] at c3
  have c4 := h1.c4
  have h2 := h.alloc (.cells #[.int .i64 A.actor, .int .i64 k, .int .i64 d, .int .i64 a, .int .i64 b, .bool t] 166)
  have c5 := h2.c5
  have c6 := (h2.alloc (.cells #[.int .i64 A.actor, .int .i64 k, .int .i64 d, .int .i64 a, .int .i64 b, .bool t] 166)).c5
  have h3 := h2.drew.alloc (.cells #[.int .i64 A.actor, .int .i64 k, .int .i64 d, .int .i64 a, .int .i64 b, .bool t] 166)
  obtain ⟨g, cap, w1, hr, ho, hgr, hm⟩ := log_append p vc vl A ⟨A.actor, k, d, a, b, t⟩ (w.heap.size + 1) 30 _ h3 hlog (new_at _ _ _ (by simp))
  have hk1 : Keeps (fun i => vl.ownBlock = some i) w w1 := ((((Keeps.refl _ w).andAlloc _).andDrew).andAlloc _).andGrown hgr (fun k e => .inl e)
  have hL := h.logged hk1 (fun _ h => h) ho
  have d5 : w1.cell? ⟨p, 5, none⟩ = some vl := hk1.cell h.c5 h.nlp
  have f5 : w1.frozen? ⟨p, 5, none⟩ = false := (World.frozen?_of_block (hk1.block p h.lt h.nlp)).trans (h.free 5)
  have HK : Hid (Keeps (fun i => i = p ∨ vl.ownBlock = some i) w (w1.setCell ⟨p, 5, none⟩ (.slice (some ⟨g, 0, none⟩) (A.log.length + 1) cap))) :=
    (hk1.mono (fun _ h _ => .inr h)).trans (Keeps.setCell (S := fun i => i = p ∨ vl.ownBlock = some i) w1 (a := ⟨p, 5, none⟩) (.inl rfl) _) (fun _ h _ => h)
  have HM : Hid (Moved w vl (.slice (some ⟨g, 0, none⟩) (A.log.length + 1) cap)) := by
    rcases hm with hm | ⟨g', e, hg⟩
    · exact .inl hm
    · exact .inr ⟨g', e, by simp at hg; omega⟩
  have HL : Hid (IsArena (w1.setCell ⟨p, 5, none⟩ (.slice (some ⟨g, 0, none⟩) (A.log.length + 1) cap)) p vc (.slice (some ⟨g, 0, none⟩) (A.log.length + 1) cap) { A with log := A.log ++ [⟨A.actor, k, d, a, b, t⟩] }) := hL
  clear hk1 hL hm ho hgr h3 h1
  go_enter Try.func105, Try.ntmps105
  go_wp2
  go_region_law (refine step_append_run rfl (.tmp 17) (.tmp 19) 30 30 rfl (by simp [Act.eval]) (by simp [Act.eval]) hr ?_)
  all_goals go_end0
  all_goals exact ⟨rfl, _, HL.out, HK.out, HM.out⟩

/-- What comes of an arena: its rows' blocks are the old ones or new; nothing else is touched. -/
def After (w w' : World) (p : Nat) (vc vl : Value) (A : Ar) : Prop := ∃ vc' vl', IsArena w' p vc' vl' A ∧ Keeps (Foot p vc vl) w w' ∧ Moved w vc vc' ∧ Moved w vl vl'

theorem After.trans {w w1 w2 : World} {p : Nat} {vc vl vc1 vl1 : Value} {A : Ar} (hk : Keeps (Foot p vc vl) w w1) (mc : Moved w vc vc1) (ml : Moved w vl vl1) (h : After w1 w2 p vc1 vl1 A) : After w w2 p vc vl A := by
  obtain ⟨vc', vl', hA, hk2, mc2, ml2⟩ := h
  refine ⟨vc', vl', hA, hk.trans hk2 ?_, mc.trans mc2 hk.size, ml.trans ml2 hk.size⟩
  intro i hi hlt
  rcases hi with rfl | hi | hi
  · exact .inl rfl
  · rcases mc with mc | ⟨g, mc, hg⟩
    · exact .inr (.inl (mc ▸ hi))
    · rw [mc] at hi; injection hi with hi; omega
  · rcases ml with ml | ⟨g, ml, hg⟩
    · exact .inr (.inr (ml ▸ hi))
    · rw [ml] at hi; injection hi with hi; omega
theorem After.same {w : World} {p : Nat} {vc vl : Value} {A : Ar} (h : IsArena w p vc vl A) : After w w p vc vl A := ⟨vc, vl, h, Keeps.refl _ _, .refl _ _, .refl _ _⟩

theorem note_any (p : Nat) (vc vl : Value) (A : Ar) (u k d a b : Int) (t : Bool) (w : World) (h : IsArena w p vc vl A) (hlog : A.log.length < 1000000000000) :
    Calls Try.prog 105 #[.pointer (some ⟨p, 0, none⟩), .agg #[.int .i64 u, .int .i64 k, .int .i64 d, .int .i64 a, .int .i64 b, .bool t]] w fun e w' => e = .returned (.tuple #[]) ∧
      After w w' p vc vl (A.noted ⟨u, k, d, a, b, t⟩) := by
  cases hon : A.on with
  | false =>
    refine (note_off p vc vl A u k d a b t w h hon).mono ?_
    rintro e w' ⟨rfl, rfl⟩
    refine ⟨rfl, vc, vl, ?_, (Keeps.refl _ _).andAlloc _, .refl _ _, .refl _ _⟩
    simpa [Ar.noted, hon] using h.alloc _
  | true =>
    refine (note_on p vc vl A u k d a b t w h hon hlog).mono ?_
    rintro e w' ⟨rfl, vl', hA, hk, hm⟩
    refine ⟨rfl, vc, vl', ?_, hk.mono (fun i hi _ => ?_), .refl _ _, hm⟩
    · simpa [Ar.noted, hon] using hA
    · rcases hi with rfl | hi
      · exact .inl rfl
      · exact .inr (.inr hi)
end Go.Proofs.Ytaeooljfilkaeaa
/-! The accesses of an arena. -/
namespace Go.Proofs.Ytaeooljfilkaeaa
open Go.RowKit Go.HeapKit

def Ar.has (A : Ar) (x : Int) : Bool := decide (0 ≤ x) && decide (x < A.cells.length)
def Ar.val (A : Ar) (k : Nat) : Int := A.cells.getD k 0

theorem load_nil (x : Int) (w : World) :
    Calls Try.prog 100 #[.pointer none, .int .i64 x] w fun e w' => e = .returned (.tuple #[.int .i64 0, .int .i64 20]) ∧ w' = w := by
  go_enter Try.func100, Try.ntmps100
  go_wp2
  go_ret2
  exact ⟨rfl, rfl⟩
theorem load_out (p : Nat) (vc vl : Value) (A : Ar) (x : Int) (w : World) (h : IsArena w p vc vl A) (hx : A.has x = false) :
    Calls Try.prog 100 #[.pointer (some ⟨p, 0, none⟩), .int .i64 x] w fun e w' => e = .returned (.tuple #[.int .i64 0, .int .i64 20]) ∧ w' = w := by
  have hx' : (decide (0 ≤ x) && decide (x < A.cells.length)) = false := hx
  go_enter Try.func100, Try.ntmps100
  go_wp2_with (go_at_call 104; refine (has_any p 0 _ x w h.c1).mono ?_; rw [hx']; rintro e w' ⟨rfl, rfl⟩)
  go_ret2
  exact ⟨rfl, rfl⟩
theorem load_in (p : Nat) (vc vl : Value) (A : Ar) (k : Nat) (w : World) (h : IsArena w p vc vl A) (hx : k < A.cells.length) (hlog : A.log.length < 1000000000000) :
    Calls Try.prog 100 #[.pointer (some ⟨p, 0, none⟩), .int .i64 k] w fun e w' => e = .returned (.tuple #[.int .i64 (A.val k), .int .i64 0]) ∧ After w w' p vc vl (A.noted ⟨0, 0, k, A.val k, 0, true⟩) := by
  have hx' : (decide (0 ≤ (k : Int)) && decide ((k : Int) < A.cells.length)) = true := by simp; omega
  have c2 := h.c2
  obtain ⟨g, cap, rfl, hcap, hgp, hv, hf⟩ := h.at k hx
  change w.cell? ⟨g, k, none⟩ = some (.int .i64 (A.val k)) at hv
  go_enter Try.func100, Try.ntmps100
  go_wp2_with (first
    | (go_at_call 104; refine (has_any p 0 _ k _ h.c1).mono ?_; rw [hx']; rintro e w' ⟨rfl, rfl⟩)
    | (go_at_call 105; refine (note_any p _ vl A 0 0 k (A.val k) 0 true _ h hlog).mono ?_; rintro e w1 ⟨rfl, hA⟩))
  go_ret2
  exact ⟨rfl, hA⟩

theorem store_nil (x v : Int) (w : World) :
    Calls Try.prog 103 #[.pointer none, .int .i64 x, .int .i64 v] w fun e w' => e = .returned (.int .i64 20) ∧ w' = w := by
  go_enter Try.func103, Try.ntmps103
  go_wp2
  go_ret
  exact ⟨rfl, rfl⟩
theorem store_out (p : Nat) (vc vl : Value) (A : Ar) (x v : Int) (w : World) (h : IsArena w p vc vl A) (hx : A.has x = false) :
    Calls Try.prog 103 #[.pointer (some ⟨p, 0, none⟩), .int .i64 x, .int .i64 v] w fun e w' => e = .returned (.int .i64 20) ∧ w' = w := by
  have hx' : (decide (0 ≤ x) && decide (x < A.cells.length)) = false := hx
  go_enter Try.func103, Try.ntmps103
  go_wp2_with (go_at_call 104; refine (has_any p 0 _ x w h.c1).mono ?_; rw [hx']; rintro e w' ⟨rfl, rfl⟩)
  go_ret
  exact ⟨rfl, rfl⟩
theorem Keeps.put {w : World} {p g n cap k : Nat} {vl : Value} (v : Value) : Keeps (Foot p (.slice (some ⟨g, 0, none⟩) n cap) vl) w (w.setCell ⟨g, k, none⟩ v) :=
  Keeps.setCell w (a := ⟨g, k, none⟩) (.inr (.inl rfl)) v
theorem store_in (p : Nat) (vc vl : Value) (A : Ar) (k : Nat) (v : Int) (w : World) (h : IsArena w p vc vl A) (hx : k < A.cells.length) (hlog : A.log.length < 1000000000000) :
    Calls Try.prog 103 #[.pointer (some ⟨p, 0, none⟩), .int .i64 k, .int .i64 v] w fun e w' => e = .returned (.int .i64 0) ∧ After w w' p vc vl ((A.put k v).noted ⟨0, 1, k, v, 0, true⟩) := by
  have hx' : (decide (0 ≤ (k : Int)) && decide ((k : Int) < A.cells.length)) = true := by simp; omega
  have c2 := h.c2
  obtain ⟨g, cap, rfl, hcap, hgp, hv, hf⟩ := h.at k hx
  have h2 := h.put k rfl v
  go_enter Try.func103, Try.ntmps103
  go_wp2_with (first
    | (go_at_call 104; refine (has_any p 0 _ k _ h.c1).mono ?_; rw [hx']; rintro e w' ⟨rfl, rfl⟩)
    | (go_at_call 105; refine (note_any p _ vl _ 0 1 k v 0 true _ h2 hlog).mono ?_; rintro e w1 ⟨rfl, hA⟩))
  go_ret
  exact ⟨rfl, After.trans (Keeps.put _) (.refl _ _) (.refl _ _) hA⟩

theorem cas_nil (x o v : Int) (w : World) :
    Calls Try.prog 99 #[.pointer none, .int .i64 x, .int .i64 o, .int .i64 v] w fun e w' => e = .returned (.tuple #[.bool false, .int .i64 20]) ∧ w' = w := by
  go_enter Try.func99, Try.ntmps99
  go_wp2
  go_ret2
  exact ⟨rfl, rfl⟩
theorem cas_out (p : Nat) (vc vl : Value) (A : Ar) (x o v : Int) (w : World) (h : IsArena w p vc vl A) (hx : A.has x = false) :
    Calls Try.prog 99 #[.pointer (some ⟨p, 0, none⟩), .int .i64 x, .int .i64 o, .int .i64 v] w fun e w' => e = .returned (.tuple #[.bool false, .int .i64 20]) ∧ w' = w := by
  have hx' : (decide (0 ≤ x) && decide (x < A.cells.length)) = false := hx
  go_enter Try.func99, Try.ntmps99
  go_wp2_with (go_at_call 104; refine (has_any p 0 _ x w h.c1).mono ?_; rw [hx']; rintro e w' ⟨rfl, rfl⟩)
  go_ret2
  exact ⟨rfl, rfl⟩
theorem cas_hit (p : Nat) (vc vl : Value) (A : Ar) (k : Nat) (v : Int) (w : World) (h : IsArena w p vc vl A) (hx : k < A.cells.length) (hlog : A.log.length < 1000000000000) :
    Calls Try.prog 99 #[.pointer (some ⟨p, 0, none⟩), .int .i64 k, .int .i64 (A.val k), .int .i64 v] w fun e w' => e = .returned (.tuple #[.bool true, .int .i64 0]) ∧
      After w w' p vc vl ((A.put k v).noted ⟨0, 2, k, A.val k, v, true⟩) := by
  have hx' : (decide (0 ≤ (k : Int)) && decide ((k : Int) < A.cells.length)) = true := by simp; omega
  have c2 := h.c2
  obtain ⟨g, cap, rfl, hcap, hgp, hv, hf⟩ := h.at k hx
  change w.cell? ⟨g, k, none⟩ = some (.int .i64 (A.val k)) at hv
  have h2 := h.put k rfl v
  go_enter Try.func99, Try.ntmps99
  go_wp2_with (first
    | (go_at_call 104; refine (has_any p 0 _ k _ h.c1).mono ?_; rw [hx']; rintro e w' ⟨rfl, rfl⟩)
    | (go_at_call 105; refine (note_any p _ vl _ 0 2 k (A.val k) v true _ h2 hlog).mono ?_; rintro e w1 ⟨rfl, hA⟩))
  go_ret2
  exact ⟨rfl, After.trans (Keeps.put _) (.refl _ _) (.refl _ _) hA⟩
theorem cas_miss (p : Nat) (vc vl : Value) (A : Ar) (k : Nat) (o v : Int) (w : World) (h : IsArena w p vc vl A) (hx : k < A.cells.length) (hlog : A.log.length < 1000000000000) (hne : (A.val k == o) = false) :
    Calls Try.prog 99 #[.pointer (some ⟨p, 0, none⟩), .int .i64 k, .int .i64 o, .int .i64 v] w fun e w' => e = .returned (.tuple #[.bool false, .int .i64 0]) ∧
      After w w' p vc vl (A.noted ⟨0, 2, k, o, v, false⟩) := by
  have hx' : (decide (0 ≤ (k : Int)) && decide ((k : Int) < A.cells.length)) = true := by simp; omega
  have c2 := h.c2
  obtain ⟨g, cap, rfl, hcap, hgp, hv, hf⟩ := h.at k hx
  change w.cell? ⟨g, k, none⟩ = some (.int .i64 (A.val k)) at hv
  go_enter Try.func99, Try.ntmps99
  go_wp2_with (first
    | (go_at_call 104; refine (has_any p 0 _ k _ h.c1).mono ?_; rw [hx']; rintro e w' ⟨rfl, rfl⟩)
    | (go_at_call 105; refine (note_any p _ vl _ 0 2 k o v false _ h hlog).mono ?_; rintro e w1 ⟨rfl, hA⟩))
  go_ret2
  exact ⟨rfl, hA⟩
end Go.Proofs.Ytaeooljfilkaeaa
/-! Reserve; New. -/
namespace Go.Proofs.Ytaeooljfilkaeaa
open Go.RowKit Go.HeapKit

/-- The cells, so many zeros longer: behind the mark's store, the append and the store of the field. -/
theorem reserve_append (p : Nat) (vc vl : Value) (A : Ar) (n : Nat) (ty : TypeId) (w : World) (h : IsArena w p vc vl A) (hn : 0 < n) (hfit : A.cells.length + n ≤ A.size) :
    ∃ g cap w2, (Builtin.append_ #[29, 3] ty #[vc, .int .i64 n]).run Try.prog (w.setCell ⟨p, 1, none⟩ (.int .i64 (A.cells.length + n : Int))) = .ok (.slice (some ⟨g, 0, none⟩) (A.cells.length + n) cap) w2 ∧
      w2.cell? ⟨p, 2, none⟩ = some vc ∧ w2.frozen? ⟨p, 2, none⟩ = false ∧
      IsArena (w2.setCell ⟨p, 2, none⟩ (.slice (some ⟨g, 0, none⟩) (A.cells.length + n) cap)) p (.slice (some ⟨g, 0, none⟩) (A.cells.length + n) cap) vl (A.more n) ∧
      Keeps (Foot p vc vl) w (w2.setCell ⟨p, 2, none⟩ (.slice (some ⟨g, 0, none⟩) (A.cells.length + n) cap)) ∧ Moved w vc (.slice (some ⟨g, 0, none⟩) (A.cells.length + n) cap) := by
  obtain ⟨i0, hi, hz0, hz1, hz2⟩ := info_parts Try.infoI64
  have hk1 : Keeps (· = p) w (w.setCell ⟨p, 1, none⟩ (.int .i64 (A.cells.length + n : Int))) := Keeps.setCell (S := (· = p)) w (a := ⟨p, 1, none⟩) rfl _
  have ho1 := hk1.own h.cells (fun k e e2 => h.ncp (e2 ▸ e))
  have hl1 := hk1.own h.log (fun k e e2 => h.nlp (e2 ▸ e))
  have hb1 := setCell_block (i := 1) h.blk (.int .i64 (A.cells.length + n : Int))
  obtain ⟨v', w2, hr, ho, hgr, hm⟩ := run_append_zeros (P := Try.prog) (w.setCell ⟨p, 1, none⟩ (.int .i64 (A.cells.length + n : Int))) 0 29 3 ty 2 .i64 i0 (.int .i64 0) 8 Try.underlying29 Try.underlying3 hi hz0 hz1 hz2 rfl rfl vc A.cells.length _ ho1 n hn
    (by have := h.fit; unfold maxLen; omega) (by have := h.fit; omega) (Nat.zero_le _)
  obtain ⟨g, cap, rfl⟩ : ∃ g cap, v' = .slice (some ⟨g, 0, none⟩) (A.cells.length + n) cap := by
    rcases ho.2 with ⟨_, h0⟩ | ⟨b, cap, cur, rfl, _⟩
    · omega
    · exact ⟨b, cap, rfl⟩
  have hk2 : Keeps (fun i => vc.ownBlock = some i) _ w2 := Keeps.grown hgr (fun _ e => e)
  have hb2 := (hk2.block p (Nat.lt_of_lt_of_le h.lt hk1.size) h.ncp).trans hb1
  have hgp : ∀ k, (Value.slice (some ⟨g, 0, none⟩) (A.cells.length + n) cap).ownBlock = some k → k ≠ p := fun k e e2 => by
    subst e2
    exact absurd (own_type ho e hb2) (by decide)
  have hk3 : Keeps (· = p) w2 (w2.setCell ⟨p, 2, none⟩ (.slice (some ⟨g, 0, none⟩) (A.cells.length + n) cap)) := Keeps.setCell (S := (· = p)) w2 (a := ⟨p, 2, none⟩) rfl _
  refine ⟨g, cap, w2, hr, ?_, free_of_block hb2 2, ⟨?_, ?_, ?_, by simp [Ar.more]; exact ⟨hfit, h.fit.2⟩⟩, ?_, ?_⟩
  · rw [cell_of_block hb2]; rfl
  · rw [setCell_block hb2]
    simp [Ar.more]
  · have := hk3.own ho hgp
    simpa [Ar.more] using this
  · exact hk3.own (hk2.own hl1 (fun k e e2 => h.ncl e2 e)) (fun k e e2 => h.nlp (e2 ▸ e))
  · exact ((((Keeps.refl _ w).andSet (x := ⟨p, 1, none⟩) (.inl (.inl rfl)) _).andGrown hgr (fun k e => .inl (.inr (.inl e)))).andSet (x := ⟨p, 2, none⟩) (.inl (.inl rfl)) _)
  · rcases hm with hm | ⟨g', e, hg⟩
    · exact .inl hm
    · exact .inr ⟨g', e, Nat.le_trans hk1.size hg⟩

theorem reserve_few (p : Nat) (vc vl : Value) (A : Ar) (n : Int) (w : World) (h : IsArena w p vc vl A) (hn : n < 1) :
    Calls Try.prog 102 #[.pointer (some ⟨p, 0, none⟩), .int .i64 n] w fun e w' => e = .returned (.tuple #[.int .i64 0, .int .i64 21]) ∧ w' = w := by
  go_enter Try.func102, Try.ntmps102
  go_wp2_with (go_at_call 106; refine (take_few p 0 _ n w h.c1 hn).mono ?_; rintro e w' ⟨rfl, rfl⟩)
  go_ret2
  exact ⟨rfl, rfl⟩
theorem reserve_many (p : Nat) (vc vl : Value) (A : Ar) (n : Int) (w : World) (h : IsArena w p vc vl A) (hn : ¬ n < 1) (hm : (A.size : Int) - A.cells.length < n) :
    Calls Try.prog 102 #[.pointer (some ⟨p, 0, none⟩), .int .i64 n] w fun e w' => e = .returned (.tuple #[.int .i64 0, .int .i64 22]) ∧ w' = w := by
  have hf := h.fit
  go_enter Try.func102, Try.ntmps102
  go_wp2_with (go_at_call 106; refine (take_many p 0 _ _ n w h.c0 h.c1 (by omega) hn hm).mono ?_; rintro e w' ⟨rfl, rfl⟩)
  go_ret2
  exact ⟨rfl, rfl⟩
theorem reserve_fits (p : Nat) (vc vl : Value) (A : Ar) (n : Nat) (w : World) (h : IsArena w p vc vl A) (hn : 0 < n) (hfit : A.cells.length + n ≤ A.size) (hlog : A.log.length < 1000000000000) :
    Calls Try.prog 102 #[.pointer (some ⟨p, 0, none⟩), .int .i64 n] w fun e w' => e = .returned (.tuple #[.int .i64 A.cells.length, .int .i64 0]) ∧
      After w w' p vc vl ((A.more n).noted ⟨0, 4, A.cells.length, n, 0, true⟩) := by
  obtain ⟨g, cap, w2, hr, d2, f2, h2, hk, hm⟩ := reserve_append p vc vl A n 29 w h hn hfit
  have HK : Hid (Keeps (Foot p vc vl) w (w2.setCell ⟨p, 2, none⟩ (.slice (some ⟨g, 0, none⟩) (A.cells.length + n) cap))) := hk
  have HM : Hid (Moved w vc (.slice (some ⟨g, 0, none⟩) (A.cells.length + n) cap)) := hm
  clear hk hm
  have c2 : (w.setCell ⟨p, 1, none⟩ (.int .i64 (A.cells.length + n : Int))).cell? ⟨p, 2, none⟩ = some vc := (World.cell?_setCell_other w ⟨p, 1, none⟩ ⟨p, 2, none⟩ _ (by simp)).trans h.c2
  have hf := h.fit
  go_enter Try.func102, Try.ntmps102
  go_wp2_with (first
    | (go_at_call 106; refine (take_fits p 0 _ _ n w h.c0 h.c1 (h.free 1) (by omega) (by omega) (by omega)).mono ?_; rintro e w1 ⟨rfl, rfl⟩)
    | (at_builtin; refine wpList_append_run rfl (.tmp 30) (.tmp 31) 29 3 rfl rfl rfl hr ?_)
    | (go_at_call 105; refine (note_any p _ vl _ 0 4 A.cells.length n 0 true _ h2 hlog).mono ?_; rintro e w3 ⟨rfl, hA⟩))
  go_ret2
  exact ⟨rfl, After.trans HK.out HM.out (.refl _ _) hA⟩
theorem reserve_nil_few (n : Int) (w : World) (hn : n < 1) :
    Calls Try.prog 102 #[.pointer none, .int .i64 n] w fun e w' => e = .returned (.tuple #[.int .i64 0, .int .i64 21]) ∧ Keeps None w w' := by
  go_enter Try.func102, Try.ntmps102
  go_wp2_with (go_at_call 106; refine (take_few w.heap.size 0 0 n _ (by simp) hn).mono ?_; rintro e w' ⟨rfl, rfl⟩)
  go_ret2
  exact ⟨rfl, (Keeps.refl _ _).andAlloc _⟩
theorem reserve_nil_many (n : Int) (w : World) (hn : ¬ n < 1) :
    Calls Try.prog 102 #[.pointer none, .int .i64 n] w fun e w' => e = .returned (.tuple #[.int .i64 0, .int .i64 22]) ∧ Keeps None w w' := by
  go_enter Try.func102, Try.ntmps102
  go_wp2_with (go_at_call 106; refine (take_many w.heap.size 0 0 0 n _ (by simp) (by simp) (by omega) hn (by omega)).mono ?_; rintro e w' ⟨rfl, rfl⟩)
  go_ret2
  exact ⟨rfl, (Keeps.refl _ _).andAlloc _⟩

def Ar.new (n : Nat) : Ar := ⟨n, [], false, 0, []⟩
theorem new_bad (n : Int) (w : World) (hn : (decide (0 ≤ n) && decide (n ≤ 1048576)) = false) :
    Calls Try.prog 23 #[.int .i64 n] w fun e w' => e = .returned (.tuple #[.pointer none, .int .i64 3]) ∧ w' = w := by
  go_enter Try.func23, Try.ntmps23
  go_wp2_with (go_at_call 42; refine (fits_any n w).mono ?_; rw [hn]; rintro e w' ⟨rfl, rfl⟩)
  go_ret2
  exact ⟨rfl, rfl⟩
theorem new_ok (n : Nat) (w : World) (hn : n ≤ 1048576) :
    Calls Try.prog 23 #[.int .i64 n] w fun e w' => e = .returned (.tuple #[.pointer (some ⟨w.heap.size, 0, none⟩), .int .i64 0]) ∧
      IsArena w' w.heap.size (.slice none 0 0) (.slice none 0 0) (Ar.new n) ∧ Keeps None w w' := by
  have hn' : (decide (0 ≤ (n : Int)) && decide ((n : Int) ≤ 1048576)) = true := by simp; omega
  go_enter Try.func23, Try.ntmps23
  go_wp2_with (go_at_call 42; refine (fits_any n w).mono ?_; rw [hn']; rintro e w' ⟨rfl, rfl⟩)
  go_ret2
  refine ⟨rfl, ⟨?_, World.ownsRow_nil _ _ _ _, World.ownsRow_nil _ _ _ _, ⟨by simp [Ar.new], by simpa [Ar.new] using hn⟩⟩, (Keeps.refl _ _).andAlloc _⟩
  exact new_at _ _ _ rfl
end Go.Proofs.Ytaeooljfilkaeaa
