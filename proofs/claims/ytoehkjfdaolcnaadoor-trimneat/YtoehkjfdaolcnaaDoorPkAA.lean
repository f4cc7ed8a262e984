import Derived.WalkKit
import Derived.Laws.CopyOwn
import Derived.Deep.RegionLaw
import Derived.ArgAppend
import Derived.Test.YtoehkjfdaolcnaaDoorRows
import Derived.ProofKit
import Derived.LaidMore
import Derived.OpenShut
import Derived.Stop.Joined
import Derived.Deep.Slices
/-! Memory: which blocks a call leaves as they were; rows of the call's own that are appended to, and whose block stays or is new. Whatever the program. -/
namespace Go.HeapKit
open Go.RowKit

/-- All blocks but those of S stand as they stood. -/
structure Keeps (S : Nat → Prop) (w w' : World) : Prop where
  os : w'.os = w.os
  tape : w'.tape = w.tape
  output : w'.output = w.output
  size : w.heap.size ≤ w'.heap.size
  block : ∀ k, k < w.heap.size → ¬ S k → w'.heap[k]? = w.heap[k]?

def None : Nat → Prop := fun _ => False

theorem Keeps.refl (S : Nat → Prop) (w : World) : Keeps S w w := ⟨rfl, rfl, rfl, Nat.le_refl _, fun _ _ _ => rfl⟩
theorem Keeps.trans {S T : Nat → Prop} {a b c : World} (h : Keeps S a b) (k : Keeps T b c) (hT : ∀ i, T i → i < a.heap.size → S i) : Keeps S a c :=
  ⟨k.os.trans h.os, k.tape.trans h.tape, k.output.trans h.output, Nat.le_trans h.size k.size,
   fun i hi hn => (k.block i (Nat.lt_of_lt_of_le hi h.size) (fun t => hn (hT i t hi))).trans (h.block i hi hn)⟩
theorem Keeps.mono {S T : Nat → Prop} {a b : World} (h : Keeps S a b) (hT : ∀ i, S i → i < a.heap.size → T i) : Keeps T a b :=
  ⟨h.os, h.tape, h.output, h.size, fun i hi hn => h.block i hi (fun s => hn (hT i s hi))⟩
theorem Keeps.drew (S : Nat → Prop) (w : World) : Keeps S w w.drew := ⟨rfl, rfl, rfl, Nat.le_refl _, fun _ _ _ => rfl⟩
theorem Keeps.alloc (S : Nat → Prop) (w : World) (o : Obj) : Keeps S w (w.alloc o) := ⟨rfl, rfl, rfl, by simp, fun k hk _ => Below.heap_alloc _ _ _ hk⟩
theorem Keeps.setCell {S : Nat → Prop} (w : World) {a : Addr} (ha : S a.block) (v : Value) : Keeps S w (w.setCell a v) :=
  ⟨rfl, rfl, rfl, by simp [World.setCell], fun k _ hn => Below.heap_setCell _ _ _ _ (fun e => hn (e ▸ ha))⟩
theorem Keeps.grown {S : Nat → Prop} {w w' : World} {row : Option Nat} (hg : w.grownBy w' row) (hr : ∀ k, row = some k → S k) : Keeps S w w' :=
  ⟨hg.os, hg.tape, hg.output, hg.size, fun k hk hn => hg.block k hk (fun e => hn (hr k e.symm))⟩
theorem Keeps.andAlloc {S : Nat → Prop} {a b : World} (h : Keeps S a b) (o : Obj) : Keeps S a (b.alloc o) := h.trans (Keeps.alloc None b o) (fun _ f _ => f.elim)
theorem Keeps.andDrew {S : Nat → Prop} {a b : World} (h : Keeps S a b) : Keeps S a b.drew := h.trans (Keeps.drew None b) (fun _ f _ => f.elim)
theorem Keeps.andSet {S : Nat → Prop} {a b : World} (h : Keeps S a b) {x : Addr} (hx : S x.block ∨ a.heap.size ≤ x.block) (v : Value) : Keeps S a (b.setCell x v) :=
  h.trans (Keeps.setCell (S := (· = x.block)) b rfl v) (fun i e hi => by subst e; rcases hx with hx | hx; exact hx; omega)
theorem Keeps.andGrown {S : Nat → Prop} {a b c : World} {row : Option Nat} (h : Keeps S a b) (hg : b.grownBy c row) (hr : ∀ k, row = some k → S k ∨ a.heap.size ≤ k) : Keeps S a c :=
  h.trans (Keeps.grown (S := fun k => row = some k) hg (fun _ e => e)) (fun i e hi => by rcases hr i e with hx | hx; exact hx; omega)
theorem Keeps.below {S : Nat → Prop} {w w' : World} (h : Keeps S w w') (B : Nat) (hB : B ≤ w.heap.size) (hS : ∀ k, S k → B ≤ k) : Below B w w' :=
  ⟨h.os, h.tape, h.output, h.size, fun k hk => h.block k (by omega) (fun s => by have := hS k s; omega)⟩
theorem Keeps.cell {S : Nat → Prop} {w w' : World} (h : Keeps S w w') {a : Addr} {v : Value} (hc : w.cell? a = some v) (hn : ¬ S a.block) : w'.cell? a = some v := by
  have hlt : a.block < w.heap.size := by
    cases hb : w.heap[a.block]? with
    | none => simp [World.cell?, hb] at hc
    | some o => exact (Array.getElem?_eq_some_iff.1 hb).1
  exact (World.cell?_of_block (h.block _ hlt hn)).trans hc
theorem Keeps.own {S : Nat → Prop} {w w' : World} (h : Keeps S w w') {base : Nat} {e : TypeId} {size : Nat} {v : Value} {n : Nat} {xs : List Value} (ho : w.ownsRow base e size v n xs)
    (hn : ∀ k, v.ownBlock = some k → ¬ S k) : w'.ownsRow base e size v n xs := by
  refine ⟨ho.1, ?_⟩
  rcases ho.2 with h0 | ⟨g, cap, cur, rfl, hb, hg, r⟩
  · exact .inl h0
  · exact .inr ⟨g, cap, cur, rfl, hb, (h.block g (Array.getElem?_eq_some_iff.1 hg).1 (hn g rfl)).trans hg, r⟩

/-- The row's block is the one it was, or a new one. -/
def Moved (w : World) (v v' : Value) : Prop := v'.ownBlock = v.ownBlock ∨ ∃ g, v'.ownBlock = some g ∧ w.heap.size ≤ g
theorem Moved.refl (w : World) (v : Value) : Moved w v v := .inl rfl
theorem Moved.trans {w w1 : World} {v v1 v2 : Value} (h : Moved w v v1) (k : Moved w1 v1 v2) (hs : w.heap.size ≤ w1.heap.size) : Moved w v v2 := by
  rcases k with k | ⟨g, k, hg⟩
  · rcases h with h | ⟨g, h, hg⟩
    · exact .inl (k.trans h)
    · exact .inr ⟨g, k.trans h, hg⟩
  · exact .inr ⟨g, k, by omega⟩

theorem own_lt {w : World} {base : Nat} {e : TypeId} {size : Nat} {v : Value} {n : Nat} {xs : List Value} (h : w.ownsRow base e size v n xs) {g : Nat} (hg : v.ownBlock = some g) : g < w.heap.size := by
  rcases h.2 with ⟨rfl, _⟩ | ⟨g', cap, cur, rfl, _, hb, _⟩
  · simp [Value.ownBlock] at hg
  · simp [Value.ownBlock] at hg
    subst hg
    exact (Array.getElem?_eq_some_iff.1 hb).1
/-- Rows of different elements lie in different blocks. -/
theorem own_type {w : World} {base : Nat} {e : TypeId} {size : Nat} {v : Value} {n : Nat} {xs : List Value} (h : w.ownsRow base e size v n xs) {g : Nat} (hg : v.ownBlock = some g)
    {c : Array Value} {e' : TypeId} {fz : Nat × Nat} (hb : w.heap[g]? = some (.cells c e' fz)) : e = e' := by
  rcases h.2 with ⟨rfl, _⟩ | ⟨g', cap, cur, rfl, _, hb', _⟩
  · simp [Value.ownBlock] at hg
  · simp [Value.ownBlock] at hg
    subst hg
    rw [hb] at hb'
    simp at hb'
    exact hb'.2.1.symm
theorem own_block {w : World} {base : Nat} {e : TypeId} {size : Nat} {v : Value} {n : Nat} {xs : List Value} (h : w.ownsRow base e size v n xs) {g : Nat} (hg : v.ownBlock = some g) :
    ∃ c, w.heap[g]? = some (.cells c e (0, 0)) := by
  rcases h.2 with ⟨rfl, _⟩ | ⟨g', cap, cur, rfl, _, hb', _⟩
  · simp [Value.ownBlock] at hg
  · simp [Value.ownBlock] at hg
    subst hg
    exact ⟨cur, hb'⟩
theorem own_apart {w : World} {b1 b2 : Nat} {e1 e2 : TypeId} {s1 s2 : Nat} {v1 v2 : Value} {n1 n2 : Nat} {x1 x2 : List Value} (h1 : w.ownsRow b1 e1 s1 v1 n1 x1) (h2 : w.ownsRow b2 e2 s2 v2 n2 x2) (he : e1 ≠ e2) {g : Nat} (hg : v1.ownBlock = some g) :
    v2.ownBlock ≠ some g := by
  intro hg2
  obtain ⟨c, hc⟩ := own_block h2 hg2
  exact he (own_type h1 hg hc)

section
variable {P : Program} (w : World)

/-- 'append(s, x...)' on a row of the call's own: what it owns behind it; its block is the old one or new. -/
theorem run_append_moved (base : Nat) (t ty e : TypeId) (i : TypeInfo) (z : Value) (size bytes : Nat) (ht : P.underlying t = some (.slice e)) (hi : P.info? e = some i) (hz : i.zero = some z)
    (hsize : i.size = size) (hby : i.bytes = bytes) (hzs : z.cells.size = size) (hsz : 0 < size)
    (v : Value) (n : Nat) (xs : List Value) (hown : w.ownsRow base e size v n xs)
    (a : Addr) (m c : Nat) (news : List Value) (hl : news.length = m * size) (hnews : ∀ j u, news[j]? = some u → w.cell? (a.add j) = some u) (h1 : ∀ u ∈ news, u.oneCell' = true)
    (h63 : n + m ≤ maxLen) (hbytes : (n + m) * bytes ≤ 140737488355328) (hbase : base ≤ w.heap.size) :
    ∃ v' w', (Builtin.append_ #[t, t] ty #[v, .slice (some a) m c]).run P w = .ok v' w' ∧ w'.ownsRow base e size v' (n + m) (xs ++ news) ∧ w.grownBy w' v.ownBlock ∧ Moved w v v' ∧
      (v' = .slice none 0 0 ↔ v = .slice none 0 0 ∧ m = 0) := by
  obtain ⟨v', w', hr, ho, hg, hn⟩ := run_append_own (P := P) w base t ty e i z size bytes ht hi hz hsize hby hzs hsz v n xs hown a m c news hl hnews h1 h63 hbytes hbase
  refine ⟨v', w', hr, ho, hg, ?_, hn⟩
  subst hsize
  subst hby
  have hsmall : n + m ≤ 9223372036854775807 := by simp only [maxLen] at h63; omega
  rcases hown.2 with ⟨rfl, rfl⟩ | ⟨g, cap, cur, rfl, hbg, hgg, hnc, hcm, hcs, htake⟩
  · by_cases hm : m = 0
    · rw [hn.2 ⟨rfl, hm⟩]
      exact .inl rfl
    · have hr2 := run_append_nil (P := P) w t ty e i z ht hi hz a m c news hl hnews (by omega) (by omega) (by have hb := hbytes; simp only [Nat.zero_add] at hb; omega)
      rw [hr] at hr2
      injection hr2 with e1 e2
      exact .inr ⟨w.heap.size, by rw [e1]; rfl, Nat.le_refl _⟩
  · by_cases hroom : n + m ≤ cap
    · have hfit : n * i.size + news.length ≤ cur.size := by rw [hl, hcs, ← Nat.add_mul]; exact Nat.mul_le_mul_right _ hroom
      have hr2 := run_append_room (P := P) w t ty e i ht hi g n cap cur hgg a m c news hl hnews h1 hroom hfit
      rw [hr] at hr2
      injection hr2 with e1 e2
      exact .inl (by rw [e1]; rfl)
    · have holds : ∀ j u, xs[j]? = some u → w.cell? ((⟨g, 0, none⟩ : Addr).add j) = some u := hown.cells (g := g) rfl
      have hr2 := run_append_grow (P := P) w t ty e i z ht hi hz ⟨g, 0, none⟩ n cap xs hown.1 holds a m c news hl hnews (by omega) (by omega) (growslice_fits (by omega) hbytes)
      rw [hr] at hr2
      injection hr2 with e1 e2
      exact .inr ⟨w.heap.size, by rw [e1]; rfl, Nat.le_refl _⟩

/-- 'append(s, make([]T, m)...)': so many zeros behind a row of the call's own. -/
theorem run_append_zeros (base : Nat) (t ti ty e : TypeId) (k : IntKind) (i : TypeInfo) (z : Value) (bytes : Nat) (ht : P.underlying t = some (.slice e)) (hti : P.underlying ti = some (.int k)) (hi : P.info? e = some i) (hz : i.zero = some z)
    (hsize : i.size = 1) (hby : i.bytes = bytes) (hzs : z.cells = #[z]) (hz1 : z.oneCell' = true)
    (v : Value) (n : Nat) (xs : List Value) (hown : w.ownsRow base e 1 v n xs) (m : Nat) (hm : 0 < m)
    (h63 : n + m ≤ maxLen) (hbytes : (n + m) * bytes ≤ 140737488355328) (hbase : base ≤ w.heap.size) :
    ∃ v' w', (Builtin.append_ #[t, ti] ty #[v, .int k m]).run P w = .ok v' w' ∧ w'.ownsRow base e 1 v' (n + m) (xs ++ List.replicate m z) ∧ w.grownBy w' v.ownBlock ∧ Moved w v v' := by
  subst hby
  have hsmall : n + m ≤ 9223372036854775807 := by simp only [maxLen] at h63; omega
  have hwrap : IntKind.i64.wrap (m : Int) = m := by rw [IntKind.wrap_i64]; omega
  have hai : ∀ w, Sem.run P (asInt (.int k (m : Int))) w = .ok (m : Int) w := fun _ => rfl
  have hm0 : ¬ m = 0 := by omega
  have hmb : m * i.bytes ≤ 140737488355328 := Nat.le_trans (Nat.mul_le_mul_right _ (by omega)) hbytes
  have hmb' : ¬ (281474976710656 < (m : Int) * (i.bytes : Int)) := by
    rw [← Int.natCast_mul]
    omega
  have hneg : ¬ ((m : Int) < 0) := by omega
  have hzc : ∀ m, Builtin.zeroCells #[z] m = (List.replicate m z).toArray := by
    intro m
    simp only [Builtin.zeroCells]
    apply Array.ext
    · simp
    · intro j h1 h2
      simp [Nat.mod_one]
  have hlen : (xs ++ List.replicate m z).length = (n + m) * 1 := by rw [List.length_append, hown.1, List.length_replicate, Nat.add_mul, Nat.mul_one, Nat.mul_one]
  rcases hown.2 with ⟨rfl, rfl⟩ | ⟨g, cap, cur, rfl, hbg, hg, hnc, hcm, hcs, htake⟩
  · have hx : xs = [] := List.eq_nil_of_length_eq_zero (by simpa using hown.1)
    subst hx
    have h63' : ¬ (9223372036854775807 < (m : Int)) := by omega
    have h48' : ¬ (281474976710656 < Builtin.nextslicecap m 0 * i.bytes) := by rw [nextslicecap_zero hm]; omega
    refine ⟨.slice (some ⟨w.heap.size, 0, none⟩) m (grownCap w m 0 e), w.drew.alloc (.cells ((List.replicate m z).toArray ++ Builtin.zeroCells #[z] (grownCap w m 0 e - m)) e), ?_, ?_, ?_, .inr ⟨_, rfl, Nat.le_refl _⟩⟩
    · simp [Builtin.append_, run_underlying ht, run_underlying hti, sizeOf, typeInfo, zeroValue, hi, hz, hsize, hzs, hzc, hai, hwrap, hneg, hmb', hm0, h63', h48', Question.forced, run_firstCells_none, newRow, grownCap]
    · refine ⟨by simp, .inr ⟨w.heap.size, _, _, by simp, hbase, heap_alloc_new w.drew _, by simpa using grownCap_ge w m 0 e, grownCap_le_maxLen w m 0 e (by omega), ?_, ?_⟩⟩
      · have := grownCap_ge w m 0 e
        simp [hzc]
        omega
      · simp [hzc]
    · exact ⟨rfl, rfl, rfl, by simp, fun k hk _ => Below.heap_alloc w.drew _ k hk⟩
  · by_cases hroom : n + m ≤ cap
    · have hfit : n * 1 + (List.replicate m z).length ≤ cur.size := by simp; omega
      have hst := run_storeCells_at P g (n * 1) e (List.replicate m z) 0 cur w hg (by simpa using hfit) (fun u hu => by rw [List.eq_of_mem_replicate hu]; exact hz1)
      simp only [Nat.add_zero] at hst
      refine ⟨.slice (some ⟨g, 0, none⟩) (n + m) cap, _, ?_, ⟨hlen, .inr ⟨g, cap, _, rfl, hbg, setRow_heap w g cur ((cur.toList.take (n * 1) ++ List.replicate m z ++ cur.toList.drop (n * 1 + (List.replicate m z).length)).toArray) e _ hg, hroom, hcm, ?_, ?_⟩⟩, ⟨rfl, rfl, rfl, by simp, fun k _ hk => setRow_other w g k _ (fun e => hk (by simp [Value.ownBlock, e]))⟩, .inl rfl⟩
      · simp [Builtin.append_, run_underlying ht, run_underlying hti, sizeOf, typeInfo, zeroValue, hi, hz, hsize, hzs, hzc, hai, hwrap, hneg, hmb', hm0, hroom, Addr.add_lit] at hst ⊢
        simp [hst]
      · simp only [List.size_toArray, List.length_append, List.length_take, List.length_drop, Array.length_toList]
        omega
      · rw [htake, ← hlen]
        exact List.take_left
    · have holds : ∀ j u, xs[j]? = some u → w.cell? ((⟨g, 0, none⟩ : Addr).add j) = some u := hown.cells (g := g) rfl
      have h63' : ¬ (9223372036854775807 < ((n : Int) + (m : Int))) := by omega
      have h48' : ¬ (281474976710656 < Builtin.nextslicecap (n + m) cap * i.bytes) := by have := growslice_fits (old := cap) (by omega) hbytes; omega
      have hf := run_firstCells_some (P := P) w.drew 1 n ⟨g, 0, none⟩ n cap xs hown.1 (by simpa using holds)
      refine ⟨.slice (some ⟨w.heap.size, 0, none⟩) (n + m) (grownCap w (n + m) cap e), w.drew.alloc (.cells (xs.toArray ++ (List.replicate m z).toArray ++ Builtin.zeroCells #[z] (grownCap w (n + m) cap e - (n + m))) e), ?_, ?_, ?_, .inr ⟨_, rfl, Nat.le_refl _⟩⟩
      · simp [Builtin.append_, run_underlying ht, run_underlying hti, sizeOf, typeInfo, zeroValue, hi, hz, hsize, hzs, hzc, hai, hwrap, hneg, hmb', hm0, hroom, h63', h48', Question.forced, hf, newRow, grownCap]
      · have hge := grownCap_ge w (n + m) cap e
        refine ⟨hlen, .inr ⟨w.heap.size, _, _, rfl, hbase, heap_alloc_new w.drew _, hge, grownCap_le_maxLen w (n + m) cap e h63, ?_, ?_⟩⟩
        · have := hown.1
          simp [hzc]
          omega
        · simp only [Array.toList_append, List.append_assoc]
          rw [← List.append_assoc, ← hlen]
          exact List.take_left
      · exact ⟨rfl, rfl, rfl, by simp, fun k hk _ => Below.heap_alloc w.drew _ k hk⟩

variable {w}
/-- One step by its run's equation. -/
theorem wpList_append_run {ops : Array Oper} {rest : List Oper} {o : Oper} {a : Act} {Q : Exit → Act → World → Prop} (hgd : o.guard = none) (s x : Operand) (t t' : TypeId)
    (ho : o.op = .call { callee := .builtin .append, args := #[s, x], argTypes := #[t, t'] }) {v u v' : Value} {w' : World} (hs : a.eval s = v) (hx : a.eval x = u)
    (hr : (Builtin.append_ #[t, t'] o.type #[v, u]).run P w = .ok v' w') (h : wpList P ops Q rest (a.put o.dst v') w') : wpList P ops Q (o :: rest) a w :=
  wpList_plain hgd fun _ hK => by
    unfold Oper.wp execOp
    simp only [ho, resolve, invoke, builtin, Sem.run_bind, Sem.run_pure, Result.andThen_ok, List.map_toArray, List.map_cons, List.map_nil, hs, hx, hr]
    exact hK _ _ h

theorem step_append_run {ops : Array Oper} {o : Oper} {a : Act} {K : Act → World → Prop} {Q : Exit → Act → World → Prop} {E : Prop}
    (hg : o.guard = none) (s x : Operand) (t t' : TypeId) (hop : o.op = Op.call { callee := Callee.builtin Builtin.append, args := #[s, x], argTypes := #[t, t'] })
    {v u v' : Value} {w' : World} (hs : a.eval s = v) (hx : a.eval x = u)
    (hr : (Builtin.append_ #[t, t'] o.type #[v, u]).run P w = .ok v' w') (hK : K (a.put o.dst v') w') :
    if Region.wanted o (yielded ops a.tmps) = true then Oper.wp P o a w K Q else E := by
  have hw : Region.wanted o (yielded ops a.tmps) = true := by simp [Region.wanted, hg]
  rw [if_pos hw]
  unfold Oper.wp
  simp [execOp, hop, resolve, invoke, builtin, hs, hx, hr, Result.andThen]
  exact hK

/-- 'make([]T, n)': a new block. -/
theorem run_make_block (t e : TypeId) (i : TypeInfo) (z : Value) (size bytes : Nat) (ht : P.underlying t = some (.slice e)) (hi : P.info? e = some i) (hz : i.zero = some z) (hs : i.size = size) (hb : i.bytes = bytes) (n : Nat)
    (hbytes : bytes * n ≤ 281474976710656) (h63 : n ≤ 9223372036854775807) :
    ∃ M : Array Value, M = madeCells z.cells (n * size) ∧ M.size = n * size ∧ (Instr.makeSlice t (.int .i64 n) (.int .i64 n)).run P w = .ok (.slice (some ⟨w.heap.size, 0, none⟩) n n) (w.alloc (.cells M e)) := by
  subst hs hb
  refine ⟨madeCells z.cells (n * i.size), rfl, size_madeCells _ _, ?_⟩
  have h := run_make (P := P) w t e i z ht hi hz .i64 .i64 n n (by omega) (by omega) (by rw [← Int.natCast_mul]; omega) (by omega)
  simpa using h

theorem wpList_make_run {ops : Array Oper} {rest : List Oper} {o : Oper} {a : Act} {Q : Exit → Act → World → Prop} (hgd : o.guard = none) (l c : Operand) (t : TypeId)
    (ho : o.op = Op.makeSlice t l c) {vl vc v' : Value} {w' : World} (hl : a.eval l = vl) (hc : a.eval c = vc)
    (hr : (Instr.makeSlice t vl vc).run P w = .ok v' w') (h : wpList P ops Q rest (a.put o.dst v') w') : wpList P ops Q (o :: rest) a w :=
  wpList_plain hgd fun _ hK => by
    unfold Oper.wp
    simp [execOp, ho, hl, hc, hr, Result.andThen]
    exact hK _ _ h

theorem wpList_copy_run {ops : Array Oper} {rest : List Oper} {o : Oper} {a : Act} {Q : Exit → Act → World → Prop} (hgd : o.guard = none) (s x : Operand) (t t' : TypeId)
    (ho : o.op = .call { callee := .builtin .copy, args := #[s, x], argTypes := #[t, t'] }) {v u v' : Value} {w' : World} (hs : a.eval s = v) (hx : a.eval x = u)
    (hr : (Builtin.copy_ #[t, t'] o.type #[v, u]).run P w = .ok v' w') (h : wpList P ops Q rest (a.put o.dst v') w') : wpList P ops Q (o :: rest) a w :=
  wpList_plain hgd fun _ hK => by
    unfold Oper.wp execOp
    simp only [ho, resolve, invoke, builtin, Sem.run_bind, Sem.run_pure, Result.andThen_ok, List.map_toArray, List.map_cons, List.map_nil, hs, hx, hr]
    exact hK _ _ h

/-- 'copy(d, s)': a whole row, of elements of whatever width, over a new block that is as long. -/
theorem run_copy_all (dT sT ty e : TypeId) (size : Nat) (hu : P.underlying dT = some (.slice e)) (hsz : (P.info? e).map (·.size) = some size) (g n c : Nat) (cur : Array Value) (t : TypeId)
    (hg : w.heap[g]? = some (.cells cur t (0, 0))) (hcs : cur.size = n * size) (v : Value) (xs : List Value) (hown : w.ownsRow 0 e size v n xs) (h1 : ∀ v ∈ xs, v.oneCell' = true) :
    ∃ w', (Builtin.copy_ #[dT, sT] ty #[.slice (some ⟨g, 0, none⟩) n c, v]).run P w = .ok (goInt n) w' ∧ w'.heap[g]? = some (.cells xs.toArray t (0, 0)) ∧ w.grownBy w' (some g) := by
  cases hq : P.info? e with
  | none => simp [hq] at hsz
  | some i =>
    have hi : i.size = size := by simpa [hq] using hsz
    rcases hown.2 with ⟨rfl, rfl⟩ | ⟨g', cap, cur', rfl, _, hg', hn, _, hcs', ht⟩
    · obtain rfl : xs = [] := List.eq_nil_of_length_eq_zero (by simpa using hown.1)
      obtain rfl : cur = #[] := Array.eq_empty_of_size_eq_zero (by simpa using hcs)
      refine ⟨w, ?_, hg, ⟨rfl, rfl, rfl, Nat.le_refl _, fun _ _ _ => rfl⟩⟩
      simp [Builtin.copy_, run_underlying hu, Builtin.lenOf, Builtin.firstCells, sizeOf, typeInfo, hq, storeCells]
    · have hf := run_firstCells_some (P := P) w size n ⟨g', 0, none⟩ n cap xs hown.1 (hown.cells (g := g') rfl)
      have hst := run_storeCells_at P g 0 t xs 0 cur w hg (by rw [hown.1, hcs]; omega) h1
      refine ⟨w.setRow g xs.toArray, ?_, setRow_heap w g cur _ t _ hg, ⟨rfl, rfl, rfl, by simp, fun k _ hk => setRow_other w g k _ (fun e => hk (by rw [e]))⟩⟩
      have he : cur.toList.take (0 + 0) ++ xs ++ cur.toList.drop (0 + 0 + xs.length) = xs := by
        rw [show cur.toList.drop (0 + 0 + xs.length) = [] from List.drop_eq_nil_of_le (by rw [hown.1, Array.length_toList, hcs]; omega)]
        simp
      rw [he] at hst
      simp [Builtin.copy_, run_underlying hu, Builtin.lenOf, sizeOf, typeInfo, hq, hi, hf, hst]
end
end Go.HeapKit
/-! Programs as data, plainly: what package prog answers, told by lists. -/
namespace Go.Proofs.YtoehkjfdaolcnaaDoor
set_option linter.unusedVariables false
set_option maxRecDepth 20000

structure Ins where
  kind : Int
  a : Int
  b : Int
  c : Int
  k : Int
structure Fn where
  params : Int
  regs : Int
  slots : Int
  code : List Ins

/-- The table by kind. -/
def fA (n : Nat) : Int := [1, 1, 1, 3, 1, 2, 0, 1, 1, 1].getD n 0
def fB (n : Nat) : Int := [0, 1, 1, 0, 3, 4, 0, 2, 0, 0].getD n 0
def fC (n : Nat) : Int := [0, 0, 1, 0, 0, 5, 0, 0, 0, 0].getD n 0
def fK (n : Nat) : Int := [0, 0, 6, 0, 0, 0, 0, 0, 0, 0].getD n 0
def fN (n : Nat) : Bool := [true, true, true, false, true, true, true, true, true, false].getD n false

def belowV (x n : Int) : Bool := decide (0 ≤ x) && decide (x < n)
theorem belowV_iff (x n : Int) : belowV x n = true ↔ 0 ≤ x ∧ x < n := by simp [belowV]
def holdsV (f : Fn) (first n : Int) : Bool := decide (n = 0) || (decide (0 ≤ first) && decide (n ≤ f.regs - first))
def parV (fs : List Fn) (b : Int) : Int := ((fs[b.toNat]?).map Fn.params).getD 0
def allowsV (al : Bool) (fs : List Fn) (f : Fn) (what x : Int) (i : Ins) : Bool :=
  if what = 1 then belowV x f.regs else if what = 2 then belowV x f.slots else if what = 3 then belowV x f.code.length
  else if what = 4 then al || belowV x fs.length else if what = 5 then al || holdsV f x (parV fs i.b) else true
def fitsV (al : Bool) (fs : List Fn) (f : Fn) (i : Ins) : Bool :=
  belowV i.kind 10 && (!(decide (fK i.kind.toNat = 6) && (decide (i.k < 0) || decide (16 ≤ i.k)))) &&
    (allowsV al fs f (fA i.kind.toNat) i.a i && allowsV al fs f (fB i.kind.toNat) i.b i && allowsV al fs f (fC i.kind.toNat) i.c i)
def shapeV (f : Fn) : Bool :=
  decide (0 ≤ f.params) && decide (f.params ≤ 8) && decide (1 ≤ f.regs) && decide (f.params ≤ f.regs) && decide (f.regs ≤ 16) && decide (0 ≤ f.slots) && decide (f.slots ≤ 8) && decide (1 ≤ f.code.length) && decide (f.code.length ≤ 512)

/-- The first of a list that has an answer. -/
def firstAt {α β : Type} (g : Nat → α → Option β) : List α → Nat → Option (Nat × β)
  | [], _ => none
  | x :: l, n => match g n x with
    | some b => some (n, b)
    | none => firstAt g l (n + 1)
theorem firstAt_some {α β : Type} (g : Nat → α → Option β) (l : List α) (n k : Nat) (x : α) (b : β) (hk : l[k]? = some x) (h0 : ∀ j y, j < k → l[j]? = some y → g (n + j) y = none) (hb : g (n + k) x = some b) : firstAt g l n = some (n + k, b) := by
  induction l generalizing n k with
  | nil => simp at hk
  | cons y l ih =>
    cases k with
    | zero => simp at hk; subst hk; simp only [firstAt]; rw [Nat.add_zero] at hb; rw [hb]; rfl
    | succ k =>
      have h1 := h0 0 y (by omega) rfl
      rw [Nat.add_zero] at h1
      simp only [firstAt]
      rw [h1]
      have := ih (n + 1) k (by simpa using hk) (fun j z hj hz => by have := h0 (j + 1) z (by omega) (by simpa using hz); rwa [show n + (j + 1) = n + 1 + j by omega] at this) (by rwa [show n + (k + 1) = n + 1 + k by omega] at hb)
      simp only [this]
      congr 2
      omega
theorem firstAt_none {α β : Type} (g : Nat → α → Option β) (l : List α) (n : Nat) (h0 : ∀ j y, l[j]? = some y → g (n + j) y = none) : firstAt g l n = none := by
  induction l generalizing n with
  | nil => rfl
  | cons y l ih =>
    have h1 := h0 0 y rfl
    rw [Nat.add_zero] at h1
    simp only [firstAt]
    rw [h1]
    exact ih (n + 1) (fun j z hz => by have := h0 (j + 1) z (by simpa using hz); rwa [show n + (j + 1) = n + 1 + j by omega] at this)
theorem firstAt_was {α β : Type} (g : Nat → α → Option β) (l : List α) (n : Nat) (r : Nat × β) (h : firstAt g l n = some r) : ∃ k x, l[k]? = some x ∧ r.1 = n + k ∧ g (n + k) x = some r.2 ∧ ∀ j y, j < k → l[j]? = some y → g (n + j) y = none := by
  induction l generalizing n with
  | nil => cases h
  | cons y l ih =>
    simp only [firstAt] at h
    cases hg : g n y with
    | some b =>
      rw [hg] at h
      obtain rfl := Option.some.inj h
      exact ⟨0, y, rfl, rfl, hg, fun j _ hj => by omega⟩
    | none =>
      rw [hg] at h
      obtain ⟨k, x, h1, h2, h3, h4⟩ := ih (n + 1) h
      refine ⟨k + 1, x, by simpa using h1, by omega, by rwa [show n + (k + 1) = n + 1 + k by omega], ?_⟩
      intro j z hj hz
      cases j with
      | zero => simp at hz; subst hz; exact hg
      | succ j => have := h4 j z (by omega) (by simpa using hz); rwa [show n + (j + 1) = n + 1 + j by omega]
theorem firstAt_all {α β : Type} (g : Nat → α → Option β) (l : List α) (n : Nat) (h : firstAt g l n = none) : ∀ j y, l[j]? = some y → g (n + j) y = none := by
  induction l generalizing n with
  | nil => intro j y hy; simp at hy
  | cons y l ih =>
    simp only [firstAt] at h
    cases hg : g n y with
    | some b => rw [hg] at h; cases h
    | none =>
      rw [hg] at h
      intro j z hz
      cases j with
      | zero => simp at hz; subst hz; exact hg
      | succ j => have := ih (n + 1) h j z (by simpa using hz); rwa [show n + (j + 1) = n + 1 + j by omega]

/-- The last instruction goes on at the next place. -/
def runsOut (f : Fn) : Bool := match f.code[f.code.length - 1]? with
  | some i => fN i.kind.toNat
  | none => false
/-- What is wrong with the code of a function: the error, the place. -/
def codeFault (al : Bool) (fs : List Fn) (f : Fn) : Option (Int × Int) :=
  match firstAt (fun _ i => if fitsV al fs f i then none else some ()) f.code 0 with
  | some r => some (52, r.1)
  | none => if runsOut f then some (53, (f.code.length : Int) - 1) else none
def Sound (f : Fn) : Prop := shapeV f = true ∧ ∀ fs, codeFault true fs f = none

/-! ### The search -/
abbrev Pt := Int × Int
def afterV (i : Ins) (slot st : Int) : Int := if i.kind = 5 ∧ i.a = slot then 2 else if i.kind = 6 ∧ st = 2 then 4 else st
def exitsV (at_ : Int) (i : Ins) : List Int :=
  (if fN i.kind.toNat then [at_ + 1] else []) ++ (if fA i.kind.toNat = 3 then [i.a] else []) ++ (if fB i.kind.toNat = 3 then [i.b] else [])
def ptIx (p : Pt) : Nat := p.1.toNat * 5 + p.2.toNat
def metV (fr : List Pt) (p : Pt) : Bool := decide ((fr.getD (ptIx p) (0, 0)).2 ≠ 0)
def visit (goal here : Pt) (st : Int) : List Int → List Pt → List Pt → List Pt × List Pt × Bool
  | [], fr, op => (fr, op, false)
  | a :: r, fr, op =>
    if metV fr (a, st) then visit goal here st r fr op
    else if (a, st) = goal then (fr.set (ptIx (a, st)) here, op, true)
    else visit goal here st r (fr.set (ptIx (a, st)) here) (op ++ [(a, st)])
def runS (f : Fn) (slot : Int) (goal : Pt) : Nat → List Pt → List Pt → List Pt
  | 0, fr, _ => fr
  | _ + 1, fr, [] => fr
  | k + 1, fr, h :: t => match f.code[h.1.toNat]? with
    | none => fr
    | some i => match visit goal h (afterV i slot h.2) (exitsV h.1 i) fr t with
      | (fr', _, true) => fr'
      | (fr', op', false) => runS f slot goal k fr' op'
def fr0 (n : Nat) : List Pt := (List.replicate (n * 5) (0, 0)).set 1 (0, 1)
def searchV (f : Fn) (slot : Int) (goal : Pt) : List Pt := runS f slot goal (f.code.length * 10 + 2) (fr0 f.code.length) [(0, 1)]
/-- How many points are not met yet. -/
def blanks (fr : List Pt) : Nat := fr.countP (fun p => p.2 == 0)
theorem blanks_le (fr : List Pt) : blanks fr ≤ fr.length := List.countP_le_length ..
theorem blanks_set {fr : List Pt} {k : Nat} {h : Pt} (hk : k < fr.length) (h0 : (fr.getD k (0, 0)).2 = 0) (hh : h.2 ≠ 0) : blanks (fr.set k h) + 1 = blanks fr := by
  unfold blanks
  induction fr generalizing k with
  | nil => simp at hk
  | cons p fr ih =>
    cases k with
    | zero =>
      simp at h0
      simp [h0, hh]
    | succ k =>
      have := ih (k := k) (by simpa using hk) (by simpa using h0)
      simp only [List.set_cons_succ, List.countP_cons]
      omega

/-! ### The states of the slots -/
def sumAt (fr : List Pt) (at_ : Nat) : Int := (List.range 5).foldl (fun s k => if (fr.getD (at_ * 5 + k) (0, 0)).2 ≠ 0 then s + k else s) 0
def rowV (f : Fn) (at_ : Nat) : List Int := (List.range f.slots.toNat).map (fun s : Nat => sumAt (searchV f (s : Int) (0, 0)) at_)
def flowV (f : Fn) : List (List Int) := (List.range f.code.length).map (rowV f)
def has2 (x : Int) : Bool := x == 2 || x == 3 || x == 6 || x == 7
def hasLess (x : Int) : Bool := !(x == 0 || x == 4)
def misuseV (i : Ins) (row : List Int) : Int :=
  if i.kind = 5 then (if has2 (row.getD i.a.toNat 0) then 54 else 0)
  else if i.kind = 7 then (if hasLess (row.getD i.b.toNat 0) then 55 else 0)
  else if i.kind = 9 then (if row.any has2 then 56 else 0) else 0
def slotFault (f : Fn) : Option (Int × Int) :=
  (firstAt (fun n i => if misuseV i (rowV f n) = 0 then none else some (misuseV i (rowV f n))) f.code 0).map (fun r => (r.2, (r.1 : Int)))

/-- What Check answers: the error, the function, the place. -/
def checkV (fs : List Fn) : Int × Int × Int :=
  if fs.length < 1 ∨ 32 < fs.length then (50, 0, 0)
  else match firstAt (fun _ f => if shapeV f then none else some ()) fs 0 with
    | some r => (51, r.1, 0)
    | none => match firstAt (fun _ f => codeFault false fs f) fs 0 with
      | some r => (r.2.1, r.1, r.2.2)
      | none => match firstAt (fun _ f => slotFault f) fs 0 with
        | some r => (r.2.1, r.1, r.2.2)
        | none => (0, 0, 0)
end Go.Proofs.YtoehkjfdaolcnaaDoor
/-! Programs in memory: instructions and functions that can be read; the two tables. -/
namespace Go.Proofs.YtoehkjfdaolcnaaDoor
set_option linter.unusedVariables false
set_option maxRecDepth 20000
open Go.RowKit Go.HeapKit

def insCells (i : Ins) : List Value := [.int .i64 i.kind, .int .i64 i.a, .int .i64 i.b, .int .i64 i.c, .int .i64 i.k]
def insV (i : Ins) : Value := .agg #[.int .i64 i.kind, .int .i64 i.a, .int .i64 i.b, .int .i64 i.c, .int .i64 i.k]
/-- An instruction lies there. -/
structure InsAt (w : World) (g o : Nat) (i : Ins) : Prop where
  kind : w.cell? ⟨g, o, none⟩ = some (.int .i64 i.kind)
  a : w.cell? ⟨g, o + 1, none⟩ = some (.int .i64 i.a)
  b : w.cell? ⟨g, o + 2, none⟩ = some (.int .i64 i.b)
  c : w.cell? ⟨g, o + 3, none⟩ = some (.int .i64 i.c)
  k : w.cell? ⟨g, o + 4, none⟩ = some (.int .i64 i.k)
structure SeenI (w : World) (a : Option Addr) (n : Nat) (l : List Ins) : Prop where
  len : n = l.length
  ex : 0 < n → ∃ b off, a = some ⟨b, off, none⟩ ∧ b < w.heap.size ∧ ∀ k i, l[k]? = some i → InsAt w b (off + k * 5) i
def fnV (f : Fn) (ca : Option Addr) (cc : Nat) : Value := .agg #[.int .i64 f.params, .int .i64 f.regs, .int .i64 f.slots, .slice ca f.code.length cc]
structure FnAt (w : World) (b o : Nat) (f : Fn) (ca : Option Addr) (cc : Nat) : Prop where
  params : w.cell? ⟨b, o, none⟩ = some (.int .i64 f.params)
  regs : w.cell? ⟨b, o + 1, none⟩ = some (.int .i64 f.regs)
  slots : w.cell? ⟨b, o + 2, none⟩ = some (.int .i64 f.slots)
  code : w.cell? ⟨b, o + 3, none⟩ = some (.slice ca f.code.length cc)
  seen : SeenI w ca f.code.length f.code
structure SeenF (w : World) (a : Option Addr) (n : Nat) (l : List Fn) : Prop where
  len : n = l.length
  ex : 0 < n → ∃ b off, a = some ⟨b, off, none⟩ ∧ b < w.heap.size ∧ ∀ k f, l[k]? = some f → ∃ ca cc, FnAt w b (off + k * 4) f ca cc
theorem InsAt.kept {w w' : World} {b o : Nat} {i : Ins} {S : Nat → Prop} (h : InsAt w b o i) (hk : Keeps S w w') (hS : ¬ S b) : InsAt w' b o i :=
  ⟨hk.cell h.kind hS, hk.cell h.a hS, hk.cell h.b hS, hk.cell h.c hS, hk.cell h.k hS⟩
theorem SeenI.more {w w' : World} {a : Option Addr} {n : Nat} {l : List Ins} (h : SeenI w a n l) (hk : Keeps None w w') : SeenI w' a n l := by
  refine ⟨h.len, fun h0 => ?_⟩
  obtain ⟨b, off, rfl, hb, hc⟩ := h.ex h0
  exact ⟨b, off, rfl, Nat.lt_of_lt_of_le hb hk.size, fun k i hi => (hc k i hi).kept hk (fun f => f)⟩
theorem FnAt.more {w w' : World} {b o : Nat} {f : Fn} {ca : Option Addr} {cc : Nat} (h : FnAt w b o f ca cc) (hk : Keeps None w w') : FnAt w' b o f ca cc :=
  ⟨hk.cell h.params (fun f => f), hk.cell h.regs (fun f => f), hk.cell h.slots (fun f => f), hk.cell h.code (fun f => f), h.seen.more hk⟩
theorem SeenF.more {w w' : World} {a : Option Addr} {n : Nat} {l : List Fn} (h : SeenF w a n l) (hk : Keeps None w w') : SeenF w' a n l := by
  refine ⟨h.len, fun h0 => ?_⟩
  obtain ⟨b, off, rfl, hb, hc⟩ := h.ex h0
  refine ⟨b, off, rfl, Nat.lt_of_lt_of_le hb hk.size, fun k f hf => ?_⟩
  obtain ⟨ca, cc, h1⟩ := hc k f hf
  exact ⟨ca, cc, h1.more hk⟩
theorem SeenI.at {w : World} {a : Option Addr} {n : Nat} {l : List Ins} (h : SeenI w a n l) {k : Nat} (hk : k < n) : ∃ b off i, a = some ⟨b, off, none⟩ ∧ l[k]? = some i ∧ InsAt w b (off + k * 5) i := by
  obtain ⟨b, off, rfl, hb, hc⟩ := h.ex (by omega)
  have hl := h.len
  exact ⟨b, off, l[k]'(by omega), rfl, by simp, hc k _ (by simp)⟩
theorem SeenF.at {w : World} {a : Option Addr} {n : Nat} {l : List Fn} (h : SeenF w a n l) {k : Nat} (hk : k < n) : ∃ b off f ca cc, a = some ⟨b, off, none⟩ ∧ l[k]? = some f ∧ FnAt w b (off + k * 4) f ca cc := by
  obtain ⟨b, off, rfl, hb, hc⟩ := h.ex (by omega)
  have hl := h.len
  obtain ⟨ca, cc, h1⟩ := hc k (l[k]'(by omega)) (by simp)
  exact ⟨b, off, l[k]'(by omega), ca, cc, rfl, by simp, h1⟩

/-- The table of the kinds, and the first point, lie where the program laid them. -/
def formCells : Array Value := #[.int .i64 1, .int .i64 0, .int .i64 0, .int .i64 0, .bool true, .int .i64 1, .int .i64 1, .int .i64 0, .int .i64 0, .bool true, .int .i64 1, .int .i64 1, .int .i64 1, .int .i64 6, .bool true,
  .int .i64 3, .int .i64 0, .int .i64 0, .int .i64 0, .bool false, .int .i64 1, .int .i64 3, .int .i64 0, .int .i64 0, .bool true, .int .i64 2, .int .i64 4, .int .i64 5, .int .i64 0, .bool true,
  .int .i64 0, .int .i64 0, .int .i64 0, .int .i64 0, .bool true, .int .i64 1, .int .i64 2, .int .i64 0, .int .i64 0, .bool true, .int .i64 1, .int .i64 0, .int .i64 0, .int .i64 0, .bool true,
  .int .i64 1, .int .i64 0, .int .i64 0, .int .i64 0, .bool false]
theorem Tryd.gForms : Tryd.prog.globalNamed "plunder/prog.forms" = some 0 := by kernel_rfl
theorem Tryd.gStart : Tryd.prog.globalNamed "plunder/prog.start" = some 1 := by kernel_rfl
structure Tabs (w : World) : Prop where
  forms : ∃ t fr, w.heap[0]? = some (.cells formCells t fr)
  start : ∃ t fr, w.heap[1]? = some (.cells #[.int .i64 0, .int .i64 1] t fr)
theorem Tabs.more {w w' : World} (h : Tabs w) (hk : Keeps None w w') : Tabs w' := by
  obtain ⟨t, fr, h1⟩ := h.forms
  obtain ⟨t2, fr2, h2⟩ := h.start
  exact ⟨⟨t, fr, (hk.block 0 (Array.getElem?_eq_some_iff.1 h1).1 (fun f => f)).trans h1⟩, ⟨t2, fr2, (hk.block 1 (Array.getElem?_eq_some_iff.1 h2).1 (fun f => f)).trans h2⟩⟩
theorem cell_of_heap {w : World} {g : Nat} {cs : Array Value} {t : TypeId} {fr : Nat × Nat} (h : w.heap[g]? = some (.cells cs t fr)) (j : Nat) : w.cell? ⟨g, j, none⟩ = cs[j]? := by
  simp [World.cell?, h]
theorem Tabs.at {w : World} (h : Tabs w) (n : Nat) (hn : n < 10) : w.cell? ⟨0, n * 5, none⟩ = some (.int .i64 (fA n)) ∧ w.cell? ⟨0, n * 5 + 1, none⟩ = some (.int .i64 (fB n)) ∧ w.cell? ⟨0, n * 5 + 2, none⟩ = some (.int .i64 (fC n)) ∧
    w.cell? ⟨0, n * 5 + 3, none⟩ = some (.int .i64 (fK n)) ∧ w.cell? ⟨0, n * 5 + 4, none⟩ = some (.bool (fN n)) := by
  obtain ⟨t, fr, h1⟩ := h.forms
  rw [cell_of_heap h1, cell_of_heap h1, cell_of_heap h1, cell_of_heap h1, cell_of_heap h1]
  have hd : ∀ n, n < 10 → formCells[n * 5]? = some (.int .i64 (fA n)) ∧ formCells[n * 5 + 1]? = some (.int .i64 (fB n)) ∧ formCells[n * 5 + 2]? = some (.int .i64 (fC n)) ∧ formCells[n * 5 + 3]? = some (.int .i64 (fK n)) ∧ formCells[n * 5 + 4]? = some (.bool (fN n)) := by
    intro n hn
    match n, hn with
    | 0, _ => exact ⟨rfl, rfl, rfl, rfl, rfl⟩
    | 1, _ => exact ⟨rfl, rfl, rfl, rfl, rfl⟩
    | 2, _ => exact ⟨rfl, rfl, rfl, rfl, rfl⟩
    | 3, _ => exact ⟨rfl, rfl, rfl, rfl, rfl⟩
    | 4, _ => exact ⟨rfl, rfl, rfl, rfl, rfl⟩
    | 5, _ => exact ⟨rfl, rfl, rfl, rfl, rfl⟩
    | 6, _ => exact ⟨rfl, rfl, rfl, rfl, rfl⟩
    | 7, _ => exact ⟨rfl, rfl, rfl, rfl, rfl⟩
    | 8, _ => exact ⟨rfl, rfl, rfl, rfl, rfl⟩
    | 9, _ => exact ⟨rfl, rfl, rfl, rfl, rfl⟩
    | n + 10, h => omega
  exact hd n hn
theorem Tabs.start0 {w : World} (h : Tabs w) : w.cell? ⟨1, 0, none⟩ = some (.int .i64 0) ∧ w.cell? ⟨1, 1, none⟩ = some (.int .i64 1) := by
  obtain ⟨t, fr, h1⟩ := h.start
  rw [cell_of_heap h1, cell_of_heap h1]
  exact ⟨rfl, rfl⟩

/-- What is thrown. -/
def faultV (e n a : Int) : Value := .agg #[.int .i64 e, .int .i64 n, .int .i64 a]
def thrown (e n a : Int) : List PanicEntry := [{ v := .iface 28 (faultV e n a), recovered := false }]

/-- All fields are numbers of 64 bits. -/
def okI (x : Int) : Prop := -9223372036854775808 ≤ x ∧ x ≤ 9223372036854775807
structure Ins.Ok (i : Ins) : Prop where
  kind : okI i.kind
  a : okI i.a
  b : okI i.b
  c : okI i.c
  k : okI i.k
structure Fn.Ok (f : Fn) : Prop where
  params : okI f.params
  regs : okI f.regs
  slots : okI f.slots
  code : ∀ i ∈ f.code, i.Ok
end Go.Proofs.YtoehkjfdaolcnaaDoor
/-! From the row's condition on the two variables to the tables. -/
namespace Go.Proofs.YtoehkjfdaolcnaaDoor
set_option linter.unusedVariables false
set_option maxRecDepth 20000
open Go.ChangeShapes Go.WideShapes Go.ChangeAt Go.RowKit

abbrev laidL : List (String × DataW Unit) := [("plunder/prog.forms", Rows.laid_plunder_prog_forms), ("plunder/prog.start", Rows.laid_plunder_prog_start)]
theorem tForms : (Tryd.prog.globals[0]?).map (·.type) = some 98 := by kernel_rfl
theorem tStart : (Tryd.prog.globals[1]?).map (·.type) = some 106 := by kernel_rfl
theorem cForms : Tryd.prog.cellsOf 98 = 50 := by kernel_rfl
theorem cForm : Tryd.prog.cellsOf 97 = 5 := by kernel_rfl
theorem cPt : Tryd.prog.cellsOf 106 = 2 := by kernel_rfl
theorem cI : Tryd.prog.cellsOf 3 = 1 := by kernel_rfl
theorem cB : Tryd.prog.cellsOf 4 = 1 := by kernel_rfl
theorem door_met (os : Os) (args : Array Value) : laidMetH Tryd.prog laidL ((World.doorLaid Tryd.prog 400 os).forCall (fun _ _ => 0) ⟨#[], args, []⟩).memory :=
  laidMetH_of_parts3 (fuel := 8) (laidMet_of_run' 8 (by kernel_rfl) (by kernel_rfl)) (by kernel_rfl) (by kernel_rfl)
section
variable {H : Type} {enc : TypeId × Value → H} {w : World} {base : Nat} {spare : TypeId → Bool} {held : Bool}
theorem int_lit {fuel : Nat} {cs : List Value} {x : DataW H × List MemPlace} {n : Int} (h : DataW.trod enc Tryd.prog w base spare held fuel 3 cs = some x) (hx : x.1 = .lit (.int .i64 n)) : cs = [.int .i64 n] := by
  obtain ⟨k, rfl, rfl, _⟩ := DataW.trod_int Tryd.underlying3 h
  simp at hx
  rw [hx]
theorem bool_lit {fuel : Nat} {cs : List Value} {x : DataW H × List MemPlace} {b : Bool} (h : DataW.trod enc Tryd.prog w base spare held fuel 4 cs = some x) (hx : x.1 = .lit (.bool b)) : cs = [.bool b] := by
  obtain ⟨k, rfl, rfl⟩ := DataW.trod_bool Tryd.underlying4 h
  simp at hx
  rw [hx]
theorem form_lit {fuel : Nat} {cs : List Value} {x : DataW H × List MemPlace} {a b c k : Int} {nx : Bool} (h : DataW.trod enc Tryd.prog w base spare held fuel 97 cs = some x) (hx : x.1 = .agg [.lit (.int .i64 a), .lit (.int .i64 b), .lit (.int .i64 c), .lit (.int .i64 k), .lit (.bool nx)]) :
    cs = [.int .i64 a, .int .i64 b, .int .i64 c, .int .i64 k, .bool nx] := by
  obtain ⟨xs, n, _, rfl, hl, hxl, hf⟩ := DataW.trod_struct Tryd.underlying97 h
  have q0 : DataW.trod enc Tryd.prog w base spare held n 3 (List.take (Tryd.prog.cellsOf 3) (List.drop 0 cs)) = xs[0]? := hf 0 _ rfl
  have q1 : DataW.trod enc Tryd.prog w base spare held n 3 (List.take (Tryd.prog.cellsOf 3) (List.drop 1 cs)) = xs[1]? := hf 1 _ rfl
  have q2 : DataW.trod enc Tryd.prog w base spare held n 3 (List.take (Tryd.prog.cellsOf 3) (List.drop 2 cs)) = xs[2]? := hf 2 _ rfl
  have q3 : DataW.trod enc Tryd.prog w base spare held n 3 (List.take (Tryd.prog.cellsOf 3) (List.drop 3 cs)) = xs[3]? := hf 3 _ rfl
  have q4 : DataW.trod enc Tryd.prog w base spare held n 4 (List.take (Tryd.prog.cellsOf 4) (List.drop 4 cs)) = xs[4]? := hf 4 _ rfl
  have hx5 : xs.length = 5 := hxl
  rw [cI] at q0 q1 q2 q3
  rw [cB] at q4
  rw [cForm] at hl
  match xs, hx5 with
  | [y0, y1, y2, y3, y4], _ =>
    simp at hx
    have e0 := int_lit q0 hx.1
    have e1 := int_lit q1 hx.2.1
    have e2 := int_lit q2 hx.2.2.1
    have e3 := int_lit q3 hx.2.2.2.1
    have e4 := bool_lit q4 hx.2.2.2.2
    match cs, hl with
    | [v0, v1, v2, v3, v4], _ =>
      simp at e0 e1 e2 e3 e4
      rw [e0, e1, e2, e3, e4]
theorem pt_lit {fuel : Nat} {cs : List Value} {x : DataW H × List MemPlace} {a b : Int} (h : DataW.trod enc Tryd.prog w base spare held fuel 106 cs = some x) (hx : x.1 = .agg [.lit (.int .i64 a), .lit (.int .i64 b)]) :
    cs = [.int .i64 a, .int .i64 b] := by
  obtain ⟨xs, n, _, rfl, hl, hxl, hf⟩ := DataW.trod_struct Tryd.underlying106 h
  have q0 : DataW.trod enc Tryd.prog w base spare held n 3 (List.take (Tryd.prog.cellsOf 3) (List.drop 0 cs)) = xs[0]? := hf 0 _ rfl
  have q1 : DataW.trod enc Tryd.prog w base spare held n 3 (List.take (Tryd.prog.cellsOf 3) (List.drop 1 cs)) = xs[1]? := hf 1 _ rfl
  have hx5 : xs.length = 2 := hxl
  rw [cI] at q0 q1
  rw [cPt] at hl
  match xs, hx5 with
  | [y0, y1], _ =>
    simp at hx
    have e0 := int_lit q0 hx.1
    have e1 := int_lit q1 hx.2
    match cs, hl with
    | [v0, v1], _ =>
      simp at e0 e1
      rw [e0, e1]
end
theorem chunks {l m : List Value} (hl : l.length = 50) (hm : m.length = 50) (h : ∀ i, i < 10 → (l.drop (i * 5)).take 5 = (m.drop (i * 5)).take 5) : l = m := by
  apply List.ext_getElem?
  intro q
  by_cases hq : q < 50
  · have := congrArg (fun x => x[q % 5]?) (h (q / 5) (by omega))
    simp only [List.getElem?_take, List.getElem?_drop, show q / 5 * 5 + q % 5 = q by omega, show q % 5 < 5 by omega, if_true] at this
    exact this
  · rw [List.getElem?_eq_none (by omega), List.getElem?_eq_none (by omega)]
theorem of_laid {W : World} (h : laidMetH Tryd.prog laidL W) : Tabs W := by
  rw [MakeChecks.laidMetH_plain _ _ _ (by kernel_rfl)] at h
  obtain ⟨ps, ⟨g0, t0, cs0, f0, p0, q0, hg0, ht0, hv0, hd0, hr, _⟩, _⟩ := h
  obtain ⟨g1, t1, cs1, f1, p1, q1, hg1, ht1, hv1, hd1, _, _⟩ := hr
  obtain rfl := Option.some.inj (Tryd.gForms.symm.trans hg0)
  obtain rfl := Option.some.inj (Tryd.gStart.symm.trans hg1)
  obtain rfl := Option.some.inj (tForms.symm.trans ht0)
  obtain rfl := Option.some.inj (tStart.symm.trans ht1)
  refine ⟨?_, ?_⟩
  · obtain ⟨xs, m1, rfl, hx1, hlen, hn, hel⟩ := DataW.trod_array Tryd.underlying98 hd0
    simp only [Prod.mk.injEq, Rows.laid_plunder_prog_forms, DataW.agg.injEq] at hx1
    rw [cForms] at hlen
    have hxs : xs.length = 10 := by have := congrArg List.length hx1.1; simpa using this.symm
    rw [cForm] at hel
    have hcs : cs0.toList = formCells.toList := by
      refine chunks hlen rfl (fun i hi => ?_)
      have h1 := hel i hi
      rw [List.getElem?_eq_getElem (by omega)] at h1
      have hxi : ∀ d, (xs.map (·.1))[i]? = some d → (xs[i]'(by omega)).1 = d := fun d hd => by
        rw [List.getElem?_map, List.getElem?_eq_getElem (by omega)] at hd
        exact Option.some.inj hd
      rw [← hx1.1] at hxi
      match i, hi with
      | 0, _ => exact form_lit h1 (hxi _ rfl)
      | 1, _ => exact form_lit h1 (hxi _ rfl)
      | 2, _ => exact form_lit h1 (hxi _ rfl)
      | 3, _ => exact form_lit h1 (hxi _ rfl)
      | 4, _ => exact form_lit h1 (hxi _ rfl)
      | 5, _ => exact form_lit h1 (hxi _ rfl)
      | 6, _ => exact form_lit h1 (hxi _ rfl)
      | 7, _ => exact form_lit h1 (hxi _ rfl)
      | 8, _ => exact form_lit h1 (hxi _ rfl)
      | 9, _ => exact form_lit h1 (hxi _ rfl)
    have hcs2 : cs0 = formCells := Array.ext' hcs
    subst hcs2
    simp only [World.var?, hg0, Option.bind_some] at hv0
    split at hv0
    · rename_i cs t fr hb
      obtain rfl := Option.some.inj hv0
      exact ⟨t, fr, hb⟩
    · cases hv0
  · have e := pt_lit hd1 (a := 0) (b := 1) rfl
    have hcs2 : cs1 = #[.int .i64 0, .int .i64 1] := Array.ext' e
    subst hcs2
    simp only [World.var?, hg1, Option.bind_some] at hv1
    split at hv1
    · rename_i cs t fr hb
      obtain rfl := Option.some.inj hv1
      exact ⟨t, fr, hb⟩
    · cases hv1
end Go.Proofs.YtoehkjfdaolcnaaDoor
/-! Structs of 64-bit numbers among the arguments, and slices of them. Whatever the program. -/
namespace Go.HeapKit
open Go.ChangeShapes Go.WideShapes Go.ChangeAt Go.RowKit Go.Deep

section
variable {H : Type} {enc : TypeId × Value → H} {P : Program} {w : World} {base : Nat} {spare : Nat → Bool} {held : Bool}

/-- All fields are 64-bit numbers, one cell each, in order. -/
def allInts (P : Program) (fs : List Field) : Bool :=
  (List.range fs.length).all fun i => match fs[i]? with
    | some f => f.offset == i && (match P.underlying f.type with | some (.int .i64) => true | _ => false) && P.cellsOf f.type == 1
    | none => false
theorem allInts_at {fs : List Field} (h : allInts P fs = true) {i : Nat} {f : Field} (hf : fs[i]? = some f) : f.offset = i ∧ P.underlying f.type = some (.int .i64) ∧ P.cellsOf f.type = 1 := by
  have hi : i < fs.length := (List.getElem?_eq_some_iff.1 hf).1
  have := List.all_eq_true.1 h i (List.mem_range.2 hi)
  rw [hf] at this
  simp only [Bool.and_eq_true, beq_iff_eq] at this
  obtain ⟨⟨h1, h2⟩, h3⟩ := this
  refine ⟨h1, ?_, h3⟩
  split at h2
  · assumption
  · cases h2

theorem struct_ints {t : TypeId} {fs : Array Field} {fuel : Nat} {cs : List Value} {x : DataW H × List MemPlace} (ht : P.underlying t = some (.struct fs)) (ha : allInts P fs.toList = true) (hc : P.cellsOf t = fs.size)
    (h : DataW.trod enc P w base spare held fuel t cs = some x) : ∃ ns : List Int, ns.length = fs.size ∧ cs = ns.map (Value.int .i64) ∧ ∀ n ∈ ns, (Lit.int .i64 n).wf = true := by
  obtain ⟨xs, n, _, rfl, hl, hlen, hf⟩ := DataW.trod_struct ht h
  rw [hc] at hl
  have hat : ∀ i, i < fs.size → ∃ m : Int, cs[i]? = some (.int .i64 m) ∧ (Lit.int .i64 m).wf = true := by
    intro i hi
    have hfi : fs[i]? = some fs[i] := by simp [hi]
    obtain ⟨h1, h2, h3⟩ := allInts_at ha (i := i) (f := fs[i]) (by simp)
    have hq := hf i fs[i] hfi
    rw [h1, h3, show xs[i]? = some xs[i] by simp] at hq
    obtain ⟨m, hm, _, hw⟩ := DataW.trod_int h2 hq
    refine ⟨m, ?_, hw⟩
    have : (List.take 1 (List.drop i cs))[0]? = some (.int .i64 m) := by rw [hm]; rfl
    simpa [List.getElem?_take, List.getElem?_drop] using this
  have hall : ∀ v ∈ cs, ∃ m : Int, v = .int .i64 m ∧ (Lit.int .i64 m).wf = true := by
    intro v hv
    obtain ⟨i, hi, rfl⟩ := List.mem_iff_getElem.1 hv
    obtain ⟨m, hm, hw⟩ := hat i (by omega)
    exact ⟨m, by simpa [hi] using hm, hw⟩
  have hex : ∀ cs : List Value, (∀ v ∈ cs, ∃ m : Int, v = .int .i64 m ∧ (Lit.int .i64 m).wf = true) → ∃ ns : List Int, cs = ns.map (Value.int .i64) ∧ ∀ n ∈ ns, (Lit.int .i64 n).wf = true := by
    intro cs
    induction cs with
    | nil => exact fun _ => ⟨[], rfl, fun _ h => by cases h⟩
    | cons v cs ih =>
      intro hv
      obtain ⟨ns, rfl, hw⟩ := ih (fun u hu => hv u (List.mem_cons_of_mem _ hu))
      obtain ⟨m, rfl, hm⟩ := hv v (List.mem_cons_self ..)
      refine ⟨m :: ns, rfl, ?_⟩
      intro n hn
      rcases List.mem_cons.1 hn with rfl | hn
      · exact hm
      · exact hw n hn
  obtain ⟨ns, rfl, hw⟩ := hex cs hall
  exact ⟨ns, by simpa using hl, rfl, hw⟩

theorem open_struct_ints {r : Reach} {b0 : Nat} {t : TypeId} {fs : Array Field} {v : Value} {d : DataW H} {ps : List MemPlace} (ht : P.underlying t = some (.struct fs)) (ha : allInts P fs.toList = true) (hc : P.cellsOf t = fs.size)
    (hval : Value.okWide P w r b0 t v) (hd : DataW.Trod enc P w base spare held t v d ps) : ∃ ns : List Int, ns.length = fs.size ∧ v = .agg (ns.map (Value.int .i64)).toArray ∧ ∀ n ∈ ns, (Lit.int .i64 n).wf = true := by
  obtain ⟨cs, rfl, hs⟩ := okWide_struct ht hval
  obtain ⟨fuel, hf⟩ := hd
  obtain ⟨ns, hl, he, hw⟩ := struct_ints ht ha hc hf
  refine ⟨ns, hl, ?_, hw⟩
  have : cs.toList = ns.map (Value.int .i64) := by simpa [Value.cells] using he
  rw [← this]

/-- A slice of structs of numbers that came in: nil; or a grid of 'cap' rows, 'size' cells each. -/
def IsGrid (size : Nat) (w : World) (a : Option Addr) (len cap : Nat) (rows : List (List Int)) : Prop :=
  (a = none ∧ len = 0 ∧ cap = 0 ∧ rows = []) ∨
  ∃ x : Addr, a = some x ∧ len ≤ cap ∧ cap ≤ maxLen ∧ rows.length = cap ∧ (∀ i, i < cap → ∃ ns : List Int, rows[i]? = some ns ∧ ns.length = size ∧ (∀ n ∈ ns, (Lit.int .i64 n).wf = true) ∧ ∀ j m, ns[j]? = some m → w.cell? ((x.add (i * size)).add j) = some (.int .i64 m))

theorem grid_slice {t e : TypeId} {x : Addr} {len cap : Nat} {d : DataW H} {ps : List MemPlace} (ht : P.underlying t = some (.slice e)) (hd : DataW.Trod enc P w base spare held t (.slice (some x) len cap) d ps) : ∃ elems sp, d = .slice elems sp := by
  obtain ⟨fuel, hf⟩ := hd
  rcases open_slice ht hf with ⟨h0, _⟩ | ⟨x, l, c, m, n, D, Pl, hcs, _, _, _, _, hx, _⟩
  · simp [Value.cells] at h0
  · simp only [Prod.mk.injEq] at hx
    exact ⟨_, _, hx.1⟩
theorem open_grid {t e : TypeId} {fs : Array Field} {a : Option Addr} {len cap : Nat} {d : DataW H} {ps : List MemPlace} (ht : P.underlying t = some (.slice e)) (he : P.underlying e = some (.struct fs)) (ha : allInts P fs.toList = true) (hc : P.cellsOf e = fs.size)
    (hd : DataW.Trod enc P w base (fun _ => true) held t (.slice a len cap) d ps) : (∃ rows, IsGrid fs.size w a len cap rows) ∧ ∀ elems sp, d = .slice elems sp → elems.length + sp.length = cap := by
  obtain ⟨fuel, hf⟩ := hd
  rcases open_slice ht hf with ⟨h0, hx⟩ | ⟨x, l, c, m, n, D, Pl, hcs, _, hl, hm, hmm, hx, hall⟩
  · simp [Value.cells] at h0
    obtain ⟨rfl, rfl, rfl⟩ := h0
    simp only [Prod.mk.injEq] at hx
    exact ⟨⟨[], .inl ⟨rfl, rfl, rfl, rfl⟩⟩, fun elems sp e => by rw [hx.1] at e; cases e⟩
  · simp [Value.cells] at hcs
    obtain ⟨rfl, rfl, rfl⟩ := hcs
    have hmc : m = cap := by simpa using hmm
    subst hmc
    simp only [Prod.mk.injEq] at hx
    refine ⟨?_, fun elems sp e => by rw [hx.1] at e; injection e with e1 e2; rw [← e1, ← e2]; simp; omega⟩
    have hrow : ∀ i, i < m → ∃ ns : List Int, ns.length = fs.size ∧ (∀ n ∈ ns, (Lit.int .i64 n).wf = true) ∧ ∀ j m, ns[j]? = some m → w.cell? ((x.add (i * fs.size)).add j) = some (.int .i64 m) := by
      intro i hi
      obtain ⟨cs', h1, h2⟩ := hall i hi
      rw [hc] at h1
      obtain ⟨ns, hl, rfl, hw⟩ := struct_ints he ha hc h2
      refine ⟨ns, hl, hw, ?_⟩
      intro j m hj
      obtain ⟨_, hlen, hcell⟩ := World.cells?_some h1
      rw [hcell j (by have := (List.getElem?_eq_some_iff.1 hj).1; omega)]
      simp [hj]
    have hex : ∀ k, k ≤ m → ∃ rows : List (List Int), rows.length = k ∧ ∀ i, i < k → ∃ ns : List Int, rows[i]? = some ns ∧ ns.length = fs.size ∧ (∀ n ∈ ns, (Lit.int .i64 n).wf = true) ∧ ∀ j m, ns[j]? = some m → w.cell? ((x.add (i * fs.size)).add j) = some (.int .i64 m) := by
      intro k
      induction k with
      | zero => exact fun _ => ⟨[], rfl, fun _ h => by omega⟩
      | succ k ih =>
        intro hk
        obtain ⟨rows, hrl, hr⟩ := ih (by omega)
        obtain ⟨ns, h1, h2, h3⟩ := hrow k (by omega)
        refine ⟨rows ++ [ns], by simp [hrl], ?_⟩
        intro i hi
        by_cases hik : i < k
        · obtain ⟨ns', e, r⟩ := hr i hik
          exact ⟨ns', by rw [List.getElem?_append_left (by omega)]; exact e, r⟩
        · obtain rfl : i = k := by omega
          exact ⟨ns, by rw [List.getElem?_append_right (by omega), hrl]; simp, h1, h2, h3⟩
    obtain ⟨rows, hrl, hr⟩ := hex m (Nat.le_refl _)
    exact ⟨rows, .inr ⟨x, rfl, hl, hm, hrl, hr⟩⟩
end
end Go.HeapKit
