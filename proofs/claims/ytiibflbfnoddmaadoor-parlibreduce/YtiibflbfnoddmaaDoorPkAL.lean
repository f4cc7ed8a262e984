import Derived.WalkKit
import Derived.Test.YtiibflbfnoddmaaDoorPkAH
import Derived.Test.YtiibflbfnoddmaaDoorPkAK
import Derived.Test.YtiibflbfnoddmaaDoorPkAA
/-! Plain facts on 64-bit numbers and on the sixteen operations: no program in sight. -/
namespace Go.PlainOps
open Go.RowKit

abbrev bv (x : Int) : BitVec 64 := BitVec.ofInt 64 x
theorem toInt_bv {x : Int} (h0 : -9223372036854775808 ≤ x) (h1 : x ≤ 9223372036854775807) : (bv x).toInt = x := by
  apply BitVec.toInt_ofInt_eq_self (by decide) <;> omega
theorem bv_bounds (v : BitVec 64) : -9223372036854775808 ≤ v.toInt ∧ v.toInt ≤ 9223372036854775807 := by
  have h1 := BitVec.le_toInt v
  have h2 := BitVec.toInt_lt (x := v)
  constructor <;> omega
theorem wrap64_bv (x : Int) : wrap64 x = (bv x).toInt := by
  unfold bv
  rw [BitVec.toInt_ofInt]; unfold wrap64; simp [Int.bmod]; omega
theorem wrap_i64 (x : Int) : IntKind.i64.wrap x = (bv x).toInt := by
  rw [← wrap64_bv]; simp [IntKind.wrap, IntKind.bits, IntKind.signed, wrap64]; omega
theorem bv_toNat (v : BitVec 64) : bv (v.toNat : Int) = v := by
  apply BitVec.eq_of_toNat_eq; simp [bv]
theorem bits_and (a b : Int) : bits .and .i64 a b = (bv a &&& bv b).toInt := by
  show IntKind.i64.wrap ((bv a &&& bv b).toNat : Int) = _
  rw [wrap_i64, bv_toNat]
theorem bits_or (a b : Int) : bits .or .i64 a b = (bv a ||| bv b).toInt := by
  show IntKind.i64.wrap ((bv a ||| bv b).toNat : Int) = _
  rw [wrap_i64, bv_toNat]
theorem bits_xor (a b : Int) : bits .xor .i64 a b = (bv a ^^^ bv b).toInt := by
  show IntKind.i64.wrap ((bv a ^^^ bv b).toNat : Int) = _
  rw [wrap_i64, bv_toNat]
theorem bv_toInt (v : BitVec 64) : bv v.toInt = v := BitVec.ofInt_toInt
theorem bv_add (a b : Int) : bv (a + b) = bv a + bv b := BitVec.ofInt_add a b
theorem bv_mul (a b : Int) : bv (a * b) = bv a * bv b := BitVec.ofInt_mul a b
theorem bv_sub (a b : Int) : bv (a - b) = bv a - bv b := by
  rw [Int.sub_eq_add_neg, bv_add]; simp [bv, BitVec.ofInt_neg, BitVec.sub_eq_add_neg]
theorem split_and (a b : BitVec 64) : (a &&& ~~~b) + (a &&& b) = a := by
  rw [BitVec.add_eq_or_of_and_eq_zero]
  · ext i; simp; cases a[i] <;> cases b[i] <;> rfl
  · ext i; simp; cases a[i] <;> cases b[i] <;> simp
theorem and_add_or (a b : BitVec 64) : (a &&& b) + (a ||| b) = a + b := by
  have h1 : (a &&& ~~~b) + b = a ||| b := by
    rw [BitVec.add_eq_or_of_and_eq_zero]
    · ext i; simp; cases a[i] <;> cases b[i] <;> rfl
    · ext i; simp
  rw [← h1]
  conv => rhs; rw [← split_and a b]
  rw [← BitVec.add_assoc, BitVec.add_comm (a &&& b)]
theorem or_sub_and (a b : BitVec 64) : (a ||| b) - (a &&& b) = a ^^^ b := by
  have h1 : (a ^^^ b) + (a &&& b) = a ||| b := by
    rw [BitVec.add_eq_or_of_and_eq_zero]
    · ext i; simp; cases a[i] <;> cases b[i] <;> rfl
    · ext i; simp; cases a[i] <;> cases b[i] <;> simp
  rw [← h1, BitVec.add_sub_cancel]
/-- The low six bits are the remainder modulo 64. -/
theorem and63 (x : Int) : bits .and .i64 x 63 = x % 64 := by
  rw [bits_and]
  have e : ((bv x) &&& (bv 63)).toNat = (bv x).toNat % 64 := by
    rw [BitVec.toNat_and]
    exact Nat.and_two_pow_sub_one_eq_mod _ 6
  have hx : ((bv x).toNat : Int) = x % 18446744073709551616 := by
    simp [bv]; omega
  rw [BitVec.toInt_eq_toNat_of_lt (by omega), e]
  omega

/-! The value of an operation. -/
def quotV (a b : Int) : Int := if b = 0 then 0 else wrap64 (a.tdiv b)
def remV (a b : Int) : Int := if b = 0 then a else a.tmod b
def shlV (a b : Int) : Int := wrap64 (a * 2 ^ (b % 64).toNat)
def shrV (a b : Int) : Int := a / 2 ^ (b % 64).toNat
def minV (a b : Int) : Int := if b < a then b else a
def maxV (a b : Int) : Int := if a < b then b else a
def truthV (b : Bool) : Int := if b then 1 else 0
def workV (op a b : Int) : Int :=
  if op = 0 then wrap64 (a + b)
  else if op = 1 then wrap64 (a - b)
  else if op = 2 then wrap64 (a * b)
  else if op = 3 then quotV a b
  else if op = 4 then remV a b
  else if op = 5 then bits .and .i64 a b
  else if op = 6 then bits .or .i64 a b
  else if op = 7 then bits .xor .i64 a b
  else if op = 8 then shlV a b
  else if op = 9 then shrV a b
  else if op = 10 then minV a b
  else if op = 11 then maxV a b
  else if op = 12 then truthV (decide (a < b))
  else if op = 13 then truthV (decide (a ≤ b))
  else if op = 14 then truthV (a == b)
  else truthV (a != b)
def isOpV (op : Int) : Bool := decide (0 ≤ op ∧ op < 16)
/-- Has the number a unit? -/
def hasU (op : Int) : Bool := op == 0 || op == 2 || op == 5 || op == 6 || op == 7 || op == 10 || op == 11
def unitV (op : Int) : Int :=
  if op = 2 then 1 else if op = 5 then -1 else if op = 10 then 9223372036854775807 else if op = 11 then -9223372036854775808 else 0
def modV (x n : Int) : Int := if n < 1 then 0 else x % n
theorem modV_bounds (x n : Int) (hn : 1 ≤ n) : 0 ≤ modV x n ∧ modV x n < n := by
  unfold modV; rw [if_neg (by omega)]
  exact ⟨Int.emod_nonneg _ (by omega), Int.emod_lt_of_pos _ (by omega)⟩
theorem tmod_mod (x n : Int) (hn : 1 ≤ n) : (if x.tmod n < 0 then x.tmod n + n else x.tmod n) = x % n := by
  rw [Int.tmod_eq_emod]
  have h0 := Int.emod_nonneg x (b := n) (by omega)
  have h1 := Int.emod_lt_of_pos x (b := n) (by omega)
  have e : (n.natAbs : Int) = n := by omega
  split <;> split <;> rename_i h2
  · rename_i h3; omega
  · omega
  · omega
  · omega
theorem tmod_bounds (x n : Int) (hn : 1 ≤ n) : -n < x.tmod n ∧ x.tmod n < n := by
  rw [Int.tmod_eq_emod]
  have h0 := Int.emod_nonneg x (b := n) (by omega)
  have h1 := Int.emod_lt_of_pos x (b := n) (by omega)
  split <;> omega
end Go.PlainOps
/-! Package asm: instructions, functions, programs. -/
namespace Go.Proofs.YtiibflbfnoddmaaDoor
set_option linter.unusedVariables false
set_option maxRecDepth 20000
open Go.RowKit Go.HeapKit

/-- A function whose one result lies in a block that is new. -/
theorem ins_ret {Q : Ending → World → Prop} {a : Act} {w : World} {fn : Func} {us : Array Value} (q : Tmp) (hfn : fn.results = #[.cell q 43]) (ha : a.tmps.getD q undef = .pointer (some ⟨w.heap.size, 0, none⟩)) (hd : a.defers = [])
    (hz : us.size = 5) (hQ : Q (.returned (.agg us)) (w.alloc (.cells us 43))) : bodyPost Tryd.prog fn Q .ret a (w.alloc (.cells us 43)) :=
  bodyPost_ret (results_one (q := q) (ty := 43) hfn ha (run_loadVar_row _ w.heap.size 43 43 _ _ _ (heap_alloc_new w _) Tryd.underlying43 rfl (by rw [hz]; kernel_rfl))) hd hQ
theorem fn_ret {Q : Ending → World → Prop} {a : Act} {w : World} {fn : Func} {us : Array Value} (q : Tmp) (hfn : fn.results = #[.cell q 41]) (ha : a.tmps.getD q undef = .pointer (some ⟨w.heap.size, 0, none⟩)) (hd : a.defers = [])
    (hz : us.size = 4) (hQ : Q (.returned (.agg us)) (w.alloc (.cells us 41))) : bodyPost Tryd.prog fn Q .ret a (w.alloc (.cells us 41)) :=
  bodyPost_ret (results_one (q := q) (ty := 41) hfn ha (run_loadVar_row _ w.heap.size 41 41 _ _ _ (heap_alloc_new w _) Tryd.underlying41 rfl (by rw [hz]; kernel_rfl))) hd hQ
theorem prog_ret {Q : Ending → World → Prop} {a : Act} {w : World} {fn : Func} {us : Array Value} (q : Tmp) (hfn : fn.results = #[.cell q 24]) (ha : a.tmps.getD q undef = .pointer (some ⟨w.heap.size, 0, none⟩)) (hd : a.defers = [])
    (hz : us.size = 1) (hQ : Q (.returned (.agg us)) (w.alloc (.cells us 24))) : bodyPost Tryd.prog fn Q .ret a (w.alloc (.cells us 24)) :=
  bodyPost_ret (results_one (q := q) (ty := 24) hfn ha (run_loadVar_row _ w.heap.size 24 24 _ _ _ (heap_alloc_new w _) Tryd.underlying24 rfl (by rw [hz]; kernel_rfl))) hd hQ
theorem asm_const (a k : Int) (w : World) : Calls Tryd.prog 68 #[.int .i64 a, .int .i64 k] w fun e w' => e = .returned (.agg #[.int .i64 0, .int .i64 a, .int .i64 0, .int .i64 0, .int .i64 k]) ∧ Keeps None w w' := by
  go_enter Tryd.func68, Tryd.ntmps68
  go_wp2
  refine ins_ret 4 rfl rfl rfl rfl ?_
  exact ⟨rfl, Keeps.alloc _ _ _⟩
theorem asm_move (a b : Int) (w : World) : Calls Tryd.prog 71 #[.int .i64 a, .int .i64 b] w fun e w' => e = .returned (.agg #[.int .i64 1, .int .i64 a, .int .i64 b, .int .i64 0, .int .i64 0]) ∧ Keeps None w w' := by
  go_enter Tryd.func71, Tryd.ntmps71
  go_wp2
  refine ins_ret 4 rfl rfl rfl rfl ?_
  exact ⟨rfl, Keeps.alloc _ _ _⟩
theorem asm_arith (a b o c : Int) (w : World) : Calls Tryd.prog 69 #[.int .i64 a, .int .i64 b, .int .i64 o, .int .i64 c] w fun e w' => e = .returned (.agg #[.int .i64 2, .int .i64 a, .int .i64 b, .int .i64 c, .int .i64 o]) ∧ Keeps None w w' := by
  go_enter Tryd.func69, Tryd.ntmps69
  go_wp2
  refine ins_ret 8 rfl rfl rfl rfl ?_
  exact ⟨rfl, Keeps.alloc _ _ _⟩
theorem asm_branch (a t : Int) (w : World) : Calls Tryd.prog 70 #[.int .i64 a, .int .i64 t] w fun e w' => e = .returned (.agg #[.int .i64 4, .int .i64 a, .int .i64 t, .int .i64 0, .int .i64 0]) ∧ Keeps None w w' := by
  go_enter Tryd.func70, Tryd.ntmps70
  go_wp2
  refine ins_ret 4 rfl rfl rfl rfl ?_
  exact ⟨rfl, Keeps.alloc _ _ _⟩
theorem asm_spawn (s f x : Int) (w : World) : Calls Tryd.prog 43 #[.int .i64 s, .int .i64 f, .int .i64 x] w fun e w' => e = .returned (.agg #[.int .i64 5, .int .i64 s, .int .i64 f, .int .i64 x, .int .i64 0]) ∧ Keeps None w w' := by
  go_enter Tryd.func43, Tryd.ntmps43
  go_wp2
  refine ins_ret 6 rfl rfl rfl rfl ?_
  exact ⟨rfl, Keeps.alloc _ _ _⟩
theorem asm_sync (w : World) : Calls Tryd.prog 44 #[] w fun e w' => e = .returned (.agg #[.int .i64 6, .int .i64 0, .int .i64 0, .int .i64 0, .int .i64 0]) ∧ Keeps None w w' := by
  go_enter Tryd.func44, Tryd.ntmps44
  go_wp2
  refine ins_ret 0 rfl rfl rfl rfl ?_
  exact ⟨rfl, Keeps.alloc _ _ _⟩
theorem asm_load (a s : Int) (w : World) : Calls Tryd.prog 45 #[.int .i64 a, .int .i64 s] w fun e w' => e = .returned (.agg #[.int .i64 7, .int .i64 a, .int .i64 s, .int .i64 0, .int .i64 0]) ∧ Keeps None w w' := by
  go_enter Tryd.func45, Tryd.ntmps45
  go_wp2
  refine ins_ret 4 rfl rfl rfl rfl ?_
  exact ⟨rfl, Keeps.alloc _ _ _⟩
theorem asm_return (a : Int) (w : World) : Calls Tryd.prog 72 #[.int .i64 a] w fun e w' => e = .returned (.agg #[.int .i64 9, .int .i64 a, .int .i64 0, .int .i64 0, .int .i64 0]) ∧ Keeps None w w' := by
  go_enter Tryd.func72, Tryd.ntmps72
  go_wp2
  refine ins_ret 2 rfl rfl rfl rfl ?_
  exact ⟨rfl, Keeps.alloc _ _ _⟩
theorem asm_func (p r t : Int) (a : Option Addr) (n c : Nat) (w : World) : Calls Tryd.prog 67 #[.int .i64 p, .int .i64 r, .int .i64 t, .slice a n c] w fun e w' => e = .returned (.agg #[.int .i64 p, .int .i64 r, .int .i64 t, .slice a n c]) ∧ Keeps None w w' := by
  go_enter Tryd.func67, Tryd.ntmps67
  go_wp2
  refine fn_ret 8 rfl rfl rfl rfl ?_
  exact ⟨rfl, Keeps.alloc _ _ _⟩
theorem asm_program (a : Option Addr) (n c : Nat) (w : World) : Calls Tryd.prog 66 #[.slice a n c] w fun e w' => e = .returned (.agg #[.slice a n c]) ∧ Keeps None w w' := by
  go_enter Tryd.func66, Tryd.ntmps66
  go_wp2
  refine prog_ret 2 rfl rfl rfl rfl ?_
  exact ⟨rfl, Keeps.alloc _ _ _⟩
end Go.Proofs.YtiibflbfnoddmaaDoor
/-! Lists of instructions and of functions that a call has made. -/
namespace Go.Proofs.YtiibflbfnoddmaaDoor
set_option linter.unusedVariables false
set_option maxRecDepth 20000
open Go.RowKit Go.HeapKit Go.PlainOps

theorem Tryd.plIns : (Tryd.prog.info? 43).map (fun i => (i.zero, i.size, i.bytes)) = some (some (.agg #[.int .i64 0, .int .i64 0, .int .i64 0, .int .i64 0, .int .i64 0]), 5, 40) := by kernel_rfl
theorem Tryd.plFn : (Tryd.prog.info? 41).map (fun i => (i.zero, i.size, i.bytes)) = some (some (.agg #[.int .i64 0, .int .i64 0, .int .i64 0, .slice none 0 0]), 4, 48) := by kernel_rfl
theorem codeC_length (l : List Ins) : (codeC l).length = l.length * 5 := by
  induction l with
  | nil => rfl
  | cons x l ih => simp only [codeC, List.flatMap_cons, List.length_append, List.length_cons] at ih ⊢; rw [ih]; simp [insCells]; omega
theorem codeC_append (a b : List Ins) : codeC (a ++ b) = codeC a ++ codeC b := by simp [codeC]
theorem codeC_one (l : List Ins) : ∀ u ∈ codeC l, u.oneCell' = true := by
  intro u hu
  simp only [codeC, List.mem_flatMap] at hu
  obtain ⟨i, _, hi⟩ := hu
  simp [insCells] at hi
  rcases hi with rfl | rfl | rfl | rfl | rfl <;> rfl
theorem codeC_cell {l : List Ins} {j : Nat} {u : Value} (h : (codeC l)[j]? = some u) : ∃ k i o, l[k]? = some i ∧ j = k * 5 + o ∧ (insCells i)[o]? = some u := by
  induction l generalizing j with
  | nil => simp [codeC] at h
  | cons x l ih =>
    have e : codeC (x :: l) = insCells x ++ codeC l := rfl
    rw [e] at h
    have hz : (insCells x).length = 5 := rfl
    by_cases hj : j < 5
    · rw [List.getElem?_append_left (by omega)] at h
      exact ⟨0, x, j, rfl, by omega, h⟩
    · rw [List.getElem?_append_right (by omega)] at h
      obtain ⟨k, i, o, h1, h2, h3⟩ := ih h
      exact ⟨k + 1, i, o, by simpa using h1, by omega, h3⟩
/-- A list of instructions that is this call's own. -/
abbrev OwnC (w : World) (base : Nat) (v : Value) (l : List Ins) : Prop := w.ownsRow base 43 5 v l.length (codeC l)
theorem OwnC.shape {w : World} {base : Nat} {v : Value} {l : List Ins} (h : OwnC w base v l) : ∃ ca cc, v = .slice ca l.length cc ∧ SeenI w ca l.length l := by
  rcases h.2 with ⟨rfl, h0⟩ | ⟨g, cap, cur, rfl, _, hb, hn, _, hcs, htk⟩
  · exact ⟨none, 0, by rw [h0], ⟨rfl, fun hp => by omega⟩⟩
  · refine ⟨_, cap, rfl, ⟨rfl, fun _ => ⟨g, 0, rfl, blk_lt hb, fun k i hi => ?_⟩⟩⟩
    have hc : ∀ j x, (insCells i)[j]? = some x → w.cell? ⟨g, 0 + k * 5 + j, none⟩ = some x := fun j x hx => by
      have h1 := codeC_at l k i hi j x hx
      rw [blk_cell hb, ← Array.getElem?_toList, Nat.zero_add]
      rw [← htk, List.getElem?_take] at h1
      split at h1
      · exact h1
      · cases h1
    exact ⟨hc 0 _ rfl, hc 1 _ rfl, hc 2 _ rfl, hc 3 _ rfl, hc 4 _ rfl⟩
theorem OwnC.base {w : World} {base : Nat} {v : Value} {l : List Ins} (h : OwnC w base v l) {g : Nat} (hg : v.ownBlock = some g) : base ≤ g ∧ g < w.heap.size := by
  rcases h.2 with ⟨rfl, _⟩ | ⟨g', cap, cur, rfl, hb, hh, _⟩
  · simp [Value.ownBlock] at hg
  · simp [Value.ownBlock] at hg
    subst hg
    exact ⟨hb, blk_lt hh⟩
theorem OwnC.low {w : World} {base b2 : Nat} {v : Value} {l : List Ins} (h : OwnC w base v l) (hb : b2 ≤ base) : OwnC w b2 v l := by
  refine ⟨h.1, ?_⟩
  rcases h.2 with h0 | ⟨g', cap, cur, e, hg, r⟩
  · exact .inl h0
  · exact .inr ⟨g', cap, cur, e, by omega, r⟩
theorem OwnC.kept {w w' : World} {S : Nat → Prop} {base : Nat} {v : Value} {l : List Ins} (h : OwnC w base v l) (hk : Keeps S w w') (hS : ∀ g, v.ownBlock = some g → ¬ S g) : OwnC w' base v l := hk.own h hS
theorem OwnC.more {w w' : World} {base : Nat} {v : Value} {l : List Ins} (h : OwnC w base v l) (hk : Keeps None w w') : OwnC w' base v l := hk.own h (fun _ _ f => f)
/-- A list that is written out lies in a new block. -/
theorem own_lit (w : World) (l : List Ins) (us : Array Value) (n : Nat) (e : us = (codeC l).toArray) (hn : n = l.length) (hl : l.length ≤ 1000) : OwnC (w.alloc (.cells us 43)) w.heap.size (.slice (some ⟨w.heap.size, 0, none⟩) n n) l := by
  subst e hn
  refine ⟨codeC_length l, .inr ⟨w.heap.size, l.length, _, rfl, Nat.le_refl _, heap_alloc_new w _, Nat.le_refl _, by unfold maxLen; omega, by simp [codeC_length], by simp [← codeC_length]⟩⟩
/-- 'append(s, l...)'. -/
theorem code_app (base : Nat) (g n cap : Nat) (l1 : List Ins) (a : Option Addr) (m c : Nat) (l2 : List Ins) (ty : TypeId) (w : World) (hn : n = l1.length) (h : OwnC w base (.slice (some ⟨g, 0, none⟩) n cap) l1) (h2 : SeenI w a m l2) (hb : base ≤ w.heap.size) (hl : l1.length + l2.length ≤ 100000) :
    ∃ g' cap' w', (Builtin.append_ #[39, 39] ty #[.slice (some ⟨g, 0, none⟩) n cap, .slice a m c]).run Tryd.prog w = .ok (.slice (some ⟨g', 0, none⟩) (n + m) cap') w' ∧
      OwnC w' base (.slice (some ⟨g', 0, none⟩) (n + m) cap') (l1 ++ l2) ∧ Keeps (· = g) w w' ∧ (g' = g ∨ w.heap.size ≤ g') := by
  obtain ⟨i0, hi, hz0, hz1, hz2⟩ := info_parts Tryd.plIns
  have hm := h2.len
  cases a with
  | none =>
    have h0 : m = 0 := by
      by_cases hp : 0 < m
      · obtain ⟨b, off, e, _⟩ := h2.ex hp
        cases e
      · omega
    have e2 : l2 = [] := List.eq_nil_of_length_eq_zero (by omega)
    subst e2
    subst h0
    refine ⟨g, cap, w, ?_, by rw [List.append_nil]; exact h, Keeps.refl _ _, .inl rfl⟩
    have hnc : n ≤ cap := by
      rcases h.2 with ⟨h, _⟩ | ⟨_, _, _, e, _, _, hh, _⟩
      · cases h
      · injection e with _ e1 e2
        subst e2
        rw [hn]
        exact hh
    simp [Builtin.append_, run_underlying Tryd.underlying39, sizeOf, typeInfo, zeroValue, hi, hz0, Builtin.lenOf, Builtin.firstCells, storeCells, hnc]
  | some x =>
    rw [hn] at h ⊢
    obtain ⟨v', w', hr, ho, hgr, hmv, -⟩ := run_append_moved (P := Tryd.prog) w base 39 ty 43 i0 _ 5 40 Tryd.underlying39 hi hz0 hz1 hz2 rfl (by decide) _ l1.length (codeC l1) h
      x m c (codeC l2) (by rw [codeC_length, hm]) (fun j u hu => by
        obtain ⟨k, i, o, h1, rfl, h3⟩ := codeC_cell hu
        have hk : 0 < m := by have := (List.getElem?_eq_some_iff.1 h1).1; omega
        obtain ⟨b, off, e, _, hc⟩ := h2.ex hk
        obtain rfl := Option.some.inj e
        have hI := hc k i h1
        rw [show (⟨b, off, none⟩ : Addr).add (k * 5 + o) = ⟨b, off + k * 5 + o, none⟩ by unfold Addr.add; split <;> simp_all; omega]
        have ho : o < 5 := (List.getElem?_eq_some_iff.1 h3).1
        match o, ho, h3 with
        | 0, _, h3 => simp [insCells] at h3; subst h3; exact hI.kind
        | 1, _, h3 => simp [insCells] at h3; subst h3; exact hI.a
        | 2, _, h3 => simp [insCells] at h3; subst h3; exact hI.b
        | 3, _, h3 => simp [insCells] at h3; subst h3; exact hI.c
        | 4, _, h3 => simp [insCells] at h3; subst h3; exact hI.k) (codeC_one l2) (by unfold maxLen; omega) (by omega) hb
    have ho' : w'.ownsRow base 43 5 v' (l1 ++ l2).length (codeC (l1 ++ l2)) := by
      rw [codeC_append, List.length_append, ← hm]
      exact ho
    have hsh : ∃ g' cap', v' = .slice (some ⟨g', 0, none⟩) (l1.length + m) cap' := by
      rcases ho.2 with ⟨hv, h0⟩ | ⟨g', cap', _, e, _⟩
      · subst hv
        rcases hmv with e | ⟨g2, e, _⟩
        · simp [Value.ownBlock] at e
        · simp [Value.ownBlock] at e
      · exact ⟨g', cap', e⟩
    obtain ⟨g', cap', rfl⟩ := hsh
    refine ⟨g', cap', w', hr, ho', (Keeps.refl _ w).andGrown hgr (fun k e => .inl (by simpa [Value.ownBlock] using e.symm)), ?_⟩
    rcases hmv with e | ⟨g2, e, h3⟩
    · simp [Value.ownBlock] at e
      exact .inl e
    · simp [Value.ownBlock] at e
      exact .inr (by omega)
/-- 'append(nil, make([]Instr, n)...)[:0]': room for n. -/
theorem code_room (m : Nat) (ty : TypeId) (w : World) (hm : 0 < m) (hl : m ≤ 100000) : ∃ cap cells, (Builtin.append_ #[39, 3] ty #[.slice none 0 0, .int .i64 m]).run Tryd.prog w = .ok (.slice (some ⟨w.heap.size, 0, none⟩) m cap) (w.drew.alloc (.cells cells 43)) ∧ m ≤ cap ∧ cap ≤ maxLen ∧ cells.size = cap * 5 := by
  obtain ⟨i0, hi, hz0, hz1, hz2⟩ := info_parts Tryd.plIns
  have hwrap : IntKind.i64.wrap (m : Int) = m := by rw [IntKind.wrap_i64]; omega
  have hai : ∀ w, Sem.run Tryd.prog (asInt (.int .i64 (m : Int))) w = .ok (m : Int) w := fun _ => rfl
  have hm0 : ¬ m = 0 := by omega
  have hmb' : ¬ (281474976710656 < (m : Int) * (i0.bytes : Int)) := by rw [hz2]; omega
  have hneg : ¬ ((m : Int) < 0) := by omega
  have h63' : ¬ (9223372036854775807 < (m : Int)) := by omega
  have h48' : ¬ (281474976710656 < Builtin.nextslicecap m 0 * i0.bytes) := by rw [nextslicecap_zero hm, hz2]; omega
  have hge := grownCap_ge w m 0 43
  refine ⟨grownCap w m 0 43, Builtin.zeroCells (Value.cells (.agg #[.int .i64 0, .int .i64 0, .int .i64 0, .int .i64 0, .int .i64 0])) m ++ Builtin.zeroCells (Value.cells (.agg #[.int .i64 0, .int .i64 0, .int .i64 0, .int .i64 0, .int .i64 0])) (grownCap w m 0 43 - m), ?_, hge, grownCap_le_maxLen w m 0 _ (by unfold maxLen; omega), ?_⟩
  · simp [Builtin.append_, run_underlying Tryd.underlying39, run_underlying Tryd.underlying3, sizeOf, typeInfo, zeroValue, hi, hz0, hz1, hai, hwrap, hneg, hmb', hm0, h63', h48', Question.forced, run_firstCells_none, newRow, grownCap]
    exact fun h => absurd h (by omega)
  · have hs : (Value.cells (.agg #[.int .i64 0, .int .i64 0, .int .i64 0, .int .i64 0, .int .i64 0])).size = 5 := rfl
    simp [Builtin.zeroCells, hs]
    omega
end Go.Proofs.YtiibflbfnoddmaaDoor
/-! slices.Grow and slices.Concat of instructions. -/
namespace Go.Proofs.YtiibflbfnoddmaaDoor
set_option linter.unusedVariables false
set_option maxRecDepth 20000
open Go.RowKit Go.HeapKit Go.PlainOps

/-- A list of lists of instructions that can be read. -/
structure SeenS (w : World) (a : Option Addr) (n : Nat) (ls : List (List Ins)) : Prop where
  len : n = ls.length
  ex : 0 < n → ∃ b off, a = some ⟨b, off, none⟩ ∧ ∀ k l, ls[k]? = some l → ∃ ca cc, w.cell? ⟨b, off + k, none⟩ = some (.slice ca l.length cc) ∧ SeenI w ca l.length l
theorem SeenS.more {w w' : World} {a : Option Addr} {n : Nat} {ls : List (List Ins)} (h : SeenS w a n ls) (hk : Keeps None w w') : SeenS w' a n ls := by
  refine ⟨h.len, fun h0 => ?_⟩
  obtain ⟨b, off, rfl, hc⟩ := h.ex h0
  refine ⟨b, off, rfl, fun k l hl => ?_⟩
  obtain ⟨ca, cc, h1, h2⟩ := hc k l hl
  exact ⟨ca, cc, hk.cell h1 (fun f => f), h2.more hk⟩
theorem SeenS.at {w : World} {a : Option Addr} {n : Nat} {ls : List (List Ins)} (h : SeenS w a n ls) {k : Nat} (hk : k < n) : ∃ b off l ca cc, a = some ⟨b, off, none⟩ ∧ ls[k]? = some l ∧ w.cell? ⟨b, off + k, none⟩ = some (.slice ca l.length cc) ∧ SeenI w ca l.length l := by
  obtain ⟨b, off, rfl, hc⟩ := h.ex (by omega)
  have hl := h.len
  obtain ⟨ca, cc, h1, h2⟩ := hc k (ls[k]'(by omega)) (by simp)
  exact ⟨b, off, ls[k]'(by omega), ca, cc, rfl, by simp, h1, h2⟩
theorem flat_take {ls : List (List Ins)} {k : Nat} {l : List Ins} (h : ls[k]? = some l) : (ls.take (k + 1)).flatten = (ls.take k).flatten ++ l := by
  have hk := (List.getElem?_eq_some_iff.1 h).1
  have e : ls.take (k + 1) = ls.take k ++ [l] := by
    rw [List.take_add_one, h]
    rfl
  rw [e, List.flatten_append]
  simp
theorem flat_le (ls : List (List Ins)) (k : Nat) : (ls.take k).flatten.length ≤ ls.flatten.length := by
  conv => rhs; rw [← List.take_append_drop k ls]
  rw [List.flatten_append, List.length_append]
  omega
theorem grow_any (m : Nat) (w : World) (hm : 0 < m) (hl : m ≤ 100000) : Calls Tryd.prog 79 #[.slice none 0 0, .int .i64 m] w fun e w' => ∃ g cap, e = .returned (.slice (some ⟨g, 0, none⟩) 0 cap) ∧ OwnC w' w.heap.size (.slice (some ⟨g, 0, none⟩) 0 cap) [] ∧ Keeps None w w' := by
  have i1 : ¬ ((m : Int) < 0) := by omega
  have i2 : (0 : Int) < (m : Int) := by omega
  obtain ⟨cap, cells, hr, h1, h2, h3⟩ := code_room m 39 w hm hl
  have i3 : (0 : Int) ≤ (cap : Int) := by omega
  have HX : Hid (m ≤ cap ∧ cap ≤ maxLen ∧ cells.size = cap * 5) := ⟨h1, h2, h3⟩
  clear h1 h2 h3
  go_enter Tryd.func79, Tryd.ntmps79
  go_wp2_with (at_builtin; refine wpList_append_run rfl (.tmp 20) (.tmp 21) 39 3 rfl rfl rfl hr ?_)
  go_ret
  obtain ⟨h1, h2, h3⟩ := HX.out
  refine ⟨w.heap.size, cap, rfl, ⟨rfl, .inr ⟨w.heap.size, cap, cells, rfl, Nat.le_refl _, heap_alloc_new w.drew _, by simp, h2, h3, rfl⟩⟩, (Keeps.drew _ w).andAlloc _⟩
set_option maxHeartbeats 1600000 in
theorem concat_any (a : Option Addr) (n c : Nat) (ls : List (List Ins)) (w : World) (h : SeenS w a n ls) (hn : n ≤ 1000) (h0 : 0 < ls.flatten.length) (hl : ls.flatten.length ≤ 100000) : Calls Tryd.prog 73 #[.slice a n c] w fun e w' => ∃ ca cc, e = .returned (.slice ca ls.flatten.length cc) ∧ OwnC w' w.heap.size (.slice ca ls.flatten.length cc) ls.flatten ∧ Keeps None w w' := by
  obtain ⟨T, hT⟩ : ∃ T, T = ls.flatten.length := ⟨_, rfl⟩
  have HT : Hid (T = ls.flatten.length ∧ n = ls.length) := ⟨hT, h.len⟩
  rw [← hT] at h0 hl
  have HS : Hid (SeenS w a n ls) := h
  clear h
  have hgw := grow_any T w h0 hl
  rw [← hT]
  clear hT
  go_enter Tryd.func73, Tryd.ntmps73
  go_wp2_with fail
  go_loopw [3, 5, 11] (fun s3 _ s11 wr => ∃ k t : Nat, k ≤ n ∧ s11 = .int .i64 k ∧ s3 = .int .i64 t ∧ t = (ls.take k).flatten.length ∧ wr = w) (fun _ _ i _ => n - (intOf i).toNat)
  case atStart => exact ⟨0, 0, Nat.zero_le _, rfl, rfl, by simp, rfl⟩
  case round =>
    obtain ⟨k, t, hk, rfl, rfl, ht, hw⟩ := hrel
    have hw2 := hw.symm
    subst hw2
    have ht2 := flat_le ls k
    rw [← ht] at ht2
    by_cases hkn : k < n
    · have i1 : (k : Int) < (n : Int) := by omega
      have i2 : (0 : Int) ≤ (k : Int) := by omega
      obtain ⟨b, off, l, ca, cc, rfl, e1, c1, s1⟩ := HS.out.at hkn
      have ht3 := flat_le ls (k + 1)
      rw [flat_take e1, List.length_append, ← ht] at ht3
      have e2 : t + l.length = (ls.take (k + 1)).flatten.length := by rw [flat_take e1, List.length_append, ht]
      have HE : Hid (t + l.length = (ls.take (k + 1)).flatten.length) := e2
      rw [← HT.out.1] at ht3
      generalize l.length = L at *
      have w1 : (t : Int) + (L : Int) ≤ 100000 := by omega
      have w2 : ¬ ((t : Int) + (L : Int) < 0) := by omega
      have w3 : (k : Int) ≤ 1000 := by omega
      clear e2 ht3 ht2 ht
      go_wp2
      exact ⟨⟨k + 1, t + L, by omega, by simp, by simp, HE.out, trivial⟩, by simp [intOf]; omega⟩
    · have i1 : ¬ ((k : Int) < (n : Int)) := by omega
      obtain rfl : k = n := by omega
      have e3 : t = T := by rw [ht, HT.out.1, List.take_of_length_le (by rw [← HT.out.2]; omega)]
      subst e3
      clear ht ht2
      go_wp2_with (go_at_call 79; refine hgw.mono ?_; rintro _ w1 ⟨g1, cap1, rfl, ho1, hk1⟩)
      clear hgw
      go_loopw [6, 8, 27] (fun s6 _ s27 wr => ∃ j t2 g cap : Nat, j ≤ k ∧ s27 = .int .i64 j ∧ s6 = .slice (some ⟨g, 0, none⟩) t2 cap ∧ t2 = (ls.take j).flatten.length ∧ OwnC wr w.heap.size (.slice (some ⟨g, 0, none⟩) t2 cap) (ls.take j).flatten ∧ Keeps None w wr) (fun _ _ i _ => k - (intOf i).toNat)
      case atStart => exact ⟨0, 0, g1, cap1, Nat.zero_le _, rfl, rfl, by simp, by simpa using ho1, hk1⟩
      case round =>
        obtain ⟨j, t2, g, cap, hj, rfl, rfl, ht2, ho, hkp⟩ := hrel
        by_cases hjk : j < k
        · have j1 : (j : Int) < (k : Int) := by omega
          have j2 : (0 : Int) ≤ (j : Int) := by omega
          obtain ⟨b, off, l, ca, cc, rfl, e1, c1, s1⟩ := (HS.out.more hkp).at hjk
          have ht3 := flat_le ls (j + 1)
          rw [flat_take e1, List.length_append, ← HT.out.1] at ht3
          obtain ⟨g', cap', w2, hr, ho2, hk2, hg2⟩ := code_app w.heap.size g t2 cap (ls.take j).flatten ca l.length cc l 39 wr ht2 ho s1 hkp.size (by omega)
          have hkn : Keeps None w w2 := hkp.trans hk2 (fun i e hi => by subst e; have := (ho.base (g := i) rfl).1; omega)
          rw [← flat_take e1] at ho2
          have e2 : t2 + l.length = (ls.take (j + 1)).flatten.length := by rw [flat_take e1, List.length_append, ht2]
          have HE : Hid (t2 + l.length = (ls.take (j + 1)).flatten.length ∧ OwnC w2 w.heap.size (.slice (some ⟨g', 0, none⟩) (t2 + l.length) cap') (ls.take (j + 1)).flatten ∧ Keeps None w w2) := ⟨e2, ho2, hkn⟩
          clear e2 ho2 hkn ht3 ho hkp hk2 hg2
          generalize l.length = L at *
          have w3 : (j : Int) ≤ 1000 := by omega
          clear ht2
          go_wp2_with (at_builtin; refine wpList_append_run rfl (.tmp 31) (.tmp 32) 39 39 rfl rfl rfl hr ?_)
          exact ⟨⟨j + 1, t2 + L, g', cap', by omega, by simp, rfl, HE.out.1, HE.out.2.1, HE.out.2.2⟩, by simp [intOf]; omega⟩
        · have j1 : ¬ ((j : Int) < (k : Int)) := by omega
          obtain rfl : j = k := by omega
          have e4 : ls.take j = ls := List.take_of_length_le (by rw [← HT.out.2]; omega)
          rw [e4, ← HT.out.1] at ht2
          rw [e4] at ho
          subst ht2
          have HF : Hid (OwnC wr w.heap.size (.slice (some ⟨g, 0, none⟩) t2 cap) ls.flatten ∧ Keeps None w wr) := ⟨ho, hkp⟩
          clear ho hkp e4
          go_wp2
          go_ret
          exact ⟨_, _, rfl, HF.out.1, HF.out.2⟩
end Go.Proofs.YtiibflbfnoddmaaDoor
/-! The programs that parlib makes, plainly. -/
namespace Go.Proofs.YtiibflbfnoddmaaDoor
set_option linter.unusedVariables false
set_option maxRecDepth 20000

def shI (i : Ins) : Ins := if i.kind = 5 then { i with b := i.b + 2 } else i
def shF (f : Fn) : Fn := { f with code := f.code.map shI }
def entC (u : Int) : List Ins := [⟨0, 5, 0, 0, u⟩, ⟨0, 2, 0, 0, 0⟩, ⟨2, 6, 0, 2, 13⟩, ⟨4, 6, 10, 0, 0⟩, ⟨0, 4, 0, 0, 1⟩, ⟨2, 4, 1, 4, 11⟩, ⟨1, 3, 0, 0, 0⟩, ⟨5, 0, 1, 2, 0⟩, ⟨6, 0, 0, 0, 0⟩, ⟨7, 5, 0, 0, 0⟩, ⟨9, 5, 0, 0, 0⟩]
def choC (n : Int) : List Ins := [⟨2, 8, 1, 0, 1⟩, ⟨2, 10, 2, 8, 12⟩, ⟨4, 10, n, 0, 0⟩]
def lfC (b u : Int) (m : List Ins) : List Ins := [⟨0, 6, 0, 0, u⟩, ⟨0, 9, 0, 0, 1⟩] ++ [⟨5, 0, b, 0, 0⟩, ⟨6, 0, 0, 0, 0⟩] ++ m ++ [⟨2, 0, 0, 9, 0⟩, ⟨2, 10, 0, 1, 12⟩, ⟨4, 10, 5, 0, 0⟩, ⟨9, 6, 0, 0, 0⟩]
def hvC (m : List Ins) : List Ins := [⟨0, 4, 0, 0, 2⟩, ⟨2, 4, 8, 4, 3⟩, ⟨2, 4, 0, 4, 0⟩] ++ [⟨1, 3, 0, 0, 0⟩, ⟨1, 5, 2, 0, 0⟩, ⟨5, 0, 1, 3, 0⟩] ++ [⟨1, 0, 4, 0, 0⟩, ⟨5, 1, 1, 0, 0⟩, ⟨6, 0, 0, 0, 0⟩] ++ m ++ [⟨9, 6, 0, 0, 0⟩]
def entF (u : Int) : Fn := ⟨2, 7, 1, entC u⟩
def rnC (lf hv : List Ins) : List Ins := choC (3 + (lf.length : Int)) ++ lf ++ hv
def rnF (lf hv : List Ins) : Fn := ⟨3, 11, 2, rnC lf hv⟩
/-- For's program. -/
def forP (fs : List Fn) (b : Int) : List Fn := entF 0 :: rnF (lfC (b + 2) 0 []) (hvC []) :: fs.map shF
/-- The loads, and what they are merged by. -/
def mgC (c : Int) (l : List Ins) : List Ins := l ++ [⟨5, 0, c, 6, 0⟩, ⟨6, 0, 0, 0, 0⟩, ⟨7, 6, 0, 0, 0⟩]
/-- Reduce's program. -/
def redP (fs : List Fn) (b c u : Int) : List Fn := entF u :: rnF (lfC (b + 2) u (mgC (c + 2) [⟨7, 7, 0, 0, 0⟩])) (hvC (mgC (c + 2) [⟨7, 6, 0, 0, 0⟩, ⟨7, 7, 1, 0, 0⟩])) :: fs.map shF

theorem set_same {α : Type} (l : List α) (n : Nat) (x : α) (h : l[n]? = some x) : l.set n x = l := by
  apply List.ext_getElem?
  intro k
  rw [List.getElem?_set]
  by_cases hk : n = k
  · subst hk
    rw [if_pos rfl, h]
    rw [if_pos (List.getElem?_eq_some_iff.1 h).1]
  · rw [if_neg hk]
end Go.Proofs.YtiibflbfnoddmaaDoor
/-! What parlib's programs are made of. -/
namespace Go.Proofs.YtiibflbfnoddmaaDoor
set_option linter.unusedVariables false
set_option maxRecDepth 20000
open Go.RowKit Go.HeapKit Go.PlainOps

def slV (l : List (Value × List Ins)) : Array Value := (l.map (·.1)).toArray
theorem seenS_lit (w : World) (vs : List (Value × List Ins)) (us : Array Value) (n : Nat) (ls : List (List Ins)) (H : Nat) (hH : w.heap.size = H) (e : us = slV vs) (hn : n = vs.length) (hl : ls = vs.map (·.2)) (h : ∀ x ∈ vs, ∃ b, OwnC w b x.1 x.2) : SeenS (w.alloc (.cells us 39)) (some ⟨H, 0, none⟩) n ls := by
  subst e hn hl hH
  refine ⟨by simp, fun _ => ⟨w.heap.size, 0, rfl, fun k l hk => ?_⟩⟩
  rw [List.getElem?_map] at hk
  obtain ⟨x, hx, rfl⟩ := Option.map_eq_some_iff.1 hk
  obtain ⟨b, hb⟩ := h x (List.mem_of_getElem? hx)
  obtain ⟨ca, cc, e, hs⟩ := hb.shape
  refine ⟨ca, cc, ?_, hs.more (Keeps.alloc _ _ _)⟩
  rw [blk_cell (heap_alloc_new w _), Nat.zero_add]
  simp [slV, hx, e]
theorem own_nil (w : World) (b : Nat) : OwnC w b (.slice none 0 0) [] := ⟨rfl, .inl ⟨rfl, rfl⟩⟩
theorem nothing_any (v : Value) (w : World) : Calls Tryd.prog 33 #[v] w fun e w' => e = .returned (.slice none 0 0) ∧ Keeps None w w' := by
  go_enter Tryd.func33, Tryd.ntmps33
  go_wp2
  go_ret
  exact ⟨rfl, Keeps.refl _ _⟩
set_option maxHeartbeats 1600000 in
theorem leaf_any (bd u : Int) (w : World) : Calls Tryd.prog 54 #[.int .i64 bd, .int .i64 u, .func (Fn.func 33) #[] #[]] w fun e w' => ∃ ca cc, e = .returned (.slice ca (lfC bd u []).length cc) ∧ OwnC w' w.heap.size (.slice ca (lfC bd u []).length cc) (lfC bd u []) ∧ Keeps None w w' := by
  have j0 : Keeps None w w := Keeps.refl _ _
  go_enter Tryd.func54, Tryd.ntmps54
  go_wp2_with fail
  refine (asm_const _ _ _).mono ?_
  rintro _ w1 ⟨rfl, k1⟩
  have j1 : Keeps None w w1 := j0.trans k1 (fun _ f _ => f)
  clear k1
  go_wp2_with fail
  refine (asm_const _ _ _).mono ?_
  rintro _ w2 ⟨rfl, k2⟩
  have j2 : Keeps None w w2 := j1.trans k2 (fun _ f _ => f)
  clear k2
  go_wp2_with fail
  refine (asm_spawn _ _ _ _).mono ?_
  rintro _ w3 ⟨rfl, k3⟩
  have a1 := (own_lit w2 [⟨0, 6, 0, 0, u⟩, ⟨0, 9, 0, 0, 1⟩] _ 2 rfl rfl (by simp)).more k3
  have j3 : Keeps None w w3 := (j2.andAlloc _).trans k3 (fun _ f _ => f)
  clear k3
  go_wp2_with fail
  refine (asm_sync _).mono ?_
  rintro _ w4 ⟨rfl, k4⟩
  replace a1 := a1.more k4
  have j4 : Keeps None w w4 := j3.trans k4 (fun _ f _ => f)
  clear k4
  go_wp2_with fail
  refine (asm_load _ _ _).mono ?_
  rintro _ w5 ⟨rfl, k5⟩
  replace a1 := (a1.more (Keeps.alloc None _ _)).more k5
  have a2 := (own_lit w4 [⟨5, 0, bd, 0, 0⟩, ⟨6, 0, 0, 0, 0⟩] _ 2 rfl rfl (by simp)).more k5
  have j5 : Keeps None w w5 := (j4.andAlloc _).trans k5 (fun _ f _ => f)
  clear k5
  go_wp2_with fail
  refine (nothing_any _ _).mono ?_
  rintro _ w6 ⟨rfl, k6⟩
  replace a1 := (a1.more (Keeps.alloc None _ _)).more k6
  replace a2 := (a2.more (Keeps.alloc None _ _)).more k6
  have a0 := (own_lit w5 [⟨7, 7, 0, 0, 0⟩] _ 1 rfl rfl (by simp)).more k6
  have j6 : Keeps None w w6 := (j5.andAlloc _).trans k6 (fun _ f _ => f)
  clear k6
  go_wp2_with fail
  refine (asm_arith _ _ _ _ _).mono ?_
  rintro _ w7 ⟨rfl, k7⟩
  replace a1 := a1.more k7
  replace a2 := a2.more k7
  replace a0 := a0.more k7
  have j7 : Keeps None w w7 := j6.trans k7 (fun _ f _ => f)
  clear k7
  go_wp2_with fail
  refine (asm_arith _ _ _ _ _).mono ?_
  rintro _ w8 ⟨rfl, k8⟩
  replace a1 := a1.more k8
  replace a2 := a2.more k8
  replace a0 := a0.more k8
  have j8 : Keeps None w w8 := j7.trans k8 (fun _ f _ => f)
  clear k8
  go_wp2_with fail
  refine (asm_branch _ _ _).mono ?_
  rintro _ w9 ⟨rfl, k9⟩
  replace a1 := a1.more k9
  replace a2 := a2.more k9
  replace a0 := a0.more k9
  have j9 : Keeps None w w9 := j8.trans k9 (fun _ f _ => f)
  clear k9
  go_wp2_with fail
  refine (asm_return _ _).mono ?_
  rintro _ w10 ⟨rfl, k10⟩
  replace a1 := a1.more k10
  replace a2 := a2.more k10
  replace a0 := a0.more k10
  have j10 : Keeps None w w10 := j9.trans k10 (fun _ f _ => f)
  clear k10
  have al := own_lit w10 [⟨2, 0, 0, 9, 0⟩, ⟨2, 10, 0, 1, 12⟩, ⟨4, 10, 5, 0, 0⟩, ⟨9, 6, 0, 0, 0⟩] _ 4 rfl rfl (by simp)
  go_wp2_with fail
  refine (concat_any _ 4 4 [[⟨0, 6, 0, 0, u⟩, ⟨0, 9, 0, 0, 1⟩], [⟨5, 0, bd, 0, 0⟩, ⟨6, 0, 0, 0, 0⟩], [], [⟨2, 0, 0, 9, 0⟩, ⟨2, 10, 0, 1, 12⟩, ⟨4, 10, 5, 0, 0⟩, ⟨9, 6, 0, 0, 0⟩]] _ (seenS_lit _ [(_, [⟨0, 6, 0, 0, u⟩, ⟨0, 9, 0, 0, 1⟩]), (_, [⟨5, 0, bd, 0, 0⟩, ⟨6, 0, 0, 0, 0⟩]), (.slice none 0 0, []), (_, [⟨2, 0, 0, 9, 0⟩, ⟨2, 10, 0, 1, 12⟩, ⟨4, 10, 5, 0, 0⟩, ⟨9, 6, 0, 0, 0⟩])] _ 4 [[⟨0, 6, 0, 0, u⟩, ⟨0, 9, 0, 0, 1⟩], [⟨5, 0, bd, 0, 0⟩, ⟨6, 0, 0, 0, 0⟩], [], [⟨2, 0, 0, 9, 0⟩, ⟨2, 10, 0, 1, 12⟩, ⟨4, 10, 5, 0, 0⟩, ⟨9, 6, 0, 0, 0⟩]] _ (by simp) rfl rfl rfl ?_) (by omega) (by simp) (by simp)).mono ?_
  · intro x hx
    simp only [List.mem_cons, List.not_mem_nil, or_false] at hx
    rcases hx with rfl | rfl | rfl | rfl
    · exact ⟨_, a1.more (Keeps.alloc None _ _)⟩
    · exact ⟨_, a2.more (Keeps.alloc None _ _)⟩
    · exact ⟨0, own_nil _ _⟩
    · exact ⟨_, al⟩
  rintro _ wz ⟨ca, cc, rfl, ho, hk⟩
  have HF : Hid (OwnC wz w.heap.size _ _ ∧ Keeps None w wz) := ⟨ho.low (by have := j10.size; simp; omega), ((j10.andAlloc _).andAlloc _).trans hk (fun _ f _ => f)⟩
  clear ho hk
  go_wp2
  go_ret
  exact ⟨ca, cc, rfl, HF.out.1, HF.out.2⟩
set_option maxHeartbeats 1600000 in
theorem halves_any (w : World) : Calls Tryd.prog 55 #[.func (Fn.func 33) #[] #[]] w fun e w' => ∃ ca cc, e = .returned (.slice ca (hvC []).length cc) ∧ OwnC w' w.heap.size (.slice ca (hvC []).length cc) (hvC []) ∧ Keeps None w w' := by
  have j0 : Keeps None w w := Keeps.refl _ _
  go_enter Tryd.func55, Tryd.ntmps55
  go_wp2_with fail
  refine (asm_const _ _ _).mono ?_
  rintro _ w1 ⟨rfl, k1⟩
  have j1 : Keeps None w w1 := j0.trans k1 (fun _ f _ => f)
  clear k1
  go_wp2_with fail
  refine (asm_arith _ _ _ _ _).mono ?_
  rintro _ w2 ⟨rfl, k2⟩
  have j2 : Keeps None w w2 := j1.trans k2 (fun _ f _ => f)
  clear k2
  go_wp2_with fail
  refine (asm_arith _ _ _ _ _).mono ?_
  rintro _ w3 ⟨rfl, k3⟩
  have j3 : Keeps None w w3 := j2.trans k3 (fun _ f _ => f)
  clear k3
  go_wp2_with fail
  refine (asm_move _ _ _).mono ?_
  rintro _ w4 ⟨rfl, k4⟩
  have a1 := (own_lit w3 [⟨0, 4, 0, 0, 2⟩, ⟨2, 4, 8, 4, 3⟩, ⟨2, 4, 0, 4, 0⟩] _ 3 rfl rfl (by simp)).more k4
  have j4 : Keeps None w w4 := (j3.andAlloc _).trans k4 (fun _ f _ => f)
  clear k4
  go_wp2_with fail
  refine (asm_move _ _ _).mono ?_
  rintro _ w5 ⟨rfl, k5⟩
  replace a1 := a1.more k5
  have j5 : Keeps None w w5 := j4.trans k5 (fun _ f _ => f)
  clear k5
  go_wp2_with fail
  refine (asm_spawn _ _ _ _).mono ?_
  rintro _ w6 ⟨rfl, k6⟩
  replace a1 := a1.more k6
  have j6 : Keeps None w w6 := j5.trans k6 (fun _ f _ => f)
  clear k6
  go_wp2_with fail
  refine (asm_move _ _ _).mono ?_
  rintro _ w7 ⟨rfl, k7⟩
  replace a1 := (a1.more (Keeps.alloc None _ _)).more k7
  have a2 := (own_lit w6 [⟨1, 3, 0, 0, 0⟩, ⟨1, 5, 2, 0, 0⟩, ⟨5, 0, 1, 3, 0⟩] _ 3 rfl rfl (by simp)).more k7
  have j7 : Keeps None w w7 := (j6.andAlloc _).trans k7 (fun _ f _ => f)
  clear k7
  go_wp2_with fail
  refine (asm_spawn _ _ _ _).mono ?_
  rintro _ w8 ⟨rfl, k8⟩
  replace a1 := a1.more k8
  replace a2 := a2.more k8
  have j8 : Keeps None w w8 := j7.trans k8 (fun _ f _ => f)
  clear k8
  go_wp2_with fail
  refine (asm_sync _).mono ?_
  rintro _ w9 ⟨rfl, k9⟩
  replace a1 := a1.more k9
  replace a2 := a2.more k9
  have j9 : Keeps None w w9 := j8.trans k9 (fun _ f _ => f)
  clear k9
  go_wp2_with fail
  refine (asm_load _ _ _).mono ?_
  rintro _ w10 ⟨rfl, k10⟩
  replace a1 := (a1.more (Keeps.alloc None _ _)).more k10
  replace a2 := (a2.more (Keeps.alloc None _ _)).more k10
  have a3 := (own_lit w9 [⟨1, 0, 4, 0, 0⟩, ⟨5, 1, 1, 0, 0⟩, ⟨6, 0, 0, 0, 0⟩] _ 3 rfl rfl (by simp)).more k10
  have j10 : Keeps None w w10 := (j9.andAlloc _).trans k10 (fun _ f _ => f)
  clear k10
  go_wp2_with fail
  refine (asm_load _ _ _).mono ?_
  rintro _ w11 ⟨rfl, k11⟩
  replace a1 := a1.more k11
  replace a2 := a2.more k11
  replace a3 := a3.more k11
  have j11 : Keeps None w w11 := j10.trans k11 (fun _ f _ => f)
  clear k11
  go_wp2_with fail
  refine (nothing_any _ _).mono ?_
  rintro _ w12 ⟨rfl, k12⟩
  replace a1 := (a1.more (Keeps.alloc None _ _)).more k12
  replace a2 := (a2.more (Keeps.alloc None _ _)).more k12
  replace a3 := (a3.more (Keeps.alloc None _ _)).more k12
  have a0 := (own_lit w11 [⟨7, 6, 0, 0, 0⟩, ⟨7, 7, 1, 0, 0⟩] _ 2 rfl rfl (by simp)).more k12
  have j12 : Keeps None w w12 := (j11.andAlloc _).trans k12 (fun _ f _ => f)
  clear k12
  go_wp2_with fail
  refine (asm_return _ _).mono ?_
  rintro _ w13 ⟨rfl, k13⟩
  replace a1 := a1.more k13
  replace a2 := a2.more k13
  replace a3 := a3.more k13
  replace a0 := a0.more k13
  have j13 : Keeps None w w13 := j12.trans k13 (fun _ f _ => f)
  clear k13
  have al := own_lit w13 [⟨9, 6, 0, 0, 0⟩] _ 1 rfl rfl (by simp)
  go_wp2_with fail
  refine (concat_any _ 5 5 [[⟨0, 4, 0, 0, 2⟩, ⟨2, 4, 8, 4, 3⟩, ⟨2, 4, 0, 4, 0⟩], [⟨1, 3, 0, 0, 0⟩, ⟨1, 5, 2, 0, 0⟩, ⟨5, 0, 1, 3, 0⟩], [⟨1, 0, 4, 0, 0⟩, ⟨5, 1, 1, 0, 0⟩, ⟨6, 0, 0, 0, 0⟩], [], [⟨9, 6, 0, 0, 0⟩]] _ (seenS_lit _ [(_, [⟨0, 4, 0, 0, 2⟩, ⟨2, 4, 8, 4, 3⟩, ⟨2, 4, 0, 4, 0⟩]), (_, [⟨1, 3, 0, 0, 0⟩, ⟨1, 5, 2, 0, 0⟩, ⟨5, 0, 1, 3, 0⟩]), (_, [⟨1, 0, 4, 0, 0⟩, ⟨5, 1, 1, 0, 0⟩, ⟨6, 0, 0, 0, 0⟩]), (.slice none 0 0, []), (_, [⟨9, 6, 0, 0, 0⟩])] _ 5 [[⟨0, 4, 0, 0, 2⟩, ⟨2, 4, 8, 4, 3⟩, ⟨2, 4, 0, 4, 0⟩], [⟨1, 3, 0, 0, 0⟩, ⟨1, 5, 2, 0, 0⟩, ⟨5, 0, 1, 3, 0⟩], [⟨1, 0, 4, 0, 0⟩, ⟨5, 1, 1, 0, 0⟩, ⟨6, 0, 0, 0, 0⟩], [], [⟨9, 6, 0, 0, 0⟩]] _ (by simp) rfl rfl rfl ?_) (by omega) (by simp) (by simp)).mono ?_
  · intro x hx
    simp only [List.mem_cons, List.not_mem_nil, or_false] at hx
    rcases hx with rfl | rfl | rfl | rfl | rfl
    · exact ⟨_, a1.more (Keeps.alloc None _ _)⟩
    · exact ⟨_, a2.more (Keeps.alloc None _ _)⟩
    · exact ⟨_, a3.more (Keeps.alloc None _ _)⟩
    · exact ⟨0, own_nil _ _⟩
    · exact ⟨_, al⟩
  rintro _ wz ⟨ca, cc, rfl, ho, hk⟩
  have HF : Hid (OwnC wz w.heap.size _ _ ∧ Keeps None w wz) := ⟨ho.low (by have := j13.size; simp; omega), ((j13.andAlloc _).andAlloc _).trans hk (fun _ f _ => f)⟩
  clear ho hk
  go_wp2
  go_ret
  exact ⟨ca, cc, rfl, HF.out.1, HF.out.2⟩
theorem fn_end {Q : Ending → World → Prop} {a : Act} {w1 : World} {g : Nat} {c : Array Value} {fn : Func} (q : Tmp) (hfn : fn.results = #[.cell q 41]) (hc : c.size = 4) (hb : w1.heap[g]? = some (.cells c 41 (0, 0)))
    (ha : a.tmps.getD q undef = .pointer (some ⟨g, 0, none⟩)) (hd : a.defers = []) (v0 v1 v2 v3 : Value) (hQ : ∀ w', Keeps (· = g) w1 w' → Q (.returned (.agg #[v0, v1, v2, v3])) w') :
    bodyPost Tryd.prog fn Q .ret a ((((w1.setCell ⟨g, 0, none⟩ v0).setCell ⟨g, 1, none⟩ v1).setCell ⟨g, 2, none⟩ v2).setCell ⟨g, 3, none⟩ v3) := by
  have hb2 := blk_set (i := 3) (blk_set (i := 2) (blk_set (i := 1) (blk_set (i := 0) hb v0) v1) v2) v3
  have hc3 : (((c.setIfInBounds 0 v0).setIfInBounds 1 v1).setIfInBounds 2 v2).setIfInBounds 3 v3 = #[v0, v1, v2, v3] := by
    obtain ⟨l⟩ := c
    match l, hc with
    | [x0, x1, x2, x3], _ => rfl
  rw [hc3] at hb2
  refine bodyPost_ret (results_one (q := q) (ty := 41) hfn ha (run_loadVar_row _ g 41 41 _ _ _ hb2 Tryd.underlying41 rfl (by kernel_rfl))) hd (hQ _ ?_)
  exact (((Keeps.setCell (S := (· = g)) w1 (a := ⟨g, 0, none⟩) rfl _).andSet (x := ⟨g, 1, none⟩) (.inl rfl) _).andSet (x := ⟨g, 2, none⟩) (.inl rfl) _).andSet (x := ⟨g, 3, none⟩) (.inl rfl) _
set_option maxHeartbeats 1600000 in
theorem entry_any (u : Int) (w : World) : Calls Tryd.prog 52 #[.int .i64 u] w fun e w' => ∃ v, e = .returned (.agg #[.int .i64 2, .int .i64 7, .int .i64 1, v]) ∧ OwnC w' w.heap.size v (entC u) ∧ Keeps None w w' := by
  have j0 : Keeps None w w := Keeps.refl _ _
  go_enter Tryd.func52, Tryd.ntmps52
  go_wp2_with fail
  refine (asm_const _ _ _).mono ?_
  rintro _ w1 ⟨rfl, k1⟩
  have j1 : Keeps None w w1 := (j0.andAlloc _).trans k1 (fun _ f _ => f)
  have bG := blk_kept (heap_alloc_new w (.cells #[.int .i64 0, .int .i64 0, .int .i64 0, .slice none 0 0] 41)) k1 (fun f => f)
  clear k1
  go_wp2_with fail
  refine (asm_const _ _ _).mono ?_
  rintro _ w2 ⟨rfl, k2⟩
  have j2 : Keeps None w w2 := j1.trans k2 (fun _ f _ => f)
  replace bG := blk_kept bG k2 (fun f => f)
  clear k2
  go_wp2_with fail
  refine (asm_arith _ _ _ _ _).mono ?_
  rintro _ w3 ⟨rfl, k3⟩
  have j3 : Keeps None w w3 := j2.trans k3 (fun _ f _ => f)
  replace bG := blk_kept bG k3 (fun f => f)
  clear k3
  go_wp2_with fail
  refine (asm_branch _ _ _).mono ?_
  rintro _ w4 ⟨rfl, k4⟩
  have j4 : Keeps None w w4 := j3.trans k4 (fun _ f _ => f)
  replace bG := blk_kept bG k4 (fun f => f)
  clear k4
  go_wp2_with fail
  refine (asm_const _ _ _).mono ?_
  rintro _ w5 ⟨rfl, k5⟩
  have j5 : Keeps None w w5 := j4.trans k5 (fun _ f _ => f)
  replace bG := blk_kept bG k5 (fun f => f)
  clear k5
  go_wp2_with fail
  refine (asm_arith _ _ _ _ _).mono ?_
  rintro _ w6 ⟨rfl, k6⟩
  have j6 : Keeps None w w6 := j5.trans k6 (fun _ f _ => f)
  replace bG := blk_kept bG k6 (fun f => f)
  clear k6
  go_wp2_with fail
  refine (asm_move _ _ _).mono ?_
  rintro _ w7 ⟨rfl, k7⟩
  have j7 : Keeps None w w7 := j6.trans k7 (fun _ f _ => f)
  replace bG := blk_kept bG k7 (fun f => f)
  clear k7
  go_wp2_with fail
  refine (asm_spawn _ _ _ _).mono ?_
  rintro _ w8 ⟨rfl, k8⟩
  have j8 : Keeps None w w8 := j7.trans k8 (fun _ f _ => f)
  replace bG := blk_kept bG k8 (fun f => f)
  clear k8
  go_wp2_with fail
  refine (asm_sync _).mono ?_
  rintro _ w9 ⟨rfl, k9⟩
  have j9 : Keeps None w w9 := j8.trans k9 (fun _ f _ => f)
  replace bG := blk_kept bG k9 (fun f => f)
  clear k9
  go_wp2_with fail
  refine (asm_load _ _ _).mono ?_
  rintro _ w10 ⟨rfl, k10⟩
  have j10 : Keeps None w w10 := j9.trans k10 (fun _ f _ => f)
  replace bG := blk_kept bG k10 (fun f => f)
  clear k10
  go_wp2_with fail
  refine (asm_return _ _).mono ?_
  rintro _ w11 ⟨rfl, k11⟩
  have j11 : Keeps None w w11 := j10.trans k11 (fun _ f _ => f)
  replace bG := blk_kept bG k11 (fun f => f)
  clear k11
  have hlt := blk_lt bG
  have al := own_lit w11 (entC u) _ 11 rfl rfl (by simp [entC])
  go_wp2_with fail
  refine (asm_func _ _ _ _ _ _ _).mono ?_
  rintro _ w12 ⟨rfl, k12⟩
  replace al := al.more k12
  replace bG := blk_kept (blk_kept bG (Keeps.alloc None _ _) (fun f => f)) k12 (fun f => f)
  have j12 : Keeps None w w12 := (j11.andAlloc _).trans k12 (fun _ f _ => f)
  obtain ⟨G, hG⟩ : ∃ G, G = w.heap.size := ⟨_, rfl⟩
  have HF : Hid (OwnC w12 w11.heap.size _ _ ∧ Keeps None w w12 ∧ w.heap.size < w11.heap.size) := ⟨al, j12, hlt⟩
  rw [← hG] at bG
  have c0 : w12.cell? ⟨G, 0, none⟩ = some (.int .i64 0) := (blk_cell bG 0).trans rfl
  have c1 : w12.cell? ⟨G, 1, none⟩ = some (.int .i64 0) := (blk_cell bG 1).trans rfl
  have c2 : w12.cell? ⟨G, 2, none⟩ = some (.int .i64 0) := (blk_cell bG 2).trans rfl
  have c3 : w12.cell? ⟨G, 3, none⟩ = some (.slice none 0 0) := (blk_cell bG 3).trans rfl
  have z0 := blk_free bG 0
  have z1 := blk_free bG 1
  have z2 := blk_free bG 2
  have z3 := blk_free bG 3
  have HB : Hid (w12.heap[G]? = some (.cells #[.int .i64 0, .int .i64 0, .int .i64 0, .slice none 0 0] 41 (0, 0)) ∧ G = w.heap.size) := ⟨bG, hG⟩
  rw [← hG]
  clear al bG j12 k12 hG hlt
  go_wp2
  refine fn_end 2 rfl rfl HB.out.1 rfl rfl _ _ _ _ (fun w' hw' => ?_)
  refine ⟨_, rfl, (HF.out.1.kept hw' (fun g e q => ?_)).low (Nat.le_of_lt HF.out.2.2), HF.out.2.1.trans hw' (fun i e hi => ?_)⟩
  · have := (HF.out.1.base e).1; have := HF.out.2.2; have := HB.out.2; omega
  · have := HB.out.2; omega
set_option maxHeartbeats 1600000 in
theorem ranged_any (a1 a2 : Option Addr) (n1 c1 n2 c2 b1 b2 : Nat) (lf hv : List Ins) (w : World) (e1 : n1 = lf.length) (e2 : n2 = hv.length) (ol : OwnC w b1 (.slice a1 n1 c1) lf) (oh : OwnC w b2 (.slice a2 n2 c2) hv) (h1 : lf.length ≤ 200) (h2 : hv.length ≤ 200) : Calls Tryd.prog 53 #[.slice a1 n1 c1, .slice a2 n2 c2] w fun e w' => ∃ v, e = .returned (.agg #[.int .i64 3, .int .i64 11, .int .i64 2, v]) ∧ OwnC w' w.heap.size v (rnC lf hv) ∧ Keeps None w w' := by
  have j0 : Keeps None w w := Keeps.refl _ _
  have i1 : (n1 : Int) ≤ 200 := by omega
  have HE : Hid (n1 = lf.length ∧ lf.length ≤ 200 ∧ hv.length ≤ 200) := ⟨e1, h1, h2⟩
  clear e1 e2 h1 h2
  go_enter Tryd.func53, Tryd.ntmps53
  go_wp2_with fail
  refine (asm_arith _ _ _ _ _).mono ?_
  rintro _ w1 ⟨rfl, k1⟩
  have j1 : Keeps None w w1 := (j0.andAlloc _).trans k1 (fun _ f _ => f)
  have bG := blk_kept (heap_alloc_new w (.cells #[.int .i64 0, .int .i64 0, .int .i64 0, .slice none 0 0] 41)) k1 (fun f => f)
  replace ol := (ol.more (Keeps.alloc None _ _)).more k1
  replace oh := (oh.more (Keeps.alloc None _ _)).more k1
  clear k1
  go_wp2_with fail
  refine (asm_arith _ _ _ _ _).mono ?_
  rintro _ w2 ⟨rfl, k2⟩
  have j2 : Keeps None w w2 := j1.trans k2 (fun _ f _ => f)
  replace bG := blk_kept bG k2 (fun f => f)
  replace ol := ol.more k2
  replace oh := oh.more k2
  clear k2
  go_wp2_with fail
  refine (asm_branch _ _ _).mono ?_
  rintro _ w3 ⟨rfl, k3⟩
  have j3 : Keeps None w w3 := j2.trans k3 (fun _ f _ => f)
  replace bG := blk_kept bG k3 (fun f => f)
  replace ol := ol.more k3
  replace oh := oh.more k3
  clear k3
  have hlt := blk_lt bG
  have al := own_lit w3 (choC (3 + (n1 : Int))) _ 3 rfl rfl (by simp [choC])
  replace bG := blk_kept bG (Keeps.alloc None _ (.cells (codeC (choC (3 + (n1 : Int)))).toArray 43)) (fun f => f)
  have hfl : [choC (3 + (n1 : Int)), lf, hv].flatten = rnC lf hv := by
    unfold rnC
    rw [← HE.out.1]
    simp
  have hle : (rnC lf hv).length ≤ 500 := by have := HE.out; simp [rnC, choC]; omega
  have hpo : 0 < (rnC lf hv).length := by simp [rnC, choC]
  go_wp2_with fail
  refine (concat_any _ 3 3 [choC (3 + (n1 : Int)), lf, hv] _ (seenS_lit _ [(_, choC (3 + (n1 : Int))), (_, lf), (_, hv)] _ 3 [choC (3 + (n1 : Int)), lf, hv] _ (by simp) rfl rfl rfl ?_) (by omega) (by rw [hfl]; exact hpo) (by rw [hfl]; omega)).mono ?_
  · intro x hx
    simp only [List.mem_cons, List.not_mem_nil, or_false] at hx
    rcases hx with rfl | rfl | rfl
    · exact ⟨_, al⟩
    · exact ⟨_, ol.more (Keeps.alloc None _ _)⟩
    · exact ⟨_, oh.more (Keeps.alloc None _ _)⟩
  rw [hfl]
  rintro _ w4 ⟨ca, cc, rfl, ho, hk⟩
  have j4 : Keeps None w w4 := ((j3.andAlloc _).andAlloc _).trans hk (fun _ f _ => f)
  replace bG := blk_kept (blk_kept bG (Keeps.alloc None _ _) (fun f => f)) hk (fun f => f)
  replace ho := ho.low (b2 := w3.heap.size) (by simp; omega)
  clear hk al
  generalize (rnC lf hv).length = R at *
  go_wp2_with fail
  refine (asm_func _ _ _ _ _ _ _).mono ?_
  rintro _ w5 ⟨rfl, k5⟩
  replace ho := ho.more k5
  replace bG := blk_kept bG k5 (fun f => f)
  have j5 : Keeps None w w5 := j4.trans k5 (fun _ f _ => f)
  obtain ⟨G, hG⟩ : ∃ G, G = w.heap.size := ⟨_, rfl⟩
  have HF : Hid (OwnC w5 w3.heap.size _ _ ∧ Keeps None w w5 ∧ w.heap.size < w3.heap.size) := ⟨ho, j5, hlt⟩
  rw [← hG] at bG
  have c0 : w5.cell? ⟨G, 0, none⟩ = some (.int .i64 0) := (blk_cell bG 0).trans rfl
  have c1' : w5.cell? ⟨G, 1, none⟩ = some (.int .i64 0) := (blk_cell bG 1).trans rfl
  have c2' : w5.cell? ⟨G, 2, none⟩ = some (.int .i64 0) := (blk_cell bG 2).trans rfl
  have c3 : w5.cell? ⟨G, 3, none⟩ = some (.slice none 0 0) := (blk_cell bG 3).trans rfl
  have z0 := blk_free bG 0
  have z1 := blk_free bG 1
  have z2 := blk_free bG 2
  have z3 := blk_free bG 3
  have HB : Hid (w5.heap[G]? = some (.cells #[.int .i64 0, .int .i64 0, .int .i64 0, .slice none 0 0] 41 (0, 0)) ∧ G = w.heap.size) := ⟨bG, hG⟩
  rw [← hG]
  clear ho bG j5 k5 hG hlt
  go_wp2
  refine fn_end 4 rfl rfl HB.out.1 rfl rfl _ _ _ _ (fun w' hw' => ?_)
  refine ⟨_, rfl, (HF.out.1.kept hw' (fun g e q => ?_)).low (Nat.le_of_lt HF.out.2.2), HF.out.2.1.trans hw' (fun i e hi => ?_)⟩
  · have := (HF.out.1.base e).1; have := HF.out.2.2; have := HB.out.2; omega
  · have := HB.out.2; omega
end Go.Proofs.YtiibflbfnoddmaaDoor
