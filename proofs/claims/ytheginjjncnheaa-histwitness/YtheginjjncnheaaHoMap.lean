import Derived.Test.YtheginjjncnheaaHiBase
import Derived.Laws.StructEq
import Derived.Maps.Own
/-! A map from four counts to a number. -/
namespace Go.Proofs.Ytheginjjncnheaa
set_option linter.unusedVariables false
set_option maxRecDepth 20000
set_option linter.unusedSimpArgs false
open Go.RowKit Go.HeapKit

/-- How many calls of each actor are done. -/
structure C4 where
  a : Nat
  b : Nat
  c : Nat
  d : Nat
deriving DecidableEq
def C4.arr (x : C4) : Array Value := #[.int .i64 x.a, .int .i64 x.b, .int .i64 x.c, .int .i64 x.d]
def C4.at (x : C4) : Nat → Nat
  | 0 => x.a
  | 1 => x.b
  | 2 => x.c
  | _ => x.d
def C4.inc (x : C4) : Nat → C4
  | 0 => { x with a := x.a + 1 }
  | 1 => { x with b := x.b + 1 }
  | 2 => { x with c := x.c + 1 }
  | _ => { x with d := x.d + 1 }
theorem C4.arr_at (x : C4) {i : Nat} (hi : i < 4) : x.arr[i]? = some (.int .i64 (x.at i)) := by
  rcases i with _ | _ | _ | _ | i
  · rfl
  · rfl
  · rfl
  · rfl
  · omega
theorem C4.arr_inc (x : C4) {i : Nat} (hi : i < 4) : x.arr.setIfInBounds i (.int .i64 ((x.at i : Int) + 1)) = (x.inc i).arr := by
  rcases i with _ | _ | _ | _ | i
  · rfl
  · rfl
  · rfl
  · rfl
  · omega
theorem C4.at_inc (x : C4) {i j : Nat} (hi : i < 4) (hj : j < 4) : (x.inc i).at j = if j = i then x.at j + 1 else x.at j := by
  rcases i with _ | _ | _ | _ | i <;> rcases j with _ | _ | _ | _ | j <;> first | rfl | omega
theorem C4.ext4 {x y : C4} (h : ∀ i, i < 4 → x.at i = y.at i) : x = y := by
  obtain ⟨a, b, c, d⟩ := x
  obtain ⟨a', b', c', d'⟩ := y
  have h0 : a = a' := h 0 (by omega)
  have h1 : b = b' := h 1 (by omega)
  have h2 : c = c' := h 2 (by omega)
  have h3 : d = d' := h 3 (by omega)
  rw [h0, h1, h2, h3]
theorem Try.underC : Try.prog.underlying 62 = some (.array 4 3) := by kernel_rfl
theorem Try.underI : Try.prog.underlying 3 = some (.int .i64) := by kernel_rfl
theorem Try.underM : Try.prog.underlying 56 = some (.map 62 3) := by kernel_rfl
theorem Try.zeroI (w : World) : (zeroValue 3).run Try.prog w = .ok (.int .i64 0) w := by kernel_rfl
theorem eqI4 (a b : Int) (n : Nat) (w : World) : (Op.equalIn (n + 1) 3 (.int .i64 a) (.int .i64 b)).run Try.prog w = .ok (a == b) w := run_equalIn_int _ _ _ _ _ _ _ Try.underI
theorem eqK (x y : C4) (w : World) : (Op.equal 62 (.agg x.arr) (.agg y.arr)).run Try.prog w = .ok (decide (x = y)) w := by
  obtain ⟨a, b, c, d⟩ := x
  obtain ⟨a', b', c', d'⟩ := y
  unfold Op.equal
  rw [show Op.maxDepth = 9998 + 1 + 1 from rfl]
  unfold Op.equalIn
  simp [run_underlying Try.underC, C4.arr]
  rw [show List.range' 0 4 = [0, 1, 2, 3] from rfl]
  simp only [List.forIn_cons, List.forIn_nil]
  by_cases h0 : a = a'
  · subst h0
    by_cases h1 : b = b'
    · subst h1
      by_cases h2 : c = c'
      · subst h2
        by_cases h3 : d = d'
        · subst h3
          simp [part, eqI4 _ _ 9998]
        · simp [part, eqI4 _ _ 9998, h3]
          omega
      · simp [part, eqI4 _ _ 9998, h2]
        omega
    · simp [part, eqI4 _ _ 9998, h1]
      omega
  · simp [part, eqI4 _ _ 9998, h0]
    omega
theorem checkI4 (a : Int) (e : Bool) (n : Nat) (w : World) : (Instr.checkKey e (n + 1) 3 (.int .i64 a)).run Try.prog w = .ok () w := by
  unfold Instr.checkKey
  simp [run_underlying Try.underI]
theorem checkK (x : C4) (e : Bool) (w : World) : (Instr.checkKey e 10000 62 (.agg x.arr)).run Try.prog w = .ok () w := by
  obtain ⟨a, b, c, d⟩ := x
  rw [show (10000 : Nat) = 9998 + 1 + 1 from rfl]
  unfold Instr.checkKey
  simp [run_underlying Try.underC, C4.arr]
  rw [show List.range' 0 4 = [0, 1, 2, 3] from rfl]
  simp only [List.forIn_cons, List.forIn_nil]
  simp [part, checkI4 _ _ 9998]
def lookM (M : List (C4 × Int)) (k : C4) : Option Int := (M.find? (fun p => decide (k = p.1))).map Prod.snd
def EntK (M : List (C4 × Int)) (es : List MapEntry) : Prop := es.map (fun e => (e.key, e.val)) = M.map (fun p => (Value.agg p.1.arr, Value.int .i64 p.2))
theorem find_ask (k : C4) (w : World) : ∀ (M : List (C4 × Int)) (es : List MapEntry) (i : Nat), EntK M es → ∃ r : Option (Nat × Value), (Instr.findAsking 62 (.agg k.arr) es i).run Try.prog w = .ok r w ∧ r.map Prod.snd = (lookM M k).map (Value.int .i64)
  | [], es, i, h => by
    have : es = [] := by unfold EntK at h; simpa using h
    subst this
    exact ⟨none, by simp [Instr.findAsking], rfl⟩
  | (k', v) :: M, es, i, h => by
    cases es with
    | nil => simp [EntK] at h
    | cons e es =>
      simp [EntK] at h
      obtain ⟨⟨h1, h2⟩, h3⟩ := h
      unfold Instr.findAsking
      rw [h1]
      by_cases e0 : k = k'
      · subst e0
        refine ⟨some (i, e.val), by simp [eqK], ?_⟩
        simp [lookM, h2]
      · obtain ⟨r, hr, hr2⟩ := find_ask k w M es (i + 1) (by simpa [EntK] using h3)
        refine ⟨r, by simp [eqK, e0, hr], ?_⟩
        rw [hr2]
        simp [lookM, e0]
theorem find_key (k : C4) (w : World) (M : List (C4 × Int)) (es : List MapEntry) (h : EntK M es) : ∃ r : Option (Nat × Value), (Instr.findKey 62 (.agg k.arr) es).run Try.prog w = .ok r w ∧ r.map Prod.snd = (lookM M k).map (Value.int .i64) := by
  unfold Instr.findKey
  cases es with
  | nil =>
    have : M = [] := by cases M with
      | nil => rfl
      | cons _ _ => simp [EntK] at h
    subst this
    exact ⟨none, by simp [run_underlying Try.underC, Instr.findNow], rfl⟩
  | cons e es =>
    obtain ⟨r, hr, hr2⟩ := find_ask k w M (e :: es) 0 h
    refine ⟨r, ?_, hr2⟩
    simp [run_underlying Try.underC, Instr.findNow, Instr.sameNow]
    exact hr
def IsMet (w : World) (b : Nat) (M : List (C4 × Int)) : Prop := ∃ es clock, w.heap[b]? = some (.map es clock) ∧ EntK M es.toList
theorem IsMet.lt {w : World} {b : Nat} {M : List (C4 × Int)} (h : IsMet w b M) : b < w.heap.size := by
  obtain ⟨es, cl, hb, _⟩ := h
  exact (Array.getElem?_eq_some_iff.1 hb).1
theorem IsMet.kept {w w' : World} {b : Nat} {M : List (C4 × Int)} {S : Nat → Prop} (h : IsMet w b M) (hk : Keeps S w w') (hS : ¬ S b) : IsMet w' b M := by
  have hl := h.lt
  obtain ⟨es, cl, hb, he⟩ := h
  exact ⟨es, cl, (hk.block b hl hS).trans hb, he⟩
theorem IsMet.look {w : World} {b : Nat} {M : List (C4 × Int)} (h : IsMet w b M) (k : C4) : (Instr.lookup 56 (.map (some b)) (.agg k.arr) false).run Try.prog w = .ok (.int .i64 ((lookM M k).getD 0)) w := by
  obtain ⟨es, cl, hb, he⟩ := h
  obtain ⟨r, hr, hr2⟩ := find_key k w M es.toList he
  simp [Instr.lookup, run_underlying Try.underM, MapKept.run_getObj_map hb, checkK, hr]
  cases r with
  | none =>
    have : lookM M k = none := by cases hq : lookM M k with
      | none => rfl
      | some x => rw [hq] at hr2; cases hr2
    simp [this, Try.zeroI]
  | some p =>
    obtain ⟨i, v⟩ := p
    cases hq : lookM M k with
    | none => rw [hq] at hr2; cases hr2
    | some x =>
      rw [hq] at hr2
      simp at hr2
      simp [hr2]
theorem IsMet.known {w : World} {b : Nat} {M : List (C4 × Int)} (h : IsMet w b M) (k : C4) : (Instr.lookup 56 (.map (some b)) (.agg k.arr) true).run Try.prog w = .ok (.tuple #[.int .i64 ((lookM M k).getD 0), .bool (lookM M k).isSome]) w := by
  obtain ⟨es, cl, hb, he⟩ := h
  obtain ⟨r, hr, hr2⟩ := find_key k w M es.toList he
  simp [Instr.lookup, run_underlying Try.underM, MapKept.run_getObj_map hb, checkK, hr]
  cases r with
  | none =>
    have : lookM M k = none := by cases hq : lookM M k with
      | none => rfl
      | some x => rw [hq] at hr2; cases hr2
    simp [this, Try.zeroI]
  | some p =>
    obtain ⟨i, v⟩ := p
    cases hq : lookM M k with
    | none => rw [hq] at hr2; cases hr2
    | some x =>
      rw [hq] at hr2
      simp at hr2
      simp [hr2]
theorem IsMet.put {w : World} {b : Nat} {M : List (C4 × Int)} (h : IsMet w b M) {k : C4} (hk : lookM M k = none) (v : Int) :
    ∃ w', (Instr.mapUpdate 56 (.map (some b)) (.agg k.arr) (.int .i64 v)).run Try.prog w = .ok () w' ∧ IsMet w' b (M ++ [(k, v)]) ∧ Keeps (· = b) w w' := by
  have hl := h.lt
  obtain ⟨es, cl, hb, he⟩ := h
  obtain ⟨r, hr, hr2⟩ := find_key k w M es.toList he
  have hn : r = none := by
    rw [hk] at hr2
    cases r with
    | none => rfl
    | some p => cases hr2
  subst hn
  simp [Instr.mapUpdate, run_underlying Try.underM, MapKept.run_getObj_map hb, checkK, hr, MapKept.run_setObj_map _ hb]
  refine ⟨⟨es.push { key := .agg k.arr, val := .int .i64 v, born := cl }, cl + 1, by simp [hl], ?_⟩, ⟨rfl, rfl, rfl, by simp, fun i hi hne => ?_⟩⟩
  · unfold EntK at he ⊢
    rw [Array.toList_push, List.map_append, List.map_append, he]
    rfl
  · show (w.heap.setIfInBounds b _)[i]? = w.heap[i]?
    rw [Array.getElem?_setIfInBounds_ne (fun e => hne e.symm)]
theorem look_push {M : List (C4 × Int)} {k k' : C4} {v : Int} : lookM (M ++ [(k, v)]) k' = match lookM M k' with | some x => some x | none => if k' = k then some v else none := by
  unfold lookM
  rw [List.find?_append]
  cases h : M.find? (fun p => decide (k' = p.1)) with
  | some x => simp
  | none =>
    by_cases e : k' = k
    · simp [e]
    · simp [e]
end Go.Proofs.Ytheginjjncnheaa
