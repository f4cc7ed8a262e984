import Derived.WalkKit
import Derived.ProofKit
import Derived.OpenShut
import Derived.Deep.Slices
import Derived.Test.YtocfcdnbielbiaaDoorPkAA
import Derived.OwnWalk
/-! Structs of 64-bit numbers among the arguments, and slices of them. Whatever the program. -/
namespace Go.HeapKit
open Go.ChangeShapes Go.WideShapes Go.ChangeAt Go.RowKit Go.Deep

section
variable {H : Type} {enc : TypeId × Value → H} {P : Program} {w : World} {base : Nat} {spare : Nat → Bool} {held : Bool}

/-- All fields are 64-bit numbers, one cell each, in order. -/
def allInts (P : Program) (fs : List Field) : Bool :=
  (List.range fs.length).all fun i => match fs[i]? with
    | some f => f.offset == i && (match P.underlying f.type with | some (.int .i64) => true | _ => false) && P.cellsOf f.type == 1
    | none => false
theorem allInts_at {fs : List Field} (h : allInts P fs = true) {i : Nat} {f : Field} (hf : fs[i]? = some f) : f.offset = i ∧ P.underlying f.type = some (.int .i64) ∧ P.cellsOf f.type = 1 := by
  have hi : i < fs.length := (List.getElem?_eq_some_iff.1 hf).1
  have := List.all_eq_true.1 h i (List.mem_range.2 hi)
  rw [hf] at this
  simp only [Bool.and_eq_true, beq_iff_eq] at this
  obtain ⟨⟨h1, h2⟩, h3⟩ := this
  refine ⟨h1, ?_, h3⟩
  split at h2
  · assumption
  · cases h2

theorem struct_ints {t : TypeId} {fs : Array Field} {fuel : Nat} {cs : List Value} {x : DataW H × List MemPlace} (ht : P.underlying t = some (.struct fs)) (ha : allInts P fs.toList = true) (hc : P.cellsOf t = fs.size)
    (h : DataW.trod enc P w base spare held fuel t cs = some x) : ∃ ns : List Int, ns.length = fs.size ∧ cs = ns.map (Value.int .i64) ∧ ∀ n ∈ ns, (Lit.int .i64 n).wf = true := by
  obtain ⟨xs, n, _, rfl, hl, hlen, hf⟩ := DataW.trod_struct ht h
  rw [hc] at hl
  have hat : ∀ i, i < fs.size → ∃ m : Int, cs[i]? = some (.int .i64 m) ∧ (Lit.int .i64 m).wf = true := by
    intro i hi
    have hfi : fs[i]? = some fs[i] := by simp [hi]
    obtain ⟨h1, h2, h3⟩ := allInts_at ha (i := i) (f := fs[i]) (by simp)
    have hq := hf i fs[i] hfi
    rw [h1, h3, show xs[i]? = some xs[i] by simp] at hq
    obtain ⟨m, hm, _, hw⟩ := DataW.trod_int h2 hq
    refine ⟨m, ?_, hw⟩
    have : (List.take 1 (List.drop i cs))[0]? = some (.int .i64 m) := by rw [hm]; rfl
    simpa [List.getElem?_take, List.getElem?_drop] using this
  have hall : ∀ v ∈ cs, ∃ m : Int, v = .int .i64 m ∧ (Lit.int .i64 m).wf = true := by
    intro v hv
    obtain ⟨i, hi, rfl⟩ := List.mem_iff_getElem.1 hv
    obtain ⟨m, hm, hw⟩ := hat i (by omega)
    exact ⟨m, by simpa [hi] using hm, hw⟩
  have hex : ∀ cs : List Value, (∀ v ∈ cs, ∃ m : Int, v = .int .i64 m ∧ (Lit.int .i64 m).wf = true) → ∃ ns : List Int, cs = ns.map (Value.int .i64) ∧ ∀ n ∈ ns, (Lit.int .i64 n).wf = true := by
    intro cs
    induction cs with
    | nil => exact fun _ => ⟨[], rfl, fun _ h => by cases h⟩
    | cons v cs ih =>
      intro hv
      obtain ⟨ns, rfl, hw⟩ := ih (fun u hu => hv u (List.mem_cons_of_mem _ hu))
      obtain ⟨m, rfl, hm⟩ := hv v (List.mem_cons_self ..)
      refine ⟨m :: ns, rfl, ?_⟩
      intro n hn
      rcases List.mem_cons.1 hn with rfl | hn
      · exact hm
      · exact hw n hn
  obtain ⟨ns, rfl, hw⟩ := hex cs hall
  exact ⟨ns, by simpa using hl, rfl, hw⟩

theorem open_struct_ints {r : Reach} {b0 : Nat} {t : TypeId} {fs : Array Field} {v : Value} {d : DataW H} {ps : List MemPlace} (ht : P.underlying t = some (.struct fs)) (ha : allInts P fs.toList = true) (hc : P.cellsOf t = fs.size)
    (hval : Value.okWide P w r b0 t v) (hd : DataW.Trod enc P w base spare held t v d ps) : ∃ ns : List Int, ns.length = fs.size ∧ v = .agg (ns.map (Value.int .i64)).toArray ∧ ∀ n ∈ ns, (Lit.int .i64 n).wf = true := by
  obtain ⟨cs, rfl, hs⟩ := okWide_struct ht hval
  obtain ⟨fuel, hf⟩ := hd
  obtain ⟨ns, hl, he, hw⟩ := struct_ints ht ha hc hf
  refine ⟨ns, hl, ?_, hw⟩
  have : cs.toList = ns.map (Value.int .i64) := by simpa [Value.cells] using he
  rw [← this]

/-- A slice of structs of numbers that came in: nil; or a grid of 'cap' rows, 'size' cells each. -/
def IsGrid (size : Nat) (w : World) (a : Option Addr) (len cap : Nat) (rows : List (List Int)) : Prop :=
  (a = none ∧ len = 0 ∧ cap = 0 ∧ rows = []) ∨
  ∃ x : Addr, a = some x ∧ len ≤ cap ∧ cap ≤ maxLen ∧ rows.length = cap ∧ (∀ i, i < cap → ∃ ns : List Int, rows[i]? = some ns ∧ ns.length = size ∧ (∀ n ∈ ns, (Lit.int .i64 n).wf = true) ∧ ∀ j m, ns[j]? = some m → w.cell? ((x.add (i * size)).add j) = some (.int .i64 m))

theorem grid_slice {t e : TypeId} {x : Addr} {len cap : Nat} {d : DataW H} {ps : List MemPlace} (ht : P.underlying t = some (.slice e)) (hd : DataW.Trod enc P w base spare held t (.slice (some x) len cap) d ps) : ∃ elems sp, d = .slice elems sp := by
  obtain ⟨fuel, hf⟩ := hd
  rcases open_slice ht hf with ⟨h0, _⟩ | ⟨x, l, c, m, n, D, Pl, hcs, _, _, _, _, hx, _⟩
  · simp [Value.cells] at h0
  · simp only [Prod.mk.injEq] at hx
    exact ⟨_, _, hx.1⟩
theorem open_grid {t e : TypeId} {fs : Array Field} {a : Option Addr} {len cap : Nat} {d : DataW H} {ps : List MemPlace} (ht : P.underlying t = some (.slice e)) (he : P.underlying e = some (.struct fs)) (ha : allInts P fs.toList = true) (hc : P.cellsOf e = fs.size)
    (hd : DataW.Trod enc P w base (fun _ => true) held t (.slice a len cap) d ps) : (∃ rows, IsGrid fs.size w a len cap rows) ∧ ∀ elems sp, d = .slice elems sp → elems.length + sp.length = cap := by
  obtain ⟨fuel, hf⟩ := hd
  rcases open_slice ht hf with ⟨h0, hx⟩ | ⟨x, l, c, m, n, D, Pl, hcs, _, hl, hm, hmm, hx, hall⟩
  · simp [Value.cells] at h0
    obtain ⟨rfl, rfl, rfl⟩ := h0
    simp only [Prod.mk.injEq] at hx
    exact ⟨⟨[], .inl ⟨rfl, rfl, rfl, rfl⟩⟩, fun elems sp e => by rw [hx.1] at e; cases e⟩
  · simp [Value.cells] at hcs
    obtain ⟨rfl, rfl, rfl⟩ := hcs
    have hmc : m = cap := by simpa using hmm
    subst hmc
    simp only [Prod.mk.injEq] at hx
    refine ⟨?_, fun elems sp e => by rw [hx.1] at e; injection e with e1 e2; rw [← e1, ← e2]; simp; omega⟩
    have hrow : ∀ i, i < m → ∃ ns : List Int, ns.length = fs.size ∧ (∀ n ∈ ns, (Lit.int .i64 n).wf = true) ∧ ∀ j m, ns[j]? = some m → w.cell? ((x.add (i * fs.size)).add j) = some (.int .i64 m) := by
      intro i hi
      obtain ⟨cs', h1, h2⟩ := hall i hi
      rw [hc] at h1
      obtain ⟨ns, hl, rfl, hw⟩ := struct_ints he ha hc h2
      refine ⟨ns, hl, hw, ?_⟩
      intro j m hj
      obtain ⟨_, hlen, hcell⟩ := World.cells?_some h1
      rw [hcell j (by have := (List.getElem?_eq_some_iff.1 hj).1; omega)]
      simp [hj]
    have hex : ∀ k, k ≤ m → ∃ rows : List (List Int), rows.length = k ∧ ∀ i, i < k → ∃ ns : List Int, rows[i]? = some ns ∧ ns.length = fs.size ∧ (∀ n ∈ ns, (Lit.int .i64 n).wf = true) ∧ ∀ j m, ns[j]? = some m → w.cell? ((x.add (i * fs.size)).add j) = some (.int .i64 m) := by
      intro k
      induction k with
      | zero => exact fun _ => ⟨[], rfl, fun _ h => by omega⟩
      | succ k ih =>
        intro hk
        obtain ⟨rows, hrl, hr⟩ := ih (by omega)
        obtain ⟨ns, h1, h2, h3⟩ := hrow k (by omega)
        refine ⟨rows ++ [ns], by simp [hrl], ?_⟩
        intro i hi
        by_cases hik : i < k
        · obtain ⟨ns', e, r⟩ := hr i hik
          exact ⟨ns', by rw [List.getElem?_append_left (by omega)]; exact e, r⟩
        · obtain rfl : i = k := by omega
          exact ⟨ns, by rw [List.getElem?_append_right (by omega), hrl]; simp, h1, h2, h3⟩
    obtain ⟨rows, hrl, hr⟩ := hex m (Nat.le_refl _)
    exact ⟨rows, .inr ⟨x, rfl, hl, hm, hrl, hr⟩⟩
end
end Go.HeapKit
/-! A program among the arguments. -/
namespace Go.Proofs.YtocfcdnbielbiaaDoor
set_option linter.unusedVariables false
set_option maxRecDepth 20000
open Go.ChangeShapes Go.WideShapes Go.ChangeAt Go.RowKit Go.HeapKit Go.Deep

section
variable {H : Type} {enc : TypeId × Value → H} {w : World} {base : Nat} {held : Bool}
theorem spot_none {w : World} {x : Addr} {v : Value} (h : w.cell? x = some v) : x.spot = none := by
  unfold World.cell? at h
  split at h
  · split at h
    · cases h
    · rename_i hs; simpa using hs
  · cases h
theorem spot_first {w : World} {base n : Nat} {x : Addr} {cs : List Value} (h : w.cells? base (x.add (0 * n)) n = some cs) (hn : 0 < n) : x.spot = none := by
  obtain ⟨_, hl, hc⟩ := World.cells?_some h
  have h0 := hc 0 hn
  rw [Nat.zero_mul, show (x.add 0).add 0 = x by unfold Addr.add; simp, List.getElem?_eq_getElem (by omega)] at h0
  exact spot_none h0
theorem choose_list {α : Type} (p : Nat → α → Prop) (n : Nat) (h : ∀ i, i < n → ∃ x, p i x) : ∃ l : List α, l.length = n ∧ ∀ i x, l[i]? = some x → p i x := by
  induction n with
  | zero => exact ⟨[], rfl, fun i x hx => by simp at hx⟩
  | succ n ih =>
    obtain ⟨l, hl, hp⟩ := ih (fun i hi => h i (by omega))
    obtain ⟨x, hx⟩ := h n (by omega)
    refine ⟨l ++ [x], by simp [hl], fun i y hy => ?_⟩
    by_cases hi : i < n
    · rw [List.getElem?_append_left (by omega)] at hy
      exact hp i y hy
    · have hlt := (List.getElem?_eq_some_iff.1 hy).1
      simp [hl] at hlt
      obtain rfl : i = n := by omega
      rw [List.getElem?_append_right (by omega), hl] at hy
      simp at hy
      subst hy
      exact hx
theorem okI_of_wf {x : Int} (h : (Lit.int .i64 x).wf = true) : okI x := by
  have h1 : IntKind.i64.min = -9223372036854775808 := by decide
  have h2 : IntKind.i64.max = 9223372036854775807 := by decide
  simp [Lit.wf, h1, h2] at h
  unfold okI
  omega
theorem add_at {b o : Nat} (k : Nat) : (⟨b, o, none⟩ : Addr).add k = ⟨b, o + k, none⟩ := by unfold Addr.add; split <;> simp_all

theorem open_codes {fuel : Nat} {cs : List Value} {x : DataW H × List MemPlace} (h : DataW.trod enc Tryd.prog w base (fun _ => true) held fuel 42 cs = some x) :
    ∃ ca n cc l, cs = [.slice ca n cc] ∧ SeenI w ca n l ∧ ∀ i ∈ l, Ins.Ok i := by
  rcases open_slice Tryd.underlying42 h with ⟨rfl, _⟩ | ⟨a, len, cap, m, n, D, Pl, rfl, _, hl, hm, hmm, _, hall⟩
  · exact ⟨none, 0, 0, [], rfl, ⟨rfl, fun h => by omega⟩, fun i hi => by cases hi⟩
  · simp at hmm
    subst hmm
    have hc : Tryd.prog.cellsOf 46 = 5 := by kernel_rfl
    rw [hc] at hall
    have hex : ∀ i, i < len → ∃ x : Ins, x.Ok ∧ ∃ b off, a = ⟨b, off, none⟩ ∧ b < w.heap.size ∧ InsAt w b (off + i * 5) x := by
      intro i hi
      obtain ⟨cs', h1, h2⟩ := hall i (by omega)
      obtain ⟨ns, hl, rfl, hw⟩ := struct_ints Tryd.underlying46 (by kernel_rfl) (by kernel_rfl) h2
      obtain ⟨_, hlen, hcell⟩ := World.cells?_some h1
      have hl5 : ns.length = 5 := hl
      match ns, hl5 with
      | [n0, n1, n2, n3, n4], _ =>
        obtain ⟨b, off, sp⟩ := a
        have hsp : sp = none := by
          obtain ⟨cs0, hz, _⟩ := hall 0 (by omega)
          exact spot_first hz (by omega)
        subst hsp
        have hh : ∀ j, j < 5 → w.cell? ⟨b, off + i * 5 + j, none⟩ = ([n0, n1, n2, n3, n4].map (Value.int .i64))[j]? := by
          intro j hj
          have := hcell j hj
          rw [add_at, add_at] at this
          exact this
        refine ⟨⟨n0, n1, n2, n3, n4⟩, ⟨okI_of_wf (hw _ (by simp)), okI_of_wf (hw _ (by simp)), okI_of_wf (hw _ (by simp)), okI_of_wf (hw _ (by simp)), okI_of_wf (hw _ (by simp))⟩, b, off, rfl, ?_, ⟨hh 0 (by omega), hh 1 (by omega), hh 2 (by omega), hh 3 (by omega), hh 4 (by omega)⟩⟩
        have h0' := hh 0 (by omega)
        cases hb : w.heap[b]? with
        | none => simp [World.cell?, hb] at h0'
        | some o => exact (Array.getElem?_eq_some_iff.1 hb).1
    obtain ⟨l, hll, hp⟩ := choose_list _ len hex
    refine ⟨some a, len, m, l, rfl, ⟨hll.symm, fun h0 => ?_⟩, fun i hi => ?_⟩
    · obtain ⟨_, b, off, rfl, hb, _⟩ := hp 0 (l[0]'(by omega)) (by simp)
      refine ⟨b, off, rfl, hb, fun k i hi => ?_⟩
      obtain ⟨_, b', off', e, _, hat⟩ := hp k i hi
      injection e with e1 e2
      subst e1 e2
      exact hat
    · obtain ⟨k, hk, rfl⟩ := List.mem_iff_getElem.1 hi
      exact (hp k _ (by simp)).1

theorem open_funcs {fuel : Nat} {cs : List Value} {x : DataW H × List MemPlace} (h : DataW.trod enc Tryd.prog w base (fun _ => true) held fuel 22 cs = some x) :
    ∃ ca n cc l, cs = [.slice ca n cc] ∧ SeenF w ca n l ∧ ∀ f ∈ l, Fn.Ok f := by
  rcases open_slice Tryd.underlying22 h with ⟨rfl, _⟩ | ⟨a, len, cap, m, n, D, Pl, rfl, _, hl, hm, hmm, _, hall⟩
  · exact ⟨none, 0, 0, [], rfl, ⟨rfl, fun h => by omega⟩, fun i hi => by cases hi⟩
  · simp at hmm
    subst hmm
    have hc : Tryd.prog.cellsOf 44 = 4 := by kernel_rfl
    rw [hc] at hall
    have hex : ∀ i, i < len → ∃ x : Fn, x.Ok ∧ ∃ b off ca cc, a = ⟨b, off, none⟩ ∧ b < w.heap.size ∧ FnAt w b (off + i * 4) x ca cc := by
      intro i hi
      obtain ⟨cs', h1, h2⟩ := hall i (by omega)
      obtain ⟨_, hlen, hcell⟩ := World.cells?_some h1
      obtain ⟨xs, n, _, _, hl', hxl, hf⟩ := DataW.trod_struct Tryd.underlying44 h2
      have q0 : DataW.trod enc Tryd.prog w base (fun _ => true) held n 3 (List.take (Tryd.prog.cellsOf 3) (List.drop 0 cs')) = xs[0]? := hf 0 _ rfl
      have q1 : DataW.trod enc Tryd.prog w base (fun _ => true) held n 3 (List.take (Tryd.prog.cellsOf 3) (List.drop 1 cs')) = xs[1]? := hf 1 _ rfl
      have q2 : DataW.trod enc Tryd.prog w base (fun _ => true) held n 3 (List.take (Tryd.prog.cellsOf 3) (List.drop 2 cs')) = xs[2]? := hf 2 _ rfl
      have q3 : DataW.trod enc Tryd.prog w base (fun _ => true) held n 42 (List.take (Tryd.prog.cellsOf 42) (List.drop 3 cs')) = xs[3]? := hf 3 _ rfl
      have hx4 : xs.length = 4 := hxl
      rw [List.getElem?_eq_getElem (by omega)] at q0
      rw [List.getElem?_eq_getElem (by omega)] at q1
      rw [List.getElem?_eq_getElem (by omega)] at q2
      rw [List.getElem?_eq_getElem (by omega)] at q3
      have ci : Tryd.prog.cellsOf 3 = 1 := by kernel_rfl
      have cc1 : Tryd.prog.cellsOf 42 = 1 := by kernel_rfl
      rw [ci] at q0 q1 q2
      rw [cc1] at q3
      match cs', hlen with
      | [v0, v1, v2, v3], _ =>
        obtain ⟨n0, e0, _, w0⟩ := DataW.trod_int Tryd.underlying3 q0
        obtain ⟨n1, e1, _, w1⟩ := DataW.trod_int Tryd.underlying3 q1
        obtain ⟨n2, e2, _, w2⟩ := DataW.trod_int Tryd.underlying3 q2
        obtain ⟨ca, cn, cc, l, e3, hS, hok⟩ := open_codes q3
        simp at e0 e1 e2 e3
        subst e0 e1 e2 e3
        obtain ⟨b, off, sp⟩ := a
        have hsp : sp = none := by
          obtain ⟨cs0, hz, _⟩ := hall 0 (by omega)
          exact spot_first hz (by omega)
        subst hsp
        have hh : ∀ j, j < 4 → w.cell? ⟨b, off + i * 4 + j, none⟩ = [Value.int .i64 n0, .int .i64 n1, .int .i64 n2, .slice ca cn cc][j]? := by
          intro j hj
          have := hcell j hj
          rw [add_at, add_at] at this
          exact this
        have hcn := hS.len
        subst hcn
        refine ⟨⟨n0, n1, n2, l⟩, ⟨okI_of_wf w0, okI_of_wf w1, okI_of_wf w2, hok⟩, b, off, ca, cc, rfl, ?_, ⟨hh 0 (by omega), hh 1 (by omega), hh 2 (by omega), hh 3 (by omega), hS⟩⟩
        have h0' := hh 0 (by omega)
        cases hb : w.heap[b]? with
        | none => simp [World.cell?, hb] at h0'
        | some o => exact (Array.getElem?_eq_some_iff.1 hb).1
    obtain ⟨l, hll, hp⟩ := choose_list _ len hex
    refine ⟨some a, len, m, l, rfl, ⟨hll.symm, fun h0 => ?_⟩, fun i hi => ?_⟩
    · obtain ⟨_, b, off, _, _, rfl, hb, _⟩ := hp 0 (l[0]'(by omega)) (by simp)
      refine ⟨b, off, rfl, hb, fun k i hi => ?_⟩
      obtain ⟨_, b', off', ca, cc, e, _, hat⟩ := hp k i hi
      injection e with e1 e2
      subst e1 e2
      exact ⟨ca, cc, hat⟩
    · obtain ⟨k, hk, rfl⟩ := List.mem_iff_getElem.1 hi
      exact (hp k _ (by simp)).1
theorem open_prog {r : Reach} {b0 : Nat} {v : Value} {d : DataW H} {ps : List MemPlace} (hval : Value.okWide Tryd.prog w r b0 24 v) (hd : DataW.Trod enc Tryd.prog w base (fun _ => true) held 24 v d ps) :
    ∃ a n c l, v = .agg #[.slice a n c] ∧ SeenF w a n l ∧ ∀ f ∈ l, Fn.Ok f := by
  obtain ⟨cs, rfl, hs⟩ := okWide_struct Tryd.underlying24 hval
  rw [show Tryd.prog.cellsOf 24 = 1 by kernel_rfl] at hs
  obtain ⟨fuel, hf⟩ := hd
  obtain ⟨xs, n, _, _, hl', hxl, hf⟩ := DataW.trod_struct Tryd.underlying24 hf
  have q0 : DataW.trod enc Tryd.prog w base (fun _ => true) held n 22 (List.take (Tryd.prog.cellsOf 22) (List.drop 0 (Value.agg cs).cells.toList)) = xs[0]? := hf 0 _ rfl
  have hx1 : xs.length = 1 := hxl
  rw [List.getElem?_eq_getElem (by omega)] at q0
  obtain ⟨cs⟩ := cs
  match cs, hs with
  | [v0], _ =>
    rw [show Tryd.prog.cellsOf 22 = 1 by kernel_rfl] at q0
    obtain ⟨a, n, c, l, e, hS, hok⟩ := open_funcs q0
    simp [Value.cells] at e
    subst e
    exact ⟨a, n, c, l, rfl, hS, hok⟩
end
end Go.Proofs.YtocfcdnbielbiaaDoor
/-! The search's memory: where each point was met from; the queue; the ways. -/
namespace Go.Proofs.YtocfcdnbielbiaaDoor
set_option linter.unusedVariables false
set_option maxRecDepth 20000
open Go.RowKit Go.HeapKit

theorem blk_cell {w : World} {p : Nat} {c : Array Value} {t : TypeId} {fz : Nat × Nat} (h : w.heap[p]? = some (.cells c t fz)) (i : Nat) : w.cell? ⟨p, i, none⟩ = c[i]? := by
  simp [World.cell?, h]
theorem blk_free {w : World} {p : Nat} {c : Array Value} {t : TypeId} (h : w.heap[p]? = some (.cells c t (0, 0))) (i : Nat) : w.frozen? ⟨p, i, none⟩ = false := by
  simp [World.frozen?, h]
theorem blk_set {w : World} {p i : Nat} {c : Array Value} {t : TypeId} {fz : Nat × Nat} (h : w.heap[p]? = some (.cells c t fz)) (v : Value) :
    (w.setCell ⟨p, i, none⟩ v).heap[p]? = some (.cells (c.setIfInBounds i v) t fz) := by
  simp [World.setCell, Array.getElem?_modify, h]
theorem blk_lt {w : World} {p : Nat} {o : Obj} (h : w.heap[p]? = some o) : p < w.heap.size := (Array.getElem?_eq_some_iff.1 h).1
theorem blk_kept {w w' : World} {S : Nat → Prop} {p : Nat} {o : Obj} (h : w.heap[p]? = some o) (hk : Keeps S w w') (hS : ¬ S p) : w'.heap[p]? = some o := (hk.block p (blk_lt h) hS).trans h

def ptVals (l : List Pt) : List Value := l.flatMap (fun t => [Value.int .i64 t.1, .int .i64 t.2])
theorem ptVals_length (l : List Pt) : (ptVals l).length = l.length * 2 := by
  induction l with
  | nil => rfl
  | cons x l ih => simp only [ptVals, List.flatMap_cons, List.length_append, List.length_cons, List.length_nil] at ih ⊢; omega
theorem ptVals_append (a b : List Pt) : ptVals (a ++ b) = ptVals a ++ ptVals b := by simp [ptVals]
theorem ptVals_at (l : List Pt) (k : Nat) (x : Pt) (h : l[k]? = some x) : (ptVals l)[k * 2]? = some (.int .i64 x.1) ∧ (ptVals l)[k * 2 + 1]? = some (.int .i64 x.2) := by
  induction l generalizing k with
  | nil => simp at h
  | cons y l ih =>
    have e : ptVals (y :: l) = [Value.int .i64 y.1, .int .i64 y.2] ++ ptVals l := rfl
    rw [e]
    cases k with
    | zero => simp at h; subst h; simp
    | succ k =>
      have := ih k (by simpa using h)
      rw [show (k + 1) * 2 = k * 2 + 2 by omega]
      simpa using this
theorem ptVals_set (l : List Pt) (k : Nat) (x : Pt) (hk : k < l.length) : ((ptVals l).set (k * 2) (.int .i64 x.1)).set (k * 2 + 1) (.int .i64 x.2) = ptVals (l.set k x) := by
  induction l generalizing k with
  | nil => simp at hk
  | cons y l ih =>
    have e : ptVals (y :: l) = [Value.int .i64 y.1, .int .i64 y.2] ++ ptVals l := rfl
    cases k with
    | zero => rfl
    | succ k =>
      have h1 := ih k (by simpa using hk)
      have e2 : ptVals ((y :: l).set (k + 1) x) = [Value.int .i64 y.1, .int .i64 y.2] ++ ptVals (l.set k x) := rfl
      rw [e, e2, ← h1, show (k + 1) * 2 = k * 2 + 2 by omega]
      rfl
theorem ptVals_one (l : List Pt) : ∀ u ∈ ptVals l, u.oneCell' = true := by
  intro u hu
  simp only [ptVals, List.mem_flatMap, List.mem_cons, List.not_mem_nil, or_false] at hu
  obtain ⟨t, _, rfl | rfl⟩ := hu <;> rfl

/-- Where each point was met from: n places, five states each. -/
structure IsFrom (w : World) (g n : Nat) (fr : List Pt) : Prop where
  blk : w.heap[g]? = some (.cells (ptVals fr).toArray 123 (0, 0))
  len : fr.length = n * 5
theorem IsFrom.at {w : World} {g n : Nat} {fr : List Pt} (h : IsFrom w g n fr) {k : Nat} {x : Pt} (hx : fr[k]? = some x) : w.cell? ⟨g, k * 2, none⟩ = some (.int .i64 x.1) ∧ w.cell? ⟨g, k * 2 + 1, none⟩ = some (.int .i64 x.2) := by
  rw [blk_cell h.blk, blk_cell h.blk]
  simpa using ptVals_at fr k x hx
theorem IsFrom.kept {w w' : World} {S : Nat → Prop} {g n : Nat} {fr : List Pt} (h : IsFrom w g n fr) (hk : Keeps S w w') (hS : ¬ S g) : IsFrom w' g n fr := ⟨blk_kept h.blk hk hS, h.len⟩
theorem IsFrom.set {w : World} {g n : Nat} {fr : List Pt} (h : IsFrom w g n fr) (k : Nat) (x : Pt) (hk : k < fr.length) : IsFrom ((w.setCell ⟨g, k * 2, none⟩ (.int .i64 x.1)).setCell ⟨g, k * 2 + 1, none⟩ (.int .i64 x.2)) g n (fr.set k x) := by
  refine ⟨?_, by simpa using h.len⟩
  rw [blk_set (blk_set h.blk _) _, ← ptVals_set fr k x hk]
  simp

/-- A queue of points. -/
structure IsQ (w : World) (base : Nat) (v : Value) (l : List Pt) : Prop where
  ex : (v = .slice none 0 0 ∧ l = []) ∨ ∃ g off cap cur, v = .slice (some ⟨g, off, none⟩) l.length cap ∧ base ≤ g ∧ w.heap[g]? = some (.cells cur 122 (0, 0)) ∧ l.length ≤ cap ∧ cap ≤ maxLen ∧ off + cap * 2 ≤ cur.size ∧
    ∀ j u, (ptVals l)[j]? = some u → cur[off + j]? = some u
def qBlock : Value → Option Nat
  | .slice (some a) _ _ => some a.block
  | _ => none
theorem IsQ.kept {w w' : World} {S : Nat → Prop} {base : Nat} {v : Value} {l : List Pt} (h : IsQ w base v l) (hk : Keeps S w w') (hS : ∀ g, qBlock v = some g → ¬ S g) : IsQ w' base v l := by
  refine ⟨?_⟩
  rcases h.ex with h0 | ⟨g, off, cap, cur, rfl, hb, hg, r⟩
  · exact .inl h0
  · exact .inr ⟨g, off, cap, cur, rfl, hb, blk_kept hg hk (hS g rfl), r⟩
theorem IsQ.low {w : World} {base : Nat} {v : Value} {l : List Pt} (h : IsQ w base v l) {g : Nat} (hg : qBlock v = some g) : base ≤ g ∧ g < w.heap.size ∧ ∃ cur, w.heap[g]? = some (.cells cur 122 (0, 0)) := by
  rcases h.ex with ⟨rfl, _⟩ | ⟨g', off, cap, cur, rfl, hb, hg', r⟩
  · simp [qBlock] at hg
  · simp [qBlock] at hg; subst hg; exact ⟨hb, blk_lt hg', cur, hg'⟩
theorem IsQ.head {w : World} {base : Nat} {v : Value} {x : Pt} {t : List Pt} (h : IsQ w base v (x :: t)) : ∃ g off cap, v = .slice (some ⟨g, off, none⟩) (t.length + 1) cap ∧ base ≤ g ∧ t.length + 1 ≤ cap ∧
    w.cell? ⟨g, off, none⟩ = some (.int .i64 x.1) ∧ w.cell? ⟨g, off + 1, none⟩ = some (.int .i64 x.2) ∧
    IsQ w base (.slice (some (if cap = 1 then ⟨g, off, none⟩ else ⟨g, off + 2, none⟩)) t.length (cap - 1)) t := by
  rcases h.ex with ⟨_, h0⟩ | ⟨g, off, cap, cur, rfl, hb, hg, hn, hm, hs, hc⟩
  · cases h0
  · simp only [List.length_cons] at hn ⊢
    refine ⟨g, off, cap, rfl, hb, hn, ?_, ?_, ⟨.inr ?_⟩⟩
    · rw [blk_cell hg]; exact hc 0 _ rfl
    · rw [blk_cell hg]; exact hc 1 _ rfl
    · by_cases h1 : cap = 1
      · rw [if_pos h1]
        have ht : t = [] := List.eq_nil_of_length_eq_zero (by omega)
        subst ht
        exact ⟨g, off, cap - 1, cur, rfl, hb, hg, by simp, by omega, by omega, fun j u hu => by simp [ptVals] at hu⟩
      · rw [if_neg h1]
        refine ⟨g, off + 2, cap - 1, cur, rfl, hb, hg, by omega, by omega, by omega, fun j u hu => ?_⟩
        have := hc (j + 2) u (by simpa [ptVals] using hu)
        rwa [show off + (j + 2) = off + 2 + j by omega] at this
theorem Tryd.infoPt : (Tryd.prog.info? 122).map (fun i => (i.zero, i.size, i.bytes)) = some (some (.agg #[.int .i64 0, .int .i64 0]), 2, 16) := by kernel_rfl
theorem Tryd.infoInt : (Tryd.prog.info? 3).map (fun i => (i.zero, i.size, i.bytes)) = some (some (.int .i64 0), 1, 8) := by kernel_rfl
theorem Tryd.infoFive : (Tryd.prog.info? 123).map (fun i => (i.zero, i.size, i.bytes)) = some (some (.agg (Array.replicate 10 (.int .i64 0))), 10, 80) := by kernel_rfl
/-- 'append(open, p)'. -/
theorem q_more (base : Nat) (v : Value) (l : List Pt) (x : Pt) (ty g0 : Nat) (w : World) (h : IsQ w base v l) (hb : base ≤ w.heap.size) (hlen : l.length ≤ 100000)
    (hg0 : w.heap[g0]? = some (.cells #[.int .i64 x.1, .int .i64 x.2] 122 (0, 0))) :
    ∃ v' w', (Builtin.append_ #[125, 125] ty #[v, .slice (some ⟨g0, 0, none⟩) 1 1]).run Tryd.prog w = .ok v' w' ∧ IsQ w' base v' (l ++ [x]) ∧ Keeps (fun k => qBlock v = some k) w w' ∧
      ∀ g, qBlock v' = some g → qBlock v = some g ∨ w.heap.size ≤ g := by
  obtain ⟨i0, hi, hz0, hz1, hz2⟩ := info_parts Tryd.infoPt
  have hnews : ∀ j u, [Value.int .i64 x.1, .int .i64 x.2][j]? = some u → w.cell? ((⟨g0, 0, none⟩ : Addr).add j) = some u := by
    intro j u hu
    rw [show (⟨g0, 0, none⟩ : Addr).add j = ⟨g0, j, none⟩ by unfold Addr.add; split <;> simp_all, blk_cell hg0]
    simpa using hu
  rcases h.ex with ⟨rfl, rfl⟩ | ⟨g, off, cap, cur, rfl, hbg, hg, hn, hm, hs, hc⟩
  · obtain ⟨v', w1, hr, ho, hgr, hm, -⟩ := run_append_moved (P := Tryd.prog) w base 125 ty 122 i0 _ 2 16 Tryd.underlying125 hi hz0 hz1 hz2 rfl (by decide) (.slice none 0 0) 0 [] ⟨by simp, .inl ⟨rfl, rfl⟩⟩
      ⟨g0, 0, none⟩ 1 1 [.int .i64 x.1, .int .i64 x.2] rfl hnews (by intro u hu; simp at hu; rcases hu with rfl | rfl <;> rfl) (by unfold maxLen; omega) (by omega) hb
    refine ⟨v', w1, hr, ⟨.inr ?_⟩, (Keeps.refl _ w).andGrown hgr (fun k e => by simp [Value.ownBlock] at e), ?_⟩
    · rcases ho.2 with ⟨_, h0⟩ | ⟨b, cap, cur, rfl, hb2, hg2, hn2, hm2, hs2, ht2⟩
      · omega
      · refine ⟨b, 0, cap, cur, rfl, hb2, hg2, hn2, hm2, by omega, fun j u hu => ?_⟩
        have e : ptVals ([] ++ [x]) = [Value.int .i64 x.1, .int .i64 x.2] := rfl
        rw [e, show [Value.int .i64 x.1, .int .i64 x.2] = [] ++ [Value.int .i64 x.1, .int .i64 x.2] from rfl, ← ht2, List.getElem?_take] at hu
        split at hu
        · simpa using hu
        · cases hu
    · intro g e
      rcases hm with hm | ⟨g', e', hg'⟩
      · rcases ho.2 with ⟨rfl, h0⟩ | ⟨b, cap, cur, rfl, _⟩
        · omega
        · simp [Value.ownBlock] at hm
      · rcases ho.2 with ⟨rfl, h0⟩ | ⟨b, cap, cur, rfl, _⟩
        · omega
        · simp [Value.ownBlock] at e'
          simp [qBlock] at e
          exact .inr (by omega)
  · by_cases hroom : l.length + 1 ≤ cap
    · have hcell : ∀ j, j < 2 → (w.cell? ⟨g, off + l.length * i0.size + j, none⟩).isSome = true := by
        intro j hj
        rw [blk_cell hg, hz1]
        have : off + l.length * 2 + j < cur.size := by omega
        simp [this]
      have hr := run_append_room_cells (P := Tryd.prog) w 125 ty 122 i0 Tryd.underlying125 hi g off l.length cap ⟨g0, 0, none⟩ 1 1 [.int .i64 x.1, .int .i64 x.2] (by rw [hz1]; rfl) hnews (by intro u hu; simp at hu; rcases hu with rfl | rfl <;> rfl) hroom (by simpa using hcell) (fun j _ => blk_free hg _)
      rw [hz1] at hr
      refine ⟨_, _, hr, ⟨.inr ?_⟩, ?_, ?_⟩
      · refine ⟨g, off, cap, _, by simp, hbg, blk_set (blk_set hg _) _, by simpa using hroom, hm, by simpa using hs, fun j u hu => ?_⟩
        rw [ptVals_append] at hu
        have hl2 := ptVals_length l
        by_cases hj : j < (ptVals l).length
        · rw [List.getElem?_append_left hj] at hu
          rw [Array.getElem?_setIfInBounds_ne (by omega), Array.getElem?_setIfInBounds_ne (by omega)]
          exact hc j u hu
        · rw [List.getElem?_append_right (by omega)] at hu
          have hlt := (List.getElem?_eq_some_iff.1 hu).1
          have hl3 : (ptVals [x]).length = 2 := rfl
          obtain hj2 | hj2 : j = l.length * 2 ∨ j = l.length * 2 + 1 := by omega
          · subst hj2
            rw [show l.length * 2 - (ptVals l).length = 0 by omega] at hu
            rw [Array.getElem?_setIfInBounds_ne (by omega), Array.getElem?_setIfInBounds_self_of_lt (by omega)]
            exact hu
          · subst hj2
            rw [show l.length * 2 + 1 - (ptVals l).length = 1 by omega] at hu
            rw [show off + (l.length * 2 + 1) = off + l.length * 2 + 1 by omega, Array.getElem?_setIfInBounds_self_of_lt (by simp; omega)]
            exact hu
      · exact ((Keeps.refl (fun k => qBlock (.slice (some ⟨g, off, none⟩) l.length cap) = some k) w).andSet (x := ⟨g, off + l.length * 2, none⟩) (.inl rfl) (.int .i64 x.1)).andSet (x := ⟨g, off + l.length * 2 + 1, none⟩) (.inl rfl) (.int .i64 x.2)
      · intro k e
        exact .inl e
    · obtain ⟨v', w1, hr, ho, hgr⟩ := run_append_arg_grows (P := Tryd.prog) w 125 ty 122 i0 _ 2 16 Tryd.underlying125 hi hz0 hz1 hz2 rfl (by decide) ⟨g, off, none⟩ l.length cap (ptVals l) (ptVals_length l)
        (by
          intro j u hu
          rw [show (⟨g, off, none⟩ : Addr).add j = ⟨g, off + j, none⟩ by unfold Addr.add; split <;> simp_all, blk_cell hg]
          exact hc j u hu)
        ⟨g0, 0, none⟩ 1 1 [.int .i64 x.1, .int .i64 x.2] rfl hnews (by omega) (by unfold maxLen; omega) (by omega)
      refine ⟨v', w1, hr, ⟨.inr ?_⟩, (Keeps.refl _ w).andGrown hgr (fun k e => by simp at e), ?_⟩
      · rcases ho.2 with ⟨_, h0⟩ | ⟨b, cap2, cur2, rfl, hb2, hg2, hn2, hm2, hs2, ht2⟩
        · omega
        · refine ⟨b, 0, cap2, cur2, by simp, by omega, hg2, by simpa using hn2, hm2, by omega, fun j u hu => ?_⟩
          rw [ptVals_append, show ptVals [x] = [Value.int .i64 x.1, .int .i64 x.2] from rfl, ← ht2, List.getElem?_take] at hu
          split at hu
          · simpa using hu
          · cases hu
      · intro k e
        rcases ho.2 with ⟨_, h0⟩ | ⟨b, cap2, cur2, rfl, hb2, _⟩
        · omega
        · simp [qBlock] at e
          exact .inr (by omega)
/-- 'append(list, x)' of a number. -/
theorem int_more (base : Nat) (s : Value) (l : List Int) (x : Int) (n ty g0 : Nat) (w : World) (hn : n = l.length) (h : w.ownsRow base 3 1 s n (l.map (Value.int .i64))) (hb : base ≤ w.heap.size) (hlen : (n + 1) * 8 ≤ 140737488355328)
    (hg0 : w.heap[g0]? = some (.cells #[.int .i64 x] 3 (0, 0))) :
    ∃ g cap w', (Builtin.append_ #[110, 110] ty #[s, .slice (some ⟨g0, 0, none⟩) 1 1]).run Tryd.prog w = .ok (.slice (some ⟨g, 0, none⟩) (n + 1) cap) w' ∧
      w'.ownsRow base 3 1 (.slice (some ⟨g, 0, none⟩) (n + 1) cap) (n + 1) ((l ++ [x]).map (Value.int .i64)) ∧ Keeps (fun k => s.ownBlock = some k) w w' ∧ (s.ownBlock = some g ∨ w.heap.size ≤ g) := by
  obtain ⟨i0, hi, hz0, hz1, hz2⟩ := info_parts Tryd.infoInt
  obtain ⟨v', w1, hr, ho, hgr, hm, -⟩ := run_append_moved (P := Tryd.prog) w base 110 ty 3 i0 _ 1 8 Tryd.underlying110 hi hz0 hz1 hz2 rfl (by decide) s n _ h
    ⟨g0, 0, none⟩ 1 1 [.int .i64 x] rfl (by
      intro j u hu
      rw [show (⟨g0, 0, none⟩ : Addr).add j = ⟨g0, j, none⟩ by unfold Addr.add; split <;> simp_all, blk_cell hg0]
      simpa using hu) (by
      intro u hu
      simp at hu
      subst hu
      rfl) (by unfold maxLen; omega) hlen hb
  obtain ⟨g, cap, rfl⟩ : ∃ g cap, v' = .slice (some ⟨g, 0, none⟩) (n + 1) cap := by
    rcases ho.2 with ⟨_, h0⟩ | ⟨b, cap, cur, rfl, _⟩
    · omega
    · exact ⟨b, cap, rfl⟩
  refine ⟨g, cap, w1, hr, by rw [List.map_append]; exact ho, (Keeps.refl _ w).andGrown hgr (fun k e => .inl e), ?_⟩
  rcases hm with hm | ⟨g', e, hg⟩
  · exact .inl (hm.symm.trans rfl)
  · simp [Value.ownBlock] at e; exact .inr (by omega)
end Go.Proofs.YtocfcdnbielbiaaDoor
