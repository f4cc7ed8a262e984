import Derived.Test.YtokfbagacehbgaaDoorPgBase
import Derived.Test.YtokfbagacehbgaaDoorOpenStruct
/-! A program among the arguments. -/
namespace Go.Proofs.YtokfbagacehbgaaDoor
set_option linter.unusedVariables false
set_option maxRecDepth 20000
open Go.ChangeShapes Go.WideShapes Go.ChangeAt Go.RowKit Go.HeapKit Go.Deep

section
variable {H : Type} {enc : TypeId × Value → H} {w : World} {base : Nat} {held : Bool}
theorem spot_none {w : World} {x : Addr} {v : Value} (h : w.cell? x = some v) : x.spot = none := by
  unfold World.cell? at h
  split at h
  · split at h
    · cases h
    · rename_i hs; simpa using hs
  · cases h
theorem spot_first {w : World} {base n : Nat} {x : Addr} {cs : List Value} (h : w.cells? base (x.add (0 * n)) n = some cs) (hn : 0 < n) : x.spot = none := by
  obtain ⟨_, hl, hc⟩ := World.cells?_some h
  have h0 := hc 0 hn
  rw [Nat.zero_mul, show (x.add 0).add 0 = x by unfold Addr.add; simp, List.getElem?_eq_getElem (by omega)] at h0
  exact spot_none h0
theorem choose_list {α : Type} (p : Nat → α → Prop) (n : Nat) (h : ∀ i, i < n → ∃ x, p i x) : ∃ l : List α, l.length = n ∧ ∀ i x, l[i]? = some x → p i x := by
  induction n with
  | zero => exact ⟨[], rfl, fun i x hx => by simp at hx⟩
  | succ n ih =>
    obtain ⟨l, hl, hp⟩ := ih (fun i hi => h i (by omega))
    obtain ⟨x, hx⟩ := h n (by omega)
    refine ⟨l ++ [x], by simp [hl], fun i y hy => ?_⟩
    by_cases hi : i < n
    · rw [List.getElem?_append_left (by omega)] at hy
      exact hp i y hy
    · have hlt := (List.getElem?_eq_some_iff.1 hy).1
      simp [hl] at hlt
      obtain rfl : i = n := by omega
      rw [List.getElem?_append_right (by omega), hl] at hy
      simp at hy
      subst hy
      exact hx
theorem okI_of_wf {x : Int} (h : (Lit.int .i64 x).wf = true) : okI x := by
  have h1 : IntKind.i64.min = -9223372036854775808 := by decide
  have h2 : IntKind.i64.max = 9223372036854775807 := by decide
  simp [Lit.wf, h1, h2] at h
  unfold okI
  omega
theorem add_at {b o : Nat} (k : Nat) : (⟨b, o, none⟩ : Addr).add k = ⟨b, o + k, none⟩ := by unfold Addr.add; split <;> simp_all

theorem open_codes {fuel : Nat} {cs : List Value} {x : DataW H × List MemPlace} (h : DataW.trod enc Tryd.prog w base (fun _ => true) held fuel 33 cs = some x) :
    ∃ ca n cc l, cs = [.slice ca n cc] ∧ SeenI w ca n l ∧ ∀ i ∈ l, Ins.Ok i := by
  rcases open_slice Tryd.underlying33 h with ⟨rfl, _⟩ | ⟨a, len, cap, m, n, D, Pl, rfl, _, hl, hm, hmm, _, hall⟩
  · exact ⟨none, 0, 0, [], rfl, ⟨rfl, fun h => by omega⟩, fun i hi => by cases hi⟩
  · simp at hmm
    subst hmm
    have hc : Tryd.prog.cellsOf 37 = 5 := by kernel_rfl
    rw [hc] at hall
    have hex : ∀ i, i < len → ∃ x : Ins, x.Ok ∧ ∃ b off, a = ⟨b, off, none⟩ ∧ b < w.heap.size ∧ InsAt w b (off + i * 5) x := by
      intro i hi
      obtain ⟨cs', h1, h2⟩ := hall i (by omega)
      obtain ⟨ns, hl, rfl, hw⟩ := struct_ints Tryd.underlying37 (by kernel_rfl) (by kernel_rfl) h2
      obtain ⟨_, hlen, hcell⟩ := World.cells?_some h1
      have hl5 : ns.length = 5 := hl
      match ns, hl5 with
      | [n0, n1, n2, n3, n4], _ =>
        obtain ⟨b, off, sp⟩ := a
        have hsp : sp = none := by
          obtain ⟨cs0, hz, _⟩ := hall 0 (by omega)
          exact spot_first hz (by omega)
        subst hsp
        have hh : ∀ j, j < 5 → w.cell? ⟨b, off + i * 5 + j, none⟩ = ([n0, n1, n2, n3, n4].map (Value.int .i64))[j]? := by
          intro j hj
          have := hcell j hj
          rw [add_at, add_at] at this
          exact this
        refine ⟨⟨n0, n1, n2, n3, n4⟩, ⟨okI_of_wf (hw _ (by simp)), okI_of_wf (hw _ (by simp)), okI_of_wf (hw _ (by simp)), okI_of_wf (hw _ (by simp)), okI_of_wf (hw _ (by simp))⟩, b, off, rfl, ?_, ⟨hh 0 (by omega), hh 1 (by omega), hh 2 (by omega), hh 3 (by omega), hh 4 (by omega)⟩⟩
        have h0' := hh 0 (by omega)
        cases hb : w.heap[b]? with
        | none => simp [World.cell?, hb] at h0'
        | some o => exact (Array.getElem?_eq_some_iff.1 hb).1
    obtain ⟨l, hll, hp⟩ := choose_list _ len hex
    refine ⟨some a, len, m, l, rfl, ⟨hll.symm, fun h0 => ?_⟩, fun i hi => ?_⟩
    · obtain ⟨_, b, off, rfl, hb, _⟩ := hp 0 (l[0]'(by omega)) (by simp)
      refine ⟨b, off, rfl, hb, fun k i hi => ?_⟩
      obtain ⟨_, b', off', e, _, hat⟩ := hp k i hi
      injection e with e1 e2
      subst e1 e2
      exact hat
    · obtain ⟨k, hk, rfl⟩ := List.mem_iff_getElem.1 hi
      exact (hp k _ (by simp)).1

theorem open_funcs {fuel : Nat} {cs : List Value} {x : DataW H × List MemPlace} (h : DataW.trod enc Tryd.prog w base (fun _ => true) held fuel 22 cs = some x) :
    ∃ ca n cc l, cs = [.slice ca n cc] ∧ SeenF w ca n l ∧ ∀ f ∈ l, Fn.Ok f := by
  rcases open_slice Tryd.underlying22 h with ⟨rfl, _⟩ | ⟨a, len, cap, m, n, D, Pl, rfl, _, hl, hm, hmm, _, hall⟩
  · exact ⟨none, 0, 0, [], rfl, ⟨rfl, fun h => by omega⟩, fun i hi => by cases hi⟩
  · simp at hmm
    subst hmm
    have hc : Tryd.prog.cellsOf 35 = 4 := by kernel_rfl
    rw [hc] at hall
    have hex : ∀ i, i < len → ∃ x : Fn, x.Ok ∧ ∃ b off ca cc, a = ⟨b, off, none⟩ ∧ b < w.heap.size ∧ FnAt w b (off + i * 4) x ca cc := by
      intro i hi
      obtain ⟨cs', h1, h2⟩ := hall i (by omega)
      obtain ⟨_, hlen, hcell⟩ := World.cells?_some h1
      obtain ⟨xs, n, _, _, hl', hxl, hf⟩ := DataW.trod_struct Tryd.underlying35 h2
      have q0 : DataW.trod enc Tryd.prog w base (fun _ => true) held n 3 (List.take (Tryd.prog.cellsOf 3) (List.drop 0 cs')) = xs[0]? := hf 0 _ rfl
      have q1 : DataW.trod enc Tryd.prog w base (fun _ => true) held n 3 (List.take (Tryd.prog.cellsOf 3) (List.drop 1 cs')) = xs[1]? := hf 1 _ rfl
      have q2 : DataW.trod enc Tryd.prog w base (fun _ => true) held n 3 (List.take (Tryd.prog.cellsOf 3) (List.drop 2 cs')) = xs[2]? := hf 2 _ rfl
      have q3 : DataW.trod enc Tryd.prog w base (fun _ => true) held n 33 (List.take (Tryd.prog.cellsOf 33) (List.drop 3 cs')) = xs[3]? := hf 3 _ rfl
      have hx4 : xs.length = 4 := hxl
      rw [List.getElem?_eq_getElem (by omega)] at q0
      rw [List.getElem?_eq_getElem (by omega)] at q1
      rw [List.getElem?_eq_getElem (by omega)] at q2
      rw [List.getElem?_eq_getElem (by omega)] at q3
      have ci : Tryd.prog.cellsOf 3 = 1 := by kernel_rfl
      have cc1 : Tryd.prog.cellsOf 33 = 1 := by kernel_rfl
      rw [ci] at q0 q1 q2
      rw [cc1] at q3
      match cs', hlen with
      | [v0, v1, v2, v3], _ =>
        obtain ⟨n0, e0, _, w0⟩ := DataW.trod_int Tryd.underlying3 q0
        obtain ⟨n1, e1, _, w1⟩ := DataW.trod_int Tryd.underlying3 q1
        obtain ⟨n2, e2, _, w2⟩ := DataW.trod_int Tryd.underlying3 q2
        obtain ⟨ca, cn, cc, l, e3, hS, hok⟩ := open_codes q3
        simp at e0 e1 e2 e3
        subst e0 e1 e2 e3
        obtain ⟨b, off, sp⟩ := a
        have hsp : sp = none := by
          obtain ⟨cs0, hz, _⟩ := hall 0 (by omega)
          exact spot_first hz (by omega)
        subst hsp
        have hh : ∀ j, j < 4 → w.cell? ⟨b, off + i * 4 + j, none⟩ = [Value.int .i64 n0, .int .i64 n1, .int .i64 n2, .slice ca cn cc][j]? := by
          intro j hj
          have := hcell j hj
          rw [add_at, add_at] at this
          exact this
        have hcn := hS.len
        subst hcn
        refine ⟨⟨n0, n1, n2, l⟩, ⟨okI_of_wf w0, okI_of_wf w1, okI_of_wf w2, hok⟩, b, off, ca, cc, rfl, ?_, ⟨hh 0 (by omega), hh 1 (by omega), hh 2 (by omega), hh 3 (by omega), hS⟩⟩
        have h0' := hh 0 (by omega)
        cases hb : w.heap[b]? with
        | none => simp [World.cell?, hb] at h0'
        | some o => exact (Array.getElem?_eq_some_iff.1 hb).1
    obtain ⟨l, hll, hp⟩ := choose_list _ len hex
    refine ⟨some a, len, m, l, rfl, ⟨hll.symm, fun h0 => ?_⟩, fun i hi => ?_⟩
    · obtain ⟨_, b, off, _, _, rfl, hb, _⟩ := hp 0 (l[0]'(by omega)) (by simp)
      refine ⟨b, off, rfl, hb, fun k i hi => ?_⟩
      obtain ⟨_, b', off', ca, cc, e, _, hat⟩ := hp k i hi
      injection e with e1 e2
      subst e1 e2
      exact ⟨ca, cc, hat⟩
    · obtain ⟨k, hk, rfl⟩ := List.mem_iff_getElem.1 hi
      exact (hp k _ (by simp)).1
theorem open_prog {r : Reach} {b0 : Nat} {v : Value} {d : DataW H} {ps : List MemPlace} (hval : Value.okWide Tryd.prog w r b0 24 v) (hd : DataW.Trod enc Tryd.prog w base (fun _ => true) held 24 v d ps) :
    ∃ a n c l, v = .agg #[.slice a n c] ∧ SeenF w a n l ∧ ∀ f ∈ l, Fn.Ok f := by
  obtain ⟨cs, rfl, hs⟩ := okWide_struct Tryd.underlying24 hval
  rw [show Tryd.prog.cellsOf 24 = 1 by kernel_rfl] at hs
  obtain ⟨fuel, hf⟩ := hd
  obtain ⟨xs, n, _, _, hl', hxl, hf⟩ := DataW.trod_struct Tryd.underlying24 hf
  have q0 : DataW.trod enc Tryd.prog w base (fun _ => true) held n 22 (List.take (Tryd.prog.cellsOf 22) (List.drop 0 (Value.agg cs).cells.toList)) = xs[0]? := hf 0 _ rfl
  have hx1 : xs.length = 1 := hxl
  rw [List.getElem?_eq_getElem (by omega)] at q0
  obtain ⟨cs⟩ := cs
  match cs, hs with
  | [v0], _ =>
    rw [show Tryd.prog.cellsOf 22 = 1 by kernel_rfl] at q0
    obtain ⟨a, n, c, l, e, hS, hok⟩ := open_funcs q0
    simp [Value.cells] at e
    subst e
    exact ⟨a, n, c, l, rfl, hS, hok⟩
end
end Go.Proofs.YtokfbagacehbgaaDoor
