import Derived.Test.YtoehkjfdaolcnaaDoorPkAA
import Derived.SizedLaws
import Derived.OwnWalk
/-! A program among the arguments. -/
namespace Go.Proofs.YtoehkjfdaolcnaaDoor
set_option linter.unusedVariables false
set_option maxRecDepth 20000
open Go.ChangeShapes Go.WideShapes Go.ChangeAt Go.RowKit Go.HeapKit Go.Deep

section
variable {H : Type} {enc : TypeId × Value → H} {w : World} {base : Nat} {held : Bool}
theorem spot_none {w : World} {x : Addr} {v : Value} (h : w.cell? x = some v) : x.spot = none := by
  unfold World.cell? at h
  split at h
  · split at h
    · cases h
    · rename_i hs; simpa using hs
  · cases h
theorem spot_first {w : World} {base n : Nat} {x : Addr} {cs : List Value} (h : w.cells? base (x.add (0 * n)) n = some cs) (hn : 0 < n) : x.spot = none := by
  obtain ⟨_, hl, hc⟩ := World.cells?_some h
  have h0 := hc 0 hn
  rw [Nat.zero_mul, show (x.add 0).add 0 = x by unfold Addr.add; simp, List.getElem?_eq_getElem (by omega)] at h0
  exact spot_none h0
theorem choose_list {α : Type} (p : Nat → α → Prop) (n : Nat) (h : ∀ i, i < n → ∃ x, p i x) : ∃ l : List α, l.length = n ∧ ∀ i x, l[i]? = some x → p i x := by
  induction n with
  | zero => exact ⟨[], rfl, fun i x hx => by simp at hx⟩
  | succ n ih =>
    obtain ⟨l, hl, hp⟩ := ih (fun i hi => h i (by omega))
    obtain ⟨x, hx⟩ := h n (by omega)
    refine ⟨l ++ [x], by simp [hl], fun i y hy => ?_⟩
    by_cases hi : i < n
    · rw [List.getElem?_append_left (by omega)] at hy
      exact hp i y hy
    · have hlt := (List.getElem?_eq_some_iff.1 hy).1
      simp [hl] at hlt
      obtain rfl : i = n := by omega
      rw [List.getElem?_append_right (by omega), hl] at hy
      simp at hy
      subst hy
      exact hx
theorem okI_of_wf {x : Int} (h : (Lit.int .i64 x).wf = true) : okI x := by
  have h1 : IntKind.i64.min = -9223372036854775808 := by decide
  have h2 : IntKind.i64.max = 9223372036854775807 := by decide
  simp [Lit.wf, h1, h2] at h
  unfold okI
  omega
theorem add_at {b o : Nat} (k : Nat) : (⟨b, o, none⟩ : Addr).add k = ⟨b, o + k, none⟩ := by unfold Addr.add; split <;> simp_all

theorem open_codes {fuel : Nat} {cs : List Value} {x : DataW H × List MemPlace} (h : DataW.trod enc Tryd.prog w base (fun _ => true) held fuel 35 cs = some x) :
    ∃ ca n cc l, cs = [.slice ca n cc] ∧ SeenI w ca n l ∧ ∀ i ∈ l, Ins.Ok i := by
  rcases open_slice Tryd.underlying35 h with ⟨rfl, _⟩ | ⟨a, len, cap, m, n, D, Pl, rfl, _, hl, hm, hmm, _, hall⟩
  · exact ⟨none, 0, 0, [], rfl, ⟨rfl, fun h => by omega⟩, fun i hi => by cases hi⟩
  · simp at hmm
    subst hmm
    have hc : Tryd.prog.cellsOf 39 = 5 := by kernel_rfl
    rw [hc] at hall
    have hex : ∀ i, i < len → ∃ x : Ins, x.Ok ∧ ∃ b off, a = ⟨b, off, none⟩ ∧ b < w.heap.size ∧ InsAt w b (off + i * 5) x := by
      intro i hi
      obtain ⟨cs', h1, h2⟩ := hall i (by omega)
      obtain ⟨ns, hl, rfl, hw⟩ := struct_ints Tryd.underlying39 (by kernel_rfl) (by kernel_rfl) h2
      obtain ⟨_, hlen, hcell⟩ := World.cells?_some h1
      have hl5 : ns.length = 5 := hl
      match ns, hl5 with
      | [n0, n1, n2, n3, n4], _ =>
        obtain ⟨b, off, sp⟩ := a
        have hsp : sp = none := by
          obtain ⟨cs0, hz, _⟩ := hall 0 (by omega)
          exact spot_first hz (by omega)
        subst hsp
        have hh : ∀ j, j < 5 → w.cell? ⟨b, off + i * 5 + j, none⟩ = ([n0, n1, n2, n3, n4].map (Value.int .i64))[j]? := by
          intro j hj
          have := hcell j hj
          rw [add_at, add_at] at this
          exact this
        refine ⟨⟨n0, n1, n2, n3, n4⟩, ⟨okI_of_wf (hw _ (by simp)), okI_of_wf (hw _ (by simp)), okI_of_wf (hw _ (by simp)), okI_of_wf (hw _ (by simp)), okI_of_wf (hw _ (by simp))⟩, b, off, rfl, ?_, ⟨hh 0 (by omega), hh 1 (by omega), hh 2 (by omega), hh 3 (by omega), hh 4 (by omega)⟩⟩
        have h0' := hh 0 (by omega)
        cases hb : w.heap[b]? with
        | none => simp [World.cell?, hb] at h0'
        | some o => exact (Array.getElem?_eq_some_iff.1 hb).1
    obtain ⟨l, hll, hp⟩ := choose_list _ len hex
    refine ⟨some a, len, m, l, rfl, ⟨hll.symm, fun h0 => ?_⟩, fun i hi => ?_⟩
    · obtain ⟨_, b, off, rfl, hb, _⟩ := hp 0 (l[0]'(by omega)) (by simp)
      refine ⟨b, off, rfl, hb, fun k i hi => ?_⟩
      obtain ⟨_, b', off', e, _, hat⟩ := hp k i hi
      injection e with e1 e2
      subst e1 e2
      exact hat
    · obtain ⟨k, hk, rfl⟩ := List.mem_iff_getElem.1 hi
      exact (hp k _ (by simp)).1

theorem open_funcs {fuel : Nat} {cs : List Value} {x : DataW H × List MemPlace} (h : DataW.trod enc Tryd.prog w base (fun _ => true) held fuel 22 cs = some x) :
    ∃ ca n cc l, cs = [.slice ca n cc] ∧ SeenF w ca n l ∧ ∀ f ∈ l, Fn.Ok f := by
  rcases open_slice Tryd.underlying22 h with ⟨rfl, _⟩ | ⟨a, len, cap, m, n, D, Pl, rfl, _, hl, hm, hmm, _, hall⟩
  · exact ⟨none, 0, 0, [], rfl, ⟨rfl, fun h => by omega⟩, fun i hi => by cases hi⟩
  · simp at hmm
    subst hmm
    have hc : Tryd.prog.cellsOf 37 = 4 := by kernel_rfl
    rw [hc] at hall
    have hex : ∀ i, i < len → ∃ x : Fn, x.Ok ∧ ∃ b off ca cc, a = ⟨b, off, none⟩ ∧ b < w.heap.size ∧ FnAt w b (off + i * 4) x ca cc := by
      intro i hi
      obtain ⟨cs', h1, h2⟩ := hall i (by omega)
      obtain ⟨_, hlen, hcell⟩ := World.cells?_some h1
      obtain ⟨xs, n, _, _, hl', hxl, hf⟩ := DataW.trod_struct Tryd.underlying37 h2
      have q0 : DataW.trod enc Tryd.prog w base (fun _ => true) held n 3 (List.take (Tryd.prog.cellsOf 3) (List.drop 0 cs')) = xs[0]? := hf 0 _ rfl
      have q1 : DataW.trod enc Tryd.prog w base (fun _ => true) held n 3 (List.take (Tryd.prog.cellsOf 3) (List.drop 1 cs')) = xs[1]? := hf 1 _ rfl
      have q2 : DataW.trod enc Tryd.prog w base (fun _ => true) held n 3 (List.take (Tryd.prog.cellsOf 3) (List.drop 2 cs')) = xs[2]? := hf 2 _ rfl
      have q3 : DataW.trod enc Tryd.prog w base (fun _ => true) held n 35 (List.take (Tryd.prog.cellsOf 35) (List.drop 3 cs')) = xs[3]? := hf 3 _ rfl
      have hx4 : xs.length = 4 := hxl
      rw [List.getElem?_eq_getElem (by omega)] at q0
      rw [List.getElem?_eq_getElem (by omega)] at q1
      rw [List.getElem?_eq_getElem (by omega)] at q2
      rw [List.getElem?_eq_getElem (by omega)] at q3
      have ci : Tryd.prog.cellsOf 3 = 1 := by kernel_rfl
      have cc1 : Tryd.prog.cellsOf 35 = 1 := by kernel_rfl
      rw [ci] at q0 q1 q2
      rw [cc1] at q3
      match cs', hlen with
      | [v0, v1, v2, v3], _ =>
        obtain ⟨n0, e0, _, w0⟩ := DataW.trod_int Tryd.underlying3 q0
        obtain ⟨n1, e1, _, w1⟩ := DataW.trod_int Tryd.underlying3 q1
        obtain ⟨n2, e2, _, w2⟩ := DataW.trod_int Tryd.underlying3 q2
        obtain ⟨ca, cn, cc, l, e3, hS, hok⟩ := open_codes q3
        simp at e0 e1 e2 e3
        subst e0 e1 e2 e3
        obtain ⟨b, off, sp⟩ := a
        have hsp : sp = none := by
          obtain ⟨cs0, hz, _⟩ := hall 0 (by omega)
          exact spot_first hz (by omega)
        subst hsp
        have hh : ∀ j, j < 4 → w.cell? ⟨b, off + i * 4 + j, none⟩ = [Value.int .i64 n0, .int .i64 n1, .int .i64 n2, .slice ca cn cc][j]? := by
          intro j hj
          have := hcell j hj
          rw [add_at, add_at] at this
          exact this
        have hcn := hS.len
        subst hcn
        refine ⟨⟨n0, n1, n2, l⟩, ⟨okI_of_wf w0, okI_of_wf w1, okI_of_wf w2, hok⟩, b, off, ca, cc, rfl, ?_, ⟨hh 0 (by omega), hh 1 (by omega), hh 2 (by omega), hh 3 (by omega), hS⟩⟩
        have h0' := hh 0 (by omega)
        cases hb : w.heap[b]? with
        | none => simp [World.cell?, hb] at h0'
        | some o => exact (Array.getElem?_eq_some_iff.1 hb).1
    obtain ⟨l, hll, hp⟩ := choose_list _ len hex
    refine ⟨some a, len, m, l, rfl, ⟨hll.symm, fun h0 => ?_⟩, fun i hi => ?_⟩
    · obtain ⟨_, b, off, _, _, rfl, hb, _⟩ := hp 0 (l[0]'(by omega)) (by simp)
      refine ⟨b, off, rfl, hb, fun k i hi => ?_⟩
      obtain ⟨_, b', off', ca, cc, e, _, hat⟩ := hp k i hi
      injection e with e1 e2
      subst e1 e2
      exact ⟨ca, cc, hat⟩
    · obtain ⟨k, hk, rfl⟩ := List.mem_iff_getElem.1 hi
      exact (hp k _ (by simp)).1
theorem open_prog {r : Reach} {b0 : Nat} {v : Value} {d : DataW H} {ps : List MemPlace} (hval : Value.okWide Tryd.prog w r b0 24 v) (hd : DataW.Trod enc Tryd.prog w base (fun _ => true) held 24 v d ps) :
    ∃ a n c l, v = .agg #[.slice a n c] ∧ SeenF w a n l ∧ ∀ f ∈ l, Fn.Ok f := by
  obtain ⟨cs, rfl, hs⟩ := okWide_struct Tryd.underlying24 hval
  rw [show Tryd.prog.cellsOf 24 = 1 by kernel_rfl] at hs
  obtain ⟨fuel, hf⟩ := hd
  obtain ⟨xs, n, _, _, hl', hxl, hf⟩ := DataW.trod_struct Tryd.underlying24 hf
  have q0 : DataW.trod enc Tryd.prog w base (fun _ => true) held n 22 (List.take (Tryd.prog.cellsOf 22) (List.drop 0 (Value.agg cs).cells.toList)) = xs[0]? := hf 0 _ rfl
  have hx1 : xs.length = 1 := hxl
  rw [List.getElem?_eq_getElem (by omega)] at q0
  obtain ⟨cs⟩ := cs
  match cs, hs with
  | [v0], _ =>
    rw [show Tryd.prog.cellsOf 22 = 1 by kernel_rfl] at q0
    obtain ⟨a, n, c, l, e, hS, hok⟩ := open_funcs q0
    simp [Value.cells] at e
    subst e
    exact ⟨a, n, c, l, rfl, hS, hok⟩
end
end Go.Proofs.YtoehkjfdaolcnaaDoor
/-! A program among the arguments, and how great it may be. -/
namespace Go.Proofs.YtoehkjfdaolcnaaDoor
set_option linter.unusedVariables false
set_option maxRecDepth 20000
open Go.ChangeShapes Go.WideShapes Go.ChangeAt Go.RowKit Go.HeapKit Go.Deep

section
variable {H : Type} {enc : TypeId × Value → H} {w : World} {base : Nat} {held : Bool}
theorem all_of {l m : List Nat} (h : l.all (· ≤ reachBytes) = true) (hm : ∀ x ∈ m, x ∈ l) : m.all (· ≤ reachBytes) = true := List.all_eq_true.2 fun x hx => List.all_eq_true.1 h x (hm x hx)
theorem mem_all {P : Program} {e : TypeId} {l : List (DataW H)} {k : Nat} {d : DataW H} (hd : l[k]? = some d) : ∀ x ∈ d.weights P e, x ∈ DataW.weightsAll P e l := by
  induction l generalizing k with
  | nil => simp at hd
  | cons y l ih =>
    intro x hx
    simp only [DataW.weightsAll, List.mem_append]
    cases k with
    | zero => simp at hd; subst hd; exact .inl hx
    | succ k => exact .inr (ih (k := k) (by simpa using hd) x hx)
theorem slice_reach {P : Program} {t e : TypeId} {fuel : Nat} {cs : List Value} {x : DataW H × List MemPlace} (ht : P.underlying t = some (.slice e)) (h : DataW.trod enc P w base (fun _ => true) held fuel t cs = some x) {a : Option Addr} {n c : Nat} (hcs : cs = [.slice a n c]) (hall : (x.1.weights P t).all (· ≤ reachBytes) = true) : n * P.bytesOf e ≤ reachBytes := by
  rcases open_slice ht h with ⟨h0, _⟩ | ⟨a', len, cap, m, n', D, Pl, h0, _, hl, hm, hmm, hx, _⟩
  · rw [hcs] at h0
    simp at h0
    rw [h0.2.1]
    simp
  · rw [hcs] at h0
    simp at h0
    obtain ⟨_, rfl, rfl⟩ := h0
    rw [hx] at hall
    simp only [DataW.weights, ht, List.all_cons, Bool.and_eq_true, decide_eq_true_eq, List.length_map, List.length_range] at hall
    simp at hmm
    have h1 : n * P.bytesOf e ≤ (n + (m - n)) * P.bytesOf e := Nat.mul_le_mul_right _ (by omega)
    omega
theorem open_funcsR {fuel : Nat} {cs : List Value} {x : DataW H × List MemPlace} (h : DataW.trod enc Tryd.prog w base (fun _ => true) held fuel 22 cs = some x) :
    ∃ ca n cc l, cs = [.slice ca n cc] ∧ SeenF w ca n l ∧ (∀ f ∈ l, Fn.Ok f) ∧ ((x.1.weights Tryd.prog 22).all (· ≤ reachBytes) = true → n * 48 ≤ reachBytes ∧ ∀ f ∈ l, f.code.length * 40 ≤ reachBytes) := by
  have hreach := fun a n c (hcs : cs = [.slice a n c]) hall => slice_reach Tryd.underlying22 h hcs hall
  rw [show Tryd.prog.bytesOf 37 = 48 by kernel_rfl] at hreach
  rcases open_slice Tryd.underlying22 h with ⟨rfl, _⟩ | ⟨a, len, cap, m, n, D, Pl, rfl, _, hl, hm, hmm, hxx, hall⟩
  · exact ⟨none, 0, 0, [], rfl, ⟨rfl, fun h => by omega⟩, (fun i hi => by cases hi), fun _ => ⟨by simp, fun i hi => by cases hi⟩⟩
  · simp at hmm
    subst hmm
    have hc : Tryd.prog.cellsOf 37 = 4 := by kernel_rfl
    rw [hc] at hall
    have hex : ∀ i, i < len → ∃ x : Fn, x.Ok ∧ (((D i).weights Tryd.prog 37).all (· ≤ reachBytes) = true → x.code.length * 40 ≤ reachBytes) ∧ ∃ b off ca cc, a = ⟨b, off, none⟩ ∧ b < w.heap.size ∧ FnAt w b (off + i * 4) x ca cc := by
      intro i hi
      obtain ⟨cs', h1, h2⟩ := hall i (by omega)
      obtain ⟨_, hlen, hcell⟩ := World.cells?_some h1
      obtain ⟨xs, n, _, hDx, hl', hxl, hf⟩ := DataW.trod_struct Tryd.underlying37 h2
      have q0 : DataW.trod enc Tryd.prog w base (fun _ => true) held n 3 (List.take (Tryd.prog.cellsOf 3) (List.drop 0 cs')) = xs[0]? := hf 0 _ rfl
      have q1 : DataW.trod enc Tryd.prog w base (fun _ => true) held n 3 (List.take (Tryd.prog.cellsOf 3) (List.drop 1 cs')) = xs[1]? := hf 1 _ rfl
      have q2 : DataW.trod enc Tryd.prog w base (fun _ => true) held n 3 (List.take (Tryd.prog.cellsOf 3) (List.drop 2 cs')) = xs[2]? := hf 2 _ rfl
      have q3 : DataW.trod enc Tryd.prog w base (fun _ => true) held n 35 (List.take (Tryd.prog.cellsOf 35) (List.drop 3 cs')) = xs[3]? := hf 3 _ rfl
      have hx4 : xs.length = 4 := hxl
      rw [List.getElem?_eq_getElem (by omega)] at q0
      rw [List.getElem?_eq_getElem (by omega)] at q1
      rw [List.getElem?_eq_getElem (by omega)] at q2
      rw [List.getElem?_eq_getElem (by omega)] at q3
      have ci : Tryd.prog.cellsOf 3 = 1 := by kernel_rfl
      have cc1 : Tryd.prog.cellsOf 35 = 1 := by kernel_rfl
      rw [ci] at q0 q1 q2
      rw [cc1] at q3
      match cs', hlen with
      | [v0, v1, v2, v3], _ =>
        obtain ⟨n0, e0, _, w0⟩ := DataW.trod_int Tryd.underlying3 q0
        obtain ⟨n1, e1, _, w1⟩ := DataW.trod_int Tryd.underlying3 q1
        obtain ⟨n2, e2, _, w2⟩ := DataW.trod_int Tryd.underlying3 q2
        obtain ⟨ca, cn, cc, l, e3, hS, hok⟩ := open_codes q3
        have hr3 := fun hall => slice_reach Tryd.underlying35 q3 e3 hall
        rw [show Tryd.prog.bytesOf 39 = 40 by kernel_rfl] at hr3
        simp at e0 e1 e2 e3
        subst e0 e1 e2 e3
        obtain ⟨b, off, sp⟩ := a
        have hsp : sp = none := by
          obtain ⟨cs0, hz, _⟩ := hall 0 (by omega)
          exact spot_first hz (by omega)
        subst hsp
        have hh : ∀ j, j < 4 → w.cell? ⟨b, off + i * 4 + j, none⟩ = [Value.int .i64 n0, .int .i64 n1, .int .i64 n2, .slice ca cn cc][j]? := by
          intro j hj
          have := hcell j hj
          rw [add_at, add_at] at this
          exact this
        have hcn := hS.len
        subst hcn
        refine ⟨⟨n0, n1, n2, l⟩, ⟨okI_of_wf w0, okI_of_wf w1, okI_of_wf w2, hok⟩, ?_, b, off, ca, cc, rfl, ?_, ⟨hh 0 (by omega), hh 1 (by omega), hh 2 (by omega), hh 3 (by omega), hS⟩⟩
        · intro hw
          refine hr3 (all_of hw fun y hy => ?_)
          have e5 : D i = .agg (xs.map (·.1)) := congrArg Prod.fst hDx
          rw [e5]
          simp only [DataW.weights, Tryd.underlying37]
          exact DataW.weights_mem_each (j := 3) rfl (by rw [List.getElem?_map, List.getElem?_eq_getElem (by omega)]; rfl) y hy
        have h0' := hh 0 (by omega)
        cases hb : w.heap[b]? with
        | none => simp [World.cell?, hb] at h0'
        | some o => exact (Array.getElem?_eq_some_iff.1 hb).1
    obtain ⟨l, hll, hp⟩ := choose_list _ len hex
    refine ⟨some a, len, m, l, rfl, ⟨hll.symm, fun h0 => ?_⟩, fun i hi => ?_, fun hw => ⟨hreach _ _ _ rfl hw, fun f hf => ?_⟩⟩
    · obtain ⟨_, _, b, off, _, _, rfl, hb, _⟩ := hp 0 (l[0]'(by omega)) (by simp)
      refine ⟨b, off, rfl, hb, fun k i hi => ?_⟩
      obtain ⟨_, _, b', off', ca, cc, e, _, hat⟩ := hp k i hi
      injection e with e1 e2
      subst e1 e2
      exact ⟨ca, cc, hat⟩
    · obtain ⟨k, hk, rfl⟩ := List.mem_iff_getElem.1 hi
      exact (hp k _ (by simp)).1
    · obtain ⟨k, hk, rfl⟩ := List.mem_iff_getElem.1 hf
      refine (hp k _ (by simp)).2.1 (all_of hw fun y hy => ?_)
      rw [hxx]
      simp only [DataW.weights, Tryd.underlying22, List.mem_cons, List.mem_append]
      exact .inr (.inl (mem_all (k := k) (by rw [List.getElem?_map, List.getElem?_range (by omega)]; rfl) y hy))
theorem open_progR {r : Reach} {b0 : Nat} {v : Value} {d : DataW H} {ps : List MemPlace} (hval : Value.okWide Tryd.prog w r b0 24 v) (hd : DataW.Trod enc Tryd.prog w base (fun _ => true) held 24 v d ps) :
    ∃ a n c l, v = .agg #[.slice a n c] ∧ SeenF w a n l ∧ (∀ f ∈ l, Fn.Ok f) ∧ ((d.weights Tryd.prog 24).all (· ≤ reachBytes) = true → n * 48 ≤ 140737488351232 ∧ ∀ f ∈ l, f.code.length * 40 ≤ 140737488351232) := by
  obtain ⟨cs, rfl, hs⟩ := okWide_struct Tryd.underlying24 hval
  rw [show Tryd.prog.cellsOf 24 = 1 by kernel_rfl] at hs
  obtain ⟨fuel, hf⟩ := hd
  obtain ⟨xs, n, _, hxx, hl', hxl, hf⟩ := DataW.trod_struct Tryd.underlying24 hf
  have q0 : DataW.trod enc Tryd.prog w base (fun _ => true) held n 22 (List.take (Tryd.prog.cellsOf 22) (List.drop 0 (Value.agg cs).cells.toList)) = xs[0]? := hf 0 _ rfl
  have hx1 : xs.length = 1 := hxl
  rw [List.getElem?_eq_getElem (by omega)] at q0
  obtain ⟨cs⟩ := cs
  match cs, hs with
  | [v0], _ =>
    rw [show Tryd.prog.cellsOf 22 = 1 by kernel_rfl] at q0
    obtain ⟨a, n, c, l, e, hS, hok, hrr⟩ := open_funcsR q0
    simp [Value.cells] at e
    subst e
    refine ⟨a, n, c, l, rfl, hS, hok, fun hw => hrr (all_of hw fun y hy => ?_)⟩
    have e5 : d = .agg (xs.map (·.1)) := congrArg Prod.fst hxx
    rw [e5]
    simp only [DataW.weights, Tryd.underlying24]
    exact DataW.weights_mem_each (j := 0) rfl (by rw [List.getElem?_map, List.getElem?_eq_getElem (by omega)]; rfl) y hy
theorem weights_at {P : Program} {ts : List TypeId} {ds : List (DataW H)} (h : (DataW.weightsEach P ts ds).all (· ≤ reachBytes) = true) {j : Nat} {t : TypeId} {d : DataW H} (ht : ts[j]? = some t) (hd : ds[j]? = some d) :
    (d.weights P t).all (· ≤ reachBytes) = true := all_of h (DataW.weights_mem_each ht hd)
end
end Go.Proofs.YtoehkjfdaolcnaaDoor
/-! The search's memory: where each point was met from; the queue; the ways. -/
namespace Go.Proofs.YtoehkjfdaolcnaaDoor
set_option linter.unusedVariables false
set_option maxRecDepth 20000
open Go.RowKit Go.HeapKit

theorem blk_cell {w : World} {p : Nat} {c : Array Value} {t : TypeId} {fz : Nat × Nat} (h : w.heap[p]? = some (.cells c t fz)) (i : Nat) : w.cell? ⟨p, i, none⟩ = c[i]? := by
  simp [World.cell?, h]
theorem blk_free {w : World} {p : Nat} {c : Array Value} {t : TypeId} (h : w.heap[p]? = some (.cells c t (0, 0))) (i : Nat) : w.frozen? ⟨p, i, none⟩ = false := by
  simp [World.frozen?, h]
theorem blk_set {w : World} {p i : Nat} {c : Array Value} {t : TypeId} {fz : Nat × Nat} (h : w.heap[p]? = some (.cells c t fz)) (v : Value) :
    (w.setCell ⟨p, i, none⟩ v).heap[p]? = some (.cells (c.setIfInBounds i v) t fz) := by
  simp [World.setCell, Array.getElem?_modify, h]
theorem blk_lt {w : World} {p : Nat} {o : Obj} (h : w.heap[p]? = some o) : p < w.heap.size := (Array.getElem?_eq_some_iff.1 h).1
theorem blk_kept {w w' : World} {S : Nat → Prop} {p : Nat} {o : Obj} (h : w.heap[p]? = some o) (hk : Keeps S w w') (hS : ¬ S p) : w'.heap[p]? = some o := (hk.block p (blk_lt h) hS).trans h

def ptVals (l : List Pt) : List Value := l.flatMap (fun t => [Value.int .i64 t.1, .int .i64 t.2])
theorem ptVals_length (l : List Pt) : (ptVals l).length = l.length * 2 := by
  induction l with
  | nil => rfl
  | cons x l ih => simp only [ptVals, List.flatMap_cons, List.length_append, List.length_cons, List.length_nil] at ih ⊢; omega
theorem ptVals_append (a b : List Pt) : ptVals (a ++ b) = ptVals a ++ ptVals b := by simp [ptVals]
theorem ptVals_at (l : List Pt) (k : Nat) (x : Pt) (h : l[k]? = some x) : (ptVals l)[k * 2]? = some (.int .i64 x.1) ∧ (ptVals l)[k * 2 + 1]? = some (.int .i64 x.2) := by
  induction l generalizing k with
  | nil => simp at h
  | cons y l ih =>
    have e : ptVals (y :: l) = [Value.int .i64 y.1, .int .i64 y.2] ++ ptVals l := rfl
    rw [e]
    cases k with
    | zero => simp at h; subst h; simp
    | succ k =>
      have := ih k (by simpa using h)
      rw [show (k + 1) * 2 = k * 2 + 2 by omega]
      simpa using this
theorem ptVals_set (l : List Pt) (k : Nat) (x : Pt) (hk : k < l.length) : ((ptVals l).set (k * 2) (.int .i64 x.1)).set (k * 2 + 1) (.int .i64 x.2) = ptVals (l.set k x) := by
  induction l generalizing k with
  | nil => simp at hk
  | cons y l ih =>
    have e : ptVals (y :: l) = [Value.int .i64 y.1, .int .i64 y.2] ++ ptVals l := rfl
    cases k with
    | zero => rfl
    | succ k =>
      have h1 := ih k (by simpa using hk)
      have e2 : ptVals ((y :: l).set (k + 1) x) = [Value.int .i64 y.1, .int .i64 y.2] ++ ptVals (l.set k x) := rfl
      rw [e, e2, ← h1, show (k + 1) * 2 = k * 2 + 2 by omega]
      rfl
theorem ptVals_one (l : List Pt) : ∀ u ∈ ptVals l, u.oneCell' = true := by
  intro u hu
  simp only [ptVals, List.mem_flatMap, List.mem_cons, List.not_mem_nil, or_false] at hu
  obtain ⟨t, _, rfl | rfl⟩ := hu <;> rfl

/-- Where each point was met from: n places, five states each. -/
structure IsFrom (w : World) (g n : Nat) (fr : List Pt) : Prop where
  blk : w.heap[g]? = some (.cells (ptVals fr).toArray 107 (0, 0))
  len : fr.length = n * 5
theorem IsFrom.at {w : World} {g n : Nat} {fr : List Pt} (h : IsFrom w g n fr) {k : Nat} {x : Pt} (hx : fr[k]? = some x) : w.cell? ⟨g, k * 2, none⟩ = some (.int .i64 x.1) ∧ w.cell? ⟨g, k * 2 + 1, none⟩ = some (.int .i64 x.2) := by
  rw [blk_cell h.blk, blk_cell h.blk]
  simpa using ptVals_at fr k x hx
theorem IsFrom.kept {w w' : World} {S : Nat → Prop} {g n : Nat} {fr : List Pt} (h : IsFrom w g n fr) (hk : Keeps S w w') (hS : ¬ S g) : IsFrom w' g n fr := ⟨blk_kept h.blk hk hS, h.len⟩
theorem IsFrom.set {w : World} {g n : Nat} {fr : List Pt} (h : IsFrom w g n fr) (k : Nat) (x : Pt) (hk : k < fr.length) : IsFrom ((w.setCell ⟨g, k * 2, none⟩ (.int .i64 x.1)).setCell ⟨g, k * 2 + 1, none⟩ (.int .i64 x.2)) g n (fr.set k x) := by
  refine ⟨?_, by simpa using h.len⟩
  rw [blk_set (blk_set h.blk _) _, ← ptVals_set fr k x hk]
  simp

/-- A queue of points. -/
structure IsQ (w : World) (base : Nat) (v : Value) (l : List Pt) : Prop where
  ex : (v = .slice none 0 0 ∧ l = []) ∨ ∃ g off cap cur, v = .slice (some ⟨g, off, none⟩) l.length cap ∧ base ≤ g ∧ w.heap[g]? = some (.cells cur 106 (0, 0)) ∧ l.length ≤ cap ∧ cap ≤ maxLen ∧ off + cap * 2 ≤ cur.size ∧
    ∀ j u, (ptVals l)[j]? = some u → cur[off + j]? = some u
def qBlock : Value → Option Nat
  | .slice (some a) _ _ => some a.block
  | _ => none
theorem IsQ.kept {w w' : World} {S : Nat → Prop} {base : Nat} {v : Value} {l : List Pt} (h : IsQ w base v l) (hk : Keeps S w w') (hS : ∀ g, qBlock v = some g → ¬ S g) : IsQ w' base v l := by
  refine ⟨?_⟩
  rcases h.ex with h0 | ⟨g, off, cap, cur, rfl, hb, hg, r⟩
  · exact .inl h0
  · exact .inr ⟨g, off, cap, cur, rfl, hb, blk_kept hg hk (hS g rfl), r⟩
theorem IsQ.low {w : World} {base : Nat} {v : Value} {l : List Pt} (h : IsQ w base v l) {g : Nat} (hg : qBlock v = some g) : base ≤ g ∧ g < w.heap.size ∧ ∃ cur, w.heap[g]? = some (.cells cur 106 (0, 0)) := by
  rcases h.ex with ⟨rfl, _⟩ | ⟨g', off, cap, cur, rfl, hb, hg', r⟩
  · simp [qBlock] at hg
  · simp [qBlock] at hg; subst hg; exact ⟨hb, blk_lt hg', cur, hg'⟩
theorem IsQ.head {w : World} {base : Nat} {v : Value} {x : Pt} {t : List Pt} (h : IsQ w base v (x :: t)) : ∃ g off cap, v = .slice (some ⟨g, off, none⟩) (t.length + 1) cap ∧ base ≤ g ∧ t.length + 1 ≤ cap ∧
    w.cell? ⟨g, off, none⟩ = some (.int .i64 x.1) ∧ w.cell? ⟨g, off + 1, none⟩ = some (.int .i64 x.2) ∧
    IsQ w base (.slice (some (if cap = 1 then ⟨g, off, none⟩ else ⟨g, off + 2, none⟩)) t.length (cap - 1)) t := by
  rcases h.ex with ⟨_, h0⟩ | ⟨g, off, cap, cur, rfl, hb, hg, hn, hm, hs, hc⟩
  · cases h0
  · simp only [List.length_cons] at hn ⊢
    refine ⟨g, off, cap, rfl, hb, hn, ?_, ?_, ⟨.inr ?_⟩⟩
    · rw [blk_cell hg]; exact hc 0 _ rfl
    · rw [blk_cell hg]; exact hc 1 _ rfl
    · by_cases h1 : cap = 1
      · rw [if_pos h1]
        have ht : t = [] := List.eq_nil_of_length_eq_zero (by omega)
        subst ht
        exact ⟨g, off, cap - 1, cur, rfl, hb, hg, by simp, by omega, by omega, fun j u hu => by simp [ptVals] at hu⟩
      · rw [if_neg h1]
        refine ⟨g, off + 2, cap - 1, cur, rfl, hb, hg, by omega, by omega, by omega, fun j u hu => ?_⟩
        have := hc (j + 2) u (by simpa [ptVals] using hu)
        rwa [show off + (j + 2) = off + 2 + j by omega] at this
theorem Tryd.infoPt : (Tryd.prog.info? 106).map (fun i => (i.zero, i.size, i.bytes)) = some (some (.agg #[.int .i64 0, .int .i64 0]), 2, 16) := by kernel_rfl
theorem Tryd.infoInt : (Tryd.prog.info? 3).map (fun i => (i.zero, i.size, i.bytes)) = some (some (.int .i64 0), 1, 8) := by kernel_rfl
theorem Tryd.infoFive : (Tryd.prog.info? 107).map (fun i => (i.zero, i.size, i.bytes)) = some (some (.agg (Array.replicate 10 (.int .i64 0))), 10, 80) := by kernel_rfl
/-- 'append(open, p)'. -/
theorem q_more (base : Nat) (v : Value) (l : List Pt) (x : Pt) (ty g0 : Nat) (w : World) (h : IsQ w base v l) (hb : base ≤ w.heap.size) (hlen : l.length ≤ 100000)
    (hg0 : w.heap[g0]? = some (.cells #[.int .i64 x.1, .int .i64 x.2] 106 (0, 0))) :
    ∃ v' w', (Builtin.append_ #[108, 108] ty #[v, .slice (some ⟨g0, 0, none⟩) 1 1]).run Tryd.prog w = .ok v' w' ∧ IsQ w' base v' (l ++ [x]) ∧ Keeps (fun k => qBlock v = some k) w w' ∧
      ∀ g, qBlock v' = some g → qBlock v = some g ∨ w.heap.size ≤ g := by
  obtain ⟨i0, hi, hz0, hz1, hz2⟩ := info_parts Tryd.infoPt
  have hnews : ∀ j u, [Value.int .i64 x.1, .int .i64 x.2][j]? = some u → w.cell? ((⟨g0, 0, none⟩ : Addr).add j) = some u := by
    intro j u hu
    rw [show (⟨g0, 0, none⟩ : Addr).add j = ⟨g0, j, none⟩ by unfold Addr.add; split <;> simp_all, blk_cell hg0]
    simpa using hu
  rcases h.ex with ⟨rfl, rfl⟩ | ⟨g, off, cap, cur, rfl, hbg, hg, hn, hm, hs, hc⟩
  · obtain ⟨v', w1, hr, ho, hgr, hm, -⟩ := run_append_moved (P := Tryd.prog) w base 108 ty 106 i0 _ 2 16 Tryd.underlying108 hi hz0 hz1 hz2 rfl (by decide) (.slice none 0 0) 0 [] ⟨by simp, .inl ⟨rfl, rfl⟩⟩
      ⟨g0, 0, none⟩ 1 1 [.int .i64 x.1, .int .i64 x.2] rfl hnews (by intro u hu; simp at hu; rcases hu with rfl | rfl <;> rfl) (by unfold maxLen; omega) (by omega) hb
    refine ⟨v', w1, hr, ⟨.inr ?_⟩, (Keeps.refl _ w).andGrown hgr (fun k e => by simp [Value.ownBlock] at e), ?_⟩
    · rcases ho.2 with ⟨_, h0⟩ | ⟨b, cap, cur, rfl, hb2, hg2, hn2, hm2, hs2, ht2⟩
      · omega
      · refine ⟨b, 0, cap, cur, rfl, hb2, hg2, hn2, hm2, by omega, fun j u hu => ?_⟩
        have e : ptVals ([] ++ [x]) = [Value.int .i64 x.1, .int .i64 x.2] := rfl
        rw [e, show [Value.int .i64 x.1, .int .i64 x.2] = [] ++ [Value.int .i64 x.1, .int .i64 x.2] from rfl, ← ht2, List.getElem?_take] at hu
        split at hu
        · simpa using hu
        · cases hu
    · intro g e
      rcases hm with hm | ⟨g', e', hg'⟩
      · rcases ho.2 with ⟨rfl, h0⟩ | ⟨b, cap, cur, rfl, _⟩
        · omega
        · simp [Value.ownBlock] at hm
      · rcases ho.2 with ⟨rfl, h0⟩ | ⟨b, cap, cur, rfl, _⟩
        · omega
        · simp [Value.ownBlock] at e'
          simp [qBlock] at e
          exact .inr (by omega)
  · by_cases hroom : l.length + 1 ≤ cap
    · have hcell : ∀ j, j < 2 → (w.cell? ⟨g, off + l.length * i0.size + j, none⟩).isSome = true := by
        intro j hj
        rw [blk_cell hg, hz1]
        have : off + l.length * 2 + j < cur.size := by omega
        simp [this]
      have hr := run_append_room_cells (P := Tryd.prog) w 108 ty 106 i0 Tryd.underlying108 hi g off l.length cap ⟨g0, 0, none⟩ 1 1 [.int .i64 x.1, .int .i64 x.2] (by rw [hz1]; rfl) hnews (by intro u hu; simp at hu; rcases hu with rfl | rfl <;> rfl) hroom (by simpa using hcell) (fun j _ => blk_free hg _)
      rw [hz1] at hr
      refine ⟨_, _, hr, ⟨.inr ?_⟩, ?_, ?_⟩
      · refine ⟨g, off, cap, _, by simp, hbg, blk_set (blk_set hg _) _, by simpa using hroom, hm, by simpa using hs, fun j u hu => ?_⟩
        rw [ptVals_append] at hu
        have hl2 := ptVals_length l
        by_cases hj : j < (ptVals l).length
        · rw [List.getElem?_append_left hj] at hu
          rw [Array.getElem?_setIfInBounds_ne (by omega), Array.getElem?_setIfInBounds_ne (by omega)]
          exact hc j u hu
        · rw [List.getElem?_append_right (by omega)] at hu
          have hlt := (List.getElem?_eq_some_iff.1 hu).1
          have hl3 : (ptVals [x]).length = 2 := rfl
          obtain hj2 | hj2 : j = l.length * 2 ∨ j = l.length * 2 + 1 := by omega
          · subst hj2
            rw [show l.length * 2 - (ptVals l).length = 0 by omega] at hu
            rw [Array.getElem?_setIfInBounds_ne (by omega), Array.getElem?_setIfInBounds_self_of_lt (by omega)]
            exact hu
          · subst hj2
            rw [show l.length * 2 + 1 - (ptVals l).length = 1 by omega] at hu
            rw [show off + (l.length * 2 + 1) = off + l.length * 2 + 1 by omega, Array.getElem?_setIfInBounds_self_of_lt (by simp; omega)]
            exact hu
      · exact ((Keeps.refl (fun k => qBlock (.slice (some ⟨g, off, none⟩) l.length cap) = some k) w).andSet (x := ⟨g, off + l.length * 2, none⟩) (.inl rfl) (.int .i64 x.1)).andSet (x := ⟨g, off + l.length * 2 + 1, none⟩) (.inl rfl) (.int .i64 x.2)
      · intro k e
        exact .inl e
    · obtain ⟨v', w1, hr, ho, hgr⟩ := run_append_arg_grows (P := Tryd.prog) w 108 ty 106 i0 _ 2 16 Tryd.underlying108 hi hz0 hz1 hz2 rfl (by decide) ⟨g, off, none⟩ l.length cap (ptVals l) (ptVals_length l)
        (by
          intro j u hu
          rw [show (⟨g, off, none⟩ : Addr).add j = ⟨g, off + j, none⟩ by unfold Addr.add; split <;> simp_all, blk_cell hg]
          exact hc j u hu)
        ⟨g0, 0, none⟩ 1 1 [.int .i64 x.1, .int .i64 x.2] rfl hnews (by omega) (by unfold maxLen; omega) (by omega)
      refine ⟨v', w1, hr, ⟨.inr ?_⟩, (Keeps.refl _ w).andGrown hgr (fun k e => by simp at e), ?_⟩
      · rcases ho.2 with ⟨_, h0⟩ | ⟨b, cap2, cur2, rfl, hb2, hg2, hn2, hm2, hs2, ht2⟩
        · omega
        · refine ⟨b, 0, cap2, cur2, by simp, by omega, hg2, by simpa using hn2, hm2, by omega, fun j u hu => ?_⟩
          rw [ptVals_append, show ptVals [x] = [Value.int .i64 x.1, .int .i64 x.2] from rfl, ← ht2, List.getElem?_take] at hu
          split at hu
          · simpa using hu
          · cases hu
      · intro k e
        rcases ho.2 with ⟨_, h0⟩ | ⟨b, cap2, cur2, rfl, hb2, _⟩
        · omega
        · simp [qBlock] at e
          exact .inr (by omega)
/-- 'append(list, x)' of a number. -/
theorem int_more (base : Nat) (s : Value) (l : List Int) (x : Int) (n ty g0 : Nat) (w : World) (hn : n = l.length) (h : w.ownsRow base 3 1 s n (l.map (Value.int .i64))) (hb : base ≤ w.heap.size) (hlen : (n + 1) * 8 ≤ 140737488355328)
    (hg0 : w.heap[g0]? = some (.cells #[.int .i64 x] 3 (0, 0))) :
    ∃ g cap w', (Builtin.append_ #[56, 56] ty #[s, .slice (some ⟨g0, 0, none⟩) 1 1]).run Tryd.prog w = .ok (.slice (some ⟨g, 0, none⟩) (n + 1) cap) w' ∧
      w'.ownsRow base 3 1 (.slice (some ⟨g, 0, none⟩) (n + 1) cap) (n + 1) ((l ++ [x]).map (Value.int .i64)) ∧ Keeps (fun k => s.ownBlock = some k) w w' ∧ (s.ownBlock = some g ∨ w.heap.size ≤ g) := by
  obtain ⟨i0, hi, hz0, hz1, hz2⟩ := info_parts Tryd.infoInt
  obtain ⟨v', w1, hr, ho, hgr, hm, -⟩ := run_append_moved (P := Tryd.prog) w base 56 ty 3 i0 _ 1 8 Tryd.underlying56 hi hz0 hz1 hz2 rfl (by decide) s n _ h
    ⟨g0, 0, none⟩ 1 1 [.int .i64 x] rfl (by
      intro j u hu
      rw [show (⟨g0, 0, none⟩ : Addr).add j = ⟨g0, j, none⟩ by unfold Addr.add; split <;> simp_all, blk_cell hg0]
      simpa using hu) (by
      intro u hu
      simp at hu
      subst hu
      rfl) (by unfold maxLen; omega) hlen hb
  obtain ⟨g, cap, rfl⟩ : ∃ g cap, v' = .slice (some ⟨g, 0, none⟩) (n + 1) cap := by
    rcases ho.2 with ⟨_, h0⟩ | ⟨b, cap, cur, rfl, _⟩
    · omega
    · exact ⟨b, cap, rfl⟩
  refine ⟨g, cap, w1, hr, by rw [List.map_append]; exact ho, (Keeps.refl _ w).andGrown hgr (fun k e => .inl e), ?_⟩
  rcases hm with hm | ⟨g', e, hg⟩
  · exact .inl (hm.symm.trans rfl)
  · simp [Value.ownBlock] at e; exact .inr (by omega)
end Go.Proofs.YtoehkjfdaolcnaaDoor
/-! The search, plainly: what stays, and that it ends. -/
namespace Go.Proofs.YtoehkjfdaolcnaaDoor
set_option linter.unusedVariables false
set_option maxRecDepth 20000
open Go.RowKit Go.HeapKit

structure Good (f : Fn) : Prop where
  n1 : 1 ≤ f.code.length
  n2 : f.code.length ≤ 512
  kind : ∀ (j : Nat) (i : Ins), f.code[j]? = some i → 0 ≤ i.kind ∧ i.kind < 10
  ways : ∀ (j : Nat) (i : Ins), f.code[j]? = some i → ∀ a ∈ exitsV j i, 0 ≤ a ∧ a < f.code.length
/-- A point of a code of n places. -/
structure PtOk (n : Nat) (p : Pt) : Prop where
  a0 : 0 ≤ p.1
  a1 : p.1 < n
  st : p.2 = 1 ∨ p.2 = 2 ∨ p.2 = 4
theorem after_st (i : Ins) (slot st : Int) (h : st = 1 ∨ st = 2 ∨ st = 4) : afterV i slot st = 1 ∨ afterV i slot st = 2 ∨ afterV i slot st = 4 := by
  unfold afterV
  split
  · simp
  · split
    · simp
    · exact h
theorem ptIx_lt {n : Nat} {p : Pt} (h : PtOk n p) : ptIx p < n * 5 := by
  obtain ⟨h1, h2, h3⟩ := h
  unfold ptIx
  omega
/-- What the visits leave. -/
structure Seeks (n : Nat) (fr op : List Pt) : Prop where
  len : fr.length = n * 5
  op : ∀ p ∈ op, PtOk n p
theorem visit_ok (n : Nat) (goal here : Pt) (st : Int) (hst : st = 1 ∨ st = 2 ∨ st = 4) (hh : here.2 ≠ 0) : ∀ (L : List Int) (fr op : List Pt), (∀ a ∈ L, 0 ≤ a ∧ a < n) → Seeks n fr op →
    Seeks n (visit goal here st L fr op).1 (visit goal here st L fr op).2.1 ∧ 2 * blanks (visit goal here st L fr op).1 + (visit goal here st L fr op).2.1.length ≤ 2 * blanks fr + op.length
  | [], fr, op, _, h => ⟨h, Nat.le_refl _⟩
  | a :: r, fr, op, hL, h => by
    have ha := hL a (List.mem_cons_self ..)
    have hp : PtOk n (a, st) := ⟨ha.1, ha.2, hst⟩
    have hr : ∀ b ∈ r, 0 ≤ b ∧ b < n := fun b hb => hL b (List.mem_cons_of_mem _ hb)
    have hix := ptIx_lt hp
    unfold visit
    split
    · exact visit_ok n goal here st hst hh r fr op hr h
    · rename_i hm
      have h0 : (fr.getD (ptIx (a, st)) (0, 0)).2 = 0 := by
        unfold metV at hm
        simpa using hm
      have hb := blanks_set (h := here) (by rw [h.len]; exact hix) h0 hh
      split
      · exact ⟨⟨by simpa using h.len, h.op⟩, by simp only; omega⟩
      · have h2 : Seeks n (fr.set (ptIx (a, st)) here) (op ++ [(a, st)]) := ⟨by simpa using h.len, fun p hp' => by
          rcases List.mem_append.1 hp' with hq | hq
          · exact h.op p hq
          · simp at hq; subst hq; exact hp⟩
        have ih := visit_ok n goal here st hst hh r _ _ hr h2
        refine ⟨ih.1, Nat.le_trans ih.2 ?_⟩
        simp only [List.length_append, List.length_cons, List.length_nil]
        omega

/-- How many blanks a row of points has, read off its cells. -/
def blankV : List Value → Nat
  | _ :: .int _ x :: r => (if x = 0 then 1 else 0) + blankV r
  | _ :: _ :: r => blankV r
  | _ => 0
theorem blankV_pts (l : List Pt) : blankV (ptVals l) = blanks l := by
  induction l with
  | nil => rfl
  | cons p l ih =>
    have e : ptVals (p :: l) = Value.int .i64 p.1 :: .int .i64 p.2 :: ptVals l := rfl
    rw [e]
    simp only [blankV, ih, blanks, List.countP_cons]
    by_cases h : p.2 = 0 <;> simp [h] <;> omega
def blankW (w : World) (g : Nat) : Nat := match w.heap[g]? with
  | some (.cells c _ _) => blankV c.toList
  | _ => 0
theorem IsFrom.blank {w : World} {g n : Nat} {fr : List Pt} (h : IsFrom w g n fr) : blankW w g = blanks fr := by
  unfold blankW
  rw [h.blk]
  simpa using blankV_pts fr
def lenS : Value → Nat
  | .slice _ n _ => n
  | _ => 0
theorem IsQ.lenS {w : World} {base : Nat} {v : Value} {l : List Pt} (h : IsQ w base v l) : lenS v = l.length := by
  rcases h.ex with ⟨rfl, rfl⟩ | ⟨g, off, cap, cur, rfl, _⟩ <;> rfl

theorem blk_ne {w : World} {p q : Nat} {c c' : Array Value} {t t' : TypeId} {z z' : Nat × Nat} (h : w.heap[p]? = some (.cells c t z)) (h' : w.heap[q]? = some (.cells c' t' z')) (ht : t ≠ t') : p ≠ q := by
  rintro rfl
  rw [h] at h'
  injection h' with e
  injection e with _ e2 _
  exact ht e2

/-- The search's memory. -/
structure Held (w wr : World) (B n : Nat) (fv : Array Value) (goal : Pt) (fr : List Pt) (v : Value) (op : List Pt) : Prop where
  keep : Keeps None w wr
  box : wr.heap[B]? = some (.cells fv 37 (0, 0))
  gbox : wr.heap[B + 1]? = some (.cells #[.int .i64 goal.1, .int .i64 goal.2] 106 (0, 0))
  from_ : IsFrom wr (B + 2) n fr
  q : IsQ wr (B + 3) v op
  plain : Seeks n fr op
  low : w.heap.size ≤ B
theorem Held.q_ne {w wr : World} {B n : Nat} {fv : Array Value} {goal : Pt} {fr : List Pt} {v : Value} {op : List Pt} (h : Held w wr B n fv goal fr v op) {g : Nat} (hg : qBlock v = some g) : B + 3 ≤ g := (h.q.low hg).1
theorem Held.more {w wr w' : World} {B n : Nat} {fv : Array Value} {goal : Pt} {fr : List Pt} {v : Value} {op : List Pt} (h : Held w wr B n fv goal fr v op) (hk : Keeps None wr w') : Held w w' B n fv goal fr v op :=
  ⟨h.keep.trans hk (fun _ f _ => f), blk_kept h.box hk (fun f => f), blk_kept h.gbox hk (fun f => f), h.from_.kept hk (fun f => f), h.q.kept hk (fun _ _ f => f), h.plain, h.low⟩
/-- .. while a row of numbers is written. -/
theorem Held.rows {w wr w' : World} {B n : Nat} {fv : Array Value} {goal : Pt} {fr : List Pt} {v : Value} {op : List Pt} (h : Held w wr B n fv goal fr v op) {S : Nat → Prop} (hk : Keeps S wr w') (hS : ∀ g, S g → w.heap.size ≤ g ∧ ∃ c z, wr.heap[g]? = some (.cells c 3 z)) : Held w w' B n fv goal fr v op := by
  have no : ∀ {p : Nat} {c : Array Value} {t : TypeId} {z : Nat × Nat}, wr.heap[p]? = some (.cells c t z) → t ≠ 3 → ¬ S p := fun hp ht hs => by
    obtain ⟨_, c', z', hc⟩ := hS _ hs
    exact blk_ne hp hc ht rfl
  refine ⟨h.keep.trans hk (fun i hs hi => by have := (hS i hs).1; omega), blk_kept h.box hk (no h.box (by decide)), blk_kept h.gbox hk (no h.gbox (by decide)), h.from_.kept hk (no h.from_.blk (by decide)), h.q.kept hk (fun g e => ?_), h.plain, h.low⟩
  obtain ⟨_, _, cur, hc⟩ := h.q.low e
  exact no hc (by decide)
/-- A point is met. -/
theorem Held.meet {w wr : World} {B n : Nat} {fv : Array Value} {goal : Pt} {fr : List Pt} {v : Value} {op : List Pt} (h : Held w wr B n fv goal fr v op) (k : Nat) (x : Pt) (hk : k < fr.length) :
    Held w ((wr.setCell ⟨B + 2, k * 2, none⟩ (.int .i64 x.1)).setCell ⟨B + 2, k * 2 + 1, none⟩ (.int .i64 x.2)) B n fv goal (fr.set k x) v op ∧
    Keeps (· = B + 2) wr ((wr.setCell ⟨B + 2, k * 2, none⟩ (.int .i64 x.1)).setCell ⟨B + 2, k * 2 + 1, none⟩ (.int .i64 x.2)) := by
  have hk' : Keeps (· = B + 2) wr ((wr.setCell ⟨B + 2, k * 2, none⟩ (.int .i64 x.1)).setCell ⟨B + 2, k * 2 + 1, none⟩ (.int .i64 x.2)) :=
    ((Keeps.refl (· = B + 2) wr).andSet (x := ⟨B + 2, k * 2, none⟩) (.inl rfl) _).andSet (x := ⟨B + 2, k * 2 + 1, none⟩) (.inl rfl) _
  refine ⟨⟨h.keep.trans hk' (fun i e hi => by have := h.low; omega), blk_kept h.box hk' (by omega), blk_kept h.gbox hk' (by omega), h.from_.set k x hk, h.q.kept hk' (fun g e => by have := h.q_ne e; omega), ⟨by simpa using h.plain.len, h.plain.op⟩, h.low⟩, hk'⟩
/-- A point goes behind the queue. -/
theorem Held.push {w wr w' : World} {B n : Nat} {fv : Array Value} {goal : Pt} {fr : List Pt} {v v' : Value} {op : List Pt} {x : Pt} (h : Held w wr B n fv goal fr v op) (hq : IsQ w' (B + 3) v' (op ++ [x])) (hk : Keeps (fun k => qBlock v = some k) wr w') (hx : PtOk n x) :
    Held w w' B n fv goal fr v' (op ++ [x]) := by
  refine ⟨h.keep.trans hk (fun i e hi => by have := h.q_ne e; have := h.low; omega), blk_kept h.box hk (fun e => by have := h.q_ne e; omega), blk_kept h.gbox hk (fun e => by have := h.q_ne e; omega), h.from_.kept hk (fun e => by have := h.q_ne e; omega), hq, ⟨h.plain.len, fun p hp => ?_⟩, h.low⟩
  rcases List.mem_append.1 hp with h1 | h1
  · exact h.plain.op p h1
  · simp at h1; subst h1; exact hx
/-- The queue without its head. -/
theorem Held.tail {w wr : World} {B n : Nat} {fv : Array Value} {goal : Pt} {fr : List Pt} {v v' : Value} {p : Pt} {t : List Pt} (h : Held w wr B n fv goal fr v (p :: t)) (hq : IsQ wr (B + 3) v' t) : Held w wr B n fv goal fr v' t :=
  ⟨h.keep, h.box, h.gbox, h.from_, hq, ⟨h.plain.len, fun p hp => h.plain.op p (List.mem_cons_of_mem _ hp)⟩, h.low⟩
theorem own_zero {w : World} {e : TypeId} {v : Value} {m : Nat} {xs : List Value} (h : w.ownsRow 0 e 1 v m xs) : ∃ ao cap, v = .slice ao m cap ∧ w.ownsRow 0 e 1 (.slice ao 0 cap) 0 [] ∧ (Value.slice ao 0 cap).ownBlock = v.ownBlock ∧ cap ≤ maxLen ∧ m ≤ cap ∧ (ao = none → cap = 0) ∧ (∀ x, ao = some x → x.spot = none) := by
  rcases h.2 with ⟨rfl, rfl⟩ | ⟨g, cap, cur, rfl, hb, hg, hn, hm, hc, ht⟩
  · exact ⟨none, 0, rfl, ⟨by simp, .inl ⟨rfl, rfl⟩⟩, rfl, by simp [maxLen], Nat.le_refl _, fun _ => rfl, fun _ h => by cases h⟩
  · exact ⟨_, cap, rfl, ⟨by simp, .inr ⟨g, cap, cur, rfl, hb, hg, Nat.zero_le _, hm, hc, by simp⟩⟩, rfl, hm, hn, fun h => (by cases h), fun x h => (by cases h; rfl)⟩
/-- What the inner loop holds. -/
structure Inner (w wr : World) (B n H M : Nat) (fv : Array Value) (goal here : Pt) (st : Int) (L : List Int) (V : List Pt × List Pt × Bool) (s9 : Value) (j : Nat) (s8 : Value) (fr op : List Pt) : Prop where
  held : Held w wr B n fv goal fr s8 op
  vis : visit goal here st (L.drop j) fr op = V
  meas : 2 * blanks fr + op.length ≤ M
  hbox : wr.heap[H]? = some (.cells #[.int .i64 here.1, .int .i64 here.2] 106 (0, 0))
  row : wr.ownsRow 0 3 1 s9 L.length (L.map (Value.int .i64))
  rlow : ∀ g, s9.ownBlock = some g → w.heap.size ≤ g
  qne : ∀ g, qBlock s8 = some g → g ≠ H
theorem Inner.more {w wr w' : World} {B n H M : Nat} {fv : Array Value} {goal here : Pt} {st : Int} {L : List Int} {V : List Pt × List Pt × Bool} {s9 : Value} {j : Nat} {s8 : Value} {fr op : List Pt} (h : Inner w wr B n H M fv goal here st L V s9 j s8 fr op) (hk : Keeps None wr w') : Inner w w' B n H M fv goal here st L V s9 j s8 fr op :=
  ⟨h.held.more hk, h.vis, h.meas, blk_kept h.hbox hk (fun f => f), hk.own h.row (fun _ _ f => f), h.rlow, h.qne⟩
/-- A place that is met already. -/
theorem Inner.skip {w wr : World} {B n H M : Nat} {fv : Array Value} {goal here : Pt} {st : Int} {L : List Int} {V : List Pt × List Pt × Bool} {s9 : Value} {j : Nat} {s8 : Value} {fr op : List Pt} (h : Inner w wr B n H M fv goal here st L V s9 j s8 fr op) {a : Int} (ha : L[j]? = some a) (hm : metV fr (a, st) = true) : Inner w wr B n H M fv goal here st L V s9 (j + 1) s8 fr op := by
  refine ⟨h.held, ?_, h.meas, h.hbox, h.row, h.rlow, h.qne⟩
  have hv := h.vis
  rw [List.drop_eq_getElem_cons (List.getElem?_eq_some_iff.1 ha).1, (List.getElem?_eq_some_iff.1 ha).2] at hv
  unfold visit at hv
  rwa [if_pos hm] at hv
/-- A new place. -/
theorem Inner.mark {w wr : World} {B n H M : Nat} {fv : Array Value} {goal here : Pt} {st : Int} {L : List Int} {V : List Pt × List Pt × Bool} {s9 : Value} {j : Nat} {s8 : Value} {fr op : List Pt} (h : Inner w wr B n H M fv goal here st L V s9 j s8 fr op) {a : Int} (ha : L[j]? = some a) (hm : metV fr (a, st) = false)
    (ok : PtOk n (a, st)) (hh : here.2 ≠ 0) : ∃ w', w' = (wr.setCell ⟨B + 2, ptIx (a, st) * 2, none⟩ (.int .i64 here.1)).setCell ⟨B + 2, ptIx (a, st) * 2 + 1, none⟩ (.int .i64 here.2) ∧ Held w w' B n fv goal (fr.set (ptIx (a, st)) here) s8 op ∧ Keeps (· = B + 2) wr w' ∧ w'.heap[H]? = some (.cells #[.int .i64 here.1, .int .i64 here.2] 106 (0, 0)) ∧
      w'.ownsRow 0 3 1 s9 L.length (L.map (Value.int .i64)) ∧ 2 * blanks (fr.set (ptIx (a, st)) here) + op.length + 2 ≤ M ∧
      V = (if (a, st) = goal then (fr.set (ptIx (a, st)) here, op, true) else visit goal here st (L.drop (j + 1)) (fr.set (ptIx (a, st)) here) (op ++ [(a, st)])) := by
  have hlt : ptIx (a, st) < fr.length := by rw [h.held.plain.len]; exact ptIx_lt ok
  obtain ⟨h1, h2⟩ := h.held.meet (ptIx (a, st)) here hlt
  refine ⟨_, rfl, h1, h2, blk_kept h.hbox h2 (blk_ne h.hbox h.held.from_.blk (by decide)), h2.own h.row (fun g e => ?_), ?_, ?_⟩
  · obtain ⟨c, hc⟩ := own_block h.row e
    exact blk_ne hc h.held.from_.blk (by decide)
  · have h0 : (fr.getD (ptIx (a, st)) (0, 0)).2 = 0 := by
      unfold metV at hm
      simpa using hm
    have := blanks_set (h := here) hlt h0 hh
    have := h.meas
    omega
  · have hv := h.vis
    rw [List.drop_eq_getElem_cons (List.getElem?_eq_some_iff.1 ha).1, (List.getElem?_eq_some_iff.1 ha).2] at hv
    unfold visit at hv
    rw [if_neg (by rw [hm]; simp)] at hv
    exact hv.symm
theorem runS_step {f : Fn} {slot : Int} {goal : Pt} {k : Nat} {fr t : List Pt} {a : Nat} {h2 : Int} {x : Ins} {V : List Pt × List Pt × Bool} (hx : f.code[a]? = some x) (hV : V = visit goal ((a : Int), h2) (afterV x slot h2) (exitsV a x) fr t) :
    runS f slot goal (k + 1) fr (((a : Int), h2) :: t) = (match V with | (fr', _, true) => fr' | (fr', op', false) => runS f slot goal k fr' op') := by
  conv => lhs; unfold runS
  simp only [Int.toNat_natCast, hx, ← hV]
  obtain ⟨a, b, c⟩ := V
  cases c <;> rfl
theorem exits_len (a : Int) (i : Ins) : (exitsV a i).length ≤ 3 := by
  unfold exitsV
  split <;> split <;> split <;> simp
end Go.Proofs.YtoehkjfdaolcnaaDoor
/-! The search, plainly: what is met is closed under the steps. -/
namespace Go.Proofs.YtoehkjfdaolcnaaDoor
set_option linter.unusedVariables false
set_option maxRecDepth 20000

theorem code_parts {al : Bool} {fs : List Fn} {f : Fn} (h : codeFault al fs f = none) : (∀ (j : Nat) i, f.code[j]? = some i → fitsV al fs f i = true) ∧ runsOut f = false := by
  unfold codeFault at h
  split at h
  · cases h
  · rename_i h1
    refine ⟨fun j i hi => ?_, ?_⟩
    · have := firstAt_all _ f.code 0 h1 j i hi
      by_cases hv : fitsV al fs f i = true
      · exact hv
      · simp [hv] at this
    · cases hr : runsOut f
      · rfl
      · rw [hr] at h; cases h
theorem fits_kind {al : Bool} {fs : List Fn} {f : Fn} {i : Ins} (h : fitsV al fs f i = true) : 0 ≤ i.kind ∧ i.kind < 10 := by
  simp only [fitsV, Bool.and_eq_true] at h
  exact (belowV_iff _ _).1 h.1.1
theorem fits_ways {al : Bool} {fs : List Fn} {f : Fn} {i : Ins} (h : fitsV al fs f i = true) : allowsV al fs f (fA i.kind.toNat) i.a i = true ∧ allowsV al fs f (fB i.kind.toNat) i.b i = true ∧ allowsV al fs f (fC i.kind.toNat) i.c i = true := by
  simp only [fitsV, Bool.and_eq_true] at h
  exact ⟨h.2.1.1, h.2.1.2, h.2.2⟩
theorem good_of {al : Bool} {fs : List Fn} {f : Fn} (hs : shapeV f = true) (h : codeFault al fs f = none) : Good f := by
  obtain ⟨hf, hr⟩ := code_parts h
  have hsh : 1 ≤ f.code.length ∧ f.code.length ≤ 512 := by
    simp only [shapeV, Bool.and_eq_true, decide_eq_true_eq] at hs
    omega
  refine ⟨hsh.1, hsh.2, fun j i hi => fits_kind (hf j i hi), fun j i hi a ha => ?_⟩
  have hj := (List.getElem?_eq_some_iff.1 hi).1
  obtain ⟨w1, w2, w3⟩ := fits_ways (hf j i hi)
  simp only [exitsV, List.mem_append] at ha
  rcases ha with (ha | ha) | ha
  · split at ha
    · rename_i hn
      simp at ha
      subst ha
      have : j ≠ f.code.length - 1 := by
        rintro rfl
        unfold runsOut at hr
        rw [hi] at hr
        simp only at hr
        rw [hn] at hr
        cases hr
      omega
    · cases ha
  · split at ha
    · rename_i hn
      simp at ha
      subst ha
      rw [hn] at w1
      simp [allowsV, belowV] at w1
      exact w1
    · cases ha
  · split at ha
    · rename_i hn
      simp at ha
      subst ha
      rw [hn] at w2
      simp [allowsV, belowV] at w2
      exact w2
    · cases ha

theorem ptIx_inj {n : Nat} {p q : Pt} (hp : PtOk n p) (hq : PtOk n q) (h : ptIx p = ptIx q) : p = q := by
  obtain ⟨p1, p2⟩ := p
  obtain ⟨q1, q2⟩ := q
  obtain ⟨h1, h2, h3⟩ := hp
  obtain ⟨k1, k2, k3⟩ := hq
  unfold ptIx at h
  simp only at *
  have : p1 = q1 := by omega
  have : p2 = q2 := by omega
  simp_all
theorem met_set {n : Nat} {fr : List Pt} {p q here : Pt} (hp : PtOk n p) (hq : PtOk n q) (hl : fr.length = n * 5) (hh : here.2 ≠ 0) : metV (fr.set (ptIx p) here) q = true ↔ q = p ∨ metV fr q = true := by
  have hlt := ptIx_lt hp
  by_cases e : ptIx p = ptIx q
  · have := ptIx_inj hp hq e
    subst this
    simp [metV, List.getD, hl, hlt, hh]
  · have : q ≠ p := fun h => e (by rw [h])
    have e2 : (fr.set (ptIx p) here).getD (ptIx q) (0, 0) = fr.getD (ptIx q) (0, 0) := by rw [List.getD_eq_getElem?_getD, List.getElem?_set_ne e, ← List.getD_eq_getElem?_getD]
    unfold metV
    rw [e2]
    exact ⟨.inr, fun h => h.resolve_left this⟩

/-- What a visit does: nothing is forgotten, all is met, what is new lies in the queue. -/
structure Visited (n : Nat) (st : Int) (L : List Int) (fr op fr' op' : List Pt) : Prop where
  mono : ∀ p, PtOk n p → metV fr p = true → metV fr' p = true
  all : ∀ a ∈ L, metV fr' (a, st) = true
  new : ∀ p, PtOk n p → metV fr' p = true → metV fr p = true ∨ p ∈ op'
  old : ∀ p ∈ op, p ∈ op'
  qmet : (∀ p ∈ op, metV fr p = true) → ∀ p ∈ op', metV fr' p = true
theorem visit_closed (n : Nat) (goal here : Pt) (st : Int) (hst : st = 1 ∨ st = 2 ∨ st = 4) (hh : here.2 ≠ 0) : ∀ (L : List Int) (fr op : List Pt), (∀ a ∈ L, 0 ≤ a ∧ a < n) → Seeks n fr op →
    (visit goal here st L fr op).2.2 = false → Visited n st L fr op (visit goal here st L fr op).1 (visit goal here st L fr op).2.1
  | [], fr, op, _, h, _ => ⟨fun _ _ m => m, fun _ h => (by cases h), fun _ _ m => .inl m, fun _ m => m, fun q => q⟩
  | a :: r, fr, op, hL, h, hb => by
    have ha := hL a (List.mem_cons_self ..)
    have hp : PtOk n (a, st) := ⟨ha.1, ha.2, hst⟩
    have hr : ∀ b ∈ r, 0 ≤ b ∧ b < n := fun b hb => hL b (List.mem_cons_of_mem _ hb)
    unfold visit at hb ⊢
    split at hb
    · rename_i hm
      rw [if_pos hm]
      have ih := visit_closed n goal here st hst hh r fr op hr h hb
      refine ⟨ih.mono, fun b hb => ?_, ih.new, ih.old, ih.qmet⟩
      rcases List.mem_cons.1 hb with rfl | hb
      · exact ih.mono _ hp hm
      · exact ih.all b hb
    · rename_i hm
      rw [if_neg hm]
      split at hb
      · cases hb
      · rename_i hg
        rw [if_neg hg]
        have h2 : Seeks n (fr.set (ptIx (a, st)) here) (op ++ [(a, st)]) := ⟨by simpa using h.len, fun p hp' => by
          rcases List.mem_append.1 hp' with hq | hq
          · exact h.op p hq
          · simp at hq; subst hq; exact hp⟩
        have ih := visit_closed n goal here st hst hh r _ _ hr h2 hb
        refine ⟨fun p ok m => ih.mono p ok ((met_set hp ok h.len hh).2 (.inr m)), fun b hb => ?_, fun p ok m => ?_, fun p m => ih.old p (List.mem_append_left _ m), fun q => ih.qmet fun p m => ?_⟩
        · rcases List.mem_cons.1 hb with rfl | hb
          · exact ih.mono _ hp ((met_set hp hp h.len hh).2 (.inl rfl))
          · exact ih.all b hb
        · rcases ih.new p ok m with m | m
          · rcases (met_set hp ok h.len hh).1 m with rfl | m
            · exact .inr (ih.old _ (by simp))
            · exact .inl m
          · exact .inr m
        · rcases List.mem_append.1 m with m | m
          · exact (met_set hp (h.op p m) h.len hh).2 (.inr (q p m))
          · simp at m; subst m; exact (met_set hp hp h.len hh).2 (.inl rfl)

/-- Of every point that is met and not waiting, all that follows is met. -/
def ClosedBut (f : Fn) (slot : Int) (fr op : List Pt) : Prop := ∀ p i, PtOk f.code.length p → metV fr p = true → p ∉ op → f.code[p.1.toNat]? = some i → ∀ a ∈ exitsV p.1 i, metV fr (a, afterV i slot p.2) = true
theorem visit_free (n : Nat) (here : Pt) (st : Int) (hst : st = 1 ∨ st = 2 ∨ st = 4) : ∀ (L : List Int) (fr op : List Pt), (visit (0, 0) here st L fr op).2.2 = false
  | [], _, _ => rfl
  | a :: r, fr, op => by
    unfold visit
    have hne : ¬ (a, st) = ((0 : Int), (0 : Int)) := by simp; omega
    split
    · exact visit_free n here st hst r fr op
    · first
        | exact visit_free n here st hst r _ _
        | (rw [if_neg hne]; exact visit_free n here st hst r _ _)
theorem run_closed (f : Fn) (slot : Int) (hG : Good f) : ∀ (k : Nat) (fr op : List Pt), Seeks f.code.length fr op → (∀ p ∈ op, metV fr p = true) → 2 * blanks fr + op.length ≤ k → ClosedBut f slot fr op →
    ClosedBut f slot (runS f slot (0, 0) k fr op) [] ∧ (∀ p, PtOk f.code.length p → metV fr p = true → metV (runS f slot (0, 0) k fr op) p = true) ∧ (runS f slot (0, 0) k fr op).length = f.code.length * 5
  | 0, fr, op, hS, hq, hk, hC => by
    have : op = [] := List.eq_nil_of_length_eq_zero (by omega)
    subst this
    exact ⟨hC, fun _ _ m => m, hS.len⟩
  | k + 1, fr, [], hS, hq, hk, hC => ⟨hC, fun _ _ m => m, hS.len⟩
  | k + 1, fr, h :: t, hS, hq, hk, hC => by
    have hok := hS.op h (List.mem_cons_self ..)
    obtain ⟨i, hi⟩ : ∃ i, f.code[h.1.toNat]? = some i := ⟨f.code[h.1.toNat]'(by have := hok.a0; have := hok.a1; omega), by simp⟩
    have hst := after_st i slot h.2 hok.st
    have h0 : h.2 ≠ 0 := by have := hok.st; omega
    have hw : ∀ a ∈ exitsV h.1 i, 0 ≤ a ∧ a < f.code.length := fun a ha => hG.ways h.1.toNat i hi a (by rw [Int.toNat_of_nonneg hok.a0]; exact ha)
    have hS' : Seeks f.code.length fr t := ⟨hS.len, fun p hp => hS.op p (List.mem_cons_of_mem _ hp)⟩
    have hfr := visit_free f.code.length h _ hst (exitsV h.1 i) fr t
    have v1 := visit_ok f.code.length (0, 0) h _ hst h0 (exitsV h.1 i) fr t hw hS'
    have v2 := visit_closed f.code.length (0, 0) h _ hst h0 (exitsV h.1 i) fr t hw hS' hfr
    unfold runS
    rw [hi]
    simp only
    generalize visit (0, 0) h (afterV i slot h.2) (exitsV h.1 i) fr t = V at hfr v1 v2
    obtain ⟨fr', op', b⟩ := V
    simp only at hfr v1 v2
    subst hfr
    simp only
    have hC' : ClosedBut f slot fr' op' := by
      intro p j ok m hn hj a ha
      rcases v2.new p ok m with m | m
      · by_cases e : p = h
        · subst e
          rw [hi] at hj
          obtain rfl := Option.some.inj hj
          exact v2.all a ha
        · have ok' := hG.ways p.1.toNat j hj a (by rw [Int.toNat_of_nonneg ok.a0]; exact ha)
          exact v2.mono _ ⟨ok'.1, ok'.2, after_st j slot p.2 ok.st⟩ (hC p j ok m (fun hm => by
            rcases List.mem_cons.1 hm with hm | hm
            · exact e hm
            · exact hn (v2.old p hm)) hj a ha)
      · exact absurd m hn
    have ih := run_closed f slot hG k fr' op' v1.1 (v2.qmet (fun p hp => hq p (List.mem_cons_of_mem _ hp))) (by simp only [List.length_cons] at hk; omega) hC'
    exact ⟨ih.1, fun p ok m => ih.2.1 p ok (v2.mono p ok m), ih.2.2⟩
theorem fr0_len (n : Nat) : (fr0 n).length = n * 5 := by simp [fr0]
theorem fr0_met {n : Nat} {p : Pt} (hn : 1 ≤ n) (hp : PtOk n p) : metV (fr0 n) p = true ↔ p = (0, 1) := by
  have h1 : PtOk n (0, 1) := ⟨by simp, by simp; omega, .inl rfl⟩
  have := met_set (fr := List.replicate (n * 5) (0, 0)) (here := (0, 1)) h1 hp (by simp) (by simp)
  unfold fr0
  rw [show (1 : Nat) = ptIx (0, 1) from rfl, this]
  have h0 : metV (List.replicate (n * 5) (0, 0)) p = false := by
    unfold metV
    rw [List.getD_eq_getElem?_getD, List.getElem?_replicate]
    split <;> simp
  simp [h0]
/-- The whole search: the start is met, and what is met is closed. -/
theorem search_closed {f : Fn} (hG : Good f) (slot : Int) : ClosedBut f slot (searchV f slot (0, 0)) [] ∧ metV (searchV f slot (0, 0)) (0, 1) = true ∧ (searchV f slot (0, 0)).length = f.code.length * 5 := by
  have n1 := hG.n1
  have h1 : PtOk f.code.length (0, 1) := ⟨by simp, by simp; omega, .inl rfl⟩
  have hb := blanks_le (fr0 f.code.length)
  have hl := fr0_len f.code.length
  have := run_closed f slot hG (f.code.length * 10 + 2) (fr0 f.code.length) [(0, 1)] ⟨hl, fun p hp => by simp at hp; subst hp; exact h1⟩ (fun p hp => by simp at hp; subst hp; exact (fr0_met n1 h1).2 rfl)
    (by simp only [List.length_cons, List.length_nil]; omega) (fun p i ok m hn => by exact absurd ((fr0_met n1 ok).1 m) (by simpa using hn))
  exact ⟨this.1, this.2.1 _ h1 ((fr0_met n1 h1).2 rfl), this.2.2⟩
end Go.Proofs.YtoehkjfdaolcnaaDoor
