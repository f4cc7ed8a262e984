import Derived.Test.YtnhoedodnbifdaaDgBase
import Derived.Test.YtnhoedodnbifdaaOpenStruct
import Derived.SizedLaws
/-! A dag among the arguments. -/
namespace Go.Proofs.Ytnhoedodnbifdaa
set_option linter.unusedVariables false
set_option maxRecDepth 20000
open Go.ChangeShapes Go.WideShapes Go.ChangeAt Go.RowKit Go.HeapKit Go.Deep

section
variable {H : Type} {enc : TypeId × Value → H} {w : World} {base : Nat} {held : Bool}
theorem spot_none {w : World} {x : Addr} {v : Value} (h : w.cell? x = some v) : x.spot = none := by
  unfold World.cell? at h
  split at h
  · split at h
    · cases h
    · rename_i hs; simpa using hs
  · cases h
theorem spot_first {w : World} {base n : Nat} {x : Addr} {cs : List Value} (h : w.cells? base (x.add (0 * n)) n = some cs) (hn : 0 < n) : x.spot = none := by
  obtain ⟨_, hl, hc⟩ := World.cells?_some h
  have h0 := hc 0 hn
  rw [Nat.zero_mul, show (x.add 0).add 0 = x by unfold Addr.add; simp, List.getElem?_eq_getElem (by omega)] at h0
  exact spot_none h0
theorem choose_list {α : Type} (p : Nat → α → Prop) (n : Nat) (h : ∀ i, i < n → ∃ x, p i x) : ∃ l : List α, l.length = n ∧ ∀ i x, l[i]? = some x → p i x := by
  induction n with
  | zero => exact ⟨[], rfl, fun i x hx => by simp at hx⟩
  | succ n ih =>
    obtain ⟨l, hl, hp⟩ := ih (fun i hi => h i (by omega))
    obtain ⟨x, hx⟩ := h n (by omega)
    refine ⟨l ++ [x], by simp [hl], fun i y hy => ?_⟩
    by_cases hi : i < n
    · rw [List.getElem?_append_left (by omega)] at hy
      exact hp i y hy
    · have hlt := (List.getElem?_eq_some_iff.1 hy).1
      simp [hl] at hlt
      obtain rfl : i = n := by omega
      rw [List.getElem?_append_right (by omega), hl] at hy
      simp at hy
      subst hy
      exact hx
theorem okI_of_wf {x : Int} (h : (Lit.int .i64 x).wf = true) : okI x := by
  have h1 : IntKind.i64.min = -9223372036854775808 := by decide
  have h2 : IntKind.i64.max = 9223372036854775807 := by decide
  simp [Lit.wf, h1, h2] at h
  unfold okI
  omega
theorem add_at {b o : Nat} (k : Nat) : (⟨b, o, none⟩ : Addr).add k = ⟨b, o + k, none⟩ := by unfold Addr.add; split <;> simp_all

/-- Edges that came in; how many the memory behind them has room for. -/
theorem open_edges {fuel : Nat} {cs : List Value} {x : DataW H × List MemPlace} (h : DataW.trod enc Try.prog w base (fun _ => true) held fuel 22 cs = some x) :
    ∃ ca n cc l, cs = [.slice ca n cc] ∧ SeenE w ca n l ∧ (∀ i ∈ l, okI i.f ∧ okI i.t) ∧ (n = 0 ∨ ∃ elems sp, x.1 = .slice elems sp ∧ n ≤ elems.length + sp.length) := by
  rcases open_slice Try.underlying22 h with ⟨rfl, _⟩ | ⟨a, len, cap, m, n, D, Pl, rfl, _, hl, hm, hmm, hx, hall⟩
  · exact ⟨none, 0, 0, [], rfl, ⟨rfl, fun h => by omega⟩, (fun i hi => by cases hi), .inl rfl⟩
  · simp at hmm
    subst hmm
    have hc : Try.prog.cellsOf 52 = 2 := by kernel_rfl
    rw [hc] at hall
    have hex : ∀ i, i < len → ∃ x : Ed, (okI x.f ∧ okI x.t) ∧ ∃ b off, a = ⟨b, off, none⟩ ∧ b < w.heap.size ∧ EdAt w b (off + i * 2) x := by
      intro i hi
      obtain ⟨cs', h1, h2⟩ := hall i (by omega)
      obtain ⟨ns, hl, rfl, hw⟩ := struct_ints Try.underlying52 (by kernel_rfl) (by kernel_rfl) h2
      obtain ⟨_, hlen, hcell⟩ := World.cells?_some h1
      have hl5 : ns.length = 2 := hl
      match ns, hl5 with
      | [n0, n1], _ =>
        obtain ⟨b, off, sp⟩ := a
        have hsp : sp = none := by
          obtain ⟨cs0, hz, _⟩ := hall 0 (by omega)
          exact spot_first hz (by omega)
        subst hsp
        have hh : ∀ j, j < 2 → w.cell? ⟨b, off + i * 2 + j, none⟩ = ([n0, n1].map (Value.int .i64))[j]? := by
          intro j hj
          have := hcell j hj
          rw [add_at, add_at] at this
          exact this
        refine ⟨⟨n0, n1⟩, ⟨okI_of_wf (hw _ (by simp)), okI_of_wf (hw _ (by simp))⟩, b, off, rfl, ?_, ⟨hh 0 (by omega), hh 1 (by omega)⟩⟩
        have h0' := hh 0 (by omega)
        cases hb : w.heap[b]? with
        | none => simp [World.cell?, hb] at h0'
        | some o => exact (Array.getElem?_eq_some_iff.1 hb).1
    obtain ⟨l, hll, hp⟩ := choose_list _ len hex
    refine ⟨some a, len, m, l, rfl, ⟨hll.symm, fun h0 => ?_⟩, fun i hi => ?_, .inr ⟨_, _, congrArg Prod.fst hx, by simp⟩⟩
    · obtain ⟨_, b, off, rfl, hb, _⟩ := hp 0 (l[0]'(by omega)) (by simp)
      refine ⟨b, off, rfl, hb, fun k i hi => ?_⟩
      obtain ⟨_, b', off', e, _, hat⟩ := hp k i hi
      injection e with e1 e2
      subst e1 e2
      exact hat
    · obtain ⟨k, hk, rfl⟩ := List.mem_iff_getElem.1 hi
      exact (hp k _ (by simp)).1
theorem open_dag {r : Reach} {b0 : Nat} {v : Value} {d : DataW H} {ps : List MemPlace} (hval : Value.okWide Try.prog w r b0 24 v) (hd : DataW.Trod enc Try.prog w base (fun _ => true) held 24 v d ps) :
    ∃ n a m c l, v = dagV n a m c ∧ okI n ∧ SeenE w a m l ∧ (∀ i ∈ l, okI i.f ∧ okI i.t) ∧ ((d.weights Try.prog 24).all (· ≤ reachBytes) = true → m * 16 ≤ reachBytes) := by
  obtain ⟨cs, rfl, hs⟩ := okWide_struct Try.underlying24 hval
  rw [show Try.prog.cellsOf 24 = 2 by kernel_rfl] at hs
  obtain ⟨fuel, hf⟩ := hd
  obtain ⟨xs, n, _, hxx, hl', hxl, hf⟩ := DataW.trod_struct Try.underlying24 hf
  have q0 : DataW.trod enc Try.prog w base (fun _ => true) held n 3 (List.take (Try.prog.cellsOf 3) (List.drop 0 (Value.agg cs).cells.toList)) = xs[0]? := hf 0 _ rfl
  have q1 : DataW.trod enc Try.prog w base (fun _ => true) held n 22 (List.take (Try.prog.cellsOf 22) (List.drop 1 (Value.agg cs).cells.toList)) = xs[1]? := hf 1 _ rfl
  have hx1 : xs.length = 2 := hxl
  rw [List.getElem?_eq_getElem (by omega)] at q0
  rw [List.getElem?_eq_getElem (by omega)] at q1
  obtain ⟨cs⟩ := cs
  match cs, hs with
  | [v0, v1], _ =>
    rw [show Try.prog.cellsOf 3 = 1 by kernel_rfl] at q0
    rw [show Try.prog.cellsOf 22 = 1 by kernel_rfl] at q1
    obtain ⟨n0, e0, _, w0⟩ := DataW.trod_int Try.underlying3 q0
    obtain ⟨a, m, c, l, e, hS, hok, hle⟩ := open_edges q1
    simp [Value.cells] at e e0
    subst e e0
    refine ⟨n0, a, m, c, l, rfl, okI_of_wf w0, hS, hok, fun hall => ?_⟩
    rcases hle with h0 | ⟨elems, sp, hx, hle⟩
    · subst h0; simp [reachBytes]
    · obtain ⟨x0, x1, rfl⟩ : ∃ x0 x1, xs = [x0, x1] := by
        clear hx q0 q1 hf hxx
        match xs, hx1 with
        | [x0, x1], _ => exact ⟨_, _, rfl⟩
      · simp only [List.getElem_cons_succ, List.getElem_cons_zero] at hx
        simp only [Prod.mk.injEq, List.map_cons, List.map_nil] at hxx
        obtain ⟨rfl, _⟩ := hxx
        rw [hx] at hall
        have hm := List.all_eq_true.1 hall ((elems.length + sp.length) * Try.prog.bytesOf 52) (by
          simp [DataW.weights, Try.underlying24, DataW.weightsEach, Try.underlying22])
        rw [show Try.prog.bytesOf 52 = 16 by kernel_rfl] at hm
        simp at hm
        omega
theorem weights_at {P : Program} {ts : List TypeId} {ds : List (DataW H)} (h : (DataW.weightsEach P ts ds).all (· ≤ reachBytes) = true) {j : Nat} {t : TypeId} {d : DataW H} (ht : ts[j]? = some t) (hd : ds[j]? = some d) :
    (d.weights P t).all (· ≤ reachBytes) = true := by
  refine List.all_eq_true.2 fun n hn => ?_
  exact List.all_eq_true.1 h n (DataW.weights_mem_each ht hd n hn)
end
end Go.Proofs.Ytnhoedodnbifdaa
