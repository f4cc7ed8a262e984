import Derived.Test.YtcjmceedkfjbeaaDoorPgOpen
import Derived.SizedLaws
/-! A program among the arguments, and how great it may be. -/
namespace Go.Proofs.YtcjmceedkfjbeaaDoor
set_option linter.unusedVariables false
set_option maxRecDepth 20000
open Go.ChangeShapes Go.WideShapes Go.ChangeAt Go.RowKit Go.HeapKit Go.Deep

section
variable {H : Type} {enc : TypeId × Value → H} {w : World} {base : Nat} {held : Bool}
theorem all_of {l m : List Nat} (h : l.all (· ≤ reachBytes) = true) (hm : ∀ x ∈ m, x ∈ l) : m.all (· ≤ reachBytes) = true := List.all_eq_true.2 fun x hx => List.all_eq_true.1 h x (hm x hx)
theorem mem_all {P : Program} {e : TypeId} {l : List (DataW H)} {k : Nat} {d : DataW H} (hd : l[k]? = some d) : ∀ x ∈ d.weights P e, x ∈ DataW.weightsAll P e l := by
  induction l generalizing k with
  | nil => simp at hd
  | cons y l ih =>
    intro x hx
    simp only [DataW.weightsAll, List.mem_append]
    cases k with
    | zero => simp at hd; subst hd; exact .inl hx
    | succ k => exact .inr (ih (k := k) (by simpa using hd) x hx)
theorem slice_reach {P : Program} {t e : TypeId} {fuel : Nat} {cs : List Value} {x : DataW H × List MemPlace} (ht : P.underlying t = some (.slice e)) (h : DataW.trod enc P w base (fun _ => true) held fuel t cs = some x) {a : Option Addr} {n c : Nat} (hcs : cs = [.slice a n c]) (hall : (x.1.weights P t).all (· ≤ reachBytes) = true) : n * P.bytesOf e ≤ reachBytes := by
  rcases open_slice ht h with ⟨h0, _⟩ | ⟨a', len, cap, m, n', D, Pl, h0, _, hl, hm, hmm, hx, _⟩
  · rw [hcs] at h0
    simp at h0
    rw [h0.2.1]
    simp
  · rw [hcs] at h0
    simp at h0
    obtain ⟨_, rfl, rfl⟩ := h0
    rw [hx] at hall
    simp only [DataW.weights, ht, List.all_cons, Bool.and_eq_true, decide_eq_true_eq, List.length_map, List.length_range] at hall
    simp at hmm
    have h1 : n * P.bytesOf e ≤ (n + (m - n)) * P.bytesOf e := Nat.mul_le_mul_right _ (by omega)
    omega
theorem open_funcsR {fuel : Nat} {cs : List Value} {x : DataW H × List MemPlace} (h : DataW.trod enc Tryd.prog w base (fun _ => true) held fuel 23 cs = some x) :
    ∃ ca n cc l, cs = [.slice ca n cc] ∧ SeenF w ca n l ∧ (∀ f ∈ l, Fn.Ok f) ∧ ((x.1.weights Tryd.prog 23).all (· ≤ reachBytes) = true → n * 48 ≤ reachBytes ∧ ∀ f ∈ l, f.code.length * 40 ≤ reachBytes) := by
  have hreach := fun a n c (hcs : cs = [.slice a n c]) hall => slice_reach Tryd.underlying23 h hcs hall
  rw [show Tryd.prog.bytesOf 40 = 48 by kernel_rfl] at hreach
  rcases open_slice Tryd.underlying23 h with ⟨rfl, _⟩ | ⟨a, len, cap, m, n, D, Pl, rfl, _, hl, hm, hmm, hxx, hall⟩
  · exact ⟨none, 0, 0, [], rfl, ⟨rfl, fun h => by omega⟩, (fun i hi => by cases hi), fun _ => ⟨by simp, fun i hi => by cases hi⟩⟩
  · simp at hmm
    subst hmm
    have hc : Tryd.prog.cellsOf 40 = 4 := by kernel_rfl
    rw [hc] at hall
    have hex : ∀ i, i < len → ∃ x : Fn, x.Ok ∧ (((D i).weights Tryd.prog 40).all (· ≤ reachBytes) = true → x.code.length * 40 ≤ reachBytes) ∧ ∃ b off ca cc, a = ⟨b, off, none⟩ ∧ b < w.heap.size ∧ FnAt w b (off + i * 4) x ca cc := by
      intro i hi
      obtain ⟨cs', h1, h2⟩ := hall i (by omega)
      obtain ⟨_, hlen, hcell⟩ := World.cells?_some h1
      obtain ⟨xs, n, _, hDx, hl', hxl, hf⟩ := DataW.trod_struct Tryd.underlying40 h2
      have q0 : DataW.trod enc Tryd.prog w base (fun _ => true) held n 3 (List.take (Tryd.prog.cellsOf 3) (List.drop 0 cs')) = xs[0]? := hf 0 _ rfl
      have q1 : DataW.trod enc Tryd.prog w base (fun _ => true) held n 3 (List.take (Tryd.prog.cellsOf 3) (List.drop 1 cs')) = xs[1]? := hf 1 _ rfl
      have q2 : DataW.trod enc Tryd.prog w base (fun _ => true) held n 3 (List.take (Tryd.prog.cellsOf 3) (List.drop 2 cs')) = xs[2]? := hf 2 _ rfl
      have q3 : DataW.trod enc Tryd.prog w base (fun _ => true) held n 38 (List.take (Tryd.prog.cellsOf 38) (List.drop 3 cs')) = xs[3]? := hf 3 _ rfl
      have hx4 : xs.length = 4 := hxl
      rw [List.getElem?_eq_getElem (by omega)] at q0
      rw [List.getElem?_eq_getElem (by omega)] at q1
      rw [List.getElem?_eq_getElem (by omega)] at q2
      rw [List.getElem?_eq_getElem (by omega)] at q3
      have ci : Tryd.prog.cellsOf 3 = 1 := by kernel_rfl
      have cc1 : Tryd.prog.cellsOf 38 = 1 := by kernel_rfl
      rw [ci] at q0 q1 q2
      rw [cc1] at q3
      match cs', hlen with
      | [v0, v1, v2, v3], _ =>
        obtain ⟨n0, e0, _, w0⟩ := DataW.trod_int Tryd.underlying3 q0
        obtain ⟨n1, e1, _, w1⟩ := DataW.trod_int Tryd.underlying3 q1
        obtain ⟨n2, e2, _, w2⟩ := DataW.trod_int Tryd.underlying3 q2
        obtain ⟨ca, cn, cc, l, e3, hS, hok⟩ := open_codes q3
        have hr3 := fun hall => slice_reach Tryd.underlying38 q3 e3 hall
        rw [show Tryd.prog.bytesOf 42 = 40 by kernel_rfl] at hr3
        simp at e0 e1 e2 e3
        subst e0 e1 e2 e3
        obtain ⟨b, off, sp⟩ := a
        have hsp : sp = none := by
          obtain ⟨cs0, hz, _⟩ := hall 0 (by omega)
          exact spot_first hz (by omega)
        subst hsp
        have hh : ∀ j, j < 4 → w.cell? ⟨b, off + i * 4 + j, none⟩ = [Value.int .i64 n0, .int .i64 n1, .int .i64 n2, .slice ca cn cc][j]? := by
          intro j hj
          have := hcell j hj
          rw [add_at, add_at] at this
          exact this
        have hcn := hS.len
        subst hcn
        refine ⟨⟨n0, n1, n2, l⟩, ⟨okI_of_wf w0, okI_of_wf w1, okI_of_wf w2, hok⟩, ?_, b, off, ca, cc, rfl, ?_, ⟨hh 0 (by omega), hh 1 (by omega), hh 2 (by omega), hh 3 (by omega), hS⟩⟩
        · intro hw
          refine hr3 (all_of hw fun y hy => ?_)
          have e5 : D i = .agg (xs.map (·.1)) := congrArg Prod.fst hDx
          rw [e5]
          simp only [DataW.weights, Tryd.underlying40]
          exact DataW.weights_mem_each (j := 3) rfl (by rw [List.getElem?_map, List.getElem?_eq_getElem (by omega)]; rfl) y hy
        have h0' := hh 0 (by omega)
        cases hb : w.heap[b]? with
        | none => simp [World.cell?, hb] at h0'
        | some o => exact (Array.getElem?_eq_some_iff.1 hb).1
    obtain ⟨l, hll, hp⟩ := choose_list _ len hex
    refine ⟨some a, len, m, l, rfl, ⟨hll.symm, fun h0 => ?_⟩, fun i hi => ?_, fun hw => ⟨hreach _ _ _ rfl hw, fun f hf => ?_⟩⟩
    · obtain ⟨_, _, b, off, _, _, rfl, hb, _⟩ := hp 0 (l[0]'(by omega)) (by simp)
      refine ⟨b, off, rfl, hb, fun k i hi => ?_⟩
      obtain ⟨_, _, b', off', ca, cc, e, _, hat⟩ := hp k i hi
      injection e with e1 e2
      subst e1 e2
      exact ⟨ca, cc, hat⟩
    · obtain ⟨k, hk, rfl⟩ := List.mem_iff_getElem.1 hi
      exact (hp k _ (by simp)).1
    · obtain ⟨k, hk, rfl⟩ := List.mem_iff_getElem.1 hf
      refine (hp k _ (by simp)).2.1 (all_of hw fun y hy => ?_)
      rw [hxx]
      simp only [DataW.weights, Tryd.underlying23, List.mem_cons, List.mem_append]
      exact .inr (.inl (mem_all (k := k) (by rw [List.getElem?_map, List.getElem?_range (by omega)]; rfl) y hy))
theorem open_progR {r : Reach} {b0 : Nat} {v : Value} {d : DataW H} {ps : List MemPlace} (hval : Value.okWide Tryd.prog w r b0 25 v) (hd : DataW.Trod enc Tryd.prog w base (fun _ => true) held 25 v d ps) :
    ∃ a n c l, v = .agg #[.slice a n c] ∧ SeenF w a n l ∧ (∀ f ∈ l, Fn.Ok f) ∧ ((d.weights Tryd.prog 25).all (· ≤ reachBytes) = true → n * 48 ≤ 140737488351232 ∧ ∀ f ∈ l, f.code.length * 40 ≤ 140737488351232) := by
  obtain ⟨cs, rfl, hs⟩ := okWide_struct Tryd.underlying25 hval
  rw [show Tryd.prog.cellsOf 25 = 1 by kernel_rfl] at hs
  obtain ⟨fuel, hf⟩ := hd
  obtain ⟨xs, n, _, hxx, hl', hxl, hf⟩ := DataW.trod_struct Tryd.underlying25 hf
  have q0 : DataW.trod enc Tryd.prog w base (fun _ => true) held n 23 (List.take (Tryd.prog.cellsOf 23) (List.drop 0 (Value.agg cs).cells.toList)) = xs[0]? := hf 0 _ rfl
  have hx1 : xs.length = 1 := hxl
  rw [List.getElem?_eq_getElem (by omega)] at q0
  obtain ⟨cs⟩ := cs
  match cs, hs with
  | [v0], _ =>
    rw [show Tryd.prog.cellsOf 23 = 1 by kernel_rfl] at q0
    obtain ⟨a, n, c, l, e, hS, hok, hrr⟩ := open_funcsR q0
    simp [Value.cells] at e
    subst e
    refine ⟨a, n, c, l, rfl, hS, hok, fun hw => hrr (all_of hw fun y hy => ?_)⟩
    have e5 : d = .agg (xs.map (·.1)) := congrArg Prod.fst hxx
    rw [e5]
    simp only [DataW.weights, Tryd.underlying25]
    exact DataW.weights_mem_each (j := 0) rfl (by rw [List.getElem?_map, List.getElem?_eq_getElem (by omega)]; rfl) y hy
theorem weights_at {P : Program} {ts : List TypeId} {ds : List (DataW H)} (h : (DataW.weightsEach P ts ds).all (· ≤ reachBytes) = true) {j : Nat} {t : TypeId} {d : DataW H} (ht : ts[j]? = some t) (hd : ds[j]? = some d) :
    (d.weights P t).all (· ≤ reachBytes) = true := all_of h (DataW.weights_mem_each ht hd)
end
end Go.Proofs.YtcjmceedkfjbeaaDoor
