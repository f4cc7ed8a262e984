import Derived.Test.YtlbkfehakomicaaDoorPkBB
import Derived.Test.YtlbkfehakomicaaDoorPkAA
import Derived.SizedLaws
import Derived.Test.YtlbkfehakomicaaDoorPkBC
import Derived.Test.YtlbkfehakomicaaDoorPkAC
import Derived.Deep.RegionHeld3
import Derived.Deep.DeepCutAuto
import Derived.Test.YtlbkfehakomicaaDoorPkBA
/-! A dag among the arguments. -/
namespace Go.Proofs.YtlbkfehakomicaaDoor.Dg
set_option linter.unusedVariables false
set_option maxRecDepth 20000
open Go.ChangeShapes Go.WideShapes Go.ChangeAt Go.RowKit Go.HeapKit Go.Deep

section
variable {H : Type} {enc : TypeId × Value → H} {w : World} {base : Nat} {held : Bool}
theorem spot_none {w : World} {x : Addr} {v : Value} (h : w.cell? x = some v) : x.spot = none := by
  unfold World.cell? at h
  split at h
  · split at h
    · cases h
    · rename_i hs; simpa using hs
  · cases h
theorem spot_first {w : World} {base n : Nat} {x : Addr} {cs : List Value} (h : w.cells? base (x.add (0 * n)) n = some cs) (hn : 0 < n) : x.spot = none := by
  obtain ⟨_, hl, hc⟩ := World.cells?_some h
  have h0 := hc 0 hn
  rw [Nat.zero_mul, show (x.add 0).add 0 = x by unfold Addr.add; simp, List.getElem?_eq_getElem (by omega)] at h0
  exact spot_none h0
theorem choose_list {α : Type} (p : Nat → α → Prop) (n : Nat) (h : ∀ i, i < n → ∃ x, p i x) : ∃ l : List α, l.length = n ∧ ∀ i x, l[i]? = some x → p i x := by
  induction n with
  | zero => exact ⟨[], rfl, fun i x hx => by simp at hx⟩
  | succ n ih =>
    obtain ⟨l, hl, hp⟩ := ih (fun i hi => h i (by omega))
    obtain ⟨x, hx⟩ := h n (by omega)
    refine ⟨l ++ [x], by simp [hl], fun i y hy => ?_⟩
    by_cases hi : i < n
    · rw [List.getElem?_append_left (by omega)] at hy
      exact hp i y hy
    · have hlt := (List.getElem?_eq_some_iff.1 hy).1
      simp [hl] at hlt
      obtain rfl : i = n := by omega
      rw [List.getElem?_append_right (by omega), hl] at hy
      simp at hy
      subst hy
      exact hx
theorem okI_of_wf {x : Int} (h : (Lit.int .i64 x).wf = true) : okI x := by
  have h1 : IntKind.i64.min = -9223372036854775808 := by decide
  have h2 : IntKind.i64.max = 9223372036854775807 := by decide
  simp [Lit.wf, h1, h2] at h
  unfold okI
  omega
theorem add_at {b o : Nat} (k : Nat) : (⟨b, o, none⟩ : Addr).add k = ⟨b, o + k, none⟩ := by unfold Addr.add; split <;> simp_all

/-- Edges that came in; how many the memory behind them has room for. -/
theorem open_edges {fuel : Nat} {cs : List Value} {x : DataW H × List MemPlace} (h : DataW.trod enc Tryd.prog w base (fun _ => true) held fuel 32 cs = some x) :
    ∃ ca n cc l, cs = [.slice ca n cc] ∧ SeenE w ca n l ∧ (∀ i ∈ l, okI i.f ∧ okI i.t) ∧ (n = 0 ∨ ∃ elems sp, x.1 = .slice elems sp ∧ n ≤ elems.length + sp.length) := by
  rcases open_slice Tryd.underlying32 h with ⟨rfl, _⟩ | ⟨a, len, cap, m, n, D, Pl, rfl, _, hl, hm, hmm, hx, hall⟩
  · exact ⟨none, 0, 0, [], rfl, ⟨rfl, fun h => by omega⟩, (fun i hi => by cases hi), .inl rfl⟩
  · simp at hmm
    subst hmm
    have hc : Tryd.prog.cellsOf 70 = 2 := by kernel_rfl
    rw [hc] at hall
    have hex : ∀ i, i < len → ∃ x : Ed, (okI x.f ∧ okI x.t) ∧ ∃ b off, a = ⟨b, off, none⟩ ∧ b < w.heap.size ∧ EdAt w b (off + i * 2) x := by
      intro i hi
      obtain ⟨cs', h1, h2⟩ := hall i (by omega)
      obtain ⟨ns, hl, rfl, hw⟩ := struct_ints Tryd.underlying70 (by kernel_rfl) (by kernel_rfl) h2
      obtain ⟨_, hlen, hcell⟩ := World.cells?_some h1
      have hl5 : ns.length = 2 := hl
      match ns, hl5 with
      | [n0, n1], _ =>
        obtain ⟨b, off, sp⟩ := a
        have hsp : sp = none := by
          obtain ⟨cs0, hz, _⟩ := hall 0 (by omega)
          exact spot_first hz (by omega)
        subst hsp
        have hh : ∀ j, j < 2 → w.cell? ⟨b, off + i * 2 + j, none⟩ = ([n0, n1].map (Value.int .i64))[j]? := by
          intro j hj
          have := hcell j hj
          rw [add_at, add_at] at this
          exact this
        refine ⟨⟨n0, n1⟩, ⟨okI_of_wf (hw _ (by simp)), okI_of_wf (hw _ (by simp))⟩, b, off, rfl, ?_, ⟨hh 0 (by omega), hh 1 (by omega)⟩⟩
        have h0' := hh 0 (by omega)
        cases hb : w.heap[b]? with
        | none => simp [World.cell?, hb] at h0'
        | some o => exact (Array.getElem?_eq_some_iff.1 hb).1
    obtain ⟨l, hll, hp⟩ := choose_list _ len hex
    refine ⟨some a, len, m, l, rfl, ⟨hll.symm, fun h0 => ?_⟩, fun i hi => ?_, .inr ⟨_, _, congrArg Prod.fst hx, by simp⟩⟩
    · obtain ⟨_, b, off, rfl, hb, _⟩ := hp 0 (l[0]'(by omega)) (by simp)
      refine ⟨b, off, rfl, hb, fun k i hi => ?_⟩
      obtain ⟨_, b', off', e, _, hat⟩ := hp k i hi
      injection e with e1 e2
      subst e1 e2
      exact hat
    · obtain ⟨k, hk, rfl⟩ := List.mem_iff_getElem.1 hi
      exact (hp k _ (by simp)).1
theorem open_dag {r : Reach} {b0 : Nat} {v : Value} {d : DataW H} {ps : List MemPlace} (hval : Value.okWide Tryd.prog w r b0 34 v) (hd : DataW.Trod enc Tryd.prog w base (fun _ => true) held 34 v d ps) :
    ∃ n a m c l, v = dagV n a m c ∧ okI n ∧ SeenE w a m l ∧ (∀ i ∈ l, okI i.f ∧ okI i.t) ∧ ((d.weights Tryd.prog 34).all (· ≤ reachBytes) = true → m * 16 ≤ reachBytes) := by
  obtain ⟨cs, rfl, hs⟩ := okWide_struct Tryd.underlying34 hval
  rw [show Tryd.prog.cellsOf 34 = 2 by kernel_rfl] at hs
  obtain ⟨fuel, hf⟩ := hd
  obtain ⟨xs, n, _, hxx, hl', hxl, hf⟩ := DataW.trod_struct Tryd.underlying34 hf
  have q0 : DataW.trod enc Tryd.prog w base (fun _ => true) held n 3 (List.take (Tryd.prog.cellsOf 3) (List.drop 0 (Value.agg cs).cells.toList)) = xs[0]? := hf 0 _ rfl
  have q1 : DataW.trod enc Tryd.prog w base (fun _ => true) held n 32 (List.take (Tryd.prog.cellsOf 32) (List.drop 1 (Value.agg cs).cells.toList)) = xs[1]? := hf 1 _ rfl
  have hx1 : xs.length = 2 := hxl
  rw [List.getElem?_eq_getElem (by omega)] at q0
  rw [List.getElem?_eq_getElem (by omega)] at q1
  obtain ⟨cs⟩ := cs
  match cs, hs with
  | [v0, v1], _ =>
    rw [show Tryd.prog.cellsOf 3 = 1 by kernel_rfl] at q0
    rw [show Tryd.prog.cellsOf 32 = 1 by kernel_rfl] at q1
    obtain ⟨n0, e0, _, w0⟩ := DataW.trod_int Tryd.underlying3 q0
    obtain ⟨a, m, c, l, e, hS, hok, hle⟩ := open_edges q1
    simp [Value.cells] at e e0
    subst e e0
    refine ⟨n0, a, m, c, l, rfl, okI_of_wf w0, hS, hok, fun hall => ?_⟩
    rcases hle with h0 | ⟨elems, sp, hx, hle⟩
    · subst h0; simp [reachBytes]
    · obtain ⟨x0, x1, rfl⟩ : ∃ x0 x1, xs = [x0, x1] := by
        clear hx q0 q1 hf hxx
        match xs, hx1 with
        | [x0, x1], _ => exact ⟨_, _, rfl⟩
      · simp only [List.getElem_cons_succ, List.getElem_cons_zero] at hx
        simp only [Prod.mk.injEq, List.map_cons, List.map_nil] at hxx
        obtain ⟨rfl, _⟩ := hxx
        rw [hx] at hall
        have hm := List.all_eq_true.1 hall ((elems.length + sp.length) * Tryd.prog.bytesOf 70) (by
          simp [DataW.weights, Tryd.underlying34, DataW.weightsEach, Tryd.underlying32])
        rw [show Tryd.prog.bytesOf 70 = 16 by kernel_rfl] at hm
        simp at hm
        omega
theorem weights_at {P : Program} {ts : List TypeId} {ds : List (DataW H)} (h : (DataW.weightsEach P ts ds).all (· ≤ reachBytes) = true) {j : Nat} {t : TypeId} {d : DataW H} (ht : ts[j]? = some t) (hd : ds[j]? = some d) :
    (d.weights P t).all (· ≤ reachBytes) = true := by
  refine List.all_eq_true.2 fun n hn => ?_
  exact List.all_eq_true.1 h n (DataW.weights_mem_each ht hd n hn)
end
end Go.Proofs.YtlbkfehakomicaaDoor.Dg
/-! Edges among the arguments; a dag made of them. -/
namespace Go.Proofs.YtlbkfehakomicaaDoor.Dg
set_option linter.unusedVariables false
set_option maxRecDepth 20000
open Go.RowKit Go.HeapKit

theorem lt_of_cell {w : World} {b o : Nat} {v : Value} (h : w.cell? ⟨b, o, none⟩ = some v) : b < w.heap.size := by
  cases hb : w.heap[b]? with
  | none => simp [World.cell?, hb] at h
  | some o => exact (Array.getElem?_eq_some_iff.1 hb).1
def gEd (ns : List Int) : Ed := ⟨ns.getD 0 0, ns.getD 1 0⟩
theorem grid_edges {w : World} {ao : Option Addr} {len cap : Nat} {g : List (List Int)} (h : IsGrid 2 w ao len cap g) : len ≤ cap ∧ SeenE w ao len ((g.take len).map gEd) ∧ ∀ e ∈ (g.take len).map gEd, okI e.f ∧ okI e.t := by
  rcases h with ⟨rfl, rfl, rfl, rfl⟩ | ⟨x, rfl, hl, hm, hlen, hrow⟩
  · exact ⟨Nat.le_refl _, ⟨rfl, fun h => by omega⟩, fun e he => by simp at he⟩
  · refine ⟨hl, ⟨by simp; omega, fun hpos => ?_⟩, ?_⟩
    rotate_left
    · intro e he
      obtain ⟨ns, hns, rfl⟩ := List.mem_map.1 he
      obtain ⟨i, hi, rfl⟩ := List.mem_iff_getElem.1 hns
      rw [List.length_take] at hi
      obtain ⟨ns, h1, h2, h3, _⟩ := hrow i (by omega)
      rw [List.getElem_take]
      have e2 : g[i] = ns := by
        rw [List.getElem?_eq_getElem (by omega)] at h1
        injection h1
      rw [e2]
      match ns, h2, h3 with
      | [a0, a1], _, h3 => exact ⟨okI_of_wf (h3 a0 (by simp)), okI_of_wf (h3 a1 (by simp))⟩
    have hspot : x.spot = none := by
      obtain ⟨ns, h1, h2, h3, h4⟩ := hrow 0 (by omega)
      match ns, h2 with
      | m0 :: _, _ =>
        have := h4 0 m0 rfl
        rw [Nat.zero_mul] at this
        have e : (x.add 0).add 0 = x := by unfold Addr.add; simp
        rw [e] at this
        exact spot_none this
    obtain ⟨b0, off, sp⟩ := x
    simp only at hspot
    subst hspot
    have hat : ∀ i j, (((⟨b0, off, none⟩ : Addr).add (i * 2)).add j) = ⟨b0, off + i * 2 + j, none⟩ := by
      intro i j
      unfold Addr.add
      split <;> split <;> simp_all
    have hcell : ∀ i, i < len → ∀ j, j < 2 → w.cell? ⟨b0, off + i * 2 + j, none⟩ = some (.int .i64 ((g.getD i []).getD j 0)) := by
      intro i hi j hj
      obtain ⟨ns, h1, h2, h3, h4⟩ := hrow i (by omega)
      have hg : g.getD i [] = ns := by simp [List.getD, h1]
      rw [hg, ← hat i j]
      exact h4 j _ (by simp [List.getD, h2, hj])
    refine ⟨b0, off, rfl, lt_of_cell (hcell 0 hpos 0 (by decide)), fun k x hx => ?_⟩
    have hk : k < len := by have := (List.getElem?_eq_some_iff.1 hx).1; simp at this; omega
    have hx2 : x = gEd (g.getD k []) := by
      rw [List.getElem?_map, List.getElem?_take, if_pos hk] at hx
      obtain ⟨ns, h1, _⟩ := hrow k (by omega)
      rw [h1] at hx
      simp at hx
      rw [← hx]
      simp [List.getD, h1]
    subst hx2
    exact ⟨hcell k hk 0 (by decide), hcell k hk 1 (by decide)⟩

def modN (x : Int) (n : Nat) : Nat := (x % (n : Int)).toNat
theorem modN_lt (x : Int) {n : Nat} (h : 0 < n) : modN x n < n := by
  unfold modN
  have h1 := Int.emod_nonneg x (b := (n : Int)) (by omega)
  have h2 := Int.emod_lt_of_pos x (b := (n : Int)) (by omega)
  omega
theorem mod_any (x : Int) (n : Nat) (w : World) (hx : okI x) (h0 : 0 < n) (h1 : n ≤ 1099511627776) : Calls Tryd.prog 8 #[.int .i64 x, .int .i64 n] w fun e w' => e = .returned (.int .i64 (modN x n : Nat)) ∧ w' = w := by
  have hm : (modN x n : Int) = x % (n : Int) := by
    unfold modN
    have h2 := Int.emod_nonneg x (show (n : Int) ≠ 0 by omega)
    omega
  have h2 := Go.PlainOps.tmod_mod x n (by omega)
  obtain ⟨b0, b1⟩ := Go.PlainOps.tmod_bounds x n (by omega)
  have E : Hid ((modN x n : Int) = (if x.tmod n < 0 then x.tmod n + n else x.tmod n)) := by unfold Hid; rw [hm, h2]
  have hn : ¬ (n : Int) = 0 := by omega
  have hn2 : (n : Int) ≤ 1099511627776 := by omega
  have b2 : -1099511627777 ≤ x.tmod n := by omega
  clear hm h2
  unfold okI at hx
  obtain ⟨R, hR⟩ : ∃ R, R = modN x n := ⟨_, rfl⟩
  rw [← hR] at E ⊢
  clear hR
  by_cases hr : x.tmod n < 0
  · go_enter Tryd.func8, Tryd.ntmps8
    go_wp2
    go_ret
    exact ⟨by rw [E.out, if_pos hr]; rfl, rfl⟩
  · go_enter Tryd.func8, Tryd.ntmps8
    go_wp2
    go_ret
    exact ⟨by rw [E.out, if_neg (by omega)]; rfl, rfl⟩
def fitOne (N : Nat) (e : Ed) : List Ed := if modN e.f N < modN e.t N then [⟨(modN e.f N : Nat), (modN e.t N : Nat)⟩] else if modN e.t N < modN e.f N then [⟨(modN e.t N : Nat), (modN e.f N : Nat)⟩] else []
def fitP (N : Nat) (l : List Ed) : List Ed := l.flatMap (fitOne N)
def fitL (N : Nat) (l : List Ed) : List Ed := if 0 < N then fitP N (l.take 2000) else []
theorem fitOne_len (N : Nat) (e : Ed) : (fitOne N e).length ≤ 1 := by
  unfold fitOne
  split
  · simp
  · split <;> simp
theorem fitP_snoc (N : Nat) {l : List Ed} {k : Nat} {e : Ed} (h : l[k]? = some e) : fitP N (l.take (k + 1)) = fitP N (l.take k) ++ fitOne N e := by
  unfold fitP
  rw [List.take_add_one, h]
  simp
theorem fitP_len (N : Nat) (l : List Ed) : (fitP N l).length ≤ l.length := by
  unfold fitP
  induction l with
  | nil => simp
  | cons e l ih =>
    rw [List.flatMap_cons, List.length_append, List.length_cons]
    have := fitOne_len N e
    omega
theorem fit_dag (N : Nat) (l : List Ed) (hN : N ≤ 200) : Dag (N : Int) (fitL N l) := by
  unfold fitL
  split
  · rename_i h0
    refine ⟨by omega, by omega, ?_, fun e he => ?_⟩
    · have := fitP_len N (l.take 2000)
      rw [List.length_take] at this
      omega
    · unfold fitP at he
      obtain ⟨x, _, hx⟩ := List.mem_flatMap.1 he
      have h1 := modN_lt x.f h0
      have h2 := modN_lt x.t h0
      unfold fitOne at hx
      split at hx
      · simp at hx; subst hx; simp only; omega
      · split at hx
        · simp at hx; subst hx; simp only; omega
        · cases hx
  · exact ⟨by omega, by omega, by simp, fun e he => by cases he⟩
/-- The dag of a row of our own. -/
theorem row_seen {w : World} {base : Nat} {a : Option Addr} {k c : Nat} {l : List Ed} (h : w.ownsRow base 70 2 (.slice a k c) k (edVals l)) : SeenE w a k l := by
  have hl : k = l.length := by have := h.1; rw [edVals_length] at this; omega
  refine ⟨hl, fun h0 => ?_⟩
  obtain ⟨g, rfl, _, hlt, _⟩ := ed_elem h (k := 0) (x := l[0]'(by omega)) (List.getElem?_eq_getElem _)
  refine ⟨g, 0, rfl, hlt, fun i e hi => ?_⟩
  obtain ⟨g', e', _, _, _, h1, h2, _⟩ := ed_elem h hi
  injection e' with e'
  injection e' with e'
  subst e'
  rw [Nat.zero_add]
  exact ⟨h1, h2⟩
end Go.Proofs.YtlbkfehakomicaaDoor.Dg
/-! DagSpans: its own run of two instructions. -/
namespace Go.Proofs.YtlbkfehakomicaaDoor
set_option linter.unusedVariables false
set_option maxRecDepth 20000
open Go.RowKit Go.HeapKit Go.PlainOps

def sF : Fn := ⟨0, 1, 0, [⟨0, 0, 0, 0, 7⟩, ⟨9, 0, 0, 0, 0⟩]⟩
theorem sF_eval : evalV [sF] [] 2 = (⟨7, 2, 1, 1, 2⟩, 0) := by rfl
theorem sF_ok : ∀ f ∈ [sF], f.Ok := by
  intro f hf
  simp at hf
  subst hf
  refine ⟨by simp [sF, okI], by simp [sF, okI], by simp [sF, okI], fun i hi => ?_⟩
  simp [sF] at hi
  rcases hi with rfl | rfl
  all_goals exact ⟨by simp [okI], by simp [okI], by simp [okI], by simp [okI], by simp [okI]⟩
theorem edV_eq (l : List (Nat × Nat)) : edV l = Dg.edVals (l.map edOf) := by
  induction l with
  | nil => rfl
  | cons x l ih =>
    show edC x ++ edV l = Dg.edVals (edOf x :: l.map edOf)
    rw [ih]
    rfl
theorem OwnF.past {w w' : World} {base P : Nat} {v : Value} {L : List (Fn × Value)} (h : OwnF w base v L) (hk : Keeps (· = P) w w') {cs : Array Value} (hP : w.heap[P]? = some (.cells cs 24 (0, 0))) : OwnF w' base v L :=
  ⟨hk.own h.row (fun q e hq => by subst hq; exact absurd (own_type h.row e hP) (by decide)), fun x hx => (h.codes x hx).kept hk (fun q e hq => by subst hq; exact absurd (own_type (h.codes x hx) e hP) (by decide)), h.nd⟩
theorem OfOk.dag {V : Val} {T : Trc} {D : List Int} (h : OfOk V T D) : Dg.Dag (T.n : Int) (T.es.map edOf) := trace_dag h.dst h.n4 h.e4
theorem OfOk.span {V : Val} {T : Trc} {D : List Int} (h : OfOk V T D) : Dg.spanV (T.n : Int) (T.es.map edOf) = V.span := by
  unfold Dg.spanV
  rw [Dg.ear_ok (Dg.dag_check h.dag)]
  exact trace_span h.dst h.n4 h.e4 h.top h.fin
theorem OfOk.seen {w : World} {b : Nat} {a : Option Addr} {c : Nat} {T : Trc} (h : w.ownsRow b 70 2 (.slice a T.es.length c) T.es.length (edV T.es)) : Dg.SeenE w a T.es.length (T.es.map edOf) := by
  rw [edV_eq] at h
  exact Dg.row_seen h
set_option maxHeartbeats 2000000 in
theorem sound_any (w : World) (hT : Tabs w) : Calls Tryd.prog 4 #[] w fun e w' => e = .returned (.bool true) ∧ Keeps None w w' := by
  obtain ⟨B, hB⟩ : ∃ B, B = w.heap.size := ⟨_, rfl⟩
  have hk0 := Keeps.alloc None w (.cells #[.int .i64 0, .int .i64 1, .int .i64 0, .slice none 0 0] 49)
  have n0 := heap_alloc_new w (.cells #[.int .i64 0, .int .i64 1, .int .i64 0, .slice none 0 0] 49)
  obtain ⟨W0, hW0⟩ : ∃ W, W = w.alloc (.cells #[.int .i64 0, .int .i64 1, .int .i64 0, .slice none 0 0] 49) := ⟨_, rfl⟩
  rw [← hW0] at hk0 n0
  rw [← hB] at n0
  have S0 : FSt w W0 B 0 1 (.slice none 0 0) [] := ⟨hk0, n0, own_nil _ _, by omega⟩
  have HT : Hid (Tabs w) := hT
  clear hT hk0 n0
  go_enter Tryd.func4, Tryd.ntmps4
  go_upto_region 2 with fail
  rw [← hW0, ← hB]
  clear hW0
  have HB : Hid (B = w.heap.size) := hB
  clear hB
  have d0 : W0.cell? ⟨B, 3, none⟩ = some (.slice none 0 0) := (blk_cell S0.blkF 3).trans rfl
  obtain ⟨a1, c1, V1, hr1, x1, z1, S1⟩ := field_step S0 rfl (by simp) ⟨0, 0, 0, 0, 7⟩
  obtain ⟨W1, hW1⟩ : ∃ W, W = V1.setCell ⟨B, 3, none⟩ (.slice a1 (0 + 1) c1) := ⟨_, rfl⟩
  rw [← hW1] at S1
  have d1 : W1.cell? ⟨B, 3, none⟩ = some (.slice a1 1 c1) := (blk_cell S1.blkF 3).trans rfl
  clear S0
  simp only at hr1
  go_upto_region 3 with (at_builtin; refine wpList_append_run rfl (.tmp 9) (.tmp 11) 47 47 rfl rfl rfl hr1 ?_)
  rw [← hW1]
  clear hW1 hr1 d0 x1 z1
  obtain ⟨a2, c2, V2, hr2, x2, z2, S2⟩ := field_step S1 rfl (by simp) ⟨9, 0, 0, 0, 0⟩
  obtain ⟨W2, hW2⟩ : ∃ W, W = V2.setCell ⟨B, 3, none⟩ (.slice a2 (1 + 1) c2) := ⟨_, rfl⟩
  rw [← hW2] at S2
  clear S1
  simp only at hr2
  go_upto_region 4 with (at_builtin; refine wpList_append_run rfl (.tmp 15) (.tmp 17) 47 47 rfl rfl rfl hr2 ?_)
  rw [← hW2]
  clear hW2 hr2 d1 x2 z2
  obtain ⟨P, hP⟩ : ∃ P, P = W2.heap.size := ⟨_, rfl⟩
  have k3 := Keeps.alloc None W2 (.cells #[.slice none 0 0] 24)
  have n3 := heap_alloc_new W2 (.cells #[.slice none 0 0] 24)
  obtain ⟨W3, hW3⟩ : ∃ W, W = W2.alloc (.cells #[.slice none 0 0] 24) := ⟨_, rfl⟩
  rw [← hW3] at k3 n3
  rw [← hP] at n3
  have S3F := blk_kept S2.blkF k3 (fun f => f)
  have S3O := S2.own.more k3
  have k4 := Keeps.alloc None W3 (.cells #[.int .i64 0, .int .i64 1, .int .i64 0, .slice a2 2 c2] 49)
  have n4 := heap_alloc_new W3 (.cells #[.int .i64 0, .int .i64 1, .int .i64 0, .slice a2 2 c2] 49)
  have hs4 : w.heap.size ≤ (W3.alloc (.cells #[.int .i64 0, .int .i64 1, .int .i64 0, .slice a2 2 c2] 49)).heap.size := by
    have h1 := S2.keep.size
    have h2 := k3.size
    have h3 := k4.size
    omega
  obtain ⟨a', c', V5, hr5, hof, k5⟩ := fn_first sF (.slice a2 2 c2) W3.heap.size w.heap.size _ (S3O.more k4) n4 hs4
  have n5 := blk_kept (blk_kept n3 k4 (fun f => f)) k5 (fun f => f)
  have k6 := Keeps.setCell (S := (· = P)) V5 (a := ⟨P, 0, none⟩) rfl (.slice a' 1 c')
  have n6 := blk_set (i := 0) n5 (.slice a' 1 c')
  have of6 := hof.past k6 n5
  have kk : Keeps None w (V5.setCell ⟨P, 0, none⟩ (.slice a' 1 c')) := ((((S2.keep.trans k3 (fun _ f _ => f)).trans k4 (fun _ f _ => f)).trans k5 (fun _ f _ => f))).trans k6 (fun i e hi => by have h1 := S2.keep.size; have h2 : i = P := e; omega)
  have p3 : W3.cell? ⟨P, 0, none⟩ = some (.slice none 0 0) := (blk_cell n3 0).trans rfl
  have p5 : V5.cell? ⟨P, 0, none⟩ = some (.slice none 0 0) := (blk_cell n5 0).trans rfl
  have z5 := blk_free n5 0
  have e0 : W3.cell? ⟨B, 0, none⟩ = some (.int .i64 0) := (blk_cell S3F 0).trans rfl
  have e1 : W3.cell? ⟨B, 1, none⟩ = some (.int .i64 1) := (blk_cell S3F 1).trans rfl
  have e2 : W3.cell? ⟨B, 2, none⟩ = some (.int .i64 0) := (blk_cell S3F 2).trans rfl
  have e3 : W3.cell? ⟨B, 3, none⟩ = some (.slice a2 2 c2) := (blk_cell S3F 3).trans rfl
  obtain ⟨W6, hW6⟩ : ∃ W, W = V5.setCell ⟨P, 0, none⟩ (.slice a' 1 c') := ⟨_, rfl⟩
  rw [← hW6] at n6 of6 kk
  have q6 : W6.cell? ⟨P, 0, none⟩ = some (.slice a' 1 c') := (blk_cell n6 0).trans rfl
  obtain ⟨sa, sc, esl, hsn⟩ := of6.seen
  injection esl with es1 es2 es3
  have hsn' : SeenF W6 a' 1 [sF] := by rw [es1]; exact hsn
  have hoff := of_any a' 1 c' [sF] none 0 0 [] 2 W6 (HT.out.more kk) hsn' sF_ok ⟨rfl, by omega, (fun x hx => by cases hx), fun h => absurd h (by omega)⟩ (fun x hx => by cases hx) (by omega) (by simp [okI])
  have hoff : Calls Tryd.prog 6 #[.agg #[.slice a' 1 c'], .slice none 0 0, .int .i64 2] W6 fun e w7 => Keeps None W6 w7 ∧ ∃ T DD ra rc, e = .returned (.tuple #[.agg #[.int .i64 (T.n : Int), .slice ra T.es.length rc], .int .i64 0]) ∧ w7.ownsRow W6.heap.size 70 2 (.slice ra T.es.length rc) T.es.length (edV T.es) ∧ OfOk ⟨7, 2, 1, 1, 2⟩ T DD := by
    refine hoff.mono ?_
    rintro e w7 ⟨k7, h7⟩
    rw [sF_eval] at h7
    rcases h7 with ⟨h0, _⟩ | ⟨_, h0, _⟩ | ⟨_, _, T, DD, ra, rc, h1, hrow, hok⟩
    · exact absurd rfl h0
    · exact absurd h0 (by decide)
    · exact ⟨k7, T, DD, ra, rc, h1, hrow, hok⟩
  have HK : Hid (Keeps None w W6) := kk
  clear hof of6 kk n6 n5 k6 k5 k4 k3 n3 n4 hs4 S3F S3O S2 es1 es2 es3 hsn hsn'
  go_upto_region 5 with fail
  rw [← hW3, ← hP]
  clear hW3 hP
  go_upto_region 6 with (at_builtin; refine wpList_append_run rfl (.tmp 21) (.tmp 23) 22 22 rfl rfl rfl hr5 ?_)
  rw [← hW6]
  clear hW6 hr5 p3 p5 z5 e0 e1 e2 e3
  go_upto_region 7 with (go_at_call 6; refine hoff.mono ?_; rintro _ w7 ⟨k7, T, DD, ra, rc, rfl, hrow, hok⟩)
  have k8 := Keeps.alloc None w7 (.cells #[.int .i64 (T.n : Int), .slice ra T.es.length rc] 34)
  have n8 := heap_alloc_new w7 (.cells #[.int .i64 (T.n : Int), .slice ra T.es.length rc] 34)
  obtain ⟨W8, hW8⟩ : ∃ W, W = w7.alloc (.cells #[.int .i64 (T.n : Int), .slice ra T.es.length rc] 34) := ⟨_, rfl⟩
  obtain ⟨D, hD⟩ : ∃ D, D = w7.heap.size := ⟨_, rfl⟩
  rw [← hW8, ← hD]
  rw [← hW8] at k8 n8
  rw [← hD] at n8
  clear hW8 hD
  have hN : (T.n : Int) = 2 := hok.n
  have hE : T.es.length = 1 := by have : (T.es.length : Int) + 2 = 2 + 1 := hok.es; omega
  have hsp := Dg.span_any (T.n : Int) ra T.es.length rc (T.es.map edOf) W8 ((OfOk.seen hrow).more k8) (by omega)
  rw [hok.span, Dg.dag_check hok.dag] at hsp
  have hsp : Calls Tryd.prog 9 #[.agg #[.int .i64 2, .slice ra 1 rc]] W8 fun e w' => e = .returned (.tuple #[.int .i64 2, .int .i64 0]) ∧ Keeps None W8 w' := by
    rw [hN, hE] at hsp
    exact hsp
  have HKK : Hid (Keeps None w W8) := (HK.out.trans k7 (fun _ f _ => f)).trans k8 (fun _ f _ => f)
  have HD8 : Hid (W8.heap[D]? = some (.cells #[.int .i64 2, .slice ra 1 rc] 34 (0, 0))) := by
    rw [hN, hE] at n8
    exact n8
  rw [hN, hE]
  clear hN hE hrow hok k7 k8 n8 hoff q6
  have d0 : W8.cell? ⟨D, 0, none⟩ = some (.int .i64 2) := (blk_cell HD8.out 0).trans rfl
  have d1 : W8.cell? ⟨D, 1, none⟩ = some (.slice ra 1 rc) := (blk_cell HD8.out 1).trans rfl
  go_upto_region 8 with (go_at_call 9; refine hsp.mono ?_; rintro _ w9 ⟨rfl, k9⟩)
  have g0 : w9.cell? ⟨D, 0, none⟩ = some (.int .i64 2) := k9.cell d0 (fun f => f)
  have g1 : w9.cell? ⟨D, 1, none⟩ = some (.slice ra 1 rc) := k9.cell d1 (fun f => f)
  clear d0 d1
  go_wp2_with fail
  go_ret
  exact ⟨rfl, HKK.out.trans k9 (fun _ f _ => f)⟩
end Go.Proofs.YtlbkfehakomicaaDoor
/-! Greedy schedules by lowest numbers, plainly. -/
namespace Go.Proofs.YtlbkfehakomicaaDoor.Dg
set_option linter.unusedVariables false
set_option maxRecDepth 20000

/-- Not done, and all that is ahead of it done. -/
def rdy (l : List Ed) (T : Nat → Int) (i : Nat) : Bool := decide (T i = 0) && (bef l i).all (fun a => decide (T a.toNat ≠ 0))
def rds (n : Nat) (l : List Ed) (T : Nat → Int) : List Nat := (List.range n).filter (rdy l T)
def stepT (n p : Nat) (l : List Ed) (t : Int) (T : Nat → Int) (i : Nat) : Int := if i ∈ (rds n l T).take p then t else T i
def runT (n p : Nat) (l : List Ed) : Nat → Nat → Int
  | 0 => fun _ => 0
  | k + 1 => stepT n p l (k + 1) (runT n p l k)
def cntT (n : Nat) (T : Nat → Int) : Nat := ((List.range n).filter (fun i => decide (T i ≠ 0))).length
/-- The schedule. -/
def timesV (n p : Nat) (l : List Ed) : Nat → Int := runT n p l n

theorem rdy_iff {l : List Ed} {T : Nat → Int} {i : Nat} : rdy l T i = true ↔ T i = 0 ∧ ∀ a ∈ bef l i, T a.toNat ≠ 0 := by
  simp [rdy]
theorem mem_rds {n : Nat} {l : List Ed} {T : Nat → Int} {i : Nat} : i ∈ rds n l T ↔ i < n ∧ T i = 0 ∧ ∀ a ∈ bef l i, T a.toNat ≠ 0 := by
  rw [rds, List.mem_filter, List.mem_range, rdy_iff]
theorem run_range (n p : Nat) (l : List Ed) : ∀ k i, 0 ≤ runT n p l k i ∧ runT n p l k i ≤ k := by
  intro k
  induction k with
  | zero => intro i; simp [runT]
  | succ k ih => intro i; have := ih i; simp only [runT, stepT]; split <;> omega
/-- Done nodes have all that is ahead of them done. -/
theorem run_closed (n p : Nat) (l : List Ed) : ∀ k i, runT n p l k i ≠ 0 → ∀ a ∈ bef l i, runT n p l k a.toNat ≠ 0 := by
  intro k
  induction k with
  | zero => intro i h; simp [runT] at h
  | succ k ih =>
    intro i h a ha
    simp only [runT, stepT] at h ⊢
    have hr := run_range n p l k a.toNat
    split
    · omega
    · split at h
      · rename_i hm
        exact (mem_rds.1 (List.mem_of_mem_take hm)).2.2 a ha
      · exact ih i h a ha
/-- As long as something is left, something is ready. -/
theorem rds_some {m : Int} {l : List Ed} (h : Dag m l) (n : Nat) (T : Nat → Int) : ∀ i, i < n → T i = 0 → rds n l T ≠ [] := by
  intro i
  induction i using Nat.strongRecOn with
  | ind i ih =>
    intro hi h0
    by_cases hr : ∀ a ∈ bef l i, T a.toNat ≠ 0
    · intro e
      have : i ∈ rds n l T := mem_rds.2 ⟨hi, h0, hr⟩
      rw [e] at this
      cases this
    · simp only [Classical.not_forall] at hr
      obtain ⟨a, ha, hz⟩ := hr
      obtain ⟨e, he, h1, h2⟩ := mem_bef.1 ha
      have hk := h.ok e he
      exact ih a.toNat (by omega) (by omega) (by omega)
theorem rds_none {n : Nat} {l : List Ed} {T : Nat → Int} (h : ∀ i, i < n → T i ≠ 0) : rds n l T = [] := by
  rw [rds, List.filter_eq_nil_iff]
  intro i hi hr
  exact h i (List.mem_range.1 hi) (rdy_iff.1 hr).1
theorem step_none {n p : Nat} {l : List Ed} {t : Int} {T : Nat → Int} (h : rds n l T = []) : stepT n p l t T = T := by
  funext i
  simp [stepT, h]
theorem run_stop {n p : Nat} {l : List Ed} {k : Nat} (h : rds n l (runT n p l k) = []) : ∀ j, k ≤ j → runT n p l j = runT n p l k := by
  intro j
  induction j with
  | zero => intro hj; obtain rfl : k = 0 := by omega
            rfl
  | succ j ih =>
    intro hj
    by_cases e : k = j + 1
    · subst e; rfl
    · have := ih (by omega)
      rw [runT, this, step_none h]
theorem cnt_step_aux (L : List Nat) (T T' : Nat → Int) (Q : List Nat) (hT : ∀ i, T' i ≠ 0 ↔ T i ≠ 0 ∨ i ∈ Q) (hd : ∀ i ∈ Q, T i = 0) :
    (L.filter (fun i => decide (T' i ≠ 0))).length = (L.filter (fun i => decide (T i ≠ 0))).length + (L.filter (fun i => decide (i ∈ Q))).length := by
  induction L with
  | nil => rfl
  | cons x L ih =>
    have h1 := hT x
    have h2 := hd x
    by_cases a : T x = 0
    · by_cases b : x ∈ Q
      · have c : T' x ≠ 0 := h1.2 (.inr b)
        simp only [List.filter_cons, a, b, c, decide_true, decide_false, ne_eq, not_true, not_false_iff, if_true, List.length_cons, Bool.false_eq_true, if_false]
        simp only [ne_eq] at ih
        omega
      · have c : ¬ T' x ≠ 0 := fun h => by rcases h1.1 h with h | h; exact h a; exact b h
        simp only [ne_eq, Classical.not_not] at c
        simp only [List.filter_cons, a, b, c, decide_false, ne_eq, not_true, Bool.false_eq_true, if_false]
        simp only [ne_eq] at ih
        omega
    · have b : ¬ x ∈ Q := fun h => a (h2 h)
      have c : ¬ T' x = 0 := h1.2 (.inl a)
      simp only [List.filter_cons, a, b, c, decide_true, decide_false, ne_eq, not_false_iff, if_true, List.length_cons, Bool.false_eq_true, if_false]
      simp only [ne_eq] at ih
      omega
theorem rds_nodup (n : Nat) (l : List Ed) (T : Nat → Int) : (rds n l T).Nodup := List.Pairwise.filter _ List.nodup_range
theorem rds_sorted (n : Nat) (l : List Ed) (T : Nat → Int) : (rds n l T).Pairwise (· < ·) := List.Pairwise.filter _ List.pairwise_lt_range
theorem filter_mem_take (n p : Nat) (l : List Ed) (T : Nat → Int) : (List.range n).filter (fun i => decide (i ∈ (rds n l T).take p)) = (rds n l T).take p := by
  obtain ⟨M, hM⟩ : ∃ M, M = List.range n := ⟨_, rfl⟩
  have hs : M.Pairwise (· < ·) := by rw [hM]; exact List.pairwise_lt_range
  unfold rds
  rw [← hM]
  clear hM
  obtain ⟨f, hf⟩ : ∃ f, f = rdy l T := ⟨_, rfl⟩
  rw [← hf]
  clear hf
  induction M generalizing p with
  | nil => simp
  | cons x M ih =>
    have hx := (List.pairwise_cons.1 hs)
    have hnx : ∀ (Q : List Nat), (∀ y ∈ Q, y ∈ M) → ¬ x ∈ Q := fun Q hQ h => by have := hx.1 x (hQ x h); omega
    by_cases e : f x = true
    · rw [List.filter_cons (p := f), if_pos e]
      cases p with
      | zero => simp
      | succ p =>
        rw [List.take_succ_cons]
        rw [List.filter_cons, if_pos (by simp)]
        congr 1
        rw [← ih p hx.2]
        apply List.filter_congr
        intro y hy
        have : ¬ y = x := by have := hx.1 y hy; omega
        rw [ih p hx.2]
        simp [this]
    · rw [List.filter_cons (p := f), if_neg e]
      rw [List.filter_cons, if_neg]
      · exact ih p hx.2
      · simp only [decide_eq_true_eq]
        exact hnx _ (fun y hy => (List.mem_filter.1 (List.mem_of_mem_take hy)).1)
theorem cnt_step (n p : Nat) (l : List Ed) (t : Int) (T : Nat → Int) (ht : t ≠ 0) : cntT n (stepT n p l t T) = cntT n T + ((rds n l T).take p).length := by
  unfold cntT
  rw [cnt_step_aux (List.range n) T (stepT n p l t T) ((rds n l T).take p), filter_mem_take]
  · intro i
    unfold stepT
    split
    · rename_i h; simp [ht, h]
    · rename_i h; simp [h]
  · intro i hi
    exact (mem_rds.1 (List.mem_of_mem_take hi)).2.1
theorem cnt_le (n : Nat) (T : Nat → Int) : cntT n T ≤ n := by
  unfold cntT
  have := List.length_filter_le (fun i => decide (T i ≠ 0)) (List.range n)
  simpa using this
theorem cnt_all {n : Nat} {T : Nat → Int} : cntT n T = n ↔ ∀ i, i < n → T i ≠ 0 := by
  unfold cntT
  constructor
  · intro h i hi
    have h2 : ((List.range n).filter (fun i => decide (T i ≠ 0))).length = (List.range n).length := by simpa using h
    have := List.length_filter_eq_length_iff.1 h2 i (List.mem_range.2 hi)
    simpa using this
  · intro h
    rw [List.filter_eq_self.2 (fun i hi => by simpa using h i (List.mem_range.1 hi))]
    simp
theorem rds_nil_iff {m : Int} {l : List Ed} (h : Dag m l) (n : Nat) (T : Nat → Int) : rds n l T = [] ↔ cntT n T = n := by
  rw [cnt_all]
  constructor
  · intro e i hi h0
    exact rds_some h n T i hi h0 e
  · exact rds_none
theorem cnt_zero (n p : Nat) (l : List Ed) : cntT n (runT n p l 0) = 0 := by
  unfold cntT runT
  simp
theorem cnt_succ (n p : Nat) (l : List Ed) (k : Nat) : cntT n (runT n p l (k + 1)) = cntT n (runT n p l k) + ((rds n l (runT n p l k)).take p).length := by
  rw [runT]
  exact cnt_step n p l _ _ (by omega)
theorem cnt_grows {m : Int} {l : List Ed} (h : Dag m l) (n p : Nat) (hp : 1 ≤ p) : ∀ k, cntT n (runT n p l k) = n ∨ k ≤ cntT n (runT n p l k) := by
  intro k
  induction k with
  | zero => exact .inr (Nat.zero_le _)
  | succ k ih =>
    have hs := cnt_succ n p l k
    have hle := cnt_le n (runT n p l (k + 1))
    by_cases e : cntT n (runT n p l k) = n
    · exact .inl (by omega)
    · have hne : rds n l (runT n p l k) ≠ [] := fun h0 => e ((rds_nil_iff h n _).1 h0)
      have : 0 < (rds n l (runT n p l k)).length := List.length_pos_iff.2 hne
      rw [List.length_take] at hs
      rcases ih with ih | ih
      · exact absurd ih e
      · exact .inr (by omega)
theorem run_ends {m : Int} {l : List Ed} (h : Dag m l) (n p : Nat) (hp : 1 ≤ p) : cntT n (timesV n p l) = n := by
  rcases cnt_grows h n p hp n with h1 | h1
  · exact h1
  · have := cnt_le n (runT n p l n)
    unfold timesV
    omega
theorem times_eq {m : Int} {l : List Ed} (h : Dag m l) (n p : Nat) (hp : 1 ≤ p) (k : Nat) (he : rds n l (runT n p l k) = []) : runT n p l k = timesV n p l := by
  unfold timesV
  by_cases hk : k ≤ n
  · exact (run_stop he n hk).symm
  · have hn : rds n l (runT n p l n) = [] := (rds_nil_iff h n _).2 (run_ends h n p hp)
    exact run_stop hn k (by omega)
theorem k_le {m : Int} {l : List Ed} (h : Dag m l) (n p : Nat) (hp : 1 ≤ p) (k : Nat) (he : rds n l (runT n p l k) ≠ []) : k < n := by
  rcases cnt_grows h n p hp k with h1 | h1
  · exact absurd ((rds_nil_iff h n _).2 h1) he
  · have h2 := cnt_le n (runT n p l k)
    by_cases e : k = n
    · subst e
      exact absurd ((rds_nil_iff h k _).2 (by omega)) he
    · omega
end Go.Proofs.YtlbkfehakomicaaDoor.Dg
/-! Schedules, plainly: no schedule is shorter than the span or than N / P; Graham's and Brent's bound for greedy ones. -/
namespace Go.Proofs.YtlbkfehakomicaaDoor.Dg
set_option linter.unusedVariables false
set_option maxRecDepth 20000

/-- How many are done at t. -/
def cntAt (n : Nat) (T : Nat → Int) (t : Int) : Nat := ((List.range n).filter (fun i => decide (T i = t))).length
/-- How many are done at a time from 1 to m. -/
def upto (n : Nat) (T : Nat → Int) (m : Nat) : Nat := ((List.range n).filter (fun i => decide (1 ≤ T i ∧ T i ≤ m))).length
structure Sched (n P : Nat) (l : List Ed) (T : Nat → Int) : Prop where
  one : ∀ i, i < n → 1 ≤ T i
  most : ∀ t, cntAt n T t ≤ P
  edge : ∀ e ∈ l, T e.f.toNat < T e.t.toNat
/-- All that is ahead of the node is done at times below t. -/
def ahead (l : List Ed) (T : Nat → Int) (i : Nat) (t : Int) : Prop := ∀ a ∈ bef l i, T a.toNat < t
structure Grdy (n P : Nat) (l : List Ed) (T : Nat → Int) (len : Nat) : Prop where
  sch : Sched n P l T
  top : ∀ i, i < n → T i ≤ len
  full : ∀ t : Nat, 1 ≤ t → t ≤ len → cntAt n T t = P ∨ ∀ i, i < n → (t : Int) < T i → ¬ ahead l T i t
theorem filter_split {α : Type} (L : List α) (p q r : α → Bool) (h : ∀ x, r x = (p x || q x)) (hd : ∀ x, ¬ (p x = true ∧ q x = true)) : (L.filter r).length = (L.filter p).length + (L.filter q).length := by
  induction L with
  | nil => rfl
  | cons x L ih =>
    have h1 := h x
    have h2 := hd x
    cases hp : p x <;> cases hq : q x <;> rw [hp, hq] at h1
    · simp [hp, hq, h1]; omega
    · simp [hp, hq, h1]; omega
    · simp [hp, hq, h1]; omega
    · exact absurd ⟨hp, hq⟩ h2
theorem upto_zero (n : Nat) (T : Nat → Int) : upto n T 0 = 0 := by
  unfold upto
  rw [List.length_eq_zero_iff, List.filter_eq_nil_iff]
  intro i _
  simp
  omega
theorem upto_succ (n : Nat) (T : Nat → Int) (m : Nat) : upto n T (m + 1) = upto n T m + cntAt n T ((m : Int) + 1) := by
  unfold upto cntAt
  refine filter_split (List.range n) (fun i => decide (1 ≤ T i ∧ T i ≤ (m : Int))) (fun i => decide (T i = (m : Int) + 1)) _ (fun i => ?_) (fun i hh => ?_)
  · rw [Bool.eq_iff_iff]
    simp
    omega
  · simp at hh
    omega
theorem upto_all {n : Nat} {T : Nat → Int} {m : Nat} (h : ∀ i, i < n → 1 ≤ T i ∧ T i ≤ m) : upto n T m = n := by
  unfold upto
  rw [List.filter_eq_self.2 (fun i hi => by have := h i (List.mem_range.1 hi); simp; omega)]
  simp
theorem upto_le {n P : Nat} {T : Nat → Int} (h : ∀ t, cntAt n T t ≤ P) : ∀ m, upto n T m ≤ P * m := by
  intro m
  induction m with
  | zero => rw [upto_zero]; omega
  | succ m ih =>
    rw [upto_succ, Nat.mul_succ]
    have := h ((m : Int) + 1)
    omega
/-- A schedule of length m: all nodes fit. -/
theorem sched_work {n P : Nat} {l : List Ed} {T : Nat → Int} (h : Sched n P l T) {m : Nat} (hm : ∀ i, i < n → T i ≤ m) : n ≤ P * m := by
  rw [← upto_all (n := n) (T := T) (m := m) (fun i hi => ⟨h.one i hi, hm i hi⟩)]
  exact upto_le h.most m
/-- No node is done ahead of the longest path to it. -/
theorem sched_rank {n P : Nat} {l : List Ed} {T : Nat → Int} (hd : Dag (n : Int) l) (h : Sched n P l T) : ∀ i, i < n → R l i ≤ T i := by
  intro i
  induction i using Nat.strongRecOn with
  | ind i ih =>
    intro hi
    rcases rk_cases hd i i with h1 | ⟨e, he, a, ha, h2, h3, h4⟩
    · have : R l i = 1 := h1
      have := h.one i hi
      omega
    · have h5 : R l i = R l a + 1 := h4
      have h6 := ih a ha (by omega)
      have h7 := h.edge e he
      rw [h2, h3] at h7
      simp only [Int.toNat_natCast] at h7
      omega
/-- How many times from 1 to m are not full. -/
def idle (n P : Nat) (T : Nat → Int) : Nat → Nat
  | 0 => 0
  | m + 1 => idle n P T m + if cntAt n T ((m : Int) + 1) = P then 0 else 1
theorem idle_mono (n P : Nat) (T : Nat → Int) : ∀ a b, a ≤ b → idle n P T a ≤ idle n P T b := by
  intro a b
  induction b with
  | zero => intro h; obtain rfl : a = 0 := by omega
            exact Nat.le_refl _
  | succ b ih =>
    intro h
    by_cases e : a = b + 1
    · subst e; exact Nat.le_refl _
    · have := ih (by omega)
      rw [idle]
      omega
theorem idle_none (n P : Nat) (T : Nat → Int) (a : Nat) : ∀ b, a ≤ b → (∀ t, a < t → t ≤ b → cntAt n T (t : Int) = P) → idle n P T b = idle n P T a := by
  intro b
  induction b with
  | zero => intro h _; obtain rfl : a = 0 := by omega
            rfl
  | succ b ih =>
    intro h hf
    by_cases e : a = b + 1
    · subst e; rfl
    · have h1 := hf (b + 1) (by omega) (Nat.le_refl _)
      rw [idle, ih (by omega) (fun t h1 h2 => hf t h1 (by omega)), if_pos (by simpa using h1)]
      rfl
theorem idle_step (n P : Nat) (T : Nat → Int) (m : Nat) : idle n P T (m + 1) ≤ idle n P T m + 1 := by
  rw [idle]
  split <;> omega
/-- The times that are not full, up to a node's own, are no more than the nodes on the longest path to it. -/
theorem idle_rank {n P : Nat} {l : List Ed} {T : Nat → Int} {len : Nat} (hd : Dag (n : Int) l) (h : Grdy n P l T len) : ∀ i, i < n → (idle n P T (T i).toNat : Int) ≤ R l i := by
  intro i
  induction i using Nat.strongRecOn with
  | ind i ih =>
    intro hi
    have h1 := h.sch.one i hi
    have htop := h.top i hi
    obtain ⟨s, hs⟩ : ∃ s : Nat, (T i).toNat = s + 1 := ⟨(T i).toNat - 1, by omega⟩
    -- the latest of those ahead
    have hlast : bef l i = [] ∨ ∃ a : Nat, (a : Int) ∈ bef l i ∧ a < i ∧ ∀ b ∈ bef l i, T b.toNat ≤ T a := by
      have hb : ∀ b ∈ bef l i, 0 ≤ b ∧ b < (i : Int) := fun b hb => by
        obtain ⟨e, he, e1, e2⟩ := mem_bef.1 hb
        have := hd.ok e he
        omega
      generalize bef l i = bs at hb
      clear ih h1 htop hs h
      induction bs with
      | nil => exact .inl rfl
      | cons b bs ihb =>
        right
        have hb0 := hb b (List.mem_cons_self ..)
        rcases ihb (fun x hx => hb x (List.mem_cons_of_mem _ hx)) with h0 | ⟨a, ha, hai, hmax⟩
        · subst h0
          refine ⟨b.toNat, ?_, by omega, fun x hx => ?_⟩
          · rw [Int.toNat_of_nonneg hb0.1]; exact List.mem_cons_self ..
          · simp at hx; subst hx; exact Int.le_refl _
        · by_cases hc : T b.toNat ≤ T a
          · refine ⟨a, List.mem_cons_of_mem _ ha, hai, fun x hx => ?_⟩
            rcases List.mem_cons.1 hx with rfl | hx
            · exact hc
            · exact hmax x hx
          · refine ⟨b.toNat, ?_, by omega, fun x hx => ?_⟩
            · rw [Int.toNat_of_nonneg hb0.1]; exact List.mem_cons_self ..
            · rcases List.mem_cons.1 hx with rfl | hx
              · exact Int.le_refl _
              · have := hmax x hx; omega
    rcases hlast with h0 | ⟨a, ha, hai, hmax⟩
    · have hz : idle n P T s = 0 := by
        have := idle_none n P T 0 s (Nat.zero_le _) (fun t h2 h3 => by
          rcases h.full t (by omega) (by omega) with h4 | h4
          · exact h4
          · exact absurd (show ahead l T i t from fun b hb => by rw [h0] at hb; cases hb) (h4 i hi (by omega)))
        rw [this]; rfl
      have h2 := idle_step n P T s
      have h3 := R_one l i
      rw [hs]
      omega
    · have hed : T a < T i := by
        obtain ⟨e, he, e1, e2⟩ := mem_bef.1 ha
        have h2 := h.sch.edge e he
        rw [e1, e2] at h2
        simpa using h2
      have han : a < n := by omega
      have ha1 := h.sch.one a han
      have hR : R l a + 1 ≤ R l i := by
        obtain ⟨e, he, e1, e2⟩ := mem_bef.1 ha
        exact R_edge hd he e2 e1
      have hz : idle n P T s = idle n P T (T a).toNat := idle_none n P T (T a).toNat s (by omega) (fun t h2 h3 => by
        rcases h.full t (by omega) (by omega) with h4 | h4
        · exact h4
        · exact absurd (show ahead l T i t from fun b hb => by have := hmax b hb; omega) (h4 i hi (by omega)))
      have h2 := idle_step n P T s
      have h3 := ih a hai han
      rw [hs]
      omega
/-- At a time that is not full something is done, as long as something is left. -/
theorem grdy_busy {n P : Nat} {l : List Ed} {T : Nat → Int} {len : Nat} (hd : Dag (n : Int) l) (h : Grdy n P l T len) (hP : 1 ≤ P) (hl : ∃ i, i < n ∧ T i = len) : ∀ t : Nat, 1 ≤ t → t ≤ len → 1 ≤ cntAt n T t := by
  intro t h1 h2
  rcases h.full t h1 h2 with h3 | h3
  · omega
  · by_cases h0 : cntAt n T t = 0
    · exfalso
      have hne : ∀ i, i < n → T i ≠ t := fun i hi e => by
        unfold cntAt at h0
        rw [List.length_eq_zero_iff, List.filter_eq_nil_iff] at h0
        exact h0 i (List.mem_range.2 hi) (by simp [e])
      -- the node with the lowest number among those behind t
      obtain ⟨i0, hi0, he0⟩ := hl
      have hgt : (t : Int) < T i0 := by have := hne i0 hi0; omega
      have key : ∀ i, i < n → (t : Int) < T i → False := by
        intro i
        induction i using Nat.strongRecOn with
        | ind i ih =>
          intro hi hgt
          refine h3 i hi hgt (fun b hb => ?_)
          obtain ⟨e, he, e1, e2⟩ := mem_bef.1 hb
          have hok := hd.ok e he
          by_cases hc : T b.toNat < t
          · exact hc
          · have h5 := hne b.toNat (by omega)
            exact (ih b.toNat (by omega) (by omega) (by omega)).elim
      exact key i0 hi0 hgt
    · omega
theorem busy_sum {n P : Nat} {T : Nat → Int} : ∀ m, (∀ t : Nat, 1 ≤ t → t ≤ m → 1 ≤ cntAt n T t) → P * m + idle n P T m ≤ upto n T m + P * idle n P T m := by
  intro m
  induction m with
  | zero => intro _; simp [idle]
  | succ m ih =>
    intro h
    have h1 := ih (fun t h2 h3 => h t h2 (by omega))
    have h2 := h (m + 1) (by omega) (Nat.le_refl _)
    have h2' : 1 ≤ cntAt n T ((m : Int) + 1) := by simpa using h2
    rw [upto_succ, idle, Nat.mul_succ]
    split
    · rename_i he
      rw [Nat.add_zero]
      omega
    · rw [Nat.mul_add]
      omega
/-- Graham, Brent: P * T <= N + (P - 1) * span. -/
theorem brent {n P : Nat} {l : List Ed} {T : Nat → Int} {len : Nat} (hd : Dag (n : Int) l) (h : Grdy n P l T len) (hP : 1 ≤ P) (hl : ∃ i, i < n ∧ T i = len) (S : Nat) (hS : ∀ i, i < n → R l i ≤ S) : P * len ≤ n + (P - 1) * S := by
  have h1 := busy_sum (P := P) len (grdy_busy hd h hP hl)
  have h2 : upto n T len = n := upto_all (fun i hi => ⟨h.sch.one i hi, h.top i hi⟩)
  obtain ⟨i, hi, he⟩ := hl
  have h3 := idle_rank hd h i hi
  rw [he] at h3
  simp only [Int.toNat_natCast] at h3
  have h4 := hS i hi
  have h5 : idle n P T len ≤ S := by omega
  obtain ⟨Q, rfl⟩ : ∃ Q, P = Q + 1 := ⟨P - 1, by omega⟩
  have h6 : Q * idle n (Q + 1) T len ≤ Q * S := Nat.mul_le_mul_left Q h5
  rw [Nat.add_mul Q 1 (idle n (Q + 1) T len), Nat.one_mul] at h1
  simp only [Nat.add_sub_cancel]
  omega
end Go.Proofs.YtlbkfehakomicaaDoor.Dg
/-! A processor for every node; one processor alone. -/
namespace Go.Proofs.YtlbkfehakomicaaDoor.Dg
set_option linter.unusedVariables false
set_option maxRecDepth 20000

theorem R_ready {m : Int} {l : List Ed} (h : Dag m l) (k i : Nat) : (R l i = k + 1 ↔ ¬ R l i ≤ k ∧ ∀ a ∈ bef l i, R l a.toNat ≤ k) := by
  constructor
  · intro e
    refine ⟨by omega, fun a ha => ?_⟩
    obtain ⟨e', he, h1, h2⟩ := mem_bef.1 ha
    have := h.ok e' he
    have := R_edge h he (a := a.toNat) (j := i) (by omega) h1
    omega
  · rintro ⟨h1, h2⟩
    rcases rk_cases h i i with h3 | ⟨e, he, a, ha, h4, h5, h6⟩
    · have : R l i = 1 := h3
      omega
    · have h7 := h2 e.f (mem_bef.2 ⟨e, he, h5, rfl⟩)
      rw [h4] at h7
      have : R l i = R l a + 1 := h6
      simp only [Int.toNat_natCast] at h7
      omega
theorem wide_run {m : Int} {l : List Ed} (h : Dag m l) (n p : Nat) (hm : m = n) (hp : n ≤ p) : ∀ k i, i < n → runT n p l k i = if R l i ≤ k then R l i else 0 := by
  intro k
  induction k with
  | zero => intro i hi; have := R_one l i; rw [if_neg (by omega)]; rfl
  | succ k ih =>
    intro i hi
    rw [runT, stepT, List.take_of_length_le (by
      have := List.length_filter_le (rdy l (runT n p l k)) (List.range n)
      simp only [List.length_range] at this
      unfold rds
      omega)]
    have hz : ∀ j, j < n → (runT n p l k j = 0 ↔ ¬ R l j ≤ k) := by
      intro j hj
      rw [ih j hj]
      have := R_one l j
      split <;> omega
    have hm2 : i ∈ rds n l (runT n p l k) ↔ R l i = k + 1 := by
      rw [mem_rds, R_ready h, hz i hi]
      constructor
      · rintro ⟨_, h1, h2⟩
        refine ⟨h1, fun a ha => ?_⟩
        obtain ⟨e', he, h3, h4⟩ := mem_bef.1 ha
        have := h.ok e' he
        have h5 := h2 a ha
        by_cases hle : R l a.toNat ≤ k
        · exact hle
        · exact absurd ((hz a.toNat (by omega)).2 hle) h5
      · rintro ⟨h1, h2⟩
        refine ⟨hi, h1, fun a ha h5 => ?_⟩
        obtain ⟨e', he, h3, h4⟩ := mem_bef.1 ha
        have := h.ok e' he
        exact (hz a.toNat (by omega)).1 h5 (h2 a ha)
    by_cases e : R l i = k + 1
    · rw [if_pos (hm2.2 e), if_pos (by omega), e]
    · rw [if_neg (fun hh => e (hm2.1 hh)), ih i hi]
      by_cases h1 : R l i ≤ k
      · rw [if_pos h1, if_pos (by omega)]
      · rw [if_neg h1, if_neg (by omega)]
theorem wide_times {m : Int} {l : List Ed} (h : Dag m l) (n p : Nat) (hm : m = n) (hp : n ≤ p) (i : Nat) (hi : i < n) : timesV n p l i = R l i := by
  unfold timesV
  rw [wide_run h n p hm hp n i hi, if_pos]
  have := R_le l i
  omega
theorem one_run {m : Int} {l : List Ed} (h : Dag m l) (n : Nat) (hm : m = n) : ∀ k, k ≤ n → ∀ i, i < n → runT n 1 l k i = if i < k then (i : Int) + 1 else 0 := by
  intro k
  induction k with
  | zero => intro _ i hi; rfl
  | succ k ih =>
    intro hk i hi
    have ih := ih (by omega)
    have hz : ∀ j, j < n → (runT n 1 l k j = 0 ↔ k ≤ j) := by
      intro j hj
      rw [ih j hj]
      split <;> omega
    have hkm : k ∈ rds n l (runT n 1 l k) := by
      refine mem_rds.2 ⟨by omega, (hz k (by omega)).2 (Nat.le_refl _), fun a ha h5 => ?_⟩
      obtain ⟨e', he, h3, h4⟩ := mem_bef.1 ha
      have := h.ok e' he
      have := (hz a.toNat (by omega)).1 h5
      omega
    have hlo : ∀ j ∈ rds n l (runT n 1 l k), k ≤ j := by
      intro j hj
      have := mem_rds.1 hj
      exact (hz j this.1).1 this.2.1
    have hhead : (rds n l (runT n 1 l k)).take 1 = [k] := by
      have hs := rds_sorted n l (runT n 1 l k)
      cases hr : rds n l (runT n 1 l k) with
      | nil => rw [hr] at hkm; cases hkm
      | cons x xs =>
        rw [hr] at hkm hlo hs
        have h1 := hlo x (List.mem_cons_self ..)
        rcases List.mem_cons.1 hkm with h2 | h2
        · rw [h2]; rfl
        · have := (List.pairwise_cons.1 hs).1 k h2
          omega
    rw [runT, stepT, hhead]
    by_cases e : i = k
    · subst e; simp
    · rw [if_neg (by simpa using e), ih i hi]
      by_cases h1 : i < k
      · rw [if_pos h1, if_pos (by omega)]
      · rw [if_neg h1, if_neg (by omega)]
theorem one_times {m : Int} {l : List Ed} (h : Dag m l) (n : Nat) (hm : m = n) (i : Nat) (hi : i < n) : timesV n 1 l i = i + 1 := by
  unfold timesV
  rw [one_run h n hm n (Nat.le_refl _) i hi, if_pos hi]
end Go.Proofs.YtlbkfehakomicaaDoor.Dg
