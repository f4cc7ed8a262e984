import Derived.Test.YtbdpdojeaahpjaaGreatDoorPkBI
import Derived.Test.YtbdpdojeaahpjaaGreatDoorPkBR
import Derived.Deep.CutBlock
/-! DagOf, plainly: programs that differ in constants alone; what dag.Of and the document's Of answer, both. -/
namespace Go.Proofs.YtbdpdojeaahpjaaGreatDoor
set_option linter.unusedVariables false
set_option maxRecDepth 20000
open Go.RowKit Go.HeapKit Go.PlainOps

structure Lk (l l3 : List Fn) : Prop where
  len : l3.length = l.length
  fn : ∀ (i : Nat) (f f3 : Fn), l[i]? = some f → l3[i]? = some f3 → f3.params = f.params ∧ f3.regs = f.regs ∧ f3.slots = f.slots ∧ f3.code.length = f.code.length
  ins : ∀ (i : Nat) (f f3 : Fn), l[i]? = some f → l3[i]? = some f3 → ∀ (j : Nat) (x x3 : Ins), f.code[j]? = some x → f3.code[j]? = some x3 → x3.kind = x.kind ∧ x3.a = x.a ∧ x3.b = x.b ∧ x3.c = x.c
theorem Lk.refl (l : List Fn) : Lk l l :=
  ⟨rfl, fun i f f3 h h3 => by rw [h] at h3; obtain rfl := Option.some.inj h3; exact ⟨rfl, rfl, rfl, rfl⟩, fun i f f3 h h3 j x x3 hx hx3 => by rw [h] at h3; obtain rfl := Option.some.inj h3; rw [hx] at hx3; obtain rfl := Option.some.inj hx3; exact ⟨rfl, rfl, rfl, rfl⟩⟩
theorem Lk.put {l l3 : List Fn} (h : Lk l l3) {i k : Nat} {f3 : Fn} {x3 : Ins} (hf : l3[i]? = some f3) (hx : f3.code[k]? = some x3) (y : Int) : Lk l (l3.set i { f3 with code := f3.code.set k { x3 with k := y } }) := by
  have hil := (List.getElem?_eq_some_iff.1 hf).1
  have hkl := (List.getElem?_eq_some_iff.1 hx).1
  refine ⟨by rw [List.length_set]; exact h.len, fun i' f' f3' h1 h3 => ?_, fun i' f' f3' h1 h3 j x x3' hx' hx3 => ?_⟩
  · by_cases e : i = i'
    · subst e
      rw [List.getElem?_set_self hil] at h3
      obtain rfl := Option.some.inj h3
      have q := h.fn i f' f3 h1 hf
      simpa using q
    · rw [List.getElem?_set_ne e] at h3
      exact h.fn i' f' f3' h1 h3
  · by_cases e : i = i'
    · subst e
      rw [List.getElem?_set_self hil] at h3
      obtain rfl := Option.some.inj h3
      by_cases ek : k = j
      · subst ek
        have hx3' : (f3.code.set k { x3 with k := y })[k]? = some x3' := hx3
        rw [List.getElem?_set_self hkl] at hx3'
        obtain rfl := Option.some.inj hx3'
        exact h.ins i f' f3 h1 hf k x x3 hx' hx
      · have hx3' : (f3.code.set k { x3 with k := y })[j]? = some x3' := hx3
        rw [List.getElem?_set_ne ek] at hx3'
        exact h.ins i f' f3 h1 hf j x x3' hx' hx3'
    · rw [List.getElem?_set_ne e] at h3
      exact h.ins i' f' f3' h1 h3 j x x3' hx' hx3
/-- Put back up to an instruction. -/
structure Bk (l l3 : List Fn) (i j : Nat) : Prop where
  lk : Lk l l3
  old : ∀ i', i' < i → l3[i']? = l[i']?
  own : ∀ (f f3 : Fn), l[i]? = some f → l3[i]? = some f3 → ∀ j', j' < j → f3.code[j']? = f.code[j']?
theorem Bk.start {l l3 : List Fn} (h : Lk l l3) : Bk l l3 0 0 := ⟨h, fun i' hi => by omega, fun f f3 _ _ j' hj => by omega⟩
theorem ins_same {x x3 : Ins} (h : x3.kind = x.kind ∧ x3.a = x.a ∧ x3.b = x.b ∧ x3.c = x.c) : ({ x3 with k := x.k } : Ins) = x := by
  obtain ⟨a, b, c, d, e⟩ := x
  obtain ⟨a3, b3, c3, d3, e3⟩ := x3
  obtain ⟨rfl, rfl, rfl, rfl⟩ := h
  rfl
theorem Bk.put {l l3 : List Fn} {i j : Nat} (h : Bk l l3 i j) {f f3 : Fn} {x x3 : Ins} (hf : l[i]? = some f) (hf3 : l3[i]? = some f3) (hx : f.code[j]? = some x) (hx3 : f3.code[j]? = some x3) : Bk l (l3.set i { f3 with code := f3.code.set j { x3 with k := x.k } }) i (j + 1) := by
  have hil := (List.getElem?_eq_some_iff.1 hf3).1
  have hkl := (List.getElem?_eq_some_iff.1 hx3).1
  refine ⟨h.lk.put hf3 hx3 x.k, fun i' hi => ?_, fun f' f3' h1 h3 j' hj => ?_⟩
  · rw [List.getElem?_set_ne (by omega)]
    exact h.old i' hi
  · rw [hf] at h1
    obtain rfl := Option.some.inj h1
    rw [List.getElem?_set_self hil] at h3
    obtain rfl := Option.some.inj h3
    show (f3.code.set j { x3 with k := x.k })[j']? = _
    by_cases e : j = j'
    · subst e
      rw [List.getElem?_set_self hkl, hx, ins_same (h.lk.ins i f f3 hf hf3 j x x3 hx hx3)]
    · rw [List.getElem?_set_ne e]
      exact h.own f f3 hf hf3 j' (by omega)
theorem Bk.next {l l3 : List Fn} {i j : Nat} (h : Bk l l3 i j) {f : Fn} (hf : l[i]? = some f) (hj : f.code.length ≤ j) : Bk l l3 (i + 1) 0 := by
  have hil := (List.getElem?_eq_some_iff.1 hf).1
  refine ⟨h.lk, fun i' hi => ?_, fun f f3 _ _ j' hj => by omega⟩
  by_cases e : i' = i
  · subst e
    obtain ⟨f3, hf3⟩ : ∃ f3, l3[i']? = some f3 := ⟨l3[i']'(by rw [h.lk.len]; exact hil), by simp⟩
    rw [hf, hf3]
    obtain ⟨e1, e2, e3, e4⟩ := h.lk.fn i' f f3 hf hf3
    have e5 : f3.code = f.code := by
      apply List.ext_getElem?
      intro q
      by_cases hq : q < j
      · exact h.own f f3 hf hf3 q hq
      · rw [List.getElem?_eq_none (by omega), List.getElem?_eq_none (by omega)]
    obtain ⟨a, b, c, d⟩ := f
    obtain ⟨a3, b3, c3, d3⟩ := f3
    simp only at e1 e2 e3 e5
    subst e1 e2 e3 e5
    rfl
  · exact h.old i' (by omega)
theorem Bk.all {l l3 : List Fn} {i j : Nat} (h : Bk l l3 i j) (hi : l.length ≤ i) : l3 = l := by
  apply List.ext_getElem?
  intro q
  by_cases hq : q < i
  · exact h.old q hq
  · rw [List.getElem?_eq_none (by rw [h.lk.len]; omega), List.getElem?_eq_none (by omega)]
/-- What both answer. -/
def ofV (l : List Fn) (zs : List Int) (fuel : Int) : Nat × List (Nat × Nat) × Int :=
  if (evalV l zs fuel).2 ≠ 0 then (0, [], (evalV l zs fuel).2) else if 4096 < (evalV l zs fuel).1.work then (0, [], 70) else match walkV l (fuel.toNat + 1) 1 trc0 (enterT ⟨0, 0, 0, []⟩ (rootT zs)) none 0 with
    | some (_, _, T) => (T.n, T.es, 0)
    | none => (0, [], 0)
def OneP (N : Nat) (E : List (Nat × Nat)) (er : Int) (LE : Nat) (w : World) (e : Ending) (w' : World) : Prop :=
  ∃ ea ec, e = .returned (.tuple #[.agg #[.int .i64 (N : Int), .slice ea LE ec], .int .i64 er]) ∧ w'.ownsRow w.heap.size 39 2 (.slice ea LE ec) LE (edV E) ∧ Keeps None w w'
theorem of_one {l : List Fn} {zs : List Int} {fuel : Int} {w w' : World} {e : Ending} (h : OfPost l zs fuel w e w') : OneP (ofV l zs fuel).1 (ofV l zs fuel).2.1 (ofV l zs fuel).2.2 (ofV l zs fuel).2.1.length w e w' := by
  obtain ⟨hk, ⟨h1, rfl⟩ | ⟨h1, h2, rfl⟩ | ⟨h1, h2, T, D, a, c, rfl, hrow, hok, v, k2, hw⟩⟩ := h
  · have e1 : ofV l zs fuel = (0, [], (evalV l zs fuel).2) := by unfold ofV; rw [if_pos h1]
    rw [e1]
    exact ⟨none, 0, rfl, ⟨rfl, .inl ⟨rfl, rfl⟩⟩, hk⟩
  · have e1 : ofV l zs fuel = (0, [], 70) := by unfold ofV; rw [if_neg (by simpa using h1), if_pos h2]
    rw [e1]
    exact ⟨none, 0, rfl, ⟨rfl, .inl ⟨rfl, rfl⟩⟩, hk⟩
  · have e1 : ofV l zs fuel = (T.n, T.es, 0) := by unfold ofV; rw [if_neg (by simpa using h1), if_neg (by omega), hw]
    rw [e1]
    exact ⟨a, c, rfl, hrow, hk⟩
theorem of_most {l : List Fn} {zs : List Int} {fuel : Int} (hok : ∀ f ∈ l, f.Ok) (hz : ∀ x ∈ zs, okI x) : (ofV l zs fuel).2.1.length ≤ 16384 := by
  unfold ofV
  by_cases h1 : (evalV l zs fuel).2 = 0
  · rw [if_neg (by simpa using h1)]
    by_cases h2 : 4096 < (evalV l zs fuel).1.work
    · rw [if_pos h2]; simp
    · rw [if_neg h2]
      obtain ⟨hA, h8, v, k2, T, DD, q1, q2, q3⟩ := of_run hok hz h1 (by omega)
      rw [q1]
      exact q3.e4
  · rw [if_pos h1]; simp
theorem neqEd (a b : Int) (w : World) : (binOp .neq 39 (.agg #[.int .i64 a, .int .i64 b]) (.agg #[.int .i64 a, .int .i64 b])).run Tryz.prog w = .ok (.bool false) w := by
  have u3 := Tryz.underlying3
  have a3 := Tryz.isAgg3
  have z3 := Tryz.sizeOf3
  have hS : Tryz.prog.underlying 39 = some (.struct (Tryz.prog.fieldsOf 39)) := by kernel_rfl
  have hp : Tryz.prog.stoodInHeld 39 = false := by kernel_rfl
  rw [run_neq_struct, show (10000 : Nat) = 9999 + 1 from rfl, run_equalIn_agg w 9999 39 _ _ hS hp]
  simp only [Program.fieldsOf, Tryz.underlying39]
  go_simp
theorem edV_at {E : List (Nat × Nat)} {k : Nat} {x : Nat × Nat} (h : E[k]? = some x) : (edV E)[k * 2]? = some (.int .i64 (x.1 : Int)) ∧ (edV E)[k * 2 + 1]? = some (.int .i64 (x.2 : Int)) := by
  induction E generalizing k with
  | nil => simp at h
  | cons y E ih =>
    have e : edV (y :: E) = [.int .i64 (y.1 : Int), .int .i64 (y.2 : Int)] ++ edV E := rfl
    cases k with
    | zero => simp at h; subst h; rw [e]; exact ⟨rfl, rfl⟩
    | succ k =>
      have := ih (by simpa using h)
      rw [e, show (k + 1) * 2 = k * 2 + 2 by omega, show k * 2 + 2 + 1 = k * 2 + 1 + 2 by omega]
      exact ⟨by rw [List.getElem?_append_right (by simp)]; simpa using this.1, by rw [List.getElem?_append_right (by simp)]; simpa using this.2⟩
theorem own_cell2 {w : World} {lo : Nat} {e : TypeId} {z n c g : Nat} {X : List Value} (h : w.ownsRow lo e z (.slice (some ⟨g, 0, none⟩) n c) n X) {k : Nat} {v : Value} (hv : X[k]? = some v) : w.cell? ⟨g, k, none⟩ = some v := by
  rcases h.2 with ⟨e1, _⟩ | ⟨g', cap, cur, he, hb0, hg, hnc, hcm, hcs, htk⟩
  · cases e1
  · injection he with e1 e2 e3
    injection e1 with e1
    injection e1 with e1
    subst e1
    rw [blk_cell hg, ← Array.getElem?_toList]
    rw [← htk, List.getElem?_take] at hv
    split at hv
    · exact hv
    · cases hv
set_option maxHeartbeats 1000000 in
theorem sameE_any (a a2 : Option Addr) (m c c2 lo lo2 : Nat) (E : List (Nat × Nat)) (w : World) (hm : m = E.length) (h : w.ownsRow lo 39 2 (.slice a m c) m (edV E)) (h2 : w.ownsRow lo2 39 2 (.slice a2 m c2) m (edV E)) (hs : m ≤ 16384) :
    Calls Tryz.prog 8 #[.slice a m c, .slice a2 m c2] w fun e w' => e = .returned (.bool true) ∧ Keeps None w w' := by
  have HS : Hid (w.ownsRow lo 39 2 (.slice a m c) m (edV E) ∧ w.ownsRow lo2 39 2 (.slice a2 m c2) m (edV E) ∧ m = E.length) := ⟨h, h2, hm⟩
  clear h h2 hm
  go_enter Tryz.func8, Tryz.ntmps8
  go_wp2_with fail
  go_loopw [5] (fun s5 wr => ∃ k : Nat, s5 = .int .i64 k ∧ k ≤ m ∧ Keeps None w wr) (fun s5 _ => m - (intOf s5).toNat)
  case atStart => exact ⟨0, rfl, Nat.zero_le _, Keeps.refl _ _⟩
  case round =>
    obtain ⟨k, rfl, hk, hkp⟩ := hrel
    by_cases hkn : k < m
    · have r1 := hkp.own HS.out.1 (fun _ _ f => f)
      have r2 := hkp.own HS.out.2.1 (fun _ _ f => f)
      obtain ⟨g1, d1, e1⟩ := own_some7 r1 (by omega)
      obtain ⟨g2, d2, e2⟩ := own_some7 r2 (by omega)
      injection e1 with e11 e12 e13
      injection e2 with e21 e22 e23
      subst e11 e21
      obtain ⟨x, hx⟩ : ∃ x, E[k]? = some x := ⟨E[k]'(by have := HS.out.2.2; omega), by simp⟩
      obtain ⟨v1, v2⟩ := edV_at hx
      have y0 := own_cell2 r1 v1
      have y1 := own_cell2 r1 v2
      have y2 := own_cell2 r2 v1
      have y3 := own_cell2 r2 v2
      obtain ⟨p, q⟩ := x
      simp only at y0 y1 y2 y3
      have i1 : (k : Int) < (m : Int) := by omega
      have HN : Hid (Keeps None w wr) := hkp
      have hne := neqEd (p : Int) (q : Int)
      clear hkp hx r1 r2 v1 v2 HS
      go_upto_region 6 with fail
      go_quiet (fail)
      go_wp2_with fail
      exact ⟨⟨k + 1, by go_num, by omega, HN.out.trans (Keeps.drewN None _ _) (fun _ f _ => f)⟩, by simp [intOf]; omega⟩
    · have i1 : ¬ (k : Int) < (m : Int) := by omega
      go_wp2_with fail
      go_ret
      exact ⟨rfl, hkp⟩
end Go.Proofs.YtbdpdojeaahpjaaGreatDoor
/-! DagOf: the walk, from region 29 on. -/
namespace Go.Proofs.YtbdpdojeaahpjaaGreatDoor
set_option linter.unusedVariables false
set_option maxRecDepth 20000
set_option linter.unusedSimpArgs false
open Go.RowKit Go.HeapKit Go.PlainOps

/-- The arguments' copy, with the mark behind it. -/
theorem mark_seen {w : World} {ba : Option Addr} {an bc : Nat} {zs : List Int} (h : w.ownsRow 0 2 1 (.slice ba (an + 1) bc) (an + 1) (ints (zs ++ [-77]))) (hn : an = zs.length) (hl : an ≤ 9223372036854775807) (hok : ∀ x ∈ zs, okI x) :
    ∃ g, ba = some ⟨g, 0, none⟩ ∧ SeenA w ba an zs ∧ w.cell? ⟨g, an, none⟩ = some (.int .i64 (-77)) ∧ an + 1 ≤ bc := by
  rcases h.2 with ⟨_, h0⟩ | ⟨g, cap, cur, he, hb0, hg, hnc, hcm, hcs, htk⟩
  · omega
  · injection he with e1 e2 e3
    subst e1 e3
    have hc : ∀ k x, (zs ++ [-77])[k]? = some x → w.cell? ⟨g, k, none⟩ = some (.int .i64 x) := fun k x hx => by
      have h1 := ints_at (zs ++ [-77]) k x hx
      rw [← htk, List.getElem?_take] at h1
      rw [blk_cell hg, ← Array.getElem?_toList]
      split at h1
      · exact h1
      · cases h1
    refine ⟨g, rfl, ⟨hn, hl, hok, fun _ => ⟨g, 0, rfl, blk_lt hg, fun k x hx => ?_⟩⟩, hc an (-77) (by rw [hn]; simp), hnc⟩
    rw [Nat.zero_add]
    exact hc k x (by rw [List.getElem?_append_left (List.getElem?_eq_some_iff.1 hx).1]; exact hx)
set_option maxHeartbeats 8000000 in
set_option maxRecDepth 1000000 in
theorem of_C (a : Option Addr) (n c : Nat) (l : List Fn) (aa : Option Addr) (an ac : Nat) (zs : List Int) (fuel : Int) (w W w28 : World) (B Q : Nat) (qa ba : Option Addr) (qc bc : Nat) (tq : List At) (HC : Hid (Tabs W ∧ SeenF W a n l ∧ (∀ f ∈ l, f.Ok) ∧ (n * 48 ≤ 140737488351232 ∧ ∀ f ∈ l, f.code.length * 40 ≤ 140737488351232) ∧ SeenA W aa an zs ∧ Keeps None w W ∧ okI fuel ∧ an * 8 ≤ 140737488351232)) (HD : Hid (W.cell? ⟨B, 0, none⟩ = some (.slice a n c))) (han : (an : Int) ≤ 4611686018427387904) (hnb : (n : Int) ≤ 4611686018427387904) (HA : Hid (Al W w28 Q l (.slice qa n qc) tq (.slice ba (an + 1) bc) (an + 1) (zs ++ [-77]))) {u0 u4 u5 u6 u9 u10 u11 u12 u13 u14 u15 u16 u17 u18 u19 u20 u21 u22 u23 u24 u25 u26 u27 u28 u29 u30 u31 u32 u33 u34 u35 u36 u37 u38 u39 u40 u41 u42 u43 u44 u45 u46 u47 u48 u49 u50 u51 u52 u53 u54 u55 u56 u57 u58 u59 u60 u61 u62 u63 u64 u65 u66 u67 u68 u69 u70 u71 u72 u73 u74 u75 u76 u77 u78 u79 u80 u81 u82 u83 u84 u85 u86 u87 u88 u89 u90 u91 u92 u93 u94 u95 u96 u97 u98 u99 u100 u101 u102 u103 u104 u105 u106 u107 u108 u109 u110 u111 u112 u113 u114 u115 u116 u117 u118 u119 u120 u121 u122 u123 u124 u125 u126 u127 u128 u129 u130 u131 u132 u133 u134 u135 u136 u137 u138 u139 u140 u141 u142 u143 u144 u145 u146 u147 u148 u149 u150 u151 u152 u153 u154 u155 u156 u157 u158 u159 u160 u161 u162 u163 u164 u165 u166 u167 u168 u169 u170 u171 u172 u173 u174 u175 u176 u177 u178 u179 u180 u181 u182 u183 u184 u185 u186 u187 u188 u189 u190 u191 u192 u193 u194 u195 u196 u197 u198 u199 u200 u201 u202 u203 u204 u205 u206 u207 u208 u209 u210 u211 u212 u213 u214 u215 u216 u217 u218 u219 u220 u221 u222 u223 u224 u225 u226 u227 u228 u229 u230 u231 u232 u233 u234 u235 u236 u237 u238 u239 u240 u241 u242 : Value} :
    Code.wp Tryz.prog (ofTail 29) (bodyPost Tryz.prog Tryz.f3 fun e w' => e = .returned (.bool true) ∧ Keeps None w w') ⟨#[u0, .slice aa an ac, .int .i64 fuel, .pointer (some ⟨B, 0, none⟩), u4, u5, u6, .pointer (some ⟨Q, 0, none⟩), .slice ba an bc, u9, u10, u11, u12, u13, u14, u15, u16, u17, u18, u19, u20, u21, u22, u23, u24, u25, u26, u27, u28, u29, u30, u31, u32, u33, u34, u35, u36, u37, u38, u39, u40, u41, u42, u43, u44, u45, u46, u47, u48, u49, u50, u51, u52, u53, u54, u55, u56, u57, u58, u59, u60, u61, u62, u63, u64, u65, u66, u67, u68, u69, u70, u71, u72, u73, u74, u75, u76, u77, u78, u79, u80, u81, u82, u83, u84, u85, u86, u87, u88, u89, u90, u91, u92, u93, u94, u95, u96, u97, u98, u99, u100, u101, u102, u103, u104, u105, u106, u107, u108, u109, u110, u111, u112, u113, u114, u115, u116, u117, u118, u119, u120, u121, u122, u123, u124, u125, u126, u127, u128, u129, u130, u131, u132, u133, u134, u135, u136, u137, u138, u139, u140, u141, u142, u143, u144, u145, u146, u147, u148, u149, u150, u151, u152, u153, u154, u155, u156, u157, u158, u159, u160, u161, u162, u163, u164, u165, u166, u167, u168, u169, u170, u171, u172, u173, u174, u175, u176, u177, u178, u179, u180, u181, u182, u183, u184, u185, u186, u187, u188, u189, u190, u191, u192, u193, u194, u195, u196, u197, u198, u199, u200, u201, u202, u203, u204, u205, u206, u207, u208, u209, u210, u211, u212, u213, u214, u215, u216, u217, u218, u219, u220, u221, u222, u223, u224, u225, u226, u227, u228, u229, u230, u231, u232, u233, u234, u235, u236, u237, u238, u239, u240, u241, u242], []⟩ w28 := by
  conv => arg 2; whnf
  have hzl := HC.out.2.2.2.2.1.len
  have hzo := HC.out.2.2.2.2.1.ok
  obtain ⟨gb, hgb, hsb, hmk, hcap⟩ := mark_seen HA.out.brow hzl (by omega) hzo
  subst hgb
  have hsq := HA.out.seenQ HC.out.2.1.len
  have hof := fun wx (hx : Keeps None w28 wx) => Calls.mono (of_any qa n qc l (some ⟨gb, 0, none⟩) an bc zs fuel wx (HC.out.1.more (HA.out.keep.trans hx (fun _ f _ => f))) (hsq.more hx) HC.out.2.2.1 (hsb.more hx) hzo (by omega) HC.out.2.2.2.2.2.2.1) (fun e w' h => of_one h)
  have hrf := fun wx (hx : Keeps None W wx) => Calls.mono (rof_any a n c l aa an ac zs fuel wx (HC.out.2.1.more hx) HC.out.2.2.1 (HC.out.2.2.2.2.1.more hx) hzo (by omega) HC.out.2.2.2.2.2.2.1) (fun e w' h => of_one h)
  have hmost := of_most (fuel := fuel) HC.out.2.2.1 hzo
  obtain ⟨N, hN⟩ : ∃ N, N = (ofV l zs fuel).1 := ⟨_, rfl⟩
  obtain ⟨E, hE⟩ : ∃ E, E = (ofV l zs fuel).2.1 := ⟨_, rfl⟩
  obtain ⟨er, her⟩ : ∃ er, er = (ofV l zs fuel).2.2 := ⟨_, rfl⟩
  rw [← hN, ← hE, ← her] at hof hrf
  rw [← hE] at hmost
  obtain ⟨LE, hLE⟩ : ∃ LE, LE = E.length := ⟨_, rfl⟩
  rw [← hLE] at hof hrf hmost
  have HOF : Hid (∀ wx, Keeps None w28 wx → Calls Tryz.prog 5 #[.agg #[.slice qa n qc], .slice (some ⟨gb, 0, none⟩) an bc, .int .i64 fuel] wx (OneP N E er LE wx)) := hof
  have HRF : Hid (∀ wx, Keeps None W wx → Calls Tryz.prog 6 #[.agg #[.slice a n c], .slice aa an ac, .int .i64 fuel] wx (OneP N E er LE wx)) := hrf
  have HLE : Hid (LE = E.length ∧ an = zs.length) := ⟨hLE, hzl⟩
  have H28 : Hid (SeenA w28 (some ⟨gb, 0, none⟩) an zs ∧ w28.cell? ⟨gb, an, none⟩ = some (.int .i64 (-77)) ∧ SeenF w28 qa n l) := ⟨hsb, hmk, hsq⟩
  have q0 : w28.cell? ⟨Q, 0, none⟩ = some (.slice qa n qc) := (blk_cell HA.out.qb 0).trans rfl
  clear hof hrf hN hE her hLE hsb hmk hsq hzl hzo
  go_upto_region 30 with (go_at_call 5; refine Calls.mono (HOF.out _ (Keeps.refl _ _)) ?_; rintro _ w29 ⟨ea, ec, rfl, hr29, hk29⟩)
  have k30 := Keeps.alloc None w29 (.cells #[.int .i64 (N : Int), .slice ea LE ec] 29)
  have b30 := heap_alloc_new w29 (.cells #[.int .i64 (N : Int), .slice ea LE ec] 29)
  obtain ⟨w30, hw30⟩ : ∃ w30, w30 = w29.alloc (.cells #[.int .i64 (N : Int), .slice ea LE ec] 29) := ⟨_, rfl⟩
  obtain ⟨D1, hD1⟩ : ∃ D1, D1 = w29.heap.size := ⟨_, rfl⟩
  rw [← hw30, ← hD1]
  rw [← hw30] at k30 b30
  rw [← hD1] at b30
  have kq30 := hk29.trans k30 (fun _ f _ => f)
  have q30 := kq30.cell q0 (fun f => f)
  have H30 : Hid (Keeps None w28 w30 ∧ w30.ownsRow w28.heap.size 39 2 (.slice ea LE ec) LE (edV E) ∧ w30.heap[D1]? = some (.cells #[.int .i64 (N : Int), .slice ea LE ec] 29 (0, 0))) := ⟨kq30, k30.own hr29 (fun _ _ f => f), b30⟩
  clear hw30 hD1 k30 b30 kq30 hr29 hk29 q0
  go_upto_region 31 with (go_at_call 5; refine Calls.mono (HOF.out _ H30.out.1) ?_; rintro _ w31 ⟨fa, fc, rfl, hr31, hk31⟩)
  have k32 := Keeps.alloc None w31 (.cells #[.int .i64 (N : Int), .slice fa LE fc] 29)
  have b32 := heap_alloc_new w31 (.cells #[.int .i64 (N : Int), .slice fa LE fc] 29)
  obtain ⟨w32, hw32⟩ : ∃ w32, w32 = w31.alloc (.cells #[.int .i64 (N : Int), .slice fa LE fc] 29) := ⟨_, rfl⟩
  obtain ⟨D2, hD2⟩ : ∃ D2, D2 = w31.heap.size := ⟨_, rfl⟩
  rw [← hw32, ← hD2]
  rw [← hw32] at k32 b32
  rw [← hD2] at b32
  have hD2l : w30.heap.size ≤ D2 := by have := hk31.size; omega
  have H32 : Hid (Keeps None w30 w32 ∧ w32.ownsRow w30.heap.size 39 2 (.slice fa LE fc) LE (edV E) ∧ w32.heap[D2]? = some (.cells #[.int .i64 (N : Int), .slice fa LE fc] 29 (0, 0)) ∧ w30.heap.size ≤ D2) := ⟨hk31.trans k32 (fun _ f _ => f), k32.own hr31 (fun _ _ f => f), b32, hD2l⟩
  clear hw32 hD2 k32 b32 hr31 hk31 q30 hD2l
  go_wp2_with fail
  go_loopw [19] (fun s19 wr => ∃ (i : Nat) (X : List Value), i ≤ LE ∧ s19 = .int .i64 i ∧ Keeps None w30 wr ∧ wr.ownsRow w30.heap.size 39 2 (.slice fa LE fc) LE X ∧ wr.heap[D2]? = some (.cells #[.int .i64 (N : Int), .slice fa LE fc] 29 (0, 0))) (fun i _ => LE - (intOf i).toNat)
  case atStart => exact ⟨0, edV E, Nat.zero_le _, rfl, H32.out.1, H32.out.2.1, H32.out.2.2.1⟩
  case round =>
    obtain ⟨i, X, hi, rfl, hkp, hX, hb⟩ := hrel
    have d1 : wr.cell? ⟨D2, 1, none⟩ = some (.slice fa LE fc) := (blk_cell hb 1).trans rfl
    by_cases hil : i < LE
    · as_aux_lemma =>
        obtain ⟨g, c5, e5⟩ := own_some7 hX (by omega)
        injection e5 with e51 e52 e53
        subst e51
        have hxl : X.length = LE * 2 := hX.1
        obtain ⟨x0, hx0⟩ : ∃ x, X[i * 2]? = some x := ⟨X[i * 2]'(by omega), by simp⟩
        obtain ⟨x1, hx1⟩ : ∃ x, X[i * 2 + 1]? = some x := ⟨X[i * 2 + 1]'(by omega), by simp⟩
        have y0 := own_cell2 hX hx0
        have y1 := own_cell2 hX hx1
        obtain ⟨Cg, hCg, hgl⟩ : ∃ C, wr.heap[g]? = some (.cells C 39 (0, 0)) ∧ w30.heap.size ≤ g := by
          rcases hX.2 with ⟨e1, _⟩ | ⟨g', cap, cur, he, hb0, hg, _⟩
          · cases e1
          · injection he with e1; injection e1 with e1; injection e1 with e1; subst e1; exact ⟨_, hg, hb0⟩
        have z0 := blk_free hCg (i * 2)
        have z1 := blk_free hCg (i * 2 + 1)
        have hP := own_putL (i := i * 2 + 1) (.int .i64 (i : Int)) (own_putL (i := i * 2) (.int .i64 (-1)) hX)
        have kP : Keeps (· = g) wr ((wr.setCell ⟨g, i * 2, none⟩ (.int .i64 (-1))).setCell ⟨g, i * 2 + 1, none⟩ (.int .i64 (i : Int))) := ((Keeps.refl (· = g) wr).andSet (x := ⟨g, i * 2, none⟩) (.inl rfl) _).andSet (x := ⟨g, i * 2 + 1, none⟩) (.inl rfl) _
        have hD2 := blk_kept hb kP (fun e => by
          rw [e, hCg] at hb
          injection hb with hb
          injection hb with _ hb
          exact absurd hb (by decide))
        have i1 : (i : Int) < (LE : Int) := by omega
        have HX : Hid _ := And.intro (hkp.trans kP (fun j e hj => by omega)) (And.intro hP hD2)
        clear hkp hX hb hx0 hx1 hCg hP kP hD2 hxl
        go_wp2_with fail
        exact ⟨⟨i + 1, _, by omega, by go_num, HX.out.1, HX.out.2.1, HX.out.2.2⟩, by simp [intOf]; omega⟩
    · have i1 : ¬ ((i : Int) < (LE : Int)) := by omega
      obtain rfl : i = LE := by omega
      have hal := Keeps.alloc None wr (.cells #[.int .i64 (-2), .int .i64 0] 39)
      have hX7 := hal.own hX (fun _ _ f => f)
      have hb7 := blk_kept hb hal (fun f => f)
      have hws : w30.heap.size ≤ (wr.alloc (.cells #[.int .i64 (-2), .int .i64 0] 39)).heap.size := Nat.le_trans hkp.size hal.size
      obtain ⟨g7, c7, V7, hr7, hoe7, hke7, hme7⟩ := row_app (wr.alloc (.cells #[.int .i64 (-2), .int .i64 0] 39)) w30.heap.size 27 27 39 2 16 _ Tryz.underlying27 Tryz.twEdge rfl (by decide) (.slice fa i fc) _ _ hX7 wr.heap.size _ (heap_alloc_new wr _) rfl (fun u hu => by simp at hu; rcases hu with rfl | rfl <;> rfl) hws (by omega) (by unfold maxLen; omega)
      have hlowX : ∀ k, (Value.slice fa i fc).ownBlock = some k → w30.heap.size ≤ k := fun k e => by
        rcases hX.2 with ⟨h1, _⟩ | ⟨g, _, _, h1, hb, _⟩
        · rw [h1] at e; simp [Value.ownBlock] at e
        · rw [h1] at e; simp [Value.ownBlock] at e; omega
      have hb8 := blk_kept hb7 hke7 (fun e => own_not hX7 hb7 (by decide) e)
      have x1 : V7.cell? ⟨D2, 1, none⟩ = some (.slice fa i fc) := (blk_cell hb8 1).trans rfl
      have z1 := blk_free hb8 1
      have kD : Keeps (· = D2) V7 (V7.setCell ⟨D2, 1, none⟩ (.slice (some ⟨g7, 0, none⟩) (i + 1) c7)) := Keeps.setCell (S := (· = D2)) V7 (a := ⟨D2, 1, none⟩) rfl _
      have hb9 : (V7.setCell ⟨D2, 1, none⟩ (.slice (some ⟨g7, 0, none⟩) (i + 1) c7)).heap[D2]? = some (.cells #[.int .i64 (N : Int), .slice (some ⟨g7, 0, none⟩) (i + 1) c7] 29 (0, 0)) := by rw [blk_set hb8]; rfl
      have k35 : Keeps None w30 (V7.setCell ⟨D2, 1, none⟩ (.slice (some ⟨g7, 0, none⟩) (i + 1) c7)) := ((hkp.trans hal (fun _ f _ => f)).trans hke7 (fun j e hj => by have := hlowX j e; omega)).trans kD (fun j e hj => by have := H32.out.2.2.2; omega)
      obtain ⟨w35, hw35⟩ : ∃ w35, w35 = V7.setCell ⟨D2, 1, none⟩ (.slice (some ⟨g7, 0, none⟩) (i + 1) c7) := ⟨_, rfl⟩
      rw [← hw35] at hb9 k35
      have kW35 : Keeps None W w35 := (HA.out.keep.trans H30.out.1 (fun _ f _ => f)).trans k35 (fun _ f _ => f)
      have p35 := kW35.cell HD.out (fun f => f)
      have H35 : Hid (Keeps None w30 w35 ∧ w35.heap[D2]? = some (.cells #[.int .i64 (N : Int), .slice (some ⟨g7, 0, none⟩) (i + 1) c7] 29 (0, 0)) ∧ Keeps None W w35) := ⟨k35, hb9, kW35⟩
      have hd1 := hal.cell d1 (fun f => f)
      clear hal hX7 hb7 hws hoe7 hke7 hme7 hlowX hb8 kD hb9 k35 kW35 hkp hX hb H32 hi hil
      go_upto_region 36 with (at_builtin; refine wpList_append_run rfl (.tmp 170) (.tmp 172) 27 27 rfl rfl rfl hr7 ?_)
      rw [← hw35]
      clear hw35 hr7 x1 z1 hd1 d1
      go_upto_region 37 with (go_at_call 6; refine Calls.mono (HRF.out _ H35.out.2.2) ?_; rintro _ w36 ⟨ga, gc, rfl, hr36, hk36⟩)
      have k37 := Keeps.alloc None w36 (.cells #[.int .i64 (N : Int), .slice ga i gc] 29)
      have b37 := heap_alloc_new w36 (.cells #[.int .i64 (N : Int), .slice ga i gc] 29)
      obtain ⟨w37, hw37⟩ : ∃ w37, w37 = w36.alloc (.cells #[.int .i64 (N : Int), .slice ga i gc] 29) := ⟨_, rfl⟩
      obtain ⟨D3, hD3⟩ : ∃ D3, D3 = w36.heap.size := ⟨_, rfl⟩
      rw [← hw37, ← hD3]
      rw [← hw37] at k37 b37
      rw [← hD3] at b37
      have k57 := hk36.trans k37 (fun _ f _ => f)
      have k307 := H35.out.1.trans k57 (fun _ f _ => f)
      have k287 := H30.out.1.trans k307 (fun _ f _ => f)
      have kW7 := H35.out.2.2.trans k57 (fun _ f _ => f)
      have H37 : Hid (Keeps None w30 w37 ∧ Keeps None w28 w37 ∧ Keeps None W w37 ∧ w37.heap[D2]? = some (.cells #[.int .i64 (N : Int), .slice (some ⟨g7, 0, none⟩) (i + 1) c7] 29 (0, 0)) ∧ w37.heap[D3]? = some (.cells #[.int .i64 (N : Int), .slice ga i gc] 29 (0, 0)) ∧ w37.ownsRow w35.heap.size 39 2 (.slice ga i gc) i (edV E)) := ⟨k307, k287, kW7, blk_kept H35.out.2.1 k57 (fun f => f), b37, k37.own hr36 (fun _ _ f => f)⟩
      have p37 := kW7.cell HD.out (fun f => f)
      have q37 : w37.cell? ⟨Q, 0, none⟩ = some (.slice qa n qc) := (blk_cell (blk_kept HA.out.qb k287 (fun f => f)) 0).trans rfl
      have hal7 := alike_any a n c qa qc l w37 (HC.out.2.1.more kW7) (H28.out.2.2.more k287) HC.out.2.2.2.1.1 HC.out.2.2.2.1.2
      have HAL : Hid (Calls Tryz.prog 7 #[.agg #[.slice a n c], .agg #[.slice qa n qc]] w37 fun e w' => e = .returned (.bool true) ∧ Keeps None w37 w') := hal7
      have f1 : (an : Int) + 1 ≤ (bc : Int) := by omega
      have f2 : (an : Int) < (an : Int) + 1 := by omega
      have f3 : ¬ ((i : Int) + 1 < 1) := by omega
      clear hw37 hD3 k37 b37 k57 k307 k287 kW7 hr36 hk36 hal7 p35 H35
      go_upto_region 39 with (go_at_call 7; refine Calls.mono HAL.out ?_; rintro _ w38 ⟨rfl, hk38⟩; have m38 : w38.cell? ⟨gb, an, none⟩ = some (.int .i64 (-77)) := hk38.cell (H37.out.2.1.cell H28.out.2.1 (fun f => f)) (fun f => f); have g38 : w38.cell? ⟨D2, 1, none⟩ = some (.slice (some ⟨g7, 0, none⟩) (i + 1) c7) := (blk_cell (blk_kept H37.out.2.2.2.1 hk38 (fun f => f)) 1).trans rfl; have H38 : Hid (Keeps None w37 w38) := hk38; clear hk38)
      clear m38 g38 p37 q37 f1 f2 f3
      go_wp2_with fail
      go_loopw [22] (fun s22 wr => ∃ k : Nat, k ≤ an ∧ s22 = .int .i64 k ∧ Keeps None w38 wr) (fun i _ => an - (intOf i).toNat)
      case atStart => exact ⟨0, Nat.zero_le _, rfl, Keeps.refl _ _⟩
      case round =>
        obtain ⟨k, hk, rfl, hkp⟩ := hrel
        have k37 := H38.out.trans hkp (fun _ f _ => f)
        by_cases hka : k < an
        · as_aux_lemma =>
            have i2 : (k : Int) < (an : Int) := by omega
            obtain ⟨x, hx⟩ : ∃ x, zs[k]? = some x := ⟨zs[k]'(by have := HLE.out.2; omega), by simp⟩
            obtain ⟨bb, oo, rfl, _, hcc⟩ := (HC.out.2.2.2.2.1.more (H37.out.2.2.1.trans k37 (fun _ f _ => f))).ex (by omega)
            obtain ⟨b2, o2, e2, _, hc2⟩ := (H28.out.1.more (H37.out.2.1.trans k37 (fun _ f _ => f))).ex (by omega)
            injection e2 with e2
            injection e2 with e21 e22
            subst e21 e22
            have y0 := hcc k x hx
            have y1 := hc2 k x hx
            rw [Nat.zero_add] at y1
            have HK : Hid (Keeps None w38 wr) := hkp
            clear hkp k37 hx hcc hc2
            go_upto_region 42 with fail
            go_quiet (fail)
            go_wp2_with fail
            exact ⟨⟨k + 1, by omega, by go_num, HK.out.trans (Keeps.drewN None _ _) (fun _ f _ => f)⟩, by simp [intOf]; omega⟩
        · have i2 : ¬ ((k : Int) < (an : Int)) := by omega
          have bD1 := blk_kept (blk_kept H30.out.2.2 H37.out.1 (fun f => f)) k37 (fun f => f)
          have bD3 := blk_kept H37.out.2.2.2.2.1 k37 (fun f => f)
          have u0 : wr.cell? ⟨D1, 0, none⟩ = some (.int .i64 (N : Int)) := (blk_cell bD1 0).trans rfl
          have u1 : wr.cell? ⟨D1, 1, none⟩ = some (.slice ea i ec) := (blk_cell bD1 1).trans rfl
          have v0 : wr.cell? ⟨D3, 0, none⟩ = some (.int .i64 (N : Int)) := (blk_cell bD3 0).trans rfl
          have v1 : wr.cell? ⟨D3, 1, none⟩ = some (.slice ga i gc) := (blk_cell bD3 1).trans rfl
          have hsm := sameE_any ea ga i ec gc _ _ E wr HLE.out.1 (k37.own (H37.out.1.own H30.out.2.1 (fun _ _ f => f)) (fun _ _ f => f)) (k37.own H37.out.2.2.2.2.2 (fun _ _ f => f)) hmost
          have HSM : Hid (Calls Tryz.prog 8 #[.slice ea i ec, .slice ga i gc] wr fun e w' => e = .returned (.bool true) ∧ Keeps None wr w') := hsm
          have HF : Hid (Keeps None w wr) := (HC.out.2.2.2.2.2.1.trans H37.out.2.2.1 (fun _ f _ => f)).trans k37 (fun _ f _ => f)
          clear hkp k37 bD1 bD3 hsm
          go_wp2_with (go_at_call 8; refine Calls.mono HSM.out ?_; rintro _ w39 ⟨rfl, hk39⟩; have H39 : Hid _ := hk39; clear hk39)
          go_ret
          exact ⟨rfl, HF.out.trans H39.out (fun _ f _ => f)⟩
end Go.Proofs.YtbdpdojeaahpjaaGreatDoor
/-! DagOf: the walk, from region 22 on. -/
namespace Go.Proofs.YtbdpdojeaahpjaaGreatDoor
set_option linter.unusedVariables false
set_option maxRecDepth 20000
set_option linter.unusedSimpArgs false
open Go.RowKit Go.HeapKit Go.PlainOps

set_option maxHeartbeats 8000000 in
set_option maxRecDepth 1000000 in
theorem of_B2 (a : Option Addr) (n c : Nat) (l : List Fn) (aa : Option Addr) (an ac : Nat) (zs : List Int) (fuel : Int) (w W w28 : World) (B Q : Nat) (qa ba : Option Addr) (qc bc : Nat) (tq : List At) (HC : Hid (Tabs W ∧ SeenF W a n l ∧ (∀ f ∈ l, f.Ok) ∧ (n * 48 ≤ 140737488351232 ∧ ∀ f ∈ l, f.code.length * 40 ≤ 140737488351232) ∧ SeenA W aa an zs ∧ Keeps None w W ∧ okI fuel ∧ an * 8 ≤ 140737488351232)) (HD : Hid (W.cell? ⟨B, 0, none⟩ = some (.slice a n c))) (han : (an : Int) ≤ 4611686018427387904) (hnb : (n : Int) ≤ 4611686018427387904) (l3 : List Fn) (HA : Hid (Al W w28 Q l3 (.slice qa n qc) tq (.slice ba (an + 1) bc) (an + 1) (zs ++ [-77]) ∧ Lk l l3 ∧ ∀ f ∈ l3, f.Ok)) {u0 u4 u5 u6 u9 u10 u11 u12 u13 u14 u15 u16 u17 u18 u19 u20 u21 u22 u23 u24 u25 u26 u27 u28 u29 u30 u31 u32 u33 u34 u35 u36 u37 u38 u39 u40 u41 u42 u43 u44 u45 u46 u47 u48 u49 u50 u51 u52 u53 u54 u55 u56 u57 u58 u59 u60 u61 u62 u63 u64 u65 u66 u67 u68 u69 u70 u71 u72 u73 u74 u75 u76 u77 u78 u79 u80 u81 u82 u83 u84 u85 u86 u87 u88 u89 u90 u91 u92 u93 u94 u95 u96 u97 u98 u99 u100 u101 u102 u103 u104 u105 u106 u107 u108 u109 u110 u111 u112 u113 u114 u115 u116 u117 u118 u119 u120 u121 u122 u123 u124 u125 u126 u127 u128 u129 u130 u131 u132 u133 u134 u135 u136 u137 u138 u139 u140 u141 u142 u143 u144 u145 u146 u147 u148 u149 u150 u151 u152 u153 u154 u155 u156 u157 u158 u159 u160 u161 u162 u163 u164 u165 u166 u167 u168 u169 u170 u171 u172 u173 u174 u175 u176 u177 u178 u179 u180 u181 u182 u183 u184 u185 u186 u187 u188 u189 u190 u191 u192 u193 u194 u195 u196 u197 u198 u199 u200 u201 u202 u203 u204 u205 u206 u207 u208 u209 u210 u211 u212 u213 u214 u215 u216 u217 u218 u219 u220 u221 u222 u223 u224 u225 u226 u227 u228 u229 u230 u231 u232 u233 u234 u235 u236 u237 u238 u239 u240 u241 u242 : Value} :
    Code.wp Tryz.prog (ofTail 22) (bodyPost Tryz.prog Tryz.f3 fun e w' => e = .returned (.bool true) ∧ Keeps None w w') ⟨#[u0, .slice aa an ac, .int .i64 fuel, .pointer (some ⟨B, 0, none⟩), u4, u5, u6, .pointer (some ⟨Q, 0, none⟩), .slice ba an bc, u9, u10, u11, u12, u13, u14, u15, u16, u17, u18, u19, u20, u21, u22, u23, u24, u25, u26, u27, u28, u29, u30, u31, u32, u33, u34, u35, u36, u37, u38, u39, u40, u41, u42, u43, u44, u45, u46, u47, u48, u49, u50, u51, u52, u53, u54, u55, u56, u57, u58, u59, u60, u61, u62, u63, u64, u65, u66, u67, u68, u69, u70, u71, u72, u73, u74, u75, u76, u77, u78, u79, u80, u81, u82, u83, u84, u85, u86, u87, u88, u89, u90, u91, u92, u93, u94, u95, u96, u97, u98, u99, u100, u101, u102, u103, u104, u105, u106, u107, u108, u109, u110, u111, u112, u113, u114, u115, u116, u117, u118, u119, u120, u121, u122, u123, u124, u125, u126, u127, u128, u129, u130, u131, u132, u133, u134, u135, u136, u137, u138, u139, u140, u141, u142, u143, u144, u145, u146, u147, u148, u149, u150, u151, u152, u153, u154, u155, u156, u157, u158, u159, u160, u161, u162, u163, u164, u165, u166, u167, u168, u169, u170, u171, u172, u173, u174, u175, u176, u177, u178, u179, u180, u181, u182, u183, u184, u185, u186, u187, u188, u189, u190, u191, u192, u193, u194, u195, u196, u197, u198, u199, u200, u201, u202, u203, u204, u205, u206, u207, u208, u209, u210, u211, u212, u213, u214, u215, u216, u217, u218, u219, u220, u221, u222, u223, u224, u225, u226, u227, u228, u229, u230, u231, u232, u233, u234, u235, u236, u237, u238, u239, u240, u241, u242], []⟩ w28 := by
  conv => arg 2; whnf
  have hnl := HC.out.2.1.len
  have HNL : Hid _ := hnl
  have q00 : w28.cell? ⟨Q, 0, none⟩ = some (.slice qa n qc) := (blk_cell HA.out.1.qb 0).trans rfl
  clear hnl
  go_upto_block 8 with fail
  go_cut [13] (fun s13 wx => Al W wx Q l (.slice qa n qc) tq (.slice ba (an + 1) bc) (an + 1) (zs ++ [-77]))
  case first =>
    go_wp2_with fail
    go_loopw [13] (fun s13 wr => ∃ (i : Nat) (l2 : List Fn), i ≤ n ∧ s13 = .int .i64 i ∧ Bk l l2 i 0 ∧ Al W wr Q l2 (.slice qa n qc) tq (.slice ba (an + 1) bc) (an + 1) (zs ++ [-77])) (fun i _ => n - (intOf i).toNat)
    case atStart => exact ⟨0, l3, Nat.zero_le _, rfl, Bk.start HA.out.2.1, HA.out.1⟩
    case round =>
      clear q00
      obtain ⟨i, l2, hi, rfl, hB2, hA⟩ := hrel
      have q0 : wr.cell? ⟨Q, 0, none⟩ = some (.slice qa n qc) := (blk_cell hA.qb 0).trans rfl
      by_cases hin : i < n
      · as_aux_lemma =>
          obtain ⟨f, hf⟩ : ∃ f, l[i]? = some f := ⟨l[i]'(by have := HNL.out; omega), by simp⟩
          obtain ⟨f2, hf2⟩ : ∃ f, l2[i]? = some f := ⟨l2[i]'(by rw [hB2.lk.len]; have := HNL.out; omega), by simp⟩
          obtain ⟨m, hm⟩ : ∃ m, m = f.code.length := ⟨_, rfl⟩
          have hm2 : m = f2.code.length := by rw [hm]; exact (hB2.lk.fn i f f2 hf hf2).2.2.2.symm
          have i5 : (i : Int) < (n : Int) := by omega
          have hmb : (m : Int) ≤ 4611686018427387904 := by have := HC.out.2.2.2.1.2 f (List.mem_of_getElem? hf); omega
          have HI : Hid (Bk l l2 i 0 ∧ Al W wr Q l2 (.slice qa n qc) tq (.slice ba (an + 1) bc) (an + 1) (zs ++ [-77]) ∧ l[i]? = some f ∧ l2[i]? = some f2 ∧ m = f.code.length ∧ m = f2.code.length) := ⟨hB2, hA, hf, hf2, hm, hm2⟩
          clear hB2 hA hf hf2 hm hm2
          go_wp2_with fail
          go_loopw [14] (fun s14 wr => ∃ (k : Nat) (l3 : List Fn) (f3 : Fn), k ≤ m ∧ s14 = .int .i64 k ∧ Bk l l3 i k ∧ l3[i]? = some f3 ∧ m = f3.code.length ∧ Al W wr Q l3 (.slice qa n qc) tq (.slice ba (an + 1) bc) (an + 1) (zs ++ [-77])) (fun i _ => m - (intOf i).toNat)
          case atStart => exact ⟨0, l2, f2, Nat.zero_le _, rfl, HI.out.1, HI.out.2.2.2.1, HI.out.2.2.2.2.2, HI.out.2.1⟩
          case round =>
            clear q0
            obtain ⟨k, l3, f3, hk, rfl, hB3, hf3, hm3, hA⟩ := hrel
            have p0 : wr.cell? ⟨Q, 0, none⟩ = some (.slice qa n qc) := (blk_cell hA.qb 0).trans rfl
            have hl3 : n = l3.length := by rw [hB3.lk.len]; exact HNL.out
            by_cases hkm : k < m
            · obtain ⟨x3, hx3⟩ : ∃ x, f3.code[k]? = some x := ⟨f3.code[k]'(by omega), by simp⟩
              obtain ⟨x, hx⟩ : ∃ x, f.code[k]? = some x := ⟨f.code[k]'(by have := HI.out.2.2.2.2.1; omega), by simp⟩
              obtain ⟨g, cb, cc, rfl, hcc, hin5, hfz, hne1, hne2, hput⟩ := hA.putK hl3 hf3 hx3
              rw [← hm3] at hcc
              have y4 := hin5.k
              have pB := hA.keep.cell HD.out (fun f => f)
              obtain ⟨pb, po, fp, pa, pc, rfl, hfp, hat⟩ := (HC.out.2.1.more hA.keep).at hin
              have efp : fp = f := by have := HI.out.2.2.1; rw [this] at hfp; exact (Option.some.inj hfp).symm
              subst efp
              have pcd := hat.code
              rw [← HI.out.2.2.2.2.1] at pcd
              obtain ⟨pcb, pco, px, hpa, hpx, hpin⟩ := hat.seen.at (k := k) (by have := HI.out.2.2.2.2.1; omega)
              subst hpa
              have epx : px = x := by rw [hx] at hpx; exact (Option.some.inj hpx).symm
              subst epx
              have pk := hpin.k
              have i6 : (k : Int) < (m : Int) := by omega
              have HX : Hid (Bk l (l3.set i { f3 with code := f3.code.set k { x3 with k := px.k } }) i (k + 1) ∧ (l3.set i { f3 with code := f3.code.set k { x3 with k := px.k } })[i]? = some { f3 with code := f3.code.set k { x3 with k := px.k } } ∧ m = ({ f3 with code := f3.code.set k { x3 with k := px.k } } : Fn).code.length ∧ Al W (wr.setCell ⟨cb, k * 5 + 4, none⟩ (.int .i64 px.k)) Q (l3.set i { f3 with code := f3.code.set k { x3 with k := px.k } }) (.slice (some ⟨g, 0, none⟩) n qc) tq (.slice ba (an + 1) bc) (an + 1) (zs ++ [-77])) :=
                ⟨hB3.put HI.out.2.2.1 hf3 hx hx3, List.getElem?_set_self (by omega), by simpa using hm3, hput px.k⟩
              clear hA hput hin5 hx hx3 hB3 hf3 hm3 hl3 hat hfp hpx hpin
              go_upto_region 28 with fail
              have zf : wr.drew.frozen? ⟨cb, k * 5 + 4, none⟩ = false := hfz
              have zc : wr.drew.cell? ⟨cb, k * 5 + 4, none⟩ = some (.int .i64 x3.k) := y4
              have zp : wr.drew.cell? ⟨Q, 0, none⟩ = some (.slice (some ⟨g, 0, none⟩) n qc) := p0
              have zg : wr.drew.cell? ⟨g, i * 4 + 3, none⟩ = some (.slice (some ⟨cb, 0, none⟩) m cc) := hcc
              have zb : wr.drew.cell? ⟨B, 0, none⟩ = some (.slice (some ⟨pb, po, none⟩) n c) := pB
              have zd : wr.drew.cell? ⟨pb, po + i * 4 + 3, none⟩ = some (.slice (some ⟨pcb, pco, none⟩) m pc) := pcd
              have zk : wr.drew.cell? ⟨pcb, pco + k * 5 + 4, none⟩ = some (.int .i64 px.k) := pk
              go_region
              all_goals clear zf zc zp zg y4 hfz hcc p0 zb zd zk pB pcd pk
              all_goals go_wp2_with fail
              all_goals exact ⟨⟨k + 1, _, _, by omega, by go_num, HX.out.1, HX.out.2.1, HX.out.2.2.1, HX.out.2.2.2.more (Keeps.drew None _)⟩, by simp [intOf]; omega⟩
            · have hkn2 : m = k := by omega
              subst hkn2
              obtain ⟨b, off, f4, ca, cc, rfl, hf4, hat⟩ := (hA.seenQ hl3).at hin
              have e4 : f4 = f3 := by rw [hf3] at hf4; exact (Option.some.inj hf4).symm
              subst e4
              have y3 := hat.code
              rw [← hm3] at y3
              have i6 : ¬ (m : Int) < (m : Int) := by omega
              have HX : Hid (Bk l l3 (i + 1) 0 ∧ Al W wr Q l3 (.slice (some ⟨b, off, none⟩) n qc) tq (.slice ba (an + 1) bc) (an + 1) (zs ++ [-77])) := ⟨hB3.next HI.out.2.2.1 (by have := HI.out.2.2.2.2.1; omega), hA⟩
              clear hl3 hB3 hf3 hm3 hA hf4 hat
              go_wp2_with fail
              exact ⟨⟨i + 1, l3, by omega, by go_num, HX.out.1, HX.out.2⟩, by simp [intOf]; omega⟩
      · have hkn2 : n = i := by omega
        subst hkn2
        have i5 : ¬ (n : Int) < (n : Int) := by omega
        have el := hB2.all (by have := HNL.out; omega)
        rw [el] at hA
        clear el
        have HA2 : Hid _ := hA
        clear hB2 hA
        go_wp2_with fail
        go_meet
        exact HA2.out
  case rest =>
    rename_i hK
    apply hK
    exact of_C a n c l aa an ac zs fuel w W wc B Q qa ba qc bc tq HC HD han hnb hcut
end Go.Proofs.YtbdpdojeaahpjaaGreatDoor
/-! DagOf: the walk, from region 10 on. -/
namespace Go.Proofs.YtbdpdojeaahpjaaGreatDoor
set_option linter.unusedVariables false
set_option maxRecDepth 20000
set_option linter.unusedSimpArgs false
open Go.RowKit Go.HeapKit Go.PlainOps

theorem bump_ok (x : Int) : okI (wrap64 (x + 1)) := wrap_ok _
set_option maxHeartbeats 8000000 in
set_option maxRecDepth 1000000 in
theorem of_B (a : Option Addr) (n c : Nat) (l : List Fn) (aa : Option Addr) (an ac : Nat) (zs : List Int) (fuel : Int) (w W w28 : World) (B Q : Nat) (qa ba : Option Addr) (qc bc : Nat) (tq : List At) (HC : Hid (Tabs W ∧ SeenF W a n l ∧ (∀ f ∈ l, f.Ok) ∧ (n * 48 ≤ 140737488351232 ∧ ∀ f ∈ l, f.code.length * 40 ≤ 140737488351232) ∧ SeenA W aa an zs ∧ Keeps None w W ∧ okI fuel ∧ an * 8 ≤ 140737488351232)) (HD : Hid (W.cell? ⟨B, 0, none⟩ = some (.slice a n c))) (han : (an : Int) ≤ 4611686018427387904) (hnb : (n : Int) ≤ 4611686018427387904) (zs1 : List Int) (HA : Hid (Al W w28 Q l (.slice qa n qc) tq (.slice ba (an + 1) bc) (an + 1) (zs1 ++ [-77]) ∧ zs1.length = an)) {u0 u4 u5 u6 u9 u10 u11 u12 u13 u14 u15 u16 u17 u18 u19 u20 u21 u22 u23 u24 u25 u26 u27 u28 u29 u30 u31 u32 u33 u34 u35 u36 u37 u38 u39 u40 u41 u42 u43 u44 u45 u46 u47 u48 u49 u50 u51 u52 u53 u54 u55 u56 u57 u58 u59 u60 u61 u62 u63 u64 u65 u66 u67 u68 u69 u70 u71 u72 u73 u74 u75 u76 u77 u78 u79 u80 u81 u82 u83 u84 u85 u86 u87 u88 u89 u90 u91 u92 u93 u94 u95 u96 u97 u98 u99 u100 u101 u102 u103 u104 u105 u106 u107 u108 u109 u110 u111 u112 u113 u114 u115 u116 u117 u118 u119 u120 u121 u122 u123 u124 u125 u126 u127 u128 u129 u130 u131 u132 u133 u134 u135 u136 u137 u138 u139 u140 u141 u142 u143 u144 u145 u146 u147 u148 u149 u150 u151 u152 u153 u154 u155 u156 u157 u158 u159 u160 u161 u162 u163 u164 u165 u166 u167 u168 u169 u170 u171 u172 u173 u174 u175 u176 u177 u178 u179 u180 u181 u182 u183 u184 u185 u186 u187 u188 u189 u190 u191 u192 u193 u194 u195 u196 u197 u198 u199 u200 u201 u202 u203 u204 u205 u206 u207 u208 u209 u210 u211 u212 u213 u214 u215 u216 u217 u218 u219 u220 u221 u222 u223 u224 u225 u226 u227 u228 u229 u230 u231 u232 u233 u234 u235 u236 u237 u238 u239 u240 u241 u242 : Value} :
    Code.wp Tryz.prog (ofTail 10) (bodyPost Tryz.prog Tryz.f3 fun e w' => e = .returned (.bool true) ∧ Keeps None w w') ⟨#[u0, .slice aa an ac, .int .i64 fuel, .pointer (some ⟨B, 0, none⟩), u4, u5, u6, .pointer (some ⟨Q, 0, none⟩), .slice ba an bc, u9, u10, u11, u12, u13, u14, u15, u16, u17, u18, u19, u20, u21, u22, u23, u24, u25, u26, u27, u28, u29, u30, u31, u32, u33, u34, u35, u36, u37, u38, u39, u40, u41, u42, u43, u44, u45, u46, u47, u48, u49, u50, u51, u52, u53, u54, u55, u56, u57, u58, u59, u60, u61, u62, u63, u64, u65, u66, u67, u68, u69, u70, u71, u72, u73, u74, u75, u76, u77, u78, u79, u80, u81, u82, u83, u84, u85, u86, u87, u88, u89, u90, u91, u92, u93, u94, u95, u96, u97, u98, u99, u100, u101, u102, u103, u104, u105, u106, u107, u108, u109, u110, u111, u112, u113, u114, u115, u116, u117, u118, u119, u120, u121, u122, u123, u124, u125, u126, u127, u128, u129, u130, u131, u132, u133, u134, u135, u136, u137, u138, u139, u140, u141, u142, u143, u144, u145, u146, u147, u148, u149, u150, u151, u152, u153, u154, u155, u156, u157, u158, u159, u160, u161, u162, u163, u164, u165, u166, u167, u168, u169, u170, u171, u172, u173, u174, u175, u176, u177, u178, u179, u180, u181, u182, u183, u184, u185, u186, u187, u188, u189, u190, u191, u192, u193, u194, u195, u196, u197, u198, u199, u200, u201, u202, u203, u204, u205, u206, u207, u208, u209, u210, u211, u212, u213, u214, u215, u216, u217, u218, u219, u220, u221, u222, u223, u224, u225, u226, u227, u228, u229, u230, u231, u232, u233, u234, u235, u236, u237, u238, u239, u240, u241, u242], []⟩ w28 := by
  conv => arg 2; whnf
  have hnl := HC.out.2.1.len
  have hzl := HC.out.2.2.2.2.1.len
  have HNL : Hid (n = l.length ∧ an = zs.length) := ⟨hnl, hzl⟩
  clear hnl hzl
  go_wp2_with fail
  go_loopw [10] (fun s10 wr => ∃ k : Nat, k ≤ an ∧ s10 = .int .i64 k ∧ Al W wr Q l (.slice qa n qc) tq (.slice ba (an + 1) bc) (an + 1) ((zs.take k ++ zs1.drop k) ++ [-77])) (fun i _ => an - (intOf i).toNat)
  case atStart => exact ⟨0, Nat.zero_le _, rfl, by simpa using HA.out.1⟩
  case round =>
    obtain ⟨k, hk, rfl, hA⟩ := hrel
    by_cases hka : k < an
    · as_aux_lemma =>
        have h1 := HNL.out.2
        have h2 := HA.out.2
        have hl5 : an + 1 = ((zs.take k ++ zs1.drop k) ++ [-77]).length := by simp; omega
        obtain ⟨x, hx⟩ : ∃ x, ((zs.take k ++ zs1.drop k) ++ [-77])[k]? = some x := ⟨((zs.take k ++ zs1.drop k) ++ [-77])[k]'(by omega), by simp⟩
        obtain ⟨g, rfl, hfz, hce, hput⟩ := hA.putB hl5 hx
        obtain ⟨y, hy⟩ : ∃ y, zs[k]? = some y := ⟨zs[k]'(by omega), by simp⟩
        obtain ⟨b, off, rfl, _, hcc⟩ := (HC.out.2.2.2.2.1.more hA.keep).ex (by omega)
        have c1 := hcc k y hy
        have i1 : (k : Int) < (an : Int) := by omega
        have em : ((zs.take k ++ zs1.drop k) ++ [-77]).set k y = (zs.take (k + 1) ++ zs1.drop (k + 1)) ++ [-77] := by
          rw [List.set_append_left _ _ (by simp; omega), List.set_append_right _ _ (by rw [List.length_take]; omega), List.length_take, Nat.min_eq_left (by omega), Nat.sub_self, List.take_add_one, hy, List.drop_eq_getElem_cons (by omega), List.set_cons_zero]
          simp
        have HX : Hid (Al W (wr.setCell ⟨g, k, none⟩ (.int .i64 y)) Q l (.slice qa n qc) tq (.slice (some ⟨g, 0, none⟩) (an + 1) bc) (an + 1) ((zs.take (k + 1) ++ zs1.drop (k + 1)) ++ [-77])) := by rw [← em]; exact hput y
        clear hA hx hput hy hcc em hl5 h1 h2
        go_wp2_with fail
        exact ⟨⟨k + 1, by omega, by go_num, HX.out⟩, by simp [intOf]; omega⟩
    · have hkn : an = k := by omega
      subst hkn
      have i1 : ¬ (an : Int) < (an : Int) := by omega
      have hA2 : Al W wr Q l (.slice qa n qc) tq (.slice ba (an + 1) bc) (an + 1) (zs ++ [-77]) := by
        have h1 := HNL.out.2
        have h2 := HA.out.2
        rw [List.take_of_length_le (by omega), List.drop_eq_nil_of_le (by omega), List.append_nil] at hA
        exact hA
      have HA2 : Hid _ := hA2
      have q00 : wr.cell? ⟨Q, 0, none⟩ = some (.slice qa n qc) := (blk_cell hA2.qb 0).trans rfl
      clear hA hA2 HA hk hka
      go_wp2_with fail
      clear q00
      go_loopw [11] (fun s11 wr => ∃ (i : Nat) (l2 : List Fn), i ≤ n ∧ s11 = .int .i64 i ∧ Lk l l2 ∧ (∀ f ∈ l2, f.Ok) ∧ Al W wr Q l2 (.slice qa n qc) tq (.slice ba (an + 1) bc) (an + 1) (zs ++ [-77])) (fun i _ => n - (intOf i).toNat)
      case atStart => exact ⟨0, l, Nat.zero_le _, rfl, Lk.refl l, HC.out.2.2.1, HA2.out⟩
      case round =>
        obtain ⟨i, l2, hi, rfl, hB2, hok2, hA⟩ := hrel
        have q0 : wr.cell? ⟨Q, 0, none⟩ = some (.slice qa n qc) := (blk_cell hA.qb 0).trans rfl
        by_cases hin : i < n
        · as_aux_lemma =>
            obtain ⟨f2, hf2⟩ : ∃ f, l2[i]? = some f := ⟨l2[i]'(by rw [hB2.len]; have := HNL.out.1; omega), by simp⟩
            obtain ⟨f, hf⟩ : ∃ f, l[i]? = some f := ⟨l[i]'(by have := HNL.out.1; omega), by simp⟩
            obtain ⟨m, hm⟩ : ∃ m, m = f2.code.length := ⟨_, rfl⟩
            have i5 : (i : Int) < (n : Int) := by omega
            have hmb : (m : Int) ≤ 4611686018427387904 := by have := HC.out.2.2.2.1.2 f (List.mem_of_getElem? hf); have := (hB2.fn i f f2 hf hf2).2.2.2; omega
            have HI : Hid (Lk l l2 ∧ Al W wr Q l2 (.slice qa n qc) tq (.slice ba (an + 1) bc) (an + 1) (zs ++ [-77]) ∧ l2[i]? = some f2 ∧ m = f2.code.length ∧ ∀ f ∈ l2, f.Ok) := ⟨hB2, hA, hf2, hm, hok2⟩
            clear hB2 hA hf2 hm hok2 hf
            go_wp2_with fail
            go_loopw [12] (fun s12 wr => ∃ (k : Nat) (l3 : List Fn) (f3 : Fn), k ≤ m ∧ s12 = .int .i64 k ∧ Lk l l3 ∧ (∀ f ∈ l3, f.Ok) ∧ l3[i]? = some f3 ∧ m = f3.code.length ∧ Al W wr Q l3 (.slice qa n qc) tq (.slice ba (an + 1) bc) (an + 1) (zs ++ [-77])) (fun i _ => m - (intOf i).toNat)
            case atStart => exact ⟨0, l2, f2, Nat.zero_le _, rfl, HI.out.1, HI.out.2.2.2.2, HI.out.2.2.1, HI.out.2.2.2.1, HI.out.2.1⟩
            case round =>
              clear q0
              obtain ⟨k, l3, f3, hk, rfl, hB3, hok3, hf3, hm3, hA⟩ := hrel
              have p0 : wr.cell? ⟨Q, 0, none⟩ = some (.slice qa n qc) := (blk_cell hA.qb 0).trans rfl
              have hl3 : n = l3.length := by rw [hB3.len]; exact HNL.out.1
              by_cases hkm : k < m
              · obtain ⟨x3, hx3⟩ : ∃ x, f3.code[k]? = some x := ⟨f3.code[k]'(by omega), by simp⟩
                obtain ⟨g, cb, cc, rfl, hcc, hin5, hfz, hne1, hne2, hput⟩ := hA.putK hl3 hf3 hx3
                rw [← hm3] at hcc
                have y4 := hin5.k
                have i6 : (k : Int) < (m : Int) := by omega
                have HX : Hid (∀ y, okI y → Lk l (l3.set i { f3 with code := f3.code.set k { x3 with k := y } }) ∧ (∀ f ∈ l3.set i { f3 with code := f3.code.set k { x3 with k := y } }, f.Ok) ∧ (l3.set i { f3 with code := f3.code.set k { x3 with k := y } })[i]? = some { f3 with code := f3.code.set k { x3 with k := y } } ∧ m = ({ f3 with code := f3.code.set k { x3 with k := y } } : Fn).code.length ∧ Al W (wr.setCell ⟨cb, k * 5 + 4, none⟩ (.int .i64 y)) Q (l3.set i { f3 with code := f3.code.set k { x3 with k := y } }) (.slice (some ⟨g, 0, none⟩) n qc) tq (.slice ba (an + 1) bc) (an + 1) (zs ++ [-77])) := fun y hy =>
                  ⟨hB3.put hf3 hx3 y, putK_ok hok3 hf3 hx3 hy, List.getElem?_set_self (by omega), by simpa using hm3, hput y⟩
                clear hA hput hin5 hx3 hB3 hf3 hm3 hl3 hok3
                go_upto_region 20 with fail
                have zf : wr.drew.frozen? ⟨cb, k * 5 + 4, none⟩ = false := hfz
                have zc : wr.drew.cell? ⟨cb, k * 5 + 4, none⟩ = some (.int .i64 x3.k) := y4
                have zp : wr.drew.cell? ⟨Q, 0, none⟩ = some (.slice (some ⟨g, 0, none⟩) n qc) := p0
                have zg : wr.drew.cell? ⟨g, i * 4 + 3, none⟩ = some (.slice (some ⟨cb, 0, none⟩) m cc) := hcc
                go_region
                all_goals clear zf zc zp zg y4 hfz hcc p0
                all_goals go_wp2_with fail
                all_goals (have q := HX.out _ (bump_ok x3.k); exact ⟨⟨k + 1, _, _, by omega, by go_num, q.1, q.2.1, q.2.2.1, q.2.2.2.1, q.2.2.2.2.more (Keeps.drew None _)⟩, by simp [intOf]; omega⟩)
              · have hkn2 : m = k := by omega
                subst hkn2
                obtain ⟨b, off, f4, ca, cc, rfl, hf4, hat⟩ := (hA.seenQ hl3).at hin
                have e4 : f4 = f3 := by rw [hf3] at hf4; exact (Option.some.inj hf4).symm
                subst e4
                have y3 := hat.code
                rw [← hm3] at y3
                have i6 : ¬ (m : Int) < (m : Int) := by omega
                have HX : Hid (Lk l l3 ∧ (∀ f ∈ l3, f.Ok) ∧ Al W wr Q l3 (.slice (some ⟨b, off, none⟩) n qc) tq (.slice ba (an + 1) bc) (an + 1) (zs ++ [-77])) := ⟨hB3, hok3, hA⟩
                clear hl3 hB3 hf3 hm3 hA hf4 hat hok3
                go_wp2_with fail
                exact ⟨⟨i + 1, l3, by omega, by go_num, HX.out.1, HX.out.2.1, HX.out.2.2⟩, by simp [intOf]; omega⟩
        · have hkn2 : n = i := by omega
          subst hkn2
          have i5 : ¬ (n : Int) < (n : Int) := by omega
          have hzo := HC.out.2.2.2.2.1.ok
          obtain ⟨gb, hgb, hsb, hmk, hcap⟩ := mark_seen hA.brow HNL.out.2 (by omega) hzo
          subst hgb
          have hof := of_any qa n qc l2 (some ⟨gb, 0, none⟩) an bc zs fuel wr (HC.out.1.more hA.keep) (hA.seenQ (by rw [hB2.len]; exact HNL.out.1)) hok2 hsb hzo (by omega) HC.out.2.2.2.2.2.2.1
          have HOF : Hid (Calls Tryz.prog 5 #[.agg #[.slice qa n qc], .slice (some ⟨gb, 0, none⟩) an bc, .int .i64 fuel] wr (fun e w' => (∃ v, e = .returned v) ∧ Keeps None wr w')) := Calls.mono hof (fun e w' h => by obtain ⟨ea, ec, he, _, hk⟩ := of_one h; exact ⟨⟨_, he⟩, hk⟩)
          have HA3 : Hid (Al W wr Q l2 (.slice qa n qc) tq (.slice (some ⟨gb, 0, none⟩) (an + 1) bc) (an + 1) (zs ++ [-77]) ∧ Lk l l2 ∧ ∀ f ∈ l2, f.Ok) := ⟨hA, hB2, hok2⟩
          clear hB2 hok2 hA hof hsb hmk hcap hzo HA2
          go_upto_region 21 with fail
          go_cut [104] (fun s104 wx => Keeps None wr wx)
          case first =>
            go_wp2_with (go_at_call 5; refine Calls.mono HOF.out ?_; rintro _ w21 ⟨⟨v, rfl⟩, hk21⟩)
            go_meet
            exact hk21
          case rest =>
            rename_i hK
            apply hK
            exact of_B2 a n c l aa an ac zs fuel w W wc B Q qa (some ⟨gb, 0, none⟩) qc bc tq HC HD han hnb l2 ⟨HA3.out.1.more hcut, HA3.out.2⟩
end Go.Proofs.YtbdpdojeaahpjaaGreatDoor
