import Derived.Test.YtdiabpoafennlabRows
import Derived.WalkKit
import Derived.ProofKit
import Derived.OpenShut
import Derived.SizedLaws
import Derived.ShutString
import Derived.ChangeOld
import Derived.Below
import Derived.Carry
import Derived.Test.YtdiabpoafennlabPkAY
import Derived.Test.YtdiabpoafennlabPkAX
namespace Go.Proofs.Ytdiabpoafennlab.hyperFold
open Go.ChangeShapes Go.WideShapes Go.ChangeAt Go.RowKit Go.HeapKit
set_option linter.unusedVariables false

theorem own : ownKnob Try.prog.godebug = none := by kernel_rfl
theorem laidOut : laidOutB Try.prog = true := by kernel_rfl

/-- A slice of numbers that came in. -/
def IsRow (k : IntKind) (w : World) (a : Option Addr) (len cap : Nat) (zs : List Int) : Prop :=
  (a = none ∧ len = 0 ∧ cap = 0 ∧ zs = []) ∨
  ∃ x, a = some x ∧ len ≤ cap ∧ cap ≤ maxLen ∧ zs.length = cap ∧ (∀ i, i < zs.length → w.cell? (x.add i) = some (.int k (zs.getD i 0))) ∧ ∀ n ∈ zs, (Lit.int k n).wf = true

theorem walk (a0 : Int) (a1 : Option Addr) (n1 c1 : Nat) (l1 : List Dd) (b1 : Option Addr) (m1 d1 : Nat) (st1 : List Bool) (e1 : Option Addr) (k1 f1 : Nat) (pk1 : List Int) (w : World) (w0 : (Lit.int .i64 a0).wf = true) (s1 : Seen w a1 n1 l1) (t1 : SeenV w b1 m1 (bv' st1)) (u1 : SeenV w e1 k1 (iv pk1)) (q1 : k1 ≤ f1) (oD1 : ∀ i ∈ l1, okD i) (oP1 : ∀ i ∈ pk1, okG i) (r1 : n1 * 16 ≤ 140737488351232 ∧ m1 ≤ 140737488351232 ∧ k1 * 8 ≤ 140737488351232) :
    Calls Try.prog 4 #[.int .i64 a0, .agg #[.slice a1 n1 c1, .slice b1 m1 d1, .slice e1 k1 f1]] w fun e w' => e = .returned (.bool true) ∧ Below w.heap.size w w' := by
  exact Rn.hyperFold_walk a0 a1 b1 e1 n1 c1 m1 d1 k1 f1 l1 st1 pk1 w s1 t1 u1 q1 oD1 r1.1 r1.2.1 r1.2.2

set_option maxRecDepth 100000 in
theorem lifted (os : Os) (started : os.Started) (H : Type) (enc : TypeId × Value → H) :
    ReturnsInHanded {} Try.checked os 4 .any (Rows.hyperFoldSpec.pre6 enc Try.prog Try.f4 Rows.hyperFoldRow.domain false) (Rows.hyperFoldSpec.post enc Try.prog Try.f4 false true false false) := by
  refine returnsInHanded_of_change_sized (C := Try.checked) own started (by kernel_rfl) Try.func4
    (ChangeSpec.witness6 (enc := enc) (C := Try.checked) false ⟨#[], #[.int .i64 0, .agg #[.slice none 0 0, .slice none 0 0, .slice none 0 0]], []⟩ 8 (by kernel_rfl) (by kernel_rfl) (by kernel_rfl) (by kernel_rfl)) ?_
  intro W base args ds gs before hval0 hW hcnd hsz0 _
  have hsz : (DataW.weightsEach Try.prog (Try.f4.params.toList ++ Rows.hyperFoldSpec.plain.varTypes Try.prog) (ds ++ gs)).all (· ≤ reachBytes) = true := hsz0
  clear hsz0
  have hval : ∀ (j : Nat) t v, Try.f4.params[j]? = some t → args[j]? = some v → Value.okWide Try.prog W .any base t v := hval0
  have hW' := hW
  obtain ⟨p, q, hA0, hV, rfl, hfz, hnd⟩ := hW
  have hA : DataW.TrodAll enc Try.prog W 0 (fun _ => true) true Try.f4.params.toList args.toList ds p := hA0
  rw [Try.params4] at hA hval hsz
  obtain ⟨v0, vs0, d0, ds0, p0, q0, hargs, rfl, rfl, h0, tr0⟩ := trodAll_cons hA
  obtain ⟨v1, vs1, d1, ds1, p1, q1, rfl, rfl, rfl, h1, tr1⟩ := trodAll_cons tr0
  obtain ⟨rfl, rfl, rfl⟩ := trodAll_nil tr1
  obtain rfl : args = #[v0, v1] := by cases args; simp_all
  obtain ⟨rfl, rfl⟩ := trodVars_none hV
  obtain ⟨a0, rfl, rfl, rfl, w0⟩ := open_int Try.underlying3 (hval 0 3 v0 rfl rfl) h0
  have k1 := h1
  have lt1 : ∀ x ∈ p1, x.block < W.heap.size := by obtain ⟨m, hm⟩ := k1; exact DataW.trod_lt m _ _ _ hm
  obtain ⟨a1, n1, c1, l1, b1, m1, dd1, st1, e1, kk1, f1, pk1, rfl, s1, t1, u1, -, -, q1, oD1, oP1, r1⟩ := open_hgame (hval 1 26 v1 rfl rfl) h1
  have r1 : n1 * 16 ≤ 140737488351232 ∧ m1 ≤ 140737488351232 ∧ kk1 * 8 ≤ 140737488351232 := r1 (weights_at hsz (j := 1) rfl rfl)
  clear hA0 hval0
  refine (walk a0 a1 n1 c1 l1 b1 m1 dd1 st1 e1 kk1 f1 pk1 W w0 s1 t1 u1 q1 oD1 oP1 r1).mono fun e W' ⟨he, bel⟩ => ?_
  subst he
  exact ⟨_, rfl, _, _, _, [], _, [], hW', trodAll_mk1 (shut_bool Try.underlying4 _), (trodAll_cons_mk (shut_int Try.underlying3 w0) (trodAll_cons_mk (Below.trod laidOut (by kernel_rfl) (of_decide_eq_true (by kernel_rfl)) k1 bel lt1) trodAll_mk0)), rfl, bel.frame _, fun h => by cases h⟩

theorem over : Rows.hyperFoldRow.holds Try.pinned (OpenSpec.ofChange Rows.hyperFoldSpec) :=
  OpenClaim.holds_of_wide 4 Try.f4 rfl rfl rfl rfl rfl rfl rfl ⟨rfl, rfl, rfl, rfl, rfl⟩ rfl rfl rfl rfl rfl (by kernel_rfl) Try.func4 (by kernel_rfl)
    (of_decide_eq_true (by kernel_rfl)) (by unfold Func.isWrapper; first | (rw [if_pos (by decide +kernel)]; kernel_rfl) | (rw [if_neg (by decide +kernel)]; exact ⟨rfl, rfl⟩))
    (fun os started H enc _ => lifted os started H enc)
end Go.Proofs.Ytdiabpoafennlab.hyperFold
namespace Go.Proofs.Ytdiabpoafennlab
theorem hyperFold_holds : Rows.HyperFoldSaid := hyperFold.over
#print axioms hyperFold_holds
end Go.Proofs.Ytdiabpoafennlab
