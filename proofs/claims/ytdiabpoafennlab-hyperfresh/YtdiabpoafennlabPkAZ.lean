import Derived.Test.YtdiabpoafennlabRows
import Derived.WalkKit
import Derived.ProofKit
import Derived.OpenShut
import Derived.SizedLaws
import Derived.ShutString
import Derived.ChangeOld
import Derived.Below
import Derived.Carry
import Derived.Test.YtdiabpoafennlabPkAY
import Derived.Test.YtdiabpoafennlabPkAR
namespace Go.Proofs.Ytdiabpoafennlab.hyperFresh
open Go.ChangeShapes Go.WideShapes Go.ChangeAt Go.RowKit Go.HeapKit
set_option linter.unusedVariables false

theorem own : ownKnob Try.prog.godebug = none := by kernel_rfl
theorem laidOut : laidOutB Try.prog = true := by kernel_rfl

/-- A slice of numbers that came in. -/
def IsRow (k : IntKind) (w : World) (a : Option Addr) (len cap : Nat) (zs : List Int) : Prop :=
  (a = none ∧ len = 0 ∧ cap = 0 ∧ zs = []) ∨
  ∃ x, a = some x ∧ len ≤ cap ∧ cap ≤ maxLen ∧ zs.length = cap ∧ (∀ i, i < zs.length → w.cell? (x.add i) = some (.int k (zs.getD i 0))) ∧ ∀ n ∈ zs, (Lit.int k n).wf = true

theorem walk (a0 : Option Addr) (n0 c0 : Nat) (l0 : List Dd) (b0 : Option Addr) (m0 d0 : Nat) (st0 : List Bool) (e0 : Option Addr) (k0 f0 : Nat) (pk0 : List Int) (w : World) (s0 : Seen w a0 n0 l0) (t0 : SeenV w b0 m0 (bv' st0)) (u0 : SeenV w e0 k0 (iv pk0)) (q0 : k0 ≤ f0) (oD0 : ∀ i ∈ l0, okD i) (oP0 : ∀ i ∈ pk0, okG i) (r0 : n0 * 16 ≤ 140737488351232 ∧ m0 ≤ 140737488351232 ∧ k0 * 8 ≤ 140737488351232) :
    Calls Try.prog 5 #[.agg #[.slice a0 n0 c0, .slice b0 m0 d0, .slice e0 k0 f0]] w fun e w' => e = .returned (.bool true) ∧ Below w.heap.size w w' := by
  exact Rn.hyperFresh_walk a0 b0 e0 n0 c0 m0 d0 k0 f0 l0 st0 pk0 w s0 t0 u0 q0 oD0 r0.1 r0.2.1 r0.2.2

set_option maxRecDepth 100000 in
theorem lifted (os : Os) (started : os.Started) (H : Type) (enc : TypeId × Value → H) :
    ReturnsInHanded {} Try.checked os 5 .any (Rows.hyperFreshSpec.pre6 enc Try.prog Try.f5 Rows.hyperFreshRow.domain false) (Rows.hyperFreshSpec.post enc Try.prog Try.f5 false true false false) := by
  refine returnsInHanded_of_change_sized (C := Try.checked) own started (by kernel_rfl) Try.func5
    (ChangeSpec.witness6 (enc := enc) (C := Try.checked) false ⟨#[], #[.agg #[.slice none 0 0, .slice none 0 0, .slice none 0 0]], []⟩ 8 (by kernel_rfl) (by kernel_rfl) (by kernel_rfl) (by kernel_rfl)) ?_
  intro W base args ds gs before hval0 hW hcnd hsz0 _
  have hsz : (DataW.weightsEach Try.prog (Try.f5.params.toList ++ Rows.hyperFreshSpec.plain.varTypes Try.prog) (ds ++ gs)).all (· ≤ reachBytes) = true := hsz0
  clear hsz0
  have hval : ∀ (j : Nat) t v, Try.f5.params[j]? = some t → args[j]? = some v → Value.okWide Try.prog W .any base t v := hval0
  have hW' := hW
  obtain ⟨p, q, hA0, hV, rfl, hfz, hnd⟩ := hW
  have hA : DataW.TrodAll enc Try.prog W 0 (fun _ => true) true Try.f5.params.toList args.toList ds p := hA0
  rw [Try.params5] at hA hval hsz
  obtain ⟨v0, vs0, d0, ds0, p0, q0, hargs, rfl, rfl, h0, tr0⟩ := trodAll_cons hA
  obtain ⟨rfl, rfl, rfl⟩ := trodAll_nil tr0
  obtain rfl : args = #[v0] := by cases args; simp_all
  obtain ⟨rfl, rfl⟩ := trodVars_none hV
  have k0 := h0
  have lt0 : ∀ x ∈ p0, x.block < W.heap.size := by obtain ⟨m, hm⟩ := k0; exact DataW.trod_lt m _ _ _ hm
  obtain ⟨a0, n0, c0, l0, b0, m0, dd0, st0, e0, kk0, f0, pk0, rfl, s0, t0, u0, -, -, q0, oD0, oP0, r0⟩ := open_hgame (hval 0 26 v0 rfl rfl) h0
  have r0 : n0 * 16 ≤ 140737488351232 ∧ m0 ≤ 140737488351232 ∧ kk0 * 8 ≤ 140737488351232 := r0 (weights_at hsz (j := 0) rfl rfl)
  clear hA0 hval0
  refine (walk a0 n0 c0 l0 b0 m0 dd0 st0 e0 kk0 f0 pk0 W s0 t0 u0 q0 oD0 oP0 r0).mono fun e W' ⟨he, bel⟩ => ?_
  subst he
  exact ⟨_, rfl, _, _, _, [], _, [], hW', trodAll_mk1 (shut_bool Try.underlying4 _), (trodAll_cons_mk (Below.trod laidOut (by kernel_rfl) (of_decide_eq_true (by kernel_rfl)) k0 bel lt0) trodAll_mk0), rfl, bel.frame _, fun h => by cases h⟩

theorem over : Rows.hyperFreshRow.holds Try.pinned (OpenSpec.ofChange Rows.hyperFreshSpec) :=
  OpenClaim.holds_of_wide 5 Try.f5 rfl rfl rfl rfl rfl rfl rfl ⟨rfl, rfl, rfl, rfl, rfl⟩ rfl rfl rfl rfl rfl (by kernel_rfl) Try.func5 (by kernel_rfl)
    (of_decide_eq_true (by kernel_rfl)) (by unfold Func.isWrapper; first | (rw [if_pos (by decide +kernel)]; kernel_rfl) | (rw [if_neg (by decide +kernel)]; exact ⟨rfl, rfl⟩))
    (fun os started H enc _ => lifted os started H enc)
end Go.Proofs.Ytdiabpoafennlab.hyperFresh
namespace Go.Proofs.Ytdiabpoafennlab
theorem hyperFresh_holds : Rows.HyperFreshSaid := hyperFresh.over
#print axioms hyperFresh_holds
end Go.Proofs.Ytdiabpoafennlab
