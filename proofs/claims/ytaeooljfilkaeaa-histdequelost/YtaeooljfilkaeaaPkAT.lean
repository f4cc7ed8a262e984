import Derived.Test.YtaeooljfilkaeaaRows
import Derived.WalkKit
import Derived.ProofKit
import Derived.OpenShut
import Derived.SizedLaws
import Derived.ShutString
import Derived.ChangeOld
import Derived.Below
import Derived.Carry
import Derived.Test.YtaeooljfilkaeaaPkAS
import Derived.Test.YtaeooljfilkaeaaPkAP
namespace Go.Proofs.Ytaeooljfilkaeaa.histDequeLost
open Go.ChangeShapes Go.WideShapes Go.ChangeAt Go.RowKit Go.HeapKit
set_option linter.unusedVariables false

theorem own : ownKnob Try.prog.godebug = none := by kernel_rfl
theorem laidOut : laidOutB Try.prog = true := by kernel_rfl

/-- A slice of numbers that came in. -/
def IsRow (k : IntKind) (w : World) (a : Option Addr) (len cap : Nat) (zs : List Int) : Prop :=
  (a = none ∧ len = 0 ∧ cap = 0 ∧ zs = []) ∨
  ∃ x, a = some x ∧ len ≤ cap ∧ cap ≤ maxLen ∧ zs.length = cap ∧ (∀ i, i < zs.length → w.cell? (x.add i) = some (.int k (zs.getD i 0))) ∧ ∀ n ∈ zs, (Lit.int k n).wf = true

theorem walk (f0 m0 : Int) (a0 : Option Addr) (n0 c0 : Nat) (l0 : List Tod) (t0 : Int) (b0 : Option Addr) (k0 d0 : Nat) (z0 : List Int) (w : World) (s0 : n0 = l0.length) (u0 : TodoAt w a0 l0) (e0 : n0 ≤ c0) (q0 : k0 = z0.length) (r0 : Ints w b0 z0) :
    Calls Try.prog 5 #[.agg #[.int .i64 f0, .int .i64 m0, .slice a0 n0 c0, .int .i64 t0, .slice b0 k0 d0]] w fun e w' => e = .returned (.bool true) ∧ Below w.heap.size w w' := by
  exact lost_walk f0 m0 a0 n0 c0 l0 t0 b0 k0 d0 z0 w s0 u0 q0 r0

set_option maxRecDepth 100000 in
theorem lifted (os : Os) (started : os.Started) (H : Type) (enc : TypeId × Value → H) :
    ReturnsInHanded {} Try.checked os 5 .any (Rows.histDequeLostSpec.pre6 enc Try.prog Try.f5 Rows.histDequeLostRow.domain false) (Rows.histDequeLostSpec.post enc Try.prog Try.f5 false true false false) := by
  refine returnsInHanded_of_change_sized (C := Try.checked) own started (by kernel_rfl) Try.func5
    (ChangeSpec.witness6 (enc := enc) (C := Try.checked) false ⟨#[], #[.agg #[.int .i64 0, .int .i64 0, .slice none 0 0, .int .i64 0, .slice none 0 0]], []⟩ 8 (by kernel_rfl) (by kernel_rfl) (by kernel_rfl) (by kernel_rfl)) ?_
  intro W base args ds gs before hval0 hW hcnd hsz0 _
  have hsz : (DataW.weightsEach Try.prog (Try.f5.params.toList ++ Rows.histDequeLostSpec.plain.varTypes Try.prog) (ds ++ gs)).all (· ≤ reachBytes) = true := hsz0
  clear hsz0
  have hval : ∀ (j : Nat) t v, Try.f5.params[j]? = some t → args[j]? = some v → Value.okWide Try.prog W .any base t v := hval0
  have hW' := hW
  obtain ⟨p, q, hA0, hV, rfl, hfz, hnd⟩ := hW
  have hA : DataW.TrodAll enc Try.prog W 0 (fun _ => true) true Try.f5.params.toList args.toList ds p := hA0
  rw [Try.params5] at hA hval hsz
  obtain ⟨v0, vs0, d0, ds0, p0, q0, hargs, rfl, rfl, h0, tr0⟩ := trodAll_cons hA
  obtain ⟨rfl, rfl, rfl⟩ := trodAll_nil tr0
  obtain rfl : args = #[v0] := by cases args; simp_all
  obtain ⟨rfl, rfl⟩ := trodVars_none hV
  have k0 := h0
  have lt0 : ∀ x ∈ p0, x.block < W.heap.size := by obtain ⟨m, hm⟩ := k0; exact DataW.trod_lt m _ _ _ hm
  obtain ⟨f0, m0, a0, n0, c0, l0, t0, b0, kk0, d00, z0, rfl, -, -, -, s0, u0, -, e0, q0, r0, -, -⟩ := open_game (hval 0 25 v0 rfl rfl) h0
  clear hA0 hval0
  refine (walk f0 m0 a0 n0 c0 l0 t0 b0 kk0 d00 z0 W s0 u0 e0 q0 r0).mono fun e W' ⟨he, bel⟩ => ?_
  subst he
  exact ⟨_, rfl, _, _, _, [], _, [], hW', trodAll_mk1 (shut_bool Try.underlying4 _), (trodAll_cons_mk (Below.trod laidOut (by kernel_rfl) (of_decide_eq_true (by kernel_rfl)) k0 bel lt0) trodAll_mk0), rfl, bel.frame _, fun h => by cases h⟩

theorem over : Rows.histDequeLostRow.holds Try.pinned (OpenSpec.ofChange Rows.histDequeLostSpec) :=
  OpenClaim.holds_of_wide 5 Try.f5 rfl rfl rfl rfl rfl rfl rfl ⟨rfl, rfl, rfl, rfl, rfl⟩ rfl rfl rfl rfl rfl (by kernel_rfl) Try.func5 (by kernel_rfl)
    (of_decide_eq_true (by kernel_rfl)) (by unfold Func.isWrapper; first | (rw [if_pos (by decide +kernel)]; kernel_rfl) | (rw [if_neg (by decide +kernel)]; exact ⟨rfl, rfl⟩))
    (fun os started H enc _ => lifted os started H enc)
end Go.Proofs.Ytaeooljfilkaeaa.histDequeLost
namespace Go.Proofs.Ytaeooljfilkaeaa
theorem histDequeLost_holds : Rows.HistDequeLostSaid := histDequeLost.over
#print axioms histDequeLost_holds
end Go.Proofs.Ytaeooljfilkaeaa
