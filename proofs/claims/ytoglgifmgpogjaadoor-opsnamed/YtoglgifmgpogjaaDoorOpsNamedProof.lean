import Derived.Test.YtoglgifmgpogjaaDoorRows
import Derived.Test.YtoglgifmgpogjaaDoorCards
import Derived.Test.YtoglgifmgpogjaaDoorTie
import Derived.SevenTiedAt
import Derived.WalkKit
import Derived.ProofKit
import Derived.OpenShut
import Derived.Test.YtoglgifmgpogjaaDoorNamesLaid
import Derived.ShutString
namespace Go.Proofs.YtoglgifmgpogjaaDoor.opsNamed
open Go.PlainOps
open Go.ChangeShapes Go.WideShapes Go.ChangeAt Go.RowKit
open Go.ChangeMaps (open_string shut_string)
set_option linter.unusedVariables false      -- a walk need not use every 'w<i>' (that an integer argument fits its kind)

theorem own : ownKnob Tryd.prog.godebug = none := by kernel_rfl

/-! ### STEP 1: THE WALK: the Go text returns true. 'Grown w w'': the world has at most new blocks (Derived/RowKit3.lean). Part the cases AHEAD of 'go_enter' where a test parts the walk; take each callee by a contract of your own. -/
theorem walk  (w : World) (hN : NamesAre w) :
    Calls Tryd.prog 3 #[] w fun e w' => e = .returned (.bool true) ∧ Grown w w' := by
  have f0 := findV_empty
  go_enter Tryd.func3, Tryd.ntmps3
  go_wp2
  go_loop [1] (fun i => ∃ k : Nat, k ≤ 16 ∧ i = .int .i64 k) (fun i => 16 - (intOf i).toNat)
  case atStart => exact ⟨0, by omega, rfl⟩
  case round =>
    obtain ⟨k, hk, rfl⟩ := hrel
    by_cases hlt : k < 16
    · have e1 : nameV k = nmS k := by unfold nameV; rw [if_pos (by omega)]; simp
      have e2 := findV_nm k hlt
      have e3 : ((nmS k).toList == ByteArray.toList ⟨#[]⟩) = false := by rw [str_eq]; exact decide_eq_false (nmS_ne k hlt)
      have e4 : (nmS k).toList.isEmpty = false := by
        have := nmS_ne k hlt
        cases h : (nmS k).toList with
        | nil => exact absurd (Go.WideShapes.bytes_inj (by rw [← ByteArray.toList_eq, h])) this
        | cons _ _ => rfl
      go_wp2_with (first | (go_at_call 6; refine (name_any _ _ hN).mono ?_; rintro e w' ⟨rfl, rfl⟩) | (go_at_call 7; refine (find_any _ _ hN).mono ?_; rintro e w' ⟨rfl, rfl⟩))
      go_round
      case rel => exact ⟨k + 1, by omega, by go_num⟩
      case measure => simp [intOf]; omega
    · have n1 : nameV 16 = ⟨#[]⟩ := rfl
      have n2 : nameV (-1) = ⟨#[]⟩ := rfl
      go_wp2_with (first | (go_at_call 6; refine (name_any _ _ hN).mono ?_; rintro e w' ⟨rfl, rfl⟩) | (go_at_call 7; refine (find_any _ _ hN).mono ?_; rintro e w' ⟨rfl, rfl⟩))
      go_ret
      exact ⟨rfl, Grown.refl _⟩

/-! ### THE ROW's STEP: WRITTEN OUT: LEAVE IT -/
set_option maxRecDepth 100000 in
theorem lifted (os : Os) (started : os.Started) (H : Type) (enc : TypeId × Value → H) :
    ReturnsInHanded {} Tryd.checked os 3 .any (fun w args => (Rows.opsNamedSpec.pre enc Tryd.prog Tryd.f3 [] false w args ∧ laidMetH Tryd.prog laidL w) ∧ sizedMet enc Tryd.prog Tryd.f3 (OpenSpec.ofChange Rows.opsNamedSpec) false w args) (Rows.opsNamedSpec.post enc Tryd.prog Tryd.f3 false true false false) := by
  refine returnsInHanded_of_change_and (C := Tryd.checked) (X := fun w _ => laidMetH Tryd.prog laidL w) (fun _ _ _ hh h => h.of_heap hh) own started (by kernel_rfl) Tryd.func3
    (ChangeSpec.witness_shaped (enc := enc) (C := Tryd.checked) (os := os) (X := fun w _ => laidMetH Tryd.prog laidL w) false (World.doorLaid Tryd.prog 400 os) #[] 8 rfl (World.shaped_of_RefB (by kernel_rfl) (by kernel_rfl)) (by kernel_rfl) (by kernel_rfl) (by kernel_rfl) (door_met os _)) ?_
  intro W base args ds gs before hval0 hW _ _ hL _
  have hval : ∀ (j : Nat) t v, Tryd.f3.params[j]? = some t → args[j]? = some v → Value.okWide Tryd.prog W .any base t v := hval0
  have hW' := hW
  obtain ⟨p, q, hA0, hV, rfl, hfz, hnd⟩ := hW
  have hA : DataW.TrodAll enc Tryd.prog W 0 (fun _ => true) true Tryd.f3.params.toList args.toList ds p := hA0
  rw [Tryd.params3] at hA hval
  obtain ⟨rfl, rfl, rfl⟩ := trodAll_none hA
  obtain ⟨rfl, rfl⟩ := trodVars_none hV
  clear hA0 hval0
  simp only [List.append_nil] at hW'
  refine (walk  W (of_laid hL)).mono fun e W' ⟨he, hg⟩ => ?_
  subst he
  exact ⟨_, rfl, post_of_same (pa := []) (pv := []) hW' (fun _ _ _ => (trodAll_cons_mk (shut_bool Tryd.underlying4 _) trodAll_mk0)) (fun sp _ => rfl) (fun _ _ => rfl) rfl
    (hg.frame _) hg.2.1 (ok_one (by kernel_rfl) rfl (okWide_bool_mk Tryd.underlying4 _))⟩

theorem over : Rows.opsNamedRow.holds Tryd.pinned (OpenSpec.ofChange Rows.opsNamedSpec) :=
  OpenClaim.holds_of_wide 3 Tryd.f3 rfl rfl rfl rfl rfl rfl rfl ⟨rfl, rfl, rfl, rfl, rfl⟩ rfl rfl rfl rfl rfl (by kernel_rfl) Tryd.func3 (by kernel_rfl)
    (of_decide_eq_true (by kernel_rfl)) (by unfold Func.isWrapper; first | (rw [if_pos (by decide +kernel)]; kernel_rfl) | (rw [if_neg (by decide +kernel)]; exact ⟨rfl, rfl⟩))
    (fun os started H enc _ => lifted os started H enc)

/-- THE STATEMENT -/
theorem proved : Rows.OpsNamedSaid :=
  over
end Go.Proofs.YtoglgifmgpogjaaDoor.opsNamed
namespace Go.Proofs.YtoglgifmgpogjaaDoor
theorem opsNamed_holds : Rows.OpsNamedSaid := opsNamed.proved
#print axioms opsNamed_holds
theorem opsNamed_card : Rows.OpsNamedCardSaid :=
  Claim7.holds_tied_plain_at .later [] [.data] true (true, "13849dbd1b0a74f207b6275955c26fe03027324d5e2c83d882f757b2084b6662") false
    opsNamed_holds (fun _ h => by cases h) (by kernel_rfl) (fun _ h => by cases h) opsNamed_row_tie rfl ⟨rfl, rfl⟩ (by kernel_rfl) rfl
    (fun f fn hf hfn => by
      obtain rfl : f = 3 := Option.some.inj ((show Tryd.prog.funcNamed "plunder/plunderlaw1.OpsNamed" = some 3 by kernel_rfl).symm.trans hf) |>.symm
      obtain rfl : fn = Tryd.f3 := (Option.some.inj (Tryd.func3.symm.trans hfn)).symm
      exact ⟨by kernel_rfl, fun j t ht => by
        rw [Tryd.params3] at ht
        simp at ht⟩)
    (by kernel_rfl)
#print axioms opsNamed_card
end Go.Proofs.YtoglgifmgpogjaaDoor
