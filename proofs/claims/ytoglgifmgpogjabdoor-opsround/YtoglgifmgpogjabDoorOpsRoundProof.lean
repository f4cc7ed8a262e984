import Derived.Test.YtoglgifmgpogjabDoorRows
import Derived.Test.YtoglgifmgpogjabDoorCards
import Derived.Test.YtoglgifmgpogjabDoorTie
import Derived.SevenTiedAt
import Derived.WalkKit
import Derived.ProofKit
import Derived.OpenShut
import Derived.Test.YtoglgifmgpogjabDoorRoundWalks
import Derived.ShutString
namespace Go.Proofs.YtoglgifmgpogjabDoor.opsRound
open Go.PlainOps
open Go.ChangeShapes Go.WideShapes Go.ChangeAt Go.RowKit
open Go.ChangeMaps (open_string shut_string)
set_option linter.unusedVariables false      -- a walk need not use every 'w<i>' (that an integer argument fits its kind)

theorem own : ownKnob Tryd.prog.godebug = none := by kernel_rfl

/-! ### STEP 1: THE WALK: the Go text returns true. 'Grown w w'': the world has at most new blocks (Derived/RowKit3.lean). Part the cases AHEAD of 'go_enter' where a test parts the walk; take each callee by a contract of your own. -/
theorem walk (a0 : Int) (a1 : ByteArray) (w0 : (Lit.int .i64 a0).wf = true) (w1 : a1.size ≤ maxLen) (w : World) (hN : PowIs w) :
    Calls Tryd.prog 3 #[.int .i64 a0, .string a1] w fun e w' => e = .returned (.bool true) ∧ Below w.heap.size w w' := by
  obtain ⟨b0, b0'⟩ := bounds_i64 w0
  have HN : Hid (PowIs w) := hN
  have HV : Hid (I64 a0) := ⟨b0, b0'⟩
  clear w0 w1 hN
  have hl : (⟨(Lib.itoa a0).toArray⟩ : ByteArray).size ≤ 20 := by rw [str_size]; exact itoa_len a0 HV.out
  have hl' : ((⟨(Lib.itoa a0).toArray⟩ : ByteArray).size : Int) ≤ 20 := by omega
  have he : (⟨(Lib.itoa a0).toArray⟩ : ByteArray).toList.isEmpty = false := by
    rw [ByteArray.toList_eq]
    have := itoa_ne a0
    cases h : Lib.itoa a0 with
    | nil => exact absurd h this
    | cons c r => simp
  have hPN : Hid (parseN (Lib.itoa a0) = a0) := (parse_back a0 HV.out).1
  have hPE : Hid (parseE (Lib.itoa a0) = 0) := (parse_back a0 HV.out).2
  have HL : Hid ((Lib.itoa a0).length ≤ 20) := itoa_len a0 HV.out
  go_enter Tryd.func3, Tryd.ntmps3
  go_wp2_with fail
  refine (format_any a0 _ b0 b0' HN.out).mono ?_
  rintro e w1 ⟨rfl, hb1⟩
  have B1 : Hid (Below w.heap.size w w1) := hb1
  clear hb1
  go_wp2_with fail
  refine (parse_str (Lib.itoa a0) _ HL.out).mono ?_
  rintro e w2 ⟨rfl, hb2⟩
  have B2 : Hid (Below w.heap.size w w2) := B1.out.trans (hb2.mono B1.out.size)
  clear hb2
  rw [hPN.out, hPE.out]
  generalize (⟨(Lib.itoa a0).toArray⟩ : ByteArray) = t at *
  have hx0 : ((0 : Int) != 0) = false := rfl
  have hxv : (a0 != a0) = false := by simp
  by_cases hs : 20 < (a1.size : Int)
  · go_wp2_with fail
    refine (parse_long a1 _ hs).mono ?_
    rintro e w3 ⟨rfl, hb3⟩
    have B3 : Hid (Below w.heap.size w w3) := B2.out.trans (hb3.mono B2.out.size)
    clear hb3
    go_wp2
    go_ret
    exact ⟨rfl, B3.out⟩
  · have hs2 : a1.size ≤ 20 := by omega
    go_wp2_with fail
    refine (parse_short a1 _ hs2).mono ?_
    rintro e w3 ⟨rfl, hb3⟩
    have B3 : Hid (Below w.heap.size w w3) := B2.out.trans (hb3.mono B2.out.size)
    clear hb3
    rcases parse_case a1.data.toList with ⟨p1, p2⟩ | ⟨p1, p2, p3⟩
    · rw [p1, p2]
      clear p1 p2
      go_wp2
      go_ret
      exact ⟨rfl, B3.out⟩
    · have HP : Hid (I64 (parseN a1.data.toList)) := p1
      have hq : ((⟨(Lib.itoa (parseN a1.data.toList)).toArray⟩ : ByteArray).toList == a1.toList) = true := by
        rw [ByteArray.toList_eq, ByteArray.toList_eq, p2]; simp
      have HP3 : Hid (PowIs w3) := HN.out.below B3.out HN.out.pos
      rw [p3]
      clear p1 p2 p3
      go_wp2_with fail
      refine (format_any _ _ HP.out.1 HP.out.2 HP3.out).mono ?_
      rintro e w4 ⟨rfl, hb4⟩
      have B4 : Hid (Below w.heap.size w w4) := B3.out.trans (hb4.mono B3.out.size)
      clear hb4
      generalize (⟨(Lib.itoa (parseN a1.data.toList)).toArray⟩ : ByteArray) = u at *
      go_wp2
      go_ret
      exact ⟨rfl, B4.out⟩

/-! ### THE ROW's STEP: WRITTEN OUT: LEAVE IT -/
set_option maxRecDepth 100000 in
theorem lifted (os : Os) (started : os.Started) (H : Type) (enc : TypeId × Value → H) :
    ReturnsInHanded {} Tryd.checked os 3 .any (fun w args => (Rows.opsRoundSpec.pre enc Tryd.prog Tryd.f3 [] false w args ∧ laidMetH Tryd.prog laidL w) ∧ sizedMet enc Tryd.prog Tryd.f3 (OpenSpec.ofChange Rows.opsRoundSpec) false w args) (Rows.opsRoundSpec.post enc Tryd.prog Tryd.f3 false true false false) := by
  refine returnsInHanded_of_change_and (C := Tryd.checked) (X := fun w _ => laidMetH Tryd.prog laidL w) (fun _ _ _ hh h => h.of_heap hh) own started (by kernel_rfl) Tryd.func3
    (ChangeSpec.witness_shaped (enc := enc) (C := Tryd.checked) (os := os) (X := fun w _ => laidMetH Tryd.prog laidL w) false (World.doorLaid Tryd.prog 400 os) #[.int .i64 0, .string ByteArray.empty] 8 rfl (World.shaped_of_RefB (by kernel_rfl) (by kernel_rfl)) (by kernel_rfl) (by kernel_rfl) (by kernel_rfl) (door_met os _)) ?_
  intro W base args ds gs before hval0 hW _ _ hL _
  have hval : ∀ (j : Nat) t v, Tryd.f3.params[j]? = some t → args[j]? = some v → Value.okWide Tryd.prog W .any base t v := hval0
  have hW' := hW
  obtain ⟨p, q, hA0, hV, rfl, hfz, hnd⟩ := hW
  have hA : DataW.TrodAll enc Tryd.prog W 0 (fun _ => true) true Tryd.f3.params.toList args.toList ds p := hA0
  rw [Tryd.params3] at hA hval
  obtain ⟨v0, vs0, d0, ds0, p0, q0, hargs, rfl, rfl, h0, r0⟩ := trodAll_cons hA
  obtain ⟨v1, vs1, d1, ds1, p1, q1, rfl, rfl, rfl, h1, r1⟩ := trodAll_cons r0
  obtain ⟨rfl, rfl, rfl⟩ := trodAll_nil r1
  obtain rfl : args = #[v0, v1] := by cases args; simp_all
  obtain ⟨rfl, rfl⟩ := trodVars_none hV
  obtain ⟨a0, rfl, rfl, rfl, w0⟩ := open_int Tryd.underlying2 (hval 0 2 v0 rfl rfl) h0
  obtain ⟨a1, rfl, rfl, rfl, w1⟩ := open_string Tryd.underlying9 (hval 1 9 v1 rfl rfl) h1
  clear hA0 hval0
  simp only [List.append_nil] at hW'
  refine (walk a0 a1 w0 w1 W (of_laid hL)).mono fun e W' ⟨he, hg⟩ => ?_
  subst he
  exact ⟨_, rfl, _, _, _, [], [], [], hW', (trodAll_cons_mk (shut_bool Tryd.underlying4 _) trodAll_mk0), (trodAll_cons_mk (shut_int Tryd.underlying2 w0) (trodAll_cons_mk (shut_string Tryd.underlying9 w1) trodAll_mk0)), rfl, hg.frame _, fun h => by cases h⟩

theorem over : Rows.opsRoundRow.holds Tryd.pinned (OpenSpec.ofChange Rows.opsRoundSpec) :=
  OpenClaim.holds_of_wide 3 Tryd.f3 rfl rfl rfl rfl rfl rfl rfl ⟨rfl, rfl, rfl, rfl, rfl⟩ rfl rfl rfl rfl rfl (by kernel_rfl) Tryd.func3 (by kernel_rfl)
    (of_decide_eq_true (by kernel_rfl)) (by unfold Func.isWrapper; first | (rw [if_pos (by decide +kernel)]; kernel_rfl) | (rw [if_neg (by decide +kernel)]; exact ⟨rfl, rfl⟩))
    (fun os started H enc _ => lifted os started H enc)

/-- THE STATEMENT -/
theorem proved : Rows.OpsRoundSaid :=
  over
end Go.Proofs.YtoglgifmgpogjabDoor.opsRound
namespace Go.Proofs.YtoglgifmgpogjabDoor
theorem opsRound_holds : Rows.OpsRoundSaid := opsRound.proved
#print axioms opsRound_holds
theorem opsRound_card : Rows.OpsRoundCardSaid :=
  Claim7.holds_tied_plain_at .later [] [.data, .data, .data] true (true, "d37ab4c22541176623f0ad32c4461e11b1f2b5207afdbe54a89ce3aab9be9347") false
    opsRound_holds (fun _ h => by cases h) (by kernel_rfl) (fun _ h => by cases h) opsRound_row_tie rfl ⟨rfl, rfl⟩ (by kernel_rfl) rfl
    (fun f fn hf hfn => by
      obtain rfl : f = 3 := Option.some.inj ((show Tryd.prog.funcNamed "plunder/plunderlaw1.OpsRound" = some 3 by kernel_rfl).symm.trans hf) |>.symm
      obtain rfl : fn = Tryd.f3 := (Option.some.inj (Tryd.func3.symm.trans hfn)).symm
      exact ⟨by kernel_rfl, fun j t ht => by
        rw [Tryd.params3] at ht
        have h3 : t = 2 ∨ t = 9 := by
          match j, ht with
          | 0, ht => simp at ht; subst ht; simp
          | 1, ht => simp at ht; subst ht; simp
          | j + 2, ht => simp at ht
        rcases h3 with rfl | rfl
        · exact (show Tryd.prog.wantsStandIn 2 = false by kernel_rfl)
        · exact (show Tryd.prog.wantsStandIn 9 = false by kernel_rfl)⟩)
    (by kernel_rfl)
#print axioms opsRound_card
end Go.Proofs.YtoglgifmgpogjabDoor
