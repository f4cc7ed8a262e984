import Derived.Test.YtemmkgnbngeiaaaDqStepS
import Derived.Test.YtemmkgnbngeiaaaDqStepPush
import Derived.Test.YtemmkgnbngeiaaaDqStepGrow
import Derived.Test.YtemmkgnbngeiaaaDqStepPop
import Derived.Test.YtemmkgnbngeiaaaDqStepSteal
import Derived.Test.YtemmkgnbngeiaaaDqStepLook
import Derived.Test.YtemmkgnbngeiaaaDqPtA
import Derived.Test.YtemmkgnbngeiaaaDqPtB
import Derived.Test.YtemmkgnbngeiaaaDqPtC
import Derived.Test.YtemmkgnbngeiaaaDqPtD
import Derived.Test.YtemmkgnbngeiaaaDqPtE
/-! Step, whatever the machine. -/
namespace Go.Proofs.Ytemmkgnbngeiaaa
open Go.RowKit Go.HeapKit Go.IntWalk

theorem OpS.step_run {o : OpS} {A : Ar} (h0 : ¬ o.at_ = 0) (h1 : ¬ o.at_ = 1) : o.step A = ((if (o.acc A).1.err = 0 then o.went (o.acc A).1.v (o.acc A).1.ok else OpS.zero), (o.acc A).2) := by
  unfold OpS.step
  rw [if_neg (by rintro (rfl | h); exact h0 rfl; exact h1 h)]
  split <;> rfl
theorem stepAt_2 (p : Nat) (F : Nat → Prop) (A : Ar) (base most code v t b a c na nc ix mv : Int) (w : World) (h : ArF w p F A) (hlog : A.log.length < 1000000000000) :
    Calls Try.prog 46 #[.iface 24 (.pointer (some ⟨p, 0, none⟩)), (OpS.mk base most 2 code v t b a c na nc ix mv).value] w fun e w' => e = .returned ((OpS.mk base most 2 code v t b a c na nc ix mv).step A).1.value ∧ AA w w' p F ((OpS.mk base most 2 code v t b a c na nc ix mv).step A).2 := by
  rw [OpS.step_run (show ¬ (2 : Int) = 0 by decide) (show ¬ (2 : Int) = 1 by decide)]
  exact step_push p F A _ base most 2 code v t b a c na nc ix mv _ _ w h rfl rfl (by decide) (fun w F h => point_2 p F A base most code v t b a c na nc ix mv w h hlog)
theorem stepAt_3 (p : Nat) (F : Nat → Prop) (A : Ar) (base most code v t b a c na nc ix mv : Int) (w : World) (h : ArF w p F A) (hlog : A.log.length < 1000000000000) :
    Calls Try.prog 46 #[.iface 24 (.pointer (some ⟨p, 0, none⟩)), (OpS.mk base most 3 code v t b a c na nc ix mv).value] w fun e w' => e = .returned ((OpS.mk base most 3 code v t b a c na nc ix mv).step A).1.value ∧ AA w w' p F ((OpS.mk base most 3 code v t b a c na nc ix mv).step A).2 := by
  rw [OpS.step_run (show ¬ (3 : Int) = 0 by decide) (show ¬ (3 : Int) = 1 by decide)]
  exact step_push p F A _ base most 3 code v t b a c na nc ix mv _ _ w h rfl rfl (by decide) (fun w F h => point_3 p F A base most code v t b a c na nc ix mv w h hlog)
theorem stepAt_4 (p : Nat) (F : Nat → Prop) (A : Ar) (base most code v t b a c na nc ix mv : Int) (w : World) (h : ArF w p F A) (hlog : A.log.length < 1000000000000) :
    Calls Try.prog 46 #[.iface 24 (.pointer (some ⟨p, 0, none⟩)), (OpS.mk base most 4 code v t b a c na nc ix mv).value] w fun e w' => e = .returned ((OpS.mk base most 4 code v t b a c na nc ix mv).step A).1.value ∧ AA w w' p F ((OpS.mk base most 4 code v t b a c na nc ix mv).step A).2 := by
  rw [OpS.step_run (show ¬ (4 : Int) = 0 by decide) (show ¬ (4 : Int) = 1 by decide)]
  exact step_push p F A _ base most 4 code v t b a c na nc ix mv _ _ w h rfl rfl (by decide) (fun w F h => point_4 p F A base most code v t b a c na nc ix mv w h hlog)
theorem stepAt_5 (p : Nat) (F : Nat → Prop) (A : Ar) (base most code v t b a c na nc ix mv : Int) (w : World) (h : ArF w p F A) (hlog : A.log.length < 1000000000000) :
    Calls Try.prog 46 #[.iface 24 (.pointer (some ⟨p, 0, none⟩)), (OpS.mk base most 5 code v t b a c na nc ix mv).value] w fun e w' => e = .returned ((OpS.mk base most 5 code v t b a c na nc ix mv).step A).1.value ∧ AA w w' p F ((OpS.mk base most 5 code v t b a c na nc ix mv).step A).2 := by
  rw [OpS.step_run (show ¬ (5 : Int) = 0 by decide) (show ¬ (5 : Int) = 1 by decide)]
  exact step_push p F A _ base most 5 code v t b a c na nc ix mv _ _ w h rfl rfl (by decide) (fun w F h => point_5 p F A base most code v t b a c na nc ix mv w h hlog)
theorem stepAt_6 (p : Nat) (F : Nat → Prop) (A : Ar) (base most code v t b a c na nc ix mv : Int) (w : World) (h : ArF w p F A) (hlog : A.log.length < 1000000000000) (hc : c ≤ 9223372036854775807) :
    Calls Try.prog 46 #[.iface 24 (.pointer (some ⟨p, 0, none⟩)), (OpS.mk base most 6 code v t b a c na nc ix mv).value] w fun e w' => e = .returned ((OpS.mk base most 6 code v t b a c na nc ix mv).step A).1.value ∧ AA w w' p F ((OpS.mk base most 6 code v t b a c na nc ix mv).step A).2 := by
  rw [OpS.step_run (show ¬ (6 : Int) = 0 by decide) (show ¬ (6 : Int) = 1 by decide)]
  exact step_push p F A _ base most 6 code v t b a c na nc ix mv _ _ w h rfl rfl (by decide) (fun w F h => point_6 p F A base most code v t b a c na nc ix mv w h hlog hc)
theorem stepAt_7 (p : Nat) (F : Nat → Prop) (A : Ar) (base most code v t b a c na nc ix mv : Int) (w : World) (h : ArF w p F A) (hlog : A.log.length < 1000000000000) :
    Calls Try.prog 46 #[.iface 24 (.pointer (some ⟨p, 0, none⟩)), (OpS.mk base most 7 code v t b a c na nc ix mv).value] w fun e w' => e = .returned ((OpS.mk base most 7 code v t b a c na nc ix mv).step A).1.value ∧ AA w w' p F ((OpS.mk base most 7 code v t b a c na nc ix mv).step A).2 := by
  rw [OpS.step_run (show ¬ (7 : Int) = 0 by decide) (show ¬ (7 : Int) = 1 by decide)]
  exact step_push p F A _ base most 7 code v t b a c na nc ix mv _ _ w h rfl rfl (by decide) (fun w F h => point_7 p F A base most code v t b a c na nc ix mv w h hlog)
theorem stepAt_8 (p : Nat) (F : Nat → Prop) (A : Ar) (base most code v t b a c na nc ix mv : Int) (w : World) (h : ArF w p F A) (hlog : A.log.length < 1000000000000) :
    Calls Try.prog 46 #[.iface 24 (.pointer (some ⟨p, 0, none⟩)), (OpS.mk base most 8 code v t b a c na nc ix mv).value] w fun e w' => e = .returned ((OpS.mk base most 8 code v t b a c na nc ix mv).step A).1.value ∧ AA w w' p F ((OpS.mk base most 8 code v t b a c na nc ix mv).step A).2 := by
  rw [OpS.step_run (show ¬ (8 : Int) = 0 by decide) (show ¬ (8 : Int) = 1 by decide)]
  exact step_grow p F A _ base most 8 code v t b a c na nc ix mv _ _ w h rfl rfl (by decide) (by decide) (fun w F h => point_8 p F A base most code v t b a c na nc ix mv w h hlog)
theorem stepAt_9 (p : Nat) (F : Nat → Prop) (A : Ar) (base most code v t b a c na nc ix mv : Int) (w : World) (h : ArF w p F A) (hlog : A.log.length < 1000000000000) :
    Calls Try.prog 46 #[.iface 24 (.pointer (some ⟨p, 0, none⟩)), (OpS.mk base most 9 code v t b a c na nc ix mv).value] w fun e w' => e = .returned ((OpS.mk base most 9 code v t b a c na nc ix mv).step A).1.value ∧ AA w w' p F ((OpS.mk base most 9 code v t b a c na nc ix mv).step A).2 := by
  rw [OpS.step_run (show ¬ (9 : Int) = 0 by decide) (show ¬ (9 : Int) = 1 by decide)]
  exact step_grow p F A _ base most 9 code v t b a c na nc ix mv _ _ w h rfl rfl (by decide) (by decide) (fun w F h => point_9 p F A base most code v t b a c na nc ix mv w h hlog)
theorem stepAt_10 (p : Nat) (F : Nat → Prop) (A : Ar) (base most code v t b a c na nc ix mv : Int) (w : World) (h : ArF w p F A) (hlog : A.log.length < 1000000000000) (hc : c ≤ 9223372036854775807) :
    Calls Try.prog 46 #[.iface 24 (.pointer (some ⟨p, 0, none⟩)), (OpS.mk base most 10 code v t b a c na nc ix mv).value] w fun e w' => e = .returned ((OpS.mk base most 10 code v t b a c na nc ix mv).step A).1.value ∧ AA w w' p F ((OpS.mk base most 10 code v t b a c na nc ix mv).step A).2 := by
  rw [OpS.step_run (show ¬ (10 : Int) = 0 by decide) (show ¬ (10 : Int) = 1 by decide)]
  exact step_grow p F A _ base most 10 code v t b a c na nc ix mv _ _ w h rfl rfl (by decide) (by decide) (fun w F h => point_10 p F A base most code v t b a c na nc ix mv w h hlog hc)
theorem stepAt_11 (p : Nat) (F : Nat → Prop) (A : Ar) (base most code v t b a c na nc ix mv : Int) (w : World) (h : ArF w p F A) (hlog : A.log.length < 1000000000000) (hnc : nc ≤ 9223372036854775807) :
    Calls Try.prog 46 #[.iface 24 (.pointer (some ⟨p, 0, none⟩)), (OpS.mk base most 11 code v t b a c na nc ix mv).value] w fun e w' => e = .returned ((OpS.mk base most 11 code v t b a c na nc ix mv).step A).1.value ∧ AA w w' p F ((OpS.mk base most 11 code v t b a c na nc ix mv).step A).2 := by
  rw [OpS.step_run (show ¬ (11 : Int) = 0 by decide) (show ¬ (11 : Int) = 1 by decide)]
  by_cases hx : wrap64 (ix + 1) = b
  · rw [show (OpS.mk base most 11 code v t b a c na nc ix mv).went _ _ = _ from if_pos hx]
    exact step_grow p F A _ base most 11 code v t b a c na nc ix mv _ _ w h rfl rfl (by decide) (by decide) (fun w F h => point_11a p F A base most code v t b a c na nc ix mv w h hlog hnc (by simpa using hx))
  · rw [show (OpS.mk base most 11 code v t b a c na nc ix mv).went _ _ = _ from if_neg hx]
    exact step_grow p F A _ base most 11 code v t b a c na nc ix mv _ _ w h rfl rfl (by decide) (by decide) (fun w F h => point_11b p F A base most code v t b a c na nc ix mv w h hlog hnc (by simpa using hx))
theorem stepAt_12 (p : Nat) (F : Nat → Prop) (A : Ar) (base most code v t b a c na nc ix mv : Int) (w : World) (h : ArF w p F A) (hlog : A.log.length < 1000000000000) :
    Calls Try.prog 46 #[.iface 24 (.pointer (some ⟨p, 0, none⟩)), (OpS.mk base most 12 code v t b a c na nc ix mv).value] w fun e w' => e = .returned ((OpS.mk base most 12 code v t b a c na nc ix mv).step A).1.value ∧ AA w w' p F ((OpS.mk base most 12 code v t b a c na nc ix mv).step A).2 := by
  rw [OpS.step_run (show ¬ (12 : Int) = 0 by decide) (show ¬ (12 : Int) = 1 by decide)]
  exact step_grow p F A _ base most 12 code v t b a c na nc ix mv _ _ w h rfl rfl (by decide) (by decide) (fun w F h => point_12 p F A base most code v t b a c na nc ix mv w h hlog)
theorem stepAt_13 (p : Nat) (F : Nat → Prop) (A : Ar) (base most code v t b a c na nc ix mv : Int) (w : World) (h : ArF w p F A) (hlog : A.log.length < 1000000000000) :
    Calls Try.prog 46 #[.iface 24 (.pointer (some ⟨p, 0, none⟩)), (OpS.mk base most 13 code v t b a c na nc ix mv).value] w fun e w' => e = .returned ((OpS.mk base most 13 code v t b a c na nc ix mv).step A).1.value ∧ AA w w' p F ((OpS.mk base most 13 code v t b a c na nc ix mv).step A).2 := by
  rw [OpS.step_run (show ¬ (13 : Int) = 0 by decide) (show ¬ (13 : Int) = 1 by decide)]
  exact step_pop p F A _ base most 13 code v t b a c na nc ix mv _ _ w h rfl rfl (by decide) (by decide) (by decide) (fun w F h => point_13 p F A base most code v t b a c na nc ix mv w h hlog)
theorem stepAt_14 (p : Nat) (F : Nat → Prop) (A : Ar) (base most code v t b a c na nc ix mv : Int) (w : World) (h : ArF w p F A) (hlog : A.log.length < 1000000000000) :
    Calls Try.prog 46 #[.iface 24 (.pointer (some ⟨p, 0, none⟩)), (OpS.mk base most 14 code v t b a c na nc ix mv).value] w fun e w' => e = .returned ((OpS.mk base most 14 code v t b a c na nc ix mv).step A).1.value ∧ AA w w' p F ((OpS.mk base most 14 code v t b a c na nc ix mv).step A).2 := by
  rw [OpS.step_run (show ¬ (14 : Int) = 0 by decide) (show ¬ (14 : Int) = 1 by decide)]
  exact step_pop p F A _ base most 14 code v t b a c na nc ix mv _ _ w h rfl rfl (by decide) (by decide) (by decide) (fun w F h => point_14 p F A base most code v t b a c na nc ix mv w h hlog)
theorem stepAt_15 (p : Nat) (F : Nat → Prop) (A : Ar) (base most code v t b a c na nc ix mv : Int) (w : World) (h : ArF w p F A) (hlog : A.log.length < 1000000000000) :
    Calls Try.prog 46 #[.iface 24 (.pointer (some ⟨p, 0, none⟩)), (OpS.mk base most 15 code v t b a c na nc ix mv).value] w fun e w' => e = .returned ((OpS.mk base most 15 code v t b a c na nc ix mv).step A).1.value ∧ AA w w' p F ((OpS.mk base most 15 code v t b a c na nc ix mv).step A).2 := by
  rw [OpS.step_run (show ¬ (15 : Int) = 0 by decide) (show ¬ (15 : Int) = 1 by decide)]
  exact step_pop p F A _ base most 15 code v t b a c na nc ix mv _ _ w h rfl rfl (by decide) (by decide) (by decide) (fun w F h => point_15 p F A base most code v t b a c na nc ix mv w h hlog)
theorem stepAt_16 (p : Nat) (F : Nat → Prop) (A : Ar) (base most code v t b a c na nc ix mv : Int) (w : World) (h : ArF w p F A) (hlog : A.log.length < 1000000000000) :
    Calls Try.prog 46 #[.iface 24 (.pointer (some ⟨p, 0, none⟩)), (OpS.mk base most 16 code v t b a c na nc ix mv).value] w fun e w' => e = .returned ((OpS.mk base most 16 code v t b a c na nc ix mv).step A).1.value ∧ AA w w' p F ((OpS.mk base most 16 code v t b a c na nc ix mv).step A).2 := by
  rw [OpS.step_run (show ¬ (16 : Int) = 0 by decide) (show ¬ (16 : Int) = 1 by decide)]
  by_cases hx : b < ((OpS.mk base most 16 code v t b a c na nc ix mv).acc A).1.v
  · rw [show (OpS.mk base most 16 code v t b a c na nc ix mv).went _ _ = _ from if_pos hx]
    exact step_pop p F A _ base most 16 code v t b a c na nc ix mv _ _ w h rfl rfl (by decide) (by decide) (by decide) (fun w F h => point_16a p F A base most code v t b a c na nc ix mv w h hlog hx)
  · rw [show (OpS.mk base most 16 code v t b a c na nc ix mv).went _ _ = _ from if_neg hx]
    exact step_pop p F A _ base most 16 code v t b a c na nc ix mv _ _ w h rfl rfl (by decide) (by decide) (by decide) (fun w F h => point_16b p F A base most code v t b a c na nc ix mv w h hlog hx)
theorem stepAt_17 (p : Nat) (F : Nat → Prop) (A : Ar) (base most code v t b a c na nc ix mv : Int) (w : World) (h : ArF w p F A) (hlog : A.log.length < 1000000000000) :
    Calls Try.prog 46 #[.iface 24 (.pointer (some ⟨p, 0, none⟩)), (OpS.mk base most 17 code v t b a c na nc ix mv).value] w fun e w' => e = .returned ((OpS.mk base most 17 code v t b a c na nc ix mv).step A).1.value ∧ AA w w' p F ((OpS.mk base most 17 code v t b a c na nc ix mv).step A).2 := by
  rw [OpS.step_run (show ¬ (17 : Int) = 0 by decide) (show ¬ (17 : Int) = 1 by decide)]
  exact step_pop p F A _ base most 17 code v t b a c na nc ix mv _ _ w h rfl rfl (by decide) (by decide) (by decide) (fun w F h => point_17 p F A base most code v t b a c na nc ix mv w h hlog)
theorem stepAt_18 (p : Nat) (F : Nat → Prop) (A : Ar) (base most code v t b a c na nc ix mv : Int) (w : World) (h : ArF w p F A) (hlog : A.log.length < 1000000000000) :
    Calls Try.prog 46 #[.iface 24 (.pointer (some ⟨p, 0, none⟩)), (OpS.mk base most 18 code v t b a c na nc ix mv).value] w fun e w' => e = .returned ((OpS.mk base most 18 code v t b a c na nc ix mv).step A).1.value ∧ AA w w' p F ((OpS.mk base most 18 code v t b a c na nc ix mv).step A).2 := by
  rw [OpS.step_run (show ¬ (18 : Int) = 0 by decide) (show ¬ (18 : Int) = 1 by decide)]
  exact step_pop p F A _ base most 18 code v t b a c na nc ix mv _ _ w h rfl rfl (by decide) (by decide) (by decide) (fun w F h => point_18 p F A base most code v t b a c na nc ix mv w h hlog)
theorem stepAt_19 (p : Nat) (F : Nat → Prop) (A : Ar) (base most code v t b a c na nc ix mv : Int) (w : World) (h : ArF w p F A) (hlog : A.log.length < 1000000000000) (hc : c ≤ 9223372036854775807) :
    Calls Try.prog 46 #[.iface 24 (.pointer (some ⟨p, 0, none⟩)), (OpS.mk base most 19 code v t b a c na nc ix mv).value] w fun e w' => e = .returned ((OpS.mk base most 19 code v t b a c na nc ix mv).step A).1.value ∧ AA w w' p F ((OpS.mk base most 19 code v t b a c na nc ix mv).step A).2 := by
  rw [OpS.step_run (show ¬ (19 : Int) = 0 by decide) (show ¬ (19 : Int) = 1 by decide)]
  by_cases hx : t < b
  · rw [show (OpS.mk base most 19 code v t b a c na nc ix mv).went _ _ = _ from if_pos hx]
    exact step_pop p F A _ base most 19 code v t b a c na nc ix mv _ _ w h rfl rfl (by decide) (by decide) (by decide) (fun w F h => point_19a p F A base most code v t b a c na nc ix mv w h hlog hc hx)
  · rw [show (OpS.mk base most 19 code v t b a c na nc ix mv).went _ _ = _ from if_neg hx]
    exact step_pop p F A _ base most 19 code v t b a c na nc ix mv _ _ w h rfl rfl (by decide) (by decide) (by decide) (fun w F h => point_19b p F A base most code v t b a c na nc ix mv w h hlog hc hx)
theorem stepAt_20 (p : Nat) (F : Nat → Prop) (A : Ar) (base most code v t b a c na nc ix mv : Int) (w : World) (h : ArF w p F A) (hlog : A.log.length < 1000000000000) :
    Calls Try.prog 46 #[.iface 24 (.pointer (some ⟨p, 0, none⟩)), (OpS.mk base most 20 code v t b a c na nc ix mv).value] w fun e w' => e = .returned ((OpS.mk base most 20 code v t b a c na nc ix mv).step A).1.value ∧ AA w w' p F ((OpS.mk base most 20 code v t b a c na nc ix mv).step A).2 := by
  rw [OpS.step_run (show ¬ (20 : Int) = 0 by decide) (show ¬ (20 : Int) = 1 by decide)]
  exact step_pop p F A _ base most 20 code v t b a c na nc ix mv _ _ w h rfl rfl (by decide) (by decide) (by decide) (fun w F h => point_20 p F A base most code v t b a c na nc ix mv w h hlog)
theorem stepAt_21 (p : Nat) (F : Nat → Prop) (A : Ar) (base most code v t b a c na nc ix mv : Int) (w : World) (h : ArF w p F A) (hlog : A.log.length < 1000000000000) :
    Calls Try.prog 46 #[.iface 24 (.pointer (some ⟨p, 0, none⟩)), (OpS.mk base most 21 code v t b a c na nc ix mv).value] w fun e w' => e = .returned ((OpS.mk base most 21 code v t b a c na nc ix mv).step A).1.value ∧ AA w w' p F ((OpS.mk base most 21 code v t b a c na nc ix mv).step A).2 := by
  rw [OpS.step_run (show ¬ (21 : Int) = 0 by decide) (show ¬ (21 : Int) = 1 by decide)]
  exact step_pop p F A _ base most 21 code v t b a c na nc ix mv _ _ w h rfl rfl (by decide) (by decide) (by decide) (fun w F h => point_21 p F A base most code v t b a c na nc ix mv w h hlog)
theorem stepAt_22 (p : Nat) (F : Nat → Prop) (A : Ar) (base most code v t b a c na nc ix mv : Int) (w : World) (h : ArF w p F A) (hlog : A.log.length < 1000000000000) :
    Calls Try.prog 46 #[.iface 24 (.pointer (some ⟨p, 0, none⟩)), (OpS.mk base most 22 code v t b a c na nc ix mv).value] w fun e w' => e = .returned ((OpS.mk base most 22 code v t b a c na nc ix mv).step A).1.value ∧ AA w w' p F ((OpS.mk base most 22 code v t b a c na nc ix mv).step A).2 := by
  rw [OpS.step_run (show ¬ (22 : Int) = 0 by decide) (show ¬ (22 : Int) = 1 by decide)]
  exact step_steal p F A _ base most 22 code v t b a c na nc ix mv _ _ w h rfl rfl (by decide) (by decide) (by decide) (by decide) (fun w F h => point_22 p F A base most code v t b a c na nc ix mv w h hlog)
theorem stepAt_23 (p : Nat) (F : Nat → Prop) (A : Ar) (base most code v t b a c na nc ix mv : Int) (w : World) (h : ArF w p F A) (hlog : A.log.length < 1000000000000) :
    Calls Try.prog 46 #[.iface 24 (.pointer (some ⟨p, 0, none⟩)), (OpS.mk base most 23 code v t b a c na nc ix mv).value] w fun e w' => e = .returned ((OpS.mk base most 23 code v t b a c na nc ix mv).step A).1.value ∧ AA w w' p F ((OpS.mk base most 23 code v t b a c na nc ix mv).step A).2 := by
  rw [OpS.step_run (show ¬ (23 : Int) = 0 by decide) (show ¬ (23 : Int) = 1 by decide)]
  by_cases hx : ((OpS.mk base most 23 code v t b a c na nc ix mv).acc A).1.v ≤ t
  · rw [show (OpS.mk base most 23 code v t b a c na nc ix mv).went _ _ = _ from if_pos hx]
    exact step_steal p F A _ base most 23 code v t b a c na nc ix mv _ _ w h rfl rfl (by decide) (by decide) (by decide) (by decide) (fun w F h => point_23a p F A base most code v t b a c na nc ix mv w h hlog hx)
  · rw [show (OpS.mk base most 23 code v t b a c na nc ix mv).went _ _ = _ from if_neg hx]
    exact step_steal p F A _ base most 23 code v t b a c na nc ix mv _ _ w h rfl rfl (by decide) (by decide) (by decide) (by decide) (fun w F h => point_23b p F A base most code v t b a c na nc ix mv w h hlog hx)
theorem stepAt_24 (p : Nat) (F : Nat → Prop) (A : Ar) (base most code v t b a c na nc ix mv : Int) (w : World) (h : ArF w p F A) (hlog : A.log.length < 1000000000000) :
    Calls Try.prog 46 #[.iface 24 (.pointer (some ⟨p, 0, none⟩)), (OpS.mk base most 24 code v t b a c na nc ix mv).value] w fun e w' => e = .returned ((OpS.mk base most 24 code v t b a c na nc ix mv).step A).1.value ∧ AA w w' p F ((OpS.mk base most 24 code v t b a c na nc ix mv).step A).2 := by
  rw [OpS.step_run (show ¬ (24 : Int) = 0 by decide) (show ¬ (24 : Int) = 1 by decide)]
  exact step_steal p F A _ base most 24 code v t b a c na nc ix mv _ _ w h rfl rfl (by decide) (by decide) (by decide) (by decide) (fun w F h => point_24 p F A base most code v t b a c na nc ix mv w h hlog)
theorem stepAt_25 (p : Nat) (F : Nat → Prop) (A : Ar) (base most code v t b a c na nc ix mv : Int) (w : World) (h : ArF w p F A) (hlog : A.log.length < 1000000000000) :
    Calls Try.prog 46 #[.iface 24 (.pointer (some ⟨p, 0, none⟩)), (OpS.mk base most 25 code v t b a c na nc ix mv).value] w fun e w' => e = .returned ((OpS.mk base most 25 code v t b a c na nc ix mv).step A).1.value ∧ AA w w' p F ((OpS.mk base most 25 code v t b a c na nc ix mv).step A).2 := by
  rw [OpS.step_run (show ¬ (25 : Int) = 0 by decide) (show ¬ (25 : Int) = 1 by decide)]
  exact step_steal p F A _ base most 25 code v t b a c na nc ix mv _ _ w h rfl rfl (by decide) (by decide) (by decide) (by decide) (fun w F h => point_25 p F A base most code v t b a c na nc ix mv w h hlog)
theorem stepAt_26 (p : Nat) (F : Nat → Prop) (A : Ar) (base most code v t b a c na nc ix mv : Int) (w : World) (h : ArF w p F A) (hlog : A.log.length < 1000000000000) (hc : c ≤ 9223372036854775807) :
    Calls Try.prog 46 #[.iface 24 (.pointer (some ⟨p, 0, none⟩)), (OpS.mk base most 26 code v t b a c na nc ix mv).value] w fun e w' => e = .returned ((OpS.mk base most 26 code v t b a c na nc ix mv).step A).1.value ∧ AA w w' p F ((OpS.mk base most 26 code v t b a c na nc ix mv).step A).2 := by
  rw [OpS.step_run (show ¬ (26 : Int) = 0 by decide) (show ¬ (26 : Int) = 1 by decide)]
  exact step_steal p F A _ base most 26 code v t b a c na nc ix mv _ _ w h rfl rfl (by decide) (by decide) (by decide) (by decide) (fun w F h => point_26 p F A base most code v t b a c na nc ix mv w h hlog hc)
theorem stepAt_27 (p : Nat) (F : Nat → Prop) (A : Ar) (base most code v t b a c na nc ix mv : Int) (w : World) (h : ArF w p F A) (hlog : A.log.length < 1000000000000) :
    Calls Try.prog 46 #[.iface 24 (.pointer (some ⟨p, 0, none⟩)), (OpS.mk base most 27 code v t b a c na nc ix mv).value] w fun e w' => e = .returned ((OpS.mk base most 27 code v t b a c na nc ix mv).step A).1.value ∧ AA w w' p F ((OpS.mk base most 27 code v t b a c na nc ix mv).step A).2 := by
  rw [OpS.step_run (show ¬ (27 : Int) = 0 by decide) (show ¬ (27 : Int) = 1 by decide)]
  exact step_steal p F A _ base most 27 code v t b a c na nc ix mv _ _ w h rfl rfl (by decide) (by decide) (by decide) (by decide) (fun w F h => point_27 p F A base most code v t b a c na nc ix mv w h hlog)
theorem stepAt_28 (p : Nat) (F : Nat → Prop) (A : Ar) (base most code v t b a c na nc ix mv : Int) (w : World) (h : ArF w p F A) (hlog : A.log.length < 1000000000000) :
    Calls Try.prog 46 #[.iface 24 (.pointer (some ⟨p, 0, none⟩)), (OpS.mk base most 28 code v t b a c na nc ix mv).value] w fun e w' => e = .returned ((OpS.mk base most 28 code v t b a c na nc ix mv).step A).1.value ∧ AA w w' p F ((OpS.mk base most 28 code v t b a c na nc ix mv).step A).2 := by
  rw [OpS.step_run (show ¬ (28 : Int) = 0 by decide) (show ¬ (28 : Int) = 1 by decide)]
  exact step_look p F A _ base most 28 code v t b a c na nc ix mv _ _ w h rfl rfl (by decide) (by decide) (by decide) (by decide) (fun w F h => point_28 p F A base most code v t b a c na nc ix mv w h hlog)
theorem stepAt_29 (p : Nat) (F : Nat → Prop) (A : Ar) (base most code v t b a c na nc ix mv : Int) (w : World) (h : ArF w p F A) (hlog : A.log.length < 1000000000000) :
    Calls Try.prog 46 #[.iface 24 (.pointer (some ⟨p, 0, none⟩)), (OpS.mk base most 29 code v t b a c na nc ix mv).value] w fun e w' => e = .returned ((OpS.mk base most 29 code v t b a c na nc ix mv).step A).1.value ∧ AA w w' p F ((OpS.mk base most 29 code v t b a c na nc ix mv).step A).2 := by
  rw [OpS.step_run (show ¬ (29 : Int) = 0 by decide) (show ¬ (29 : Int) = 1 by decide)]
  by_cases hx : t < ((OpS.mk base most 29 code v t b a c na nc ix mv).acc A).1.v
  · rw [show (OpS.mk base most 29 code v t b a c na nc ix mv).went _ _ = _ from if_pos hx]
    exact step_look p F A _ base most 29 code v t b a c na nc ix mv _ _ w h rfl rfl (by decide) (by decide) (by decide) (by decide) (fun w F h => point_29a p F A base most code v t b a c na nc ix mv w h hlog hx)
  · rw [show (OpS.mk base most 29 code v t b a c na nc ix mv).went _ _ = _ from if_neg hx]
    exact step_look p F A _ base most 29 code v t b a c na nc ix mv _ _ w h rfl rfl (by decide) (by decide) (by decide) (by decide) (fun w F h => point_29b p F A base most code v t b a c na nc ix mv w h hlog hx)
set_option maxHeartbeats 1600000 in
theorem step_zero (p : Nat) (w : World) : Calls Try.prog 46 #[.iface 24 (.pointer (some ⟨p, 0, none⟩)), OpS.zero.value] w fun e w' => e = .returned OpS.zero.value ∧ Keeps None w w' := by
  simp only [OpS.value, OpS.vals, OpS.zero]
  go_enter Try.func46, Try.ntmps46
  go_wp2
  exact op_ret1 4 rfl (new_at _ _ _ (by simp)) rfl rfl ⟨rfl, ((Keeps.refl None w).andAlloc _).andAlloc _⟩
set_option maxHeartbeats 1600000 in
theorem step_ended (p : Nat) (base most code v t b a c na nc ix mv : Int) (w : World) : Calls Try.prog 46 #[.iface 24 (.pointer (some ⟨p, 0, none⟩)), (OpS.mk base most 1 code v t b a c na nc ix mv).value] w fun e w' => e = .returned (OpS.mk base most 1 code v t b a c na nc ix mv).value ∧ Keeps None w w' := by
  simp only [OpS.value, OpS.vals]
  go_enter Try.func46, Try.ntmps46
  go_wp2
  exact op_ret1 4 rfl (new_at _ _ _ (by simp)) rfl rfl ⟨rfl, ((Keeps.refl None w).andAlloc _).andAlloc _⟩
/-- A machine that may be met. -/
structure OpS.Fit (o : OpS) : Prop where
  pt : o = OpS.zero ∨ (1 ≤ o.at_ ∧ o.at_ ≤ 29)
  hc : o.c ≤ 9223372036854775807
  hnc : o.nc ≤ 9223372036854775807
theorem step_any (p : Nat) (F : Nat → Prop) (A : Ar) (o : OpS) (w : World) (h : ArF w p F A) (hlog : A.log.length < 1000000000000) (ho : o.Fit) :
    Calls Try.prog 46 #[.iface 24 (.pointer (some ⟨p, 0, none⟩)), o.value] w fun e w' => e = .returned (o.step A).1.value ∧ AA w w' p F (o.step A).2 := by
  have hq : ∀ {w'}, Keeps None w w' → AA w w' p F A := fun hk => ⟨F, h.kept hk (fun _ _ f => f), hk.mono (fun _ f _ => f.elim), fun _ f => .inl f⟩
  rcases ho.pt with rfl | ⟨h1, h2⟩
  · rw [show OpS.zero.step A = (OpS.zero, A) from if_pos (.inl rfl)]
    refine (step_zero p w).mono ?_
    rintro e w' ⟨rfl, hk⟩
    exact ⟨rfl, hq hk⟩
  · obtain ⟨base, most, at_, code, v, t, b, a, c, na, nc, ix, mv⟩ := o
    have hc : c ≤ 9223372036854775807 := ho.hc
    have hnc : nc ≤ 9223372036854775807 := ho.hnc
    simp only at h1 h2
    rcases (show at_ = 1 ∨ at_ = 2 ∨ at_ = 3 ∨ at_ = 4 ∨ at_ = 5 ∨ at_ = 6 ∨ at_ = 7 ∨ at_ = 8 ∨ at_ = 9 ∨ at_ = 10 ∨ at_ = 11 ∨ at_ = 12 ∨ at_ = 13 ∨ at_ = 14 ∨ at_ = 15 ∨ at_ = 16 ∨ at_ = 17 ∨ at_ = 18 ∨ at_ = 19 ∨ at_ = 20 ∨ at_ = 21 ∨ at_ = 22 ∨ at_ = 23 ∨ at_ = 24 ∨ at_ = 25 ∨ at_ = 26 ∨ at_ = 27 ∨ at_ = 28 ∨ at_ = 29 by omega) with rfl | rfl | rfl | rfl | rfl | rfl | rfl | rfl | rfl | rfl | rfl | rfl | rfl | rfl | rfl | rfl | rfl | rfl | rfl | rfl | rfl | rfl | rfl | rfl | rfl | rfl | rfl | rfl | rfl
    · rw [show (OpS.mk base most 1 code v t b a c na nc ix mv).step A = (_, A) from if_pos (.inr rfl)]
      refine (step_ended p base most code v t b a c na nc ix mv w).mono ?_
      rintro e w' ⟨rfl, hk⟩
      exact ⟨rfl, hq hk⟩
    · exact stepAt_2 p F A base most code v t b a c na nc ix mv w h hlog
    · exact stepAt_3 p F A base most code v t b a c na nc ix mv w h hlog
    · exact stepAt_4 p F A base most code v t b a c na nc ix mv w h hlog
    · exact stepAt_5 p F A base most code v t b a c na nc ix mv w h hlog
    · exact stepAt_6 p F A base most code v t b a c na nc ix mv w h hlog hc
    · exact stepAt_7 p F A base most code v t b a c na nc ix mv w h hlog
    · exact stepAt_8 p F A base most code v t b a c na nc ix mv w h hlog
    · exact stepAt_9 p F A base most code v t b a c na nc ix mv w h hlog
    · exact stepAt_10 p F A base most code v t b a c na nc ix mv w h hlog hc
    · exact stepAt_11 p F A base most code v t b a c na nc ix mv w h hlog hnc
    · exact stepAt_12 p F A base most code v t b a c na nc ix mv w h hlog
    · exact stepAt_13 p F A base most code v t b a c na nc ix mv w h hlog
    · exact stepAt_14 p F A base most code v t b a c na nc ix mv w h hlog
    · exact stepAt_15 p F A base most code v t b a c na nc ix mv w h hlog
    · exact stepAt_16 p F A base most code v t b a c na nc ix mv w h hlog
    · exact stepAt_17 p F A base most code v t b a c na nc ix mv w h hlog
    · exact stepAt_18 p F A base most code v t b a c na nc ix mv w h hlog
    · exact stepAt_19 p F A base most code v t b a c na nc ix mv w h hlog hc
    · exact stepAt_20 p F A base most code v t b a c na nc ix mv w h hlog
    · exact stepAt_21 p F A base most code v t b a c na nc ix mv w h hlog
    · exact stepAt_22 p F A base most code v t b a c na nc ix mv w h hlog
    · exact stepAt_23 p F A base most code v t b a c na nc ix mv w h hlog
    · exact stepAt_24 p F A base most code v t b a c na nc ix mv w h hlog
    · exact stepAt_25 p F A base most code v t b a c na nc ix mv w h hlog
    · exact stepAt_26 p F A base most code v t b a c na nc ix mv w h hlog hc
    · exact stepAt_27 p F A base most code v t b a c na nc ix mv w h hlog
    · exact stepAt_28 p F A base most code v t b a c na nc ix mv w h hlog
    · exact stepAt_29 p F A base most code v t b a c na nc ix mv w h hlog
end Go.Proofs.Ytemmkgnbngeiaaa
