import Derived.Test.YtaeooljfilkaeaaPkAC
import Derived.Test.YtaeooljfilkaeaaPkAD
import Derived.Test.YtaeooljfilkaeaaPkAE
import Derived.Test.YtaeooljfilkaeaaPkAF
import Derived.OwnWalk
import Derived.Test.YtaeooljfilkaeaaPkAB
/-! Step, whatever the machine. -/
namespace Go.Proofs.Ytaeooljfilkaeaa
open Go.RowKit Go.HeapKit Go.IntWalk

theorem OpS.step_run {o : OpS} {A : Ar} (h0 : ¬ o.at_ = 0) (h1 : ¬ o.at_ = 1) : o.step A = ((if (o.acc A).1.err = 0 then o.went (o.acc A).1.v (o.acc A).1.ok else OpS.zero), (o.acc A).2) := by
  unfold OpS.step
  rw [if_neg (by rintro (rfl | h); exact h0 rfl; exact h1 h)]
  split <;> rfl
theorem stepAt_2 (p : Nat) (F : Nat → Prop) (A : Ar) (base most code v t b a c na nc ix mv : Int) (w : World) (h : ArF w p F A) (hlog : A.log.length < 1000000000000) :
    Calls Try.prog 49 #[.iface 58 (.pointer (some ⟨p, 0, none⟩)), (OpS.mk base most 2 code v t b a c na nc ix mv).value] w fun e w' => e = .returned ((OpS.mk base most 2 code v t b a c na nc ix mv).step A).1.value ∧ AA w w' p F ((OpS.mk base most 2 code v t b a c na nc ix mv).step A).2 := by
  rw [OpS.step_run (show ¬ (2 : Int) = 0 by decide) (show ¬ (2 : Int) = 1 by decide)]
  exact step_push p F A _ base most 2 code v t b a c na nc ix mv _ _ w h rfl rfl (by decide) (fun w F h => point_2 p F A base most code v t b a c na nc ix mv w h hlog)
theorem stepAt_3 (p : Nat) (F : Nat → Prop) (A : Ar) (base most code v t b a c na nc ix mv : Int) (w : World) (h : ArF w p F A) (hlog : A.log.length < 1000000000000) :
    Calls Try.prog 49 #[.iface 58 (.pointer (some ⟨p, 0, none⟩)), (OpS.mk base most 3 code v t b a c na nc ix mv).value] w fun e w' => e = .returned ((OpS.mk base most 3 code v t b a c na nc ix mv).step A).1.value ∧ AA w w' p F ((OpS.mk base most 3 code v t b a c na nc ix mv).step A).2 := by
  rw [OpS.step_run (show ¬ (3 : Int) = 0 by decide) (show ¬ (3 : Int) = 1 by decide)]
  exact step_push p F A _ base most 3 code v t b a c na nc ix mv _ _ w h rfl rfl (by decide) (fun w F h => point_3 p F A base most code v t b a c na nc ix mv w h hlog)
theorem stepAt_4 (p : Nat) (F : Nat → Prop) (A : Ar) (base most code v t b a c na nc ix mv : Int) (w : World) (h : ArF w p F A) (hlog : A.log.length < 1000000000000) :
    Calls Try.prog 49 #[.iface 58 (.pointer (some ⟨p, 0, none⟩)), (OpS.mk base most 4 code v t b a c na nc ix mv).value] w fun e w' => e = .returned ((OpS.mk base most 4 code v t b a c na nc ix mv).step A).1.value ∧ AA w w' p F ((OpS.mk base most 4 code v t b a c na nc ix mv).step A).2 := by
  rw [OpS.step_run (show ¬ (4 : Int) = 0 by decide) (show ¬ (4 : Int) = 1 by decide)]
  exact step_push p F A _ base most 4 code v t b a c na nc ix mv _ _ w h rfl rfl (by decide) (fun w F h => point_4 p F A base most code v t b a c na nc ix mv w h hlog)
theorem stepAt_5 (p : Nat) (F : Nat → Prop) (A : Ar) (base most code v t b a c na nc ix mv : Int) (w : World) (h : ArF w p F A) (hlog : A.log.length < 1000000000000) :
    Calls Try.prog 49 #[.iface 58 (.pointer (some ⟨p, 0, none⟩)), (OpS.mk base most 5 code v t b a c na nc ix mv).value] w fun e w' => e = .returned ((OpS.mk base most 5 code v t b a c na nc ix mv).step A).1.value ∧ AA w w' p F ((OpS.mk base most 5 code v t b a c na nc ix mv).step A).2 := by
  rw [OpS.step_run (show ¬ (5 : Int) = 0 by decide) (show ¬ (5 : Int) = 1 by decide)]
  exact step_push p F A _ base most 5 code v t b a c na nc ix mv _ _ w h rfl rfl (by decide) (fun w F h => point_5 p F A base most code v t b a c na nc ix mv w h hlog)
theorem stepAt_6 (p : Nat) (F : Nat → Prop) (A : Ar) (base most code v t b a c na nc ix mv : Int) (w : World) (h : ArF w p F A) (hlog : A.log.length < 1000000000000) (hc : c ≤ 9223372036854775807) :
    Calls Try.prog 49 #[.iface 58 (.pointer (some ⟨p, 0, none⟩)), (OpS.mk base most 6 code v t b a c na nc ix mv).value] w fun e w' => e = .returned ((OpS.mk base most 6 code v t b a c na nc ix mv).step A).1.value ∧ AA w w' p F ((OpS.mk base most 6 code v t b a c na nc ix mv).step A).2 := by
  rw [OpS.step_run (show ¬ (6 : Int) = 0 by decide) (show ¬ (6 : Int) = 1 by decide)]
  exact step_push p F A _ base most 6 code v t b a c na nc ix mv _ _ w h rfl rfl (by decide) (fun w F h => point_6 p F A base most code v t b a c na nc ix mv w h hlog hc)
theorem stepAt_7 (p : Nat) (F : Nat → Prop) (A : Ar) (base most code v t b a c na nc ix mv : Int) (w : World) (h : ArF w p F A) (hlog : A.log.length < 1000000000000) :
    Calls Try.prog 49 #[.iface 58 (.pointer (some ⟨p, 0, none⟩)), (OpS.mk base most 7 code v t b a c na nc ix mv).value] w fun e w' => e = .returned ((OpS.mk base most 7 code v t b a c na nc ix mv).step A).1.value ∧ AA w w' p F ((OpS.mk base most 7 code v t b a c na nc ix mv).step A).2 := by
  rw [OpS.step_run (show ¬ (7 : Int) = 0 by decide) (show ¬ (7 : Int) = 1 by decide)]
  exact step_push p F A _ base most 7 code v t b a c na nc ix mv _ _ w h rfl rfl (by decide) (fun w F h => point_7 p F A base most code v t b a c na nc ix mv w h hlog)
theorem stepAt_8 (p : Nat) (F : Nat → Prop) (A : Ar) (base most code v t b a c na nc ix mv : Int) (w : World) (h : ArF w p F A) (hlog : A.log.length < 1000000000000) :
    Calls Try.prog 49 #[.iface 58 (.pointer (some ⟨p, 0, none⟩)), (OpS.mk base most 8 code v t b a c na nc ix mv).value] w fun e w' => e = .returned ((OpS.mk base most 8 code v t b a c na nc ix mv).step A).1.value ∧ AA w w' p F ((OpS.mk base most 8 code v t b a c na nc ix mv).step A).2 := by
  rw [OpS.step_run (show ¬ (8 : Int) = 0 by decide) (show ¬ (8 : Int) = 1 by decide)]
  exact step_grow p F A _ base most 8 code v t b a c na nc ix mv _ _ w h rfl rfl (by decide) (by decide) (fun w F h => point_8 p F A base most code v t b a c na nc ix mv w h hlog)
theorem stepAt_9 (p : Nat) (F : Nat → Prop) (A : Ar) (base most code v t b a c na nc ix mv : Int) (w : World) (h : ArF w p F A) (hlog : A.log.length < 1000000000000) :
    Calls Try.prog 49 #[.iface 58 (.pointer (some ⟨p, 0, none⟩)), (OpS.mk base most 9 code v t b a c na nc ix mv).value] w fun e w' => e = .returned ((OpS.mk base most 9 code v t b a c na nc ix mv).step A).1.value ∧ AA w w' p F ((OpS.mk base most 9 code v t b a c na nc ix mv).step A).2 := by
  rw [OpS.step_run (show ¬ (9 : Int) = 0 by decide) (show ¬ (9 : Int) = 1 by decide)]
  exact step_grow p F A _ base most 9 code v t b a c na nc ix mv _ _ w h rfl rfl (by decide) (by decide) (fun w F h => point_9 p F A base most code v t b a c na nc ix mv w h hlog)
theorem stepAt_10 (p : Nat) (F : Nat → Prop) (A : Ar) (base most code v t b a c na nc ix mv : Int) (w : World) (h : ArF w p F A) (hlog : A.log.length < 1000000000000) (hc : c ≤ 9223372036854775807) :
    Calls Try.prog 49 #[.iface 58 (.pointer (some ⟨p, 0, none⟩)), (OpS.mk base most 10 code v t b a c na nc ix mv).value] w fun e w' => e = .returned ((OpS.mk base most 10 code v t b a c na nc ix mv).step A).1.value ∧ AA w w' p F ((OpS.mk base most 10 code v t b a c na nc ix mv).step A).2 := by
  rw [OpS.step_run (show ¬ (10 : Int) = 0 by decide) (show ¬ (10 : Int) = 1 by decide)]
  exact step_grow p F A _ base most 10 code v t b a c na nc ix mv _ _ w h rfl rfl (by decide) (by decide) (fun w F h => point_10 p F A base most code v t b a c na nc ix mv w h hlog hc)
theorem stepAt_11 (p : Nat) (F : Nat → Prop) (A : Ar) (base most code v t b a c na nc ix mv : Int) (w : World) (h : ArF w p F A) (hlog : A.log.length < 1000000000000) (hnc : nc ≤ 9223372036854775807) :
    Calls Try.prog 49 #[.iface 58 (.pointer (some ⟨p, 0, none⟩)), (OpS.mk base most 11 code v t b a c na nc ix mv).value] w fun e w' => e = .returned ((OpS.mk base most 11 code v t b a c na nc ix mv).step A).1.value ∧ AA w w' p F ((OpS.mk base most 11 code v t b a c na nc ix mv).step A).2 := by
  rw [OpS.step_run (show ¬ (11 : Int) = 0 by decide) (show ¬ (11 : Int) = 1 by decide)]
  by_cases hx : wrap64 (ix + 1) = b
  · rw [show (OpS.mk base most 11 code v t b a c na nc ix mv).went _ _ = _ from if_pos hx]
    exact step_grow p F A _ base most 11 code v t b a c na nc ix mv _ _ w h rfl rfl (by decide) (by decide) (fun w F h => point_11a p F A base most code v t b a c na nc ix mv w h hlog hnc (by simpa using hx))
  · rw [show (OpS.mk base most 11 code v t b a c na nc ix mv).went _ _ = _ from if_neg hx]
    exact step_grow p F A _ base most 11 code v t b a c na nc ix mv _ _ w h rfl rfl (by decide) (by decide) (fun w F h => point_11b p F A base most code v t b a c na nc ix mv w h hlog hnc (by simpa using hx))
theorem stepAt_12 (p : Nat) (F : Nat → Prop) (A : Ar) (base most code v t b a c na nc ix mv : Int) (w : World) (h : ArF w p F A) (hlog : A.log.length < 1000000000000) :
    Calls Try.prog 49 #[.iface 58 (.pointer (some ⟨p, 0, none⟩)), (OpS.mk base most 12 code v t b a c na nc ix mv).value] w fun e w' => e = .returned ((OpS.mk base most 12 code v t b a c na nc ix mv).step A).1.value ∧ AA w w' p F ((OpS.mk base most 12 code v t b a c na nc ix mv).step A).2 := by
  rw [OpS.step_run (show ¬ (12 : Int) = 0 by decide) (show ¬ (12 : Int) = 1 by decide)]
  exact step_grow p F A _ base most 12 code v t b a c na nc ix mv _ _ w h rfl rfl (by decide) (by decide) (fun w F h => point_12 p F A base most code v t b a c na nc ix mv w h hlog)
theorem stepAt_13 (p : Nat) (F : Nat → Prop) (A : Ar) (base most code v t b a c na nc ix mv : Int) (w : World) (h : ArF w p F A) (hlog : A.log.length < 1000000000000) :
    Calls Try.prog 49 #[.iface 58 (.pointer (some ⟨p, 0, none⟩)), (OpS.mk base most 13 code v t b a c na nc ix mv).value] w fun e w' => e = .returned ((OpS.mk base most 13 code v t b a c na nc ix mv).step A).1.value ∧ AA w w' p F ((OpS.mk base most 13 code v t b a c na nc ix mv).step A).2 := by
  rw [OpS.step_run (show ¬ (13 : Int) = 0 by decide) (show ¬ (13 : Int) = 1 by decide)]
  exact step_pop p F A _ base most 13 code v t b a c na nc ix mv _ _ w h rfl rfl (by decide) (by decide) (by decide) (fun w F h => point_13 p F A base most code v t b a c na nc ix mv w h hlog)
theorem stepAt_14 (p : Nat) (F : Nat → Prop) (A : Ar) (base most code v t b a c na nc ix mv : Int) (w : World) (h : ArF w p F A) (hlog : A.log.length < 1000000000000) :
    Calls Try.prog 49 #[.iface 58 (.pointer (some ⟨p, 0, none⟩)), (OpS.mk base most 14 code v t b a c na nc ix mv).value] w fun e w' => e = .returned ((OpS.mk base most 14 code v t b a c na nc ix mv).step A).1.value ∧ AA w w' p F ((OpS.mk base most 14 code v t b a c na nc ix mv).step A).2 := by
  rw [OpS.step_run (show ¬ (14 : Int) = 0 by decide) (show ¬ (14 : Int) = 1 by decide)]
  exact step_pop p F A _ base most 14 code v t b a c na nc ix mv _ _ w h rfl rfl (by decide) (by decide) (by decide) (fun w F h => point_14 p F A base most code v t b a c na nc ix mv w h hlog)
theorem stepAt_15 (p : Nat) (F : Nat → Prop) (A : Ar) (base most code v t b a c na nc ix mv : Int) (w : World) (h : ArF w p F A) (hlog : A.log.length < 1000000000000) :
    Calls Try.prog 49 #[.iface 58 (.pointer (some ⟨p, 0, none⟩)), (OpS.mk base most 15 code v t b a c na nc ix mv).value] w fun e w' => e = .returned ((OpS.mk base most 15 code v t b a c na nc ix mv).step A).1.value ∧ AA w w' p F ((OpS.mk base most 15 code v t b a c na nc ix mv).step A).2 := by
  rw [OpS.step_run (show ¬ (15 : Int) = 0 by decide) (show ¬ (15 : Int) = 1 by decide)]
  exact step_pop p F A _ base most 15 code v t b a c na nc ix mv _ _ w h rfl rfl (by decide) (by decide) (by decide) (fun w F h => point_15 p F A base most code v t b a c na nc ix mv w h hlog)
theorem stepAt_16 (p : Nat) (F : Nat → Prop) (A : Ar) (base most code v t b a c na nc ix mv : Int) (w : World) (h : ArF w p F A) (hlog : A.log.length < 1000000000000) :
    Calls Try.prog 49 #[.iface 58 (.pointer (some ⟨p, 0, none⟩)), (OpS.mk base most 16 code v t b a c na nc ix mv).value] w fun e w' => e = .returned ((OpS.mk base most 16 code v t b a c na nc ix mv).step A).1.value ∧ AA w w' p F ((OpS.mk base most 16 code v t b a c na nc ix mv).step A).2 := by
  rw [OpS.step_run (show ¬ (16 : Int) = 0 by decide) (show ¬ (16 : Int) = 1 by decide)]
  by_cases hx : b < ((OpS.mk base most 16 code v t b a c na nc ix mv).acc A).1.v
  · rw [show (OpS.mk base most 16 code v t b a c na nc ix mv).went _ _ = _ from if_pos hx]
    exact step_pop p F A _ base most 16 code v t b a c na nc ix mv _ _ w h rfl rfl (by decide) (by decide) (by decide) (fun w F h => point_16a p F A base most code v t b a c na nc ix mv w h hlog hx)
  · rw [show (OpS.mk base most 16 code v t b a c na nc ix mv).went _ _ = _ from if_neg hx]
    exact step_pop p F A _ base most 16 code v t b a c na nc ix mv _ _ w h rfl rfl (by decide) (by decide) (by decide) (fun w F h => point_16b p F A base most code v t b a c na nc ix mv w h hlog hx)
theorem stepAt_17 (p : Nat) (F : Nat → Prop) (A : Ar) (base most code v t b a c na nc ix mv : Int) (w : World) (h : ArF w p F A) (hlog : A.log.length < 1000000000000) :
    Calls Try.prog 49 #[.iface 58 (.pointer (some ⟨p, 0, none⟩)), (OpS.mk base most 17 code v t b a c na nc ix mv).value] w fun e w' => e = .returned ((OpS.mk base most 17 code v t b a c na nc ix mv).step A).1.value ∧ AA w w' p F ((OpS.mk base most 17 code v t b a c na nc ix mv).step A).2 := by
  rw [OpS.step_run (show ¬ (17 : Int) = 0 by decide) (show ¬ (17 : Int) = 1 by decide)]
  exact step_pop p F A _ base most 17 code v t b a c na nc ix mv _ _ w h rfl rfl (by decide) (by decide) (by decide) (fun w F h => point_17 p F A base most code v t b a c na nc ix mv w h hlog)
theorem stepAt_18 (p : Nat) (F : Nat → Prop) (A : Ar) (base most code v t b a c na nc ix mv : Int) (w : World) (h : ArF w p F A) (hlog : A.log.length < 1000000000000) :
    Calls Try.prog 49 #[.iface 58 (.pointer (some ⟨p, 0, none⟩)), (OpS.mk base most 18 code v t b a c na nc ix mv).value] w fun e w' => e = .returned ((OpS.mk base most 18 code v t b a c na nc ix mv).step A).1.value ∧ AA w w' p F ((OpS.mk base most 18 code v t b a c na nc ix mv).step A).2 := by
  rw [OpS.step_run (show ¬ (18 : Int) = 0 by decide) (show ¬ (18 : Int) = 1 by decide)]
  exact step_pop p F A _ base most 18 code v t b a c na nc ix mv _ _ w h rfl rfl (by decide) (by decide) (by decide) (fun w F h => point_18 p F A base most code v t b a c na nc ix mv w h hlog)
theorem stepAt_19 (p : Nat) (F : Nat → Prop) (A : Ar) (base most code v t b a c na nc ix mv : Int) (w : World) (h : ArF w p F A) (hlog : A.log.length < 1000000000000) (hc : c ≤ 9223372036854775807) :
    Calls Try.prog 49 #[.iface 58 (.pointer (some ⟨p, 0, none⟩)), (OpS.mk base most 19 code v t b a c na nc ix mv).value] w fun e w' => e = .returned ((OpS.mk base most 19 code v t b a c na nc ix mv).step A).1.value ∧ AA w w' p F ((OpS.mk base most 19 code v t b a c na nc ix mv).step A).2 := by
  rw [OpS.step_run (show ¬ (19 : Int) = 0 by decide) (show ¬ (19 : Int) = 1 by decide)]
  by_cases hx : t < b
  · rw [show (OpS.mk base most 19 code v t b a c na nc ix mv).went _ _ = _ from if_pos hx]
    exact step_pop p F A _ base most 19 code v t b a c na nc ix mv _ _ w h rfl rfl (by decide) (by decide) (by decide) (fun w F h => point_19a p F A base most code v t b a c na nc ix mv w h hlog hc hx)
  · rw [show (OpS.mk base most 19 code v t b a c na nc ix mv).went _ _ = _ from if_neg hx]
    exact step_pop p F A _ base most 19 code v t b a c na nc ix mv _ _ w h rfl rfl (by decide) (by decide) (by decide) (fun w F h => point_19b p F A base most code v t b a c na nc ix mv w h hlog hc hx)
theorem stepAt_20 (p : Nat) (F : Nat → Prop) (A : Ar) (base most code v t b a c na nc ix mv : Int) (w : World) (h : ArF w p F A) (hlog : A.log.length < 1000000000000) :
    Calls Try.prog 49 #[.iface 58 (.pointer (some ⟨p, 0, none⟩)), (OpS.mk base most 20 code v t b a c na nc ix mv).value] w fun e w' => e = .returned ((OpS.mk base most 20 code v t b a c na nc ix mv).step A).1.value ∧ AA w w' p F ((OpS.mk base most 20 code v t b a c na nc ix mv).step A).2 := by
  rw [OpS.step_run (show ¬ (20 : Int) = 0 by decide) (show ¬ (20 : Int) = 1 by decide)]
  exact step_pop p F A _ base most 20 code v t b a c na nc ix mv _ _ w h rfl rfl (by decide) (by decide) (by decide) (fun w F h => point_20 p F A base most code v t b a c na nc ix mv w h hlog)
theorem stepAt_21 (p : Nat) (F : Nat → Prop) (A : Ar) (base most code v t b a c na nc ix mv : Int) (w : World) (h : ArF w p F A) (hlog : A.log.length < 1000000000000) :
    Calls Try.prog 49 #[.iface 58 (.pointer (some ⟨p, 0, none⟩)), (OpS.mk base most 21 code v t b a c na nc ix mv).value] w fun e w' => e = .returned ((OpS.mk base most 21 code v t b a c na nc ix mv).step A).1.value ∧ AA w w' p F ((OpS.mk base most 21 code v t b a c na nc ix mv).step A).2 := by
  rw [OpS.step_run (show ¬ (21 : Int) = 0 by decide) (show ¬ (21 : Int) = 1 by decide)]
  exact step_pop p F A _ base most 21 code v t b a c na nc ix mv _ _ w h rfl rfl (by decide) (by decide) (by decide) (fun w F h => point_21 p F A base most code v t b a c na nc ix mv w h hlog)
theorem stepAt_22 (p : Nat) (F : Nat → Prop) (A : Ar) (base most code v t b a c na nc ix mv : Int) (w : World) (h : ArF w p F A) (hlog : A.log.length < 1000000000000) :
    Calls Try.prog 49 #[.iface 58 (.pointer (some ⟨p, 0, none⟩)), (OpS.mk base most 22 code v t b a c na nc ix mv).value] w fun e w' => e = .returned ((OpS.mk base most 22 code v t b a c na nc ix mv).step A).1.value ∧ AA w w' p F ((OpS.mk base most 22 code v t b a c na nc ix mv).step A).2 := by
  rw [OpS.step_run (show ¬ (22 : Int) = 0 by decide) (show ¬ (22 : Int) = 1 by decide)]
  exact step_steal p F A _ base most 22 code v t b a c na nc ix mv _ _ w h rfl rfl (by decide) (by decide) (by decide) (by decide) (fun w F h => point_22 p F A base most code v t b a c na nc ix mv w h hlog)
theorem stepAt_23 (p : Nat) (F : Nat → Prop) (A : Ar) (base most code v t b a c na nc ix mv : Int) (w : World) (h : ArF w p F A) (hlog : A.log.length < 1000000000000) :
    Calls Try.prog 49 #[.iface 58 (.pointer (some ⟨p, 0, none⟩)), (OpS.mk base most 23 code v t b a c na nc ix mv).value] w fun e w' => e = .returned ((OpS.mk base most 23 code v t b a c na nc ix mv).step A).1.value ∧ AA w w' p F ((OpS.mk base most 23 code v t b a c na nc ix mv).step A).2 := by
  rw [OpS.step_run (show ¬ (23 : Int) = 0 by decide) (show ¬ (23 : Int) = 1 by decide)]
  by_cases hx : ((OpS.mk base most 23 code v t b a c na nc ix mv).acc A).1.v ≤ t
  · rw [show (OpS.mk base most 23 code v t b a c na nc ix mv).went _ _ = _ from if_pos hx]
    exact step_steal p F A _ base most 23 code v t b a c na nc ix mv _ _ w h rfl rfl (by decide) (by decide) (by decide) (by decide) (fun w F h => point_23a p F A base most code v t b a c na nc ix mv w h hlog hx)
  · rw [show (OpS.mk base most 23 code v t b a c na nc ix mv).went _ _ = _ from if_neg hx]
    exact step_steal p F A _ base most 23 code v t b a c na nc ix mv _ _ w h rfl rfl (by decide) (by decide) (by decide) (by decide) (fun w F h => point_23b p F A base most code v t b a c na nc ix mv w h hlog hx)
theorem stepAt_24 (p : Nat) (F : Nat → Prop) (A : Ar) (base most code v t b a c na nc ix mv : Int) (w : World) (h : ArF w p F A) (hlog : A.log.length < 1000000000000) :
    Calls Try.prog 49 #[.iface 58 (.pointer (some ⟨p, 0, none⟩)), (OpS.mk base most 24 code v t b a c na nc ix mv).value] w fun e w' => e = .returned ((OpS.mk base most 24 code v t b a c na nc ix mv).step A).1.value ∧ AA w w' p F ((OpS.mk base most 24 code v t b a c na nc ix mv).step A).2 := by
  rw [OpS.step_run (show ¬ (24 : Int) = 0 by decide) (show ¬ (24 : Int) = 1 by decide)]
  exact step_steal p F A _ base most 24 code v t b a c na nc ix mv _ _ w h rfl rfl (by decide) (by decide) (by decide) (by decide) (fun w F h => point_24 p F A base most code v t b a c na nc ix mv w h hlog)
theorem stepAt_25 (p : Nat) (F : Nat → Prop) (A : Ar) (base most code v t b a c na nc ix mv : Int) (w : World) (h : ArF w p F A) (hlog : A.log.length < 1000000000000) :
    Calls Try.prog 49 #[.iface 58 (.pointer (some ⟨p, 0, none⟩)), (OpS.mk base most 25 code v t b a c na nc ix mv).value] w fun e w' => e = .returned ((OpS.mk base most 25 code v t b a c na nc ix mv).step A).1.value ∧ AA w w' p F ((OpS.mk base most 25 code v t b a c na nc ix mv).step A).2 := by
  rw [OpS.step_run (show ¬ (25 : Int) = 0 by decide) (show ¬ (25 : Int) = 1 by decide)]
  exact step_steal p F A _ base most 25 code v t b a c na nc ix mv _ _ w h rfl rfl (by decide) (by decide) (by decide) (by decide) (fun w F h => point_25 p F A base most code v t b a c na nc ix mv w h hlog)
theorem stepAt_26 (p : Nat) (F : Nat → Prop) (A : Ar) (base most code v t b a c na nc ix mv : Int) (w : World) (h : ArF w p F A) (hlog : A.log.length < 1000000000000) (hc : c ≤ 9223372036854775807) :
    Calls Try.prog 49 #[.iface 58 (.pointer (some ⟨p, 0, none⟩)), (OpS.mk base most 26 code v t b a c na nc ix mv).value] w fun e w' => e = .returned ((OpS.mk base most 26 code v t b a c na nc ix mv).step A).1.value ∧ AA w w' p F ((OpS.mk base most 26 code v t b a c na nc ix mv).step A).2 := by
  rw [OpS.step_run (show ¬ (26 : Int) = 0 by decide) (show ¬ (26 : Int) = 1 by decide)]
  exact step_steal p F A _ base most 26 code v t b a c na nc ix mv _ _ w h rfl rfl (by decide) (by decide) (by decide) (by decide) (fun w F h => point_26 p F A base most code v t b a c na nc ix mv w h hlog hc)
theorem stepAt_27 (p : Nat) (F : Nat → Prop) (A : Ar) (base most code v t b a c na nc ix mv : Int) (w : World) (h : ArF w p F A) (hlog : A.log.length < 1000000000000) :
    Calls Try.prog 49 #[.iface 58 (.pointer (some ⟨p, 0, none⟩)), (OpS.mk base most 27 code v t b a c na nc ix mv).value] w fun e w' => e = .returned ((OpS.mk base most 27 code v t b a c na nc ix mv).step A).1.value ∧ AA w w' p F ((OpS.mk base most 27 code v t b a c na nc ix mv).step A).2 := by
  rw [OpS.step_run (show ¬ (27 : Int) = 0 by decide) (show ¬ (27 : Int) = 1 by decide)]
  exact step_steal p F A _ base most 27 code v t b a c na nc ix mv _ _ w h rfl rfl (by decide) (by decide) (by decide) (by decide) (fun w F h => point_27 p F A base most code v t b a c na nc ix mv w h hlog)
theorem stepAt_28 (p : Nat) (F : Nat → Prop) (A : Ar) (base most code v t b a c na nc ix mv : Int) (w : World) (h : ArF w p F A) (hlog : A.log.length < 1000000000000) :
    Calls Try.prog 49 #[.iface 58 (.pointer (some ⟨p, 0, none⟩)), (OpS.mk base most 28 code v t b a c na nc ix mv).value] w fun e w' => e = .returned ((OpS.mk base most 28 code v t b a c na nc ix mv).step A).1.value ∧ AA w w' p F ((OpS.mk base most 28 code v t b a c na nc ix mv).step A).2 := by
  rw [OpS.step_run (show ¬ (28 : Int) = 0 by decide) (show ¬ (28 : Int) = 1 by decide)]
  exact step_look p F A _ base most 28 code v t b a c na nc ix mv _ _ w h rfl rfl (by decide) (by decide) (by decide) (by decide) (fun w F h => point_28 p F A base most code v t b a c na nc ix mv w h hlog)
theorem stepAt_29 (p : Nat) (F : Nat → Prop) (A : Ar) (base most code v t b a c na nc ix mv : Int) (w : World) (h : ArF w p F A) (hlog : A.log.length < 1000000000000) :
    Calls Try.prog 49 #[.iface 58 (.pointer (some ⟨p, 0, none⟩)), (OpS.mk base most 29 code v t b a c na nc ix mv).value] w fun e w' => e = .returned ((OpS.mk base most 29 code v t b a c na nc ix mv).step A).1.value ∧ AA w w' p F ((OpS.mk base most 29 code v t b a c na nc ix mv).step A).2 := by
  rw [OpS.step_run (show ¬ (29 : Int) = 0 by decide) (show ¬ (29 : Int) = 1 by decide)]
  by_cases hx : t < ((OpS.mk base most 29 code v t b a c na nc ix mv).acc A).1.v
  · rw [show (OpS.mk base most 29 code v t b a c na nc ix mv).went _ _ = _ from if_pos hx]
    exact step_look p F A _ base most 29 code v t b a c na nc ix mv _ _ w h rfl rfl (by decide) (by decide) (by decide) (by decide) (fun w F h => point_29a p F A base most code v t b a c na nc ix mv w h hlog hx)
  · rw [show (OpS.mk base most 29 code v t b a c na nc ix mv).went _ _ = _ from if_neg hx]
    exact step_look p F A _ base most 29 code v t b a c na nc ix mv _ _ w h rfl rfl (by decide) (by decide) (by decide) (by decide) (fun w F h => point_29b p F A base most code v t b a c na nc ix mv w h hlog hx)
set_option maxHeartbeats 1600000 in
theorem step_zero (p : Nat) (w : World) : Calls Try.prog 49 #[.iface 58 (.pointer (some ⟨p, 0, none⟩)), OpS.zero.value] w fun e w' => e = .returned OpS.zero.value ∧ Keeps None w w' := by
  simp only [OpS.value, OpS.vals, OpS.zero]
  go_enter Try.func49, Try.ntmps49
  go_wp2
  exact op_ret1 4 rfl (new_at _ _ _ (by simp)) rfl rfl ⟨rfl, ((Keeps.refl None w).andAlloc _).andAlloc _⟩
set_option maxHeartbeats 1600000 in
theorem step_ended (p : Nat) (base most code v t b a c na nc ix mv : Int) (w : World) : Calls Try.prog 49 #[.iface 58 (.pointer (some ⟨p, 0, none⟩)), (OpS.mk base most 1 code v t b a c na nc ix mv).value] w fun e w' => e = .returned (OpS.mk base most 1 code v t b a c na nc ix mv).value ∧ Keeps None w w' := by
  simp only [OpS.value, OpS.vals]
  go_enter Try.func49, Try.ntmps49
  go_wp2
  exact op_ret1 4 rfl (new_at _ _ _ (by simp)) rfl rfl ⟨rfl, ((Keeps.refl None w).andAlloc _).andAlloc _⟩
/-- A machine that may be met. -/
structure OpS.Fit (o : OpS) : Prop where
  pt : o = OpS.zero ∨ (1 ≤ o.at_ ∧ o.at_ ≤ 29)
  hc : o.c ≤ 9223372036854775807
  hnc : o.nc ≤ 9223372036854775807
theorem step_any (p : Nat) (F : Nat → Prop) (A : Ar) (o : OpS) (w : World) (h : ArF w p F A) (hlog : A.log.length < 1000000000000) (ho : o.Fit) :
    Calls Try.prog 49 #[.iface 58 (.pointer (some ⟨p, 0, none⟩)), o.value] w fun e w' => e = .returned (o.step A).1.value ∧ AA w w' p F (o.step A).2 := by
  have hq : ∀ {w'}, Keeps None w w' → AA w w' p F A := fun hk => ⟨F, h.kept hk (fun _ _ f => f), hk.mono (fun _ f _ => f.elim), fun _ f => .inl f⟩
  rcases ho.pt with rfl | ⟨h1, h2⟩
  · rw [show OpS.zero.step A = (OpS.zero, A) from if_pos (.inl rfl)]
    refine (step_zero p w).mono ?_
    rintro e w' ⟨rfl, hk⟩
    exact ⟨rfl, hq hk⟩
  · obtain ⟨base, most, at_, code, v, t, b, a, c, na, nc, ix, mv⟩ := o
    have hc : c ≤ 9223372036854775807 := ho.hc
    have hnc : nc ≤ 9223372036854775807 := ho.hnc
    simp only at h1 h2
    rcases (show at_ = 1 ∨ at_ = 2 ∨ at_ = 3 ∨ at_ = 4 ∨ at_ = 5 ∨ at_ = 6 ∨ at_ = 7 ∨ at_ = 8 ∨ at_ = 9 ∨ at_ = 10 ∨ at_ = 11 ∨ at_ = 12 ∨ at_ = 13 ∨ at_ = 14 ∨ at_ = 15 ∨ at_ = 16 ∨ at_ = 17 ∨ at_ = 18 ∨ at_ = 19 ∨ at_ = 20 ∨ at_ = 21 ∨ at_ = 22 ∨ at_ = 23 ∨ at_ = 24 ∨ at_ = 25 ∨ at_ = 26 ∨ at_ = 27 ∨ at_ = 28 ∨ at_ = 29 by omega) with rfl | rfl | rfl | rfl | rfl | rfl | rfl | rfl | rfl | rfl | rfl | rfl | rfl | rfl | rfl | rfl | rfl | rfl | rfl | rfl | rfl | rfl | rfl | rfl | rfl | rfl | rfl | rfl | rfl
    · rw [show (OpS.mk base most 1 code v t b a c na nc ix mv).step A = (_, A) from if_pos (.inr rfl)]
      refine (step_ended p base most code v t b a c na nc ix mv w).mono ?_
      rintro e w' ⟨rfl, hk⟩
      exact ⟨rfl, hq hk⟩
    · exact stepAt_2 p F A base most code v t b a c na nc ix mv w h hlog
    · exact stepAt_3 p F A base most code v t b a c na nc ix mv w h hlog
    · exact stepAt_4 p F A base most code v t b a c na nc ix mv w h hlog
    · exact stepAt_5 p F A base most code v t b a c na nc ix mv w h hlog
    · exact stepAt_6 p F A base most code v t b a c na nc ix mv w h hlog hc
    · exact stepAt_7 p F A base most code v t b a c na nc ix mv w h hlog
    · exact stepAt_8 p F A base most code v t b a c na nc ix mv w h hlog
    · exact stepAt_9 p F A base most code v t b a c na nc ix mv w h hlog
    · exact stepAt_10 p F A base most code v t b a c na nc ix mv w h hlog hc
    · exact stepAt_11 p F A base most code v t b a c na nc ix mv w h hlog hnc
    · exact stepAt_12 p F A base most code v t b a c na nc ix mv w h hlog
    · exact stepAt_13 p F A base most code v t b a c na nc ix mv w h hlog
    · exact stepAt_14 p F A base most code v t b a c na nc ix mv w h hlog
    · exact stepAt_15 p F A base most code v t b a c na nc ix mv w h hlog
    · exact stepAt_16 p F A base most code v t b a c na nc ix mv w h hlog
    · exact stepAt_17 p F A base most code v t b a c na nc ix mv w h hlog
    · exact stepAt_18 p F A base most code v t b a c na nc ix mv w h hlog
    · exact stepAt_19 p F A base most code v t b a c na nc ix mv w h hlog hc
    · exact stepAt_20 p F A base most code v t b a c na nc ix mv w h hlog
    · exact stepAt_21 p F A base most code v t b a c na nc ix mv w h hlog
    · exact stepAt_22 p F A base most code v t b a c na nc ix mv w h hlog
    · exact stepAt_23 p F A base most code v t b a c na nc ix mv w h hlog
    · exact stepAt_24 p F A base most code v t b a c na nc ix mv w h hlog
    · exact stepAt_25 p F A base most code v t b a c na nc ix mv w h hlog
    · exact stepAt_26 p F A base most code v t b a c na nc ix mv w h hlog hc
    · exact stepAt_27 p F A base most code v t b a c na nc ix mv w h hlog
    · exact stepAt_28 p F A base most code v t b a c na nc ix mv w h hlog
    · exact stepAt_29 p F A base most code v t b a c na nc ix mv w h hlog
end Go.Proofs.Ytaeooljfilkaeaa
/-! Answer; the machines that have not begun. -/
namespace Go.Proofs.Ytaeooljfilkaeaa
open Go.RowKit Go.HeapKit Go.IntWalk

theorem keeps_drewN4 (S : Nat → Prop) (w : World) (n : Nat) : Keeps S w (w.drewN n) := ⟨rfl, rfl, rfl, Nat.le_refl _, fun _ _ _ => rfl⟩
open Classical in
noncomputable def OpS.ans (o : OpS) : Int × Int := if o = OpS.zero then (1, 0) else if o.at_ = 1 then (o.code, o.v) else (0, 0)
set_option maxHeartbeats 1600000 in
theorem answer_zero (w : World) : Calls Try.prog 46 #[OpS.zero.value] w fun e w' => e = .returned (.tuple #[.int .i64 1, .int .i64 0]) ∧ Keeps None w w' := by
  simp only [OpS.value, OpS.vals, OpS.zero]
  go_enter Try.func46, Try.ntmps46
  go_wp2
  go_ret2
  exact ⟨rfl, Keeps.alloc None w _⟩
set_option maxHeartbeats 1600000 in
theorem answer_ended (base most code v t b a c na nc ix mv : Int) (w : World) : Calls Try.prog 46 #[(OpS.mk base most 1 code v t b a c na nc ix mv).value] w fun e w' => e = .returned (.tuple #[.int .i64 code, .int .i64 v]) ∧ Keeps None w w' := by
  simp only [OpS.value, OpS.vals]
  go_enter Try.func46, Try.ntmps46
  go_wp2_with fail
  go_quiet (fail)
  go_wp2_with fail
  go_ret2
  exact ⟨rfl, (Keeps.alloc None w _).trans (keeps_drewN4 None _ _) (fun _ f _ => f)⟩
set_option maxHeartbeats 1600000 in
theorem answer_running (base most at_ code v t b a c na nc ix mv : Int) (h0 : (at_ == 0) = false) (h1 : (at_ != 1) = true) (w : World) : Calls Try.prog 46 #[(OpS.mk base most at_ code v t b a c na nc ix mv).value] w fun e w' => e = .returned (.tuple #[.int .i64 0, .int .i64 0]) ∧ Keeps None w w' := by
  have h0' : ¬ at_ = 0 := by simpa using h0
  simp only [OpS.value, OpS.vals]
  go_enter Try.func46, Try.ntmps46
  go_wp2
  go_ret2
  exact ⟨rfl, Keeps.alloc None w _⟩
theorem answer_any (o : OpS) (ho : o.Fit) (w : World) : Calls Try.prog 46 #[o.value] w fun e w' => e = .returned (.tuple #[.int .i64 o.ans.1, .int .i64 o.ans.2]) ∧ Keeps None w w' := by
  rcases ho.pt with rfl | ⟨h1, h2⟩
  · rw [show OpS.zero.ans = (1, 0) from if_pos rfl]
    exact answer_zero w
  · have hz : ¬ o = OpS.zero := by rintro rfl; simp [OpS.zero] at h1
    by_cases h : o.at_ = 1
    · rw [show o.ans = (o.code, o.v) from (if_neg hz).trans (if_pos h)]
      obtain ⟨base, most, at_, code, v, t, b, a, c, na, nc, ix, mv⟩ := o
      simp only at h
      subst h
      exact answer_ended base most code v t b a c na nc ix mv w
    · rw [show o.ans = (0, 0) from (if_neg hz).trans (if_neg h)]
      obtain ⟨base, most, at_, code, v, t, b, a, c, na, nc, ix, mv⟩ := o
      simp only at h h1
      exact answer_running base most at_ code v t b a c na nc ix mv (by simp; omega) (by simpa using h) w
set_option maxHeartbeats 1600000 in
theorem begin_ok (base most first : Int) (hm : 1 ≤ most ∧ most ≤ 4096) (w : World) : Calls Try.prog 78 #[.agg #[.int .i64 base, .int .i64 most], .int .i64 first] w fun e w' => e = .returned (OpS.mk base most first 0 0 0 0 0 0 0 0 0 0).value ∧ Keeps None w w' := by
  have hf := mostFits_any most
  rw [show (decide (1 ≤ most) && decide (most ≤ 4096)) = true by simp; omega] at hf
  simp only [OpS.value, OpS.vals]
  go_enter Try.func78, Try.ntmps78
  go_wp2_with fail
  refine (hf _).mono ?_
  rintro e w' ⟨rfl, hw⟩
  have hw2 := hw.symm
  subst hw2
  clear hw hf
  go_wp2
  exact op_ret1 4 rfl (new_at _ _ _ (by simp)) rfl rfl ⟨rfl, ((Keeps.refl None w).andAlloc _).andAlloc _⟩
set_option maxHeartbeats 1600000 in
theorem newPop (base most : Int) (hm : 1 ≤ most ∧ most ≤ 4096) (w : World) : Calls Try.prog 69 #[.agg #[.int .i64 base, .int .i64 most]] w fun e w' => e = .returned (OpS.mk base most 13 0 0 0 0 0 0 0 0 0 0).value ∧ Keeps None w w' := by
  have hbg := begin_ok base most 13 hm
  simp only [OpS.value, OpS.vals] at hbg ⊢
  go_enter Try.func69, Try.ntmps69
  go_wp2_with fail
  refine (hbg _).mono ?_
  rintro e w1 ⟨rfl, hk⟩
  have hb := (hk.block (w.heap.size + 1) (by simp) (fun f => f)).trans (new_at _ _ _ (by simp))
  obtain ⟨r0, r1, r2, r3, r4, r5, r6, r7, r8, r9, r10, r11, r12⟩ := zcells hb
  have s0 := free_of_block hb 0
  have s1 := free_of_block hb 1
  have s2 := free_of_block hb 2
  have s3 := free_of_block hb 3
  have s4 := free_of_block hb 4
  have s5 := free_of_block hb 5
  have s6 := free_of_block hb 6
  have s7 := free_of_block hb 7
  have s8 := free_of_block hb 8
  have s9 := free_of_block hb 9
  have s10 := free_of_block hb 10
  have s11 := free_of_block hb 11
  have s12 := free_of_block hb 12
  have HK : Hid _ := hk
  clear hk hbg
  go_wp2
  exact op_end1 2 rfl rfl hb rfl rfl _ _ _ _ _ _ _ _ _ _ _ _ _ (fun w' hk2 => ⟨rfl, (((Keeps.refl None w).andAlloc _).andAlloc _ |>.trans HK.out (fun _ f _ => f)).trans hk2 (fun i e hi => by omega)⟩)
set_option maxHeartbeats 1600000 in
theorem newSteal (base most : Int) (hm : 1 ≤ most ∧ most ≤ 4096) (w : World) : Calls Try.prog 67 #[.agg #[.int .i64 base, .int .i64 most]] w fun e w' => e = .returned (OpS.mk base most 22 0 0 0 0 0 0 0 0 0 0).value ∧ Keeps None w w' := by
  have hbg := begin_ok base most 22 hm
  simp only [OpS.value, OpS.vals] at hbg ⊢
  go_enter Try.func67, Try.ntmps67
  go_wp2_with fail
  refine (hbg _).mono ?_
  rintro e w1 ⟨rfl, hk⟩
  have hb := (hk.block (w.heap.size + 1) (by simp) (fun f => f)).trans (new_at _ _ _ (by simp))
  obtain ⟨r0, r1, r2, r3, r4, r5, r6, r7, r8, r9, r10, r11, r12⟩ := zcells hb
  have s0 := free_of_block hb 0
  have s1 := free_of_block hb 1
  have s2 := free_of_block hb 2
  have s3 := free_of_block hb 3
  have s4 := free_of_block hb 4
  have s5 := free_of_block hb 5
  have s6 := free_of_block hb 6
  have s7 := free_of_block hb 7
  have s8 := free_of_block hb 8
  have s9 := free_of_block hb 9
  have s10 := free_of_block hb 10
  have s11 := free_of_block hb 11
  have s12 := free_of_block hb 12
  have HK : Hid _ := hk
  clear hk hbg
  go_wp2
  exact op_end1 2 rfl rfl hb rfl rfl _ _ _ _ _ _ _ _ _ _ _ _ _ (fun w' hk2 => ⟨rfl, (((Keeps.refl None w).andAlloc _).andAlloc _ |>.trans HK.out (fun _ f _ => f)).trans hk2 (fun i e hi => by omega)⟩)
set_option maxHeartbeats 1600000 in
theorem newPush (base most v : Int) (hm : 1 ≤ most ∧ most ≤ 4096) (w : World) : Calls Try.prog 68 #[.agg #[.int .i64 base, .int .i64 most], .int .i64 v] w fun e w' => e = .returned (OpS.mk base most 2 0 v 0 0 0 0 0 0 0 0).value ∧ Keeps None w w' := by
  have hbg := begin_ok base most 2 hm
  simp only [OpS.value, OpS.vals] at hbg ⊢
  go_enter Try.func68, Try.ntmps68
  go_wp2_with fail
  refine (hbg _).mono ?_
  rintro e w1 ⟨rfl, hk⟩
  have hb := (hk.block (w.heap.size + 1) (by simp) (fun f => f)).trans (new_at _ _ _ (by simp))
  have hsz := hk.size
  simp at hsz
  have hb2 := ((Keeps.alloc None w1 (.cells #[.int .i64 base, .int .i64 most, .int .i64 2, .int .i64 0, .int .i64 v, .int .i64 0, .int .i64 0, .int .i64 0, .int .i64 0, .int .i64 0, .int .i64 0, .int .i64 0, .int .i64 0] 119)).block _ (Array.getElem?_eq_some_iff.1 hb).1 (fun f => f)).trans hb
  obtain ⟨r0, r1, r2, r3, r4, r5, r6, r7, r8, r9, r10, r11, r12⟩ := zcells hb
  have s0 := free_of_block hb 0
  have s1 := free_of_block hb 1
  have s2 := free_of_block hb 2
  have s3 := free_of_block hb 3
  have s4 := free_of_block hb 4
  have s5 := free_of_block hb 5
  have s6 := free_of_block hb 6
  have s7 := free_of_block hb 7
  have s8 := free_of_block hb 8
  have s9 := free_of_block hb 9
  have s10 := free_of_block hb 10
  have s11 := free_of_block hb 11
  have s12 := free_of_block hb 12
  obtain ⟨t0, t1, t2, t3, t4, t5, t6, t7, t8, t9, t10, t11, t12⟩ := zcells hb2
  have u0 := free_of_block hb2 0
  have u1 := free_of_block hb2 1
  have u2 := free_of_block hb2 2
  have u3 := free_of_block hb2 3
  have u4 := free_of_block hb2 4
  have u5 := free_of_block hb2 5
  have u6 := free_of_block hb2 6
  have u7 := free_of_block hb2 7
  have u8 := free_of_block hb2 8
  have u9 := free_of_block hb2 9
  have u10 := free_of_block hb2 10
  have u11 := free_of_block hb2 11
  have u12 := free_of_block hb2 12
  have HK : Hid _ := hk
  clear hk hbg
  go_wp2_with fail
  exact op_end1 4 rfl rfl hb2 rfl rfl _ _ _ _ _ _ _ _ _ _ _ _ _ (fun w' hk2 => ⟨rfl, ((((Keeps.refl None w).andAlloc _).andAlloc _ |>.trans HK.out (fun _ f _ => f)).andAlloc _).trans hk2 (fun i e hi => by omega)⟩)
end Go.Proofs.Ytaeooljfilkaeaa
/-! 'whole': a machine is stepped to its end. -/
namespace Go.Proofs.Ytaeooljfilkaeaa
open Go.RowKit Go.HeapKit Go.IntWalk

noncomputable def OpS.run (o : OpS) (A : Ar) : Nat → OpS × Ar
  | 0 => (o, A)
  | n + 1 => (o.run A n).1.step (o.run A n).2
theorem OpS.ans_stop {o : OpS} (h : ¬ o.ans.1 = 0) : o = OpS.zero ∨ o.at_ = 1 := by
  unfold OpS.ans at h
  split at h
  · exact .inl ‹_›
  · split at h
    · exact .inr ‹_›
    · simp at h
theorem OpS.run_stop {o : OpS} {A : Ar} {k : Nat} (h : (o.run A k).1 = OpS.zero ∨ (o.run A k).1.at_ = 1) : ∀ j, o.run A (k + j) = o.run A k
  | 0 => rfl
  | j + 1 => by
    show (o.run A (k + j)).1.step (o.run A (k + j)).2 = _
    rw [OpS.run_stop h j]
    exact if_pos h
/-- The machine's box and the arena, in the midst. -/
structure Wh (w wx : World) (o : OpS) (p : Nat) (F : Nat → Prop) (B : Ar) : Prop where
  box : wx.heap[w.heap.size]? = some (.cells o.vals 119 (0, 0))
  ar : ∃ F1, ArF wx p F1 B ∧ ∀ k, F1 k → F k ∨ w.heap.size + 1 ≤ k
  kp : Keeps F w wx
  lo : ∀ k, F k → k < w.heap.size
section
variable {w wx wy : World} {o : OpS} {p : Nat} {F : Nat → Prop} {A B : Ar}
theorem Wh.lt (h : Wh w wx o p F B) : w.heap.size < wx.heap.size := (Array.getElem?_eq_some_iff.1 h.box).1
theorem Wh.kept (h : Wh w wx o p F B) (hk : Keeps None wx wy) : Wh w wy o p F B := by
  obtain ⟨F1, h1, h2⟩ := h.ar
  exact ⟨(hk.block _ h.lt (fun f => f)).trans h.box, ⟨F1, h1.kept hk (fun _ _ f => f), h2⟩, h.kp.trans hk (fun _ f _ => f.elim), h.lo⟩
theorem Wh.acc (h : Wh w wx o p F A) {F1 : Nat → Prop} (hF : ∀ k, F1 k → F k ∨ w.heap.size + 1 ≤ k) (h2 : AA wx wy p F1 B) : Wh w wy o p F B := by
  obtain ⟨F2, g, hk, hf⟩ := h2
  have := h.lt
  have hn : ¬ F1 w.heap.size := fun f => by rcases hF _ f with f | f; have := h.lo _ f; omega; omega
  refine ⟨(hk.block _ this hn).trans h.box, ⟨F2, g, fun k f => ?_⟩, h.kp.trans hk (fun i f hi => ?_), h.lo⟩
  · rcases hf k f with f | f
    · exact hF k f
    · exact .inr (by omega)
  · rcases hF i f with f | f
    · exact f
    · omega
theorem Wh.cells {x0 x1 x2 x3 x4 x5 x6 x7 x8 x9 x10 x11 x12 : Int} (h : Wh w wx (OpS.mk x0 x1 x2 x3 x4 x5 x6 x7 x8 x9 x10 x11 x12) p F B) : wx.cell? ⟨w.heap.size, 0, none⟩ = some (.int .i64 x0) ∧ wx.cell? ⟨w.heap.size, 1, none⟩ = some (.int .i64 x1) ∧ wx.cell? ⟨w.heap.size, 2, none⟩ = some (.int .i64 x2) ∧ wx.cell? ⟨w.heap.size, 3, none⟩ = some (.int .i64 x3) ∧ wx.cell? ⟨w.heap.size, 4, none⟩ = some (.int .i64 x4) ∧ wx.cell? ⟨w.heap.size, 5, none⟩ = some (.int .i64 x5) ∧ wx.cell? ⟨w.heap.size, 6, none⟩ = some (.int .i64 x6) ∧ wx.cell? ⟨w.heap.size, 7, none⟩ = some (.int .i64 x7) ∧ wx.cell? ⟨w.heap.size, 8, none⟩ = some (.int .i64 x8) ∧ wx.cell? ⟨w.heap.size, 9, none⟩ = some (.int .i64 x9) ∧ wx.cell? ⟨w.heap.size, 10, none⟩ = some (.int .i64 x10) ∧ wx.cell? ⟨w.heap.size, 11, none⟩ = some (.int .i64 x11) ∧ wx.cell? ⟨w.heap.size, 12, none⟩ = some (.int .i64 x12) :=
  ⟨cell_of_block h.box 0, cell_of_block h.box 1, cell_of_block h.box 2, cell_of_block h.box 3, cell_of_block h.box 4, cell_of_block h.box 5, cell_of_block h.box 6, cell_of_block h.box 7, cell_of_block h.box 8, cell_of_block h.box 9, cell_of_block h.box 10, cell_of_block h.box 11, cell_of_block h.box 12⟩
theorem Wh.free (h : Wh w wx o p F B) (i : Nat) : wx.frozen? ⟨w.heap.size, i, none⟩ = false := free_of_block h.box i
theorem Wh.box13 (h : Wh w wx o p F B) (x0 x1 x2 x3 x4 x5 x6 x7 x8 x9 x10 x11 x12 : Int) : Wh w (((((((((((((wx.setCell ⟨w.heap.size, 0, none⟩ (.int .i64 x0)).setCell ⟨w.heap.size, 1, none⟩ (.int .i64 x1)).setCell ⟨w.heap.size, 2, none⟩ (.int .i64 x2)).setCell ⟨w.heap.size, 3, none⟩ (.int .i64 x3)).setCell ⟨w.heap.size, 4, none⟩ (.int .i64 x4)).setCell ⟨w.heap.size, 5, none⟩ (.int .i64 x5)).setCell ⟨w.heap.size, 6, none⟩ (.int .i64 x6)).setCell ⟨w.heap.size, 7, none⟩ (.int .i64 x7)).setCell ⟨w.heap.size, 8, none⟩ (.int .i64 x8)).setCell ⟨w.heap.size, 9, none⟩ (.int .i64 x9)).setCell ⟨w.heap.size, 10, none⟩ (.int .i64 x10)).setCell ⟨w.heap.size, 11, none⟩ (.int .i64 x11)).setCell ⟨w.heap.size, 12, none⟩ (.int .i64 x12)) (OpS.mk x0 x1 x2 x3 x4 x5 x6 x7 x8 x9 x10 x11 x12) p F B := by
  obtain ⟨h1, h2⟩ := op_set (w1 := wx) (g := w.heap.size) (c := o.vals) rfl h.box (.int .i64 x0) (.int .i64 x1) (.int .i64 x2) (.int .i64 x3) (.int .i64 x4) (.int .i64 x5) (.int .i64 x6) (.int .i64 x7) (.int .i64 x8) (.int .i64 x9) (.int .i64 x10) (.int .i64 x11) (.int .i64 x12)
  obtain ⟨F1, h3, h4⟩ := h.ar
  exact ⟨h1, ⟨F1, h3.kept h2 (fun k f e => by subst e; rcases h4 _ f with f | f; have := h.lo _ f; omega; omega), h4⟩, h.kp.trans h2 (fun i e hi => by omega), h.lo⟩
theorem Wh.fin (h : Wh w wx o p F B) : AA w wx p F B := by
  obtain ⟨F1, h3, h4⟩ := h.ar
  exact ⟨F1, h3, h.kp, fun k f => by rcases h4 k f with f | f; exact .inl f; exact .inr (by omega)⟩
end
end Go.Proofs.Ytaeooljfilkaeaa
/-! 'Cells' of the program and of the document. -/
namespace Go.Proofs.Ytaeooljfilkaeaa
open Go.RowKit Go.HeapKit Go.IntWalk

def cellsFrom (m c n : Nat) : Nat := if h : c < m ∧ 0 < c then cellsFrom m (min (2 * c) m) (n + 1 + min (2 * c) m) else n
termination_by m - c
decreasing_by omega
theorem cellsFrom_end {m c n : Nat} (h : ¬ c < m) : cellsFrom m c n = n := by rw [cellsFrom, dif_neg (fun e => h e.1)]
theorem cellsFrom_step {m c n : Nat} (h : c < m) (h0 : 0 < c) : cellsFrom m c n = cellsFrom m (min (2 * c) m) (n + 1 + min (2 * c) m) := by rw [cellsFrom, dif_pos ⟨h, h0⟩]

theorem dcells_bad (f m : Int) (w : World) (h : ¬ CapOK f m) : Calls Try.prog 24 #[.int .i64 f, .int .i64 m] w fun e w' => e = .returned (.int .i64 0) ∧ w' = w := by
  have hc := capsFit_bad f m w h
  go_enter Try.func24, Try.ntmps24
  go_wp2_with (go_at_call 41; refine hc.mono ?_; rintro e w' ⟨rfl, rfl⟩)
  go_ret
  exact ⟨rfl, rfl⟩
theorem grown_any (c m : Nat) (w : World) (hc : c ≤ 4096) : Calls Try.prog 44 #[.int .i64 c, .int .i64 m] w fun e w' => e = .returned (.int .i64 (min (2 * c) m : Nat)) ∧ w' = w := by
  go_enter Try.func44, Try.ntmps44
  go_wp2
  all_goals go_ret
  all_goals refine ⟨?_, rfl⟩
  · rw [show ((min (2 * c) m : Nat) : Int) = m by omega]; rfl
  · rw [show ((min (2 * c) m : Nat) : Int) = 2 * c by omega]; rfl
set_option maxHeartbeats 4000000 in
set_option maxRecDepth 100000 in
theorem dcells_ok (f m : Nat) (w : World) (h : CapOK f m) : Calls Try.prog 24 #[.int .i64 f, .int .i64 m] w fun e w' => e = .returned (.int .i64 (cellsFrom m f (4 + f) : Nat)) ∧ w' = w := by
  have hc := capsFit_ok f m w h
  obtain ⟨h1, h2, h3⟩ := h
  go_enter Try.func24, Try.ntmps24
  go_wp2_with fail
  refine hc.mono ?_
  rintro e w' ⟨rfl, hw⟩
  have hw2 := hw.symm
  subst hw2
  clear hw hc
  have hb0 := bufferCells_any f w (by omega)
  go_wp2_with fail
  refine hb0.mono ?_
  rintro e w' ⟨rfl, hw⟩
  have hw2 := hw.symm
  subst hw2
  clear hw hb0
  go_wp2_with fail
  go_loopw [5, 6] (fun s5 s6 wr => wr = w ∧ ∃ c n : Nat, s5 = .int .i64 n ∧ s6 = .int .i64 c ∧ 0 < c ∧ c ≤ m ∧ n ≤ 5000 + c * 5000 ∧ cellsFrom m c n = cellsFrom m f (4 + f)) (fun _ s6 _ => m - (intOf s6).toNat)
  case atStart => exact ⟨rfl, f, 4 + f, by congr 1; omega, rfl, by omega, by omega, by omega, rfl⟩
  case round =>
    obtain ⟨rfl, c, n, rfl, rfl, hc0, hcm, hn, hT⟩ := hrel
    by_cases hlt : c < m
    · have hT2 := cellsFrom_step (n := n) hlt hc0
      rw [hT] at hT2
      have HT : Hid _ := hT2
      clear hT hT2
      have i1 : (c : Int) < (m : Int) := by omega
      have hg := grown_any c m wr (by omega)
      have hb := bufferCells_any (min (2 * c) m) wr (by omega)
      go_wp2_with fail
      refine hg.mono ?_
      rintro e w' ⟨rfl, hw⟩
      have hw2 := hw.symm
      subst hw2
      clear hw
      go_wp2_with fail
      refine hb.mono ?_
      rintro e w' ⟨rfl, hw⟩
      have hw2 := hw.symm
      subst hw2
      clear hw
      go_wp2_with fail
      refine ⟨⟨trivial, min (2 * c) m, n + 1 + min (2 * c) m, by congr 1; omega, rfl, by omega, by omega, by omega, HT.out.symm⟩, ?_⟩
      simp only [intOf]
      omega
    · rw [cellsFrom_end hlt] at hT
      have HT : Hid _ := hT
      clear hT
      have i1 : ¬ (c : Int) < (m : Int) := by omega
      go_wp2_with fail
      go_ret
      exact ⟨by rw [← HT.out]; rfl, rfl⟩
end Go.Proofs.Ytaeooljfilkaeaa
/-! The deque, plainly: calls one behind the other. -/
namespace Go.Proofs.Ytaeooljfilkaeaa
open Go.RowKit Go.HeapKit Go.IntWalk Go.PlainOps

theorem did_load {A : Ar} {k : Nat} (hon : A.on = false) (hk : k < A.cells.length) : A.did 0 (k : Int) 0 0 = (⟨A.val k, true, 0⟩, A) := by
  have hh : A.has (k : Int) = true := by simp [Ar.has]; omega
  simp [Ar.did, hh, Ar.noted, hon]
theorem did_store {A : Ar} {k : Nat} {v : Int} (hon : A.on = false) (hk : k < A.cells.length) : A.did 1 (k : Int) v 0 = (⟨0, true, 0⟩, A.put k v) := by
  have hh : A.has (k : Int) = true := by simp [Ar.has]; omega
  have h2 : (A.put k v).on = false := hon
  simp [Ar.did, hh, Ar.noted, h2]
theorem did_cas {A : Ar} {k : Nat} {v : Int} (hon : A.on = false) (hk : k < A.cells.length) : A.did 2 (k : Int) (A.val k) v = (⟨0, true, 0⟩, A.put k v) := by
  have hh : A.has (k : Int) = true := by simp [Ar.has]; omega
  have h2 : (A.put k v).on = false := hon
  simp [Ar.did, hh, Ar.noted, h2]
theorem did_more {A : Ar} {n : Nat} (hon : A.on = false) (hn : 0 < n) (hf : A.cells.length + n ≤ A.size) : A.did 4 0 (n : Int) 0 = (⟨A.cells.length, true, 0⟩, A.more n) := by
  have h2 : (A.more n).on = false := hon
  have h3 : ¬ (n : Int) < 1 := by omega
  have h4 : ¬ (A.size : Int) - A.cells.length < n := by omega
  simp [Ar.did, h3, h4, Ar.noted, h2]
theorem step_by {o : OpS} {A B : Ar} {x : Int} {k y z u : Int} {ok : Bool} (h0 : ¬ o.at_ = 0) (h1 : ¬ o.at_ = 1) (hw : o.want = (k, y, z, u)) (hd : A.did k y z u = (⟨x, ok, 0⟩, B)) : o.step A = (o.went x ok, B) := by
  rw [OpS.step_run h0 h1]
  simp only [OpS.acc, hw, hd]
  rfl

/-- From one machine to another, in so many steps. -/
inductive Goes : OpS → Ar → Nat → OpS → Ar → Prop
  | done (o : OpS) (A : Ar) : Goes o A 0 o A
  | next {o o1 o2 : OpS} {A A1 A2 : Ar} {n : Nat} (hf : o.Fit) (hl : A.log.length < 1000000000000) (hs : o.step A = (o1, A1)) (h : Goes o1 A1 n o2 A2) : Goes o A (n + 1) o2 A2
theorem Goes.trans {o o1 o2 : OpS} {A A1 A2 : Ar} {n m : Nat} (h : Goes o A n o1 A1) (k : Goes o1 A1 m o2 A2) : Goes o A (m + n) o2 A2 := by
  induction h with
  | done o A => exact k
  | next hf hl hs _ ih => exact .next hf hl hs (ih k)
theorem OpS.run_front (o : OpS) (A : Ar) : ∀ n, o.run A (n + 1) = (o.step A).1.run (o.step A).2 n
  | 0 => rfl
  | n + 1 => by
    show (o.run A (n + 1)).1.step (o.run A (n + 1)).2 = _
    rw [OpS.run_front o A n]
    rfl
/-- A machine that comes to its end within n steps. -/
theorem Goes.ends {o o' : OpS} {A A' : Ar} {n : Nat} (h : Goes o A n o' A') (he : o'.at_ = 1) (hf' : o'.Fit) (hl' : A'.log.length < 1000000000000) :
    ∀ N, n ≤ N → o.run A N = (o', A') ∧ ∀ k, k ≤ N → (o.run A k).1.Fit ∧ (o.run A k).2.log.length < 1000000000000 := by
  induction h with
  | done o A =>
    intro N _
    have hr : ∀ k, o.run A k = (o, A) := fun k => by
      have := OpS.run_stop (o := o) (A := A) (k := 0) (.inr he) k
      rw [Nat.zero_add] at this
      exact this
    exact ⟨hr N, fun k _ => by rw [hr k]; exact ⟨hf', hl'⟩⟩
  | next hf hl hs _ ih =>
    rename_i o o1 o2 A A1 A2 n _
    intro N hN
    obtain ⟨h1, h2⟩ := ih he hf' hl' (N - 1) (by omega)
    have hfr : ∀ k, o.run A (k + 1) = o1.run A1 k := fun k => by rw [OpS.run_front, hs]
    refine ⟨?_, fun k hk => ?_⟩
    · rw [show N = (N - 1) + 1 by omega, hfr]; exact h1
    · match k with
      | 0 => exact ⟨hf, hl⟩
      | k + 1 => rw [hfr]; exact h2 k (by omega)
end Go.Proofs.Ytaeooljfilkaeaa
/-! The deque's state between calls; a push that does not grow, a pop, a steal, a look. -/
namespace Go.Proofs.Ytaeooljfilkaeaa
open Go.RowKit Go.HeapKit Go.IntWalk Go.PlainOps

structure Dq (A : Ar) (most : Nat) (l : List Int) (t a c : Nat) : Prop where
  on : A.on = false
  log : A.log = []
  m1 : most ≤ 4096
  top : A.val 0 = t
  bot : A.val 1 = (t + l.length : Nat)
  buf : A.val 2 = a
  cap : A.val a = c
  a3 : 3 ≤ a
  fit : a + c < A.cells.length
  c1 : 1 ≤ c
  cm : c ≤ most
  len : l.length ≤ c
  elem : ∀ i, i < l.length → A.val (a + 1 + (t + i) % c) = l.getD i 0
  room : cellsFrom most c A.cells.length = A.size
  sz : A.size ≤ 1048576
  big : t + l.length ≤ 1125899906842624

theorem put_val {A : Ar} {k j : Nat} {v : Int} (hk : k < A.cells.length) : (A.put k v).val j = if j = k then v else A.val j := by
  unfold Ar.put Ar.val
  simp only [List.getD, List.getElem?_set]
  by_cases h : k = j
  · subst h; simp [hk]
  · rw [if_neg h, if_neg (fun e => h e.symm)]
theorem put_cells {A : Ar} {k : Nat} {v : Int} : (A.put k v).cells.length = A.cells.length := by simp [Ar.put]
theorem more_val {A : Ar} {n j : Nat} : (A.more n).val j = A.val j := by
  unfold Ar.more Ar.val
  simp only [List.getD, List.getElem?_append, List.getElem?_replicate]
  split
  · rfl
  · rename_i h
    rw [List.getElem?_eq_none (by omega)]
    split <;> rfl
theorem place_nat (a c i : Nat) (h : a + c ≤ 1048576) (hc : 1 ≤ c) : placeV a c i = ((a + 1 + i % c : Nat) : Int) := by
  have hm := Nat.mod_lt i (show 0 < c by omega)
  have e1 : modV (i : Int) (c : Int) = ((i % c : Nat) : Int) := by
    unfold modV
    rw [if_neg (by omega)]
    simp
  unfold placeV
  rw [e1, wrap64_in (a + 1 : Int) (by omega), wrap64_in _ (by omega)]
  omega
theorem mod_ne {t i n c : Nat} (h : i < n) (hn : n < i + c) : (t + i) % c ≠ (t + n) % c := by
  intro e
  have h1 := Nat.sub_mod_eq_zero_of_mod_eq e.symm
  rw [show t + n - (t + i) = n - i by omega, Nat.mod_eq_of_lt (by omega)] at h1
  omega

theorem wr0 : wrap64 0 = ((0 : Nat) : Int) := (wrap64_in 0 (by omega)).trans rfl
theorem wr1 : wrap64 (0 + 1) = ((1 : Nat) : Int) := (wrap64_in _ (by omega)).trans rfl
theorem wr2 : wrap64 (0 + 2) = ((2 : Nat) : Int) := (wrap64_in _ (by omega)).trans rfl
theorem goLoad {o o1 o2 : OpS} {A A2 : Ar} {n k : Nat} {x y : Int} (hf : o.Fit) (hon : A.on = false) (hl : A.log = []) (h0 : ¬ o.at_ = 0) (h1 : ¬ o.at_ = 1) (hw : o.want = (0, y, 0, 0)) (hy : y = k) (hk : k < A.cells.length) (hx : A.val k = x) (ho : o.went x true = o1) (h : Goes o1 A n o2 A2) : Goes o A (n + 1) o2 A2 := by
  subst hy
  refine .next hf (by simp [hl]) ?_ h
  rw [step_by h0 h1 hw (did_load hon hk), hx, ho]
theorem goStore {o o1 o2 : OpS} {A A2 : Ar} {n k : Nat} {v y : Int} (hf : o.Fit) (hon : A.on = false) (hl : A.log = []) (h0 : ¬ o.at_ = 0) (h1 : ¬ o.at_ = 1) (hw : o.want = (1, y, v, 0)) (hy : y = k) (hk : k < A.cells.length) (ho : o.went 0 true = o1) (h : Goes o1 (A.put k v) n o2 A2) : Goes o A (n + 1) o2 A2 := by
  subst hy
  refine .next hf (by simp [hl]) ?_ h
  rw [step_by h0 h1 hw (did_store hon hk), ho]
theorem goCas {o o1 o2 : OpS} {A A2 : Ar} {n k : Nat} {x v y : Int} (hf : o.Fit) (hon : A.on = false) (hl : A.log = []) (h0 : ¬ o.at_ = 0) (h1 : ¬ o.at_ = 1) (hw : o.want = (2, y, x, v)) (hy : y = k) (hk : k < A.cells.length) (hx : A.val k = x) (ho : o.went 0 true = o1) (h : Goes o1 (A.put k v) n o2 A2) : Goes o A (n + 1) o2 A2 := by
  subst hy hx
  refine .next hf (by simp [hl]) ?_ h
  rw [step_by h0 h1 hw (did_cas hon hk), ho]
theorem ended_fit (code v : Int) : (OpS.ended code v).Fit := ⟨.inr ⟨by simp [OpS.ended], by simp [OpS.ended]⟩, by simp [OpS.ended], by simp [OpS.ended]⟩
section
variable {A : Ar} {most t a c : Nat} {l : List Int}
theorem Dq.lt2 (h : Dq A most l t a c) : 2 < A.cells.length := by have := h.a3; have := h.fit; omega
theorem Dq.ac (h : Dq A most l t a c) (hs : A.cells.length ≤ A.size) : a + c ≤ 1048576 := by have := h.fit; have := h.sz; omega
theorem look_seq (h : Dq A most l t a c) : Goes (OpS.mk 0 most 28 0 0 0 0 0 0 0 0 0 0) A 2 (OpS.ended (if l = [] then 8 else 7) 0) A := by
  have h2 := h.lt2
  refine goLoad (o := OpS.mk 0 most 28 0 0 0 0 0 0 0 0 0 0) (o1 := OpS.mk 0 most 29 0 0 t 0 0 0 0 0 0 0) (k := 0) ⟨.inr ⟨by simp, by simp⟩, by simp, by simp⟩ h.on h.log (by simp) (by simp) rfl wr0 (by omega) h.top rfl ?_
  refine goLoad (o := OpS.mk 0 most 29 0 0 t 0 0 0 0 0 0 0) (k := 1) ⟨.inr ⟨by simp, by simp⟩, by simp, by simp⟩ h.on h.log (by simp) (by simp) rfl wr1 (by omega) h.bot ?_ (.done _ _)
  show (if (t : Int) < ((t + l.length : Nat) : Int) then OpS.ended 7 0 else OpS.ended 8 0) = _
  match l with
  | [] => simp
  | x :: l => rw [if_pos (by simp; omega), if_neg (by simp)]
theorem steal_none (h : Dq A most [] t a c) : Goes (OpS.mk 0 most 22 0 0 0 0 0 0 0 0 0 0) A 2 (OpS.ended 5 0) A := by
  have h2 := h.lt2
  refine goLoad (o := OpS.mk 0 most 22 0 0 0 0 0 0 0 0 0 0) (o1 := OpS.mk 0 most 23 0 0 t 0 0 0 0 0 0 0) (k := 0) ⟨.inr ⟨by simp, by simp⟩, by simp, by simp⟩ h.on h.log (by simp) (by simp) rfl wr0 (by omega) h.top rfl ?_
  refine goLoad (o := OpS.mk 0 most 23 0 0 t 0 0 0 0 0 0 0) (k := 1) ⟨.inr ⟨by simp, by simp⟩, by simp, by simp⟩ h.on h.log (by simp) (by simp) rfl wr1 (by omega) h.bot ?_ (.done _ _)
  show (if ((t + ([] : List Int).length : Nat) : Int) ≤ (t : Int) then OpS.ended 5 0 else _) = _
  exact if_pos (by simp)
end
end Go.Proofs.Ytaeooljfilkaeaa
