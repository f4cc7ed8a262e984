import Derived.Test.YtlligclkoecknaaFrIds
import Derived.Deep.RegionHeld3
import Derived.Deep.DeepCutAuto
import Derived.Deep.QuietTactic
import Derived.BigQuiet
/-! FramesCount. -/
namespace Go.Proofs.Ytlligclkoecknaa
open Go.RowKit Go.HeapKit Go.IntWalk

/-- The arena of one frame, unwatched: JOIN, the slots. -/
structure CA (J : Int) (sl : Nat → Int) (B : Ar) : Prop where
  len : B.cells.length = 11
  on : B.on = false
  log : B.log = []
  join : B.val 1 = J
  slot : ∀ j, j < 8 → B.val (3 + j) = sl j
section
variable {J : Int} {sl : Nat → Int} {B : Ar}
theorem CA.start : CA 1 (fun _ => 0) (tabA 1) :=
  ⟨tabA_len 1, (tabA_rest 1).1, (tabA_rest 1).2.1, by rw [tabA_val, if_pos ⟨0, by omega, by omega⟩], fun j hj => by rw [tabA_val, if_neg]; rintro ⟨f, h1, h2⟩; omega⟩
theorem CA.note (h : CA J sl B) (x : Acc) : CA J sl (B.noted x) :=
  ⟨by rw [cells_noted]; exact h.len, by rw [on_noted]; exact h.on, by unfold Ar.noted; rw [if_neg (by rw [h.on]; simp)]; exact h.log, by rw [val_noted]; exact h.join, fun j hj => by rw [val_noted]; exact h.slot j hj⟩
theorem CA.put1 (h : CA J sl B) (v : Int) : CA v sl (B.put 1 v) :=
  ⟨by rw [len_put]; exact h.len, h.on, h.log, by rw [val_put _ _ _ _ (by rw [h.len]; omega), if_pos rfl], fun j hj => by rw [val_put _ _ _ _ (by rw [h.len]; omega), if_neg (by omega)]; exact h.slot j hj⟩
theorem CA.put3 (h : CA J sl B) (k : Nat) (hk : k < 8) (v : Int) : CA J (upd sl k v) (B.put (3 + k) v) :=
  ⟨by rw [len_put]; exact h.len, h.on, h.log, by rw [val_put _ _ _ _ (by rw [h.len]; omega), if_neg (by omega)]; exact h.join, fun j hj => by
    rw [val_put _ _ _ _ (by rw [h.len]; omega)]
    unfold upd
    by_cases e : j = k
    · rw [if_pos (by omega), if_pos e]
    · rw [if_neg (by omega), if_neg e]; exact h.slot j hj⟩
theorem CA.fork (h : CA J sl B) (h1 : 0 ≤ J) (h2 : J ≤ 100) : ∃ C, (forkO 1).step B = (OpF.ended 9 (J + 1), C) ∧ CA (J + 1) sl C := by
  have e := did_add B 1 1 (by rw [h.len]; omega) (by rw [h.join]; omega) (by rw [h.join]; omega)
  rw [h.join] at e
  refine ⟨_, ?_, (h.put1 (J + 1)).note ⟨0, 3, ((1 : Nat) : Int), 1, J + 1, true⟩⟩
  rw [step_of (by show ¬ ((1 : Nat) : Int) = 0; omega) rfl ((acc_fork B 1).trans e)]
  simp [OpF.went, forkO]
theorem CA.sync (h : CA J sl B) (h1 : 0 ≤ J) (h2 : J ≤ 100) : ∃ C, (syncO 1 0).step B = (if J - 1 = 0 then syncO 1 1 else OpF.ended 12 (J - 1), C) ∧ CA (J - 1) sl C := by
  have e := did_add B 1 (-1) (by rw [h.len]; omega) (by rw [h.join]; omega) (by rw [h.join]; omega)
  rw [h.join, show J + -1 = J - 1 by omega] at e
  refine ⟨_, ?_, (h.put1 (J - 1)).note ⟨0, 3, ((1 : Nat) : Int), -1, J - 1, true⟩⟩
  rw [step_of (by show ¬ ((1 : Nat) : Int) = 0; omega) rfl ((acc_sync0 B 1).trans e)]
  simp [OpF.went, syncO]
theorem CA.leave (h : CA J sl B) (j : Nat) (v : Int) (h1 : 0 ≤ J) (h2 : J ≤ 100) : ∃ C, (finO 1 j 1 v).step B = (if J - 1 = 0 then finO 1 j 2 v else OpF.ended 10 (J - 1), C) ∧ CA (J - 1) sl C := by
  have e := did_add B 1 (-1) (by rw [h.len]; omega) (by rw [h.join]; omega) (by rw [h.join]; omega)
  rw [h.join, show J + -1 = J - 1 by omega] at e
  refine ⟨_, ?_, (h.put1 (J - 1)).note ⟨0, 3, ((1 : Nat) : Int), -1, J - 1, true⟩⟩
  rw [step_of (by show ¬ ((1 : Nat) : Int) = 0; omega) rfl ((acc_fin1 B 1 j v).trans e)]
  simp [OpF.went, finO]
theorem CA.back (h : CA J sl B) : ∃ C, (syncO 1 1).step B = (OpF.ended 13 0, C) ∧ CA 1 sl C := by
  have e := did_store B 1 1 (by rw [h.len]; omega)
  refine ⟨_, ?_, (h.put1 1).note ⟨0, 1, ((1 : Nat) : Int), 1, 0, true⟩⟩
  rw [step_of (by show ¬ ((1 : Nat) : Int) = 0; omega) rfl ((acc_sync1 B 1).trans e)]
  simp [OpF.went, syncO]
theorem CA.last (h : CA J sl B) (j : Nat) (v : Int) : ∃ C, (finO 1 j 2 v).step B = (OpF.ended 11 0, C) ∧ CA 1 sl C := by
  have e := did_store B 1 1 (by rw [h.len]; omega)
  refine ⟨_, ?_, (h.put1 1).note ⟨0, 1, ((1 : Nat) : Int), 1, 0, true⟩⟩
  rw [step_of (by show ¬ ((1 : Nat) : Int) = 0; omega) rfl ((acc_fin2 B 1 j v).trans e)]
  simp [OpF.went, finO]
theorem CA.store (h : CA J sl B) (j : Nat) (v : Int) (hj : j < 8) : ∃ C, (finO 1 j 0 v).step B = (finO 1 j 1 v, C) ∧ CA J (upd sl j v) C := by
  have e := did_store B (3 + j) v (by rw [h.len]; omega)
  refine ⟨_, ?_, (h.put3 j hj v).note ⟨0, 1, ((3 + j : Nat) : Int), v, 0, true⟩⟩
  rw [step_of (by show ¬ ((1 : Nat) : Int) = 0; omega) rfl ((acc_fin0 B 1 j v hj).trans e)]
  simp [OpF.went, finO]
theorem CA.fetch (h : CA J sl B) (j : Nat) (hj : j < 8) : ∃ C, (fetchO 1 j).step B = (OpF.ended 15 (sl j), C) ∧ CA J sl C := by
  have e := did_load B (3 + j) (by rw [h.len]; omega)
  rw [h.slot j hj] at e
  refine ⟨_, ?_, h.note ⟨0, 0, ((3 + j : Nat) : Int), sl j, 0, true⟩⟩
  rw [step_of (by show ¬ ((1 : Nat) : Int) = 0; omega) rfl ((acc_fetch B 1 j hj).trans e)]
  simp [OpF.went, fetchO]
end
/-- What is common to a sync and to a finish that has left its value. -/
structure Leaves (o : OpF) (more last : Int) : Prop where
  fit : o.Fit
  m0 : more ≠ 0
  l0 : last ≠ 0
  go : ∃ o2 : OpF, o2.Fit ∧ o2.code = 0 ∧ ¬ o2.frames = 0 ∧ (∀ (J : Int) (sl : Nat → Int) (B : Ar), CA J sl B → 0 ≤ J → J ≤ 100 → ∃ C, o.step B = (if J - 1 = 0 then o2 else OpF.ended more (J - 1), C) ∧ CA (J - 1) sl C) ∧
    ∀ (J : Int) (sl : Nat → Int) (B : Ar), CA J sl B → ∃ C, o2.step B = (OpF.ended last 0, C) ∧ CA 1 sl C
theorem fit_run (k m : Nat) (sl : Nat) (v : Int) (hk : k ≤ 5) (hm : m ≤ 2) (hs : sl < 8) : (OpF.mk 0 ((1 : Nat) : Int) 0 k m 0 sl v).Fit :=
  ⟨fun _ => .inr ⟨⟨⟨by simp, by simp, by simp⟩, by simp, by simp, by simp, by show (sl : Int) < 8; omega⟩, by show (0 : Int) ≤ k; omega, by show (k : Int) ≤ 5; omega, by show (0 : Int) ≤ m; omega, by show (m : Int) ≤ 2; omega⟩⟩
theorem leaves_sync : Leaves (syncO 1 0) 12 13 :=
  ⟨fit_run 3 0 0 0 (by omega) (by omega) (by omega), by decide, by decide, syncO 1 1, fit_run 3 1 0 0 (by omega) (by omega) (by omega), rfl, by show ¬ ((1 : Nat) : Int) = 0; omega, fun _ _ _ h h1 h2 => h.sync h1 h2, fun _ _ _ h => h.back⟩
theorem leaves_fin (j : Nat) (v : Int) (hj : j < 8) : Leaves (finO 1 j 1 v) 10 11 :=
  ⟨fit_run 2 1 j v (by omega) (by omega) hj, by decide, by decide, finO 1 j 2 v, fit_run 2 2 j v (by omega) (by omega) hj, rfl, by show ¬ ((1 : Nat) : Int) = 0; omega, fun _ _ _ h h1 h2 => h.leave j v h1 h2, fun _ _ _ h => h.last j v⟩
/-- The law's state with an op in a block of its own. -/
structure CntS (W0 wr : World) (p g X : Nat) (o : OpF) (F : Nat → Prop) (B : Ar) : Prop where
  law : LawS W0 wr p g 1 F B
  box : wr.heap[X]? = some (.cells o.vals 39 (0, 0))
  lo : W0.heap.size ≤ X
  off : ¬ F X
section
variable {W0 wr wx : World} {p g X : Nat} {o o2 : OpF} {F : Nat → Prop} {B C : Ar}
theorem CntS.lt (h : CntS W0 wr p g X o F B) : X < wr.heap.size := (Array.getElem?_eq_some_iff.1 h.box).1
theorem CntS.ne (h : CntS W0 wr p g X o F B) : X ≠ g := fun e => by
  have h1 := h.box
  have h2 := h.law.tab
  rw [e, h2] at h1
  injection h1 with h1
  injection h1 with _ h1
  exact absurd h1 (by decide)
theorem CntS.kept (h : CntS W0 wr p g X o F B) (hk : Keeps None wr wx) : CntS W0 wx p g X o F B :=
  ⟨h.law.kept hk, (hk.block _ h.lt (fun f => f)).trans h.box, h.lo, h.off⟩
theorem CntS.acc (h : CntS W0 wr p g X o F B) (h2 : AA wr wx p F C) : ∃ F', CntS W0 wx p g X o F' C := by
  obtain ⟨F1, hL⟩ := h.law.acc h2
  obtain ⟨F2, g2, hk, hf⟩ := h2
  have hs := h.lt
  refine ⟨F2, ⟨g2, hL.kp, fun k f => ?_, hL.tab, fun f => ?_⟩, (hk.block _ hs h.off).trans h.box, h.lo, fun f => ?_⟩
  · rcases hf k f with f | f
    · exact h.law.lo k f
    · have := h.law.kp.size; omega
  · rcases hf g f with f | f
    · exact h.law.off f
    · have := h.law.lt; omega
  · rcases hf X f with f | f
    · exact h.off f
    · omega
theorem CntS.set (h : CntS W0 wr p g X o F B) (hk : Keeps (· = X) wr wx) (hb : wx.heap[X]? = some (.cells o2.vals 39 (0, 0))) : CntS W0 wx p g X o2 F B :=
  ⟨⟨h.law.ar.kept hk (fun k f e => h.off (e ▸ f)), h.law.kp.trans hk (fun i e hi => by have := h.lo; omega), h.law.lo, (hk.block _ h.law.lt (fun e => h.ne e.symm)).trans h.law.tab, h.law.off⟩, hb, h.lo, h.off⟩
end
end Go.Proofs.Ytlligclkoecknaa
