import Derived.Test.YtlligclkoecknaaFrInv
/-! The steps of a play's ops. -/
namespace Go.Proofs.Ytlligclkoecknaa
open Go.RowKit Go.HeapKit Go.IntWalk

theorem join0 : joinAt 0 0 = ((1 : Nat) : Int) := join_at 0 (by omega)
section
variable {A : Ar} {F : Nat} {t J : Int} {mk sl : Nat → Int}
theorem acc_alloc (A : Ar) (F : Nat) : (allocO F).acc A = A.did 3 ((0 : Nat) : Int) 1 0 := by simp [OpF.acc, allocO]
theorem acc_fork (A : Ar) (F : Nat) : (forkO F).acc A = A.did 3 ((1 : Nat) : Int) 1 0 := by simp [OpF.acc, forkO, join0]
theorem acc_start (A : Ar) (F c : Nat) (h : c ≤ 4096) : (startO F c).acc A = A.did 3 ((2 + 10 * c : Nat) : Int) 1 0 := by simp [OpF.acc, startO, mark_at c h]
theorem acc_fetch (A : Ar) (F j : Nat) (h : j < 8) : (fetchO F j).acc A = A.did 0 ((3 + j : Nat) : Int) 0 0 := by simp [OpF.acc, fetchO, slot_at j h]
theorem acc_sync0 (A : Ar) (F : Nat) : (syncO F 0).acc A = A.did 3 ((1 : Nat) : Int) (-1) 0 := by simp [OpF.acc, syncO, join0]
theorem acc_sync1 (A : Ar) (F : Nat) : (syncO F 1).acc A = A.did 1 ((1 : Nat) : Int) 1 0 := by simp [OpF.acc, syncO, join0]
theorem acc_fin0 (A : Ar) (F j : Nat) (v : Int) (h : j < 8) : (finO F j 0 v).acc A = A.did 1 ((3 + j : Nat) : Int) v 0 := by simp [OpF.acc, finO, slot_at j h]
theorem acc_fin1 (A : Ar) (F j : Nat) (v : Int) : (finO F j 1 v).acc A = A.did 3 ((1 : Nat) : Int) (-1) 0 := by simp [OpF.acc, finO, join0]
theorem acc_fin2 (A : Ar) (F j : Nat) (v : Int) : (finO F j 2 v).acc A = A.did 1 ((1 : Nat) : Int) 1 0 := by simp [OpF.acc, finO, join0]

theorem stp_alloc (h : MemP A F t J mk sl) (h1 : 0 ≤ t) (h2 : t + 1 ≤ F) (h3 : F ≤ 4096) : (allocO F).step A = (OpF.ended 4 t, (A.put 0 (t + 1)).noted ⟨0, 3, ((0 : Nat) : Int), 1, t + 1, true⟩) := by
  have hp := h.pos
  have e := did_add A 0 1 (by rw [h.len]; omega) (by rw [h.next]; omega) (by rw [h.next]; omega)
  rw [h.next] at e
  rw [step_of (by show ¬ (F : Int) = 0; omega) rfl ((acc_alloc A F).trans e)]
  have e2 : wrap64 (t + 1 - 1) = t := by rw [wrap_small (by omega) (by omega)]; omega
  have e3 : OpF.went (allocO F) (t + 1) = OpF.ended 4 (wrap64 (t + 1 - 1)) := (if_pos rfl).trans (if_pos ⟨by omega, h2⟩)
  rw [e3, e2]
theorem stp_fork (h : MemP A F t J mk sl) (h1 : 0 ≤ J) (h2 : J ≤ 100) : (forkO F).step A = (OpF.ended 9 (J + 1), (A.put 1 (J + 1)).noted ⟨0, 3, ((1 : Nat) : Int), 1, J + 1, true⟩) := by
  have hp := h.pos
  have e := did_add A 1 1 (by rw [h.len]; omega) (by rw [h.join]; omega) (by rw [h.join]; omega)
  rw [h.join] at e
  rw [step_of (by show ¬ (F : Int) = 0; omega) rfl ((acc_fork A F).trans e)]
  simp [OpF.went, forkO]
theorem stp_start (h : MemP A F t J mk sl) (c : Nat) (hc : c < F) (hF : F ≤ 4096) (h1 : mk c = 0) : (startO F c).step A = (OpF.ended 14 1, (A.put (2 + 10 * c) 1).noted ⟨0, 3, ((2 + 10 * c : Nat) : Int), 1, 1, true⟩) := by
  have hp := h.pos
  have hm := h.mark c hc
  have e := did_add A (2 + 10 * c) 1 (by rw [h.len]; omega) (by rw [hm]; omega) (by rw [hm]; omega)
  rw [hm, h1] at e
  rw [step_of (by show ¬ (F : Int) = 0; omega) rfl ((acc_start A F c (by omega)).trans e)]
  simp [OpF.went, startO]
theorem stp_fetch (h : MemP A F t J mk sl) (j : Nat) (hj : j < 8) : (fetchO F j).step A = (OpF.ended 15 (sl j), A.noted ⟨0, 0, ((3 + j : Nat) : Int), sl j, 0, true⟩) := by
  have hp := h.pos
  have hm := h.slot j hj
  have e := did_load A (3 + j) (by rw [h.len]; omega)
  rw [hm] at e
  rw [step_of (by show ¬ (F : Int) = 0; omega) rfl ((acc_fetch A F j hj).trans e)]
  simp [OpF.went, fetchO]
theorem stp_sync (h : MemP A F t J mk sl) (h1 : 0 ≤ J) (h2 : J ≤ 100) : (syncO F 0).step A = (if J - 1 = 0 then syncO F 1 else OpF.ended 12 (J - 1), (A.put 1 (J - 1)).noted ⟨0, 3, ((1 : Nat) : Int), -1, J - 1, true⟩) := by
  have hp := h.pos
  have e := did_add A 1 (-1) (by rw [h.len]; omega) (by rw [h.join]; omega) (by rw [h.join]; omega)
  rw [h.join, show J + -1 = J - 1 by omega] at e
  rw [step_of (by show ¬ (F : Int) = 0; omega) rfl ((acc_sync0 A F).trans e)]
  simp [OpF.went, syncO]
theorem stp_back (h : MemP A F t J mk sl) : (syncO F 1).step A = (OpF.ended 13 0, (A.put 1 1).noted ⟨0, 1, ((1 : Nat) : Int), 1, 0, true⟩) := by
  have hp := h.pos
  have e := did_store A 1 1 (by rw [h.len]; omega)
  rw [step_of (by show ¬ (F : Int) = 0; omega) rfl ((acc_sync1 A F).trans e)]
  simp [OpF.went, syncO]
theorem stp_store (h : MemP A F t J mk sl) (j : Nat) (v : Int) (hj : j < 8) : (finO F j 0 v).step A = (finO F j 1 v, (A.put (3 + j) v).noted ⟨0, 1, ((3 + j : Nat) : Int), v, 0, true⟩) := by
  have hp := h.pos
  have e := did_store A (3 + j) v (by rw [h.len]; omega)
  rw [step_of (by show ¬ (F : Int) = 0; omega) rfl ((acc_fin0 A F j v hj).trans e)]
  simp [OpF.went, finO]
theorem stp_leave (h : MemP A F t J mk sl) (j : Nat) (v : Int) (h1 : 0 ≤ J) (h2 : J ≤ 100) : (finO F j 1 v).step A = (if J - 1 = 0 then finO F j 2 v else OpF.ended 10 (J - 1), (A.put 1 (J - 1)).noted ⟨0, 3, ((1 : Nat) : Int), -1, J - 1, true⟩) := by
  have hp := h.pos
  have e := did_add A 1 (-1) (by rw [h.len]; omega) (by rw [h.join]; omega) (by rw [h.join]; omega)
  rw [h.join, show J + -1 = J - 1 by omega] at e
  rw [step_of (by show ¬ (F : Int) = 0; omega) rfl ((acc_fin1 A F j v).trans e)]
  simp [OpF.went, finO]
theorem stp_last (h : MemP A F t J mk sl) (j : Nat) (v : Int) : (finO F j 2 v).step A = (OpF.ended 11 0, (A.put 1 1).noted ⟨0, 1, ((1 : Nat) : Int), 1, 0, true⟩) := by
  have hp := h.pos
  have e := did_store A 1 1 (by rw [h.len]; omega)
  rw [step_of (by show ¬ (F : Int) = 0; omega) rfl ((acc_fin2 A F j v).trans e)]
  simp [OpF.went, finO]
end
theorem ans_ended (c v : Int) (hc : c ≠ 0) : (OpF.ended c v).ans = (c, v) := by
  unfold OpF.ans
  rw [if_neg (fun e => hc (by have := congrArg OpF.code e; exact this)), if_neg (show ¬ (OpF.ended c v).code = 0 from hc)]
  rfl
theorem ans_run {o : OpF} (hf : ¬ o.frames = 0) (hc : o.code = 0) : o.ans = (0, 0) := by
  unfold OpF.ans
  rw [if_neg (fun e => hf (by rw [e]; rfl)), if_pos hc]

/-- A pick, once the step is known. -/
theorem pick_of {S : Pl} {i : Nat} {a : Actr} {o : OpF} {B : Ar} {c v : Int} (ha : S.alive.getD i default = a) (hs : a.op.step { S.A with actor := a.num } = (o, B)) (hc : o.ans = (c, v)) :
    S.went i = (o, B) ∧ S.pick i = ({ S with A := B, alive := S.alive.set i { a with op := o } } : Pl).after i { a with op := o } c v := by
  have hw : S.went i = (o, B) := by unfold Pl.went; rw [ha]; exact hs
  refine ⟨hw, ?_⟩
  unfold Pl.pick
  rw [hw, ha]
  simp only [hc]
theorem after_0 (S : Pl) (i : Nat) (a : Actr) (v : Int) : S.after i a 0 v = S := by simp [Pl.after]
theorem after_4 (S : Pl) (i : Nat) (a : Actr) (v : Int) : S.after i a 4 v = Pl.put i a (S.taken v) := by simp [Pl.after]
theorem after_14 (S : Pl) (i : Nat) (a : Actr) (v : Int) : S.after i a 14 v = if a.num = 0 then Pl.put i a S.nextFork else Pl.put i a (S, a.fin) := by simp [Pl.after]
theorem after_9 (S : Pl) (i : Nat) (a : Actr) (v : Int) : S.after i a 9 v = (Pl.put i a ({ S with forked := S.forked + 1 } : Pl).nextFork).join (OpF.beg 4 0 S.frames S.child 0 0) (OpF.beg 2 0 S.frames 0 S.forked (100 * S.round + S.forked : Nat)) := by simp [Pl.after]
theorem after_13 (S : Pl) (i : Nat) (a : Actr) (v : Int) : S.after i a 13 v = Pl.put i a ({ S with holders := S.holders ++ [a.num], reads := S.reads ++ [[]] } : Pl).nextFetch := by simp [Pl.after]
theorem after_11 (S : Pl) (i : Nat) (a : Actr) (v : Int) : S.after i a 11 v = Pl.put i a ({ S with holders := S.holders ++ [a.num], reads := S.reads ++ [[]] } : Pl).nextFetch := by simp [Pl.after]
theorem after_15 (S : Pl) (i : Nat) (a : Actr) (v : Int) : S.after i a 15 v = Pl.put i a ({ S with reads := S.reads.set S.round (S.reads.getD S.round [] ++ [v]) } : Pl).nextFetch := by simp [Pl.after]
theorem after_12 (S : Pl) (i : Nat) (a : Actr) (v : Int) : S.after i a 12 v = { S with alive := S.alive.eraseIdx i } := by simp [Pl.after]
theorem after_10 (S : Pl) (i : Nat) (a : Actr) (v : Int) : S.after i a 10 v = { S with alive := S.alive.eraseIdx i } := by simp [Pl.after]
end Go.Proofs.Ytlligclkoecknaa
