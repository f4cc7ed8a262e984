import Derived.Test.YtkancljbbhfpjaaFrLaw
import Derived.Test.YtkancljbbhfpjaaFrInv2
/-! FramesIds. -/
namespace Go.Proofs.Ytkancljbbhfpjaa
open Go.RowKit Go.HeapKit Go.IntWalk

/-- A new arena with a table in a block of its own. -/
structure LawS (w wr : World) (p g n : Nat) (F : Nat → Prop) (B : Ar) : Prop where
  ar : ArF wr p F B
  kp : Keeps None w wr
  lo : ∀ k, F k → w.heap.size ≤ k
  tab : wr.heap[g]? = some (.cells #[.int .i64 0, .int .i64 n] 23 (0, 0))
  off : ¬ F g
section
variable {w wr wx : World} {p g n : Nat} {F : Nat → Prop} {B C : Ar}
theorem LawS.lt (h : LawS w wr p g n F B) : g < wr.heap.size := (Array.getElem?_eq_some_iff.1 h.tab).1
theorem LawS.kept (h : LawS w wr p g n F B) (hk : Keeps None wr wx) : LawS w wx p g n F B :=
  ⟨h.ar.kept hk (fun _ _ f => f), h.kp.trans hk (fun _ f _ => f), h.lo, (hk.block _ h.lt (fun f => f)).trans h.tab, h.off⟩
theorem LawS.acc (h : LawS w wr p g n F B) (h2 : AA wr wx p F C) : ∃ F', LawS w wx p g n F' C := by
  obtain ⟨F2, g2, hk, hf⟩ := h2
  have hs := h.kp.size
  have hlt := h.lt
  refine ⟨F2, g2, h.kp.trans hk (fun i f hi => by have := h.lo i f; omega), fun k f => ?_, (hk.block _ hlt h.off).trans h.tab, fun f => ?_⟩
  · rcases hf k f with f | f
    · exact h.lo k f
    · omega
  · rcases hf g f with f | f
    · exact h.off f
    · omega
theorem LawS.cells (h : LawS w wr p g n F B) : wr.cell? ⟨g, 0, none⟩ = some (.int .i64 0) ∧ wr.cell? ⟨g, 1, none⟩ = some (.int .i64 n) := ⟨cell_of_block h.tab 0, cell_of_block h.tab 1⟩
end
/-- An arena of which i frames were asked for. -/
structure IdsA (n i : Nat) (B : Ar) : Prop where
  len : B.cells.length = 1 + 10 * n
  on : B.on = false
  log : B.log = []
  val : B.val 0 = (i : Nat)
theorem IdsA.start (n : Nat) : IdsA n 0 (tabA n) := ⟨tabA_len n, (tabA_rest n).1, (tabA_rest n).2.1, by rw [tabA_val, if_neg]; rfl; rintro ⟨f, h1, h2⟩; omega⟩
theorem IdsA.step {n i : Nat} {B : Ar} (h : IdsA n i B) (hn : 1 ≤ n) (hi : i ≤ 1000) : ∃ C, (allocO n).step B = (if i < n then OpF.ended 4 (i : Nat) else OpF.ended 3 0, C) ∧ IdsA n (i + 1) C := by
  have e := did_add B 0 1 (by rw [h.len]; omega) (by rw [h.val]; omega) (by rw [h.val]; omega)
  rw [h.val] at e
  refine ⟨(B.put 0 ((i : Int) + 1)).noted ⟨0, 3, ((0 : Nat) : Int), 1, (i : Int) + 1, true⟩, (step_of (by show ¬ (n : Int) = 0; omega) rfl ((acc_alloc B n).trans e)).trans ?_, ?_, ?_, ?_, ?_⟩
  · congr 1
    by_cases hlt : i < n
    · rw [if_pos hlt]
      have e3 : OpF.went (allocO n) ((i : Int) + 1) = OpF.ended 4 (wrap64 ((i : Int) + 1 - 1)) := (if_pos rfl).trans (if_pos ⟨by omega, by show (i : Int) + 1 ≤ (n : Int); omega⟩)
      rw [e3, wrap_small (by omega) (by omega)]
      congr 1
      omega
    · rw [if_neg hlt]
      exact (if_pos rfl).trans (if_neg (by show ¬ (1 ≤ (i : Int) + 1 ∧ (i : Int) + 1 ≤ (n : Int)); omega))
  · rw [cells_noted, len_put]; exact h.len
  · rw [on_noted]; exact h.on
  · unfold Ar.noted; rw [if_neg (by show ¬ B.on = true; rw [h.on]; simp)]; exact h.log
  · rw [val_noted, val_put _ _ _ _ (by rw [h.len]; omega)]; simp
set_option maxHeartbeats 4000000 in
set_option maxRecDepth 100000 in
theorem framesIds_walk (a b : Int) (w : World) : Calls Try.prog 5 #[.int .i64 a, .int .i64 b] w fun e w' => e = .returned (.bool true) ∧ Keeps None w w' := by
  have hm1 := mod8_any a 64 (by omega) (by omega)
  have hm2 := mod8_any b 200 (by omega) (by omega)
  obtain ⟨n, hn⟩ : ∃ n : Nat, (n : Int) = 1 + a % (64 : Nat) := ⟨(1 + a % (64 : Nat)).toNat, by omega⟩
  obtain ⟨k, hk⟩ : ∃ k : Nat, (k : Int) = b % (200 : Nat) := ⟨(b % (200 : Nat)).toNat, by omega⟩
  have hn64 : n ≤ 64 := by omega
  have hn1 : 1 ≤ n := by omega
  have hk2 : k ≤ 199 := by omega
  rw [← hk] at hm2
  obtain ⟨m, hm⟩ : ∃ m : Int, m = a % (64 : Nat) := ⟨_, rfl⟩
  rw [← hm] at hm1
  have e1 : 1 + m = (n : Int) := by omega
  have hm0 : 0 ≤ m ∧ m ≤ 63 := by omega
  have hcl := fcells_any n
  have ec : cellsV n = ((1 + 10 * n : Nat) : Int) := by unfold cellsV; rw [if_pos (by omega)]; omega
  rw [ec] at hcl
  have E1 : Hid (1 + m = (n : Int)) := e1
  clear hn hk hm e1 ec
  obtain ⟨hm01, hm02⟩ := hm0
  go_enter Try.func5, Try.ntmps5
  go_wp2_with fail
  refine (hm1 _).mono ?_
  rintro e w1 ⟨rfl, hw1⟩
  have hv1 := hw1.symm
  subst hv1
  clear hw1 hm1
  go_wp2_with fail
  refine (hm2 _).mono ?_
  rintro e w1 ⟨rfl, hw1⟩
  have hv1 := hw1.symm
  subst hv1
  clear hw1 hm2
  rw [E1.out]
  go_wp2_with fail
  refine (hcl _).mono ?_
  rintro e w1 ⟨rfl, hw1⟩
  have hv1 := hw1.symm
  subst hv1
  clear hw1 hcl
  go_wp2_with fail
  refine (newA_as _ (1 + 10 * n) (by omega) (by omega) _).mono ?_
  rintro e w2 ⟨rfl, F2, hF2, hk2', hf2⟩
  have hnew := fnew_fresh w.heap.size F2 n w2 hF2 ⟨hn1, by omega⟩
  have H2 : Hid _ := And.intro hk2' hf2
  clear hF2 hk2' hf2
  go_wp2_with fail
  refine hnew.mono ?_
  rintro e w3 ⟨rfl, F3, hF3, hk3, hf3⟩
  have HL : Hid (LawS w (w3.alloc (.cells #[.int .i64 0, .int .i64 n] 23)) w.heap.size w3.heap.size n F3 (tabA n)) := by
    obtain ⟨h1, h2⟩ := H2.out
    have hs := h1.size
    refine ⟨hF3.kept (Keeps.alloc None w3 _) (fun _ _ f => f), (h1.trans hk3 (fun i f hi => by have := h2 i f; omega)).andAlloc _, fun k f => ?_, new_at w3 _ _ rfl, fun f => by have := hF3.lt f; omega⟩
    rcases hf3 k f with f | f
    · exact h2 k f
    · omega
  clear hF3 hk3 hf3 H2 hnew
  go_wp2_with fail
  go_loopw [9] (fun s9 wr => ∃ i : Nat, i ≤ k + n ∧ s9 = .int .i64 i ∧ ∃ F B, LawS w wr w.heap.size w3.heap.size n F B ∧ IdsA n i B) (fun s9 _ => k + n - (intOf s9).toNat)
  case atStart => exact ⟨0, Nat.zero_le _, rfl, F3, tabA n, HL.out, IdsA.start n⟩
  case round =>
    obtain ⟨i, hi, rfl, F4, B, hL4, hB⟩ := hrel
    by_cases hik : i < k + n
    · have i1 : (i : Int) < (k : Int) + (n : Int) := by omega
      obtain ⟨C, hst, hC⟩ := hB.step hn1 (by omega)
      have hbeg : OpF.beg 0 0 n 0 0 0 = allocO n := beg_ok 0 n 0 0 0 (by omega) (by omega) (by omega) (by omega)
      have hal := newAlloc_any 0 n
      rw [hbeg] at hal
      have hfit : (allocO n).Fit := by rw [← hbeg]; exact OpF.fit_beg _ _ _ _ _ _ (by decide) (by decide)
      have hstp := fun w' (h : ArF w' w.heap.size F4 B) => fstep_any w.heap.size F4 B (allocO n) w' h (by rw [hB.log]; decide) hfit
      rw [hst] at hstp
      obtain ⟨t0, t1⟩ := hL4.cells
      have HL4 : Hid _ := hL4
      have HC : Hid _ := hC
      clear hL4 hst hbeg hfit hB
      by_cases hin : i < n
      · rw [if_pos hin] at hstp
        have j1 : (i : Int) < (n : Int) := by omega
        have j2 : ¬ (n : Int) ≤ (i : Int) := by omega
        simp only [OpF.value, OpF.vals, OpF.ended, allocO] at hstp hal
        go_wp2_with fail
        refine (hal _).mono ?_
        rintro e w5 ⟨rfl, hk5⟩
        have hL5 := HL4.out.kept hk5
        go_wp2_with fail
        refine (hstp _ hL5.ar).mono ?_
        rintro e w6 ⟨rfl, hA6⟩
        obtain ⟨F6, hL6⟩ := hL5.acc hA6
        have HL6 : Hid _ := hL6.kept (Keeps.alloc None w6 (.cells #[.int .i64 0, .int .i64 0, .int .i64 4, .int .i64 0, .int .i64 0, .int .i64 0, .int .i64 0, .int .i64 i] 28))
        clear hL5 hL6 hA6 hk5 HL4
        go_wp2_with fail
        refine (answer_end 0 0 4 0 0 0 0 i (by decide) _).mono ?_
        rintro e w7 ⟨rfl, hk7⟩
        have HL7 : Hid _ := HL6.out.kept hk7
        clear hk7 HL6
        go_wp2_with fail
        go_roundw
        case rel => exact ⟨i + 1, by omega, by go_num, F6, C, HL7.out, HC.out⟩
        case measure => simp only [intOf]; omega
      · rw [if_neg hin] at hstp
        have j1 : ¬ (i : Int) < (n : Int) := by omega
        have j2 : (n : Int) ≤ (i : Int) := by omega
        simp only [OpF.value, OpF.vals, OpF.ended, allocO] at hstp hal
        go_wp2_with fail
        refine (hal _).mono ?_
        rintro e w5 ⟨rfl, hk5⟩
        have hL5 := HL4.out.kept hk5
        go_wp2_with fail
        refine (hstp _ hL5.ar).mono ?_
        rintro e w6 ⟨rfl, hA6⟩
        obtain ⟨F6, hL6⟩ := hL5.acc hA6
        have HL6 : Hid _ := hL6.kept (Keeps.alloc None w6 (.cells #[.int .i64 0, .int .i64 0, .int .i64 3, .int .i64 0, .int .i64 0, .int .i64 0, .int .i64 0, .int .i64 0] 28))
        clear hL5 hL6 hA6 hk5 HL4
        go_wp2_with fail
        refine (answer_end 0 0 3 0 0 0 0 0 (by decide) _).mono ?_
        rintro e w7 ⟨rfl, hk7⟩
        have HL7 : Hid _ := HL6.out.kept hk7
        clear hk7 HL6
        go_wp2_with fail
        go_roundw
        case rel => exact ⟨i + 1, by omega, by go_num, F6, C, HL7.out, HC.out⟩
        case measure => simp only [intOf]; omega
    · have i1 : ¬ (i : Int) < (k : Int) + (n : Int) := by omega
      have HL4 : Hid _ := hL4
      clear hL4 hB
      go_wp2_with fail
      go_ret
      exact ⟨rfl, HL4.out.kp⟩
end Go.Proofs.Ytkancljbbhfpjaa
