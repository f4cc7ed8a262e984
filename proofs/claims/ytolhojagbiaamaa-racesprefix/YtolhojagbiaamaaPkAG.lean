import Derived.Test.YtolhojagbiaamaaPkAF
import Derived.Test.YtolhojagbiaamaaPkAB
/-! Parallel: the program's and the document's. -/
namespace Go.Proofs.Ytolhojagbiaamaa
set_option linter.unusedVariables false
set_option maxRecDepth 20000
set_option linter.unusedSimpArgs false
open Go.RowKit Go.HeapKit

theorem chk_fine {l : List Dd} (h : chkE l = 0) : l.length ≤ 4096 ∧ Fine l := by
  by_cases h1 : l.length > 4096
  · rw [(chk_long h1).1] at h; omega
  · refine ⟨by omega, ⟨?_⟩⟩
    cases hc : chkL l 0 0 with
    | none => rfl
    | some i => rw [(chk_some h1 hc).1] at h; omega
/-- Is the number of a deed told? -/
def outI (l : List Dd) (i : Int) : Bool := decide (i < 0) || decide (i ≥ (l.length : Int))
def parE (l : List Dd) (i j : Int) : Int := if chkE l = 0 then (if (outI l i || outI l j) = true then 3 else 0) else chkE l
def parB (l : List Dd) (i j : Int) : Bool := if chkE l = 0 ∧ (outI l i || outI l j) = false then decide ((Lof (stN l l.length)).idxOf (max i.toNat j.toNat) < (Lof (stN l l.length)).idxOf (min i.toNat j.toNat)) else false
theorem par_bad {l : List Dd} {i j : Int} (h : ¬ chkE l = 0) : parB l i j = false ∧ parE l i j = chkE l := ⟨by unfold parB; rw [if_neg (fun e => h e.1)], by unfold parE; rw [if_neg h]⟩
theorem par_out {l : List Dd} {i j : Int} (h : chkE l = 0) (ho : (outI l i || outI l j) = true) : parB l i j = false ∧ parE l i j = 3 := ⟨by unfold parB; rw [if_neg (fun e => by rw [ho] at e; exact absurd e.2 (by decide))], by unfold parE; rw [if_pos h, if_pos ho]⟩
theorem par_in {l : List Dd} {i j : Nat} (h : chkE l = 0) (hi : i < l.length) (hj : j < l.length) : parB l i j = decide ((Lof (stN l l.length)).idxOf (max i j) < (Lof (stN l l.length)).idxOf (min i j)) ∧ parE l i j = 0 := by
  have ho : (outI l i || outI l j) = false := by unfold outI; simp; omega
  refine ⟨by unfold parB; rw [if_pos ⟨h, ho⟩]; simp, by unfold parE; rw [if_pos h, ho]; rfl⟩
theorem par_eq {l : List Dd} {i j : Int} {b : Bool} {e : Int} (h : parB l i j = b ∧ parE l i j = e) : Ending.returned (.tuple #[.bool b, .int .i64 e]) = Ending.returned (.tuple #[.bool (parB l i j), .int .i64 (parE l i j)]) := by rw [h.1, h.2]
set_option maxHeartbeats 4000000 in
theorem parallel_ok (a : Option Addr) (n c : Nat) (l : List Dd) (i j : Int) (w : World) (hS : Seen w a n l) :
    Calls Try.prog 14 #[.slice a n c, .int .i64 i, .int .i64 j] w fun e w' => e = .returned (.tuple #[.bool (parB l i j), .int .i64 (parE l i j)]) ∧ Keeps None w w' := by
  have HS : Hid (Seen w a n l) := hS
  have HLen : Hid (n = l.length) := hS.len
  clear hS
  go_enter Try.func14, Try.ntmps14
  go_upto_region 2 with (go_at_call 10; refine Calls.mono (check_raw a n c l w HS.out) ?_; rintro _ w1 ⟨rfl, hk1⟩)
  obtain ⟨E, hE⟩ : ∃ E, E = chkE l := ⟨_, rfl⟩
  obtain ⟨A1, hA1⟩ : ∃ A1, A1 = chkA l := ⟨_, rfl⟩
  rw [← hE, ← hA1]
  have b2 := heap_alloc_new w1 (.cells #[.int .i64 E, .int .i64 A1] 26)
  have k2 := hk1.andAlloc (.cells #[.int .i64 E, .int .i64 A1] 26)
  obtain ⟨w2, hw2⟩ : ∃ w2, w2 = w1.alloc (.cells #[.int .i64 E, .int .i64 A1] 26) := ⟨_, rfl⟩
  obtain ⟨B, hB⟩ : ∃ B, B = w1.heap.size := ⟨_, rfl⟩
  rw [← hw2] at b2 k2
  rw [← hB] at b2
  rw [← hw2, ← hB]
  have g0 : w2.cell? ⟨B, 0, none⟩ = some (.int .i64 E) := cell_of_heap b2 0
  have HK : Hid (Keeps None w w2) := k2
  have HE : Hid (chkE l = E) := hE.symm
  clear b2 k2 hw2 hB hE hA1 hk1
  by_cases hE0 : E = 0
  · subst hE0
    obtain ⟨hn, hf⟩ := chk_fine HE.out
    have hn2 : n ≤ 4096 := by rw [HLen.out]; exact hn
    have HP : Hid _ := parentsFirst_ok a n c l w2 (HS.out.more HK.out) hf hn2
    obtain ⟨d, _, _, hI⟩ := hf.at l.length (Nat.le_refl _)
    have HI : Hid (Inv l l.length) := hI
    clear hn hf hI
    by_cases ho : (outI l i || outI l j) = true
    · have HO : Hid _ := par_out HE.out ho
      have hmm : min i j < 0 ∨ (¬ min i j < 0 ∧ max i j ≥ (n : Int)) := by
        have := HLen.out
        unfold outI at ho
        simp at ho
        omega
      clear ho HP HI
      rcases hmm with hm | ⟨hm, hx⟩
      · go_wp2
        all_goals (go_ret2; exact ⟨par_eq HO.out, HK.out⟩)
      · go_wp2
        all_goals (go_ret2; exact ⟨par_eq HO.out, HK.out⟩)
    · obtain ⟨i', rfl, hi'⟩ : ∃ i' : Nat, i = i' ∧ i' < l.length := by
        refine ⟨i.toNat, ?_, ?_⟩ <;> (unfold outI at ho; simp at ho; omega)
      obtain ⟨j', rfl, hj'⟩ : ∃ j' : Nat, j = j' ∧ j' < l.length := by
        refine ⟨j.toNat, ?_, ?_⟩ <;> (unfold outI at ho; simp at ho; omega)
      have HV : Hid _ := par_in HE.out hi' hj'
      have i1 : ((i' : Nat) : Int) < (n : Int) := by rw [HLen.out]; omega
      have i2 : ((j' : Nat) : Int) < (n : Int) := by rw [HLen.out]; omega
      have hin : ∀ q, q < l.length → q ∈ Lof (stN l l.length) := fun q hq => (HI.out.all q).2 hq
      have HIN : Hid (i' ∈ Lof (stN l n) ∧ j' ∈ Lof (stN l n)) := by rw [HLen.out]; exact ⟨hin i' hi', hin j' hj'⟩
      clear ho hi' hj' hin HI
      rcases Nat.lt_trichotomy i' j' with hij | hij | hij
      · skip
        have f1 : (i' : Int) < (j' : Int) := by omega
        have f2 : ¬ (j' : Int) < (i' : Int) := by omega
        have f3 : (i' : Int) ≤ (j' : Int) := by omega
        have f4 : ¬ (j' : Int) ≤ (i' : Int) := by omega
        have f5 : ¬ j' ≤ i' := by omega
        have f6 : ¬ j' < i' := by omega
        have f7 : i' ≤ j' := by omega
        have hmm : max i' j' = j' ∧ min i' j' = i' := by omega
        have HMM : Hid (max i' j' = j' ∧ min i' j' = i') := hmm
        clear hmm
        go_wp2_with (first
          | (go_at_call 35; refine Calls.mono HP.out ?_; rintro _ w3 ⟨g, c3, rfl, hr3, hk3⟩)
          | (go_at_call 34; refine Calls.mono (swapped_ok g n c3 _ (Lof (stN l n)) i' j' w3 hr3 HIN.out.1 HIN.out.2 hn2) ?_; rintro _ w4 ⟨rfl, hw4⟩; have hw4' := hw4.symm; subst hw4'))
        go_ret2
        refine ⟨?_, HK.out.trans hk3 (fun _ f _ => f)⟩
        rw [HV.out.1, HV.out.2, HMM.out.1, HMM.out.2, HLen.out]
        first
          | rfl
          | (simp only [Nat.lt_irrefl, decide_false]; rfl)
      · subst hij
        have hmm : max i' i' = i' ∧ min i' i' = i' := by omega
        have HMM : Hid (max i' i' = i' ∧ min i' i' = i') := hmm
        clear hmm
        go_wp2_with (first
          | (go_at_call 35; refine Calls.mono HP.out ?_; rintro _ w3 ⟨g, c3, rfl, hr3, hk3⟩)
          | (go_at_call 34; refine Calls.mono (swapped_ok g n c3 _ (Lof (stN l n)) i' i' w3 hr3 HIN.out.1 HIN.out.1 hn2) ?_; rintro _ w4 ⟨rfl, hw4⟩; have hw4' := hw4.symm; subst hw4'))
        go_ret2
        refine ⟨?_, HK.out.trans hk3 (fun _ f _ => f)⟩
        rw [HV.out.1, HV.out.2, HMM.out.1, HMM.out.2, HLen.out]
        first
          | rfl
          | (simp only [Nat.lt_irrefl, decide_false]; rfl)
      · skip
        have f1 : (j' : Int) < (i' : Int) := by omega
        have f2 : ¬ (i' : Int) < (j' : Int) := by omega
        have f3 : (j' : Int) ≤ (i' : Int) := by omega
        have f4 : ¬ (i' : Int) ≤ (j' : Int) := by omega
        have f5 : ¬ i' ≤ j' := by omega
        have f6 : ¬ i' < j' := by omega
        have f7 : j' ≤ i' := by omega
        have hmm : max i' j' = i' ∧ min i' j' = j' := by omega
        have HMM : Hid (max i' j' = i' ∧ min i' j' = j') := hmm
        clear hmm
        go_wp2_with (first
          | (go_at_call 35; refine Calls.mono HP.out ?_; rintro _ w3 ⟨g, c3, rfl, hr3, hk3⟩)
          | (go_at_call 34; refine Calls.mono (swapped_ok g n c3 _ (Lof (stN l n)) j' i' w3 hr3 HIN.out.2 HIN.out.1 hn2) ?_; rintro _ w4 ⟨rfl, hw4⟩; have hw4' := hw4.symm; subst hw4'))
        go_ret2
        refine ⟨?_, HK.out.trans hk3 (fun _ f _ => f)⟩
        rw [HV.out.1, HV.out.2, HMM.out.1, HMM.out.2, HLen.out]
        first
          | rfl
          | (simp only [Nat.lt_irrefl, decide_false]; rfl)
  · have HO : Hid _ := par_bad (i := i) (j := j) (fun h => hE0 (HE.out.symm.trans h))
    go_upto_region 3 with fail
    go_quiet (fail)
    go_wp2
    go_ret2
    exact ⟨by rw [← HE.out]; exact par_eq HO.out, HK.out.trans (keeps_drewN _ _) (fun _ f _ => f)⟩
theorem idx_inj {L : List Nat} {a b : Nat} (ha : a ∈ L) (h : L.idxOf a = L.idxOf b) : a = b := by
  have h1 := List.getElem_idxOf (List.idxOf_lt_length_iff.2 ha)
  have hb : L.idxOf b < L.length := by rw [← h]; exact List.idxOf_lt_length_iff.2 ha
  have h2 := List.getElem_idxOf hb
  have h3 : L[L.idxOf a]'(List.idxOf_lt_length_iff.2 ha) = L[L.idxOf b] := by simp only [h]
  rw [h1, h2] at h3
  exact h3
theorem par_val {l : List Dd} {i j : Nat} {M : Nat → Nat → Bool} (hI : Inv l l.length) (hSy : Says l l.length l.length M) (hi : i < l.length) (hj : j < l.length) (hij : i < j) :
    decide ((Lof (stN l l.length)).idxOf j < (Lof (stN l l.length)).idxOf i) = (!M j i) ∧ M i j = false := by
  have h1 := hSy j hj i hi
  have h2 := hSy i hi j hj
  rw [hI.ah j hj i] at h1
  rw [hI.ah i hi j] at h2
  have hne : (Lof (stN l l.length)).idxOf i ≠ (Lof (stN l l.length)).idxOf j := fun e => by
    have := idx_inj ((hI.all i).2 hi) e
    omega
  constructor
  · cases hM : M j i with
    | true =>
      have := (h1.1 hM).2
      simp; omega
    | false =>
      simp
      rw [hM] at h1
      have h3 : ¬ ((Lof (stN l l.length)).idxOf i < (Lof (stN l l.length)).idxOf j) := fun h => by
        have := h1.2 ⟨hij, h⟩
        simp at this
      omega
  · cases hM : M i j with
    | true => have := (h2.1 hM).1; omega
    | false => rfl
set_option maxHeartbeats 4000000 in
theorem rparallel_ok (a : Option Addr) (n c : Nat) (l : List Dd) (i j : Int) (w : World) (hS : Seen w a n l) :
    Calls Try.prog 15 #[.slice a n c, .int .i64 i, .int .i64 j] w fun e w' => e = .returned (.tuple #[.bool (parB l i j), .int .i64 (parE l i j)]) ∧ Keeps None w w' := by
  have HS : Hid (Seen w a n l) := hS
  have HLen : Hid (n = l.length) := hS.len
  clear hS
  go_enter Try.func15, Try.ntmps15
  go_upto_region 2 with (go_at_call 11; refine Calls.mono (rcheck_raw a n c l w HS.out) ?_; rintro _ w1 ⟨rfl, hk1⟩)
  obtain ⟨E, hE⟩ : ∃ E, E = chkE l := ⟨_, rfl⟩
  obtain ⟨A1, hA1⟩ : ∃ A1, A1 = chkA l := ⟨_, rfl⟩
  rw [← hE, ← hA1]
  have b2 := heap_alloc_new w1 (.cells #[.int .i64 E, .int .i64 A1] 26)
  have k2 := hk1.andAlloc (.cells #[.int .i64 E, .int .i64 A1] 26)
  obtain ⟨w2, hw2⟩ : ∃ w2, w2 = w1.alloc (.cells #[.int .i64 E, .int .i64 A1] 26) := ⟨_, rfl⟩
  obtain ⟨B, hB⟩ : ∃ B, B = w1.heap.size := ⟨_, rfl⟩
  rw [← hw2] at b2 k2
  rw [← hB] at b2
  rw [← hw2, ← hB]
  have g0 : w2.cell? ⟨B, 0, none⟩ = some (.int .i64 E) := cell_of_heap b2 0
  have HK : Hid (Keeps None w w2) := k2
  have HE : Hid (chkE l = E) := hE.symm
  clear b2 k2 hw2 hB hE hA1 hk1
  by_cases hE0 : E = 0
  · subst hE0
    obtain ⟨hn, hf⟩ := chk_fine HE.out
    have hn2 : n ≤ 4096 := by rw [HLen.out]; exact hn
    have HP : Hid _ := before_ok a n c l w2 (HS.out.more HK.out) hf hn2
    obtain ⟨d, _, _, hI⟩ := hf.at l.length (Nat.le_refl _)
    have HI : Hid (Inv l l.length) := hI
    clear hn hf hI
    by_cases ho : (outI l i || outI l j) = true
    · have HO : Hid _ := par_out HE.out ho
      have hmm : (i < 0 ∨ i ≥ (n : Int)) ∨ (j < 0 ∨ j ≥ (n : Int)) := by
        have := HLen.out
        unfold outI at ho
        simp at ho
        omega
      clear ho HP HI
      have fin : True := trivial
      by_cases h1 : i < 0
      · go_wp2
        all_goals (go_ret2; exact ⟨par_eq HO.out, HK.out⟩)
      · by_cases h2 : i ≥ (n : Int)
        · go_wp2
          all_goals (go_ret2; exact ⟨par_eq HO.out, HK.out⟩)
        · by_cases h3 : j < 0
          · go_wp2
            all_goals (go_ret2; exact ⟨par_eq HO.out, HK.out⟩)
          · have h4 : j ≥ (n : Int) := by omega
            go_wp2
            all_goals (go_ret2; exact ⟨par_eq HO.out, HK.out⟩)
    · obtain ⟨i', rfl, hi'⟩ : ∃ i' : Nat, i = i' ∧ i' < l.length := by
        refine ⟨i.toNat, ?_, ?_⟩ <;> (unfold outI at ho; simp at ho; omega)
      obtain ⟨j', rfl, hj'⟩ : ∃ j' : Nat, j = j' ∧ j' < l.length := by
        refine ⟨j.toNat, ?_, ?_⟩ <;> (unfold outI at ho; simp at ho; omega)
      have HV : Hid (parB l i' j' = decide ((Lof (stN l l.length)).idxOf (max i' j') < (Lof (stN l l.length)).idxOf (min i' j')) ∧ parE l i' j' = 0 ∧ i' < l.length ∧ j' < l.length) := ⟨(par_in HE.out hi' hj').1, (par_in HE.out hi' hj').2, hi', hj'⟩
      have i1 : ((i' : Nat) : Int) < (n : Int) := by rw [HLen.out]; omega
      have i2 : ((j' : Nat) : Int) < (n : Int) := by rw [HLen.out]; omega
      have i3 : ¬ ((i' : Nat) : Int) < 0 := by omega
      have i4 : ¬ ((j' : Nat) : Int) < 0 := by omega
      have i5 : ¬ ((i' : Nat) : Int) ≥ (n : Int) := by omega
      have i6 : ¬ ((j' : Nat) : Int) ≥ (n : Int) := by omega
      clear ho hi' hj'
      go_upto_region 8 with (go_at_call 36; refine Calls.mono HP.out ?_; rintro _ w3 ⟨G, R, M, rfl, hB, hSy, hk3⟩)
      have gi : w3.cell? ⟨G, i', none⟩ = some (.slice (some ⟨R i', 0, none⟩) n n) := ((cell_of_heap hB.out i').trans (outB_at (by omega))).trans (by unfold vsB; rw [if_pos (by omega)])
      have gj : w3.cell? ⟨G, j', none⟩ = some (.slice (some ⟨R j', 0, none⟩) n n) := ((cell_of_heap hB.out j').trans (outB_at (by omega))).trans (by unfold vsB; rw [if_pos (by omega)])
      have ri : w3.cell? ⟨R i', j', none⟩ = some (.bool (M i' j')) := (cell_of_heap (hB.row i' (by omega)) j').trans (bools_at _ _ (by omega))
      have rj : w3.cell? ⟨R j', i', none⟩ = some (.bool (M j' i')) := (cell_of_heap (hB.row j' (by omega)) i').trans (bools_at _ _ (by omega))
      have HSy : Hid (Says l l.length l.length M) := by have := HLen.out; rw [this] at hSy; exact hSy
      have HK3 : Hid (Keeps None w w3) := HK.out.trans hk3 (fun _ f _ => f)
      clear hB hSy hk3 HP
      rcases Nat.lt_trichotomy i' j' with hij | hij | hij
      · have hv := par_val HI.out HSy.out HV.out.2.2.1 HV.out.2.2.2 hij
        have hR : parB l i' j' = (!M j' i') := by rw [HV.out.1, show max i' j' = j' by omega, show min i' j' = i' by omega]; exact hv.1
        have HR : Hid (parB l i' j' = (!M j' i')) := hR
        have hm := hv.2
        rw [hm] at ri
        have fne : ((i' : Int) != (j' : Int)) = true := by simp; omega
        clear hv hR hm
        cases hMM : M j' i' with
        | true =>
          rw [hMM] at rj HR
          go_wp2
          go_ret2
          refine ⟨?_, HK3.out⟩
          rw [HR.out, HV.out.2.1]
          first
            | rfl
            | (show Ending.returned (.tuple #[.bool _, .int .i64 0]) = _; simp [fne])
        | false =>
          rw [hMM] at rj HR
          go_wp2
          go_ret2
          refine ⟨?_, HK3.out⟩
          rw [HR.out, HV.out.2.1]
          first
            | rfl
            | (show Ending.returned (.tuple #[.bool ((i' : Int) != (j' : Int)), .int .i64 0]) = _; rw [fne]; rfl)
      · subst hij
        have hR : parB l i' i' = false := by rw [HV.out.1]; simp
        have HR : Hid (parB l i' i' = false) := hR
        clear hR
        go_wp2
        go_ret2
        refine ⟨?_, HK3.out⟩
        rw [HR.out, HV.out.2.1]
        rfl
      · have hv := par_val HI.out HSy.out HV.out.2.2.2 HV.out.2.2.1 hij
        have hR : parB l i' j' = (!M i' j') := by rw [HV.out.1, show max i' j' = i' by omega, show min i' j' = j' by omega]; exact hv.1
        have HR : Hid (parB l i' j' = (!M i' j')) := hR
        have hm := hv.2
        rw [hm] at rj
        have fne : ((i' : Int) != (j' : Int)) = true := by simp; omega
        clear hv hR hm
        cases hMM : M i' j' with
        | true =>
          rw [hMM] at ri HR
          go_wp2
          all_goals go_ret2
          all_goals refine ⟨?_, HK3.out⟩
          all_goals rw [HR.out, HV.out.2.1]
          all_goals rfl
        | false =>
          rw [hMM] at ri HR
          go_wp2
          all_goals go_ret2
          all_goals refine ⟨?_, HK3.out⟩
          all_goals rw [HR.out, HV.out.2.1]
          all_goals first
            | rfl
            | (show Ending.returned (.tuple #[.bool ((i' : Int) != (j' : Int)), .int .i64 0]) = _; rw [fne]; rfl)
  · have HO : Hid _ := par_bad (i := i) (j := j) (fun h => hE0 (HE.out.symm.trans h))
    go_upto_region 3 with fail
    go_quiet (fail)
    go_wp2
    go_ret2
    exact ⟨by rw [← HE.out]; exact par_eq HO.out, HK.out.trans (keeps_drewN _ _) (fun _ f _ => f)⟩
end Go.Proofs.Ytolhojagbiaamaa
/-! The walk of RacesParallel. -/
namespace Go.Proofs.Ytolhojagbiaamaa
set_option linter.unusedVariables false
set_option maxRecDepth 20000
set_option linter.unusedSimpArgs false
open Go.RowKit Go.HeapKit

set_option maxHeartbeats 1600000 in
theorem parallelPlaced_ok (a : Option Addr) (n c : Nat) (l : List Dd) (i j : Int) (w : World) (hS : Seen w a n l) (hn : (n + 2) * 16 ≤ 140737488355328) :
    Calls Try.prog 16 #[.slice a n c, .int .i64 i, .int .i64 j] w fun e w' => e = .returned (.bool true) ∧ Keeps None w w' := by
  have HS : Hid (Seen w a n l) := hS
  have HLen : Hid (n = l.length) := hS.len
  clear hS
  go_enter Try.func16, Try.ntmps16
  go_wp2_with fail
  refine (turned_ok a n c l w HS.out hn).mono ?_
  rintro e w1 ⟨v, rfl, hr1, hk1⟩
  obtain ⟨a1, c1, rfl⟩ := row_shape hr1
  have HR1 : Hid (w1.ownsRow w.heap.size 51 2 (.slice a1 n c1) n (ddVals (l.map turnD)) ∧ Keeps None w w1) := ⟨hr1, hk1⟩
  have hs1 := hk1.size
  clear hr1 hk1
  go_wp2_with fail
  refine (tspare_ok _ n (l.map turnD) w1 _ HR1.out.1 (by simpa using HLen.out) hn).mono ?_
  rintro e w2 ⟨g, rfl, hsp, hk2⟩
  have HR2 : Hid (Spare w2 w1.heap.size g n (l.map turnD) ∧ Keeps None w w2 ∧ Keeps None w1 w2) := ⟨hsp, HR1.out.2.trans hk2 (fun _ f _ => f), hk2⟩
  clear hsp hk2
  go_wp2_with fail
  refine (parallel_ok _ n _ (l.map turnD) i j w2 HR2.out.1.seen).mono ?_
  rintro e w3 ⟨rfl, hk3⟩
  have HR3 : Hid (Spare w3 w1.heap.size g n (l.map turnD) ∧ Keeps None w w3 ∧ Keeps None w1 w3) := ⟨HR2.out.1.more hk3, HR2.out.2.1.trans hk3 (fun _ f _ => f), HR2.out.2.2.trans hk3 (fun _ f _ => f)⟩
  clear hk3 HR2
  go_wp2_with fail
  refine (lay_ok a n c g _ (n + 2) l (l.map turnD) w3 HR3.out.1 (HS.out.more HR3.out.2.1) (fun h0 b e e2 => by have h3 := HS.out.low h0 e; have := HR3.out.1.2.low; omega) (by omega) hn).mono ?_
  rintro e w5 ⟨rfl, hsp4, hk4⟩
  have HR5 : Hid (Spare w5 w1.heap.size g n l ∧ Keeps None w w5 ∧ Keeps None w1 w5) := ⟨hsp4, HR3.out.2.1.trans hk4 (fun i e hi => by have := HR3.out.1.2.low; omega), HR3.out.2.2.trans hk4 (fun i e hi => by have := HR3.out.1.2.low; omega)⟩
  clear hsp4 hk4 HR3
  go_wp2_with fail
  refine (parallel_ok _ n _ l i j w5 HR5.out.1.seen).mono ?_
  rintro e w6 ⟨rfl, hk6⟩
  have HR6 : Hid (Keeps None w w6 ∧ Keeps None w1 w6) := ⟨HR5.out.2.1.trans hk6 (fun _ f _ => f), HR5.out.2.2.trans hk6 (fun _ f _ => f)⟩
  clear hk6 HR5
  go_wp2_with fail
  refine (rparallel_ok a1 n c1 (l.map turnD) i j w6 ((Seen.of_row (by simpa using HLen.out) HR1.out.1).more HR6.out.2)).mono ?_
  rintro e w7 ⟨rfl, hk7⟩
  have HR7 : Hid (Keeps None w w7) := HR6.out.1.trans hk7 (fun _ f _ => f)
  clear hk7 HR6
  go_wp2_with fail
  refine (rparallel_ok a n c l i j w7 (HS.out.more HR7.out)).mono ?_
  rintro e w8 ⟨rfl, hk8⟩
  go_wp2
  go_ret
  exact ⟨rfl, HR7.out.trans hk8 (fun _ f _ => f)⟩
set_option maxHeartbeats 1600000 in
theorem racesParallel_walk (a : Option Addr) (n c : Nat) (l : List Dd) (i j : Int) (w : World) (hS : Seen w a n l) (hn : (n + 2) * 16 ≤ 140737488355328) :
    Calls Try.prog 4 #[.slice a n c, .int .i64 i, .int .i64 j] w fun e w' => e = .returned (.bool true) ∧ Below w.heap.size w w' := by
  have HS : Hid (Seen w a n l) := hS
  clear hS
  go_enter Try.func4, Try.ntmps4
  go_wp2_with fail
  refine (spare_ok a n c l w HS.out hn).mono ?_
  rintro e w1 ⟨g, rfl, hsp, hk1⟩
  have HR1 : Hid (Spare w1 w.heap.size g n l ∧ Keeps None w w1) := ⟨hsp, hk1⟩
  clear hsp hk1
  go_wp2_with fail
  refine (parallel_ok _ n _ l i j w1 HR1.out.1.seen).mono ?_
  rintro e w2 ⟨rfl, hk2⟩
  have HR2 : Hid (Spare w2 w.heap.size g n l ∧ Keeps None w w2) := ⟨HR1.out.1.more hk2, HR1.out.2.trans hk2 (fun _ f _ => f)⟩
  clear hk2 HR1
  go_wp2_with fail
  refine (rparallel_ok a n c l i j w2 (HS.out.more HR2.out.2)).mono ?_
  rintro e w3 ⟨rfl, hk3⟩
  have HR3 : Hid (Spare w3 w.heap.size g n l ∧ Keeps None w w3) := ⟨HR2.out.1.more hk3, HR2.out.2.trans hk3 (fun _ f _ => f)⟩
  clear hk3 HR2
  go_wp2_with fail
  refine (untouched_ok a g n c _ l w3 HR3.out.1 (HS.out.more HR3.out.2) hn).mono ?_
  rintro e w4 ⟨rfl, m, hw4⟩
  have hk4 : Keeps None w w4 := by rw [hw4]; exact HR3.out.2.trans (keeps_drewN _ m) (fun _ f _ => f)
  have HR4 : Hid (Keeps None w w4) := hk4
  clear hk4 hw4 HR3
  go_wp2_with fail
  refine (parallelPlaced_ok a n c l i j w4 (HS.out.more HR4.out) hn).mono ?_
  rintro e w5 ⟨rfl, hk5⟩
  go_wp2
  go_ret
  exact ⟨rfl, (HR4.out.trans hk5 (fun _ f _ => f)).below _ (Nat.le_refl _) (fun _ f => f.elim)⟩
end Go.Proofs.Ytolhojagbiaamaa
/-! Orders: rows of numbers that are told; serially; Orders; the marks. -/
namespace Go.Proofs.Ytolhojagbiaamaa
set_option linter.unusedVariables false
set_option maxRecDepth 20000
set_option linter.unusedSimpArgs false
open Go.RowKit Go.HeapKit

def ivZ (l : List Int) : List Value := l.map (Value.int .i64)
theorem ivZ_len (l : List Int) : (ivZ l).length = l.length := by simp [ivZ]
def natZ (l : List Nat) : List Int := l.map (fun a : Nat => (a : Int))
theorem ivN_ivZ (L : List Nat) : ivN L = ivZ (natZ L) := by simp [ivN, ivZ, natZ]
/-- A row of numbers of the call's own. -/
def RowZ (w : World) (base : Nat) (v : Value) (L : List Int) : Prop := w.ownsRow base 3 1 v L.length (ivZ L)
section
variable {w w' : World} {base : Nat} {v : Value} {L : List Int}
theorem RowZ.shape (h : RowZ w base v L) : ∃ a c, v = .slice a L.length c ∧ (0 < L.length → ∃ g, a = some ⟨g, 0, none⟩) := by
  rcases h.2 with ⟨rfl, h0⟩ | ⟨g, cap, cur, rfl, _⟩
  · exact ⟨none, 0, by rw [h0], fun h1 => by omega⟩
  · exact ⟨_, cap, rfl, fun _ => ⟨g, rfl⟩⟩
theorem RowZ.at {g c k : Nat} {x : Int} (h : RowZ w base (.slice (some ⟨g, 0, none⟩) L.length c) L) (hx : L[k]? = some x) : w.cell? ⟨g, k, none⟩ = some (.int .i64 x) ∧ w.frozen? ⟨g, k, none⟩ = false ∧ base ≤ g := by
  have hk := (List.getElem?_eq_some_iff.1 hx).1
  rcases h.2 with ⟨_, h1⟩ | ⟨g', cap, cur, hv, hbg, hg, hnc, hcm, hcs, htake⟩
  · omega
  · injection hv with e1 e2 e3
    injection e1 with e1
    injection e1 with e1
    subst e1 e3
    have hv : (ivZ L)[k]? = some (.int .i64 x) := by simp [ivZ, hx]
    refine ⟨?_, blk_free hg k, hbg⟩
    rw [blk_cell hg]
    rw [← htake, List.getElem?_take] at hv
    split at hv
    · simpa using hv
    · cases hv
theorem RowZ.kept {S : Nat → Prop} (h : RowZ w base v L) (hk : Keeps S w w') (hS : ∀ g, v.ownBlock = some g → ¬ S g) : RowZ w' base v L := row_kept h hk hS
theorem RowZ.more (h : RowZ w base v L) (hk : Keeps None w w') : RowZ w' base v L := h.kept hk (fun _ _ f => f)
theorem RowZ.put {g c k : Nat} (h : RowZ w base (.slice (some ⟨g, 0, none⟩) L.length c) L) (x : Int) : RowZ (w.setCell ⟨g, k, none⟩ (.int .i64 x)) base (.slice (some ⟨g, 0, none⟩) L.length c) (L.set k x) := by
  have := row_set h k (.int .i64 x)
  unfold RowZ
  rw [List.length_set]
  have e : (ivZ L).set k (.int .i64 x) = ivZ (L.set k x) := by simp [ivZ, List.map_set]
  rw [← e]
  exact this
end
theorem set_rep (L : List Int) (x : Int) {k : Nat} (hk : k < L.length) : (List.replicate k x ++ L.drop k).set k x = List.replicate (k + 1) x ++ L.drop (k + 1) := by
  rw [List.set_append_right _ _ (by simp), List.length_replicate, Nat.sub_self, List.drop_eq_getElem_cons hk]
  simp only [List.set_cons_zero]
  rw [List.replicate_succ', List.append_assoc]
  rfl
set_option maxHeartbeats 1600000 in
theorem fill_ok (v : Value) (L : List Int) (x : Int) (base : Nat) (w : World) (h : RowZ w base v L) (hn : L.length ≤ 4096) :
    Calls Try.prog 19 #[v, .int .i64 x] w fun e w' => e = .returned (.tuple #[]) ∧ RowZ w' base v (List.replicate L.length x) ∧ Keeps (fun i => v.ownBlock = some i) w w' := by
  obtain ⟨a, c, rfl, ha⟩ := h.shape
  obtain ⟨n, hne⟩ : ∃ n, n = L.length := ⟨_, rfl⟩
  have HN : Hid (n = L.length) := hne
  have HH : Hid (RowZ w base (.slice a L.length c) L) := h
  rw [← hne] at ha hn
  clear h
  rw [← hne]
  clear hne
  go_enter Try.func19, Try.ntmps19
  go_wp2_with fail
  go_loopw [4] (fun i wr => ∃ k : Nat, k ≤ n ∧ i = .int .i64 k ∧ RowZ wr base (.slice a n c) (List.replicate k x ++ L.drop k) ∧ Keeps (fun i => (Value.slice a n c).ownBlock = some i) w wr) (fun i _ => n - (intOf i).toNat)
  case atStart => exact ⟨0, Nat.zero_le _, rfl, by rw [HN.out]; exact HH.out, Keeps.refl _ _⟩
  case round =>
    obtain ⟨k, hk, rfl, hR, hkp⟩ := hrel
    have hlen : (List.replicate k x ++ L.drop k).length = n := by simp [← HN.out]; omega
    by_cases hkn : k < n
    · obtain ⟨g, rfl⟩ := ha (by omega)
      obtain ⟨y, hy⟩ : ∃ y, (List.replicate k x ++ L.drop k)[k]? = some y := ⟨_, List.getElem?_eq_getElem (by omega)⟩
      have hR' : RowZ wr base (.slice (some ⟨g, 0, none⟩) (List.replicate k x ++ L.drop k).length c) (List.replicate k x ++ L.drop k) := by rw [hlen]; exact hR
      obtain ⟨c0, f0, _⟩ := hR'.at hy
      have hP := hR'.put (k := k) x
      rw [set_rep L x (by rw [← HN.out]; omega), hlen] at hP
      have HK : Hid (RowZ (wr.setCell ⟨g, k, none⟩ (.int .i64 x)) base (.slice (some ⟨g, 0, none⟩) n c) (List.replicate (k + 1) x ++ L.drop (k + 1)) ∧ Keeps (fun i => (Value.slice (some ⟨g, 0, none⟩) n c).ownBlock = some i) w (wr.setCell ⟨g, k, none⟩ (.int .i64 x))) := ⟨hP, hkp.andSet (x := ⟨g, k, none⟩) (.inl rfl) _⟩
      have i1 : (k : Int) < (n : Int) := by omega
      clear hR hR' hP hkp hy hlen ha
      go_wp2
      go_roundw
      case rel => exact ⟨k + 1, by omega, by go_num, HK.out⟩
      case measure => simp [intOf]; omega
    · have hkn2 : k = n := by omega
      subst hkn2
      have HK : Hid (RowZ wr base (.slice a k c) (List.replicate k x) ∧ Keeps (fun i => (Value.slice a k c).ownBlock = some i) w wr) := by
        rw [List.drop_eq_nil_of_le (by rw [← HN.out]; exact Nat.le_refl _), List.append_nil] at hR
        exact ⟨hR, hkp⟩
      clear hR hkp hlen ha
      go_wp2
      go_end0
      exact ⟨rfl, HK.out⟩
/-- The numbers that stand at the head of a slice. -/
def SeesZ (w : World) (v : Value) (L : List Int) : Prop := ∀ a c, v = .slice a L.length c → ∀ k x, L[k]? = some x → ∃ g, a = some ⟨g, 0, none⟩ ∧ w.cell? ⟨g, k, none⟩ = some (.int .i64 x)
theorem RowZ.sees {w : World} {base : Nat} {v : Value} {L : List Int} (h : RowZ w base v L) : SeesZ w v L := by
  intro a c e k x hx
  subst e
  have hk := (List.getElem?_eq_some_iff.1 hx).1
  obtain ⟨a', c', e, hg⟩ := h.shape
  injection e with e1 e2 e3
  subst e1 e3
  obtain ⟨g, rfl⟩ := hg (by omega)
  exact ⟨g, rfl, (h.at hx).1⟩
theorem SeesZ.kept {S : Nat → Prop} {w w' : World} {v : Value} {L : List Int} (h : SeesZ w v L) (hk : Keeps S w w') (hS : ∀ g, v.ownBlock = some g → ¬ S g) : SeesZ w' v L := by
  intro a c e k x hx
  obtain ⟨g, rfl, hc⟩ := h a c e k x hx
  subst e
  exact ⟨g, rfl, hk.cell hc (hS g rfl)⟩
set_option maxHeartbeats 1600000 in
theorem full_ok (v : Value) (n : Nat) (x : Int) (w : World) (a : Option Addr) (c : Nat) (hv : v = .slice a n c) (h : SeesZ w v (List.replicate n x)) (hn : n ≤ 4096) :
    Calls Try.prog 21 #[v, .int .i64 x] w fun e w' => e = .returned (.bool true) ∧ w' = w := by
  subst hv
  have HH : Hid (SeesZ w (.slice a n c) (List.replicate n x)) := h
  clear h
  go_enter Try.func21, Try.ntmps21
  go_wp2_with fail
  go_loopw [5] (fun i wr => ∃ k : Nat, k ≤ n ∧ i = .int .i64 k ∧ wr = w) (fun i _ => n - (intOf i).toNat)
  case atStart => exact ⟨0, Nat.zero_le _, rfl, rfl⟩
  case round =>
    obtain ⟨k, hk, rfl, hwr⟩ := hrel
    subst hwr
    by_cases hkn : k < n
    · obtain ⟨g, rfl, c0⟩ := HH.out a c (by simp) k x (by simp [List.getElem?_replicate, hkn])
      have i1 : (k : Int) < (n : Int) := by omega
      clear HH
      go_wp2
      go_roundw
      case rel => exact ⟨k + 1, by omega, by go_num, trivial⟩
      case measure => simp [intOf]; omega
    · clear HH
      go_wp2
      go_ret
      exact ⟨rfl, rfl⟩
end Go.Proofs.Ytolhojagbiaamaa
/-! What is appended to a list leaves what stands in it. -/
namespace Go.Proofs.Ytolhojagbiaamaa
set_option linter.unusedVariables false
set_option maxRecDepth 20000
set_option linter.unusedSimpArgs false
open Go.RowKit Go.HeapKit

/-- 'append': in its place, or in new memory and nothing else touched. -/
theorem run_append_apart {P : Program} (w : World) (base : Nat) (t ty e : TypeId) (i : TypeInfo) (z : Value) (size bytes : Nat) (ht : P.underlying t = some (.slice e)) (hi : P.info? e = some i) (hz : i.zero = some z)
    (hsize : i.size = size) (hby : i.bytes = bytes) (hzs : z.cells.size = size) (hsz : 0 < size)
    (v : Value) (n : Nat) (xs : List Value) (hown : w.ownsRow base e size v n xs)
    (a : Addr) (m c : Nat) (news : List Value) (hl : news.length = m * size) (hnews : ∀ j u, news[j]? = some u → w.cell? (a.add j) = some u) (h1 : ∀ u ∈ news, u.oneCell' = true)
    (h63 : n + m ≤ maxLen) (hbytes : (n + m) * bytes ≤ 140737488355328) (hbase : base ≤ w.heap.size) :
    ∃ v' w', (Builtin.append_ #[t, t] ty #[v, .slice (some a) m c]).run P w = .ok v' w' ∧ w'.ownsRow base e size v' (n + m) (xs ++ news) ∧ w.grownBy w' v.ownBlock ∧ Moved w v v' ∧ (v'.ownBlock = v.ownBlock ∨ Keeps None w w') := by
  obtain ⟨v', w', hr, ho, hg, hmv, hn⟩ := run_append_moved (P := P) w base t ty e i z size bytes ht hi hz hsize hby hzs hsz v n xs hown a m c news hl hnews h1 h63 hbytes hbase
  refine ⟨v', w', hr, ho, hg, hmv, ?_⟩
  subst hsize
  subst hby
  have hsmall : n + m ≤ 9223372036854775807 := by simp only [maxLen] at h63; omega
  rcases hown.2 with ⟨rfl, rfl⟩ | ⟨g, cap, cur, rfl, hbg, hgg, hnc, hcm, hcs, htake⟩
  · right
    exact (Keeps.refl None w).andGrown hg (fun k e => by simp [Value.ownBlock] at e)
  · by_cases hroom : n + m ≤ cap
    · left
      have hfit : n * i.size + news.length ≤ cur.size := by rw [hl, hcs, ← Nat.add_mul]; exact Nat.mul_le_mul_right _ hroom
      have hr2 := run_append_room (P := P) w t ty e i ht hi g n cap cur hgg a m c news hl hnews h1 hroom hfit
      rw [hr] at hr2
      injection hr2 with e1 e2
      rw [e1]
      rfl
    · right
      have holds : ∀ j u, xs[j]? = some u → w.cell? ((⟨g, 0, none⟩ : Addr).add j) = some u := hown.cells (g := g) rfl
      have hr2 := run_append_grow (P := P) w t ty e i z ht hi hz ⟨g, 0, none⟩ n cap xs hown.1 holds a m c news hl hnews (by omega) (by omega) (growslice_fits (by omega) hbytes)
      rw [hr] at hr2
      injection hr2 with e1 e2
      rw [e2]
      exact (Keeps.drew None w).andAlloc _
theorem intZ_more (base : Nat) (s : Value) (l : List Int) (x : Int) (ty : Nat) (w : World) (h : RowZ w base s l) (hb : base ≤ w.heap.size) (hlen : (l.length + 1) * 8 ≤ 140737488355328) {g0 : Nat}
    (hg0 : w.heap[g0]? = some (.cells #[.int .i64 x] 3 (0, 0))) :
    ∃ g cap w', (Builtin.append_ #[33, 33] ty #[s, .slice (some ⟨g0, 0, none⟩) 1 1]).run Try.prog w = .ok (.slice (some ⟨g, 0, none⟩) (l.length + 1) cap) w' ∧
      RowZ w' base (.slice (some ⟨g, 0, none⟩) (l.length + 1) cap) (l ++ [x]) ∧ Keeps (fun k => s.ownBlock = some k) w w' ∧ (s.ownBlock = some g ∨ (w.heap.size ≤ g ∧ Keeps None w w')) := by
  obtain ⟨i0, hi, hz0, hz1, hz2⟩ := info_parts Try.infoIntR
  obtain ⟨v', w1, hr, ho, hgr, hm, hk⟩ := run_append_apart (P := Try.prog) w base 33 ty 3 i0 _ 1 8 Try.underlying33 hi hz0 hz1 hz2 rfl (by decide) s l.length _ h
    ⟨g0, 0, none⟩ 1 1 [.int .i64 x] rfl (by
      intro j u hu
      rw [show (⟨g0, 0, none⟩ : Addr).add j = ⟨g0, j, none⟩ by unfold Addr.add; split <;> simp_all, blk_cell hg0]
      simpa using hu) (by
      intro u hu
      simp at hu
      subst hu; rfl) (by unfold maxLen; omega) hlen hb
  obtain ⟨g, cap, rfl⟩ : ∃ g cap, v' = .slice (some ⟨g, 0, none⟩) (l.length + 1) cap := by
    rcases ho.2 with ⟨_, h0⟩ | ⟨b, cap, cur, rfl, _⟩
    · omega
    · exact ⟨b, cap, rfl⟩
  refine ⟨g, cap, w1, hr, by unfold RowZ; simpa [ivZ] using ho, (Keeps.refl _ w).andGrown hgr (fun k e => .inl e), ?_⟩
  by_cases hs : s.ownBlock = some g
  · exact .inl hs
  · right
    rcases hm with hm | ⟨g', e, hg⟩
    · exact absurd hm.symm (by simpa [Value.ownBlock] using hs)
    · simp [Value.ownBlock] at e
      refine ⟨by omega, ?_⟩
      rcases hk with hk | hk
      · exact absurd hk.symm (by simpa [Value.ownBlock] using hs)
      · exact hk
set_option maxHeartbeats 1600000 in
theorem grown_ok (v : Value) (L : List Int) (x : Int) (base : Nat) (w : World) (h : RowZ w base v L) (hn : L.length ≤ 4096) (hb : base ≤ w.heap.size) :
    Calls Try.prog 20 #[v, .int .i64 x] w fun e w' => e = .returned (.tuple #[]) ∧ SeesZ w' v L ∧ Keeps (fun i => v.ownBlock = some i) w w' := by
  have HH : Hid (RowZ w base v L) := h
  clear h
  go_enter Try.func20, Try.ntmps20
  go_wp2_with fail
  go_loopw [0, 4] (fun s i wr => ∃ k : Nat, k ≤ 64 ∧ i = .int .i64 k ∧ RowZ wr base s (L ++ List.replicate k x) ∧ SeesZ wr v L ∧ Keeps (fun i => v.ownBlock = some i) w wr ∧ (s.ownBlock = v.ownBlock ∨ ∃ g, s.ownBlock = some g ∧ w.heap.size ≤ g)) (fun _ i _ => 64 - (intOf i).toNat)
  case atStart => exact ⟨0, Nat.zero_le _, rfl, by simpa using HH.out, HH.out.sees, Keeps.refl _ _, .inl rfl⟩
  case round =>
    obtain ⟨k, hk, rfl, hR, hSe, hkp, hbl⟩ := hrel
    obtain ⟨sa, sc, rfl, hsa⟩ := hR.shape
    have hlen : (L ++ List.replicate k x).length = L.length + k := by simp
    by_cases hkn : k < 64
    · have kA := Keeps.alloc None wr (.cells #[.int .i64 x] 3)
      obtain ⟨g, c2, w2, hr, hR2, hk2, hm⟩ := intZ_more base _ _ x 33 _ (hR.more kA) (by have := hkp.size; simp; omega) (by rw [hlen]; omega) (heap_alloc_new wr (.cells #[.int .i64 x] 3))
      have hkk : Keeps (fun i => v.ownBlock = some i) w w2 := by
        refine (hkp.andAlloc _).trans hk2 (fun i e hi => ?_)
        rcases hbl with hbl | ⟨g', hg', hlt⟩
        · rw [hbl] at e; exact e
        · rw [hg'] at e; injection e with e; omega
      have hSe2 : SeesZ w2 v L := by
        have hSA := hSe.kept kA (fun _ _ f => f)
        rcases hm with hm | ⟨hm, hkN⟩
        · rcases hbl with hbl | ⟨g', hg', hlt⟩
          · intro a c e q y hy
            obtain ⟨gv, rfl, _⟩ := hSA a c e q y hy
            subst e
            have hgv : gv = g := by
              rw [hbl] at hm
              simpa [Value.ownBlock] using hm
            subst hgv
            have hq := (List.getElem?_eq_some_iff.1 hy).1
            refine ⟨gv, rfl, ?_⟩
            have hR3 : RowZ w2 base (.slice (some ⟨gv, 0, none⟩) ((L ++ List.replicate k x) ++ [x]).length c2) ((L ++ List.replicate k x) ++ [x]) := by rw [List.length_append (bs := [x])]; exact hR2
            refine (hR3.at (k := q) (x := y) ?_).1
            rw [List.append_assoc, List.getElem?_append_left hq]
            exact hy
          · refine hSA.kept hk2 (fun b hb' e => ?_)
            rw [hg'] at e
            injection e with e
            obtain ⟨a, c, ev, _⟩ := HH.out.shape
            have := own_lt HH.out hb'
            omega
        · exact hSA.kept hkN (fun _ _ f => f)
      have hbl2 : (Value.slice (some ⟨g, 0, none⟩) ((L ++ List.replicate k x).length + 1) c2).ownBlock = v.ownBlock ∨ ∃ g', (Value.slice (some ⟨g, 0, none⟩) ((L ++ List.replicate k x).length + 1) c2).ownBlock = some g' ∧ w.heap.size ≤ g' := by
        rcases hm with hm | ⟨hm, _⟩
        · rcases hbl with hbl | ⟨g', hg', hlt⟩
          · left; rw [← hbl]; exact hm.symm
          · right; rw [hg'] at hm; injection hm with hm; exact ⟨g, rfl, by omega⟩
        · right
          exact ⟨g, rfl, by have := hkp.size; simp at hm; omega⟩
      have HN : Hid (RowZ w2 base (.slice (some ⟨g, 0, none⟩) ((L ++ List.replicate k x).length + 1) c2) (L ++ List.replicate (k + 1) x) ∧ SeesZ w2 v L ∧ Keeps (fun i => v.ownBlock = some i) w w2 ∧ ((Value.slice (some ⟨g, 0, none⟩) ((L ++ List.replicate k x).length + 1) c2).ownBlock = v.ownBlock ∨ ∃ g', (Value.slice (some ⟨g, 0, none⟩) ((L ++ List.replicate k x).length + 1) c2).ownBlock = some g' ∧ w.heap.size ≤ g')) := by
        refine ⟨?_, hSe2, hkk, hbl2⟩
        rw [List.replicate_succ', ← List.append_assoc]
        exact hR2
      obtain ⟨m, hm2⟩ : ∃ m, m = (L ++ List.replicate k x).length := ⟨_, rfl⟩
      rw [← hm2] at hr HN ⊢
      have i1 : (k : Int) < 64 := by omega
      clear hR hSe hkp hbl kA hR2 hk2 hm hkk hSe2 hbl2 hm2 hlen hsa
      go_wp2_with (at_builtin; refine wpList_append_run rfl (.tmp 9) (.tmp 11) 33 33 rfl rfl rfl hr ?_)
      exact ⟨⟨k + 1, by omega, by go_num, HN.out⟩, by simp [intOf]; omega⟩
    · have hk64 : k = 64 := by omega
      subst hk64
      have HN : Hid (SeesZ wr v L ∧ Keeps (fun i => v.ownBlock = some i) w wr) := ⟨hSe, hkp⟩
      clear hR hSe hkp hbl hsa
      go_wp2
      go_end0
      exact ⟨rfl, HN.out⟩
end Go.Proofs.Ytolhojagbiaamaa
/-! Bags of tasks, plainly: which tasks' deeds are ahead of what comes next and which are parallel to it; who stands for all that wrote a place. -/
namespace Go.Proofs.Ytolhojagbiaamaa
set_option linter.unusedVariables false
set_option maxRecDepth 20000
set_option linter.unusedSimpArgs false

/-- A task that has not returned: its number; the tasks whose deeds are ahead by it; those for which it has to wait. -/
structure Bg where
  id : Nat
  P : List Nat
  O : List Nat
/-- Behind a deed of a kind; the current task comes first, T tasks have begun. -/
def stepB (k : Int) (T : Nat) : List Bg → List Bg
  | [] => []
  | t :: r =>
    if k = 0 then ⟨T, [T], []⟩ :: t :: r
    else if k = 1 then match r with
      | [] => []
      | u :: r' => ⟨u.id, u.P, (t.P ++ t.O) ++ u.O⟩ :: r'
    else if k = 2 then ⟨t.id, t.P ++ t.O, []⟩ :: r
    else t :: r
theorem sb0 (T : Nat) (t : Bg) (r : List Bg) : stepB 0 T (t :: r) = ⟨T, [T], []⟩ :: t :: r := by simp [stepB]
theorem sb1 (T : Nat) (t u : Bg) (r : List Bg) : stepB 1 T (t :: u :: r) = ⟨u.id, u.P, (t.P ++ t.O) ++ u.O⟩ :: r := by simp [stepB]
theorem sb2 (T : Nat) (t : Bg) (r : List Bg) : stepB 2 T (t :: r) = ⟨t.id, t.P ++ t.O, []⟩ :: r := by simp [stepB]
theorem sb3 (k : Int) (T : Nat) (t : Bg) (r : List Bg) (h0 : ¬ k = 0) (h1 : ¬ k = 1) (h2 : ¬ k = 2) : stepB k T (t :: r) = t :: r := by simp [stepB, h0, h1, h2]
/-- How many tasks have begun behind the first n deeds; the bags; whose a deed is. -/
def cntB (ds : List Dd) : Nat → Nat
  | 0 => 1
  | n + 1 => if (ds.getD n ⟨3, 0⟩).k = 0 then cntB ds n + 1 else cntB ds n
def bgN (ds : List Dd) : Nat → List Bg
  | 0 => [⟨0, [0], []⟩]
  | n + 1 => stepB ((ds.getD n ⟨3, 0⟩).k) (cntB ds n) (bgN ds n)
def topI : List Bg → Nat
  | [] => 0
  | t :: _ => t.id
def doer (ds : List Dd) (n : Nat) : Nat := topI (bgN ds n)
/-- x lies at depth k among those ahead, or among those to be waited for. -/
def inP : List Bg → Nat → Nat → Prop
  | [], _, _ => False
  | t :: r, k, x => (k = r.length ∧ x ∈ t.P) ∨ inP r k x
def inO : List Bg → Nat → Nat → Prop
  | [], _, _ => False
  | t :: r, k, x => (k = r.length ∧ x ∈ t.O) ∨ inO r k x
theorem inP_lt : ∀ {S : List Bg} {k x : Nat}, inP S k x → k < S.length
  | [], _, _, h => h.elim
  | t :: r, k, x, h => by
    rcases h with h | h
    · simp [h.1]
    · have := inP_lt h; simp; omega
theorem inO_lt : ∀ {S : List Bg} {k x : Nat}, inO S k x → k < S.length
  | [], _, _, h => h.elim
  | t :: r, k, x, h => by
    rcases h with h | h
    · simp [h.1]
    · have := inO_lt h; simp; omega
/-- y stands for x: as long as x is parallel to what comes next, so is y. -/
structure Dom (S : List Bg) (x y : Nat) : Prop where
  o : ∀ k, inO S k x → ∃ j, j ≤ k ∧ inO S j y
  p : ∀ k, inP S k x → (∃ j, inO S j y) ∨ ∃ j, k ≤ j ∧ inP S j y
theorem Dom.spawn {t : Bg} {r : List Bg} {x y T : Nat} (hx : x ≠ T) (h : Dom (t :: r) x y) : Dom (⟨T, [T], []⟩ :: t :: r) x y := by
  refine ⟨fun k hk => ?_, fun k hk => ?_⟩
  · rcases hk with ⟨_, hk⟩ | hk
    · cases hk
    · obtain ⟨j, h1, h2⟩ := h.o k hk
      exact ⟨j, h1, .inr h2⟩
  · rcases hk with ⟨_, hk⟩ | hk
    · simp at hk; exact (hx hk).elim
    · rcases h.p k hk with ⟨j, h1⟩ | ⟨j, h1, h2⟩
      · exact .inl ⟨j, .inr h1⟩
      · exact .inr ⟨j, h1, .inr h2⟩
theorem Dom.sync {t : Bg} {r : List Bg} {x y : Nat} (h : Dom (t :: r) x y) : Dom (⟨t.id, t.P ++ t.O, []⟩ :: r) x y := by
  have hmv : ∀ j, inO (t :: r) j y → (∃ j', j' ≤ j ∧ inO (⟨t.id, t.P ++ t.O, []⟩ :: r) j' y) ∨ inP (⟨t.id, t.P ++ t.O, []⟩ :: r) r.length y := by
    intro j hj
    rcases hj with ⟨_, hj⟩ | hj
    · exact .inr (.inl ⟨rfl, List.mem_append.2 (.inr hj)⟩)
    · exact .inl ⟨j, Nat.le_refl _, .inr hj⟩
  refine ⟨fun k hk => ?_, fun k hk => ?_⟩
  · rcases hk with ⟨_, hk⟩ | hk
    · cases hk
    · have hkl := inO_lt hk
      obtain ⟨j, h1, h2⟩ := h.o k (.inr hk)
      rcases h2 with ⟨h2, _⟩ | h2
      · omega
      · exact ⟨j, h1, .inr h2⟩
  · have key : (∃ j, inO (t :: r) j y) ∨ (∃ j, k ≤ j ∧ inP (t :: r) j y) := by
      rcases hk with ⟨rfl, hk⟩ | hk
      · rcases List.mem_append.1 hk with hk | hk
        · exact h.p _ (.inl ⟨rfl, hk⟩)
        · obtain ⟨j, _, h2⟩ := h.o _ (.inl ⟨rfl, hk⟩)
          exact .inl ⟨j, h2⟩
      · exact h.p k (.inr hk)
    have hkl : k ≤ r.length := by
      rcases hk with ⟨rfl, _⟩ | hk
      · exact Nat.le_refl _
      · exact Nat.le_of_lt (inP_lt hk)
    rcases key with ⟨j, h1⟩ | ⟨j, h1, h2⟩
    · rcases hmv j h1 with ⟨j', _, h3⟩ | h3
      · exact .inl ⟨j', h3⟩
      · exact .inr ⟨_, hkl, h3⟩
    · rcases h2 with ⟨rfl, h2⟩ | h2
      · exact .inr ⟨_, h1, .inl ⟨rfl, List.mem_append.2 (.inl h2)⟩⟩
      · exact .inr ⟨j, h1, .inr h2⟩
theorem Dom.ret {t u : Bg} {r : List Bg} {x y : Nat} (h : Dom (t :: u :: r) x y) : Dom (⟨u.id, u.P, (t.P ++ t.O) ++ u.O⟩ :: r) x y := by
  have hO : ∀ j, inO (t :: u :: r) j y → ∃ j', j' ≤ j ∧ inO (⟨u.id, u.P, (t.P ++ t.O) ++ u.O⟩ :: r) j' y := by
    intro j hj
    rcases hj with ⟨rfl, hj⟩ | ⟨rfl, hj⟩ | hj
    · exact ⟨r.length, by simp, .inl ⟨rfl, by simp [hj]⟩⟩
    · exact ⟨r.length, Nat.le_refl _, .inl ⟨rfl, by simp [hj]⟩⟩
    · exact ⟨j, Nat.le_refl _, .inr hj⟩
  have hP : ∀ j, inP (t :: u :: r) j y → (∃ j', inO (⟨u.id, u.P, (t.P ++ t.O) ++ u.O⟩ :: r) j' y) ∨ inP (⟨u.id, u.P, (t.P ++ t.O) ++ u.O⟩ :: r) j y := by
    intro j hj
    rcases hj with ⟨rfl, hj⟩ | ⟨rfl, hj⟩ | hj
    · exact .inl ⟨r.length, .inl ⟨rfl, by simp [hj]⟩⟩
    · exact .inr (.inl ⟨rfl, hj⟩)
    · exact .inr (.inr hj)
  refine ⟨fun k hk => ?_, fun k hk => ?_⟩
  · rcases hk with ⟨rfl, hk⟩ | hk
    · simp only [List.mem_append] at hk
      rcases hk with (hk | hk) | hk
      · rcases h.p (u :: r).length (.inl ⟨rfl, hk⟩) with ⟨j, h1⟩ | ⟨j, h1, h2⟩
        · obtain ⟨j', h3, h4⟩ := hO j h1
          have := inO_lt h4
          exact ⟨j', by simp at this; omega, h4⟩
        · rcases h2 with ⟨rfl, h2⟩ | h2
          · exact ⟨r.length, Nat.le_refl _, .inl ⟨rfl, by simp [h2]⟩⟩
          · have := inP_lt h2
            omega
      · obtain ⟨j, _, h2⟩ := h.o (u :: r).length (.inl ⟨rfl, hk⟩)
        obtain ⟨j', h3, h4⟩ := hO j h2
        have := inO_lt h4
        exact ⟨j', by simp at this; omega, h4⟩
      · obtain ⟨j, _, h2⟩ := h.o r.length (.inr (.inl ⟨rfl, hk⟩))
        obtain ⟨j', h3, h4⟩ := hO j h2
        have := inO_lt h4
        exact ⟨j', by simp at this; omega, h4⟩
    · obtain ⟨j, h1, h2⟩ := h.o k (.inr (.inr hk))
      obtain ⟨j', h3, h4⟩ := hO j h2
      exact ⟨j', by omega, h4⟩
  · have hk' : inP (t :: u :: r) k x := by
      rcases hk with ⟨rfl, hk⟩ | hk
      · exact .inr (.inl ⟨rfl, hk⟩)
      · exact .inr (.inr hk)
    rcases h.p k hk' with ⟨j, h1⟩ | ⟨j, h1, h2⟩
    · obtain ⟨j', _, h4⟩ := hO j h1
      exact .inl ⟨j', h4⟩
    · rcases hP j h2 with h3 | h3
      · exact .inl h3
      · exact .inr ⟨j, h1, h3⟩
/-- Is a task's work parallel to what comes next? -/
def Late (S : List Bg) (x : Nat) : Prop := ∃ k, inO S k x
theorem Dom.late {S : List Bg} {x y : Nat} (h : Dom S x y) (hx : Late S x) : Late S y := by
  obtain ⟨k, hk⟩ := hx
  obtain ⟨j, _, hj⟩ := h.o k hk
  exact ⟨j, hj⟩
end Go.Proofs.Ytolhojagbiaamaa
/-! The bags against the row: a task's work is parallel to what comes next just where its deeds are; who stands for all writers and readers of a place tells each race. -/
namespace Go.Proofs.Ytolhojagbiaamaa
set_option linter.unusedVariables false
set_option maxRecDepth 20000
set_option linter.unusedSimpArgs false

/-- All tasks of the bags. -/
def allB : List Bg → List Nat
  | [] => []
  | t :: r => (t.P ++ t.O) ++ allB r
theorem inP_mem : ∀ {S : List Bg} {k x : Nat}, inP S k x → x ∈ allB S
  | [], _, _, h => h.elim
  | t :: r, k, x, h => by
    rcases h with h | h
    · simp [allB, h.2]
    · simp [allB, inP_mem h]
theorem inO_mem : ∀ {S : List Bg} {k x : Nat}, inO S k x → x ∈ allB S
  | [], _, _, h => h.elim
  | t :: r, k, x, h => by
    rcases h with h | h
    · simp [allB, h.2]
    · simp [allB, inO_mem h]
theorem not_both : ∀ {S : List Bg}, (allB S).Nodup → ∀ {k j x : Nat}, inP S k x → ¬ inO S j x
  | [], _, _, _, _, h, _ => h.elim
  | t :: r, hnd, k, j, x, hp, ho => by
    simp only [allB, List.nodup_append] at hnd
    obtain ⟨⟨h1, h2, h3⟩, h4, h5⟩ := hnd
    rcases hp with ⟨_, hp⟩ | hp
    · rcases ho with ⟨_, ho⟩ | ho
      · exact h3 x hp x ho rfl
      · exact h5 x (by simp [hp]) x (inO_mem ho) rfl
    · rcases ho with ⟨_, ho⟩ | ho
      · exact h5 x (by simp [ho]) x (inP_mem hp) rfl
      · exact not_both h4 hp ho
/-- The bags and the pieces of the row go together. -/
def Prs (ds : List Dd) (n : Nat) : List Bg → List Tk → Prop
  | [], [] => True
  | b :: bs, t :: ts => b.id ∈ b.P ∧ (∀ a, a < n → (doer ds a ∈ b.P ↔ a ∈ t.P)) ∧ (∀ a, a < n → (doer ds a ∈ b.O ↔ a ∈ t.O)) ∧ Prs ds n bs ts
  | _, _ => False
theorem Prs.len {ds : List Dd} {n : Nat} : ∀ {bs : List Bg} {ts : List Tk}, Prs ds n bs ts → bs.length = ts.length
  | [], [], _ => rfl
  | [], _ :: _, h => h.elim
  | _ :: _, [], h => h.elim
  | b :: bs, t :: ts, h => by have := Prs.len h.2.2.2; simp [this]
/-- The entries that a deed does not change: it is none of their own. -/
theorem Prs.more {ds : List Dd} {n : Nat} : ∀ {bs : List Bg} {ts : List Tk}, Prs ds n bs ts → doer ds n ∉ allB bs → (∀ a, a ∈ Cof ts → a < n) → (∀ a, a ∈ Oof ts → a < n) → Prs ds (n + 1) bs ts
  | [], [], _, _, _, _ => trivial
  | [], _ :: _, h, _, _, _ => h.elim
  | _ :: _, [], h, _, _, _ => h.elim
  | b :: bs, t :: ts, h, hd, hC, hO => by
    obtain ⟨h1, h2, h3, h4⟩ := h
    simp only [allB, List.mem_append, not_or] at hd
    refine ⟨h1, fun a ha => ?_, fun a ha => ?_, Prs.more h4 hd.2 (fun a ha => hC a (List.mem_append.2 (.inl ha))) (fun a ha => hO a (List.mem_append.2 (.inr ha)))⟩
    · by_cases e : a = n
      · subst e
        exact ⟨fun h => (hd.1.1 h).elim, fun h => by have := hC a (List.mem_append.2 (.inr h)); omega⟩
      · exact h2 a (by omega)
    · by_cases e : a = n
      · subst e
        exact ⟨fun h => (hd.1.2 h).elim, fun h => by have := hO a (List.mem_append.2 (.inl h)); omega⟩
      · exact h3 a (by omega)
theorem Prs.late {ds : List Dd} {n : Nat} : ∀ {bs : List Bg} {ts : List Tk}, Prs ds n bs ts → ∀ a, a < n → ((∃ k, inO bs k (doer ds a)) ↔ a ∈ Oof ts)
  | [], [], _, a, _ => by simp [inO, Oof]
  | [], _ :: _, h, _, _ => h.elim
  | _ :: _, [], h, _, _ => h.elim
  | b :: bs, t :: ts, h, a, ha => by
    have ih := Prs.late h.2.2.2 a ha
    have h3 := h.2.2.1 a ha
    rw [oof_cons, List.mem_append, ← ih, ← h3]
    constructor
    · rintro ⟨k, hk | hk⟩
      · exact .inl hk.2
      · exact .inr ⟨k, hk⟩
    · rintro (hk | ⟨k, hk⟩)
      · exact ⟨_, .inl ⟨rfl, hk⟩⟩
      · exact ⟨k, .inr hk⟩
/-- The bags behind the first n deeds. -/
structure BInv (ds : List Dd) (n : Nat) : Prop where
  prs : Prs ds n (bgN ds n) (stN ds n)
  nd : (allB (bgN ds n)).Nodup
  lt : ∀ x ∈ allB (bgN ds n), x < cntB ds n
  doers : ∀ a, a < n → doer ds a < cntB ds n
  pos : 1 ≤ cntB ds n
  bot : ∃ (A : List Bg) (e : Bg), bgN ds n = A ++ [e] ∧ 0 ∈ e.P
theorem binv_zero (ds : List Dd) : BInv ds 0 := by
  refine ⟨⟨by simp, fun a ha => by omega, fun a ha => by omega, trivial⟩, by simp [bgN, allB], by simp [bgN, allB, cntB], fun a ha => by omega, by simp [cntB], [], ⟨0, [0], []⟩, rfl, by simp⟩
theorem allB_cons (t : Bg) (r : List Bg) : allB (t :: r) = (t.P ++ t.O) ++ allB r := rfl
theorem binv_step {ds : List Dd} {n : Nat} (hI : Inv ds n) (h : BInv ds n) (hst : stN ds n ≠ []) (hk : (ds.getD n ⟨3, 0⟩).k = 1 → 2 ≤ (stN ds n).length) : BInv ds (n + 1) := by
  obtain ⟨hp, hnd, hlt, hdo, hpos, A, e, hA, he⟩ := h
  cases hs : stN ds n with
  | nil => exact (hst hs).elim
  | cons t r =>
    cases hb : bgN ds n with
    | nil => rw [hb] at hA; simp at hA
    | cons b bs =>
      rw [hs, hb] at hp
      rw [hb] at hnd hlt hA
      obtain ⟨p1, p2, p3, p4⟩ := hp
      have hC : ∀ a, a ∈ Cof (t :: r) → a < n := fun a ha => (hI.all a).1 (by rw [hs]; exact List.mem_append.2 (.inl ha))
      have hO : ∀ a, a ∈ Oof (t :: r) → a < n := fun a ha => (hI.all a).1 (by rw [hs]; exact List.mem_append.2 (.inr ha))
      have hd : doer ds n = b.id := by unfold doer; rw [hb]; rfl
      rw [allB_cons, List.nodup_append] at hnd
      obtain ⟨n1, n2, n3⟩ := hnd
      rw [List.nodup_append] at n1
      obtain ⟨n4, n5, n6⟩ := n1
      have hidr : b.id ∉ allB bs := fun h => n3 b.id (by simp [p1]) b.id h rfl
      have hidO : b.id ∉ b.O := fun h => n6 b.id p1 b.id h rfl
      have hmore := Prs.more (n := n) p4 (by rw [hd]; exact hidr) (fun a ha => hC a (List.mem_append.2 (.inl ha))) (fun a ha => hO a (List.mem_append.2 (.inr ha)))
      have hidlt : b.id < cntB ds n := hlt b.id (by simp [allB, p1])
      have hs' : stN ds (n + 1) = stepT n ((ds.getD n ⟨3, 0⟩).k) (t :: r) := by rw [← hs]; rfl
      have hb' : bgN ds (n + 1) = stepB ((ds.getD n ⟨3, 0⟩).k) (cntB ds n) (b :: bs) := by rw [← hb]; rfl
      have hc' : cntB ds (n + 1) = if (ds.getD n ⟨3, 0⟩).k = 0 then cntB ds n + 1 else cntB ds n := rfl
      -- the top entry behind a deed of its own
      have topP : ∀ a, a < n + 1 → (doer ds a ∈ b.P ↔ a ∈ t.P ++ [n]) := fun a ha => by
        by_cases ea : a = n
        · subst ea; rw [hd]; simp [p1]
        · rw [p2 a (by omega)]; simp [ea]
      have topO : ∀ a, a < n + 1 → (doer ds a ∈ b.O ↔ a ∈ t.O) := fun a ha => by
        by_cases ea : a = n
        · subst ea; rw [hd]; exact ⟨fun h => (hidO h).elim, fun h => by have := hO a (List.mem_append.2 (.inl h)); omega⟩
        · exact p3 a (by omega)
      have hdo' : ∀ c, cntB ds n ≤ c → ∀ a, a < n + 1 → doer ds a < c := fun c hc a ha => by
        by_cases ea : a = n
        · subst ea; rw [hd]; omega
        · have := hdo a (by omega); omega
      by_cases k0 : (ds.getD n ⟨3, 0⟩).k = 0
      · rw [k0] at hs' hb'
        rw [if_pos k0] at hc'
        rw [st0] at hs'
        rw [sb0] at hb'
        refine ⟨?_, ?_, ?_, by rw [hc']; exact hdo' _ (by omega), by omega, ?_⟩
        · rw [hs', hb']
          refine ⟨by simp, fun a ha => ?_, fun a ha => by simp, p1, topP, topO, hmore⟩
          have := hdo' _ (Nat.le_refl _) a ha
          simp
          omega
        · rw [hb', allB_cons, allB_cons]
          have hT : cntB ds n ∉ b.P ++ b.O ++ allB bs := fun h => by have := hlt _ h; omega
          simp only [List.singleton_append, List.append_nil, List.nil_append]
          refine List.nodup_cons.2 ⟨hT, List.nodup_append.2 ⟨List.nodup_append.2 ⟨n4, n5, n6⟩, n2, n3⟩⟩
        · rw [hb', hc']
          intro x hx
          simp only [allB, List.append_nil, List.singleton_append, List.mem_cons] at hx
          rcases hx with rfl | hx
          · omega
          · have := hlt x hx; omega
        · rw [hb']
          exact ⟨⟨cntB ds n, [cntB ds n], []⟩ :: A, e, by rw [hA]; rfl, he⟩
      · rw [if_neg k0] at hc'
        by_cases k1 : (ds.getD n ⟨3, 0⟩).k = 1
        · have h2 := hk k1
          rw [hs] at h2
          obtain ⟨u, r', hr⟩ : ∃ u r', r = u :: r' := by
            cases r with
            | nil => simp at h2
            | cons u r' => exact ⟨u, r', rfl⟩
          subst hr
          obtain ⟨ub, br, hbr⟩ : ∃ ub br, bs = ub :: br := by
            cases bs with
            | nil => exact p4.elim
            | cons ub br => exact ⟨ub, br, rfl⟩
          subst hbr
          rw [k1] at hs' hb'
          rw [st1] at hs'
          rw [sb1] at hb'
          obtain ⟨q1, q2, q3, q4⟩ := hmore
          refine ⟨?_, ?_, ?_, by rw [hc']; exact hdo' _ (Nat.le_refl _), by omega, ?_⟩
          · rw [hs', hb']
            refine ⟨q1, q2, fun a ha => ?_, q4⟩
            have e1 := topP a ha
            have e2 := topO a ha
            have e3 := q3 a ha
            simp only [List.mem_append, List.mem_singleton] at e1 e2 e3 ⊢
            rw [e1, e2, e3]
            constructor
            · rintro (((h | h) | h) | h)
              · exact .inl (.inl (.inl h))
              · exact .inl (.inr h)
              · exact .inl (.inl (.inr h))
              · exact .inr h
            · rintro (((h | h) | h) | h)
              · exact .inl (.inl (.inl h))
              · exact .inl (.inr h)
              · exact .inl (.inl (.inr h))
              · exact .inr h
          · rw [hb']
            have hperm : (allB (⟨ub.id, ub.P, (b.P ++ b.O) ++ ub.O⟩ :: br)).Perm ((b.P ++ b.O) ++ allB (ub :: br)) := by
              rw [allB_cons, allB_cons]
              simp only
              have : (ub.P ++ (b.P ++ b.O ++ ub.O) ++ allB br).Perm ((b.P ++ b.O) ++ (ub.P ++ ub.O ++ allB br)) := by
                have h1 : (ub.P ++ (b.P ++ b.O ++ ub.O)).Perm ((b.P ++ b.O ++ ub.O) ++ ub.P) := List.perm_append_comm
                have h2 : ((b.P ++ b.O ++ ub.O) ++ ub.P).Perm ((b.P ++ b.O) ++ (ub.P ++ ub.O)) := by
                  rw [List.append_assoc (b.P ++ b.O)]
                  exact List.Perm.append_left _ List.perm_append_comm
                have h3 := (h1.trans h2).append_right (allB br)
                rwa [List.append_assoc (b.P ++ b.O)] at h3
              exact this
            exact hperm.nodup_iff.2 (List.nodup_append.2 ⟨List.nodup_append.2 ⟨n4, n5, n6⟩, n2, n3⟩)
          · rw [hb', hc']
            intro x hx
            refine hlt x ?_
            simp only [allB, List.mem_append] at hx ⊢
            rcases hx with (h | ((h | h) | h)) | h
            · exact .inr (.inl (.inl h))
            · exact .inl (.inl h)
            · exact .inl (.inr h)
            · exact .inr (.inl (.inr h))
            · exact .inr (.inr h)
          · rw [hb']
            cases A with
            | nil => simp at hA
            | cons a1 A1 =>
              injection hA with _ hA
              cases A1 with
              | nil =>
                simp at hA
                obtain ⟨hA1, hA2⟩ := hA
                subst hA2
                exact ⟨[], ⟨ub.id, ub.P, (b.P ++ b.O) ++ ub.O⟩, rfl, by rw [hA1]; exact he⟩
              | cons a2 A2 =>
                injection hA with _ hA
                exact ⟨⟨ub.id, ub.P, (b.P ++ b.O) ++ ub.O⟩ :: A2, e, by rw [hA]; rfl, he⟩
        · by_cases k2 : (ds.getD n ⟨3, 0⟩).k = 2
          · rw [k2] at hs' hb'
            rw [st2] at hs'
            rw [sb2] at hb'
            refine ⟨?_, ?_, ?_, by rw [hc']; exact hdo' _ (Nat.le_refl _), by omega, ?_⟩
            · rw [hs', hb']
              refine ⟨by simp [p1], fun a ha => ?_, fun a ha => by simp, hmore⟩
              have e1 := topP a ha
              have e2 := topO a ha
              simp only [List.mem_append, List.mem_singleton] at e1 e2 ⊢
              rw [e1, e2]
              constructor
              · rintro ((h | h) | h)
                · exact .inl (.inl h)
                · exact .inr h
                · exact .inl (.inr h)
              · rintro ((h | h) | h)
                · exact .inl (.inl h)
                · exact .inr h
                · exact .inl (.inr h)
            · rw [hb', allB_cons]
              simp only [List.append_nil]
              exact List.nodup_append.2 ⟨List.nodup_append.2 ⟨n4, n5, n6⟩, n2, n3⟩
            · rw [hb', hc']
              intro x hx
              refine hlt x ?_
              simpa [allB] using hx
            · rw [hb']
              cases A with
              | nil =>
                simp at hA
                obtain ⟨hA1, hA2⟩ := hA
                subst hA2
                exact ⟨[], ⟨b.id, b.P ++ b.O, []⟩, rfl, by rw [hA1]; simp [he]⟩
              | cons a1 A1 =>
                injection hA with _ hA
                exact ⟨⟨b.id, b.P ++ b.O, []⟩ :: A1, e, by rw [hA]; rfl, he⟩
          · rw [st3 _ _ _ _ k0 k1 k2] at hs'
            rw [sb3 _ _ _ _ k0 k1 k2] at hb'
            refine ⟨?_, ?_, ?_, by rw [hc']; exact hdo' _ (Nat.le_refl _), by omega, ?_⟩
            · rw [hs', hb']
              exact ⟨p1, topP, topO, hmore⟩
            · rw [hb', allB_cons]
              exact List.nodup_append.2 ⟨List.nodup_append.2 ⟨n4, n5, n6⟩, n2, n3⟩
            · rw [hb', hc']; exact hlt
            · rw [hb']; exact ⟨A, e, hA, he⟩
end Go.Proofs.Ytolhojagbiaamaa
