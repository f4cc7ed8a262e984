import Derived.Test.YtolhojagbiaamaaRcBefW
import Derived.Test.YtolhojagbiaamaaRcCheckLaw
/-! Parallel: the program's and the document's. -/
namespace Go.Proofs.Ytolhojagbiaamaa
set_option linter.unusedVariables false
set_option maxRecDepth 20000
set_option linter.unusedSimpArgs false
open Go.RowKit Go.HeapKit

theorem chk_fine {l : List Dd} (h : chkE l = 0) : l.length ≤ 4096 ∧ Fine l := by
  by_cases h1 : l.length > 4096
  · rw [(chk_long h1).1] at h; omega
  · refine ⟨by omega, ⟨?_⟩⟩
    cases hc : chkL l 0 0 with
    | none => rfl
    | some i => rw [(chk_some h1 hc).1] at h; omega
/-- Is the number of a deed told? -/
def outI (l : List Dd) (i : Int) : Bool := decide (i < 0) || decide (i ≥ (l.length : Int))
def parE (l : List Dd) (i j : Int) : Int := if chkE l = 0 then (if (outI l i || outI l j) = true then 3 else 0) else chkE l
def parB (l : List Dd) (i j : Int) : Bool := if chkE l = 0 ∧ (outI l i || outI l j) = false then decide ((Lof (stN l l.length)).idxOf (max i.toNat j.toNat) < (Lof (stN l l.length)).idxOf (min i.toNat j.toNat)) else false
theorem par_bad {l : List Dd} {i j : Int} (h : ¬ chkE l = 0) : parB l i j = false ∧ parE l i j = chkE l := ⟨by unfold parB; rw [if_neg (fun e => h e.1)], by unfold parE; rw [if_neg h]⟩
theorem par_out {l : List Dd} {i j : Int} (h : chkE l = 0) (ho : (outI l i || outI l j) = true) : parB l i j = false ∧ parE l i j = 3 := ⟨by unfold parB; rw [if_neg (fun e => by rw [ho] at e; exact absurd e.2 (by decide))], by unfold parE; rw [if_pos h, if_pos ho]⟩
theorem par_in {l : List Dd} {i j : Nat} (h : chkE l = 0) (hi : i < l.length) (hj : j < l.length) : parB l i j = decide ((Lof (stN l l.length)).idxOf (max i j) < (Lof (stN l l.length)).idxOf (min i j)) ∧ parE l i j = 0 := by
  have ho : (outI l i || outI l j) = false := by unfold outI; simp; omega
  refine ⟨by unfold parB; rw [if_pos ⟨h, ho⟩]; simp, by unfold parE; rw [if_pos h, ho]; rfl⟩
theorem par_eq {l : List Dd} {i j : Int} {b : Bool} {e : Int} (h : parB l i j = b ∧ parE l i j = e) : Ending.returned (.tuple #[.bool b, .int .i64 e]) = Ending.returned (.tuple #[.bool (parB l i j), .int .i64 (parE l i j)]) := by rw [h.1, h.2]
set_option maxHeartbeats 4000000 in
theorem parallel_ok (a : Option Addr) (n c : Nat) (l : List Dd) (i j : Int) (w : World) (hS : Seen w a n l) :
    Calls Try.prog 14 #[.slice a n c, .int .i64 i, .int .i64 j] w fun e w' => e = .returned (.tuple #[.bool (parB l i j), .int .i64 (parE l i j)]) ∧ Keeps None w w' := by
  have HS : Hid (Seen w a n l) := hS
  have HLen : Hid (n = l.length) := hS.len
  clear hS
  go_enter Try.func14, Try.ntmps14
  go_upto_region 2 with (go_at_call 10; refine Calls.mono (check_raw a n c l w HS.out) ?_; rintro _ w1 ⟨rfl, hk1⟩)
  obtain ⟨E, hE⟩ : ∃ E, E = chkE l := ⟨_, rfl⟩
  obtain ⟨A1, hA1⟩ : ∃ A1, A1 = chkA l := ⟨_, rfl⟩
  rw [← hE, ← hA1]
  have b2 := heap_alloc_new w1 (.cells #[.int .i64 E, .int .i64 A1] 26)
  have k2 := hk1.andAlloc (.cells #[.int .i64 E, .int .i64 A1] 26)
  obtain ⟨w2, hw2⟩ : ∃ w2, w2 = w1.alloc (.cells #[.int .i64 E, .int .i64 A1] 26) := ⟨_, rfl⟩
  obtain ⟨B, hB⟩ : ∃ B, B = w1.heap.size := ⟨_, rfl⟩
  rw [← hw2] at b2 k2
  rw [← hB] at b2
  rw [← hw2, ← hB]
  have g0 : w2.cell? ⟨B, 0, none⟩ = some (.int .i64 E) := cell_of_heap b2 0
  have HK : Hid (Keeps None w w2) := k2
  have HE : Hid (chkE l = E) := hE.symm
  clear b2 k2 hw2 hB hE hA1 hk1
  by_cases hE0 : E = 0
  · subst hE0
    obtain ⟨hn, hf⟩ := chk_fine HE.out
    have hn2 : n ≤ 4096 := by rw [HLen.out]; exact hn
    have HP : Hid _ := parentsFirst_ok a n c l w2 (HS.out.more HK.out) hf hn2
    obtain ⟨d, _, _, hI⟩ := hf.at l.length (Nat.le_refl _)
    have HI : Hid (Inv l l.length) := hI
    clear hn hf hI
    by_cases ho : (outI l i || outI l j) = true
    · have HO : Hid _ := par_out HE.out ho
      have hmm : min i j < 0 ∨ (¬ min i j < 0 ∧ max i j ≥ (n : Int)) := by
        have := HLen.out
        unfold outI at ho
        simp at ho
        omega
      clear ho HP HI
      rcases hmm with hm | ⟨hm, hx⟩
      · go_wp2
        all_goals (go_ret2; exact ⟨par_eq HO.out, HK.out⟩)
      · go_wp2
        all_goals (go_ret2; exact ⟨par_eq HO.out, HK.out⟩)
    · obtain ⟨i', rfl, hi'⟩ : ∃ i' : Nat, i = i' ∧ i' < l.length := by
        refine ⟨i.toNat, ?_, ?_⟩ <;> (unfold outI at ho; simp at ho; omega)
      obtain ⟨j', rfl, hj'⟩ : ∃ j' : Nat, j = j' ∧ j' < l.length := by
        refine ⟨j.toNat, ?_, ?_⟩ <;> (unfold outI at ho; simp at ho; omega)
      have HV : Hid _ := par_in HE.out hi' hj'
      have i1 : ((i' : Nat) : Int) < (n : Int) := by rw [HLen.out]; omega
      have i2 : ((j' : Nat) : Int) < (n : Int) := by rw [HLen.out]; omega
      have hin : ∀ q, q < l.length → q ∈ Lof (stN l l.length) := fun q hq => (HI.out.all q).2 hq
      have HIN : Hid (i' ∈ Lof (stN l n) ∧ j' ∈ Lof (stN l n)) := by rw [HLen.out]; exact ⟨hin i' hi', hin j' hj'⟩
      clear ho hi' hj' hin HI
      rcases Nat.lt_trichotomy i' j' with hij | hij | hij
      · skip
        have f1 : (i' : Int) < (j' : Int) := by omega
        have f2 : ¬ (j' : Int) < (i' : Int) := by omega
        have f3 : (i' : Int) ≤ (j' : Int) := by omega
        have f4 : ¬ (j' : Int) ≤ (i' : Int) := by omega
        have f5 : ¬ j' ≤ i' := by omega
        have f6 : ¬ j' < i' := by omega
        have f7 : i' ≤ j' := by omega
        have hmm : max i' j' = j' ∧ min i' j' = i' := by omega
        have HMM : Hid (max i' j' = j' ∧ min i' j' = i') := hmm
        clear hmm
        go_wp2_with (first
          | (go_at_call 35; refine Calls.mono HP.out ?_; rintro _ w3 ⟨g, c3, rfl, hr3, hk3⟩)
          | (go_at_call 34; refine Calls.mono (swapped_ok g n c3 _ (Lof (stN l n)) i' j' w3 hr3 HIN.out.1 HIN.out.2 hn2) ?_; rintro _ w4 ⟨rfl, hw4⟩; have hw4' := hw4.symm; subst hw4'))
        go_ret2
        refine ⟨?_, HK.out.trans hk3 (fun _ f _ => f)⟩
        rw [HV.out.1, HV.out.2, HMM.out.1, HMM.out.2, HLen.out]
        first
          | rfl
          | (simp only [Nat.lt_irrefl, decide_false]; rfl)
      · subst hij
        have hmm : max i' i' = i' ∧ min i' i' = i' := by omega
        have HMM : Hid (max i' i' = i' ∧ min i' i' = i') := hmm
        clear hmm
        go_wp2_with (first
          | (go_at_call 35; refine Calls.mono HP.out ?_; rintro _ w3 ⟨g, c3, rfl, hr3, hk3⟩)
          | (go_at_call 34; refine Calls.mono (swapped_ok g n c3 _ (Lof (stN l n)) i' i' w3 hr3 HIN.out.1 HIN.out.1 hn2) ?_; rintro _ w4 ⟨rfl, hw4⟩; have hw4' := hw4.symm; subst hw4'))
        go_ret2
        refine ⟨?_, HK.out.trans hk3 (fun _ f _ => f)⟩
        rw [HV.out.1, HV.out.2, HMM.out.1, HMM.out.2, HLen.out]
        first
          | rfl
          | (simp only [Nat.lt_irrefl, decide_false]; rfl)
      · skip
        have f1 : (j' : Int) < (i' : Int) := by omega
        have f2 : ¬ (i' : Int) < (j' : Int) := by omega
        have f3 : (j' : Int) ≤ (i' : Int) := by omega
        have f4 : ¬ (i' : Int) ≤ (j' : Int) := by omega
        have f5 : ¬ i' ≤ j' := by omega
        have f6 : ¬ i' < j' := by omega
        have f7 : j' ≤ i' := by omega
        have hmm : max i' j' = i' ∧ min i' j' = j' := by omega
        have HMM : Hid (max i' j' = i' ∧ min i' j' = j') := hmm
        clear hmm
        go_wp2_with (first
          | (go_at_call 35; refine Calls.mono HP.out ?_; rintro _ w3 ⟨g, c3, rfl, hr3, hk3⟩)
          | (go_at_call 34; refine Calls.mono (swapped_ok g n c3 _ (Lof (stN l n)) j' i' w3 hr3 HIN.out.2 HIN.out.1 hn2) ?_; rintro _ w4 ⟨rfl, hw4⟩; have hw4' := hw4.symm; subst hw4'))
        go_ret2
        refine ⟨?_, HK.out.trans hk3 (fun _ f _ => f)⟩
        rw [HV.out.1, HV.out.2, HMM.out.1, HMM.out.2, HLen.out]
        first
          | rfl
          | (simp only [Nat.lt_irrefl, decide_false]; rfl)
  · have HO : Hid _ := par_bad (i := i) (j := j) (fun h => hE0 (HE.out.symm.trans h))
    go_upto_region 3 with fail
    go_quiet (fail)
    go_wp2
    go_ret2
    exact ⟨by rw [← HE.out]; exact par_eq HO.out, HK.out.trans (keeps_drewN _ _) (fun _ f _ => f)⟩
theorem idx_inj {L : List Nat} {a b : Nat} (ha : a ∈ L) (h : L.idxOf a = L.idxOf b) : a = b := by
  have h1 := List.getElem_idxOf (List.idxOf_lt_length_iff.2 ha)
  have hb : L.idxOf b < L.length := by rw [← h]; exact List.idxOf_lt_length_iff.2 ha
  have h2 := List.getElem_idxOf hb
  have h3 : L[L.idxOf a]'(List.idxOf_lt_length_iff.2 ha) = L[L.idxOf b] := by simp only [h]
  rw [h1, h2] at h3
  exact h3
theorem par_val {l : List Dd} {i j : Nat} {M : Nat → Nat → Bool} (hI : Inv l l.length) (hSy : Says l l.length l.length M) (hi : i < l.length) (hj : j < l.length) (hij : i < j) :
    decide ((Lof (stN l l.length)).idxOf j < (Lof (stN l l.length)).idxOf i) = (!M j i) ∧ M i j = false := by
  have h1 := hSy j hj i hi
  have h2 := hSy i hi j hj
  rw [hI.ah j hj i] at h1
  rw [hI.ah i hi j] at h2
  have hne : (Lof (stN l l.length)).idxOf i ≠ (Lof (stN l l.length)).idxOf j := fun e => by
    have := idx_inj ((hI.all i).2 hi) e
    omega
  constructor
  · cases hM : M j i with
    | true =>
      have := (h1.1 hM).2
      simp; omega
    | false =>
      simp
      rw [hM] at h1
      have h3 : ¬ ((Lof (stN l l.length)).idxOf i < (Lof (stN l l.length)).idxOf j) := fun h => by
        have := h1.2 ⟨hij, h⟩
        simp at this
      omega
  · cases hM : M i j with
    | true => have := (h2.1 hM).1; omega
    | false => rfl
set_option maxHeartbeats 4000000 in
theorem rparallel_ok (a : Option Addr) (n c : Nat) (l : List Dd) (i j : Int) (w : World) (hS : Seen w a n l) :
    Calls Try.prog 15 #[.slice a n c, .int .i64 i, .int .i64 j] w fun e w' => e = .returned (.tuple #[.bool (parB l i j), .int .i64 (parE l i j)]) ∧ Keeps None w w' := by
  have HS : Hid (Seen w a n l) := hS
  have HLen : Hid (n = l.length) := hS.len
  clear hS
  go_enter Try.func15, Try.ntmps15
  go_upto_region 2 with (go_at_call 11; refine Calls.mono (rcheck_raw a n c l w HS.out) ?_; rintro _ w1 ⟨rfl, hk1⟩)
  obtain ⟨E, hE⟩ : ∃ E, E = chkE l := ⟨_, rfl⟩
  obtain ⟨A1, hA1⟩ : ∃ A1, A1 = chkA l := ⟨_, rfl⟩
  rw [← hE, ← hA1]
  have b2 := heap_alloc_new w1 (.cells #[.int .i64 E, .int .i64 A1] 26)
  have k2 := hk1.andAlloc (.cells #[.int .i64 E, .int .i64 A1] 26)
  obtain ⟨w2, hw2⟩ : ∃ w2, w2 = w1.alloc (.cells #[.int .i64 E, .int .i64 A1] 26) := ⟨_, rfl⟩
  obtain ⟨B, hB⟩ : ∃ B, B = w1.heap.size := ⟨_, rfl⟩
  rw [← hw2] at b2 k2
  rw [← hB] at b2
  rw [← hw2, ← hB]
  have g0 : w2.cell? ⟨B, 0, none⟩ = some (.int .i64 E) := cell_of_heap b2 0
  have HK : Hid (Keeps None w w2) := k2
  have HE : Hid (chkE l = E) := hE.symm
  clear b2 k2 hw2 hB hE hA1 hk1
  by_cases hE0 : E = 0
  · subst hE0
    obtain ⟨hn, hf⟩ := chk_fine HE.out
    have hn2 : n ≤ 4096 := by rw [HLen.out]; exact hn
    have HP : Hid _ := before_ok a n c l w2 (HS.out.more HK.out) hf hn2
    obtain ⟨d, _, _, hI⟩ := hf.at l.length (Nat.le_refl _)
    have HI : Hid (Inv l l.length) := hI
    clear hn hf hI
    by_cases ho : (outI l i || outI l j) = true
    · have HO : Hid _ := par_out HE.out ho
      have hmm : (i < 0 ∨ i ≥ (n : Int)) ∨ (j < 0 ∨ j ≥ (n : Int)) := by
        have := HLen.out
        unfold outI at ho
        simp at ho
        omega
      clear ho HP HI
      have fin : True := trivial
      by_cases h1 : i < 0
      · go_wp2
        all_goals (go_ret2; exact ⟨par_eq HO.out, HK.out⟩)
      · by_cases h2 : i ≥ (n : Int)
        · go_wp2
          all_goals (go_ret2; exact ⟨par_eq HO.out, HK.out⟩)
        · by_cases h3 : j < 0
          · go_wp2
            all_goals (go_ret2; exact ⟨par_eq HO.out, HK.out⟩)
          · have h4 : j ≥ (n : Int) := by omega
            go_wp2
            all_goals (go_ret2; exact ⟨par_eq HO.out, HK.out⟩)
    · obtain ⟨i', rfl, hi'⟩ : ∃ i' : Nat, i = i' ∧ i' < l.length := by
        refine ⟨i.toNat, ?_, ?_⟩ <;> (unfold outI at ho; simp at ho; omega)
      obtain ⟨j', rfl, hj'⟩ : ∃ j' : Nat, j = j' ∧ j' < l.length := by
        refine ⟨j.toNat, ?_, ?_⟩ <;> (unfold outI at ho; simp at ho; omega)
      have HV : Hid (parB l i' j' = decide ((Lof (stN l l.length)).idxOf (max i' j') < (Lof (stN l l.length)).idxOf (min i' j')) ∧ parE l i' j' = 0 ∧ i' < l.length ∧ j' < l.length) := ⟨(par_in HE.out hi' hj').1, (par_in HE.out hi' hj').2, hi', hj'⟩
      have i1 : ((i' : Nat) : Int) < (n : Int) := by rw [HLen.out]; omega
      have i2 : ((j' : Nat) : Int) < (n : Int) := by rw [HLen.out]; omega
      have i3 : ¬ ((i' : Nat) : Int) < 0 := by omega
      have i4 : ¬ ((j' : Nat) : Int) < 0 := by omega
      have i5 : ¬ ((i' : Nat) : Int) ≥ (n : Int) := by omega
      have i6 : ¬ ((j' : Nat) : Int) ≥ (n : Int) := by omega
      clear ho hi' hj'
      go_upto_region 8 with (go_at_call 36; refine Calls.mono HP.out ?_; rintro _ w3 ⟨G, R, M, rfl, hB, hSy, hk3⟩)
      have gi : w3.cell? ⟨G, i', none⟩ = some (.slice (some ⟨R i', 0, none⟩) n n) := ((cell_of_heap hB.out i').trans (outB_at (by omega))).trans (by unfold vsB; rw [if_pos (by omega)])
      have gj : w3.cell? ⟨G, j', none⟩ = some (.slice (some ⟨R j', 0, none⟩) n n) := ((cell_of_heap hB.out j').trans (outB_at (by omega))).trans (by unfold vsB; rw [if_pos (by omega)])
      have ri : w3.cell? ⟨R i', j', none⟩ = some (.bool (M i' j')) := (cell_of_heap (hB.row i' (by omega)) j').trans (bools_at _ _ (by omega))
      have rj : w3.cell? ⟨R j', i', none⟩ = some (.bool (M j' i')) := (cell_of_heap (hB.row j' (by omega)) i').trans (bools_at _ _ (by omega))
      have HSy : Hid (Says l l.length l.length M) := by have := HLen.out; rw [this] at hSy; exact hSy
      have HK3 : Hid (Keeps None w w3) := HK.out.trans hk3 (fun _ f _ => f)
      clear hB hSy hk3 HP
      rcases Nat.lt_trichotomy i' j' with hij | hij | hij
      · have hv := par_val HI.out HSy.out HV.out.2.2.1 HV.out.2.2.2 hij
        have hR : parB l i' j' = (!M j' i') := by rw [HV.out.1, show max i' j' = j' by omega, show min i' j' = i' by omega]; exact hv.1
        have HR : Hid (parB l i' j' = (!M j' i')) := hR
        have hm := hv.2
        rw [hm] at ri
        have fne : ((i' : Int) != (j' : Int)) = true := by simp; omega
        clear hv hR hm
        cases hMM : M j' i' with
        | true =>
          rw [hMM] at rj HR
          go_wp2
          go_ret2
          refine ⟨?_, HK3.out⟩
          rw [HR.out, HV.out.2.1]
          first
            | rfl
            | (show Ending.returned (.tuple #[.bool _, .int .i64 0]) = _; simp [fne])
        | false =>
          rw [hMM] at rj HR
          go_wp2
          go_ret2
          refine ⟨?_, HK3.out⟩
          rw [HR.out, HV.out.2.1]
          first
            | rfl
            | (show Ending.returned (.tuple #[.bool ((i' : Int) != (j' : Int)), .int .i64 0]) = _; rw [fne]; rfl)
      · subst hij
        have hR : parB l i' i' = false := by rw [HV.out.1]; simp
        have HR : Hid (parB l i' i' = false) := hR
        clear hR
        go_wp2
        go_ret2
        refine ⟨?_, HK3.out⟩
        rw [HR.out, HV.out.2.1]
        rfl
      · have hv := par_val HI.out HSy.out HV.out.2.2.2 HV.out.2.2.1 hij
        have hR : parB l i' j' = (!M i' j') := by rw [HV.out.1, show max i' j' = i' by omega, show min i' j' = j' by omega]; exact hv.1
        have HR : Hid (parB l i' j' = (!M i' j')) := hR
        have hm := hv.2
        rw [hm] at rj
        have fne : ((i' : Int) != (j' : Int)) = true := by simp; omega
        clear hv hR hm
        cases hMM : M i' j' with
        | true =>
          rw [hMM] at ri HR
          go_wp2
          all_goals go_ret2
          all_goals refine ⟨?_, HK3.out⟩
          all_goals rw [HR.out, HV.out.2.1]
          all_goals rfl
        | false =>
          rw [hMM] at ri HR
          go_wp2
          all_goals go_ret2
          all_goals refine ⟨?_, HK3.out⟩
          all_goals rw [HR.out, HV.out.2.1]
          all_goals first
            | rfl
            | (show Ending.returned (.tuple #[.bool ((i' : Int) != (j' : Int)), .int .i64 0]) = _; rw [fne]; rfl)
  · have HO : Hid _ := par_bad (i := i) (j := j) (fun h => hE0 (HE.out.symm.trans h))
    go_upto_region 3 with fail
    go_quiet (fail)
    go_wp2
    go_ret2
    exact ⟨by rw [← HE.out]; exact par_eq HO.out, HK.out.trans (keeps_drewN _ _) (fun _ f _ => f)⟩
end Go.Proofs.Ytolhojagbiaamaa
