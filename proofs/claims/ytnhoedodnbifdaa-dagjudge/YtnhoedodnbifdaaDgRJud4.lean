import Derived.Test.YtnhoedodnbifdaaDgRJud3
/-! The document's Judge, whatever it is given. -/
namespace Go.Proofs.Ytnhoedodnbifdaa
set_option linter.unusedVariables false
set_option maxRecDepth 20000
open Go.RowKit Go.HeapKit

set_option maxHeartbeats 3200000 in
theorem rjudge_all (n : Int) (a : Option Addr) (m c : Nat) (l : List Ed) (p : Int) (za : Option Addr) (k zc : Nat) (zs : List Int) (w : World) (h : SeenE w a m l) (hs : m * 16 ≤ 140737488351232) (hz : SeenZ w za k zs) :
    Calls Try.prog 12 #[dagV n a m c, .int .i64 p, .slice za k zc] w fun e w' => JudA n p k zs l w e w' := by
  have hbox := blk_new w (.cells #[.int .i64 n, .slice a m c] 24) _ rfl
  have hk0 := keeps1 w (.cells #[.int .i64 n, .slice a m c] 24)
  have HS : Hid (SeenE w a m l ∧ SeenZ w za k zs ∧ (w.alloc (.cells #[.int .i64 n, .slice a m c] 24)).heap[w.heap.size]? = some (.cells #[.int .i64 n, .slice a m c] 24 (0, 0)) ∧ Keeps None w (w.alloc (.cells #[.int .i64 n, .slice a m c] 24))) := ⟨h, hz, hbox, hk0⟩
  obtain ⟨V, hV⟩ : ∃ V, V = checkV n l := ⟨_, rfl⟩
  have HV : Hid (V = checkV n l) := hV
  clear h hz hV hbox hk0
  unfold dagV
  go_enter Try.func12, Try.ntmps12
  go_wp2_with fail
  refine (rcheck_any n a m c l _ (HS.out.1.more HS.out.2.2.2) hs).mono ?_
  rintro e w2 ⟨rfl, hk2⟩
  rw [← HV.out]
  have H2 : Hid (Keeps None w w2 ∧ w2.heap[w.heap.size]? = some (.cells #[.int .i64 n, .slice a m c] 24 (0, 0))) := ⟨HS.out.2.2.2.trans hk2 (fun _ f _ => f), blk_kept HS.out.2.2.1 hk2 (fun f => f)⟩
  have d0 : w2.cell? ⟨w.heap.size, 0, none⟩ = some (.int .i64 n) := (blk_cell H2.out.2 0).trans rfl
  have d1 : w2.cell? ⟨w.heap.size, 1, none⟩ = some (.slice a m c) := (blk_cell H2.out.2 1).trans rfl
  clear hk2
  by_cases hV0 : V = 0
  · have HC : Hid (checkV n l = 0) := by rw [← HV.out]; exact hV0
    have q0 : (V != 0) = false := by simp [hV0]
    subst hV0
    by_cases hp1 : p < 1
    · have HJ : Hid (judE n l p k = 3) := by
        have e : greE n l p = 3 := by unfold greE; rw [if_pos HC.out, if_pos (.inl hp1)]
        unfold judE
        rw [e, if_neg (by omega)]
        exact rfl
      go_wp2_with fail
      go_ret2
      exact ⟨0, by rw [HJ.out]; rfl, ⟨fun _ => rfl, fun h => by rw [HJ.out] at h; omega⟩, H2.out.1⟩
    · by_cases hp2 : p > 64
      · have HJ : Hid (judE n l p k = 3) := by
          have e : greE n l p = 3 := by unfold greE; rw [if_pos HC.out, if_pos (.inr hp2)]
          unfold judE
          rw [e, if_neg (by omega)]
          exact rfl
        go_wp2_with fail
        go_ret2
        exact ⟨0, by rw [HJ.out]; rfl, ⟨fun _ => rfl, fun h => by rw [HJ.out] at h; omega⟩, H2.out.1⟩
      · have HE : Hid (greE n l p = 0) := by unfold greE; rw [if_pos HC.out, if_neg (by omega)]; exact rfl
        by_cases hk : (k : Int) = n
        · subst hk
          have hd := dag_of HC.out
          obtain ⟨P, rfl⟩ := Int.eq_ofNat_of_zero_le (show 0 ≤ p by omega)
          have HJ : Hid (judE (k : Int) l (P : Int) k = 0) := by unfold judE; rw [if_pos HE.out, if_pos rfl]; exact rfl
          have HD : Hid (Dag (k : Int) l) := hd
          have q2 : ((k : Int) != (k : Int)) = false := by simp
          clear hd
          go_wp2_with fail
          refine (rsched_any k a m c l P (by omega) za zc zs _ (HS.out.1.more H2.out.1) (HS.out.2.1.more H2.out.1) HD.out).mono ?_
          rintro e w3 ⟨b, rfl, hb, hk3⟩
          have H3 : Hid (Keeps None w w3 ∧ (b = true ↔ SchR P zs l)) := ⟨H2.out.1.trans hk3 (fun _ f _ => f), hb⟩
          have d2 := hk3.cell d0 (fun f => f)
          have d3 := hk3.cell d1 (fun f => f)
          clear hb hk3 d0 d1
          cases b with
          | false =>
            have HN : Hid (¬ isSched (P : Int) zs l) := fun h9 => by have := H3.out.2.2 (schR_iff.1 h9); cases this
            go_wp2_with fail
            go_ret2
            exact ⟨0, by rw [HJ.out]; rfl, ⟨fun _ => rfl, fun _ => .inl ⟨rfl, by simpa using HN.out⟩⟩, H3.out.1⟩
          | true =>
            have HI : Hid (isSched (P : Int) zs l) := schR_iff.2 (H3.out.2.1 rfl)
            go_wp2_with fail
            refine (rgreedy_any k a m c l P (by omega) za zc zs _ (HS.out.1.more H3.out.1) (HS.out.2.1.more H3.out.1) HD.out (schR_iff.1 HI.out).one).mono ?_
            rintro e w4 ⟨b, rfl, hb, hk4⟩
            have hg := grR_iff (p := P) (zs := zs) (by omega) HS.out.2.1.len.symm HD.out HI.out
            have H4 : Hid (Keeps None w w4 ∧ (b = true ↔ grOk P zs l zs.length)) := ⟨H3.out.1.trans hk4 (fun _ f _ => f), hb.trans hg.symm⟩
            clear hb hk4 hg
            cases b with
            | false =>
              go_wp2_with fail
              go_ret2
              exact ⟨1, by rw [HJ.out]; rfl, ⟨fun h => absurd HJ.out h, fun _ => .inr (.inl ⟨rfl, by simpa using HI.out, fun h9 => by have := H4.out.2.2 (by simpa using h9); cases this⟩)⟩, H4.out.1⟩
            | true =>
              go_wp2_with fail
              go_ret2
              exact ⟨2, by rw [HJ.out]; rfl, ⟨fun h => absurd HJ.out h, fun _ => .inr (.inr ⟨rfl, by simpa using HI.out, by simpa using H4.out.2⟩)⟩, H4.out.1⟩
        · have HJ : Hid (judE n l p k = 72) := by unfold judE; rw [if_pos HE.out, if_neg hk]; exact rfl
          have q2 : ((k : Int) != n) = true := by simp [hk]
          go_wp2_with fail
          go_ret2
          exact ⟨0, by rw [HJ.out]; rfl, ⟨fun _ => rfl, fun h => by rw [HJ.out] at h; omega⟩, H2.out.1⟩
  · have q0 : (V != 0) = true := by simp [hV0]
    have HJ : Hid (judE n l p k = V ∧ V ≠ 0) := by
      have e : greE n l p = V := by unfold greE; rw [if_neg (by rw [← HV.out]; exact hV0), ← HV.out]
      refine ⟨?_, hV0⟩
      unfold judE
      rw [e, if_neg hV0]
    clear hV0
    go_wp2_with fail
    go_ret2
    exact ⟨0, by rw [HJ.out.1]; rfl, ⟨fun _ => rfl, fun h => absurd (HJ.out.1 ▸ h) HJ.out.2⟩, H2.out.1⟩
end Go.Proofs.Ytnhoedodnbifdaa
