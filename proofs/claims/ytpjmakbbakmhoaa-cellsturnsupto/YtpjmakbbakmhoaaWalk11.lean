import Derived.Test.YtpjmakbbakmhoaaTwoMore
namespace Go.Proofs.Ytpjmakbbakmhoaa
open Go.RowKit Go.HeapKit
set_option maxHeartbeats 4000000 in
set_option maxRecDepth 100000 in
theorem walk_11 (n0 n1 : Int) (ao : Option Addr) (len cap : Nat) (M : Nat → Nat → Int) (one : Bool) (w : World) (hM : Fives w ao len M) (hlen : len ≤ 1048576) (g0 : fineW n0 = true) (g1 : fineW n1 = true) :
    Calls Try.prog 8 #[.int .i64 n0, .int .i64 n1, .slice ao len cap, .bool one, .bool false] w fun e w' => e = .returned (.bool true) ∧ Below w.heap.size w w' := by
  have x0 : errW n0 = 0 := by simp [errW, g0]
  have x1 : errW n1 = 0 := by simp [errW, g1]
  have hr0 := rnew_w n0 w
  rw [x0] at hr0
  go_enter Try.func8, Try.ntmps8
  go_wp2_with fail
  refine hr0.mono ?_
  rintro e w1 ⟨rfl, hR0, hk1⟩
  have hr1 := rnew_w n1 w1
  rw [x1] at hr1
  go_wp2_with fail
  refine hr1.mono ?_
  rintro e w2 ⟨rfl, hR1, hk2⟩
  have ha0 := ar_new n0 w2
  rw [x0] at ha0
  go_wp2_with fail
  refine ha0.mono ?_
  rintro e w3 ⟨av0, F0, rfl, hA0, hk3, hf0, hs0⟩
  have ha1 := ar_new n1 w3
  rw [x1] at ha1
  go_wp2_with fail
  refine ha1.mono ?_
  rintro e w4 ⟨av1, F1, rfl, hA1, hk4, hf1, hs1⟩
  clear ha0 ha1 hr0 hr1 x0 x1
  have HT : Hid _ := two_start hk1 hk2 hk3 hk4 hR0 hR1 hA0 hA1 hf0 hf1
  have HM : Hid (Fives w ao len M) := hM
  have hsz : Hid (w.heap.size ≤ w4.heap.size) := by
    have := hk1.size; have := hk2.size; have := hk3.size; have := hk4.size
    exact (by omega : w.heap.size ≤ w4.heap.size)
  clear hk1 hk2 hk3 hk4 hR0 hR1 hA0 hA1 hf0 hf1 hM
  obtain ⟨-, p0, rfl⟩ := hs0.resolve_left (fun h => by simp [g0] at h)
  obtain ⟨-, p1, rfl⟩ := hs1.resolve_left (fun h => by simp [g1] at h)
  go_wp2_with fail
  go_loopw [20, 21, 22] (fun i _ _ wr => ∃ k : Nat, k ≤ len ∧ i = .int .i64 k ∧ Two wr w.heap.size (.pointer (some ⟨p0, 0, none⟩)) (.pointer (some ⟨p1, 0, none⟩)) w.heap.size w1.heap.size w4.heap.size k ∧ Keeps (fun i => w.heap.size ≤ i) w wr) (fun i _ _ _ => len - (intOf i).toNat)
  case atStart => exact ⟨0, Nat.zero_le _, rfl, HT.out.1, HT.out.2⟩
  case round =>
    obtain ⟨k, hk, rfl, hT, hK⟩ := hrel
    by_cases hkn : k < len
    · obtain ⟨bm, off, rfl, hbm, hcs⟩ := HM.out (by omega)
      obtain ⟨c0, c1, c2, c3, c4⟩ := hcs k hkn
      have d0 := hK.cell c0 (by simp; omega)
      have d1 := hK.cell c1 (by simp; omega)
      have d2 := hK.cell c2 (by simp; omega)
      have d3 := hK.cell c3 (by simp; omega)
      have d4 := hK.cell c4 (by simp; omega)
      have i1 : (k : Int) < (len : Int) := by omega
      generalize M k 0 = y0 at d0
      generalize M k 1 = y1 at d1
      generalize M k 2 = y2 at d2
      generalize M k 3 = y3 at d3
      generalize M k 4 = y4 at d4
      clear c0 c1 c2 c3 c4 hcs HT HM
      have hsr := hK.size
      have HR : Hid _ := And.intro hT hK
      have HS : Hid _ := hsr
      clear hT hK hsr
      cases one with
      | true =>
        go_wp2_with fail
        refine (two_plays _ _ _ _ _ _ (HR.out.1.quiet (Keeps.alloc None _ _)) (by omega) (by have := HS.out; simp; omega)).mono ?_
        rintro e w5 ⟨rfl, hT5, hK5⟩
        have HE : Hid _ := Two.next HR.out.2 hK5 hT5
        clear hT5 hK5
        go_wp2_with fail
        go_roundw
        case rel => exact ⟨k + 1, by omega, by simp, HE.out.1, HE.out.2⟩
        case measure => simp only [intOf]; omega
      | false =>
        have hm2 := mod2w y0
        rcases (by omega : y0 % 2 = 0 ∨ y0 % 2 = 1) with h | h
        · rw [h] at hm2
          clear h
          go_wp2_with fail
          refine (hm2 _).mono ?_
          rintro e w' ⟨rfl, hw⟩
          have hw2 := hw.symm
          subst hw2
          clear hw
          go_wp2_with fail
          refine (two_plays _ _ _ _ _ _ (HR.out.1.quiet (Keeps.alloc None _ _)) (by omega) (by have := HS.out; simp; omega)).mono ?_
          rintro e w5 ⟨rfl, hT5, hK5⟩
          have HE : Hid _ := Two.next HR.out.2 hK5 hT5
          clear hT5 hK5
          go_wp2_with fail
          go_roundw
          case rel => exact ⟨k + 1, by omega, by simp, HE.out.1, HE.out.2⟩
          case measure => simp only [intOf]; omega
        · rw [h] at hm2
          clear h
          go_wp2_with fail
          refine (hm2 _).mono ?_
          rintro e w' ⟨rfl, hw⟩
          have hw2 := hw.symm
          subst hw2
          clear hw
          go_wp2_with fail
          refine (two_plays _ _ _ _ _ _ (HR.out.1.swap.quiet (Keeps.alloc None _ _)) (by omega) (by have := HS.out; simp; omega)).mono ?_
          rintro e w5 ⟨rfl, hT5, hK5⟩
          have HE : Hid _ := Two.next HR.out.2 hK5 hT5.swap
          clear hT5 hK5
          go_wp2_with fail
          go_roundw
          case rel => exact ⟨k + 1, by omega, by simp, HE.out.1, HE.out.2⟩
          case measure => simp only [intOf]; omega
    · have i1 : ¬ (k : Int) < (len : Int) := by omega
      obtain ⟨F0, G0, F1, G1, H, A0, A1, nN, nA, h0, h1, -, -, -, l0, l1, -, -⟩ := hT.ex
      obtain ⟨v0, m0, q0, -⟩ := h0.rf
      obtain ⟨v1, m1, q1, -⟩ := h1.rf
      have hE : EndS p0 p1 w.heap.size w1.heap.size F0 F1 A0 A1 v0 m0 v1 m1 w wr := ⟨hK, h0.ar, h1.ar, q0, q1, by omega, by omega⟩
      obtain ⟨vo0, vc0, rfl⟩ := own_shape q0.cells
      obtain ⟨vo1, vc1, rfl⟩ := own_shape q1.cells
      obtain ⟨mo0, mc0, rfl⟩ := own_shape q0.log
      obtain ⟨mo1, mc1, rfl⟩ := own_shape q1.log
      clear hT hK HT HM h0 h1 q0 q1 l0 l1
      go_wp2_with fail
      go_region_held3 (fun w' => w'.cell? ⟨w.heap.size, 1, none⟩ = some (.slice vo0 A0.cells.length vc0) ∧ w'.cell? ⟨w.heap.size, 4, none⟩ = some (.slice mo0 A0.log.length mc0) ∧ w'.cell? ⟨w1.heap.size, 1, none⟩ = some (.slice vo1 A1.cells.length vc1) ∧ w'.cell? ⟨w1.heap.size, 4, none⟩ = some (.slice mo1 A1.log.length mc1) ∧
          EndS p0 p1 w.heap.size w1.heap.size F0 F1 A0 A1 (.slice vo0 A0.cells.length vc0) (.slice mo0 A0.log.length mc0) (.slice vo1 A1.cells.length vc1) (.slice mo1 A1.log.length mc1) w w')
        (first | exact EndS.all hE9 | exact EndS.all hE8 | exact EndS.all hE7 | exact EndS.all hE6 | exact EndS.all hE5 | exact EndS.all hE4 | exact EndS.all hE3 | exact EndS.all hE2 | exact EndS.all (hE.kept (Keeps.drew None _)) | assumption)
        (first
        | (go_at_call_of 28 (Value.pointer (some ⟨p0, 0, none⟩)); go_split_ands; refine (end_cells (p0 := p0) (by assumption)).mono ?_; rintro e x ⟨ao0, rfl, ho0, hE2⟩)
        | (go_at_call_of 28 (Value.pointer (some ⟨p1, 0, none⟩)); go_split_ands; refine (end_cells (p0 := p1) (EndS.swap (by assumption))).mono ?_; rintro e x ⟨ao1, rfl, ho1, hE4⟩; replace hE4 := hE4.swap)
        | (go_at_call_of 29 (Value.pointer (some ⟨p0, 0, none⟩)); go_split_ands; refine (end_log (p0 := p0) (by assumption)).mono ?_; rintro e x ⟨bo0, rfl, lo0, hE6⟩)
        | (go_at_call_of 29 (Value.pointer (some ⟨p1, 0, none⟩)); go_split_ands; refine (end_log (p0 := p1) (EndS.swap (by assumption))).mono ?_; rintro e x ⟨bo1, rfl, lo1, hE8⟩; replace hE8 := hE8.swap)
        | (go_at_call_of 13 (Value.slice ao0 A0.cells.length A0.cells.length); go_split_ands; refine (end_same _ hE2 ho0).mono ?_; rintro e x ⟨rfl, hE3⟩)
        | (go_at_call_of 13 (Value.slice ao1 A1.cells.length A1.cells.length); go_split_ands; refine (end_same _ hE4.swap ho1).mono ?_; rintro e x ⟨rfl, hE5⟩; replace hE5 := hE5.swap)
        | (go_at_call_of 14 (Value.slice bo0 A0.log.length A0.log.length); go_split_ands; refine (end_same2 _ hE6 lo0).mono ?_; rintro e x ⟨rfl, hE7⟩)
        | (go_at_call_of 14 (Value.slice bo1 A1.log.length A1.log.length); go_split_ands; refine (end_same2 _ hE8.swap lo1).mono ?_; rintro e x ⟨rfl, hE9⟩; replace hE9 := hE9.swap))
      all_goals (go_wp2_with fail; go_ret; exact ⟨rfl, hE9.below⟩)
end Go.Proofs.Ytpjmakbbakmhoaa
