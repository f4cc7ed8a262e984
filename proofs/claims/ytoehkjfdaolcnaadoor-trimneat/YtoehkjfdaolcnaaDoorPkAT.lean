import Derived.Test.YtoehkjfdaolcnaaDoorPkAO
import Derived.Test.YtoehkjfdaolcnaaDoorPkAS
/-! Neat: the document's. -/
namespace Go.Proofs.YtoehkjfdaolcnaaDoor
set_option linter.unusedVariables false
set_option maxRecDepth 20000
set_option linter.unusedSimpArgs false
open Go.RowKit Go.HeapKit

set_option maxHeartbeats 8000000 in
theorem rneat_ok (a : Option Addr) (n c : Nat) (l : List Fn) (w : World) (hS : SeenF w a n l) (hok : ∀ f ∈ l, f.Ok) :
    Calls Tryd.prog 8 #[.agg #[.slice a n c]] w fun e w' => ∃ x k y, e = .returned (faultV x k y) ∧ NeatP l slN mxV x k y ∧ Keeps None w w' := by
  obtain ⟨b1, b2⟩ := two_boxes w #[.slice a n c] #[.int .i64 0, .int .i64 0, .int .i64 0] 24 28
  have hk2 := keeps2 w (.cells #[.slice a n c] 24) (.cells #[.int .i64 0, .int .i64 0, .int .i64 0] 28)
  obtain ⟨W, hW⟩ : ∃ w2, w2 = (w.alloc (.cells #[.slice a n c] 24)).alloc (.cells #[.int .i64 0, .int .i64 0, .int .i64 0] 28) := ⟨_, rfl⟩
  obtain ⟨X, hX⟩ : ∃ X, X = w.heap.size := ⟨_, rfl⟩
  obtain ⟨Y, hY⟩ : ∃ Y, Y = X + 1 := ⟨_, rfl⟩
  rw [← hW, ← hX] at b1 b2
  rw [← hY] at b2
  rw [← hW] at hk2
  have c0 : W.cell? ⟨X, 0, none⟩ = some (.slice a n c) := (blk_cell b1 0).trans rfl
  have hck := rcheck_any a n c l W (hS.more hk2) hok
  unfold checkF faultV at hck
  have HX : Hid (Keeps None w W ∧ W.heap[X]? = some (.cells #[.slice a n c] 24 (0, 0)) ∧ W.heap[Y]? = some (.cells #[.int .i64 0, .int .i64 0, .int .i64 0] 28 (0, 0)) ∧ w.heap.size ≤ Y ∧ SeenF w a n l ∧ (∀ f ∈ l, f.Ok)) := ⟨hk2, b1, b2, by omega, hS, hok⟩
  clear hk2 b1 b2 hS hok
  obtain ⟨z1, hz1⟩ : ∃ z, z = (checkV l).1 := ⟨_, rfl⟩
  obtain ⟨z2, hz2⟩ : ∃ z, z = (checkV l).2.1 := ⟨_, rfl⟩
  obtain ⟨z3, hz3⟩ : ∃ z, z = (checkV l).2.2 := ⟨_, rfl⟩
  rw [← hz1, ← hz2, ← hz3] at hck
  have HZ : Hid (z1 = (checkV l).1) := hz1
  clear hz1 hz2 hz3
  go_enter Tryd.func8, Tryd.ntmps8
  go_upto_region 1 with fail
  rw [← hW, ← hX]
  try rw [← hY]
  clear hW hX hY
  go_upto_region 2 with (go_at_call 11; refine hck.mono ?_; rintro _ w2 ⟨rfl, hk2⟩)
  have bB := heap_alloc_new w2 (.cells #[.int .i64 z1, .int .i64 z2, .int .i64 z3] 28)
  have kB := hk2.andAlloc (.cells #[.int .i64 z1, .int .i64 z2, .int .i64 z3] 28)
  obtain ⟨w3, hw3⟩ : ∃ w3, w3 = w2.alloc (.cells #[.int .i64 z1, .int .i64 z2, .int .i64 z3] 28) := ⟨_, rfl⟩
  obtain ⟨B, hB⟩ : ∃ B, B = w2.heap.size := ⟨_, rfl⟩
  rw [← hw3] at bB kB
  rw [← hB] at bB
  try rw [← hw3]
  try rw [← hB]
  have g0 : w3.cell? ⟨B, 0, none⟩ = some (.int .i64 z1) := (blk_cell bB 0).trans rfl
  have d0 : w3.cell? ⟨X, 0, none⟩ = some (.slice a n c) := kB.cell c0 (fun f => f)
  have H3 : Hid (Keeps None w w3 ∧ w3.heap[Y]? = some (.cells #[.int .i64 0, .int .i64 0, .int .i64 0] 28 (0, 0))) := ⟨HX.out.1.trans kB (fun _ f _ => f), blk_kept HX.out.2.2.1 kB (fun f => f)⟩
  clear hw3 hB bB kB hk2 hck c0
  by_cases h1 : z1 = 0
  · have h1c : (checkV l).1 = 0 := by rw [← HZ.out]; exact h1
    have HC : Hid (checkV l = (0, 0, 0) ∧ (∀ f ∈ l, Valid l f) ∧ n = l.length) := ⟨check_zero h1c, (check_valid (check_zero h1c)).2.2, HX.out.2.2.2.2.1.len⟩
    have H1 : Hid ((checkV l).1 = 0) := h1c
    subst h1
    clear HZ h1c
    go_wp2_with fail
    go_loopw [4] (fun s4 wr => ∃ F : Nat, F ≤ n ∧ s4 = .int .i64 F ∧ (∀ k' f', k' < F → l[k']? = some f' → FstP l f'.code (slN f') (mxV f') (-1)) ∧ Keeps None w3 wr) (fun i _ => n - (intOf i).toNat)
    case atStart => exact ⟨0, Nat.zero_le _, rfl, fun k' i' h => absurd h (by omega), Keeps.refl _ _⟩
    case round =>
      obtain ⟨F, hF, rfl, hno, hkp⟩ := hrel
      have y0 : wr.cell? ⟨X, 0, none⟩ = some (.slice a n c) := hkp.cell d0 (fun f => f)
      clear d0 g0
      have HN : Hid (∀ k' f', k' < F → l[k']? = some f' → FstP l f'.code (slN f') (mxV f') (-1)) := hno
      have HR : Hid (Keeps None w wr ∧ Keeps None w3 wr ∧ wr.heap[Y]? = some (.cells #[.int .i64 0, .int .i64 0, .int .i64 0] 28 (0, 0))) := ⟨H3.out.1.trans hkp (fun _ f _ => f), hkp, blk_kept H3.out.2 hkp (fun f => f)⟩
      clear hno hkp
      have hn32 : (F : Int) ≤ 32 := by have := (check_valid HC.out.1).2.1; have := HC.out.2.2; omega
      by_cases hkn : F < n
      · have i1 : (F : Int) < (n : Int) := by omega
        obtain ⟨b, off, f, ca, cc, rfl, hf, hat⟩ := (HX.out.2.2.2.2.1.more HR.out.1).at hkn
        have hm := List.mem_of_getElem? hf
        have hV := HC.out.2.1 f hm
        have hvb := valid_bounds hV
        obtain ⟨N, hN⟩ : ∃ N, N = f.code.length := ⟨_, rfl⟩
        have HF : Hid (l[F]? = some f ∧ SeenI wr ca N f.code ∧ N = f.code.length ∧ Gd f.code ∧ (∀ i ∈ f.code, RegOk l i) ∧ (∀ i ∈ f.code, i.Ok) ∧ N ≤ 512 ∧ soundV f = true ∧ ((slN f : Nat) : Int) = f.slots ∧ slN f ≤ 8) := ⟨hf, by rw [hN]; exact hat.seen, hN, valid_gd hV, valid_regs HC.out.2.1 hV, (HX.out.2.2.2.2.2 f hm).code, by omega, sound_yes hV.shape (fault_alone hV.code), by unfold slN; omega, by unfold slN; omega⟩
        have HP : Hid (∀ w', Keeps None wr w' → w'.cell? ⟨b, off + F * 4, none⟩ = some (.int .i64 f.params) ∧ w'.cell? ⟨b, off + F * 4 + 1, none⟩ = some (.int .i64 f.regs) ∧ w'.cell? ⟨b, off + F * 4 + 2, none⟩ = some (.int .i64 f.slots) ∧ w'.cell? ⟨b, off + F * 4 + 3, none⟩ = some (.slice ca N cc) ∧ w'.cell? ⟨X, 0, none⟩ = some (.slice (some ⟨b, off, none⟩) n c)) := fun w' hk => ⟨hk.cell hat.params (fun f => f), hk.cell hat.regs (fun f => f), hk.cell hat.slots (fun f => f), by rw [hN]; exact hk.cell hat.code (fun f => f), hk.cell y0 (fun f => f)⟩
        clear hf hat hN hm hV hvb y0
        obtain ⟨p0, p1, p2, p3, y0⟩ := HP.out wr (Keeps.refl _ _)
        have HCT : Hid (Calls Tryd.prog 21 #[.slice ca N cc] wr fun e w' => ∃ g met, e = .returned (.slice (some ⟨g, 0, none⟩) N N) ∧ BoolsAt w' g N met ∧ (∀ k, met k = true ↔ Rc f.code k) ∧ Keeps None wr w' ∧ wr.heap.size ≤ g) := comeTo_ok ca N cc f.code wr HF.out.2.1 HF.out.2.2.2.1
        go_upto_region 8 with (go_at_call 21; refine Calls.mono HCT.out ?_; rintro _ w4 ⟨g, met, rfl, hb4, hrc, hk4, hg4⟩)
        clear p0 p1 p2 p3 y0 HCT
        obtain ⟨p0, p1, p2, p3, y0⟩ := HP.out w4 hk4
        have H4 : Hid (BoolsAt w4 g N met ∧ (∀ k, met k = true ↔ Rc f.code k) ∧ Keeps None wr w4) := ⟨hb4, hrc, hk4⟩
        clear hb4 hrc hk4 hg4
        have HFW : Hid (Calls Tryd.prog 22 #[.agg #[.int .i64 f.params, .int .i64 f.regs, .int .i64 f.slots, .slice ca N cc]] w4 fun e w' => ∃ g, e = .returned (.slice (some ⟨g, 0, none⟩) N N) ∧ IsM w' g N (slN f) N (mxV f) ∧ Keeps None w4 w' ∧ w4.heap.size ≤ g) := by
          have := rflow_ok f ca cc w4 (by rw [← HF.out.2.2.1]; exact HF.out.2.1.more H4.out.2.2) HF.out.2.2.2.2.2.2.2.1 N (slN f) HF.out.2.2.1 HF.out.2.2.2.2.2.2.2.2.1
          unfold fnV at this
          rw [← HF.out.2.2.1] at this
          exact this
        go_upto_region 9 with (go_at_call 22; refine Calls.mono HFW.out ?_; rintro _ w5 ⟨fg, rfl, hM5, hk5, hg5⟩)
        clear p0 p1 p2 p3 y0 HFW
        have H5 : Hid (BoolsAt w5 g N met ∧ IsM w5 fg N (slN f) N (mxV f) ∧ Keeps None wr w5) := ⟨blk_kept H4.out.1 hk5 (fun f => f), hM5, H4.out.2.2.trans hk5 (fun _ f _ => f)⟩
        clear hM5 hk5 hg5
        go_wp2_with fail
        go_loopw [7] (fun s7 w6 => ∃ j : Nat, j ≤ N ∧ s7 = .int .i64 j ∧ (∀ k' i', k' < j → f.code[k']? = some i' → ¬ LsP l f.code (slN f) (mxV f) k' i') ∧ Keeps None w5 w6) (fun i _ => N - (intOf i).toNat)
        case atStart => exact ⟨0, Nat.zero_le _, rfl, fun k' i' h => absurd h (by omega), Keeps.refl _ _⟩
        case round =>
          obtain ⟨j, hj, rfl, hno, hkp⟩ := hrel
          have H6 : Hid (Keeps None w5 wr) := hkp
          have HNO : Hid (∀ k' i', k' < j → f.code[k']? = some i' → ¬ LsP l f.code (slN f) (mxV f) k' i') := hno
          clear hno hkp
          obtain ⟨p0, p1, p2, p3, y0⟩ := HP.out wr (H5.out.2.2.trans H6.out (fun _ f _ => f))
          have HKW : Hid (Keeps None w wr ∧ Keeps None w3 wr ∧ wr.heap[Y]? = some (.cells #[.int .i64 0, .int .i64 0, .int .i64 0] 28 (0, 0))) := ⟨HR.out.1.trans (H5.out.2.2.trans H6.out (fun _ f _ => f)) (fun _ f _ => f), HR.out.2.1.trans (H5.out.2.2.trans H6.out (fun _ f _ => f)) (fun _ f _ => f), blk_kept HR.out.2.2 (H5.out.2.2.trans H6.out (fun _ f _ => f)) (fun f => f)⟩
          have j512 : (j : Int) ≤ 512 := by have := HF.out.2.2.2.2.2.2.1; omega
          by_cases hjn : j < N
          · have i5 : (j : Int) < (N : Int) := by omega
            obtain ⟨i, hi⟩ : ∃ i, f.code[j]? = some i := ⟨f.code[j]'(by have := HF.out.2.2.1; omega), by simp⟩
            have HLO : Hid (Calls Tryd.prog 23 #[.agg #[.slice (some ⟨b, off, none⟩) n c], .int .i64 (F : Int), .int .i64 (j : Int), .slice (some ⟨g, 0, none⟩) N N, .slice (some ⟨fg, 0, none⟩) N N] wr fun e w' => ∃ z : Int, e = .returned (.int .i64 z) ∧ (z ≠ 0 ↔ LsP l f.code (slN f) (mxV f) j i) ∧ Keeps None wr w') := loose_ok (some ⟨b, off, none⟩) n c l F f j i g fg N (slN f) met (mxV f) wr (HX.out.2.2.2.2.1.more HKW.out.1) HF.out.1 hi HF.out.2.2.2.1 HF.out.2.2.2.2.1 HF.out.2.2.2.2.2.1 HF.out.2.2.1 (blk_kept H5.out.1 H6.out (fun f => f)) H4.out.2.1 (H5.out.2.1.kept H6.out (fun _ _ f => f)) HF.out.2.2.2.2.2.2.2.2.2
            have HI : Hid (f.code[j]? = some i) := hi
            clear hi
            go_upto_region 13 with (go_at_call 23; refine Calls.mono HLO.out ?_; rintro _ w7 ⟨z, rfl, hz, hk7⟩)
            have H7 : Hid ((z ≠ 0 ↔ LsP l f.code (slN f) (mxV f) j i) ∧ Keeps None wr w7) := ⟨hz, hk7⟩
            clear hz hk7 HLO p0 p1 p2 p3 y0
            by_cases hz : z = 0
            · subst hz
              go_wp2_with fail
              go_roundw
              case rel =>
                refine ⟨j + 1, by omega, by go_num, fun k' i' h1 h2 => ?_, H6.out.trans H7.out.2 (fun _ f _ => f)⟩
                by_cases e : k' = j
                · subst e
                  rw [HI.out] at h2
                  injection h2 with h2
                  subst h2
                  exact fun h => (H7.out.1.2 h) rfl
                · exact HNO.out k' i' (by omega) h2
              case measure => simp [intOf]; omega
            · have hbd := bldF3 180 (F : Int) (j : Int)
              have b3 := blk_kept HKW.out.2.2 H7.out.2 (fun f => f)
              have e0 := (blk_cell b3 0).trans rfl
              have e1 := (blk_cell b3 1).trans rfl
              have e2 := (blk_cell b3 2).trans rfl
              have f0 := blk_free b3 0
              have f1 := blk_free b3 1
              have f2 := blk_free b3 2
              have hz' : (z != 0) = true := by simpa using hz
              go_wp2_with fail
              obtain ⟨b4, k4⟩ := set3F b3 180 (F : Int) (j : Int)
              exact fault_end (g := Y) rfl b4 rfl rfl ⟨180, (F : Int), (j : Int), rfl, .inr (.inr ⟨H1.out, rfl, F, f, rfl, HF.out.1, by omega, .inr ⟨j, i, rfl, HI.out, H7.out.1.1 hz, HNO.out⟩, HN.out⟩), (HKW.out.1.trans H7.out.2 (fun _ f _ => f)).trans k4 (fun i e hi => by have := HX.out.2.2.2.1; omega)⟩
          · have i5 : ¬ (j : Int) < (N : Int) := by omega
            have HF1 : Hid (FstP l f.code (slN f) (mxV f) (-1)) := .inl ⟨rfl, fun k' i' h => HNO.out k' i' (by have := (List.getElem?_eq_some_iff.1 h).1; have := HF.out.2.2.1; omega) h⟩
            go_wp2_with fail
            go_roundw
            case rel =>
              refine ⟨F + 1, by omega, by go_num, fun k' f' h1 h2 => ?_, HKW.out.2.1⟩
              by_cases e : k' = F
              · subst e
                rw [HF.out.1] at h2
                injection h2 with h2
                subst h2
                exact HF1.out
              · exact HN.out k' f' (by omega) h2
            case measure => simp [intOf]; omega
      · have hkn2 : F = n := by omega
        have i1 : ¬ (F : Int) < (n : Int) := by omega
        have hbd := bldF0
        have b3 := HR.out.2.2
        have e0 := (blk_cell b3 0).trans rfl
        have e1 := (blk_cell b3 1).trans rfl
        have e2 := (blk_cell b3 2).trans rfl
        have f0 := blk_free b3 0
        have f1 := blk_free b3 1
        have f2 := blk_free b3 2
        go_wp2_with fail
        obtain ⟨b4, k4⟩ := set3F b3 0 0 0
        refine fault_end (g := Y) rfl b4 rfl rfl ⟨0, 0, 0, rfl, .inr (.inl ⟨H1.out, rfl, rfl, rfl, fun f hf => ?_⟩), HR.out.1.trans k4 (fun i e hi => by have := HX.out.2.2.2.1; omega)⟩
        obtain ⟨q, hq, e⟩ := List.getElem_of_mem hf
        exact HN.out q f (by have := HC.out.2.2; omega) (by rw [← e]; simp)
  · have HN : Hid (NeatP l slN mxV 60 0 0) := .inl ⟨by rw [← HZ.out]; exact h1, rfl, rfl, rfl⟩
    have h1' : (z1 != 0) = true := by simpa using h1
    clear h1 HZ
    have hbd := bldF1 60
    have b3 := H3.out.2
    have e0 := (blk_cell b3 0).trans rfl
    have e1 := (blk_cell b3 1).trans rfl
    have e2 := (blk_cell b3 2).trans rfl
    have f0 := blk_free b3 0
    have f1 := blk_free b3 1
    have f2 := blk_free b3 2
    go_wp2_with fail
    obtain ⟨b4, k4⟩ := set3F b3 60 0 0
    exact fault_end (g := Y) rfl b4 rfl rfl ⟨60, 0, 0, rfl, HN.out, H3.out.1.trans k4 (fun i e hi => by have := HX.out.2.2.2.1; omega)⟩
end Go.Proofs.YtoehkjfdaolcnaaDoor
