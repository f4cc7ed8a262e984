import Derived.Test.YtoehkjfdaolcnaaDoorPkAR
import Derived.Test.YtoehkjfdaolcnaaDoorPkAM
/-! Check: the document's. -/
namespace Go.Proofs.YtoehkjfdaolcnaaDoor
set_option linter.unusedVariables false
set_option maxRecDepth 20000
open Go.RowKit Go.HeapKit

set_option maxHeartbeats 4000000 in
theorem rcheck_any (a : Option Addr) (n c : Nat) (l : List Fn) (w : World) (hS : SeenF w a n l) (hok : ∀ f ∈ l, f.Ok) :
    Calls Tryd.prog 11 #[.agg #[.slice a n c]] w fun e w' => e = .returned (checkF l) ∧ Keeps None w w' := by
  obtain ⟨B, hB⟩ : ∃ B, B = w.heap.size := ⟨_, rfl⟩
  obtain ⟨b1, b2⟩ := two_boxes w #[.slice a n c] #[.int .i64 0, .int .i64 0, .int .i64 0] 24 28
  have hk2 := keeps2 w (.cells #[.slice a n c] 24) (.cells #[.int .i64 0, .int .i64 0, .int .i64 0] 28)
  obtain ⟨w2, hw2⟩ : ∃ w2, w2 = (w.alloc (.cells #[.slice a n c] 24)).alloc (.cells #[.int .i64 0, .int .i64 0, .int .i64 0] 28) := ⟨_, rfl⟩
  rw [← hw2, ← hB] at b1 b2
  rw [← hw2] at hk2
  have H2 : Hid (CkIn w w2 B a n c) := ⟨hk2, b1, b2, by omega⟩
  have HS : Hid (SeenF w a n l ∧ (∀ f ∈ l, f.Ok) ∧ n = l.length) := ⟨hS, hok, hS.len⟩
  have d0 : w2.cell? ⟨B, 0, none⟩ = some (.slice a n c) := (cell_of_heap b1 0).trans rfl
  have e0 : w2.cell? ⟨B + 1, 0, none⟩ = some (.int .i64 0) := (cell_of_heap b2 0).trans rfl
  have e1 : w2.cell? ⟨B + 1, 1, none⟩ = some (.int .i64 0) := (cell_of_heap b2 1).trans rfl
  have e2 : w2.cell? ⟨B + 1, 2, none⟩ = some (.int .i64 0) := (cell_of_heap b2 2).trans rfl
  have z0 := blk_free b2 0
  have z1 := blk_free b2 1
  have z2 := blk_free b2 2
  clear b1 b2 hk2 hS hok
  by_cases h1 : n < 1
  · have i1 : (n : Int) < 1 := by omega
    have HV : Hid (checkV l = (50, 0, 0)) := check_count (.inl (by have := HS.out.2.2; omega))
    go_enter Tryd.func11, Tryd.ntmps11
    go_upto_region 1 with fail
    rw [← hw2, ← hB]
    clear hw2 hB
    go_wp2_with fail
    exact H2.out.end_ HV.out rfl
  · by_cases h2 : 32 < n
    · have i1 : ¬ (n : Int) < 1 := by omega
      have i2 : (32 : Int) < (n : Int) := by omega
      have HV : Hid (checkV l = (50, 0, 0)) := check_count (.inr (by have := HS.out.2.2; omega))
      go_enter Tryd.func11, Tryd.ntmps11
      go_upto_region 1 with fail
      rw [← hw2, ← hB]
      clear hw2 hB
      go_wp2_with fail
      exact H2.out.end_ HV.out rfl
    · have i1 : ¬ (n : Int) < 1 := by omega
      have i2 : ¬ (32 : Int) < (n : Int) := by omega
      have HN : Hid (1 ≤ l.length ∧ l.length ≤ 32) := by have := HS.out.2.2; exact ⟨by omega, by omega⟩
      go_enter Tryd.func11, Tryd.ntmps11
      go_upto_region 1 with fail
      rw [← hw2, ← hB]
      clear hw2 hB e0 e1 e2 z0 z1 z2
      go_wp2_with fail
      clear d0
      go_loopw [3] (fun s3 wr => ∃ k : Nat, k ≤ n ∧ s3 = .int .i64 k ∧ CkIn w wr B a n c ∧ ShapesTo l k) (fun i _ => n - (intOf i).toNat)
      case atStart => exact ⟨0, Nat.zero_le _, rfl, H2.out, fun j f hj => by omega⟩
      case round =>
        obtain ⟨k, hk, rfl, hC, hsh⟩ := hrel
        have d0 : wr.cell? ⟨B, 0, none⟩ = some (.slice a n c) := (cell_of_heap hC.box 0).trans rfl
        by_cases hkn : k < n
        · obtain ⟨b, off, f, ca, cc, rfl, hf, hat⟩ := (HS.out.1.more hC.keep).at hkn
          obtain ⟨y0, y1, y2, y3, -⟩ := hat
          have i3 : (k : Int) < (n : Int) := by omega
          have hc := rshaped_any f ca cc wr
          unfold fnV at hc
          have HK : Hid (CkIn w wr B (some ⟨b, off, none⟩) n c ∧ ShapesTo l k ∧ l[k]? = some f) := ⟨hC, hsh, hf⟩
          clear hC hsh hf
          cases hv : shapeV f with
          | false =>
            rw [hv] at hc
            have HV : Hid (checkV l = (51, (k : Int), 0)) := check_shape HN.out HK.out.2.2 HK.out.2.1 hv
            clear hv
            go_wp2_with fail
            refine hc.mono ?_
            rintro e w5 ⟨rfl, hk5⟩
            have hC5 := HK.out.1.more hk5
            have e0 : w5.cell? ⟨B + 1, 0, none⟩ = some (.int .i64 0) := (cell_of_heap hC5.ans 0).trans rfl
            have e1 : w5.cell? ⟨B + 1, 1, none⟩ = some (.int .i64 0) := (cell_of_heap hC5.ans 1).trans rfl
            have e2 : w5.cell? ⟨B + 1, 2, none⟩ = some (.int .i64 0) := (cell_of_heap hC5.ans 2).trans rfl
            have z0 := blk_free hC5.ans 0
            have z1 := blk_free hC5.ans 1
            have z2 := blk_free hC5.ans 2
            have H5 : Hid _ := hC5
            clear hC5 hk5
            go_wp2_with fail
            exact H5.out.end_ HV.out rfl
          | true =>
            rw [hv] at hc
            have HV : Hid (shapeV f = true) := hv
            clear hv
            go_wp2_with fail
            refine hc.mono ?_
            rintro e w5 ⟨rfl, hk5⟩
            have H5 : Hid (CkIn w w5 B (some ⟨b, off, none⟩) n c) := HK.out.1.more hk5
            clear hk5
            go_wp2_with fail
            refine ⟨⟨k + 1, by omega, by simp, H5.out, fun j g hj hg => ?_⟩, by simp [intOf]; omega⟩
            by_cases hjk : j = k
            · subst hjk
              rw [HK.out.2.2] at hg
              obtain rfl := Option.some.inj hg
              exact HV.out
            · exact HK.out.2.1 j g (by omega) hg
        · have hkn2 : k = n := by omega
          subst hkn2
          have i3 : ¬ ((k : Int) < (k : Int)) := by omega
          have HC : Hid (CkIn w wr B a k c ∧ ShapesTo l l.length) := ⟨hC, by rw [← HS.out.2.2]; exact hsh⟩
          clear hC hsh
          go_wp2_with fail
          clear d0
          go_loopw [5] (fun s5 wr => ∃ q : Nat, q ≤ k ∧ s5 = .int .i64 q ∧ CkIn w wr B a k c ∧ CodesTo l q) (fun i _ => k - (intOf i).toNat)
          case atStart => exact ⟨0, Nat.zero_le _, rfl, HC.out.1, fun j f hj => by omega⟩
          case round =>
            obtain ⟨q, hq, rfl, hC, hcd⟩ := hrel
            have d0 : wr.cell? ⟨B, 0, none⟩ = some (.slice a k c) := (cell_of_heap hC.box 0).trans rfl
            by_cases hqn : q < k
            · obtain ⟨b, off, f, ca, cc, rfl, hf, hat⟩ := (HS.out.1.more hC.keep).at hqn
              obtain ⟨y0, y1, y2, y3, hsn⟩ := hat
              have i4 : (q : Int) < (k : Int) := by omega
              have hshf := HC.out.2 q f (List.getElem?_eq_some_iff.1 hf).1 hf
              obtain ⟨_, hrg, _, hl1, hl2⟩ := shape_parts hshf
              obtain ⟨m, hm⟩ : ∃ m, m = f.code.length := ⟨_, rfl⟩
              rw [← hm] at y3 hsn hl1 hl2
              have HK : Hid (CkIn w wr B (some ⟨b, off, none⟩) k c ∧ CodesTo l q ∧ l[q]? = some f ∧ shapeV f = true ∧ SeenI wr ca m f.code ∧ m = f.code.length ∧ (0 ≤ f.regs ∧ f.regs ≤ 16) ∧ 1 ≤ m ∧ m ≤ 512) := ⟨hC, hcd, hf, hshf, hsn, hm, by omega, by omega, by omega⟩
              have hpar : ∀ g ∈ l, 0 ≤ g.params := fun g hg => by
                obtain ⟨j, hj, rfl⟩ := List.mem_iff_getElem.1 hg
                exact (shape_parts (HC.out.2 j _ hj (List.getElem?_eq_getElem hj))).1.1
              have HPR : Hid _ := hpar
              obtain ⟨F, hF⟩ : ∃ F, F = wr.heap.size := ⟨_, rfl⟩
              have HF : Hid _ := hF
              clear hC hcd hf hshf hsn hm hF hrg hpar
              go_upto_region 12 with fail
              go_cut [6] (fun s6 wx => s6 = .pointer (some ⟨F, 0, none⟩) ∧ wx.heap[F]? = some (.cells #[.int .i64 f.params, .int .i64 f.regs, .int .i64 f.slots, .slice ca m cc] 37 (0, 0)) ∧ Keeps None wr wx)
              case first =>
                go_wp2_with fail
                go_meet
                rw [HF.out]
                exact ⟨rfl, heap_alloc_new _ _, Keeps.alloc None _ _⟩
              case rest =>
                obtain ⟨rfl, hFb, hkF⟩ := hcut
                have HFB : Hid (CkIn w wc B (some ⟨b, off, none⟩) k c ∧ wc.heap[F]? = some (.cells #[.int .i64 f.params, .int .i64 f.regs, .int .i64 f.slots, .slice ca m cc] 37 (0, 0)) ∧ SeenI wc ca m f.code) := ⟨HK.out.1.more hkF, hFb, HK.out.2.2.2.2.1.more hkF⟩
                clear hFb hkF y0 y1 y2 y3 d0
                go_wp2_with fail
                go_loopw [7] (fun s7 wr => ∃ j : Nat, j ≤ m ∧ s7 = .int .i64 j ∧ CkIn w wr B (some ⟨b, off, none⟩) k c ∧ wr.heap[F]? = some (.cells #[.int .i64 f.params, .int .i64 f.regs, .int .i64 f.slots, .slice ca m cc] 37 (0, 0)) ∧ SeenI wr ca m f.code ∧ ∀ (p : Nat) y, p < j → f.code[p]? = some y → fitsV false l f y = true) (fun i _ => m - (intOf i).toNat)
                case atStart => exact ⟨0, Nat.zero_le _, rfl, HFB.out.1, HFB.out.2.1, HFB.out.2.2, fun p y hp => by omega⟩
                case round =>
                  obtain ⟨j, hj, rfl, hC, hFb, hsn, hfit⟩ := hrel
                  have gB : wr.cell? ⟨B, 0, none⟩ = some (.slice (some ⟨b, off, none⟩) k c) := (cell_of_heap hC.box 0).trans rfl
                  have g0 : wr.cell? ⟨F, 0, none⟩ = some (.int .i64 f.params) := (cell_of_heap hFb 0).trans rfl
                  have g1 : wr.cell? ⟨F, 1, none⟩ = some (.int .i64 f.regs) := (cell_of_heap hFb 1).trans rfl
                  have g2 : wr.cell? ⟨F, 2, none⟩ = some (.int .i64 f.slots) := (cell_of_heap hFb 2).trans rfl
                  have g3 : wr.cell? ⟨F, 3, none⟩ = some (.slice ca m cc) := (cell_of_heap hFb 3).trans rfl
                  by_cases hjm : j < m
                  · obtain ⟨bI, oI, x, rfl, hx, hat⟩ := hsn.at hjm
                    obtain ⟨y0, y1, y2, y3, y4⟩ := hat
                    have i5 : (j : Int) < (m : Int) := by omega
                    have i6 : (j : Int) ≤ 512 := by omega
                    have hxo := (HS.out.2.1 f (List.mem_of_getElem? HK.out.2.2.1)).code x (List.mem_of_getElem? hx)
                    have hfx := called_fits (fs := l) (f := f) (i := x) HPR.out
                    have hal := fun wx => ralone_any f (some ⟨bI, oI, none⟩) cc x wx
                    have hcl := fun wx (hkx : Keeps None wr wx) => rcalled_any (some ⟨b, off, none⟩) k c l f (some ⟨bI, oI, none⟩) cc x wx (HS.out.1.more (hC.keep.trans hkx (fun _ f _ => f))) HK.out.2.2.2.2.2.2.1 hxo
                    unfold fnV insV at hal hcl
                    rw [← HK.out.2.2.2.2.2.1] at hal hcl
                    have HJ : Hid (CkIn w wr B (some ⟨b, off, none⟩) k c ∧ wr.heap[F]? = some (.cells #[.int .i64 f.params, .int .i64 f.regs, .int .i64 f.slots, .slice (some ⟨bI, oI, none⟩) m cc] 37 (0, 0)) ∧ SeenI wr (some ⟨bI, oI, none⟩) m f.code ∧ (∀ (p : Nat) y, p < j → f.code[p]? = some y → fitsV false l f y = true) ∧ f.code[j]? = some x) := ⟨hC, hFb, hsn, hfit, hx⟩
                    clear hC hFb hsn hfit hx hxo
                    generalize hAV : fitsV true [] f x = AV at *
                    generalize hCV : calledV l f x = CV at *
                    have HAL : Hid _ := hal
                    have HCL : Hid _ := hcl
                    have HFX : Hid (fitsV false l f x = (AV && CV)) := hfx
                    clear hAV hCV hal hcl hfx
                    go_upto_region 16 with fail
                    go_cut [79] (fun s79 wx => s79 = .bool (!(AV && CV)) ∧ Keeps None wr wx)
                    case first =>
                      cases AV with
                      | false =>
                        refine wp_region_held_drew (S := (fun w' => w'.cell? ⟨F, 0, none⟩ = some (.int .i64 f.params) ∧ w'.cell? ⟨F, 1, none⟩ = some (.int .i64 f.regs) ∧ w'.cell? ⟨F, 2, none⟩ = some (.int .i64 f.slots) ∧ w'.cell? ⟨F, 3, none⟩ = some (.slice (some ⟨bI, oI, none⟩) m cc) ∧ w'.cell? ⟨bI, oI + j * 5, none⟩ = some (.int .i64 x.kind) ∧ w'.cell? ⟨bI, oI + j * 5 + 1, none⟩ = some (.int .i64 x.a) ∧ w'.cell? ⟨bI, oI + j * 5 + 2, none⟩ = some (.int .i64 x.b) ∧ w'.cell? ⟨bI, oI + j * 5 + 3, none⟩ = some (.int .i64 x.c) ∧ w'.cell? ⟨bI, oI + j * 5 + 4, none⟩ = some (.int .i64 x.k) ∧ w'.cell? ⟨B, 0, none⟩ = some (.slice (some ⟨b, off, none⟩) k c))) (by kernel_rfl) ?_ (fun hHeld => ?_)
                        · (try dsimp only); (first | with_reducible exact hS5 | go_keep)
                        refine wpAnyH_take (i := 0) (oi := { dst := some 61, op := Op.load 37 (Operand.tmp 6), type := 37, pos := "prog.go:177", after := #[], guard := none }) (v := ?_) rfl (by kernel_rfl) (by kernel_rfl) (by kernel_rfl) (fun _ _ _ h => h) (Or.inl ⟨by rfl, ?_⟩) (by assumption) ?_
                        rotate_left
                        · (intro wz hSw; (try dsimp only at hSw); go_simp; try with_reducible rfl)
                        simp only [Act.put, List.setIfInBounds_toArray, List.set_cons_zero, List.set_cons_succ]
                        refine wpAnyH_take (i := 1) (oi := { dst := some 62, op := Op.fieldAddr 37 (Operand.tmp 6) 3, type := 0, pos := "prog.go:177", after := #[], guard := none }) (v := ?_) rfl (by kernel_rfl) (by kernel_rfl) (by kernel_rfl) (fun _ _ _ h => h) (Or.inl ⟨by rfl, ?_⟩) (by assumption) ?_
                        rotate_left
                        · (intro wz hSw; (try dsimp only at hSw); go_simp; try with_reducible rfl)
                        simp only [Act.put, List.setIfInBounds_toArray, List.set_cons_zero, List.set_cons_succ]
                        refine wpAnyH_take (i := 2) (oi := { dst := some 63, op := Op.load 35 (Operand.tmp 62), type := 35, pos := "prog.go:177", after := #[{ on := 1, ground := Ground.data }], guard := none }) (v := ?_) rfl (by kernel_rfl) (by kernel_rfl) (by kernel_rfl) (fun _ _ _ h => h) (Or.inl ⟨by rfl, ?_⟩) (by assumption) ?_
                        rotate_left
                        · (intro wz hSw; (try dsimp only at hSw); go_simp; try with_reducible rfl)
                        simp only [Act.put, List.setIfInBounds_toArray, List.set_cons_zero, List.set_cons_succ]
                        refine wpAnyH_take (i := 3) (oi := { dst := some 64, op := Op.move (Operand.tmp 7), type := 3, pos := "prog.go:177", after := #[], guard := none }) (v := ?_) rfl (by kernel_rfl) (by kernel_rfl) (by kernel_rfl) (fun _ _ _ h => h) (Or.inl ⟨by rfl, ?_⟩) (by assumption) ?_
                        rotate_left
                        · (intro wz hSw; (try dsimp only at hSw); go_simp; try with_reducible rfl)
                        simp only [Act.put, List.setIfInBounds_toArray, List.set_cons_zero, List.set_cons_succ]
                        refine wpAnyH_take (i := 4) (oi := { dst := some 65, op := Op.indexAddr 35 (Operand.tmp 63) (Operand.tmp 64), type := 0, pos := "prog.go:177", after := #[{ on := 2, ground := Ground.data }, { on := 3, ground := Ground.data }], guard := none }) (v := ?_) rfl (by kernel_rfl) (by kernel_rfl) (by kernel_rfl) (fun _ _ _ h => h) (Or.inl ⟨by rfl, ?_⟩) (by assumption) ?_
                        rotate_left
                        · (intro wz hSw; (try dsimp only at hSw); go_simp; try with_reducible rfl)
                        simp only [Act.put, List.setIfInBounds_toArray, List.set_cons_zero, List.set_cons_succ]
                        refine wpAnyH_take (i := 5) (oi := { dst := some 66, op := Op.load 39 (Operand.tmp 65), type := 39, pos := "prog.go:177", after := #[{ on := 4, ground := Ground.data }], guard := none }) (v := ?_) rfl (by kernel_rfl) (by kernel_rfl) (by kernel_rfl) (fun _ _ _ h => h) (Or.inl ⟨by rfl, ?_⟩) (by assumption) ?_
                        rotate_left
                        · (intro wz hSw; (try dsimp only at hSw); go_simp; try with_reducible rfl)
                        simp only [Act.put, List.setIfInBounds_toArray, List.set_cons_zero, List.set_cons_succ]
                        refine wpAnyH_ready (rs := [6]) (by kernel_rfl) (by simp) ?_
                        refine AllReadyH.cons (o := { dst := some 67, op := Op.call { callee := Callee.value (Operand.func 26), args := #[Operand.tmp 61, Operand.tmp 66], argTypes := #[37, 39] }, type := 4, pos := "prog.go:177", after := #[{ on := 0, ground := Ground.data }, { on := 5, ground := Ground.data }], guard := none }) rfl (fun K hK => ?_) ?_
                        · go_simp
                          refine (HAL.out _).mono ?_
                          rintro _ w4 ⟨rfl, hk4⟩
                          have hkP : Keeps None wr w4 := (Keeps.drew None wr).trans hk4 (fun _ f _ => f)
                          have hS5 := (And.intro (hkP.cell g0 (fun f => f)) (And.intro (hkP.cell g1 (fun f => f)) (And.intro (hkP.cell g2 (fun f => f)) (And.intro (hkP.cell g3 (fun f => f)) (And.intro (hkP.cell y0 (fun f => f)) (And.intro (hkP.cell y1 (fun f => f)) (And.intro (hkP.cell y2 (fun f => f)) (And.intro (hkP.cell y3 (fun f => f)) (And.intro (hkP.cell y4 (fun f => f)) (hkP.cell gB (fun f => f)))))))))))
                          refine hK.out _ _ ?_ (fun hHeld2 => ?_)
                          · (try dsimp only); (first | with_reducible exact hS5 | go_keep)
                          clear hK K
                          try simp only [Act.put, List.setIfInBounds_toArray, List.set_cons_zero, List.set_cons_succ]
                          refine wpAnyH_take (i := 7) (oi := { dst := some 68, op := Op.unOp UnOp.not 4 (Operand.tmp 67), type := 4, pos := "prog.go:177", after := #[{ on := 6, ground := Ground.data }], guard := none }) (v := ?_) rfl (by kernel_rfl) (by kernel_rfl) (by kernel_rfl) (fun _ _ _ h => h) (Or.inl ⟨by rfl, ?_⟩) (by assumption) ?_
                          rotate_left
                          · (intro wz hSw; (try dsimp only at hSw); go_simp; try with_reducible rfl)
                          simp only [Act.put, List.setIfInBounds_toArray, List.set_cons_zero, List.set_cons_succ]
                          refine wpAnyH_take (i := 8) (oi := { dst := some 69, op := Op.move (Operand.tmp 68), type := 4, pos := "prog.go:177", after := #[{ on := 7, ground := Ground.data }, { on := 6, ground := Ground.chain }], guard := none }) (v := ?_) rfl (by kernel_rfl) (by kernel_rfl) (by kernel_rfl) (fun _ _ _ h => h) (Or.inl ⟨by rfl, ?_⟩) (by assumption) ?_
                          rotate_left
                          · (intro wz hSw; (try dsimp only at hSw); go_simp; try with_reducible rfl)
                          simp only [Act.put, List.setIfInBounds_toArray, List.set_cons_zero, List.set_cons_succ]
                          first | (refine wpAnyH_take (i := 9) (oi := { dst := some 70, op := Op.load 24 (Operand.tmp 1), type := 24, pos := "prog.go:177", after := #[{ on := 8, ground := Ground.guard }], guard := some (8, false) }) (v := undef) rfl (by kernel_rfl) (by kernel_rfl) (by kernel_rfl) (fun _ _ _ h => h) (Or.inr ⟨by rfl, rfl⟩) (by assumption) ?_) | (refine wpAnyH_take (i := 9) (oi := { dst := some 70, op := Op.load 24 (Operand.tmp 1), type := 24, pos := "prog.go:177", after := #[{ on := 8, ground := Ground.guard }], guard := some (8, false) }) (v := ?_) rfl (by kernel_rfl) (by kernel_rfl) (by kernel_rfl) (fun _ _ _ h => h) (Or.inl ⟨by rfl, ?_⟩) (by assumption) ?_; rotate_left; (· (intro wz hSw; (try dsimp only at hSw); go_simp; try with_reducible rfl)))
                          simp only [Act.put, List.setIfInBounds_toArray, List.set_cons_zero, List.set_cons_succ]
                          first | (refine wpAnyH_take (i := 10) (oi := { dst := some 71, op := Op.load 37 (Operand.tmp 6), type := 37, pos := "prog.go:177", after := #[{ on := 8, ground := Ground.guard }], guard := some (8, false) }) (v := undef) rfl (by kernel_rfl) (by kernel_rfl) (by kernel_rfl) (fun _ _ _ h => h) (Or.inr ⟨by rfl, rfl⟩) (by assumption) ?_) | (refine wpAnyH_take (i := 10) (oi := { dst := some 71, op := Op.load 37 (Operand.tmp 6), type := 37, pos := "prog.go:177", after := #[{ on := 8, ground := Ground.guard }], guard := some (8, false) }) (v := ?_) rfl (by kernel_rfl) (by kernel_rfl) (by kernel_rfl) (fun _ _ _ h => h) (Or.inl ⟨by rfl, ?_⟩) (by assumption) ?_; rotate_left; (· (intro wz hSw; (try dsimp only at hSw); go_simp; try with_reducible rfl)))
                          simp only [Act.put, List.setIfInBounds_toArray, List.set_cons_zero, List.set_cons_succ]
                          first | (refine wpAnyH_take (i := 11) (oi := { dst := some 72, op := Op.fieldAddr 37 (Operand.tmp 6) 3, type := 0, pos := "prog.go:177", after := #[{ on := 8, ground := Ground.guard }], guard := some (8, false) }) (v := undef) rfl (by kernel_rfl) (by kernel_rfl) (by kernel_rfl) (fun _ _ _ h => h) (Or.inr ⟨by rfl, rfl⟩) (by assumption) ?_) | (refine wpAnyH_take (i := 11) (oi := { dst := some 72, op := Op.fieldAddr 37 (Operand.tmp 6) 3, type := 0, pos := "prog.go:177", after := #[{ on := 8, ground := Ground.guard }], guard := some (8, false) }) (v := ?_) rfl (by kernel_rfl) (by kernel_rfl) (by kernel_rfl) (fun _ _ _ h => h) (Or.inl ⟨by rfl, ?_⟩) (by assumption) ?_; rotate_left; (· (intro wz hSw; (try dsimp only at hSw); go_simp; try with_reducible rfl)))
                          simp only [Act.put, List.setIfInBounds_toArray, List.set_cons_zero, List.set_cons_succ]
                          first | (refine wpAnyH_take (i := 12) (oi := { dst := some 73, op := Op.load 35 (Operand.tmp 72), type := 35, pos := "prog.go:177", after := #[{ on := 11, ground := Ground.data }, { on := 8, ground := Ground.guard }], guard := some (8, false) }) (v := undef) rfl (by kernel_rfl) (by kernel_rfl) (by kernel_rfl) (fun _ _ _ h => h) (Or.inr ⟨by rfl, rfl⟩) (by assumption) ?_) | (refine wpAnyH_take (i := 12) (oi := { dst := some 73, op := Op.load 35 (Operand.tmp 72), type := 35, pos := "prog.go:177", after := #[{ on := 11, ground := Ground.data }, { on := 8, ground := Ground.guard }], guard := some (8, false) }) (v := ?_) rfl (by kernel_rfl) (by kernel_rfl) (by kernel_rfl) (fun _ _ _ h => h) (Or.inl ⟨by rfl, ?_⟩) (by assumption) ?_; rotate_left; (· (intro wz hSw; (try dsimp only at hSw); go_simp; try with_reducible rfl)))
                          simp only [Act.put, List.setIfInBounds_toArray, List.set_cons_zero, List.set_cons_succ]
                          first | (refine wpAnyH_take (i := 13) (oi := { dst := some 74, op := Op.move (Operand.tmp 7), type := 3, pos := "prog.go:177", after := #[{ on := 8, ground := Ground.guard }], guard := some (8, false) }) (v := undef) rfl (by kernel_rfl) (by kernel_rfl) (by kernel_rfl) (fun _ _ _ h => h) (Or.inr ⟨by rfl, rfl⟩) (by assumption) ?_) | (refine wpAnyH_take (i := 13) (oi := { dst := some 74, op := Op.move (Operand.tmp 7), type := 3, pos := "prog.go:177", after := #[{ on := 8, ground := Ground.guard }], guard := some (8, false) }) (v := ?_) rfl (by kernel_rfl) (by kernel_rfl) (by kernel_rfl) (fun _ _ _ h => h) (Or.inl ⟨by rfl, ?_⟩) (by assumption) ?_; rotate_left; (· (intro wz hSw; (try dsimp only at hSw); go_simp; try with_reducible rfl)))
                          simp only [Act.put, List.setIfInBounds_toArray, List.set_cons_zero, List.set_cons_succ]
                          first | (refine wpAnyH_take (i := 14) (oi := { dst := some 75, op := Op.indexAddr 35 (Operand.tmp 73) (Operand.tmp 74), type := 0, pos := "prog.go:177", after := #[{ on := 12, ground := Ground.data }, { on := 13, ground := Ground.data }, { on := 8, ground := Ground.guard }], guard := some (8, false) }) (v := undef) rfl (by kernel_rfl) (by kernel_rfl) (by kernel_rfl) (fun _ _ _ h => h) (Or.inr ⟨by rfl, rfl⟩) (by assumption) ?_) | (refine wpAnyH_take (i := 14) (oi := { dst := some 75, op := Op.indexAddr 35 (Operand.tmp 73) (Operand.tmp 74), type := 0, pos := "prog.go:177", after := #[{ on := 12, ground := Ground.data }, { on := 13, ground := Ground.data }, { on := 8, ground := Ground.guard }], guard := some (8, false) }) (v := ?_) rfl (by kernel_rfl) (by kernel_rfl) (by kernel_rfl) (fun _ _ _ h => h) (Or.inl ⟨by rfl, ?_⟩) (by assumption) ?_; rotate_left; (· (intro wz hSw; (try dsimp only at hSw); go_simp; try with_reducible rfl)))
                          simp only [Act.put, List.setIfInBounds_toArray, List.set_cons_zero, List.set_cons_succ]
                          first | (refine wpAnyH_take (i := 15) (oi := { dst := some 76, op := Op.load 39 (Operand.tmp 75), type := 39, pos := "prog.go:177", after := #[{ on := 14, ground := Ground.data }, { on := 8, ground := Ground.guard }], guard := some (8, false) }) (v := undef) rfl (by kernel_rfl) (by kernel_rfl) (by kernel_rfl) (fun _ _ _ h => h) (Or.inr ⟨by rfl, rfl⟩) (by assumption) ?_) | (refine wpAnyH_take (i := 15) (oi := { dst := some 76, op := Op.load 39 (Operand.tmp 75), type := 39, pos := "prog.go:177", after := #[{ on := 14, ground := Ground.data }, { on := 8, ground := Ground.guard }], guard := some (8, false) }) (v := ?_) rfl (by kernel_rfl) (by kernel_rfl) (by kernel_rfl) (fun _ _ _ h => h) (Or.inl ⟨by rfl, ?_⟩) (by assumption) ?_; rotate_left; (· (intro wz hSw; (try dsimp only at hSw); go_simp; try with_reducible rfl)))
                          simp only [Act.put, List.setIfInBounds_toArray, List.set_cons_zero, List.set_cons_succ]
                          refine wpAnyH_ready (rs := [16]) (by kernel_rfl) (by simp) ?_
                          refine AllReadyH.cons (o := { dst := some 77, op := Op.call { callee := Callee.value (Operand.func 27), args := #[Operand.tmp 70, Operand.tmp 71, Operand.tmp 76], argTypes := #[24, 37, 39] }, type := 4, pos := "prog.go:177", after := #[{ on := 9, ground := Ground.data }, { on := 10, ground := Ground.data }, { on := 15, ground := Ground.data }, { on := 8, ground := Ground.chain }, { on := 8, ground := Ground.guard }], guard := some (8, false) }) rfl (fun K hK => ?_) ?_
                          · go_simp
                            refine hK.out _ _ ?_ (fun hHeld2 => ?_)
                            · (try dsimp only); (first | with_reducible exact hS5 | go_keep)
                            clear hK K
                            try simp only [Act.put, List.setIfInBounds_toArray, List.set_cons_zero, List.set_cons_succ]
                            first | (refine wpAnyH_take (i := 17) (oi := { dst := some 78, op := Op.unOp UnOp.not 4 (Operand.tmp 77), type := 4, pos := "prog.go:177", after := #[{ on := 16, ground := Ground.data }, { on := 8, ground := Ground.guard }], guard := some (8, false) }) (v := undef) rfl (by kernel_rfl) (by kernel_rfl) (by kernel_rfl) (fun _ _ _ h => h) (Or.inr ⟨by rfl, rfl⟩) (by assumption) ?_) | (refine wpAnyH_take (i := 17) (oi := { dst := some 78, op := Op.unOp UnOp.not 4 (Operand.tmp 77), type := 4, pos := "prog.go:177", after := #[{ on := 16, ground := Ground.data }, { on := 8, ground := Ground.guard }], guard := some (8, false) }) (v := ?_) rfl (by kernel_rfl) (by kernel_rfl) (by kernel_rfl) (fun _ _ _ h => h) (Or.inl ⟨by rfl, ?_⟩) (by assumption) ?_; rotate_left; (· (intro wz hSw; (try dsimp only at hSw); go_simp; try with_reducible rfl)))
                            simp only [Act.put, List.setIfInBounds_toArray, List.set_cons_zero, List.set_cons_succ]
                            refine wpAnyH_take (i := 18) (oi := { dst := some 79, op := Op.pick (Operand.tmp 69) (Operand.const (Value.bool true)) (Operand.tmp 78), type := 4, pos := "prog.go:177", after := #[{ on := 8, ground := Ground.data }, { on := 17, ground := Ground.data }], guard := none }) (v := ?_) rfl (by kernel_rfl) (by kernel_rfl) (by kernel_rfl) (fun _ _ _ h => h) (Or.inl ⟨by rfl, ?_⟩) (by assumption) ?_
                            rotate_left
                            · (intro wz hSw; (try dsimp only at hSw); go_simp; try with_reducible rfl)
                            simp only [Act.put, List.setIfInBounds_toArray, List.set_cons_zero, List.set_cons_succ]
                            refine wpAnyH_done (by kernel_rfl) ?_ _
                            go_wp2_with fail
                            go_meet
                            exact ⟨rfl, hkP⟩
                          exact AllReadyH.nil
                        exact AllReadyH.nil
                      | true =>
                        go_region_held3 (fun w' => w'.cell? ⟨F, 0, none⟩ = some (.int .i64 f.params) ∧ w'.cell? ⟨F, 1, none⟩ = some (.int .i64 f.regs) ∧ w'.cell? ⟨F, 2, none⟩ = some (.int .i64 f.slots) ∧ w'.cell? ⟨F, 3, none⟩ = some (.slice (some ⟨bI, oI, none⟩) m cc) ∧ w'.cell? ⟨bI, oI + j * 5, none⟩ = some (.int .i64 x.kind) ∧ w'.cell? ⟨bI, oI + j * 5 + 1, none⟩ = some (.int .i64 x.a) ∧ w'.cell? ⟨bI, oI + j * 5 + 2, none⟩ = some (.int .i64 x.b) ∧ w'.cell? ⟨bI, oI + j * 5 + 3, none⟩ = some (.int .i64 x.c) ∧ w'.cell? ⟨bI, oI + j * 5 + 4, none⟩ = some (.int .i64 x.k) ∧ w'.cell? ⟨B, 0, none⟩ = some (.slice (some ⟨b, off, none⟩) k c)) (first | go_keep | with_reducible exact hS5 | with_reducible exact hS6) (first
                      | (go_at_call 26; refine (HAL.out _).mono ?_; rintro _ w4 ⟨rfl, hk4⟩; have hkP : Keeps None wr w4 := (Keeps.drew None wr).trans hk4 (fun _ f _ => f); have hS5 := (And.intro (hkP.cell g0 (fun f => f)) (And.intro (hkP.cell g1 (fun f => f)) (And.intro (hkP.cell g2 (fun f => f)) (And.intro (hkP.cell g3 (fun f => f)) (And.intro (hkP.cell y0 (fun f => f)) (And.intro (hkP.cell y1 (fun f => f)) (And.intro (hkP.cell y2 (fun f => f)) (And.intro (hkP.cell y3 (fun f => f)) (And.intro (hkP.cell y4 (fun f => f)) (hkP.cell gB (fun f => f))))))))))))
                      | (go_at_call 27; refine (HCL.out _ hkP).mono ?_; rintro _ w6 ⟨rfl, hk6⟩; have hkQ : Keeps None wr w6 := hkP.trans hk6 (fun _ f _ => f); have hS6 := (And.intro (hkQ.cell g0 (fun f => f)) (And.intro (hkQ.cell g1 (fun f => f)) (And.intro (hkQ.cell g2 (fun f => f)) (And.intro (hkQ.cell g3 (fun f => f)) (And.intro (hkQ.cell y0 (fun f => f)) (And.intro (hkQ.cell y1 (fun f => f)) (And.intro (hkQ.cell y2 (fun f => f)) (And.intro (hkQ.cell y3 (fun f => f)) (And.intro (hkQ.cell y4 (fun f => f)) (hkQ.cell gB (fun f => f)))))))))))))
                        all_goals (go_wp2_with fail; go_meet)
                        all_goals exact ⟨rfl, hkQ⟩
                    case rest =>
                      obtain ⟨rfl, hkY⟩ := hcut
                      have hC5 := HJ.out.1.more hkY
                      have H5 : Hid (CkIn w wc B (some ⟨b, off, none⟩) k c ∧ wc.heap[F]? = some (.cells #[.int .i64 f.params, .int .i64 f.regs, .int .i64 f.slots, .slice (some ⟨bI, oI, none⟩) m cc] 37 (0, 0)) ∧ SeenI wc (some ⟨bI, oI, none⟩) m f.code) := ⟨hC5, blk_kept HJ.out.2.1 hkY (fun f => f), HJ.out.2.2.1.more hkY⟩
                      have e0 : wc.cell? ⟨B + 1, 0, none⟩ = some (.int .i64 0) := (cell_of_heap hC5.ans 0).trans rfl
                      have e1 : wc.cell? ⟨B + 1, 1, none⟩ = some (.int .i64 0) := (cell_of_heap hC5.ans 1).trans rfl
                      have e2 : wc.cell? ⟨B + 1, 2, none⟩ = some (.int .i64 0) := (cell_of_heap hC5.ans 2).trans rfl
                      have z0 := blk_free hC5.ans 0
                      have z1 := blk_free hC5.ans 1
                      have z2 := blk_free hC5.ans 2
                      clear hC5 hkY gB g0 g1 g2 g3 y0 y1 y2 y3 y4 HAL HCL
                      cases hb : (AV && CV) with
                      | false =>
                        have HV : Hid (checkV l = (52, (q : Int), (j : Int))) := check_code HN.out HK.out.2.2.1 HC.out.2 HK.out.2.1 (code_bad HJ.out.2.2.2.2 HJ.out.2.2.2.1 (by rw [HFX.out, hb]))
                        clear hb
                        go_wp2_with fail
                        exact H5.out.1.end_ HV.out rfl
                      | true =>
                        have HV : Hid (fitsV false l f x = true) := by show fitsV false l f x = true; rw [HFX.out, hb]
                        clear hb
                        go_wp2_with fail
                        refine ⟨⟨j + 1, by omega, by simp, H5.out.1, H5.out.2.1, H5.out.2.2, fun p y hp hy => ?_⟩, by simp [intOf]; omega⟩
                        by_cases hpj : p = j
                        · subst hpj
                          rw [HJ.out.2.2.2.2] at hy
                          obtain rfl := Option.some.inj hy
                          exact HV.out
                        · exact HJ.out.2.2.2.1 p y (by omega) hy
                  · have hjm2 : j = m := by omega
                    have hfa : ∀ (p : Nat) y, f.code[p]? = some y → fitsV false l f y = true := fun p y hy => hfit p y (by have := (List.getElem?_eq_some_iff.1 hy).1; have := HK.out.2.2.2.2.2.1; omega) hy
                    have i5 : ¬ ((j : Int) < (m : Int)) := by omega
                    have hen := rends_any f ca cc wr (by rw [← HK.out.2.2.2.2.2.1]; exact hsn) (by rw [← HK.out.2.2.2.2.2.1]; exact HK.out.2.2.2.2.2.2.2.1) (by rw [← HK.out.2.2.2.2.2.1]; exact HK.out.2.2.2.2.2.2.2.2) (fun p y hy => fits_kind (hfa p y hy))
                    unfold fnV at hen
                    rw [← HK.out.2.2.2.2.2.1] at hen
                    have HJ : Hid (CkIn w wr B (some ⟨b, off, none⟩) k c ∧ wr.heap[F]? = some (.cells #[.int .i64 f.params, .int .i64 f.regs, .int .i64 f.slots, .slice ca m cc] 37 (0, 0)) ∧ ∀ (p : Nat) y, f.code[p]? = some y → fitsV false l f y = true) := ⟨hC, hFb, hfa⟩
                    clear hC hFb hsn hfit hfa hjm2
                    cases hro : runsOut f with
                    | true =>
                      rw [hro] at hen
                      have HV : Hid (checkV l = (53, (q : Int), (m : Int) - 1)) := check_code HN.out HK.out.2.2.1 HC.out.2 HK.out.2.1 (by have := code_out HJ.out.2.2 hro; rw [← HK.out.2.2.2.2.2.1] at this; exact this)
                      clear hro
                      go_wp2_with fail
                      refine hen.mono ?_
                      rintro e w5 ⟨rfl, hk5⟩
                      have hC5 := HJ.out.1.more hk5
                      have g3' : w5.cell? ⟨F, 3, none⟩ = some (.slice ca m cc) := hk5.cell g3 (fun f => f)
                      have e0 : w5.cell? ⟨B + 1, 0, none⟩ = some (.int .i64 0) := (cell_of_heap hC5.ans 0).trans rfl
                      have e1 : w5.cell? ⟨B + 1, 1, none⟩ = some (.int .i64 0) := (cell_of_heap hC5.ans 1).trans rfl
                      have e2 : w5.cell? ⟨B + 1, 2, none⟩ = some (.int .i64 0) := (cell_of_heap hC5.ans 2).trans rfl
                      have z0 := blk_free hC5.ans 0
                      have z1 := blk_free hC5.ans 1
                      have z2 := blk_free hC5.ans 2
                      have H5 : Hid _ := hC5
                      have hm2 : (m : Int) ≤ 512 := by omega
                      have hm1 : (1 : Int) ≤ (m : Int) := by omega
                      clear hC5 hk5 gB g0 g1 g2 g3
                      go_wp2_with fail
                      exact H5.out.end_ HV.out rfl
                    | false =>
                      rw [hro] at hen
                      have HV : Hid (codeFault false l f = none) := fault_of HJ.out.2.2 hro
                      clear hro
                      go_wp2_with fail
                      refine hen.mono ?_
                      rintro e w5 ⟨rfl, hk5⟩
                      have H5 : Hid (CkIn w w5 B (some ⟨b, off, none⟩) k c) := HJ.out.1.more hk5
                      clear hk5
                      go_wp2_with fail
                      refine ⟨⟨q + 1, by omega, by simp, H5.out, fun j g hj hg => ?_⟩, by simp [intOf]; omega⟩
                      by_cases hjq : j = q
                      · subst hjq
                        rw [HK.out.2.2.1] at hg
                        obtain rfl := Option.some.inj hg
                        exact HV.out
                      · exact HK.out.2.1 j g (by omega) hg
            · have hqk : q = k := by omega
              subst hqk
              have i4 : ¬ ((q : Int) < (q : Int)) := by omega
              have HD : Hid (CkIn w wr B a q c ∧ CodesTo l l.length) := ⟨hC, by rw [← HS.out.2.2]; exact hcd⟩
              clear hC hcd
              go_wp2_with fail
              clear d0
              go_loopw [9] (fun s9 wr => ∃ p : Nat, p ≤ q ∧ s9 = .int .i64 p ∧ CkIn w wr B a q c ∧ SlotsTo l p) (fun i _ => q - (intOf i).toNat)
              case atStart => exact ⟨0, Nat.zero_le _, rfl, HD.out.1, fun j f hj => by omega⟩
              case round =>
                obtain ⟨p, hp, rfl, hC, hsl⟩ := hrel
                have d0 : wr.cell? ⟨B, 0, none⟩ = some (.slice a q c) := (cell_of_heap hC.box 0).trans rfl
                by_cases hpq : p < q
                · obtain ⟨b, off, f, ca, cc, rfl, hf, hat⟩ := (HS.out.1.more hC.keep).at hpq
                  obtain ⟨y0, y1, y2, y3, hsn⟩ := hat
                  have i5 : (p : Int) < (q : Int) := by omega
                  have hshf := HC.out.2 p f (List.getElem?_eq_some_iff.1 hf).1 hf
                  have hcf := HD.out.2 p f (List.getElem?_eq_some_iff.1 hf).1 hf
                  obtain ⟨_, _, hst, hl1, hl2⟩ := shape_parts hshf
                  obtain ⟨m, hm⟩ : ∃ m, m = f.code.length := ⟨_, rfl⟩
                  obtain ⟨ns, hns⟩ : ∃ ns : Nat, (ns : Int) = f.slots := ⟨f.slots.toNat, by omega⟩
                  have hG := good_of hshf hcf
                  rw [← hm] at y3 hsn hl1 hl2
                  have HK : Hid (CkIn w wr B (some ⟨b, off, none⟩) q c ∧ SlotsTo l p ∧ l[p]? = some f ∧ SeenI wr ca m f.code ∧ m = f.code.length ∧ (ns : Int) = f.slots ∧ soundV f = true ∧ Good f ∧ codeFault false l f = none ∧ ns ≤ 8 ∧ m ≤ 512) := ⟨hC, hsl, hf, hsn, hm, hns, sound_yes hshf (fault_alone hcf), hG, hcf, by omega, hl2⟩
                  obtain ⟨F, hF⟩ : ∃ F, F = wr.heap.size := ⟨_, rfl⟩
                  have HF : Hid _ := hF
                  clear hC hsl hf hshf hcf hsn hm hns hF hG hst
                  go_upto_region 24 with fail
                  go_cut [10] (fun s10 wx => s10 = .pointer (some ⟨F, 0, none⟩) ∧ wx.heap[F]? = some (.cells #[.int .i64 f.params, .int .i64 f.regs, .int .i64 f.slots, .slice ca m cc] 37 (0, 0)) ∧ Keeps None wr wx)
                  case first =>
                    go_wp2_with fail
                    go_meet
                    rw [HF.out]
                    exact ⟨rfl, heap_alloc_new _ _, Keeps.alloc None _ _⟩
                  case rest =>
                    obtain ⟨rfl, hFb, hkF⟩ := hcut
                    have hfl := rflow_ok f ca cc wc (by rw [← HK.out.2.2.2.2.1]; exact HK.out.2.2.2.1.more hkF) HK.out.2.2.2.2.2.2.1 m ns HK.out.2.2.2.2.1 HK.out.2.2.2.2.2.1
                    unfold fnV at hfl
                    rw [← HK.out.2.2.2.2.1] at hfl
                    have g0 : wc.cell? ⟨F, 0, none⟩ = some (.int .i64 f.params) := (cell_of_heap hFb 0).trans rfl
                    have g1 : wc.cell? ⟨F, 1, none⟩ = some (.int .i64 f.regs) := (cell_of_heap hFb 1).trans rfl
                    have g2 : wc.cell? ⟨F, 2, none⟩ = some (.int .i64 f.slots) := (cell_of_heap hFb 2).trans rfl
                    have g3 : wc.cell? ⟨F, 3, none⟩ = some (.slice ca m cc) := (cell_of_heap hFb 3).trans rfl
                    have HFB : Hid (CkIn w wc B (some ⟨b, off, none⟩) q c ∧ wc.heap[F]? = some (.cells #[.int .i64 f.params, .int .i64 f.regs, .int .i64 f.slots, .slice ca m cc] 37 (0, 0)) ∧ SeenI wc ca m f.code) := ⟨HK.out.1.more hkF, hFb, HK.out.2.2.2.1.more hkF⟩
                    clear hFb hkF y0 y1 y2 y3 d0
                    go_wp2_with fail
                    refine hfl.mono ?_
                    rintro e w5 ⟨G, rfl, hM5, hk5, hG5⟩
                    have H5 : Hid (CkIn w w5 B (some ⟨b, off, none⟩) q c ∧ w5.heap[F]? = some (.cells #[.int .i64 f.params, .int .i64 f.regs, .int .i64 f.slots, .slice ca m cc] 37 (0, 0)) ∧ SeenI w5 ca m f.code ∧ IsM w5 G m ns m (fun k s => sumAt (searchV f s (0, 0)) k)) := ⟨HFB.out.1.more hk5, blk_kept HFB.out.2.1 hk5 (fun f => f), HFB.out.2.2.more hk5, hM5⟩
                    clear hM5 hk5 hG5 hfl g0 g1 g2 g3
                    go_wp2_with fail
                    go_loopw [12] (fun s12 wr => ∃ j : Nat, j ≤ m ∧ s12 = .int .i64 j ∧ CkIn w wr B (some ⟨b, off, none⟩) q c ∧ wr.heap[F]? = some (.cells #[.int .i64 f.params, .int .i64 f.regs, .int .i64 f.slots, .slice ca m cc] 37 (0, 0)) ∧ SeenI wr ca m f.code ∧ IsM wr G m ns m (fun k s => sumAt (searchV f s (0, 0)) k) ∧ ∀ (t : Nat) y, t < j → f.code[t]? = some y → misuseV y (rowV f t) = 0) (fun i _ => m - (intOf i).toNat)
                    case atStart => exact ⟨0, Nat.zero_le _, rfl, H5.out.1, H5.out.2.1, H5.out.2.2.1, H5.out.2.2.2, fun t y ht => by omega⟩
                    case round =>
                      obtain ⟨j, hj, rfl, hC, hFb, hsn, hM, hmi⟩ := hrel
                      have g3 : wr.cell? ⟨F, 3, none⟩ = some (.slice ca m cc) := (cell_of_heap hFb 3).trans rfl
                      by_cases hjm : j < m
                      · obtain ⟨bI, oI, x, rfl, hx, hat⟩ := hsn.at hjm
                        obtain ⟨y0, y1, y2, y3, y4⟩ := hat
                        have i6 : (j : Int) < (m : Int) := by omega
                        have r1 := hM.row hjm hjm
                        have hrow := row_cells (f := f) HK.out.2.2.2.2.2.1 hM j hjm
                        have hfx := (code_parts HK.out.2.2.2.2.2.2.2.2.1).1 j x hx
                        obtain ⟨w1, w2', w3⟩ := fits_ways hfx
                        have hsf := fun wx (hkx : Keeps None wr wx) => rslotFault_any x (G + 1 + j) ns (rowV f j) wx (fun k z hz => hkx.cell (hrow k z hz) (fun f => f)) (row_len f j ns HK.out.2.2.2.2.2.1) (row_seven HK.out.2.2.2.2.2.2.2.1 j (by rw [← HK.out.2.2.2.2.1]; exact hjm)) HK.out.2.2.2.2.2.2.2.2.2.1
                          (fun h5 => by rw [h5] at w1; simp [fA, allowsV, belowV] at w1; have := HK.out.2.2.2.2.2.1; omega) (fun h7 => by rw [h7] at w2'; simp [fB, allowsV, belowV] at w2'; have := HK.out.2.2.2.2.2.1; omega)
                        unfold insV at hsf
                        have HJ : Hid (CkIn w wr B (some ⟨b, off, none⟩) q c ∧ wr.heap[F]? = some (.cells #[.int .i64 f.params, .int .i64 f.regs, .int .i64 f.slots, .slice (some ⟨bI, oI, none⟩) m cc] 37 (0, 0)) ∧ SeenI wr (some ⟨bI, oI, none⟩) m f.code ∧ IsM wr G m ns m (fun k s => sumAt (searchV f s (0, 0)) k) ∧ (∀ (t : Nat) y, t < j → f.code[t]? = some y → misuseV y (rowV f t) = 0) ∧ f.code[j]? = some x) := ⟨hC, hFb, hsn, hM, hmi, hx⟩
                        obtain ⟨MV, hMV⟩ : ∃ MV, MV = misuseV x (rowV f j) := ⟨_, rfl⟩
                        rw [← hMV] at hsf
                        have HMV : Hid _ := hMV
                        have HSF : Hid _ := hsf
                        clear hC hFb hsn hM hmi hx hrow hfx w1 w2' w3 hsf hMV
                        go_upto_region 29 with fail
                        go_cut [13] (fun s13 wx => s13 = .int .i64 MV ∧ Keeps None wr wx)
                        case first =>
                          go_region_held3 (fun w' => w'.cell? ⟨F, 3, none⟩ = some (.slice (some ⟨bI, oI, none⟩) m cc) ∧ w'.cell? ⟨bI, oI + j * 5, none⟩ = some (.int .i64 x.kind) ∧ w'.cell? ⟨bI, oI + j * 5 + 1, none⟩ = some (.int .i64 x.a) ∧ w'.cell? ⟨bI, oI + j * 5 + 2, none⟩ = some (.int .i64 x.b) ∧ w'.cell? ⟨bI, oI + j * 5 + 3, none⟩ = some (.int .i64 x.c) ∧ w'.cell? ⟨bI, oI + j * 5 + 4, none⟩ = some (.int .i64 x.k) ∧ w'.cell? ⟨G, j, none⟩ = some (.slice (some ⟨G + 1 + j, 0, none⟩) ns ns)) (first | go_keep | with_reducible exact hS5) ((go_at_call 29; refine (HSF.out _ (Keeps.drew None wr)).mono ?_; rintro _ w4 ⟨rfl, hk4⟩; have hkP : Keeps None wr w4 := (Keeps.drew None wr).trans hk4 (fun _ f _ => f); have hS5 := (And.intro (hkP.cell g3 (fun f => f)) (And.intro (hkP.cell y0 (fun f => f)) (And.intro (hkP.cell y1 (fun f => f)) (And.intro (hkP.cell y2 (fun f => f)) (And.intro (hkP.cell y3 (fun f => f)) (And.intro (hkP.cell y4 (fun f => f)) (hkP.cell r1 (fun f => f))))))))))
                          all_goals (go_wp2_with fail; go_meet)
                          all_goals exact ⟨rfl, hkP⟩
                        case rest =>
                          obtain ⟨rfl, hkY⟩ := hcut
                          have hC5 := HJ.out.1.more hkY
                          have H6 : Hid (CkIn w wc B (some ⟨b, off, none⟩) q c ∧ wc.heap[F]? = some (.cells #[.int .i64 f.params, .int .i64 f.regs, .int .i64 f.slots, .slice (some ⟨bI, oI, none⟩) m cc] 37 (0, 0)) ∧ SeenI wc (some ⟨bI, oI, none⟩) m f.code ∧ IsM wc G m ns m (fun k s => sumAt (searchV f s (0, 0)) k)) := ⟨hC5, blk_kept HJ.out.2.1 hkY (fun f => f), HJ.out.2.2.1.more hkY, HJ.out.2.2.2.1.kept hkY (fun _ _ f => f)⟩
                          have e0 : wc.cell? ⟨B + 1, 0, none⟩ = some (.int .i64 0) := (cell_of_heap hC5.ans 0).trans rfl
                          have e1 : wc.cell? ⟨B + 1, 1, none⟩ = some (.int .i64 0) := (cell_of_heap hC5.ans 1).trans rfl
                          have e2 : wc.cell? ⟨B + 1, 2, none⟩ = some (.int .i64 0) := (cell_of_heap hC5.ans 2).trans rfl
                          have z0 := blk_free hC5.ans 0
                          have z1 := blk_free hC5.ans 1
                          have z2 := blk_free hC5.ans 2
                          clear hC5 hkY g3 y0 y1 y2 y3 y4 r1 HSF
                          by_cases hz : MV = 0
                          · have HZ : Hid (misuseV x (rowV f j) = 0) := by show misuseV x (rowV f j) = 0; rw [← HMV.out]; exact hz
                            have q1 : (MV != 0) = false := by simp [hz]
                            clear hz
                            go_wp2_with fail
                            refine ⟨⟨j + 1, by omega, by simp, H6.out.1, H6.out.2.1, H6.out.2.2.1, H6.out.2.2.2, fun t y ht hy => ?_⟩, by simp [intOf]; omega⟩
                            by_cases htj : t = j
                            · subst htj
                              rw [HJ.out.2.2.2.2.2] at hy
                              obtain rfl := Option.some.inj hy
                              exact HZ.out
                            · exact HJ.out.2.2.2.2.1 t y (by omega) hy
                          · have HV : Hid (checkV l = (MV, (p : Int), (j : Int))) := check_slot HN.out HK.out.2.2.1 HC.out.2 HD.out.2 HK.out.2.1 (by have := slot_bad HJ.out.2.2.2.2.2 HJ.out.2.2.2.2.1 (by rw [← HMV.out]; exact hz); rw [← HMV.out] at this; exact this)
                            have q1 : (MV != 0) = true := by simp [hz]
                            clear hz
                            go_wp2_with fail
                            exact H6.out.1.end_ HV.out rfl
                      · have i6 : ¬ ((j : Int) < (m : Int)) := by omega
                        have HE : Hid (CkIn w wr B (some ⟨b, off, none⟩) q c ∧ slotFault f = none) := ⟨hC, slot_good (fun t y hy => hmi t y (by have := (List.getElem?_eq_some_iff.1 hy).1; have := HK.out.2.2.2.2.1; omega) hy)⟩
                        clear hC hFb hsn hM hmi
                        go_wp2_with fail
                        refine ⟨⟨p + 1, by omega, by simp, HE.out.1, fun j g hj hg => ?_⟩, by simp [intOf]; omega⟩
                        by_cases hjq : j = p
                        · subst hjq
                          rw [HK.out.2.2.1] at hg
                          obtain rfl := Option.some.inj hg
                          exact HE.out.2
                        · exact HK.out.2.1 j g (by omega) hg
                · have hpq2 : p = q := by omega
                  subst hpq2
                  have i5 : ¬ ((p : Int) < (p : Int)) := by omega
                  have HV : Hid (checkV l = (0, 0, 0)) := check_good HN.out HC.out.2 HD.out.2 (by rw [← HS.out.2.2]; exact hsl)
                  have e0 : wr.cell? ⟨B + 1, 0, none⟩ = some (.int .i64 0) := (cell_of_heap hC.ans 0).trans rfl
                  have e1 : wr.cell? ⟨B + 1, 1, none⟩ = some (.int .i64 0) := (cell_of_heap hC.ans 1).trans rfl
                  have e2 : wr.cell? ⟨B + 1, 2, none⟩ = some (.int .i64 0) := (cell_of_heap hC.ans 2).trans rfl
                  have z0 := blk_free hC.ans 0
                  have z1 := blk_free hC.ans 1
                  have z2 := blk_free hC.ans 2
                  have H6 : Hid _ := hC
                  clear hC hsl
                  go_wp2_with fail
                  exact H6.out.end_ HV.out rfl
end Go.Proofs.YtoehkjfdaolcnaaDoor
