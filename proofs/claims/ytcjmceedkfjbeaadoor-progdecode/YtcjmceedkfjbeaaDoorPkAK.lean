import Derived.Test.YtcjmceedkfjbeaaDoorPkAJ
import Derived.Deep.QuietTactic
import Derived.Deep.RegionHeld3
/-! reader.function, also where the words end. -/
namespace Go.Proofs.YtcjmceedkfjbeaaDoor
set_option linter.unusedVariables false
set_option maxRecDepth 20000
open Go.RowKit Go.HeapKit

set_option maxRecDepth 20000 in
set_option maxHeartbeats 4000000 in
theorem fn_all (w0 : World) (R : Nat) (zs : List Int) (w : World) (h : IsRd w0 w R zs) (hR : R < w.heap.size) : Calls Tryd.prog 38 #[.pointer (some ⟨R, 0, none⟩)] w (FnPost w0 w R (readFn zs)) := by
  obtain ⟨RF, hRF⟩ : ∃ RF, RF = readFn zs := ⟨_, rfl⟩
  rw [← hRF]
  have HRF : Hid (RF = readFn zs) := hRF
  clear hRF
  have hal := Keeps.alloc None w (.cells #[.int .i64 0, .int .i64 0, .int .i64 0, .slice none 0 0] 40)
  have b0 := heap_alloc_new w (.cells #[.int .i64 0, .int .i64 0, .int .i64 0, .slice none 0 0] 40)
  have h0 : IsRd w0 (w.alloc (.cells #[.int .i64 0, .int .i64 0, .int .i64 0, .slice none 0 0] 40)) R zs := h.kept hal (fun _ f => f.elim)
  obtain ⟨wa, hwa⟩ : ∃ wa, wa = w.alloc (.cells #[.int .i64 0, .int .i64 0, .int .i64 0, .slice none 0 0] 40) := ⟨_, rfl⟩
  obtain ⟨A0, hA0⟩ : ∃ A0, A0 = w.heap.size := ⟨_, rfl⟩
  rw [← hwa] at hal b0 h0
  rw [← hA0] at b0
  have HB : Hid (wa.heap[A0]? = some (.cells #[.int .i64 0, .int .i64 0, .int .i64 0, .slice none 0 0] 40 (0, 0)) ∧ Keeps None w wa ∧ A0 = w.heap.size ∧ R ≠ A0) := ⟨b0, hal, hA0, by omega⟩
  clear hal b0 h
  match zs, h0, HRF with
  | [], h0, HRF =>
    have hnone : RF = none := by rw [HRF.out]; rfl
    subst hnone
    go_enter Tryd.func38, Tryd.ntmps38
    go_upto_region 1 with fail
    rw [← hwa, ← hA0]
    clear hwa hA0
    go_wp2_with (first | (go_at_call 50; refine (num_none w0 R _ h0).mono ?_; rintro _ w' ⟨rfl, hw⟩; have hw2 := hw.symm; subst hw2))
    exact ⟨rfl, rfl, (HB.out.2.1.mono (fun _ f _ => f.elim))⟩
  | [x0], h0, HRF =>
    have hnone : RF = none := by rw [HRF.out]; rfl
    subst hnone
    go_enter Tryd.func38, Tryd.ntmps38
    go_upto_region 1 with fail
    rw [← hwa, ← hA0]
    clear hwa hA0
    go_wp2_with (first | (go_at_call 50; refine (num_none w0 R _ h1).mono ?_; rintro _ w' ⟨rfl, hw⟩; have hw2 := hw.symm; subst hw2) | (go_at_call 50; refine (num_some w0 R _ _ _ h0).mono ?_; rintro _ w1 ⟨rfl, h1, k1⟩))
    exact ⟨rfl, rfl, ((HB.out.2.1.mono (fun _ f _ => f.elim)).trans k1 (fun _ e _ => e))⟩
  | [x0, x1], h0, HRF =>
    have hnone : RF = none := by rw [HRF.out]; rfl
    subst hnone
    go_enter Tryd.func38, Tryd.ntmps38
    go_upto_region 1 with fail
    rw [← hwa, ← hA0]
    clear hwa hA0
    go_wp2_with (first | (go_at_call 50; refine (num_none w0 R _ h2).mono ?_; rintro _ w' ⟨rfl, hw⟩; have hw2 := hw.symm; subst hw2) | (go_at_call 50; refine (num_some w0 R _ _ _ h1).mono ?_; rintro _ w2 ⟨rfl, h2, k2⟩) | (go_at_call 50; refine (num_some w0 R _ _ _ h0).mono ?_; rintro _ w1 ⟨rfl, h1, k1⟩))
    exact ⟨rfl, rfl, (((HB.out.2.1.mono (fun _ f _ => f.elim)).trans k1 (fun _ e _ => e)).trans k2 (fun _ e _ => e))⟩
  | x0 :: x1 :: x2 :: r, h0, HRF =>
    go_enter Tryd.func38, Tryd.ntmps38
    go_upto_region 1 with fail
    rw [← hwa, ← hA0]
    clear hwa hA0
    go_upto_region 2 with (first | (go_at_call 50; refine (num_some w0 R _ _ _ h2).mono ?_; rintro _ w3 ⟨rfl, h3, k3⟩) | (go_at_call 50; refine (num_some w0 R _ _ _ h1).mono ?_; rintro _ w2 ⟨rfl, h2, k2⟩) | (go_at_call 50; refine (num_some w0 R _ _ _ h0).mono ?_; rintro _ w1 ⟨rfl, h1, k1⟩))
    have hk3 : Keeps (· = R) wa w3 := (k1.trans k2 (fun _ e _ => e)).trans k3 (fun _ e _ => e)
    have hal := Keeps.alloc None w3 (.cells #[.int .i64 x0, .int .i64 x1, .int .i64 x2, .slice none 0 0] 40)
    have b4 := heap_alloc_new w3 (.cells #[.int .i64 x0, .int .i64 x1, .int .i64 x2, .slice none 0 0] 40)
    obtain ⟨w4, hw4⟩ : ∃ w4, w4 = w3.alloc (.cells #[.int .i64 x0, .int .i64 x1, .int .i64 x2, .slice none 0 0] 40) := ⟨_, rfl⟩
    obtain ⟨FB, hFB⟩ : ∃ FB, FB = w3.heap.size := ⟨_, rfl⟩
    rw [← hw4] at hal b4
    rw [← hFB] at b4
    rw [← hw4, ← hFB]
    have h4 : IsRd w0 w4 R r := h3.kept hal (fun _ f => f.elim)
    have hA4 := blk_kept (blk_kept HB.out.1 hk3 (fun e => HB.out.2.2.2 e.symm)) hal (fun f => f)
    have hkw4 : Keeps (· = R) w w4 := ((HB.out.2.1.mono (fun _ f _ => f.elim)).trans hk3 (fun _ e _ => e)).trans hal (fun _ f _ => f.elim)
    have nFA : FB ≠ A0 := by
      have h1 := hk3.size
      have h2 := blk_lt HB.out.1
      omega
    have nFR : FB ≠ R := by
      have h1 := hk3.size
      have h2 := HB.out.2.1.size
      omega
    have H4 : Hid (IsRd w0 w4 R r ∧ w4.heap[FB]? = some (.cells #[.int .i64 x0, .int .i64 x1, .int .i64 x2, .slice none 0 0] 40 (0, 0)) ∧ w4.heap[A0]? = some (.cells #[.int .i64 0, .int .i64 0, .int .i64 0, .slice none 0 0] 40 (0, 0)) ∧ Keeps (· = R) w w4 ∧ FB ≠ A0 ∧ FB ≠ R ∧ w.heap.size ≤ FB) := ⟨h4, b4, hA4, hkw4, nFA, nFR, by have h1 := hk3.size; have h2 := HB.out.2.1.size; omega⟩
    clear hw4 hFB hal b4 h1 h2 h3 k1 k2 k3 hk3 h4 hA4 hkw4 nFA nFR h0
    by_cases hcnt : ∃ m r1, r = m :: r1 ∧ 1 ≤ m ∧ m ≤ 512
    · obtain ⟨m, r1, rfl, hm1, hm2⟩ := hcnt
      obtain ⟨n, rfl⟩ := Int.eq_ofNat_of_zero_le (show 0 ≤ m by omega)
      have hcs := count_some w0 R 512 n r1 w4 H4.out.1 hm1 hm2
      have HR2 : Hid (RF = (readCode n r1).map fun q => (⟨x0, x1, x2, q.1⟩, q.2)) := by
        unfold Hid
        rw [HRF.out]
        simp only [readFn]
        rw [if_neg (by omega), Int.toNat_natCast]
      clear HRF
      have hmk := fun wx => code_made wx n (by omega)
      have HMK : Hid _ := hmk
      clear hmk
      go_upto_region 3 with (first
        | (go_at_call 37; refine hcs.mono ?_; rintro _ w5 ⟨rfl, h5, k5⟩; have hmk5 := HMK.out w5; obtain ⟨w6, hr6, hc6, k6⟩ := hmk5; have b6 := blk_kept (blk_kept H4.out.2.1 k5 H4.out.2.2.2.2.2.1) k6 (fun f => f); have d6 := (cell_of_heap b6 3).trans rfl; have z6 := blk_free b6 3)
        | (at_make; refine wpList_make_run rfl (.tmp 13) (.tmp 13) 38 rfl rfl rfl hr6 ?_))
      have hcb0 : IsCode w6 w5.heap.size (List.replicate n zIns) := hc6
      obtain ⟨cb, hcb⟩ : ∃ cb, cb = w5.heap.size := ⟨_, rfl⟩
      have hst := Keeps.setCell (S := (· = FB)) w6 (a := ⟨FB, 3, none⟩) rfl (.slice (some ⟨w5.heap.size, 0, none⟩) n n)
      have bF := blk_set (i := 3) b6 (.slice (some ⟨w5.heap.size, 0, none⟩) n n)
      obtain ⟨w7, hw7⟩ : ∃ w7, w7 = w6.setCell ⟨FB, 3, none⟩ (.slice (some ⟨w5.heap.size, 0, none⟩) n n) := ⟨_, rfl⟩
      rw [← hw7] at hst bF
      rw [← hcb] at bF hcb0
      have n5 : w4.heap.size ≤ cb := by rw [hcb]; exact k5.size
      have nFB := blk_lt H4.out.2.1
      have nAB := blk_lt H4.out.2.2.1
      have hkw7 : Keeps (· = R) w w7 := (((H4.out.2.2.2.1.trans k5 (fun _ e _ => e)).trans k6 (fun _ f _ => f.elim)).trans hst (fun i e hi => by have := H4.out.2.2.2.2.2.2; omega))
      have H7 : Hid (IsRd w0 w7 R r1 ∧ w7.heap[FB]? = some (.cells #[.int .i64 x0, .int .i64 x1, .int .i64 x2, .slice (some ⟨cb, 0, none⟩) n n] 40 (0, 0)) ∧ w7.heap[A0]? = some (.cells #[.int .i64 0, .int .i64 0, .int .i64 0, .slice none 0 0] 40 (0, 0)) ∧ IsCode w7 cb (List.replicate n zIns) ∧ Keeps (· = R) w w7 ∧ w.heap.size ≤ cb ∧ cb ≠ R ∧ cb ≠ FB ∧ cb ≠ A0) := by
        refine ⟨(h5.kept k6 (fun _ f => f.elim)).kept hst (fun k e => ?_), bF, blk_kept (blk_kept (blk_kept H4.out.2.2.1 k5 (fun e => HB.out.2.2.2 e.symm)) k6 (fun f => f)) hst (fun e => H4.out.2.2.2.2.1 e.symm), hcb0.kept hst (by omega), hkw7, ?_, ?_, by omega, by omega⟩
        · refine ⟨?_, ?_⟩
          · have h1 := H4.out.1.base.size
            have h2 := H4.out.2.2.2.2.2.2
            have h3 := H4.out.2.2.2.1.size
            have h4 := H4.out.1.low
            subst e
            have h5 := HB.out.2.2.1
            have h6 := h0.base.size
            omega
          · rw [e]; exact H4.out.2.2.2.2.2.1
        · have := H4.out.2.2.2.1.size; omega
        · have := H4.out.2.2.2.1.size; omega
      rw [← hw7, ← hcb]
      have d7 := (cell_of_heap bF 3).trans rfl
      clear hw7 hst bF hcb0 hcb b6 d6 z6 k5 k6 h5 hc6 hr6 hkw7 n5 nFB nAB hcs
      go_wp2_with fail
      clear d7
      go_loopw [19] (fun s19 wr => ∃ (k : Nat) (cs : List Ins) (zk : List Int), k ≤ n ∧ s19 = .int .i64 k ∧ IsRd w0 wr R zk ∧ wr.heap[FB]? = some (.cells #[.int .i64 x0, .int .i64 x1, .int .i64 x2, .slice (some ⟨cb, 0, none⟩) n n] 40 (0, 0)) ∧ wr.heap[A0]? = some (.cells #[.int .i64 0, .int .i64 0, .int .i64 0, .slice none 0 0] 40 (0, 0)) ∧ IsCode wr cb cs ∧ Keeps (· = R) w wr ∧ cs.length = n ∧ readCode n r1 = (readCode (n - k) zk).map (fun q => (cs.take k ++ q.1, q.2))) (fun i _ => n - (intOf i).toNat)
      case atStart => exact ⟨0, _, r1, Nat.zero_le _, rfl, H7.out.1, H7.out.2.1, H7.out.2.2.1, H7.out.2.2.2.1, H7.out.2.2.2.2.1, by simp, by simp⟩
      case round =>
        obtain ⟨k, cs, zk, hk, rfl, h0, hF, hA, hc, hkp, hl, hread⟩ := hrel
        have d3 := (cell_of_heap hF 3).trans rfl
        by_cases hkn : k < n
        · have i1 : (k : Int) < (n : Int) := by omega
          have h0' := h0.kept (Keeps.drew None wr) (fun _ f => f.elim)
          have s0 : wr.drew.cell? ⟨FB, 3, none⟩ = some (.slice (some ⟨cb, 0, none⟩) n n) := d3
          have nFC : FB ≠ cb := H7.out.2.2.2.2.2.2.2.1.symm
          have NE : Hid (¬ FB = R ∧ ¬ cb = R) := ⟨H4.out.2.2.2.2.2.1, H7.out.2.2.2.2.2.2.1⟩
          have HKK : Hid (IsCode wr cb cs ∧ Keeps (· = R) w wr ∧ cs.length = n ∧ readCode n r1 = (readCode (n - k) zk).map (fun q => (cs.take k ++ q.1, q.2)) ∧ wr.heap[FB]? = some (.cells #[.int .i64 x0, .int .i64 x1, .int .i64 x2, .slice (some ⟨cb, 0, none⟩) n n] 40 (0, 0)) ∧ wr.heap[A0]? = some (.cells #[.int .i64 0, .int .i64 0, .int .i64 0, .slice none 0 0] 40 (0, 0))) := ⟨hc, hkp, hl, hread, hF, hA⟩
          clear h0 hc hkp hl hread hF hA
          match zk, h0', HKK with
          | [], h0, HKK =>
            have hnone : RF = none := by rw [HR2.out, HKK.out.2.2.2.1, read_none hkn rfl]; rfl
            subst hnone
            go_upto_region 6 with fail
            refine wp_region_held_drew (S := (fun w' => w'.cell? ⟨FB, 3, none⟩ = some (.slice (some ⟨cb, 0, none⟩) n n))) (by kernel_rfl) ?_ (fun hHeld => ?_)
            · (try dsimp only); (first | with_reducible exact s0 | go_keep)
            refine wpAnyH_take (i := 0) (oi := { dst := some 22, op := Op.fieldAddr 40 (Operand.tmp 3) 3, type := 0, pos := "image.go:76", after := #[], guard := none }) (v := ?_) rfl (by kernel_rfl) (by kernel_rfl) (by kernel_rfl) (fun _ _ _ h => h) (Or.inl ⟨by rfl, ?_⟩) (by assumption) ?_
            rotate_left
            · (intro wz hSw; (try dsimp only at hSw); go_simp; try with_reducible rfl)
            simp only [Act.put, List.setIfInBounds_toArray, List.set_cons_zero, List.set_cons_succ]
            refine wpAnyH_take (i := 1) (oi := { dst := some 23, op := Op.load 38 (Operand.tmp 22), type := 38, pos := "image.go:76", after := #[{ on := 0, ground := Ground.data }], guard := none }) (v := ?_) rfl (by kernel_rfl) (by kernel_rfl) (by kernel_rfl) (fun _ _ _ h => h) (Or.inl ⟨by rfl, ?_⟩) (by assumption) ?_
            rotate_left
            · (intro wz hSw; (try dsimp only at hSw); go_simp; try with_reducible rfl)
            simp only [Act.put, List.setIfInBounds_toArray, List.set_cons_zero, List.set_cons_succ]
            refine wpAnyH_take (i := 2) (oi := { dst := some 24, op := Op.move (Operand.tmp 4), type := 3, pos := "image.go:76", after := #[], guard := none }) (v := ?_) rfl (by kernel_rfl) (by kernel_rfl) (by kernel_rfl) (fun _ _ _ h => h) (Or.inl ⟨by rfl, ?_⟩) (by assumption) ?_
            rotate_left
            · (intro wz hSw; (try dsimp only at hSw); go_simp; try with_reducible rfl)
            simp only [Act.put, List.setIfInBounds_toArray, List.set_cons_zero, List.set_cons_succ]
            refine wpAnyH_take (i := 3) (oi := { dst := some 25, op := Op.move (Operand.tmp 0), type := 83, pos := "image.go:76", after := #[], guard := none }) (v := ?_) rfl (by kernel_rfl) (by kernel_rfl) (by kernel_rfl) (fun _ _ _ h => h) (Or.inl ⟨by rfl, ?_⟩) (by assumption) ?_
            rotate_left
            · (intro wz hSw; (try dsimp only at hSw); go_simp; try with_reducible rfl)
            simp only [Act.put, List.setIfInBounds_toArray, List.set_cons_zero, List.set_cons_succ]
            refine wpAnyH_take (i := 5) (oi := { dst := some 27, op := Op.move (Operand.tmp 0), type := 83, pos := "image.go:76", after := #[], guard := none }) (v := ?_) rfl (by kernel_rfl) (by kernel_rfl) (by kernel_rfl) (fun _ _ _ h => h) (Or.inl ⟨by rfl, ?_⟩) (by assumption) ?_
            rotate_left
            · (intro wz hSw; (try dsimp only at hSw); go_simp; try with_reducible rfl)
            simp only [Act.put, List.setIfInBounds_toArray, List.set_cons_zero, List.set_cons_succ]
            refine wpAnyH_take (i := 7) (oi := { dst := some 29, op := Op.move (Operand.tmp 0), type := 83, pos := "image.go:76", after := #[], guard := none }) (v := ?_) rfl (by kernel_rfl) (by kernel_rfl) (by kernel_rfl) (fun _ _ _ h => h) (Or.inl ⟨by rfl, ?_⟩) (by assumption) ?_
            rotate_left
            · (intro wz hSw; (try dsimp only at hSw); go_simp; try with_reducible rfl)
            simp only [Act.put, List.setIfInBounds_toArray, List.set_cons_zero, List.set_cons_succ]
            refine wpAnyH_take (i := 9) (oi := { dst := some 31, op := Op.move (Operand.tmp 0), type := 83, pos := "image.go:76", after := #[], guard := none }) (v := ?_) rfl (by kernel_rfl) (by kernel_rfl) (by kernel_rfl) (fun _ _ _ h => h) (Or.inl ⟨by rfl, ?_⟩) (by assumption) ?_
            rotate_left
            · (intro wz hSw; (try dsimp only at hSw); go_simp; try with_reducible rfl)
            simp only [Act.put, List.setIfInBounds_toArray, List.set_cons_zero, List.set_cons_succ]
            refine wpAnyH_take (i := 11) (oi := { dst := some 33, op := Op.move (Operand.tmp 0), type := 83, pos := "image.go:76", after := #[], guard := none }) (v := ?_) rfl (by kernel_rfl) (by kernel_rfl) (by kernel_rfl) (fun _ _ _ h => h) (Or.inl ⟨by rfl, ?_⟩) (by assumption) ?_
            rotate_left
            · (intro wz hSw; (try dsimp only at hSw); go_simp; try with_reducible rfl)
            simp only [Act.put, List.setIfInBounds_toArray, List.set_cons_zero, List.set_cons_succ]
            refine wpAnyH_ready (rs := [4]) (by kernel_rfl) (by simp) ?_
            refine AllReadyH.cons (o := { dst := some 26, op := Op.call { callee := Callee.value (Operand.func 50), args := #[Operand.tmp 25], argTypes := #[83] }, type := 3, pos := "image.go:76", after := #[{ on := 3, ground := Ground.data }], guard := none }) rfl (fun K hK => ?_) ?_
            · go_simp
              refine (num_none w0 R _ h0).mono ?_
              rintro _ wz ⟨rfl, hw⟩
              subst hw
              exact ⟨rfl, rfl, HKK.out.2.1.trans (Keeps.drew (· = R) _) (fun _ e _ => e)⟩
            exact AllReadyH.nil
          | [q0], h0, HKK =>
            have hnone : RF = none := by rw [HR2.out, HKK.out.2.2.2.1, read_none hkn rfl]; rfl
            subst hnone
            go_upto_region 6 with fail
            refine wp_region_held_drew (S := (fun w' => w'.cell? ⟨FB, 3, none⟩ = some (.slice (some ⟨cb, 0, none⟩) n n))) (by kernel_rfl) ?_ (fun hHeld => ?_)
            · (try dsimp only); (first | with_reducible exact s1 | with_reducible exact s0 | go_keep)
            refine wpAnyH_take (i := 0) (oi := { dst := some 22, op := Op.fieldAddr 40 (Operand.tmp 3) 3, type := 0, pos := "image.go:76", after := #[], guard := none }) (v := ?_) rfl (by kernel_rfl) (by kernel_rfl) (by kernel_rfl) (fun _ _ _ h => h) (Or.inl ⟨by rfl, ?_⟩) (by assumption) ?_
            rotate_left
            · (intro wz hSw; (try dsimp only at hSw); go_simp; try with_reducible rfl)
            simp only [Act.put, List.setIfInBounds_toArray, List.set_cons_zero, List.set_cons_succ]
            refine wpAnyH_take (i := 1) (oi := { dst := some 23, op := Op.load 38 (Operand.tmp 22), type := 38, pos := "image.go:76", after := #[{ on := 0, ground := Ground.data }], guard := none }) (v := ?_) rfl (by kernel_rfl) (by kernel_rfl) (by kernel_rfl) (fun _ _ _ h => h) (Or.inl ⟨by rfl, ?_⟩) (by assumption) ?_
            rotate_left
            · (intro wz hSw; (try dsimp only at hSw); go_simp; try with_reducible rfl)
            simp only [Act.put, List.setIfInBounds_toArray, List.set_cons_zero, List.set_cons_succ]
            refine wpAnyH_take (i := 2) (oi := { dst := some 24, op := Op.move (Operand.tmp 4), type := 3, pos := "image.go:76", after := #[], guard := none }) (v := ?_) rfl (by kernel_rfl) (by kernel_rfl) (by kernel_rfl) (fun _ _ _ h => h) (Or.inl ⟨by rfl, ?_⟩) (by assumption) ?_
            rotate_left
            · (intro wz hSw; (try dsimp only at hSw); go_simp; try with_reducible rfl)
            simp only [Act.put, List.setIfInBounds_toArray, List.set_cons_zero, List.set_cons_succ]
            refine wpAnyH_take (i := 3) (oi := { dst := some 25, op := Op.move (Operand.tmp 0), type := 83, pos := "image.go:76", after := #[], guard := none }) (v := ?_) rfl (by kernel_rfl) (by kernel_rfl) (by kernel_rfl) (fun _ _ _ h => h) (Or.inl ⟨by rfl, ?_⟩) (by assumption) ?_
            rotate_left
            · (intro wz hSw; (try dsimp only at hSw); go_simp; try with_reducible rfl)
            simp only [Act.put, List.setIfInBounds_toArray, List.set_cons_zero, List.set_cons_succ]
            refine wpAnyH_take (i := 5) (oi := { dst := some 27, op := Op.move (Operand.tmp 0), type := 83, pos := "image.go:76", after := #[], guard := none }) (v := ?_) rfl (by kernel_rfl) (by kernel_rfl) (by kernel_rfl) (fun _ _ _ h => h) (Or.inl ⟨by rfl, ?_⟩) (by assumption) ?_
            rotate_left
            · (intro wz hSw; (try dsimp only at hSw); go_simp; try with_reducible rfl)
            simp only [Act.put, List.setIfInBounds_toArray, List.set_cons_zero, List.set_cons_succ]
            refine wpAnyH_take (i := 7) (oi := { dst := some 29, op := Op.move (Operand.tmp 0), type := 83, pos := "image.go:76", after := #[], guard := none }) (v := ?_) rfl (by kernel_rfl) (by kernel_rfl) (by kernel_rfl) (fun _ _ _ h => h) (Or.inl ⟨by rfl, ?_⟩) (by assumption) ?_
            rotate_left
            · (intro wz hSw; (try dsimp only at hSw); go_simp; try with_reducible rfl)
            simp only [Act.put, List.setIfInBounds_toArray, List.set_cons_zero, List.set_cons_succ]
            refine wpAnyH_take (i := 9) (oi := { dst := some 31, op := Op.move (Operand.tmp 0), type := 83, pos := "image.go:76", after := #[], guard := none }) (v := ?_) rfl (by kernel_rfl) (by kernel_rfl) (by kernel_rfl) (fun _ _ _ h => h) (Or.inl ⟨by rfl, ?_⟩) (by assumption) ?_
            rotate_left
            · (intro wz hSw; (try dsimp only at hSw); go_simp; try with_reducible rfl)
            simp only [Act.put, List.setIfInBounds_toArray, List.set_cons_zero, List.set_cons_succ]
            refine wpAnyH_take (i := 11) (oi := { dst := some 33, op := Op.move (Operand.tmp 0), type := 83, pos := "image.go:76", after := #[], guard := none }) (v := ?_) rfl (by kernel_rfl) (by kernel_rfl) (by kernel_rfl) (fun _ _ _ h => h) (Or.inl ⟨by rfl, ?_⟩) (by assumption) ?_
            rotate_left
            · (intro wz hSw; (try dsimp only at hSw); go_simp; try with_reducible rfl)
            simp only [Act.put, List.setIfInBounds_toArray, List.set_cons_zero, List.set_cons_succ]
            refine wpAnyH_ready (rs := [4]) (by kernel_rfl) (by simp) ?_
            refine AllReadyH.cons (o := { dst := some 26, op := Op.call { callee := Callee.value (Operand.func 50), args := #[Operand.tmp 25], argTypes := #[83] }, type := 3, pos := "image.go:76", after := #[{ on := 3, ground := Ground.data }], guard := none }) rfl (fun K hK => ?_) ?_
            · go_simp
              refine (num_some w0 R _ _ _ h0).mono ?_
              rintro _ w1 ⟨rfl, h1, k1⟩
              have s1 : w1.cell? ⟨FB, 3, none⟩ = some (.slice (some ⟨cb, 0, none⟩) n n) := k1.cell s0 NE.out.1
              refine hK.out _ _ ?_ (fun hHeld2 => ?_)
              · (try dsimp only); (first | with_reducible exact s1 | with_reducible exact s0 | go_keep)
              clear hK K
              try simp only [Act.put, List.setIfInBounds_toArray, List.set_cons_zero, List.set_cons_succ]
              refine wpAnyH_ready (rs := [6]) (by kernel_rfl) (by simp) ?_
              refine AllReadyH.cons (o := { dst := some 28, op := Op.call { callee := Callee.value (Operand.func 50), args := #[Operand.tmp 27], argTypes := #[83] }, type := 3, pos := "image.go:76", after := #[{ on := 5, ground := Ground.data }, { on := 4, ground := Ground.chain }], guard := none }) rfl (fun K hK => ?_) ?_
              · go_simp
                refine (num_none w0 R _ h1).mono ?_
                rintro _ wz ⟨rfl, hw⟩
                subst hw
                exact ⟨rfl, rfl, (HKK.out.2.1.trans (Keeps.drew (· = R) _) (fun _ e _ => e)).trans k1 (fun _ e _ => e)⟩
              exact AllReadyH.nil
            exact AllReadyH.nil
          | [q0, q1], h0, HKK =>
            have hnone : RF = none := by rw [HR2.out, HKK.out.2.2.2.1, read_none hkn rfl]; rfl
            subst hnone
            go_upto_region 6 with fail
            refine wp_region_held_drew (S := (fun w' => w'.cell? ⟨FB, 3, none⟩ = some (.slice (some ⟨cb, 0, none⟩) n n))) (by kernel_rfl) ?_ (fun hHeld => ?_)
            · (try dsimp only); (first | with_reducible exact s2 | with_reducible exact s1 | with_reducible exact s0 | go_keep)
            refine wpAnyH_take (i := 0) (oi := { dst := some 22, op := Op.fieldAddr 40 (Operand.tmp 3) 3, type := 0, pos := "image.go:76", after := #[], guard := none }) (v := ?_) rfl (by kernel_rfl) (by kernel_rfl) (by kernel_rfl) (fun _ _ _ h => h) (Or.inl ⟨by rfl, ?_⟩) (by assumption) ?_
            rotate_left
            · (intro wz hSw; (try dsimp only at hSw); go_simp; try with_reducible rfl)
            simp only [Act.put, List.setIfInBounds_toArray, List.set_cons_zero, List.set_cons_succ]
            refine wpAnyH_take (i := 1) (oi := { dst := some 23, op := Op.load 38 (Operand.tmp 22), type := 38, pos := "image.go:76", after := #[{ on := 0, ground := Ground.data }], guard := none }) (v := ?_) rfl (by kernel_rfl) (by kernel_rfl) (by kernel_rfl) (fun _ _ _ h => h) (Or.inl ⟨by rfl, ?_⟩) (by assumption) ?_
            rotate_left
            · (intro wz hSw; (try dsimp only at hSw); go_simp; try with_reducible rfl)
            simp only [Act.put, List.setIfInBounds_toArray, List.set_cons_zero, List.set_cons_succ]
            refine wpAnyH_take (i := 2) (oi := { dst := some 24, op := Op.move (Operand.tmp 4), type := 3, pos := "image.go:76", after := #[], guard := none }) (v := ?_) rfl (by kernel_rfl) (by kernel_rfl) (by kernel_rfl) (fun _ _ _ h => h) (Or.inl ⟨by rfl, ?_⟩) (by assumption) ?_
            rotate_left
            · (intro wz hSw; (try dsimp only at hSw); go_simp; try with_reducible rfl)
            simp only [Act.put, List.setIfInBounds_toArray, List.set_cons_zero, List.set_cons_succ]
            refine wpAnyH_take (i := 3) (oi := { dst := some 25, op := Op.move (Operand.tmp 0), type := 83, pos := "image.go:76", after := #[], guard := none }) (v := ?_) rfl (by kernel_rfl) (by kernel_rfl) (by kernel_rfl) (fun _ _ _ h => h) (Or.inl ⟨by rfl, ?_⟩) (by assumption) ?_
            rotate_left
            · (intro wz hSw; (try dsimp only at hSw); go_simp; try with_reducible rfl)
            simp only [Act.put, List.setIfInBounds_toArray, List.set_cons_zero, List.set_cons_succ]
            refine wpAnyH_take (i := 5) (oi := { dst := some 27, op := Op.move (Operand.tmp 0), type := 83, pos := "image.go:76", after := #[], guard := none }) (v := ?_) rfl (by kernel_rfl) (by kernel_rfl) (by kernel_rfl) (fun _ _ _ h => h) (Or.inl ⟨by rfl, ?_⟩) (by assumption) ?_
            rotate_left
            · (intro wz hSw; (try dsimp only at hSw); go_simp; try with_reducible rfl)
            simp only [Act.put, List.setIfInBounds_toArray, List.set_cons_zero, List.set_cons_succ]
            refine wpAnyH_take (i := 7) (oi := { dst := some 29, op := Op.move (Operand.tmp 0), type := 83, pos := "image.go:76", after := #[], guard := none }) (v := ?_) rfl (by kernel_rfl) (by kernel_rfl) (by kernel_rfl) (fun _ _ _ h => h) (Or.inl ⟨by rfl, ?_⟩) (by assumption) ?_
            rotate_left
            · (intro wz hSw; (try dsimp only at hSw); go_simp; try with_reducible rfl)
            simp only [Act.put, List.setIfInBounds_toArray, List.set_cons_zero, List.set_cons_succ]
            refine wpAnyH_take (i := 9) (oi := { dst := some 31, op := Op.move (Operand.tmp 0), type := 83, pos := "image.go:76", after := #[], guard := none }) (v := ?_) rfl (by kernel_rfl) (by kernel_rfl) (by kernel_rfl) (fun _ _ _ h => h) (Or.inl ⟨by rfl, ?_⟩) (by assumption) ?_
            rotate_left
            · (intro wz hSw; (try dsimp only at hSw); go_simp; try with_reducible rfl)
            simp only [Act.put, List.setIfInBounds_toArray, List.set_cons_zero, List.set_cons_succ]
            refine wpAnyH_take (i := 11) (oi := { dst := some 33, op := Op.move (Operand.tmp 0), type := 83, pos := "image.go:76", after := #[], guard := none }) (v := ?_) rfl (by kernel_rfl) (by kernel_rfl) (by kernel_rfl) (fun _ _ _ h => h) (Or.inl ⟨by rfl, ?_⟩) (by assumption) ?_
            rotate_left
            · (intro wz hSw; (try dsimp only at hSw); go_simp; try with_reducible rfl)
            simp only [Act.put, List.setIfInBounds_toArray, List.set_cons_zero, List.set_cons_succ]
            refine wpAnyH_ready (rs := [4]) (by kernel_rfl) (by simp) ?_
            refine AllReadyH.cons (o := { dst := some 26, op := Op.call { callee := Callee.value (Operand.func 50), args := #[Operand.tmp 25], argTypes := #[83] }, type := 3, pos := "image.go:76", after := #[{ on := 3, ground := Ground.data }], guard := none }) rfl (fun K hK => ?_) ?_
            · go_simp
              refine (num_some w0 R _ _ _ h0).mono ?_
              rintro _ w1 ⟨rfl, h1, k1⟩
              have s1 : w1.cell? ⟨FB, 3, none⟩ = some (.slice (some ⟨cb, 0, none⟩) n n) := k1.cell s0 NE.out.1
              refine hK.out _ _ ?_ (fun hHeld2 => ?_)
              · (try dsimp only); (first | with_reducible exact s2 | with_reducible exact s1 | with_reducible exact s0 | go_keep)
              clear hK K
              try simp only [Act.put, List.setIfInBounds_toArray, List.set_cons_zero, List.set_cons_succ]
              refine wpAnyH_ready (rs := [6]) (by kernel_rfl) (by simp) ?_
              refine AllReadyH.cons (o := { dst := some 28, op := Op.call { callee := Callee.value (Operand.func 50), args := #[Operand.tmp 27], argTypes := #[83] }, type := 3, pos := "image.go:76", after := #[{ on := 5, ground := Ground.data }, { on := 4, ground := Ground.chain }], guard := none }) rfl (fun K hK => ?_) ?_
              · go_simp
                refine (num_some w0 R _ _ _ h1).mono ?_
                rintro _ w2 ⟨rfl, h2, k2⟩
                have s2 : w2.cell? ⟨FB, 3, none⟩ = some (.slice (some ⟨cb, 0, none⟩) n n) := k2.cell s1 NE.out.1
                refine hK.out _ _ ?_ (fun hHeld2 => ?_)
                · (try dsimp only); (first | with_reducible exact s2 | with_reducible exact s1 | with_reducible exact s0 | go_keep)
                clear hK K
                try simp only [Act.put, List.setIfInBounds_toArray, List.set_cons_zero, List.set_cons_succ]
                refine wpAnyH_ready (rs := [8]) (by kernel_rfl) (by simp) ?_
                refine AllReadyH.cons (o := { dst := some 30, op := Op.call { callee := Callee.value (Operand.func 50), args := #[Operand.tmp 29], argTypes := #[83] }, type := 3, pos := "image.go:76", after := #[{ on := 7, ground := Ground.data }, { on := 6, ground := Ground.chain }], guard := none }) rfl (fun K hK => ?_) ?_
                · go_simp
                  refine (num_none w0 R _ h2).mono ?_
                  rintro _ wz ⟨rfl, hw⟩
                  subst hw
                  exact ⟨rfl, rfl, ((HKK.out.2.1.trans (Keeps.drew (· = R) _) (fun _ e _ => e)).trans k1 (fun _ e _ => e)).trans k2 (fun _ e _ => e)⟩
                exact AllReadyH.nil
              exact AllReadyH.nil
            exact AllReadyH.nil
          | [q0, q1, q2], h0, HKK =>
            have hnone : RF = none := by rw [HR2.out, HKK.out.2.2.2.1, read_none hkn rfl]; rfl
            subst hnone
            go_upto_region 6 with fail
            refine wp_region_held_drew (S := (fun w' => w'.cell? ⟨FB, 3, none⟩ = some (.slice (some ⟨cb, 0, none⟩) n n))) (by kernel_rfl) ?_ (fun hHeld => ?_)
            · (try dsimp only); (first | with_reducible exact s3 | with_reducible exact s2 | with_reducible exact s1 | with_reducible exact s0 | go_keep)
            refine wpAnyH_take (i := 0) (oi := { dst := some 22, op := Op.fieldAddr 40 (Operand.tmp 3) 3, type := 0, pos := "image.go:76", after := #[], guard := none }) (v := ?_) rfl (by kernel_rfl) (by kernel_rfl) (by kernel_rfl) (fun _ _ _ h => h) (Or.inl ⟨by rfl, ?_⟩) (by assumption) ?_
            rotate_left
            · (intro wz hSw; (try dsimp only at hSw); go_simp; try with_reducible rfl)
            simp only [Act.put, List.setIfInBounds_toArray, List.set_cons_zero, List.set_cons_succ]
            refine wpAnyH_take (i := 1) (oi := { dst := some 23, op := Op.load 38 (Operand.tmp 22), type := 38, pos := "image.go:76", after := #[{ on := 0, ground := Ground.data }], guard := none }) (v := ?_) rfl (by kernel_rfl) (by kernel_rfl) (by kernel_rfl) (fun _ _ _ h => h) (Or.inl ⟨by rfl, ?_⟩) (by assumption) ?_
            rotate_left
            · (intro wz hSw; (try dsimp only at hSw); go_simp; try with_reducible rfl)
            simp only [Act.put, List.setIfInBounds_toArray, List.set_cons_zero, List.set_cons_succ]
            refine wpAnyH_take (i := 2) (oi := { dst := some 24, op := Op.move (Operand.tmp 4), type := 3, pos := "image.go:76", after := #[], guard := none }) (v := ?_) rfl (by kernel_rfl) (by kernel_rfl) (by kernel_rfl) (fun _ _ _ h => h) (Or.inl ⟨by rfl, ?_⟩) (by assumption) ?_
            rotate_left
            · (intro wz hSw; (try dsimp only at hSw); go_simp; try with_reducible rfl)
            simp only [Act.put, List.setIfInBounds_toArray, List.set_cons_zero, List.set_cons_succ]
            refine wpAnyH_take (i := 3) (oi := { dst := some 25, op := Op.move (Operand.tmp 0), type := 83, pos := "image.go:76", after := #[], guard := none }) (v := ?_) rfl (by kernel_rfl) (by kernel_rfl) (by kernel_rfl) (fun _ _ _ h => h) (Or.inl ⟨by rfl, ?_⟩) (by assumption) ?_
            rotate_left
            · (intro wz hSw; (try dsimp only at hSw); go_simp; try with_reducible rfl)
            simp only [Act.put, List.setIfInBounds_toArray, List.set_cons_zero, List.set_cons_succ]
            refine wpAnyH_take (i := 5) (oi := { dst := some 27, op := Op.move (Operand.tmp 0), type := 83, pos := "image.go:76", after := #[], guard := none }) (v := ?_) rfl (by kernel_rfl) (by kernel_rfl) (by kernel_rfl) (fun _ _ _ h => h) (Or.inl ⟨by rfl, ?_⟩) (by assumption) ?_
            rotate_left
            · (intro wz hSw; (try dsimp only at hSw); go_simp; try with_reducible rfl)
            simp only [Act.put, List.setIfInBounds_toArray, List.set_cons_zero, List.set_cons_succ]
            refine wpAnyH_take (i := 7) (oi := { dst := some 29, op := Op.move (Operand.tmp 0), type := 83, pos := "image.go:76", after := #[], guard := none }) (v := ?_) rfl (by kernel_rfl) (by kernel_rfl) (by kernel_rfl) (fun _ _ _ h => h) (Or.inl ⟨by rfl, ?_⟩) (by assumption) ?_
            rotate_left
            · (intro wz hSw; (try dsimp only at hSw); go_simp; try with_reducible rfl)
            simp only [Act.put, List.setIfInBounds_toArray, List.set_cons_zero, List.set_cons_succ]
            refine wpAnyH_take (i := 9) (oi := { dst := some 31, op := Op.move (Operand.tmp 0), type := 83, pos := "image.go:76", after := #[], guard := none }) (v := ?_) rfl (by kernel_rfl) (by kernel_rfl) (by kernel_rfl) (fun _ _ _ h => h) (Or.inl ⟨by rfl, ?_⟩) (by assumption) ?_
            rotate_left
            · (intro wz hSw; (try dsimp only at hSw); go_simp; try with_reducible rfl)
            simp only [Act.put, List.setIfInBounds_toArray, List.set_cons_zero, List.set_cons_succ]
            refine wpAnyH_take (i := 11) (oi := { dst := some 33, op := Op.move (Operand.tmp 0), type := 83, pos := "image.go:76", after := #[], guard := none }) (v := ?_) rfl (by kernel_rfl) (by kernel_rfl) (by kernel_rfl) (fun _ _ _ h => h) (Or.inl ⟨by rfl, ?_⟩) (by assumption) ?_
            rotate_left
            · (intro wz hSw; (try dsimp only at hSw); go_simp; try with_reducible rfl)
            simp only [Act.put, List.setIfInBounds_toArray, List.set_cons_zero, List.set_cons_succ]
            refine wpAnyH_ready (rs := [4]) (by kernel_rfl) (by simp) ?_
            refine AllReadyH.cons (o := { dst := some 26, op := Op.call { callee := Callee.value (Operand.func 50), args := #[Operand.tmp 25], argTypes := #[83] }, type := 3, pos := "image.go:76", after := #[{ on := 3, ground := Ground.data }], guard := none }) rfl (fun K hK => ?_) ?_
            · go_simp
              refine (num_some w0 R _ _ _ h0).mono ?_
              rintro _ w1 ⟨rfl, h1, k1⟩
              have s1 : w1.cell? ⟨FB, 3, none⟩ = some (.slice (some ⟨cb, 0, none⟩) n n) := k1.cell s0 NE.out.1
              refine hK.out _ _ ?_ (fun hHeld2 => ?_)
              · (try dsimp only); (first | with_reducible exact s3 | with_reducible exact s2 | with_reducible exact s1 | with_reducible exact s0 | go_keep)
              clear hK K
              try simp only [Act.put, List.setIfInBounds_toArray, List.set_cons_zero, List.set_cons_succ]
              refine wpAnyH_ready (rs := [6]) (by kernel_rfl) (by simp) ?_
              refine AllReadyH.cons (o := { dst := some 28, op := Op.call { callee := Callee.value (Operand.func 50), args := #[Operand.tmp 27], argTypes := #[83] }, type := 3, pos := "image.go:76", after := #[{ on := 5, ground := Ground.data }, { on := 4, ground := Ground.chain }], guard := none }) rfl (fun K hK => ?_) ?_
              · go_simp
                refine (num_some w0 R _ _ _ h1).mono ?_
                rintro _ w2 ⟨rfl, h2, k2⟩
                have s2 : w2.cell? ⟨FB, 3, none⟩ = some (.slice (some ⟨cb, 0, none⟩) n n) := k2.cell s1 NE.out.1
                refine hK.out _ _ ?_ (fun hHeld2 => ?_)
                · (try dsimp only); (first | with_reducible exact s3 | with_reducible exact s2 | with_reducible exact s1 | with_reducible exact s0 | go_keep)
                clear hK K
                try simp only [Act.put, List.setIfInBounds_toArray, List.set_cons_zero, List.set_cons_succ]
                refine wpAnyH_ready (rs := [8]) (by kernel_rfl) (by simp) ?_
                refine AllReadyH.cons (o := { dst := some 30, op := Op.call { callee := Callee.value (Operand.func 50), args := #[Operand.tmp 29], argTypes := #[83] }, type := 3, pos := "image.go:76", after := #[{ on := 7, ground := Ground.data }, { on := 6, ground := Ground.chain }], guard := none }) rfl (fun K hK => ?_) ?_
                · go_simp
                  refine (num_some w0 R _ _ _ h2).mono ?_
                  rintro _ w3 ⟨rfl, h3, k3⟩
                  have s3 : w3.cell? ⟨FB, 3, none⟩ = some (.slice (some ⟨cb, 0, none⟩) n n) := k3.cell s2 NE.out.1
                  refine hK.out _ _ ?_ (fun hHeld2 => ?_)
                  · (try dsimp only); (first | with_reducible exact s3 | with_reducible exact s2 | with_reducible exact s1 | with_reducible exact s0 | go_keep)
                  clear hK K
                  try simp only [Act.put, List.setIfInBounds_toArray, List.set_cons_zero, List.set_cons_succ]
                  refine wpAnyH_ready (rs := [10]) (by kernel_rfl) (by simp) ?_
                  refine AllReadyH.cons (o := { dst := some 32, op := Op.call { callee := Callee.value (Operand.func 50), args := #[Operand.tmp 31], argTypes := #[83] }, type := 3, pos := "image.go:76", after := #[{ on := 9, ground := Ground.data }, { on := 8, ground := Ground.chain }], guard := none }) rfl (fun K hK => ?_) ?_
                  · go_simp
                    refine (num_none w0 R _ h3).mono ?_
                    rintro _ wz ⟨rfl, hw⟩
                    subst hw
                    exact ⟨rfl, rfl, (((HKK.out.2.1.trans (Keeps.drew (· = R) _) (fun _ e _ => e)).trans k1 (fun _ e _ => e)).trans k2 (fun _ e _ => e)).trans k3 (fun _ e _ => e)⟩
                  exact AllReadyH.nil
                exact AllReadyH.nil
              exact AllReadyH.nil
            exact AllReadyH.nil
          | [q0, q1, q2, q3], h0, HKK =>
            have hnone : RF = none := by rw [HR2.out, HKK.out.2.2.2.1, read_none hkn rfl]; rfl
            subst hnone
            go_upto_region 6 with fail
            refine wp_region_held_drew (S := (fun w' => w'.cell? ⟨FB, 3, none⟩ = some (.slice (some ⟨cb, 0, none⟩) n n))) (by kernel_rfl) ?_ (fun hHeld => ?_)
            · (try dsimp only); (first | with_reducible exact s4 | with_reducible exact s3 | with_reducible exact s2 | with_reducible exact s1 | with_reducible exact s0 | go_keep)
            refine wpAnyH_take (i := 0) (oi := { dst := some 22, op := Op.fieldAddr 40 (Operand.tmp 3) 3, type := 0, pos := "image.go:76", after := #[], guard := none }) (v := ?_) rfl (by kernel_rfl) (by kernel_rfl) (by kernel_rfl) (fun _ _ _ h => h) (Or.inl ⟨by rfl, ?_⟩) (by assumption) ?_
            rotate_left
            · (intro wz hSw; (try dsimp only at hSw); go_simp; try with_reducible rfl)
            simp only [Act.put, List.setIfInBounds_toArray, List.set_cons_zero, List.set_cons_succ]
            refine wpAnyH_take (i := 1) (oi := { dst := some 23, op := Op.load 38 (Operand.tmp 22), type := 38, pos := "image.go:76", after := #[{ on := 0, ground := Ground.data }], guard := none }) (v := ?_) rfl (by kernel_rfl) (by kernel_rfl) (by kernel_rfl) (fun _ _ _ h => h) (Or.inl ⟨by rfl, ?_⟩) (by assumption) ?_
            rotate_left
            · (intro wz hSw; (try dsimp only at hSw); go_simp; try with_reducible rfl)
            simp only [Act.put, List.setIfInBounds_toArray, List.set_cons_zero, List.set_cons_succ]
            refine wpAnyH_take (i := 2) (oi := { dst := some 24, op := Op.move (Operand.tmp 4), type := 3, pos := "image.go:76", after := #[], guard := none }) (v := ?_) rfl (by kernel_rfl) (by kernel_rfl) (by kernel_rfl) (fun _ _ _ h => h) (Or.inl ⟨by rfl, ?_⟩) (by assumption) ?_
            rotate_left
            · (intro wz hSw; (try dsimp only at hSw); go_simp; try with_reducible rfl)
            simp only [Act.put, List.setIfInBounds_toArray, List.set_cons_zero, List.set_cons_succ]
            refine wpAnyH_take (i := 3) (oi := { dst := some 25, op := Op.move (Operand.tmp 0), type := 83, pos := "image.go:76", after := #[], guard := none }) (v := ?_) rfl (by kernel_rfl) (by kernel_rfl) (by kernel_rfl) (fun _ _ _ h => h) (Or.inl ⟨by rfl, ?_⟩) (by assumption) ?_
            rotate_left
            · (intro wz hSw; (try dsimp only at hSw); go_simp; try with_reducible rfl)
            simp only [Act.put, List.setIfInBounds_toArray, List.set_cons_zero, List.set_cons_succ]
            refine wpAnyH_take (i := 5) (oi := { dst := some 27, op := Op.move (Operand.tmp 0), type := 83, pos := "image.go:76", after := #[], guard := none }) (v := ?_) rfl (by kernel_rfl) (by kernel_rfl) (by kernel_rfl) (fun _ _ _ h => h) (Or.inl ⟨by rfl, ?_⟩) (by assumption) ?_
            rotate_left
            · (intro wz hSw; (try dsimp only at hSw); go_simp; try with_reducible rfl)
            simp only [Act.put, List.setIfInBounds_toArray, List.set_cons_zero, List.set_cons_succ]
            refine wpAnyH_take (i := 7) (oi := { dst := some 29, op := Op.move (Operand.tmp 0), type := 83, pos := "image.go:76", after := #[], guard := none }) (v := ?_) rfl (by kernel_rfl) (by kernel_rfl) (by kernel_rfl) (fun _ _ _ h => h) (Or.inl ⟨by rfl, ?_⟩) (by assumption) ?_
            rotate_left
            · (intro wz hSw; (try dsimp only at hSw); go_simp; try with_reducible rfl)
            simp only [Act.put, List.setIfInBounds_toArray, List.set_cons_zero, List.set_cons_succ]
            refine wpAnyH_take (i := 9) (oi := { dst := some 31, op := Op.move (Operand.tmp 0), type := 83, pos := "image.go:76", after := #[], guard := none }) (v := ?_) rfl (by kernel_rfl) (by kernel_rfl) (by kernel_rfl) (fun _ _ _ h => h) (Or.inl ⟨by rfl, ?_⟩) (by assumption) ?_
            rotate_left
            · (intro wz hSw; (try dsimp only at hSw); go_simp; try with_reducible rfl)
            simp only [Act.put, List.setIfInBounds_toArray, List.set_cons_zero, List.set_cons_succ]
            refine wpAnyH_take (i := 11) (oi := { dst := some 33, op := Op.move (Operand.tmp 0), type := 83, pos := "image.go:76", after := #[], guard := none }) (v := ?_) rfl (by kernel_rfl) (by kernel_rfl) (by kernel_rfl) (fun _ _ _ h => h) (Or.inl ⟨by rfl, ?_⟩) (by assumption) ?_
            rotate_left
            · (intro wz hSw; (try dsimp only at hSw); go_simp; try with_reducible rfl)
            simp only [Act.put, List.setIfInBounds_toArray, List.set_cons_zero, List.set_cons_succ]
            refine wpAnyH_ready (rs := [4]) (by kernel_rfl) (by simp) ?_
            refine AllReadyH.cons (o := { dst := some 26, op := Op.call { callee := Callee.value (Operand.func 50), args := #[Operand.tmp 25], argTypes := #[83] }, type := 3, pos := "image.go:76", after := #[{ on := 3, ground := Ground.data }], guard := none }) rfl (fun K hK => ?_) ?_
            · go_simp
              refine (num_some w0 R _ _ _ h0).mono ?_
              rintro _ w1 ⟨rfl, h1, k1⟩
              have s1 : w1.cell? ⟨FB, 3, none⟩ = some (.slice (some ⟨cb, 0, none⟩) n n) := k1.cell s0 NE.out.1
              refine hK.out _ _ ?_ (fun hHeld2 => ?_)
              · (try dsimp only); (first | with_reducible exact s4 | with_reducible exact s3 | with_reducible exact s2 | with_reducible exact s1 | with_reducible exact s0 | go_keep)
              clear hK K
              try simp only [Act.put, List.setIfInBounds_toArray, List.set_cons_zero, List.set_cons_succ]
              refine wpAnyH_ready (rs := [6]) (by kernel_rfl) (by simp) ?_
              refine AllReadyH.cons (o := { dst := some 28, op := Op.call { callee := Callee.value (Operand.func 50), args := #[Operand.tmp 27], argTypes := #[83] }, type := 3, pos := "image.go:76", after := #[{ on := 5, ground := Ground.data }, { on := 4, ground := Ground.chain }], guard := none }) rfl (fun K hK => ?_) ?_
              · go_simp
                refine (num_some w0 R _ _ _ h1).mono ?_
                rintro _ w2 ⟨rfl, h2, k2⟩
                have s2 : w2.cell? ⟨FB, 3, none⟩ = some (.slice (some ⟨cb, 0, none⟩) n n) := k2.cell s1 NE.out.1
                refine hK.out _ _ ?_ (fun hHeld2 => ?_)
                · (try dsimp only); (first | with_reducible exact s4 | with_reducible exact s3 | with_reducible exact s2 | with_reducible exact s1 | with_reducible exact s0 | go_keep)
                clear hK K
                try simp only [Act.put, List.setIfInBounds_toArray, List.set_cons_zero, List.set_cons_succ]
                refine wpAnyH_ready (rs := [8]) (by kernel_rfl) (by simp) ?_
                refine AllReadyH.cons (o := { dst := some 30, op := Op.call { callee := Callee.value (Operand.func 50), args := #[Operand.tmp 29], argTypes := #[83] }, type := 3, pos := "image.go:76", after := #[{ on := 7, ground := Ground.data }, { on := 6, ground := Ground.chain }], guard := none }) rfl (fun K hK => ?_) ?_
                · go_simp
                  refine (num_some w0 R _ _ _ h2).mono ?_
                  rintro _ w3 ⟨rfl, h3, k3⟩
                  have s3 : w3.cell? ⟨FB, 3, none⟩ = some (.slice (some ⟨cb, 0, none⟩) n n) := k3.cell s2 NE.out.1
                  refine hK.out _ _ ?_ (fun hHeld2 => ?_)
                  · (try dsimp only); (first | with_reducible exact s4 | with_reducible exact s3 | with_reducible exact s2 | with_reducible exact s1 | with_reducible exact s0 | go_keep)
                  clear hK K
                  try simp only [Act.put, List.setIfInBounds_toArray, List.set_cons_zero, List.set_cons_succ]
                  refine wpAnyH_ready (rs := [10]) (by kernel_rfl) (by simp) ?_
                  refine AllReadyH.cons (o := { dst := some 32, op := Op.call { callee := Callee.value (Operand.func 50), args := #[Operand.tmp 31], argTypes := #[83] }, type := 3, pos := "image.go:76", after := #[{ on := 9, ground := Ground.data }, { on := 8, ground := Ground.chain }], guard := none }) rfl (fun K hK => ?_) ?_
                  · go_simp
                    refine (num_some w0 R _ _ _ h3).mono ?_
                    rintro _ w4 ⟨rfl, h4, k4⟩
                    have s4 : w4.cell? ⟨FB, 3, none⟩ = some (.slice (some ⟨cb, 0, none⟩) n n) := k4.cell s3 NE.out.1
                    refine hK.out _ _ ?_ (fun hHeld2 => ?_)
                    · (try dsimp only); (first | with_reducible exact s4 | with_reducible exact s3 | with_reducible exact s2 | with_reducible exact s1 | with_reducible exact s0 | go_keep)
                    clear hK K
                    try simp only [Act.put, List.setIfInBounds_toArray, List.set_cons_zero, List.set_cons_succ]
                    refine wpAnyH_ready (rs := [12]) (by kernel_rfl) (by simp) ?_
                    refine AllReadyH.cons (o := { dst := some 34, op := Op.call { callee := Callee.value (Operand.func 36), args := #[Operand.tmp 33], argTypes := #[83] }, type := 2, pos := "image.go:76", after := #[{ on := 11, ground := Ground.data }, { on := 10, ground := Ground.chain }], guard := none }) rfl (fun K hK => ?_) ?_
                    · go_simp
                      refine (word_none w0 R _ h4).mono ?_
                      rintro _ wz ⟨rfl, hw⟩
                      subst hw
                      exact ⟨rfl, rfl, ((((HKK.out.2.1.trans (Keeps.drew (· = R) _) (fun _ e _ => e)).trans k1 (fun _ e _ => e)).trans k2 (fun _ e _ => e)).trans k3 (fun _ e _ => e)).trans k4 (fun _ e _ => e)⟩
                    exact AllReadyH.nil
                  exact AllReadyH.nil
                exact AllReadyH.nil
              exact AllReadyH.nil
            exact AllReadyH.nil
          | q0 :: q1 :: q2 :: q3 :: q4 :: r2, h0, HKK =>
            go_upto_region 6 with fail
            go_region_held3 (fun w' => w'.cell? ⟨FB, 3, none⟩ = some (.slice (some ⟨cb, 0, none⟩) n n)) (first | with_reducible exact sE | with_reducible exact s5 | with_reducible exact s4 | with_reducible exact s3 | with_reducible exact s2 | with_reducible exact s1 | go_keep) (first | (go_at_call 36; refine (word_some w0 R _ _ _ h4).mono ?_; rintro _ w5 ⟨rfl, h5, k5⟩; have s5 : w5.cell? ⟨FB, 3, none⟩ = some (.slice (some ⟨cb, 0, none⟩) n n) := k5.cell s4 NE.out.1; have hc5 : IsCode w5 cb cs := HKK.out.1.kept ((((((Keeps.drew (· = R) wr).trans k1 (fun _ e _ => e)).trans k2 (fun _ e _ => e)).trans k3 (fun _ e _ => e)).trans k4 (fun _ e _ => e)).trans k5 (fun _ e _ => e)) NE.out.2; obtain ⟨y0, y1, y2, y3, y4⟩ := codeC_at cs k _ (List.getElem?_eq_getElem (by have := HKK.out.2.2.1; omega)); have Y0 := (blk_cell hc5.blk (k * 5)).trans (by simpa using y0); have Y1 := (blk_cell hc5.blk (k * 5 + 1)).trans (by simpa using y1); have Y2 := (blk_cell hc5.blk (k * 5 + 2)).trans (by simpa using y2); have Y3 := (blk_cell hc5.blk (k * 5 + 3)).trans (by simpa using y3); have Y4 := (blk_cell hc5.blk (k * 5 + 4)).trans (by simpa using y4); have Z0 := blk_free hc5.blk (k * 5); have Z1 := blk_free hc5.blk (k * 5 + 1); have Z2 := blk_free hc5.blk (k * 5 + 2); have Z3 := blk_free hc5.blk (k * 5 + 3); have Z4 := blk_free hc5.blk (k * 5 + 4); have sE : (((((w5.setCell ⟨cb, k * 5, none⟩ (.int .i64 q0)).setCell ⟨cb, k * 5 + 1, none⟩ (.int .i64 q1)).setCell ⟨cb, k * 5 + 2, none⟩ (.int .i64 q2)).setCell ⟨cb, k * 5 + 3, none⟩ (.int .i64 q3)).setCell ⟨cb, k * 5 + 4, none⟩ (.int .i64 q4)).cell? ⟨FB, 3, none⟩ = some (.slice (some ⟨cb, 0, none⟩) n n) := (hc5.set k (by have := HKK.out.2.2.1; omega) ⟨q0, q1, q2, q3, q4⟩).2.cell s5 nFC) | (go_at_call 50; refine (num_some w0 R _ _ _ h3).mono ?_; rintro _ w4 ⟨rfl, h4, k4⟩; have s4 : w4.cell? ⟨FB, 3, none⟩ = some (.slice (some ⟨cb, 0, none⟩) n n) := k4.cell s3 NE.out.1) | (go_at_call 50; refine (num_some w0 R _ _ _ h2).mono ?_; rintro _ w3 ⟨rfl, h3, k3⟩; have s3 : w3.cell? ⟨FB, 3, none⟩ = some (.slice (some ⟨cb, 0, none⟩) n n) := k3.cell s2 NE.out.1) | (go_at_call 50; refine (num_some w0 R _ _ _ h1).mono ?_; rintro _ w2 ⟨rfl, h2, k2⟩; have s2 : w2.cell? ⟨FB, 3, none⟩ = some (.slice (some ⟨cb, 0, none⟩) n n) := k2.cell s1 NE.out.1) | (go_at_call 50; refine (num_some w0 R _ _ _ h0).mono ?_; rintro _ w1 ⟨rfl, h1, k1⟩; have s1 : w1.cell? ⟨FB, 3, none⟩ = some (.slice (some ⟨cb, 0, none⟩) n n) := k1.cell s0 NE.out.1))
            all_goals go_wp2_with fail
            all_goals
              have hkl : k < cs.length := by have := HKK.out.2.2.1; omega
              obtain ⟨hcE, kE⟩ := hc5.set k hkl ⟨q0, q1, q2, q3, q4⟩
              have k05 : Keeps (· = R) wr w5 := (((((Keeps.drew (· = R) wr).trans k1 (fun _ e _ => e)).trans k2 (fun _ e _ => e)).trans k3 (fun _ e _ => e)).trans k4 (fun _ e _ => e)).trans k5 (fun _ e _ => e)
              refine ⟨⟨k + 1, cs.set k ⟨q0, q1, q2, q3, q4⟩, r2, by omega, by simp, h5.kept kE (fun i e => ⟨by have h1 := h0.low; have h2 := H7.out.2.2.2.2.2.1; have h3 := hR; have h4 := h0.base.size; rw [e]; omega, by rw [e]; exact NE.out.2⟩), blk_kept (blk_kept HKK.out.2.2.2.2.1 k05 NE.out.1) kE (by simpa using nFC), blk_kept (blk_kept HKK.out.2.2.2.2.2 k05 (fun e => HB.out.2.2.2 e.symm)) kE (fun e => H7.out.2.2.2.2.2.2.2.2 e.symm), hcE, (HKK.out.2.1.trans k05 (fun _ e _ => e)).trans kE (fun i e hi => by have := H7.out.2.2.2.2.2.1; omega), by simpa using HKK.out.2.2.1, ?_⟩, by simp [intOf]; omega⟩
              rw [HKK.out.2.2.2.1, read_some hkn HKK.out.2.2.1 (i := ⟨q0, q1, q2, q3, q4⟩) (r := r2) rfl]
        · have hkn2 : k = n := by omega
          subst hkn2
          have i1 : ¬ ((k : Int) < (k : Int)) := by omega
          have hfin : RF = some (⟨x0, x1, x2, cs⟩, zk) := by
            rw [HR2.out, hread, Nat.sub_self]
            simp [readCode, List.take_of_length_le (Nat.le_of_eq hl)]
          have f0 := (cell_of_heap hF 0).trans rfl
          have f1 := (cell_of_heap hF 1).trans rfl
          have f2 := (cell_of_heap hF 2).trans rfl
          have a0 := (cell_of_heap hA 0).trans rfl
          have a1 := (cell_of_heap hA 1).trans rfl
          have a2 := (cell_of_heap hA 2).trans rfl
          have a3 := (cell_of_heap hA 3).trans rfl
          have z0 := blk_free hA 0
          have z1 := blk_free hA 1
          have z2 := blk_free hA 2
          have z3 := blk_free hA 3
          have bE := blk_set (i := 3) (blk_set (i := 2) (blk_set (i := 1) (blk_set (i := 0) hA (.int .i64 x0)) (.int .i64 x1)) (.int .i64 x2)) (.slice (some ⟨cb, 0, none⟩) k k)
          have kE : Keeps (· = A0) wr ((((wr.setCell ⟨A0, 0, none⟩ (.int .i64 x0)).setCell ⟨A0, 1, none⟩ (.int .i64 x1)).setCell ⟨A0, 2, none⟩ (.int .i64 x2)).setCell ⟨A0, 3, none⟩ (.slice (some ⟨cb, 0, none⟩) k k)) := ((((Keeps.refl (· = A0) wr).andSet (x := ⟨A0, 0, none⟩) (.inl rfl) _).andSet (x := ⟨A0, 1, none⟩) (.inl rfl) _).andSet (x := ⟨A0, 2, none⟩) (.inl rfl) _).andSet (x := ⟨A0, 3, none⟩) (.inl rfl) _
          have HE : Hid (RF = some (⟨x0, x1, x2, cs⟩, zk) ∧ _ ∧ Keeps (· = A0) wr _ ∧ IsRd w0 wr R zk ∧ IsCode wr cb cs ∧ Keeps (· = R) w wr ∧ cs.length = k ∧ w0.heap.size ≤ A0) := ⟨hfin, bE, kE, h0, hc, hkp, hl, by have h5 := HB.out.2.2.1; have h6 := h0.low; have h7 := HB.out.2.1.size; have h8 := hR; omega⟩
          clear hfin bE kE h0 hc hkp hread hF hA
          go_wp2_with fail
          refine bodyPost_ret (results_one (q := 2) (ty := 40) rfl rfl (load_fn _ A0 _ x0 x1 x2 _ HE.out.2.1)) rfl ?_
          rw [HE.out.1]
          refine ⟨cb, ?_, HE.out.2.2.2.2.1.kept HE.out.2.2.1 H7.out.2.2.2.2.2.2.2.2, HE.out.2.2.2.1.kept HE.out.2.2.1 (fun i e => by subst e; exact ⟨HE.out.2.2.2.2.2.2.2, HB.out.2.2.2.symm⟩), HE.out.2.2.2.2.2.1.trans HE.out.2.2.1 (fun i e hi => by have := HB.out.2.2.1; omega), H7.out.2.2.2.2.2.1⟩
          unfold fnV
          simp only
          rw [HE.out.2.2.2.2.2.2.1]
    · have hcn := count_none w0 R 512 w4 r H4.out.1 (fun x r' e => by
        by_cases h1 : x < 1
        · exact .inl h1
        · by_cases h2 : 512 < x
          · exact .inr h2
          · exact absurd ⟨x, r', e, by omega, by omega⟩ hcnt) (by omega)
      have hnone : RF = none := by
        rw [HRF.out]
        cases r with
        | nil => rfl
        | cons m r1 =>
          simp only [readFn]
          rw [if_pos]
          by_cases h1 : m < 1
          · exact .inl h1
          · by_cases h2 : 512 < m
            · exact .inr h2
            · exact absurd ⟨m, r1, rfl, by omega, by omega⟩ hcnt
      subst hnone
      clear hcnt HRF
      go_wp2_with (go_at_call 37; refine hcn.mono ?_; rintro _ w5 ⟨rfl, hk5⟩)
      exact ⟨rfl, rfl, H4.out.2.2.2.1.trans hk5 (fun _ e _ => e)⟩
end Go.Proofs.YtcjmceedkfjbeaaDoor
