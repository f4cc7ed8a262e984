import Derived.Test.YtklepknkdkponaaDoorPgCheck2
import Derived.Test.YtklepknkdkponaaDoorPgValid
/-! A function alone: sound, Flow. -/
namespace Go.Proofs.YtklepknkdkponaaDoor
set_option linter.unusedVariables false
set_option maxRecDepth 20000
open Go.RowKit Go.HeapKit

theorem allows_five (number : Int) (f : Fn) (ca : Option Addr) (cc : Nat) (fa : Option Addr) (fn fc : Nat) (x : Int) (i : Ins) (w : World) (fs : List Fn) :
    Calls Tryd.prog 77 #[codeV number f ca cc fa fn fc true, .int .i64 5, .int .i64 x, insV i] w fun e w' => e = .returned (.bool (allowsV true fs f 5 x i)) ∧ Keeps None w w' := by
  have hv : allowsV true fs f 5 x i = true := by simp [allowsV]
  rw [hv]
  unfold codeV insV
  go_enter Tryd.func77, Tryd.ntmps77
  go_upto_region 11 with fail
  go_quiet (fail)
  go_wp2_with fail
  go_ret
  exact ⟨rfl, (keeps2 w _ _).trans (Keeps.drewN None _ _) (fun _ f _ => f)⟩
theorem allows_anyT (number : Int) (f : Fn) (ca : Option Addr) (cc : Nat) (fa : Option Addr) (fn fc : Nat) (what x : Int) (i : Ins) (w : World) (fs : List Fn) :
    Calls Tryd.prog 77 #[codeV number f ca cc fa fn fc true, .int .i64 what, .int .i64 x, insV i] w fun e w' => e = .returned (.bool (allowsV true fs f what x i)) ∧ Keeps None w w' := by
  by_cases h : what = 5
  · subst h
    exact allows_five number f ca cc fa fn fc x i w fs
  · exact allows_plain true number f ca cc fa fn fc what x i w fs (fun h => by cases h) (by simpa using h)
set_option maxHeartbeats 1000000 in
theorem fits_someT (number : Int) (f : Fn) (ca : Option Addr) (cc : Nat) (fa : Option Addr) (fn fc : Nat) (k : Nat) (ia ib ic iK : Int) (w : World) (hT : Tabs w) (hk10 : k < 10) (o2 o3 oa ob oc : Bool)
    (h2 : decide (iK < 0) = o2) (h3 : decide (16 ≤ iK) = o3)
    (ha : ∀ wx, Keeps None w wx → Calls Tryd.prog 77 #[codeV number f ca cc fa fn fc true, .int .i64 (fA k), .int .i64 ia, insV ⟨k, ia, ib, ic, iK⟩] wx fun e w' => e = .returned (.bool oa) ∧ Keeps None wx w')
    (hb : oa = true → ∀ wx, Keeps None w wx → Calls Tryd.prog 77 #[codeV number f ca cc fa fn fc true, .int .i64 (fB k), .int .i64 ib, insV ⟨k, ia, ib, ic, iK⟩] wx fun e w' => e = .returned (.bool ob) ∧ Keeps None wx w')
    (hc : oa = true → ob = true → ∀ wx, Keeps None w wx → Calls Tryd.prog 77 #[codeV number f ca cc fa fn fc true, .int .i64 (fC k), .int .i64 ic, insV ⟨k, ia, ib, ic, iK⟩] wx fun e w' => e = .returned (.bool oc) ∧ Keeps None wx w') :
    Calls Tryd.prog 69 #[codeV number f ca cc fa fn fc true, insV ⟨k, ia, ib, ic, iK⟩] w fun e w' => e = .returned (.bool (!(decide (fK k = 6) && (o2 || o3)) && (oa && ob && oc))) ∧ Keeps None w w' := by
  have hbl : belowV k 10 = true := by rw [belowV_iff]; omega
  unfold insV codeV at *
  obtain ⟨b1, b2⟩ := two_boxes w #[.int .i64 number, .int .i64 f.params, .int .i64 f.regs, .int .i64 f.slots, .slice ca f.code.length cc, .slice fa fn fc, .bool true] #[.int .i64 k, .int .i64 ia, .int .i64 ib, .int .i64 ic, .int .i64 iK] 70 47
  have hk := keeps2 w (Obj.cells #[.int .i64 number, .int .i64 f.params, .int .i64 f.regs, .int .i64 f.slots, .slice ca f.code.length cc, .slice fa fn fc, .bool true] 70) (Obj.cells #[.int .i64 k, .int .i64 ia, .int .i64 ib, .int .i64 ic, .int .i64 iK] 47)
  generalize hw0 : ((w.alloc (Obj.cells #[.int .i64 number, .int .i64 f.params, .int .i64 f.regs, .int .i64 f.slots, .slice ca f.code.length cc, .slice fa fn fc, .bool true] 70)).alloc (Obj.cells #[.int .i64 k, .int .i64 ia, .int .i64 ib, .int .i64 ic, .int .i64 iK] 47)) = w0 at hk b1 b2
  obtain ⟨t0, t1, t2, t3, t4⟩ := (hT.more hk).at k ‹_›
  have e0 := (cell_of_heap b2 0).trans rfl
  have i0 : (0 : Int) ≤ (k : Int) := by omega
  have i1 : (k : Int) < 10 := by omega
  have HB : Hid (w0.heap[w.heap.size]? = _ ∧ w0.heap[w.heap.size + 1]? = _ ∧ Keeps None w w0) := ⟨b1, b2, hk⟩
  have HC : Hid _ := And.intro ha (And.intro hb hc)
  clear b1 b2 hk ha hb hc
  go_enter Tryd.func69, Tryd.ntmps69
  go_upto_region 3 with (go_at_call 54; refine (below_any _ _ _).mono ?_; rintro e w' ⟨rfl, hw⟩; have hw2 := hw.symm; subst hw2; clear hw)
  go_cut [5] (fun s5 wx => s5 = .pointer (some ⟨w0.heap.size, 0, none⟩) ∧ wx.heap[w0.heap.size]? = some (.cells #[.int .i64 (fA k), .int .i64 (fB k), .int .i64 (fC k), .int .i64 (fK k), .bool (fN k)] 96 (0, 0)) ∧ Keeps None w0 wx)
  case first =>
    go_wp2_with fail
    go_meet
    exact ⟨rfl, heap_alloc_new _ _, Keeps.alloc _ _ _⟩
  case rest =>
    obtain ⟨rfl, hF, hkx⟩ := hcut
    have hkW : Keeps None w wc := HB.out.2.2.trans hkx (fun _ f _ => f)
    have b1 := (hkx.block w.heap.size (Array.getElem?_eq_some_iff.1 HB.out.1).1 (fun f => f)).trans HB.out.1
    have b2 := (hkx.block (w.heap.size + 1) (Array.getElem?_eq_some_iff.1 HB.out.2.1).1 (fun f => f)).trans HB.out.2.1
    have d0 := (cell_of_heap b1 0).trans rfl
    have d1 := (cell_of_heap b1 1).trans rfl
    have d2 := (cell_of_heap b1 2).trans rfl
    have d3 := (cell_of_heap b1 3).trans rfl
    have d4 := (cell_of_heap b1 4).trans rfl
    have d5 := (cell_of_heap b1 5).trans rfl
    have d6 := (cell_of_heap b1 6).trans rfl
    have e0x := (cell_of_heap b2 0).trans rfl
    have e1x := (cell_of_heap b2 1).trans rfl
    have e2x := (cell_of_heap b2 2).trans rfl
    have e3x := (cell_of_heap b2 3).trans rfl
    have e4x := (cell_of_heap b2 4).trans rfl
    have g0 := (cell_of_heap hF 0).trans rfl
    have g1 := (cell_of_heap hF 1).trans rfl
    have g2 := (cell_of_heap hF 2).trans rfl
    have g3 := (cell_of_heap hF 3).trans rfl
    have g4 := (cell_of_heap hF 4).trans rfl
    clear b1 b2 hF t0 t1 t2 t3 t4 e0 hw0
    have e0 := e0x; clear e0x
    have e1 := e1x; clear e1x
    have e2 := e2x; clear e2x
    have e3 := e3x; clear e3x
    have e4 := e4x; clear e4x
    by_cases q1 : fK k = 6
    · have q1' : (fK k == 6) = true := by simpa using q1
      by_cases q2 : iK < 0
      · have q2' : o2 = true := by rw [← h2]; simpa using q2
        go_wp2_with fail
        go_ret
        refine ⟨?_, hkW⟩
        rw [q2', show decide (fK k = 6) = true by simpa using q1]; simp
      · by_cases q3 : 16 ≤ iK
        · have q3' : o3 = true := by rw [← h3]; simpa using q3
          have q2c : 0 ≤ iK := by omega
          go_wp2_with fail
          go_ret
          refine ⟨?_, hkW⟩
          rfl
        · have q2' : o2 = false := by rw [← h2]; simpa using q2
          have q3' : o3 = false := by rw [← h3]; simpa using q3
          have q2c : 0 ≤ iK := by omega
          have q3c : iK < 16 := by omega
          have hv : Hid ((!(decide (fK k = 6) && (o2 || o3)) && (oa && ob && oc)) = (oa && ob && oc)) := by unfold Hid; simp [q2', q3']
          cases oa
          · go_wp2_with (go_at_call_of 77 (Value.int .i64 (fA k)); refine (HC.out.1 _ hkW).mono ?_; rintro e w2 ⟨rfl, hk2⟩; have hkA := hkW.trans hk2 (fun _ f _ => f); have d0A := hk2.cell d0 (fun f => f); have d1A := hk2.cell d1 (fun f => f); have d2A := hk2.cell d2 (fun f => f); have d3A := hk2.cell d3 (fun f => f); have d4A := hk2.cell d4 (fun f => f); have d5A := hk2.cell d5 (fun f => f); have d6A := hk2.cell d6 (fun f => f); have e0A := hk2.cell e0 (fun f => f); have e1A := hk2.cell e1 (fun f => f); have e2A := hk2.cell e2 (fun f => f); have e3A := hk2.cell e3 (fun f => f); have e4A := hk2.cell e4 (fun f => f); have g0A := hk2.cell g0 (fun f => f); have g1A := hk2.cell g1 (fun f => f); have g2A := hk2.cell g2 (fun f => f); have g3A := hk2.cell g3 (fun f => f); have g4A := hk2.cell g4 (fun f => f))
            go_ret
            refine ⟨?_, hkA⟩
            rw [hv.out]; rfl
          · have HCb : Hid _ := HC.out.2.1 rfl
            cases ob
            · go_wp2_with (first | (go_at_call_of 77 (Value.int .i64 (fA k)); refine (HC.out.1 _ hkW).mono ?_; rintro e w2 ⟨rfl, hk2⟩; have hkA := hkW.trans hk2 (fun _ f _ => f); have d0A := hk2.cell d0 (fun f => f); have d1A := hk2.cell d1 (fun f => f); have d2A := hk2.cell d2 (fun f => f); have d3A := hk2.cell d3 (fun f => f); have d4A := hk2.cell d4 (fun f => f); have d5A := hk2.cell d5 (fun f => f); have d6A := hk2.cell d6 (fun f => f); have e0A := hk2.cell e0 (fun f => f); have e1A := hk2.cell e1 (fun f => f); have e2A := hk2.cell e2 (fun f => f); have e3A := hk2.cell e3 (fun f => f); have e4A := hk2.cell e4 (fun f => f); have g0A := hk2.cell g0 (fun f => f); have g1A := hk2.cell g1 (fun f => f); have g2A := hk2.cell g2 (fun f => f); have g3A := hk2.cell g3 (fun f => f); have g4A := hk2.cell g4 (fun f => f)) | (go_at_call_of 77 (Value.int .i64 (fB k)); refine (HCb.out _ hkA).mono ?_; rintro e w3 ⟨rfl, hk2⟩; have hkB := hkA.trans hk2 (fun _ f _ => f); have d0B := hk2.cell d0A (fun f => f); have d1B := hk2.cell d1A (fun f => f); have d2B := hk2.cell d2A (fun f => f); have d3B := hk2.cell d3A (fun f => f); have d4B := hk2.cell d4A (fun f => f); have d5B := hk2.cell d5A (fun f => f); have d6B := hk2.cell d6A (fun f => f); have e0B := hk2.cell e0A (fun f => f); have e1B := hk2.cell e1A (fun f => f); have e2B := hk2.cell e2A (fun f => f); have e3B := hk2.cell e3A (fun f => f); have e4B := hk2.cell e4A (fun f => f); have g0B := hk2.cell g0A (fun f => f); have g1B := hk2.cell g1A (fun f => f); have g2B := hk2.cell g2A (fun f => f); have g3B := hk2.cell g3A (fun f => f); have g4B := hk2.cell g4A (fun f => f)))
              go_ret
              refine ⟨?_, hkB⟩
              rw [hv.out]; rfl
            · have HCc : Hid _ := HC.out.2.2 rfl rfl
              go_wp2_with (first | (go_at_call_of 77 (Value.int .i64 (fA k)); refine (HC.out.1 _ hkW).mono ?_; rintro e w2 ⟨rfl, hk2⟩; have hkA := hkW.trans hk2 (fun _ f _ => f); have d0A := hk2.cell d0 (fun f => f); have d1A := hk2.cell d1 (fun f => f); have d2A := hk2.cell d2 (fun f => f); have d3A := hk2.cell d3 (fun f => f); have d4A := hk2.cell d4 (fun f => f); have d5A := hk2.cell d5 (fun f => f); have d6A := hk2.cell d6 (fun f => f); have e0A := hk2.cell e0 (fun f => f); have e1A := hk2.cell e1 (fun f => f); have e2A := hk2.cell e2 (fun f => f); have e3A := hk2.cell e3 (fun f => f); have e4A := hk2.cell e4 (fun f => f); have g0A := hk2.cell g0 (fun f => f); have g1A := hk2.cell g1 (fun f => f); have g2A := hk2.cell g2 (fun f => f); have g3A := hk2.cell g3 (fun f => f); have g4A := hk2.cell g4 (fun f => f)) | (go_at_call_of 77 (Value.int .i64 (fB k)); refine (HCb.out _ hkA).mono ?_; rintro e w3 ⟨rfl, hk2⟩; have hkB := hkA.trans hk2 (fun _ f _ => f); have d0B := hk2.cell d0A (fun f => f); have d1B := hk2.cell d1A (fun f => f); have d2B := hk2.cell d2A (fun f => f); have d3B := hk2.cell d3A (fun f => f); have d4B := hk2.cell d4A (fun f => f); have d5B := hk2.cell d5A (fun f => f); have d6B := hk2.cell d6A (fun f => f); have e0B := hk2.cell e0A (fun f => f); have e1B := hk2.cell e1A (fun f => f); have e2B := hk2.cell e2A (fun f => f); have e3B := hk2.cell e3A (fun f => f); have e4B := hk2.cell e4A (fun f => f); have g0B := hk2.cell g0A (fun f => f); have g1B := hk2.cell g1A (fun f => f); have g2B := hk2.cell g2A (fun f => f); have g3B := hk2.cell g3A (fun f => f); have g4B := hk2.cell g4A (fun f => f)) | (go_at_call_of 77 (Value.int .i64 (fC k)); refine (HCc.out _ hkB).mono ?_; rintro e w4 ⟨rfl, hk2⟩; have hkC := hkB.trans hk2 (fun _ f _ => f)))
              go_ret
              refine ⟨?_, hkC⟩
              rw [hv.out]; rfl
    · have q1' : (fK k == 6) = false := by simpa using q1
      have hv : Hid ((!(decide (fK k = 6) && (o2 || o3)) && (oa && ob && oc)) = (oa && ob && oc)) := by unfold Hid; simp [q1]
      cases oa
      · go_wp2_with (go_at_call_of 77 (Value.int .i64 (fA k)); refine (HC.out.1 _ hkW).mono ?_; rintro e w2 ⟨rfl, hk2⟩; have hkA := hkW.trans hk2 (fun _ f _ => f); have d0A := hk2.cell d0 (fun f => f); have d1A := hk2.cell d1 (fun f => f); have d2A := hk2.cell d2 (fun f => f); have d3A := hk2.cell d3 (fun f => f); have d4A := hk2.cell d4 (fun f => f); have d5A := hk2.cell d5 (fun f => f); have d6A := hk2.cell d6 (fun f => f); have e0A := hk2.cell e0 (fun f => f); have e1A := hk2.cell e1 (fun f => f); have e2A := hk2.cell e2 (fun f => f); have e3A := hk2.cell e3 (fun f => f); have e4A := hk2.cell e4 (fun f => f); have g0A := hk2.cell g0 (fun f => f); have g1A := hk2.cell g1 (fun f => f); have g2A := hk2.cell g2 (fun f => f); have g3A := hk2.cell g3 (fun f => f); have g4A := hk2.cell g4 (fun f => f))
        go_ret
        refine ⟨?_, hkA⟩
        rw [hv.out]; rfl
      · have HCb : Hid _ := HC.out.2.1 rfl
        cases ob
        · go_wp2_with (first | (go_at_call_of 77 (Value.int .i64 (fA k)); refine (HC.out.1 _ hkW).mono ?_; rintro e w2 ⟨rfl, hk2⟩; have hkA := hkW.trans hk2 (fun _ f _ => f); have d0A := hk2.cell d0 (fun f => f); have d1A := hk2.cell d1 (fun f => f); have d2A := hk2.cell d2 (fun f => f); have d3A := hk2.cell d3 (fun f => f); have d4A := hk2.cell d4 (fun f => f); have d5A := hk2.cell d5 (fun f => f); have d6A := hk2.cell d6 (fun f => f); have e0A := hk2.cell e0 (fun f => f); have e1A := hk2.cell e1 (fun f => f); have e2A := hk2.cell e2 (fun f => f); have e3A := hk2.cell e3 (fun f => f); have e4A := hk2.cell e4 (fun f => f); have g0A := hk2.cell g0 (fun f => f); have g1A := hk2.cell g1 (fun f => f); have g2A := hk2.cell g2 (fun f => f); have g3A := hk2.cell g3 (fun f => f); have g4A := hk2.cell g4 (fun f => f)) | (go_at_call_of 77 (Value.int .i64 (fB k)); refine (HCb.out _ hkA).mono ?_; rintro e w3 ⟨rfl, hk2⟩; have hkB := hkA.trans hk2 (fun _ f _ => f); have d0B := hk2.cell d0A (fun f => f); have d1B := hk2.cell d1A (fun f => f); have d2B := hk2.cell d2A (fun f => f); have d3B := hk2.cell d3A (fun f => f); have d4B := hk2.cell d4A (fun f => f); have d5B := hk2.cell d5A (fun f => f); have d6B := hk2.cell d6A (fun f => f); have e0B := hk2.cell e0A (fun f => f); have e1B := hk2.cell e1A (fun f => f); have e2B := hk2.cell e2A (fun f => f); have e3B := hk2.cell e3A (fun f => f); have e4B := hk2.cell e4A (fun f => f); have g0B := hk2.cell g0A (fun f => f); have g1B := hk2.cell g1A (fun f => f); have g2B := hk2.cell g2A (fun f => f); have g3B := hk2.cell g3A (fun f => f); have g4B := hk2.cell g4A (fun f => f)))
          go_ret
          refine ⟨?_, hkB⟩
          rw [hv.out]; rfl
        · have HCc : Hid _ := HC.out.2.2 rfl rfl
          go_wp2_with (first | (go_at_call_of 77 (Value.int .i64 (fA k)); refine (HC.out.1 _ hkW).mono ?_; rintro e w2 ⟨rfl, hk2⟩; have hkA := hkW.trans hk2 (fun _ f _ => f); have d0A := hk2.cell d0 (fun f => f); have d1A := hk2.cell d1 (fun f => f); have d2A := hk2.cell d2 (fun f => f); have d3A := hk2.cell d3 (fun f => f); have d4A := hk2.cell d4 (fun f => f); have d5A := hk2.cell d5 (fun f => f); have d6A := hk2.cell d6 (fun f => f); have e0A := hk2.cell e0 (fun f => f); have e1A := hk2.cell e1 (fun f => f); have e2A := hk2.cell e2 (fun f => f); have e3A := hk2.cell e3 (fun f => f); have e4A := hk2.cell e4 (fun f => f); have g0A := hk2.cell g0 (fun f => f); have g1A := hk2.cell g1 (fun f => f); have g2A := hk2.cell g2 (fun f => f); have g3A := hk2.cell g3 (fun f => f); have g4A := hk2.cell g4 (fun f => f)) | (go_at_call_of 77 (Value.int .i64 (fB k)); refine (HCb.out _ hkA).mono ?_; rintro e w3 ⟨rfl, hk2⟩; have hkB := hkA.trans hk2 (fun _ f _ => f); have d0B := hk2.cell d0A (fun f => f); have d1B := hk2.cell d1A (fun f => f); have d2B := hk2.cell d2A (fun f => f); have d3B := hk2.cell d3A (fun f => f); have d4B := hk2.cell d4A (fun f => f); have d5B := hk2.cell d5A (fun f => f); have d6B := hk2.cell d6A (fun f => f); have e0B := hk2.cell e0A (fun f => f); have e1B := hk2.cell e1A (fun f => f); have e2B := hk2.cell e2A (fun f => f); have e3B := hk2.cell e3A (fun f => f); have e4B := hk2.cell e4A (fun f => f); have g0B := hk2.cell g0A (fun f => f); have g1B := hk2.cell g1A (fun f => f); have g2B := hk2.cell g2A (fun f => f); have g3B := hk2.cell g3A (fun f => f); have g4B := hk2.cell g4A (fun f => f)) | (go_at_call_of 77 (Value.int .i64 (fC k)); refine (HCc.out _ hkB).mono ?_; rintro e w4 ⟨rfl, hk2⟩; have hkC := hkB.trans hk2 (fun _ f _ => f)))
          go_ret
          refine ⟨?_, hkC⟩
          rw [hv.out]; rfl

theorem fits_anyT (number : Int) (f : Fn) (ca : Option Addr) (cc : Nat) (fa : Option Addr) (fn fc : Nat) (i : Ins) (w : World) (fs : List Fn) (hT : Tabs w) (hi : i.Ok) (hr : 0 ≤ f.regs ∧ f.regs ≤ 16) :
    Calls Tryd.prog 69 #[codeV number f ca cc fa fn fc true, insV i] w fun e w' => e = .returned (.bool (fitsV true fs f i)) ∧ Keeps None w w' := by
  cases hb : belowV i.kind 10 with
  | false =>
    have : fitsV true fs f i = false := by simp [fitsV, hb]
    rw [this]
    exact fits_no number f ca cc fa fn fc true i w hb
  | true =>
    obtain ⟨ik, ia, ib, ic, iK⟩ := i
    have hb' := (belowV_iff _ _).1 hb
    simp only at hb'
    obtain ⟨k, rfl⟩ := Int.eq_ofNat_of_zero_le hb'.1
    have hk : k < 10 := by omega
    have hv : fitsV true fs f ⟨k, ia, ib, ic, iK⟩ = (!(decide (fK k = 6) && (decide (iK < 0) || decide (16 ≤ iK))) && (allowsV true fs f (fA k) ia ⟨k, ia, ib, ic, iK⟩ && allowsV true fs f (fB k) ib ⟨k, ia, ib, ic, iK⟩ && allowsV true fs f (fC k) ic ⟨k, ia, ib, ic, iK⟩)) := by
      simp only [fitsV]
      rw [hb]
      simp
    rw [hv]
    refine fits_someT number f ca cc fa fn fc k ia ib ic iK w hT hk _ _ _ _ _ rfl rfl ?_ ?_ ?_
    · exact fun wx hx => allows_anyT number f ca cc fa fn fc _ _ _ wx fs
    · exact fun _ wx hx => allows_anyT number f ca cc fa fn fc _ _ _ wx fs
    · exact fun _ _ wx hx => allows_anyT number f ca cc fa fn fc _ _ _ wx fs
set_option maxHeartbeats 1000000 in
theorem code_anyT (number : Int) (f : Fn) (ca : Option Addr) (cc : Nat) (fa : Option Addr) (fn fc : Nat) (w : World) (fs : List Fn) (hT : Tabs w) (hC : SeenI w ca f.code.length f.code) (hok : ∀ i ∈ f.code, i.Ok) (hsh : shapeV f = true) :
    Calls Tryd.prog 44 #[codeV number f ca cc fa fn fc true] w fun e w' => e = codeE number true fs f ∧ Keeps None w w' := by
  have hsh2 : (0 ≤ f.regs ∧ f.regs ≤ 16) ∧ 1 ≤ f.code.length ∧ f.code.length ≤ 512 := by
    simp only [shapeV, Bool.and_eq_true, decide_eq_true_eq] at hsh
    omega
  obtain ⟨n, hn⟩ : ∃ n, n = f.code.length := ⟨_, rfl⟩
  have hfit := fun (i : Ins) (hi : i ∈ f.code) (wx : World) (hk : Keeps None w wx) => fits_anyT number f ca cc fa fn fc i wx fs (hT.more hk) (hok i hi) hsh2.1
  unfold codeV at hfit
  rw [← hn] at hfit
  have HF : Hid _ := hfit
  have HC : Hid (SeenI w ca n f.code) := hn ▸ hC
  have HH : Hid (1 ≤ n ∧ n ≤ 512 ∧ n = f.code.length ∧ Tabs w) := ⟨by omega, by omega, hn, hT⟩
  have h1' : (1 : Int) ≤ n := by omega
  have h2' : (n : Int) ≤ 512 := by omega
  unfold codeV
  rw [← hn]
  obtain ⟨B, hB⟩ : ∃ B, B = w.heap.size := ⟨_, rfl⟩
  have HB : Hid (B = w.heap.size) := hB
  clear hfit hC hok hsh hsh2 hT hn
  go_enter Tryd.func44, Tryd.ntmps44
  go_wp2_with fail
  rw [← hB]
  clear hB
  go_loopw [9] (fun i wr => ∃ k : Nat, k ≤ n ∧ i = .int .i64 k ∧ (∀ j x, j < k → f.code[j]? = some x → fitsV true fs f x = true) ∧ wr.heap[B]? = some (.cells #[.int .i64 number, .int .i64 f.params, .int .i64 f.regs, .int .i64 f.slots, .slice ca n cc, .slice fa fn fc, .bool true] 70 (0, 0)) ∧ Keeps None w wr) (fun i _ => n - (intOf i).toNat)
  case atStart => exact ⟨0, Nat.zero_le _, rfl, fun q _ h => by omega, by rw [HB.out]; exact heap_alloc_new w _, Keeps.alloc None w _⟩
  case round =>
    obtain ⟨k, hk, rfl, hall, hbx, hkp⟩ := hrel
    have d0 := (cell_of_heap hbx 0).trans rfl
    have d1 := (cell_of_heap hbx 1).trans rfl
    have d2 := (cell_of_heap hbx 2).trans rfl
    have d3 := (cell_of_heap hbx 3).trans rfl
    have d4 := (cell_of_heap hbx 4).trans rfl
    have d5 := (cell_of_heap hbx 5).trans rfl
    have d6 := (cell_of_heap hbx 6).trans rfl
    by_cases hkn : k < n
    · obtain ⟨b, off, x, rfl, hx, hat⟩ := (HC.out.more hkp).at hkn
      obtain ⟨y0, y1, y2, y3, y4⟩ := hat
      have i1 : (k : Int) < (n : Int) := by omega
      have HK : Hid (Keeps None w wr ∧ f.code[k]? = some x ∧ (∀ j x, j < k → f.code[j]? = some x → fitsV true fs f x = true) ∧ wr.heap[B]? = some (.cells #[.int .i64 number, .int .i64 f.params, .int .i64 f.regs, .int .i64 f.slots, .slice (some ⟨b, off, none⟩) n cc, .slice fa fn fc, .bool true] 70 (0, 0))) := ⟨hkp, hx, hall, hbx⟩
      have hc := HF.out x (List.mem_of_getElem? hx) _ (hkp.andAlloc (.cells #[.int .i64 x.kind, .int .i64 x.a, .int .i64 x.b, .int .i64 x.c, .int .i64 x.k] 47))
      unfold insV at hc
      have HD : Hid (wr.cell? ⟨B, 0, none⟩ = some (.int .i64 number)) := d0
      have hal := Keeps.alloc None wr (.cells #[.int .i64 x.kind, .int .i64 x.a, .int .i64 x.b, .int .i64 x.c, .int .i64 x.k] 47)
      have a0 := hal.cell d0 (fun f => f)
      have a1 := hal.cell d1 (fun f => f)
      have a2 := hal.cell d2 (fun f => f)
      have a3 := hal.cell d3 (fun f => f)
      have a4 := hal.cell d4 (fun f => f)
      have a5 := hal.cell d5 (fun f => f)
      have a6 := hal.cell d6 (fun f => f)
      clear hal
      clear hx hkp hall hbx
      cases hv : fitsV true fs f x with
      | false =>
        rw [hv] at hc
        have HV : Hid (fitsV true fs f x = false) := hv
        clear hv
        go_wp2_with (first | (go_at_call 69; refine hc.mono ?_; rintro e w2 ⟨rfl, hk2⟩; have hk3 := (Keeps.alloc None wr _).trans hk2 (fun _ f _ => f); have d0' := hk3.cell HD.out (fun f => f)) | (go_at_call 67; refine (giveUp_any _ _ _ _).mono ?_; rintro e w' ⟨rfl, hw⟩; have hw2 := hw.symm; subst hw2))
        refine ⟨rfl, ?_, HK.out.1.trans hk3 (fun _ f _ => f)⟩
        unfold codeE codeFault
        rw [firstAt_some _ f.code 0 k x () HK.out.2.1 (fun j y hj hy => by rw [HK.out.2.2.1 j y hj hy]; rfl) (by rw [HV.out]; rfl)]
        simp
      | true =>
        rw [hv] at hc
        have HV : Hid (fitsV true fs f x = true) := hv
        clear hv
        go_wp2_with (first | (go_at_call 69; refine hc.mono ?_; rintro e w2 ⟨rfl, hk2⟩; have hk3 := (Keeps.alloc None wr _).trans hk2 (fun _ f _ => f)))
        refine ⟨⟨k + 1, by omega, by simp, fun j g hj hg => ?_, (hk3.block B (Array.getElem?_eq_some_iff.1 HK.out.2.2.2).1 (fun f => f)).trans HK.out.2.2.2, HK.out.1.trans hk3 (fun _ f _ => f)⟩, by simp [intOf]; omega⟩
        by_cases hjk : j = k
        · subst hjk
          rw [HK.out.2.1] at hg
          obtain rfl := Option.some.inj hg
          exact HV.out
        · exact HK.out.2.2.1 j g (by omega) hg
    · have i1 : ¬ ((k : Int) < (n : Int)) := by omega
      have hkn2 : k = n := by omega
      subst hkn2
      obtain ⟨b, off, x, rfl, hx, hat⟩ := (HC.out.more hkp).at (k := k - 1) (by omega)
      have y0 := hat.kind
      have hfx := hall (k - 1) x (by omega) hx
      obtain ⟨xk, xa, xb, xc, xK⟩ := x
      have hb10 : belowV xk 10 = true := by
        simp only [fitsV, Bool.and_eq_true] at hfx
        exact hfx.1.1
      obtain ⟨q, rfl⟩ := Int.eq_ofNat_of_zero_le ((belowV_iff _ _).1 hb10).1
      have hq := ((belowV_iff _ _).1 hb10).2
      obtain ⟨t0, t1, t2, t3, t4⟩ := (HH.out.2.2.2.more hkp).at q (by omega)
      have i2 : (0 : Int) ≤ (q : Int) := by omega
      have i3 : (0 : Int) ≤ ((k - 1 : Nat) : Int) := by omega
      have i4 : ((k - 1 : Nat) : Int) < (k : Int) := by omega
      have i5 : wrap64 ((k : Int) - 1) = ((k - 1 : Nat) : Int) := by unfold wrap64; omega
      have HK : Hid (Keeps None w wr ∧ f.code[k - 1]? = some ⟨q, xa, xb, xc, xK⟩ ∧ (∀ j x, j < k → f.code[j]? = some x → fitsV true fs f x = true)) := ⟨hkp, hx, hall⟩
      have HR : Hid (runsOut f = fN q) := by
        unfold Hid runsOut
        rw [← HH.out.2.2.1, hx]
        rfl
      clear hx hkp hall hfx hb10 hat
      cases hv : fN q with
      | false =>
        rw [hv] at t4 HR
        clear hv
        go_wp2_with fail
        go_end0
        refine ⟨?_, HK.out.1⟩
        unfold codeE codeFault
        rw [firstAt_none _ f.code 0 (fun j y hy => by rw [HK.out.2.2 j y (by have := (List.getElem?_eq_some_iff.1 hy).1; have := HH.out.2.2.1; omega) hy]; rfl), HR.out]
        rfl
      | true =>
        rw [hv] at t4 HR
        clear hv
        go_wp2_with (go_at_call 67; refine (giveUp_any _ _ _ _).mono ?_; rintro e w' ⟨rfl, hw⟩; have hw2 := hw.symm; subst hw2)
        refine ⟨rfl, ?_, HK.out.1⟩
        unfold codeE codeFault
        rw [firstAt_none _ f.code 0 (fun j y hy => by rw [HK.out.2.2 j y (by have := (List.getElem?_eq_some_iff.1 hy).1; have := HH.out.2.2.1; omega) hy]; rfl), HR.out, ← HH.out.2.2.1]
        rfl

theorem fits_alone {l fs : List Fn} {f : Fn} {i : Ins} (h : fitsV false l f i = true) : fitsV true fs f i = true := by
  have hal : ∀ what x, allowsV false l f what x i = true → allowsV true fs f what x i = true := by
    intro what x h
    unfold allowsV at h ⊢
    split
    · rename_i e; rw [if_pos e] at h; exact h
    · rename_i e1; rw [if_neg e1] at h
      split
      · rename_i e; rw [if_pos e] at h; exact h
      · rename_i e2; rw [if_neg e2] at h
        split
        · rename_i e; rw [if_pos e] at h; exact h
        · simp
  simp only [fitsV, Bool.and_eq_true] at h ⊢
  exact ⟨h.1, ⟨hal _ _ h.2.1.1, hal _ _ h.2.1.2⟩, hal _ _ h.2.2⟩
theorem fault_alone {l fs : List Fn} {f : Fn} (h : codeFault false l f = none) : codeFault true fs f = none := by
  obtain ⟨h1, h2⟩ := code_parts h
  unfold codeFault
  rw [firstAt_none _ f.code 0 (fun j y hy => by rw [fits_alone (fs := fs) (h1 j y hy)]; rfl), h2]
  rfl
theorem scatch (p : Nat) (c : Array Value) (w : World) (hc : w.heap[p]? = some (.cells c 4 (0, 0))) (hs : c.size = 1) :
    CallsD Tryd.prog 71 #[.pointer (some ⟨p, 0, none⟩)] .returning w fun e' u' w' => e' = .returned (.tuple #[]) ∧ u' = .returning ∧ w'.heap[p]? = some (.cells #[.bool true] 4 (0, 0)) ∧ Keeps (· = p) w w' := by
  refine callsD_of_wpS Tryd.func71 rfl fun c₀ cs hu => ?_
  apply wpS_region
  simp [wpOpsS, go_sem, recoverD, hu, Tryd.ntmps71]
  refine (caught_nil w).mono ?_
  rintro _ w2 ⟨rfl, hk2⟩
  have hc2 := blk_kept hc hk2 (fun f => f)
  obtain ⟨l⟩ := c
  match l, hs with
  | [v0], _ =>
    have c0 := (cell_of_heap hc2 0).trans rfl
    have z0 := blk_free hc2 0
    have b3 := blk_set (i := 0) hc2 (.bool true)
    have k3 : Keeps (· = p) w (w2.setCell ⟨p, 0, none⟩ (.bool true)) := (hk2.mono (fun _ f _ => f.elim)).andSet (S := (· = p)) (x := ⟨p, 0, none⟩) (.inl rfl) _
    have hfl : ∀ wx, (Instr.field 27 (.agg #[.int .i64 0, .int .i64 0, .int .i64 0]) 0).run Tryd.prog wx = .ok (.int .i64 0) wx := fun _ => rfl
    simp [faultV, go_sem, hfl, c0, z0, bodyPostS, results, Tryd.results71]
    exact ⟨.returning, by cases c₀; simp_all, rfl, b3, k3⟩
theorem load_bool (w : World) (g : Nat) (b : Bool) (hb : w.heap[g]? = some (.cells #[.bool b] 4 (0, 0))) : (loadVar 4 ⟨g, 0, none⟩).run Tryd.prog w = .ok (.bool b) w := by
  have hc : w.cell? ⟨g, 0, none⟩ = some (.bool b) := (cell_of_heap hb 0).trans rfl
  have hu := Tryd.underlying4
  have ha := Tryd.isAgg4
  have hz := Tryd.sizeOf4
  go_simp
theorem sout_ret {Q : Ending → World → Prop} {tmps : Array Value} {w3 : World} {p : Nat} {c : Array Value} (ha : tmps.getD 2 undef = .pointer (some ⟨p, 0, none⟩)) (hb : w3.heap[p]? = some (.cells c 4 (0, 0))) (hs : c.size = 1)
    (hQ : ∀ w', Keeps (· = p) w3 w' → Q (.returned (.bool true)) w') :
    bodyPostD Tryd.prog Tryd.f50 Q .ret { tmps := tmps, defers := [{ target := .fn (.func 71) #[.pointer (some ⟨p, 0, none⟩)], args := #[] }] } w3 := by
  refine leaves_cons (f := 71) (args := #[.pointer (some ⟨p, 0, none⟩)]) (by simp) (by simp [go_sem]) ?_
  refine (scatch p c w3 hb hs).mono ?_
  rintro _ u' w4 ⟨rfl, rfl, hb4, hk4⟩
  have hr := results_one (P := Tryd.prog) (fn := Tryd.f50) (q := 2) (ty := 4) rfl ha (load_bool w4 p true hb4)
  simp [Leaves, settle, hr]
  exact hQ w4 hk4
theorem sound_true (f : Fn) (ca : Option Addr) (cc : Nat) (w : World) (hT : Tabs w) (hC : SeenI w ca f.code.length f.code) (hok : ∀ i ∈ f.code, i.Ok) (hsh : shapeV f = true) (hcf : codeFault true [] f = none) :
    Calls Tryd.prog 50 #[fnV f ca cc] w fun e w' => e = .returned (.bool true) ∧ Keeps None w w' := by
  have hmf : ∀ (fn : Go.Fn) (first cap : Array Value) (w : World), (Instr.makeFunc fn first cap).run Tryd.prog w = .ok (.func fn first cap) w := fun _ _ _ _ => rfl
  obtain ⟨b1, b2⟩ := two_boxes w #[.int .i64 f.params, .int .i64 f.regs, .int .i64 f.slots, .slice ca f.code.length cc] #[.bool false] 36 4
  have hk2 := keeps2 w (.cells #[.int .i64 f.params, .int .i64 f.regs, .int .i64 f.slots, .slice ca f.code.length cc] 36) (.cells #[.bool false] 4)
  obtain ⟨wa, hwa⟩ : ∃ wa, wa = (w.alloc (.cells #[.int .i64 f.params, .int .i64 f.regs, .int .i64 f.slots, .slice ca f.code.length cc] 36)).alloc (.cells #[.bool false] 4) := ⟨_, rfl⟩
  obtain ⟨B, hB⟩ : ∃ B, B = w.heap.size := ⟨_, rfl⟩
  rw [← hwa] at b1 b2 hk2
  rw [← hB] at b1 b2
  have h1 := shape_any 0 f ca cc wa
  unfold shapeE fnV at h1
  rw [hsh] at h1
  simp only [if_true] at h1
  have h2 := fun wx (hk : Keeps None w wx) => code_anyT 0 f ca cc none 0 0 wx [] (hT.more hk) (hC.more hk) hok hsh
  unfold codeE codeV at h2
  rw [hcf] at h2
  simp only at h2
  have HA : Hid (wa.heap[B]? = some (.cells #[.int .i64 f.params, .int .i64 f.regs, .int .i64 f.slots, .slice ca f.code.length cc] 36 (0, 0)) ∧ wa.heap[B + 1]? = some (.cells #[.bool false] 4 (0, 0)) ∧ Keeps None w wa ∧ B = w.heap.size) := ⟨b1, b2, hk2, hB⟩
  have H2 : Hid _ := h2
  have d0 := (cell_of_heap b1 0).trans rfl
  have d1 := (cell_of_heap b1 1).trans rfl
  have d2 := (cell_of_heap b1 2).trans rfl
  have d3 := (cell_of_heap b1 3).trans rfl
  unfold fnV
  clear b1 b2 hk2 h2 hT hC hok hsh hcf
  go_enter_defers Tryd.func50, Tryd.ntmps50
  go_upto_region 2 with fail
  rw [← hwa, ← hB]
  clear hwa hB
  go_upto_region 3 with (go_at_call 68; refine h1.mono ?_; rintro _ w2 ⟨rfl, hk2⟩)
  have hkw := HA.out.2.2.1.trans hk2 (fun _ f _ => f)
  have hb2 := blk_kept HA.out.2.1 hk2 (fun f => f)
  have h3 := H2.out _ hkw
  replace d0 := hk2.cell d0 (fun f => f)
  replace d1 := hk2.cell d1 (fun f => f)
  replace d2 := hk2.cell d2 (fun f => f)
  replace d3 := hk2.cell d3 (fun f => f)
  have HB : Hid (w2.heap[B + 1]? = some (.cells #[.bool false] 4 (0, 0)) ∧ Keeps None w w2) := ⟨hb2, hkw⟩
  clear hkw hb2 hk2 h1
  go_upto_region 4 with (go_at_call 44; refine h3.mono ?_; rintro _ w3 ⟨rfl, hk3⟩)
  have hb3 := blk_kept HB.out.1 hk3 (fun f => f)
  have c0 := (cell_of_heap hb3 0).trans rfl
  have z0 := blk_free hb3 0
  have b4 := blk_set (i := 0) hb3 (.bool true)
  have k4 : Keeps (· = B + 1) w3 (w3.setCell ⟨B + 1, 0, none⟩ (.bool true)) := Keeps.setCell (S := (· = B + 1)) w3 (a := ⟨B + 1, 0, none⟩) rfl _
  have HC : Hid (_ ∧ Keeps (· = B + 1) w3 _ ∧ Keeps None w w3) := ⟨b4, k4, HB.out.2.trans hk3 (fun _ f _ => f)⟩
  clear hb3 b4 k4 hk3 h3
  go_wp2_with fail
  exact sout_ret rfl HC.out.1 rfl (fun w' hk => ⟨rfl, (HC.out.2.2.trans HC.out.2.1 (fun i e hi => by have := HA.out.2.2.2; omega)).trans hk (fun i e hi => by have := HA.out.2.2.2; omega)⟩)
theorem flow_valid (l : List Fn) (f : Fn) (ca : Option Addr) (cc : Nat) (w : World) (hT : Tabs w) (hC : SeenI w ca f.code.length f.code) (hok : ∀ i ∈ f.code, i.Ok) (hV : Valid l f) (n m : Nat) (hn : n = f.code.length) (hm : (m : Int) = f.slots) :
    Calls Tryd.prog 16 #[fnV f ca cc] w fun e w' => ∃ g, e = .returned (.slice (some ⟨g, 0, none⟩) n n) ∧ IsM w' g n m n (fun k s => sumAt (searchV f s (0, 0)) k) ∧ Keeps None w w' ∧ w.heap.size ≤ g := by
  have hcf : codeFault true [] f = none := fault_alone hV.code
  have hvb := valid_bounds hV
  have hal := Keeps.alloc None w (.cells #[.int .i64 f.params, .int .i64 f.regs, .int .i64 f.slots, .slice ca f.code.length cc] 36)
  have b1 := heap_alloc_new w (.cells #[.int .i64 f.params, .int .i64 f.regs, .int .i64 f.slots, .slice ca f.code.length cc] 36)
  have hso := sound_true f ca cc _ (hT.more hal) (hC.more hal) hok hV.shape hcf
  have hfl := fun wx (hk : Keeps None w wx) => flow_any f ca cc wx (hT.more hk) (hC.more hk) (good_of hV.shape hV.code) n m hn hm (by omega)
  obtain ⟨wa, hwa⟩ : ∃ wa, wa = w.alloc (.cells #[.int .i64 f.params, .int .i64 f.regs, .int .i64 f.slots, .slice ca f.code.length cc] 36) := ⟨_, rfl⟩
  obtain ⟨B, hB⟩ : ∃ B, B = w.heap.size := ⟨_, rfl⟩
  unfold fnV at hso hfl ⊢
  rw [← hwa] at hal b1 hso
  rw [← hB] at b1
  have HA : Hid (wa.heap[B]? = some (.cells #[.int .i64 f.params, .int .i64 f.regs, .int .i64 f.slots, .slice ca f.code.length cc] 36 (0, 0)) ∧ Keeps None w wa ∧ ∀ wx, Keeps None w wx → _) := ⟨b1, hal, hfl⟩
  have d0 := (cell_of_heap b1 0).trans rfl
  have d1 := (cell_of_heap b1 1).trans rfl
  have d2 := (cell_of_heap b1 2).trans rfl
  have d3 := (cell_of_heap b1 3).trans rfl
  clear hal b1 hfl hT hC hok hV hcf hvb hn hm
  go_enter Tryd.func16, Tryd.ntmps16
  go_upto_region 1 with fail
  rw [← hwa, ← hB]
  clear hwa hB
  go_upto_region 3 with (go_at_call 50; refine hso.mono ?_; rintro _ w2 ⟨rfl, hk2⟩; have d0' := hk2.cell d0 (fun f => f); have d1' := hk2.cell d1 (fun f => f); have d2' := hk2.cell d2 (fun f => f); have d3' := hk2.cell d3 (fun f => f))
  have hkw := HA.out.2.1.trans hk2 (fun _ f _ => f)
  have hf := HA.out.2.2 _ hkw
  go_wp2_with (go_at_call 51; refine hf.mono ?_; rintro _ w3 ⟨g, rfl, hM, hk3, hg⟩)
  go_ret
  exact ⟨g, rfl, hM, hkw.trans hk3 (fun _ f _ => f), Nat.le_trans hkw.size hg⟩
end Go.Proofs.YtklepknkdkponaaDoor
