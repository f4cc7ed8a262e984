import Derived.Test.YtoehkjfdaolcnaaDoorPkAK
import Derived.Deep.QuietTactic
import Derived.BigQuiet
import Derived.Test.YtoehkjfdaolcnaaDoorPkAC
import Derived.Test.YtoehkjfdaolcnaaDoorPkAI
import Derived.Test.YtoehkjfdaolcnaaDoorPkAL
/-! What goes a long way round: the program's. -/
namespace Go.Proofs.YtoehkjfdaolcnaaDoor
set_option linter.unusedVariables false
set_option maxRecDepth 20000
set_option linter.unusedSimpArgs false
open Go.RowKit Go.HeapKit

theorem keeps_drD {w : World} (m : Nat) : Keeps None w (w.drewN m) := ⟨rfl, rfl, rfl, Nat.le_refl _, fun _ _ _ => rfl⟩
/-- It goes to a place from which it is sent on. -/
def DtP (code : List Ins) (i : Ins) : Prop := 0 ≤ tgt i ∧ ∃ j, code[(tgt i).toNat]? = some j ∧ j.kind = 3 ∧ j.a ≠ tgt i
/-- A jump's or a branch's target is a place. -/
theorem tgt_in {code : List Ins} (hG : Gd code) {k : Nat} {i : Ins} (hi : code[k]? = some i) (h : i.kind = 3 ∨ i.kind = 4) : ∃ t : Nat, tgt i = t ∧ t < code.length := by
  have hm : tgt i ∈ exitsV k i := by
    unfold tgt
    rcases h with h | h
    · rw [if_pos h, ex_jump _ h]; simp
    · rw [if_neg (by omega), if_pos h, ex_branch _ h]; simp
  obtain ⟨h0, h1⟩ := hG.ways k i hi _ hm
  exact ⟨(tgt i).toNat, by omega, by omega⟩
set_option maxHeartbeats 4000000 in
theorem detours_ok (ca : Option Addr) (n cc : Nat) (code : List Ins) (ma : Option Addr) (mn mc : Nat) (ga : Option Addr) (gn gc : Nat) (k : Nat) (i : Ins) (w : World) (hC : SeenI w ca n code) (hG : Gd code) (hi : code[k]? = some i) :
    Calls Tryd.prog 37 #[.agg #[.slice ca n cc, .slice ma mn mc, .slice ga gn gc], .int .i64 (k : Int)] w fun e w' => ∃ b : Bool, e = .returned (.bool b) ∧ (b = true ↔ DtP code i) ∧ Keeps None w w' := by
  have hl := hC.len
  have hkl := (List.getElem?_eq_some_iff.1 hi).1
  have hkn : k < n := by omega
  have i1 : (k : Int) < (n : Int) := by omega
  have kA := Keeps.alloc None w (.cells #[.slice ca n cc, .slice ma mn mc, .slice ga gn gc] 64)
  have bX := heap_alloc_new w (.cells #[.slice ca n cc, .slice ma mn mc, .slice ga gn gc] 64)
  obtain ⟨W, hW⟩ : ∃ W, W = w.alloc (.cells #[.slice ca n cc, .slice ma mn mc, .slice ga gn gc] 64) := ⟨_, rfl⟩
  obtain ⟨X, hX⟩ : ∃ X, X = w.heap.size := ⟨_, rfl⟩
  rw [← hW] at kA bX
  rw [← hX] at bX
  obtain ⟨b, off, i', rfl, hi', hat⟩ := (hC.more kA).at hkn
  rw [hi] at hi'
  injection hi' with hi'
  subst hi'
  have HT : Hid _ := target_ok b (off + k * 5) i W hat
  obtain ⟨y0, y1, y2, y3, y4⟩ := hat
  have x0 : W.cell? ⟨X, 0, none⟩ = some (.slice (some ⟨b, off, none⟩) n cc) := (blk_cell bX 0).trans rfl
  have HC : Hid (SeenI W (some ⟨b, off, none⟩) n code ∧ Keeps None w W ∧ Gd code ∧ code[k]? = some i ∧ n = code.length) := ⟨hC.more kA, kA, hG, hi, hl⟩
  clear hC hG hi hl hkl kA bX
  unfold tgtP at HT
  by_cases hj : i.kind = 3 ∨ i.kind = 4
  · obtain ⟨t, ht, htn⟩ := tgt_in HC.out.2.2.1 HC.out.2.2.2.1 hj
    obtain ⟨j, hjj⟩ : ∃ j, code[t]? = some j := ⟨code[t], by simp⟩
    obtain ⟨R, hR⟩ : ∃ R, R = decide (j.kind = 3 ∧ j.a ≠ (t : Int)) := ⟨_, rfl⟩
    have HSO : Hid (∀ w', Keeps None W w' → Calls Tryd.prog 63 #[.slice (some ⟨b, off, none⟩) n cc, .int .i64 (t : Int)] w' fun e w'' => e = .returned (.bool R) ∧ w'' = w') := fun w' hk => by
      rw [hR]
      exact sendsOn_ok _ n cc code t j w' (HC.out.1.more hk) hjj
    have HR : Hid (R = true ↔ DtP code i) := by
      unfold Hid
      rw [hR, decide_eq_true_iff]
      unfold DtP
      rw [ht]
      constructor
      · rintro ⟨h1, h2⟩
        exact ⟨by omega, j, by rw [Int.toNat_natCast]; exact hjj, h1, h2⟩
      · rintro ⟨_, j', h1, h2, h3⟩
        rw [Int.toNat_natCast, hjj] at h1
        injection h1 with h1
        subst h1
        exact ⟨h2, h3⟩
    have HK : Hid (Keeps None w W) := HC.out.2.1
    unfold tgt at ht
    rcases hj with h3 | h4
    · rw [if_pos h3] at HT ht
      rw [ht] at y1
      clear HC h3 ht htn hjj hR
      go_enter Tryd.func37, Tryd.ntmps37
      go_upto_region 1 with fail
      rw [← hW, ← hX]
      clear hW hX
      go_upto_region 2 with (go_at_call 62; refine Calls.mono HT.out ?_; rintro _ w5 ⟨rfl, hw5⟩; have hw5' := hw5.symm; subst hw5'; clear hw5)
      go_region_held3 (fun w' => w'.cell? ⟨X, 0, none⟩ = some (.slice (some ⟨b, off, none⟩) n cc) ∧ w'.cell? ⟨b, off + k * 5 + 1, none⟩ = some (.int .i64 (t : Int))) (go_keep) (first | (go_at_call 63; refine Calls.mono (HSO.out _ (Keeps.drew None _)) ?_; rintro _ w6 ⟨rfl, hw6⟩; have hw6' := hw6.symm; subst hw6'; clear hw6))
      all_goals go_wp2_with fail
      all_goals go_ret
      all_goals exact ⟨R, rfl, HR.out, HK.out.andDrew⟩
    · rw [if_neg (by omega), if_pos h4] at HT ht
      rw [ht] at y2
      clear HC h4 ht htn hjj hR
      go_enter Tryd.func37, Tryd.ntmps37
      go_upto_region 1 with fail
      rw [← hW, ← hX]
      clear hW hX
      go_upto_region 2 with (go_at_call 62; refine Calls.mono HT.out ?_; rintro _ w5 ⟨rfl, hw5⟩; have hw5' := hw5.symm; subst hw5'; clear hw5)
      go_region_held3 (fun w' => w'.cell? ⟨X, 0, none⟩ = some (.slice (some ⟨b, off, none⟩) n cc) ∧ w'.cell? ⟨b, off + k * 5 + 2, none⟩ = some (.int .i64 (t : Int))) (go_keep) (first | (go_at_call 63; refine Calls.mono (HSO.out _ (Keeps.drew None _)) ?_; rintro _ w6 ⟨rfl, hw6⟩; have hw6' := hw6.symm; subst hw6'; clear hw6))
      all_goals go_wp2_with fail
      all_goals go_ret
      all_goals exact ⟨R, rfl, HR.out, HK.out.andDrew⟩
  · rw [if_neg (by omega), if_neg (by omega)] at HT
    have HR : Hid (¬ DtP code i) := fun h => by
      have h0 := h.1
      unfold tgt at h0
      rw [if_neg (by omega), if_neg (by omega)] at h0
      omega
    have HK : Hid (Keeps None w W) := HC.out.2.1
    clear HC hj
    go_enter Tryd.func37, Tryd.ntmps37
    go_upto_region 1 with fail
    rw [← hW, ← hX]
    clear hW hX
    go_upto_region 2 with (go_at_call 62; refine Calls.mono HT.out ?_; rintro _ w5 ⟨rfl, hw5⟩; have hw5' := hw5.symm; subst hw5'; clear hw5)
    go_quiet (fail)
    go_wp2_with fail
    go_ret
    exact ⟨false, rfl, ⟨fun h => by (cases h), fun h => absurd h HR.out⟩, HK.out.trans (keeps_drD _) (fun _ f _ => f)⟩
end Go.Proofs.YtoehkjfdaolcnaaDoor
/-! What a valid program is, plainly. -/
namespace Go.Proofs.YtoehkjfdaolcnaaDoor
set_option linter.unusedVariables false
set_option maxRecDepth 20000

theorem check_zero {l : List Fn} (h : (checkV l).1 = 0) : checkV l = (0, 0, 0) := by
  unfold checkV at h ⊢
  split
  · rename_i h1; rw [if_pos h1] at h; cases h
  · rename_i h1
    rw [if_neg h1] at h
    split
    · rename_i r hr; rw [hr] at h; simp at h
    · rename_i hr
      rw [hr] at h
      simp only at h
      split
      · rename_i r hr2
        rw [hr2] at h
        simp only at h
        obtain ⟨k, x, _, _, hg, _⟩ := firstAt_was _ _ _ _ hr2
        unfold codeFault at hg
        split at hg
        · have := Option.some.inj hg
          rw [← this] at h
          simp at h
        · split at hg
          · have := Option.some.inj hg
            rw [← this] at h
            simp at h
          · cases hg
      · rename_i hr2
        rw [hr2] at h
        simp only at h
        split
        · rename_i r hr3
          rw [hr3] at h
          simp only at h
          obtain ⟨k, x, _, _, hg, _⟩ := firstAt_was _ _ _ _ hr3
          unfold slotFault at hg
          simp only [Option.map_eq_some_iff] at hg
          obtain ⟨q, hq, e⟩ := hg
          obtain ⟨k2, y, _, _, hg2, _⟩ := firstAt_was _ _ _ _ hq
          split at hg2
          · cases hg2
          · rename_i hne
            have := Option.some.inj hg2
            rw [← e] at h
            simp at h
            rw [← this] at h
            exact absurd h hne
        · rfl
/-- What a valid function is, for the walks. -/
theorem valid_bounds {fs : List Fn} {f : Fn} (h : Valid fs f) : (0 ≤ f.params ∧ f.params ≤ 8) ∧ (1 ≤ f.regs ∧ f.params ≤ f.regs ∧ f.regs ≤ 16) ∧ (0 ≤ f.slots ∧ f.slots ≤ 8) ∧ 1 ≤ f.code.length ∧ f.code.length ≤ 512 := by
  have := h.shape
  simp only [shapeV, Bool.and_eq_true, decide_eq_true_eq] at this
  omega
end Go.Proofs.YtoehkjfdaolcnaaDoor
/-! A function that is right among others is right alone. -/
namespace Go.Proofs.YtoehkjfdaolcnaaDoor
set_option linter.unusedVariables false
set_option maxRecDepth 20000
open Go.RowKit Go.HeapKit

theorem fits_alone {l fs : List Fn} {f : Fn} {i : Ins} (h : fitsV false l f i = true) : fitsV true fs f i = true := by
  have hal : ∀ what x, allowsV false l f what x i = true → allowsV true fs f what x i = true := by
    intro what x h
    unfold allowsV at h ⊢
    split
    · rename_i e; rw [if_pos e] at h; exact h
    · rename_i e1; rw [if_neg e1] at h
      split
      · rename_i e; rw [if_pos e] at h; exact h
      · rename_i e2; rw [if_neg e2] at h
        split
        · rename_i e; rw [if_pos e] at h; exact h
        · simp
  simp only [fitsV, Bool.and_eq_true] at h ⊢
  exact ⟨h.1, ⟨hal _ _ h.2.1.1, hal _ _ h.2.1.2⟩, hal _ _ h.2.2⟩
theorem fault_alone {l fs : List Fn} {f : Fn} (h : codeFault false l f = none) : codeFault true fs f = none := by
  obtain ⟨h1, h2⟩ := code_parts h
  unfold codeFault
  rw [firstAt_none _ f.code 0 (fun j y hy => by rw [fits_alone (fs := fs) (h1 j y hy)]; rfl), h2]
  rfl
end Go.Proofs.YtoehkjfdaolcnaaDoor
/-! A function alone: sound, Flow. -/
namespace Go.Proofs.YtoehkjfdaolcnaaDoor
set_option linter.unusedVariables false
set_option maxRecDepth 20000
open Go.RowKit Go.HeapKit

theorem allows_five (number : Int) (f : Fn) (ca : Option Addr) (cc : Nat) (fa : Option Addr) (fn fc : Nat) (x : Int) (i : Ins) (w : World) (fs : List Fn) :
    Calls Tryd.prog 80 #[codeV number f ca cc fa fn fc true, .int .i64 5, .int .i64 x, insV i] w fun e w' => e = .returned (.bool (allowsV true fs f 5 x i)) ∧ Keeps None w w' := by
  have hv : allowsV true fs f 5 x i = true := by simp [allowsV]
  rw [hv]
  unfold codeV insV
  go_enter Tryd.func80, Tryd.ntmps80
  go_upto_region 11 with fail
  go_quiet (fail)
  go_wp2_with fail
  go_ret
  exact ⟨rfl, (keeps2 w _ _).trans (Keeps.drewN None _ _) (fun _ f _ => f)⟩
theorem allows_anyT (number : Int) (f : Fn) (ca : Option Addr) (cc : Nat) (fa : Option Addr) (fn fc : Nat) (what x : Int) (i : Ins) (w : World) (fs : List Fn) :
    Calls Tryd.prog 80 #[codeV number f ca cc fa fn fc true, .int .i64 what, .int .i64 x, insV i] w fun e w' => e = .returned (.bool (allowsV true fs f what x i)) ∧ Keeps None w w' := by
  by_cases h : what = 5
  · subst h
    exact allows_five number f ca cc fa fn fc x i w fs
  · exact allows_plain true number f ca cc fa fn fc what x i w fs (fun h => by cases h) (by simpa using h)
set_option maxHeartbeats 1000000 in
theorem fits_someT (number : Int) (f : Fn) (ca : Option Addr) (cc : Nat) (fa : Option Addr) (fn fc : Nat) (k : Nat) (ia ib ic iK : Int) (w : World) (hT : Tabs w) (hk10 : k < 10) (o2 o3 oa ob oc : Bool)
    (h2 : decide (iK < 0) = o2) (h3 : decide (16 ≤ iK) = o3)
    (ha : ∀ wx, Keeps None w wx → Calls Tryd.prog 80 #[codeV number f ca cc fa fn fc true, .int .i64 (fA k), .int .i64 ia, insV ⟨k, ia, ib, ic, iK⟩] wx fun e w' => e = .returned (.bool oa) ∧ Keeps None wx w')
    (hb : oa = true → ∀ wx, Keeps None w wx → Calls Tryd.prog 80 #[codeV number f ca cc fa fn fc true, .int .i64 (fB k), .int .i64 ib, insV ⟨k, ia, ib, ic, iK⟩] wx fun e w' => e = .returned (.bool ob) ∧ Keeps None wx w')
    (hc : oa = true → ob = true → ∀ wx, Keeps None w wx → Calls Tryd.prog 80 #[codeV number f ca cc fa fn fc true, .int .i64 (fC k), .int .i64 ic, insV ⟨k, ia, ib, ic, iK⟩] wx fun e w' => e = .returned (.bool oc) ∧ Keeps None wx w') :
    Calls Tryd.prog 73 #[codeV number f ca cc fa fn fc true, insV ⟨k, ia, ib, ic, iK⟩] w fun e w' => e = .returned (.bool (!(decide (fK k = 6) && (o2 || o3)) && (oa && ob && oc))) ∧ Keeps None w w' := by
  have hbl : belowV k 10 = true := by rw [belowV_iff]; omega
  unfold insV codeV at *
  obtain ⟨b1, b2⟩ := two_boxes w #[.int .i64 number, .int .i64 f.params, .int .i64 f.regs, .int .i64 f.slots, .slice ca f.code.length cc, .slice fa fn fc, .bool true] #[.int .i64 k, .int .i64 ia, .int .i64 ib, .int .i64 ic, .int .i64 iK] 83 39
  have hk := keeps2 w (Obj.cells #[.int .i64 number, .int .i64 f.params, .int .i64 f.regs, .int .i64 f.slots, .slice ca f.code.length cc, .slice fa fn fc, .bool true] 83) (Obj.cells #[.int .i64 k, .int .i64 ia, .int .i64 ib, .int .i64 ic, .int .i64 iK] 39)
  generalize hw0 : ((w.alloc (Obj.cells #[.int .i64 number, .int .i64 f.params, .int .i64 f.regs, .int .i64 f.slots, .slice ca f.code.length cc, .slice fa fn fc, .bool true] 83)).alloc (Obj.cells #[.int .i64 k, .int .i64 ia, .int .i64 ib, .int .i64 ic, .int .i64 iK] 39)) = w0 at hk b1 b2
  obtain ⟨t0, t1, t2, t3, t4⟩ := (hT.more hk).at k ‹_›
  have e0 := (cell_of_heap b2 0).trans rfl
  have i0 : (0 : Int) ≤ (k : Int) := by omega
  have i1 : (k : Int) < 10 := by omega
  have HB : Hid (w0.heap[w.heap.size]? = _ ∧ w0.heap[w.heap.size + 1]? = _ ∧ Keeps None w w0) := ⟨b1, b2, hk⟩
  have HC : Hid _ := And.intro ha (And.intro hb hc)
  clear b1 b2 hk ha hb hc
  go_enter Tryd.func73, Tryd.ntmps73
  go_upto_region 3 with (go_at_call 79; refine (below_any _ _ _).mono ?_; rintro e w' ⟨rfl, hw⟩; have hw2 := hw.symm; subst hw2; clear hw)
  go_cut [5] (fun s5 wx => s5 = .pointer (some ⟨w0.heap.size, 0, none⟩) ∧ wx.heap[w0.heap.size]? = some (.cells #[.int .i64 (fA k), .int .i64 (fB k), .int .i64 (fC k), .int .i64 (fK k), .bool (fN k)] 97 (0, 0)) ∧ Keeps None w0 wx)
  case first =>
    go_wp2_with fail
    go_meet
    exact ⟨rfl, heap_alloc_new _ _, Keeps.alloc _ _ _⟩
  case rest =>
    obtain ⟨rfl, hF, hkx⟩ := hcut
    have hkW : Keeps None w wc := HB.out.2.2.trans hkx (fun _ f _ => f)
    have b1 := (hkx.block w.heap.size (Array.getElem?_eq_some_iff.1 HB.out.1).1 (fun f => f)).trans HB.out.1
    have b2 := (hkx.block (w.heap.size + 1) (Array.getElem?_eq_some_iff.1 HB.out.2.1).1 (fun f => f)).trans HB.out.2.1
    have d0 := (cell_of_heap b1 0).trans rfl
    have d1 := (cell_of_heap b1 1).trans rfl
    have d2 := (cell_of_heap b1 2).trans rfl
    have d3 := (cell_of_heap b1 3).trans rfl
    have d4 := (cell_of_heap b1 4).trans rfl
    have d5 := (cell_of_heap b1 5).trans rfl
    have d6 := (cell_of_heap b1 6).trans rfl
    have e0x := (cell_of_heap b2 0).trans rfl
    have e1x := (cell_of_heap b2 1).trans rfl
    have e2x := (cell_of_heap b2 2).trans rfl
    have e3x := (cell_of_heap b2 3).trans rfl
    have e4x := (cell_of_heap b2 4).trans rfl
    have g0 := (cell_of_heap hF 0).trans rfl
    have g1 := (cell_of_heap hF 1).trans rfl
    have g2 := (cell_of_heap hF 2).trans rfl
    have g3 := (cell_of_heap hF 3).trans rfl
    have g4 := (cell_of_heap hF 4).trans rfl
    clear b1 b2 hF t0 t1 t2 t3 t4 e0 hw0
    have e0 := e0x; clear e0x
    have e1 := e1x; clear e1x
    have e2 := e2x; clear e2x
    have e3 := e3x; clear e3x
    have e4 := e4x; clear e4x
    by_cases q1 : fK k = 6
    · have q1' : (fK k == 6) = true := by simpa using q1
      by_cases q2 : iK < 0
      · have q2' : o2 = true := by rw [← h2]; simpa using q2
        go_wp2_with fail
        go_ret
        refine ⟨?_, hkW⟩
        rw [q2', show decide (fK k = 6) = true by simpa using q1]; simp
      · by_cases q3 : 16 ≤ iK
        · have q3' : o3 = true := by rw [← h3]; simpa using q3
          have q2c : 0 ≤ iK := by omega
          go_wp2_with fail
          go_ret
          refine ⟨?_, hkW⟩
          rfl
        · have q2' : o2 = false := by rw [← h2]; simpa using q2
          have q3' : o3 = false := by rw [← h3]; simpa using q3
          have q2c : 0 ≤ iK := by omega
          have q3c : iK < 16 := by omega
          have hv : Hid ((!(decide (fK k = 6) && (o2 || o3)) && (oa && ob && oc)) = (oa && ob && oc)) := by unfold Hid; simp [q2', q3']
          cases oa
          · go_wp2_with (go_at_call_of 80 (Value.int .i64 (fA k)); refine (HC.out.1 _ hkW).mono ?_; rintro e w2 ⟨rfl, hk2⟩; have hkA := hkW.trans hk2 (fun _ f _ => f); have d0A := hk2.cell d0 (fun f => f); have d1A := hk2.cell d1 (fun f => f); have d2A := hk2.cell d2 (fun f => f); have d3A := hk2.cell d3 (fun f => f); have d4A := hk2.cell d4 (fun f => f); have d5A := hk2.cell d5 (fun f => f); have d6A := hk2.cell d6 (fun f => f); have e0A := hk2.cell e0 (fun f => f); have e1A := hk2.cell e1 (fun f => f); have e2A := hk2.cell e2 (fun f => f); have e3A := hk2.cell e3 (fun f => f); have e4A := hk2.cell e4 (fun f => f); have g0A := hk2.cell g0 (fun f => f); have g1A := hk2.cell g1 (fun f => f); have g2A := hk2.cell g2 (fun f => f); have g3A := hk2.cell g3 (fun f => f); have g4A := hk2.cell g4 (fun f => f))
            go_ret
            refine ⟨?_, hkA⟩
            rw [hv.out]; rfl
          · have HCb : Hid _ := HC.out.2.1 rfl
            cases ob
            · go_wp2_with (first | (go_at_call_of 80 (Value.int .i64 (fA k)); refine (HC.out.1 _ hkW).mono ?_; rintro e w2 ⟨rfl, hk2⟩; have hkA := hkW.trans hk2 (fun _ f _ => f); have d0A := hk2.cell d0 (fun f => f); have d1A := hk2.cell d1 (fun f => f); have d2A := hk2.cell d2 (fun f => f); have d3A := hk2.cell d3 (fun f => f); have d4A := hk2.cell d4 (fun f => f); have d5A := hk2.cell d5 (fun f => f); have d6A := hk2.cell d6 (fun f => f); have e0A := hk2.cell e0 (fun f => f); have e1A := hk2.cell e1 (fun f => f); have e2A := hk2.cell e2 (fun f => f); have e3A := hk2.cell e3 (fun f => f); have e4A := hk2.cell e4 (fun f => f); have g0A := hk2.cell g0 (fun f => f); have g1A := hk2.cell g1 (fun f => f); have g2A := hk2.cell g2 (fun f => f); have g3A := hk2.cell g3 (fun f => f); have g4A := hk2.cell g4 (fun f => f)) | (go_at_call_of 80 (Value.int .i64 (fB k)); refine (HCb.out _ hkA).mono ?_; rintro e w3 ⟨rfl, hk2⟩; have hkB := hkA.trans hk2 (fun _ f _ => f); have d0B := hk2.cell d0A (fun f => f); have d1B := hk2.cell d1A (fun f => f); have d2B := hk2.cell d2A (fun f => f); have d3B := hk2.cell d3A (fun f => f); have d4B := hk2.cell d4A (fun f => f); have d5B := hk2.cell d5A (fun f => f); have d6B := hk2.cell d6A (fun f => f); have e0B := hk2.cell e0A (fun f => f); have e1B := hk2.cell e1A (fun f => f); have e2B := hk2.cell e2A (fun f => f); have e3B := hk2.cell e3A (fun f => f); have e4B := hk2.cell e4A (fun f => f); have g0B := hk2.cell g0A (fun f => f); have g1B := hk2.cell g1A (fun f => f); have g2B := hk2.cell g2A (fun f => f); have g3B := hk2.cell g3A (fun f => f); have g4B := hk2.cell g4A (fun f => f)))
              go_ret
              refine ⟨?_, hkB⟩
              rw [hv.out]; rfl
            · have HCc : Hid _ := HC.out.2.2 rfl rfl
              go_wp2_with (first | (go_at_call_of 80 (Value.int .i64 (fA k)); refine (HC.out.1 _ hkW).mono ?_; rintro e w2 ⟨rfl, hk2⟩; have hkA := hkW.trans hk2 (fun _ f _ => f); have d0A := hk2.cell d0 (fun f => f); have d1A := hk2.cell d1 (fun f => f); have d2A := hk2.cell d2 (fun f => f); have d3A := hk2.cell d3 (fun f => f); have d4A := hk2.cell d4 (fun f => f); have d5A := hk2.cell d5 (fun f => f); have d6A := hk2.cell d6 (fun f => f); have e0A := hk2.cell e0 (fun f => f); have e1A := hk2.cell e1 (fun f => f); have e2A := hk2.cell e2 (fun f => f); have e3A := hk2.cell e3 (fun f => f); have e4A := hk2.cell e4 (fun f => f); have g0A := hk2.cell g0 (fun f => f); have g1A := hk2.cell g1 (fun f => f); have g2A := hk2.cell g2 (fun f => f); have g3A := hk2.cell g3 (fun f => f); have g4A := hk2.cell g4 (fun f => f)) | (go_at_call_of 80 (Value.int .i64 (fB k)); refine (HCb.out _ hkA).mono ?_; rintro e w3 ⟨rfl, hk2⟩; have hkB := hkA.trans hk2 (fun _ f _ => f); have d0B := hk2.cell d0A (fun f => f); have d1B := hk2.cell d1A (fun f => f); have d2B := hk2.cell d2A (fun f => f); have d3B := hk2.cell d3A (fun f => f); have d4B := hk2.cell d4A (fun f => f); have d5B := hk2.cell d5A (fun f => f); have d6B := hk2.cell d6A (fun f => f); have e0B := hk2.cell e0A (fun f => f); have e1B := hk2.cell e1A (fun f => f); have e2B := hk2.cell e2A (fun f => f); have e3B := hk2.cell e3A (fun f => f); have e4B := hk2.cell e4A (fun f => f); have g0B := hk2.cell g0A (fun f => f); have g1B := hk2.cell g1A (fun f => f); have g2B := hk2.cell g2A (fun f => f); have g3B := hk2.cell g3A (fun f => f); have g4B := hk2.cell g4A (fun f => f)) | (go_at_call_of 80 (Value.int .i64 (fC k)); refine (HCc.out _ hkB).mono ?_; rintro e w4 ⟨rfl, hk2⟩; have hkC := hkB.trans hk2 (fun _ f _ => f)))
              go_ret
              refine ⟨?_, hkC⟩
              rw [hv.out]; rfl
    · have q1' : (fK k == 6) = false := by simpa using q1
      have hv : Hid ((!(decide (fK k = 6) && (o2 || o3)) && (oa && ob && oc)) = (oa && ob && oc)) := by unfold Hid; simp [q1]
      cases oa
      · go_wp2_with (go_at_call_of 80 (Value.int .i64 (fA k)); refine (HC.out.1 _ hkW).mono ?_; rintro e w2 ⟨rfl, hk2⟩; have hkA := hkW.trans hk2 (fun _ f _ => f); have d0A := hk2.cell d0 (fun f => f); have d1A := hk2.cell d1 (fun f => f); have d2A := hk2.cell d2 (fun f => f); have d3A := hk2.cell d3 (fun f => f); have d4A := hk2.cell d4 (fun f => f); have d5A := hk2.cell d5 (fun f => f); have d6A := hk2.cell d6 (fun f => f); have e0A := hk2.cell e0 (fun f => f); have e1A := hk2.cell e1 (fun f => f); have e2A := hk2.cell e2 (fun f => f); have e3A := hk2.cell e3 (fun f => f); have e4A := hk2.cell e4 (fun f => f); have g0A := hk2.cell g0 (fun f => f); have g1A := hk2.cell g1 (fun f => f); have g2A := hk2.cell g2 (fun f => f); have g3A := hk2.cell g3 (fun f => f); have g4A := hk2.cell g4 (fun f => f))
        go_ret
        refine ⟨?_, hkA⟩
        rw [hv.out]; rfl
      · have HCb : Hid _ := HC.out.2.1 rfl
        cases ob
        · go_wp2_with (first | (go_at_call_of 80 (Value.int .i64 (fA k)); refine (HC.out.1 _ hkW).mono ?_; rintro e w2 ⟨rfl, hk2⟩; have hkA := hkW.trans hk2 (fun _ f _ => f); have d0A := hk2.cell d0 (fun f => f); have d1A := hk2.cell d1 (fun f => f); have d2A := hk2.cell d2 (fun f => f); have d3A := hk2.cell d3 (fun f => f); have d4A := hk2.cell d4 (fun f => f); have d5A := hk2.cell d5 (fun f => f); have d6A := hk2.cell d6 (fun f => f); have e0A := hk2.cell e0 (fun f => f); have e1A := hk2.cell e1 (fun f => f); have e2A := hk2.cell e2 (fun f => f); have e3A := hk2.cell e3 (fun f => f); have e4A := hk2.cell e4 (fun f => f); have g0A := hk2.cell g0 (fun f => f); have g1A := hk2.cell g1 (fun f => f); have g2A := hk2.cell g2 (fun f => f); have g3A := hk2.cell g3 (fun f => f); have g4A := hk2.cell g4 (fun f => f)) | (go_at_call_of 80 (Value.int .i64 (fB k)); refine (HCb.out _ hkA).mono ?_; rintro e w3 ⟨rfl, hk2⟩; have hkB := hkA.trans hk2 (fun _ f _ => f); have d0B := hk2.cell d0A (fun f => f); have d1B := hk2.cell d1A (fun f => f); have d2B := hk2.cell d2A (fun f => f); have d3B := hk2.cell d3A (fun f => f); have d4B := hk2.cell d4A (fun f => f); have d5B := hk2.cell d5A (fun f => f); have d6B := hk2.cell d6A (fun f => f); have e0B := hk2.cell e0A (fun f => f); have e1B := hk2.cell e1A (fun f => f); have e2B := hk2.cell e2A (fun f => f); have e3B := hk2.cell e3A (fun f => f); have e4B := hk2.cell e4A (fun f => f); have g0B := hk2.cell g0A (fun f => f); have g1B := hk2.cell g1A (fun f => f); have g2B := hk2.cell g2A (fun f => f); have g3B := hk2.cell g3A (fun f => f); have g4B := hk2.cell g4A (fun f => f)))
          go_ret
          refine ⟨?_, hkB⟩
          rw [hv.out]; rfl
        · have HCc : Hid _ := HC.out.2.2 rfl rfl
          go_wp2_with (first | (go_at_call_of 80 (Value.int .i64 (fA k)); refine (HC.out.1 _ hkW).mono ?_; rintro e w2 ⟨rfl, hk2⟩; have hkA := hkW.trans hk2 (fun _ f _ => f); have d0A := hk2.cell d0 (fun f => f); have d1A := hk2.cell d1 (fun f => f); have d2A := hk2.cell d2 (fun f => f); have d3A := hk2.cell d3 (fun f => f); have d4A := hk2.cell d4 (fun f => f); have d5A := hk2.cell d5 (fun f => f); have d6A := hk2.cell d6 (fun f => f); have e0A := hk2.cell e0 (fun f => f); have e1A := hk2.cell e1 (fun f => f); have e2A := hk2.cell e2 (fun f => f); have e3A := hk2.cell e3 (fun f => f); have e4A := hk2.cell e4 (fun f => f); have g0A := hk2.cell g0 (fun f => f); have g1A := hk2.cell g1 (fun f => f); have g2A := hk2.cell g2 (fun f => f); have g3A := hk2.cell g3 (fun f => f); have g4A := hk2.cell g4 (fun f => f)) | (go_at_call_of 80 (Value.int .i64 (fB k)); refine (HCb.out _ hkA).mono ?_; rintro e w3 ⟨rfl, hk2⟩; have hkB := hkA.trans hk2 (fun _ f _ => f); have d0B := hk2.cell d0A (fun f => f); have d1B := hk2.cell d1A (fun f => f); have d2B := hk2.cell d2A (fun f => f); have d3B := hk2.cell d3A (fun f => f); have d4B := hk2.cell d4A (fun f => f); have d5B := hk2.cell d5A (fun f => f); have d6B := hk2.cell d6A (fun f => f); have e0B := hk2.cell e0A (fun f => f); have e1B := hk2.cell e1A (fun f => f); have e2B := hk2.cell e2A (fun f => f); have e3B := hk2.cell e3A (fun f => f); have e4B := hk2.cell e4A (fun f => f); have g0B := hk2.cell g0A (fun f => f); have g1B := hk2.cell g1A (fun f => f); have g2B := hk2.cell g2A (fun f => f); have g3B := hk2.cell g3A (fun f => f); have g4B := hk2.cell g4A (fun f => f)) | (go_at_call_of 80 (Value.int .i64 (fC k)); refine (HCc.out _ hkB).mono ?_; rintro e w4 ⟨rfl, hk2⟩; have hkC := hkB.trans hk2 (fun _ f _ => f)))
          go_ret
          refine ⟨?_, hkC⟩
          rw [hv.out]; rfl

theorem fits_anyT (number : Int) (f : Fn) (ca : Option Addr) (cc : Nat) (fa : Option Addr) (fn fc : Nat) (i : Ins) (w : World) (fs : List Fn) (hT : Tabs w) (hi : i.Ok) (hr : 0 ≤ f.regs ∧ f.regs ≤ 16) :
    Calls Tryd.prog 73 #[codeV number f ca cc fa fn fc true, insV i] w fun e w' => e = .returned (.bool (fitsV true fs f i)) ∧ Keeps None w w' := by
  cases hb : belowV i.kind 10 with
  | false =>
    have : fitsV true fs f i = false := by simp [fitsV, hb]
    rw [this]
    exact fits_no number f ca cc fa fn fc true i w hb
  | true =>
    obtain ⟨ik, ia, ib, ic, iK⟩ := i
    have hb' := (belowV_iff _ _).1 hb
    simp only at hb'
    obtain ⟨k, rfl⟩ := Int.eq_ofNat_of_zero_le hb'.1
    have hk : k < 10 := by omega
    have hv : fitsV true fs f ⟨k, ia, ib, ic, iK⟩ = (!(decide (fK k = 6) && (decide (iK < 0) || decide (16 ≤ iK))) && (allowsV true fs f (fA k) ia ⟨k, ia, ib, ic, iK⟩ && allowsV true fs f (fB k) ib ⟨k, ia, ib, ic, iK⟩ && allowsV true fs f (fC k) ic ⟨k, ia, ib, ic, iK⟩)) := by
      simp only [fitsV]
      rw [hb]
      simp
    rw [hv]
    refine fits_someT number f ca cc fa fn fc k ia ib ic iK w hT hk _ _ _ _ _ rfl rfl ?_ ?_ ?_
    · exact fun wx hx => allows_anyT number f ca cc fa fn fc _ _ _ wx fs
    · exact fun _ wx hx => allows_anyT number f ca cc fa fn fc _ _ _ wx fs
    · exact fun _ _ wx hx => allows_anyT number f ca cc fa fn fc _ _ _ wx fs
set_option maxHeartbeats 1000000 in
theorem code_anyT (number : Int) (f : Fn) (ca : Option Addr) (cc : Nat) (fa : Option Addr) (fn fc : Nat) (w : World) (fs : List Fn) (hT : Tabs w) (hC : SeenI w ca f.code.length f.code) (hok : ∀ i ∈ f.code, i.Ok) (hsh : shapeV f = true) :
    Calls Tryd.prog 56 #[codeV number f ca cc fa fn fc true] w fun e w' => e = codeE number true fs f ∧ Keeps None w w' := by
  have hsh2 : (0 ≤ f.regs ∧ f.regs ≤ 16) ∧ 1 ≤ f.code.length ∧ f.code.length ≤ 512 := by
    simp only [shapeV, Bool.and_eq_true, decide_eq_true_eq] at hsh
    omega
  obtain ⟨n, hn⟩ : ∃ n, n = f.code.length := ⟨_, rfl⟩
  have hfit := fun (i : Ins) (hi : i ∈ f.code) (wx : World) (hk : Keeps None w wx) => fits_anyT number f ca cc fa fn fc i wx fs (hT.more hk) (hok i hi) hsh2.1
  unfold codeV at hfit
  rw [← hn] at hfit
  have HF : Hid _ := hfit
  have HC : Hid (SeenI w ca n f.code) := hn ▸ hC
  have HH : Hid (1 ≤ n ∧ n ≤ 512 ∧ n = f.code.length ∧ Tabs w) := ⟨by omega, by omega, hn, hT⟩
  have h1' : (1 : Int) ≤ n := by omega
  have h2' : (n : Int) ≤ 512 := by omega
  unfold codeV
  rw [← hn]
  obtain ⟨B, hB⟩ : ∃ B, B = w.heap.size := ⟨_, rfl⟩
  have HB : Hid (B = w.heap.size) := hB
  clear hfit hC hok hsh hsh2 hT hn
  go_enter Tryd.func56, Tryd.ntmps56
  go_wp2_with fail
  rw [← hB]
  clear hB
  go_loopw [9] (fun i wr => ∃ k : Nat, k ≤ n ∧ i = .int .i64 k ∧ (∀ j x, j < k → f.code[j]? = some x → fitsV true fs f x = true) ∧ wr.heap[B]? = some (.cells #[.int .i64 number, .int .i64 f.params, .int .i64 f.regs, .int .i64 f.slots, .slice ca n cc, .slice fa fn fc, .bool true] 83 (0, 0)) ∧ Keeps None w wr) (fun i _ => n - (intOf i).toNat)
  case atStart => exact ⟨0, Nat.zero_le _, rfl, fun q _ h => by omega, by rw [HB.out]; exact heap_alloc_new w _, Keeps.alloc None w _⟩
  case round =>
    obtain ⟨k, hk, rfl, hall, hbx, hkp⟩ := hrel
    have d0 := (cell_of_heap hbx 0).trans rfl
    have d1 := (cell_of_heap hbx 1).trans rfl
    have d2 := (cell_of_heap hbx 2).trans rfl
    have d3 := (cell_of_heap hbx 3).trans rfl
    have d4 := (cell_of_heap hbx 4).trans rfl
    have d5 := (cell_of_heap hbx 5).trans rfl
    have d6 := (cell_of_heap hbx 6).trans rfl
    by_cases hkn : k < n
    · obtain ⟨b, off, x, rfl, hx, hat⟩ := (HC.out.more hkp).at hkn
      obtain ⟨y0, y1, y2, y3, y4⟩ := hat
      have i1 : (k : Int) < (n : Int) := by omega
      have HK : Hid (Keeps None w wr ∧ f.code[k]? = some x ∧ (∀ j x, j < k → f.code[j]? = some x → fitsV true fs f x = true) ∧ wr.heap[B]? = some (.cells #[.int .i64 number, .int .i64 f.params, .int .i64 f.regs, .int .i64 f.slots, .slice (some ⟨b, off, none⟩) n cc, .slice fa fn fc, .bool true] 83 (0, 0))) := ⟨hkp, hx, hall, hbx⟩
      have hc := HF.out x (List.mem_of_getElem? hx) _ (hkp.andAlloc (.cells #[.int .i64 x.kind, .int .i64 x.a, .int .i64 x.b, .int .i64 x.c, .int .i64 x.k] 39))
      unfold insV at hc
      have HD : Hid (wr.cell? ⟨B, 0, none⟩ = some (.int .i64 number)) := d0
      have hal := Keeps.alloc None wr (.cells #[.int .i64 x.kind, .int .i64 x.a, .int .i64 x.b, .int .i64 x.c, .int .i64 x.k] 39)
      have a0 := hal.cell d0 (fun f => f)
      have a1 := hal.cell d1 (fun f => f)
      have a2 := hal.cell d2 (fun f => f)
      have a3 := hal.cell d3 (fun f => f)
      have a4 := hal.cell d4 (fun f => f)
      have a5 := hal.cell d5 (fun f => f)
      have a6 := hal.cell d6 (fun f => f)
      clear hal
      clear hx hkp hall hbx
      cases hv : fitsV true fs f x with
      | false =>
        rw [hv] at hc
        have HV : Hid (fitsV true fs f x = false) := hv
        clear hv
        go_wp2_with (first | (go_at_call 73; refine hc.mono ?_; rintro e w2 ⟨rfl, hk2⟩; have hk3 := (Keeps.alloc None wr _).trans hk2 (fun _ f _ => f); have d0' := hk3.cell HD.out (fun f => f)) | (go_at_call 71; refine (giveUp_any _ _ _ _).mono ?_; rintro e w' ⟨rfl, hw⟩; have hw2 := hw.symm; subst hw2))
        refine ⟨rfl, ?_, HK.out.1.trans hk3 (fun _ f _ => f)⟩
        unfold codeE codeFault
        rw [firstAt_some _ f.code 0 k x () HK.out.2.1 (fun j y hj hy => by rw [HK.out.2.2.1 j y hj hy]; rfl) (by rw [HV.out]; rfl)]
        simp
      | true =>
        rw [hv] at hc
        have HV : Hid (fitsV true fs f x = true) := hv
        clear hv
        go_wp2_with (first | (go_at_call 73; refine hc.mono ?_; rintro e w2 ⟨rfl, hk2⟩; have hk3 := (Keeps.alloc None wr _).trans hk2 (fun _ f _ => f)))
        refine ⟨⟨k + 1, by omega, by simp, fun j g hj hg => ?_, (hk3.block B (Array.getElem?_eq_some_iff.1 HK.out.2.2.2).1 (fun f => f)).trans HK.out.2.2.2, HK.out.1.trans hk3 (fun _ f _ => f)⟩, by simp [intOf]; omega⟩
        by_cases hjk : j = k
        · subst hjk
          rw [HK.out.2.1] at hg
          obtain rfl := Option.some.inj hg
          exact HV.out
        · exact HK.out.2.2.1 j g (by omega) hg
    · have i1 : ¬ ((k : Int) < (n : Int)) := by omega
      have hkn2 : k = n := by omega
      subst hkn2
      obtain ⟨b, off, x, rfl, hx, hat⟩ := (HC.out.more hkp).at (k := k - 1) (by omega)
      have y0 := hat.kind
      have hfx := hall (k - 1) x (by omega) hx
      obtain ⟨xk, xa, xb, xc, xK⟩ := x
      have hb10 : belowV xk 10 = true := by
        simp only [fitsV, Bool.and_eq_true] at hfx
        exact hfx.1.1
      obtain ⟨q, rfl⟩ := Int.eq_ofNat_of_zero_le ((belowV_iff _ _).1 hb10).1
      have hq := ((belowV_iff _ _).1 hb10).2
      obtain ⟨t0, t1, t2, t3, t4⟩ := (HH.out.2.2.2.more hkp).at q (by omega)
      have i2 : (0 : Int) ≤ (q : Int) := by omega
      have i3 : (0 : Int) ≤ ((k - 1 : Nat) : Int) := by omega
      have i4 : ((k - 1 : Nat) : Int) < (k : Int) := by omega
      have i5 : wrap64 ((k : Int) - 1) = ((k - 1 : Nat) : Int) := by unfold wrap64; omega
      have HK : Hid (Keeps None w wr ∧ f.code[k - 1]? = some ⟨q, xa, xb, xc, xK⟩ ∧ (∀ j x, j < k → f.code[j]? = some x → fitsV true fs f x = true)) := ⟨hkp, hx, hall⟩
      have HR : Hid (runsOut f = fN q) := by
        unfold Hid runsOut
        rw [← HH.out.2.2.1, hx]
        rfl
      clear hx hkp hall hfx hb10 hat
      cases hv : fN q with
      | false =>
        rw [hv] at t4 HR
        clear hv
        go_wp2_with fail
        go_end0
        refine ⟨?_, HK.out.1⟩
        unfold codeE codeFault
        rw [firstAt_none _ f.code 0 (fun j y hy => by rw [HK.out.2.2 j y (by have := (List.getElem?_eq_some_iff.1 hy).1; have := HH.out.2.2.1; omega) hy]; rfl), HR.out]
        rfl
      | true =>
        rw [hv] at t4 HR
        clear hv
        go_wp2_with (go_at_call 71; refine (giveUp_any _ _ _ _).mono ?_; rintro e w' ⟨rfl, hw⟩; have hw2 := hw.symm; subst hw2)
        refine ⟨rfl, ?_, HK.out.1⟩
        unfold codeE codeFault
        rw [firstAt_none _ f.code 0 (fun j y hy => by rw [HK.out.2.2 j y (by have := (List.getElem?_eq_some_iff.1 hy).1; have := HH.out.2.2.1; omega) hy]; rfl), HR.out, ← HH.out.2.2.1]
        rfl

theorem scatch (p : Nat) (c : Array Value) (w : World) (hc : w.heap[p]? = some (.cells c 4 (0, 0))) (hs : c.size = 1) :
    CallsD Tryd.prog 82 #[.pointer (some ⟨p, 0, none⟩)] .returning w fun e' u' w' => e' = .returned (.tuple #[]) ∧ u' = .returning ∧ w'.heap[p]? = some (.cells #[.bool true] 4 (0, 0)) ∧ Keeps (· = p) w w' := by
  refine callsD_of_wpS Tryd.func82 rfl fun c₀ cs hu => ?_
  apply wpS_region
  simp [wpOpsS, go_sem, recoverD, hu, Tryd.ntmps82]
  refine (caught_nil w).mono ?_
  rintro _ w2 ⟨rfl, hk2⟩
  have hc2 := blk_kept hc hk2 (fun f => f)
  obtain ⟨l⟩ := c
  match l, hs with
  | [v0], _ =>
    have c0 := (cell_of_heap hc2 0).trans rfl
    have z0 := blk_free hc2 0
    have b3 := blk_set (i := 0) hc2 (.bool true)
    have k3 : Keeps (· = p) w (w2.setCell ⟨p, 0, none⟩ (.bool true)) := (hk2.mono (fun _ f _ => f.elim)).andSet (S := (· = p)) (x := ⟨p, 0, none⟩) (.inl rfl) _
    have hfl : ∀ wx, (Instr.field 28 (.agg #[.int .i64 0, .int .i64 0, .int .i64 0]) 0).run Tryd.prog wx = .ok (.int .i64 0) wx := fun _ => rfl
    simp [faultV, go_sem, hfl, c0, z0, bodyPostS, results, Tryd.results82]
    exact ⟨.returning, by cases c₀; simp_all, rfl, b3, k3⟩
theorem load_bool (w : World) (g : Nat) (b : Bool) (hb : w.heap[g]? = some (.cells #[.bool b] 4 (0, 0))) : (loadVar 4 ⟨g, 0, none⟩).run Tryd.prog w = .ok (.bool b) w := by
  have hc : w.cell? ⟨g, 0, none⟩ = some (.bool b) := (cell_of_heap hb 0).trans rfl
  have hu := Tryd.underlying4
  have ha := Tryd.isAgg4
  have hz := Tryd.sizeOf4
  go_simp
theorem sout_ret {Q : Ending → World → Prop} {tmps : Array Value} {w3 : World} {p : Nat} {c : Array Value} (ha : tmps.getD 2 undef = .pointer (some ⟨p, 0, none⟩)) (hb : w3.heap[p]? = some (.cells c 4 (0, 0))) (hs : c.size = 1)
    (hQ : ∀ w', Keeps (· = p) w3 w' → Q (.returned (.bool true)) w') :
    bodyPostD Tryd.prog Tryd.f76 Q .ret { tmps := tmps, defers := [{ target := .fn (.func 82) #[.pointer (some ⟨p, 0, none⟩)], args := #[] }] } w3 := by
  refine leaves_cons (f := 82) (args := #[.pointer (some ⟨p, 0, none⟩)]) (by simp) (by simp [go_sem]) ?_
  refine (scatch p c w3 hb hs).mono ?_
  rintro _ u' w4 ⟨rfl, rfl, hb4, hk4⟩
  have hr := results_one (P := Tryd.prog) (fn := Tryd.f76) (q := 2) (ty := 4) rfl ha (load_bool w4 p true hb4)
  simp [Leaves, settle, hr]
  exact hQ w4 hk4
theorem sound_true (f : Fn) (ca : Option Addr) (cc : Nat) (w : World) (hT : Tabs w) (hC : SeenI w ca f.code.length f.code) (hok : ∀ i ∈ f.code, i.Ok) (hsh : shapeV f = true) (hcf : codeFault true [] f = none) :
    Calls Tryd.prog 76 #[fnV f ca cc] w fun e w' => e = .returned (.bool true) ∧ Keeps None w w' := by
  have hmf : ∀ (fn : Go.Fn) (first cap : Array Value) (w : World), (Instr.makeFunc fn first cap).run Tryd.prog w = .ok (.func fn first cap) w := fun _ _ _ _ => rfl
  obtain ⟨b1, b2⟩ := two_boxes w #[.int .i64 f.params, .int .i64 f.regs, .int .i64 f.slots, .slice ca f.code.length cc] #[.bool false] 37 4
  have hk2 := keeps2 w (.cells #[.int .i64 f.params, .int .i64 f.regs, .int .i64 f.slots, .slice ca f.code.length cc] 37) (.cells #[.bool false] 4)
  obtain ⟨wa, hwa⟩ : ∃ wa, wa = (w.alloc (.cells #[.int .i64 f.params, .int .i64 f.regs, .int .i64 f.slots, .slice ca f.code.length cc] 37)).alloc (.cells #[.bool false] 4) := ⟨_, rfl⟩
  obtain ⟨B, hB⟩ : ∃ B, B = w.heap.size := ⟨_, rfl⟩
  rw [← hwa] at b1 b2 hk2
  rw [← hB] at b1 b2
  have h1 := shape_any 0 f ca cc wa
  unfold shapeE fnV at h1
  rw [hsh] at h1
  simp only [if_true] at h1
  have h2 := fun wx (hk : Keeps None w wx) => code_anyT 0 f ca cc none 0 0 wx [] (hT.more hk) (hC.more hk) hok hsh
  unfold codeE codeV at h2
  rw [hcf] at h2
  simp only at h2
  have HA : Hid (wa.heap[B]? = some (.cells #[.int .i64 f.params, .int .i64 f.regs, .int .i64 f.slots, .slice ca f.code.length cc] 37 (0, 0)) ∧ wa.heap[B + 1]? = some (.cells #[.bool false] 4 (0, 0)) ∧ Keeps None w wa ∧ B = w.heap.size) := ⟨b1, b2, hk2, hB⟩
  have H2 : Hid _ := h2
  have d0 := (cell_of_heap b1 0).trans rfl
  have d1 := (cell_of_heap b1 1).trans rfl
  have d2 := (cell_of_heap b1 2).trans rfl
  have d3 := (cell_of_heap b1 3).trans rfl
  unfold fnV
  clear b1 b2 hk2 h2 hT hC hok hsh hcf
  go_enter_defers Tryd.func76, Tryd.ntmps76
  go_upto_region 2 with fail
  rw [← hwa, ← hB]
  clear hwa hB
  go_upto_region 3 with (go_at_call 72; refine h1.mono ?_; rintro _ w2 ⟨rfl, hk2⟩)
  have hkw := HA.out.2.2.1.trans hk2 (fun _ f _ => f)
  have hb2 := blk_kept HA.out.2.1 hk2 (fun f => f)
  have h3 := H2.out _ hkw
  replace d0 := hk2.cell d0 (fun f => f)
  replace d1 := hk2.cell d1 (fun f => f)
  replace d2 := hk2.cell d2 (fun f => f)
  replace d3 := hk2.cell d3 (fun f => f)
  have HB : Hid (w2.heap[B + 1]? = some (.cells #[.bool false] 4 (0, 0)) ∧ Keeps None w w2) := ⟨hb2, hkw⟩
  clear hkw hb2 hk2 h1
  go_upto_region 4 with (go_at_call 56; refine h3.mono ?_; rintro _ w3 ⟨rfl, hk3⟩)
  have hb3 := blk_kept HB.out.1 hk3 (fun f => f)
  have c0 := (cell_of_heap hb3 0).trans rfl
  have z0 := blk_free hb3 0
  have b4 := blk_set (i := 0) hb3 (.bool true)
  have k4 : Keeps (· = B + 1) w3 (w3.setCell ⟨B + 1, 0, none⟩ (.bool true)) := Keeps.setCell (S := (· = B + 1)) w3 (a := ⟨B + 1, 0, none⟩) rfl _
  have HC : Hid (_ ∧ Keeps (· = B + 1) w3 _ ∧ Keeps None w w3) := ⟨b4, k4, HB.out.2.trans hk3 (fun _ f _ => f)⟩
  clear hb3 b4 k4 hk3 h3
  go_wp2_with fail
  exact sout_ret rfl HC.out.1 rfl (fun w' hk => ⟨rfl, (HC.out.2.2.trans HC.out.2.1 (fun i e hi => by have := HA.out.2.2.2; omega)).trans hk (fun i e hi => by have := HA.out.2.2.2; omega)⟩)
theorem flow_valid (l : List Fn) (f : Fn) (ca : Option Addr) (cc : Nat) (w : World) (hT : Tabs w) (hC : SeenI w ca f.code.length f.code) (hok : ∀ i ∈ f.code, i.Ok) (hV : Valid l f) (n m : Nat) (hn : n = f.code.length) (hm : (m : Int) = f.slots) :
    Calls Tryd.prog 59 #[fnV f ca cc] w fun e w' => ∃ g, e = .returned (.slice (some ⟨g, 0, none⟩) n n) ∧ IsM w' g n m n (fun k s => sumAt (searchV f s (0, 0)) k) ∧ Keeps None w w' ∧ w.heap.size ≤ g := by
  have hcf : codeFault true [] f = none := fault_alone hV.code
  have hvb := valid_bounds hV
  have hal := Keeps.alloc None w (.cells #[.int .i64 f.params, .int .i64 f.regs, .int .i64 f.slots, .slice ca f.code.length cc] 37)
  have b1 := heap_alloc_new w (.cells #[.int .i64 f.params, .int .i64 f.regs, .int .i64 f.slots, .slice ca f.code.length cc] 37)
  have hso := sound_true f ca cc _ (hT.more hal) (hC.more hal) hok hV.shape hcf
  have hfl := fun wx (hk : Keeps None w wx) => flow_any f ca cc wx (hT.more hk) (hC.more hk) (good_of hV.shape hV.code) n m hn hm (by omega)
  obtain ⟨wa, hwa⟩ : ∃ wa, wa = w.alloc (.cells #[.int .i64 f.params, .int .i64 f.regs, .int .i64 f.slots, .slice ca f.code.length cc] 37) := ⟨_, rfl⟩
  obtain ⟨B, hB⟩ : ∃ B, B = w.heap.size := ⟨_, rfl⟩
  unfold fnV at hso hfl ⊢
  rw [← hwa] at hal b1 hso
  rw [← hB] at b1
  have HA : Hid (wa.heap[B]? = some (.cells #[.int .i64 f.params, .int .i64 f.regs, .int .i64 f.slots, .slice ca f.code.length cc] 37 (0, 0)) ∧ Keeps None w wa ∧ ∀ wx, Keeps None w wx → _) := ⟨b1, hal, hfl⟩
  have d0 := (cell_of_heap b1 0).trans rfl
  have d1 := (cell_of_heap b1 1).trans rfl
  have d2 := (cell_of_heap b1 2).trans rfl
  have d3 := (cell_of_heap b1 3).trans rfl
  clear hal b1 hfl hT hC hok hV hcf hvb hn hm
  go_enter Tryd.func59, Tryd.ntmps59
  go_upto_region 1 with fail
  rw [← hwa, ← hB]
  clear hwa hB
  go_upto_region 3 with (go_at_call 76; refine hso.mono ?_; rintro _ w2 ⟨rfl, hk2⟩; have d0' := hk2.cell d0 (fun f => f); have d1' := hk2.cell d1 (fun f => f); have d2' := hk2.cell d2 (fun f => f); have d3' := hk2.cell d3 (fun f => f))
  have hkw := HA.out.2.1.trans hk2 (fun _ f _ => f)
  have hf := HA.out.2.2 _ hkw
  go_wp2_with (go_at_call 74; refine hf.mono ?_; rintro _ w3 ⟨g, rfl, hM, hk3, hg⟩)
  go_ret
  exact ⟨g, rfl, hM, hkw.trans hk3 (fun _ f _ => f), Nat.le_trans hkw.size hg⟩
end Go.Proofs.YtoehkjfdaolcnaaDoor
/-! Syncs that have nothing to wait for: the program's. -/
namespace Go.Proofs.YtoehkjfdaolcnaaDoor
set_option linter.unusedVariables false
set_option maxRecDepth 20000
set_option linter.unusedSimpArgs false
open Go.RowKit Go.HeapKit

def pend (z : Int) : Bool := bits BinOp.and .i64 z 2 != 0
def anyP (m : Nat) (M : Nat → Int) : Bool := (List.range m).any (fun s => pend (M s))
set_option maxHeartbeats 1000000 in
theorem anyPending_ok (b m c : Nat) (M : Nat → Int) (w : World) (hm : m ≤ 100) (hM : ∀ s, s < m → w.cell? ⟨b, s, none⟩ = some (.int .i64 (M s))) : Calls Tryd.prog 60 #[.slice (some ⟨b, 0, none⟩) m c] w fun e w' => e = .returned (.bool (anyP m M)) ∧ w' = w := by
  have HM : Hid (∀ s, s < m → w.cell? ⟨b, s, none⟩ = some (.int .i64 (M s))) := hM
  obtain ⟨R, hR⟩ : ∃ R, R = anyP m M := ⟨_, rfl⟩
  have HR : Hid (R = anyP m M) := hR
  rw [← hR]
  clear hM hR
  go_enter Tryd.func60, Tryd.ntmps60
  go_wp2_with fail
  go_loopw [7] (fun s7 wr => ∃ k : Nat, k ≤ m ∧ s7 = .int .i64 k ∧ (∀ s, s < k → pend (M s) = false) ∧ wr = w) (fun i _ => m - (intOf i).toNat)
  case atStart => exact ⟨0, Nat.zero_le _, rfl, fun s hs => absurd hs (by omega), rfl⟩
  case round =>
    obtain ⟨k, hk, rfl, hno, rfl⟩ := hrel
    by_cases hkm : k < m
    · have i1 : (k : Int) < (m : Int) := by omega
      have y0 := HM.out k hkm
      cases hp : pend (M k) with
      | true =>
        have hp2 : (bits BinOp.and .i64 (M k) 2 != 0) = true := hp
        have HF : Hid (R = true) := by
          rw [HR.out]
          exact List.any_eq_true.2 ⟨k, List.mem_range.2 hkm, hp⟩
        clear hp hno
        go_wp2_with fail
        go_ret
        exact ⟨by rw [HF.out]; rfl, rfl⟩
      | false =>
        have hp2 : (bits BinOp.and .i64 (M k) 2 != 0) = false := hp
        have HF : Hid (∀ s, s < k + 1 → pend (M s) = false) := fun s hs => by
          by_cases e : s = k
          · subst e; exact hp
          · exact hno s (by omega)
        clear hp hno
        go_wp2_with fail
        go_roundw
        case rel => exact ⟨k + 1, by omega, by go_num, HF.out, trivial⟩
        case measure => simp [intOf]; omega
    · have i1 : ¬ (k : Int) < (m : Int) := by omega
      have HF : Hid (R = false) := by
        unfold Hid
        rw [HR.out, Bool.eq_false_iff]
        intro h
        obtain ⟨s, h1, h2⟩ := List.any_eq_true.1 h
        rw [hno s (by have := List.mem_range.1 h1; omega)] at h2
        cases h2
      clear hno
      go_wp2_with fail
      go_ret
      exact ⟨by rw [HF.out]; rfl, rfl⟩
def idl (code : List Ins) (m : Nat) (M : Nat → Nat → Int) (q k : Nat) : Bool := decide (k < q) && (match code[k]? with | some i => decide (i.kind = 6) && !anyP m (M k) | none => false)
theorem idl_put {code : List Ins} {m : Nat} {M : Nat → Nat → Int} {q : Nat} {i : Ins} (hi : code[q]? = some i) : updT (idl code m M q) q (decide (i.kind = 6) && !anyP m (M q)) = idl code m M (q + 1) := by
  funext k
  unfold updT idl
  by_cases e : k = q
  · subst e
    rw [if_pos rfl, hi]
    simp
  · rw [if_neg e]
    by_cases e2 : k < q
    · rw [decide_eq_true e2, decide_eq_true (show k < q + 1 by omega)]
    · rw [decide_eq_false e2, decide_eq_false (show ¬ k < q + 1 by omega)]
theorem idl_zero (code : List Ins) (m : Nat) (M : Nat → Nat → Int) : idl code m M 0 = fun _ => false := by
  funext k
  unfold idl
  simp
set_option maxHeartbeats 4000000 in
theorem idle_ok (f : Fn) (ca : Option Addr) (n cc m : Nat) (fs : List Fn) (w : World) (hT : Tabs w) (hC : SeenI w ca n f.code) (hok : ∀ i ∈ f.code, i.Ok) (hV : Valid fs f) (hn : n = f.code.length) (hm : (m : Int) = f.slots) (hn5 : n ≤ 512) (hm8 : m ≤ 8) :
    Calls Tryd.prog 35 #[.agg #[.int .i64 f.params, .int .i64 f.regs, .int .i64 f.slots, .slice ca n cc]] w fun e w' => ∃ g, e = .returned (.slice (some ⟨g, 0, none⟩) n n) ∧ BoolsAt w' g n (idl f.code m (fun (k s : Nat) => sumAt (searchV f (s : Int) (0, 0)) k) n) ∧ Keeps None w w' := by
  have kA := Keeps.alloc None w (.cells #[.int .i64 f.params, .int .i64 f.regs, .int .i64 f.slots, .slice ca n cc] 37)
  have bX := heap_alloc_new w (.cells #[.int .i64 f.params, .int .i64 f.regs, .int .i64 f.slots, .slice ca n cc] 37)
  obtain ⟨W, hW⟩ : ∃ W, W = w.alloc (.cells #[.int .i64 f.params, .int .i64 f.regs, .int .i64 f.slots, .slice ca n cc] 37) := ⟨_, rfl⟩
  obtain ⟨X, hX⟩ : ∃ X, X = w.heap.size := ⟨_, rfl⟩
  rw [← hW] at kA bX
  rw [← hX] at bX
  have hmk := make_boolsT n W (by omega)
  have bB : BoolsAt (W.alloc (.cells ((List.range n).map (fun _ => Value.bool false)).toArray 4)) W.heap.size n (fun _ => false) := heap_alloc_new W _
  have kB := Keeps.alloc None W (.cells ((List.range n).map (fun _ => Value.bool false)).toArray 4)
  obtain ⟨W2, hW2⟩ : ∃ W2, W2 = W.alloc (.cells ((List.range n).map (fun _ => Value.bool false)).toArray 4) := ⟨_, rfl⟩
  obtain ⟨G, hG⟩ : ∃ G, G = W.heap.size := ⟨_, rfl⟩
  rw [← hW2] at hmk bB kB
  rw [← hG] at hmk bB
  have k2 := kA.trans kB (fun _ f _ => f)
  have bX2 := blk_kept bX kB (fun f => f)
  have hfl := flow_valid fs f ca cc W2 (hT.more k2) (by rw [← hn]; exact hC.more k2) hok hV n m hn hm
  unfold fnV at hfl
  rw [← hn] at hfl
  have x0 := (blk_cell bX2 0).trans rfl
  have x1 := (blk_cell bX2 1).trans rfl
  have x2 := (blk_cell bX2 2).trans rfl
  have x3 := (blk_cell bX2 3).trans rfl
  have xx : W.cell? ⟨X, 3, none⟩ = some (.slice ca n cc) := (blk_cell bX 3).trans rfl
  obtain ⟨MM, hMM⟩ : ∃ MM : Nat → Nat → Int, MM = fun (k s : Nat) => sumAt (searchV f (s : Int) (0, 0)) k := ⟨_, rfl⟩
  rw [← hMM] at hfl ⊢
  have hGX : X < G := by have := blk_lt bX; omega
  have HC : Hid (SeenI w ca n f.code ∧ n = f.code.length ∧ BoolsAt W2 G n (fun _ => false) ∧ Keeps None w W2 ∧ w.heap.size ≤ X ∧ X < G ∧ W2.heap[X]? = some (.cells #[.int .i64 f.params, .int .i64 f.regs, .int .i64 f.slots, .slice ca n cc] 37 (0, 0))) := ⟨hC, hn, bB, k2, by omega, hGX, bX2⟩
  clear hT hC hok hV hm kA bX bB kB k2 bX2 hn hW2 hG hMM hGX
  go_enter Tryd.func35, Tryd.ntmps35
  go_upto_region 1 with fail
  rw [← hW, ← hX]
  clear hW hX
  go_upto_block 0 with (first | (at_make; refine wpList_make_run rfl (.tmp 8) (.tmp 8) 44 rfl rfl rfl hmk ?_) | (go_at_call 59; refine Calls.mono hfl ?_; rintro _ w3 ⟨F, rfl, hM3, hk3, hF3⟩; have H3 : Hid (IsM w3 F n m n MM ∧ Keeps None W2 w3 ∧ W2.heap.size ≤ F) := ⟨hM3, hk3, hF3⟩; clear hM3 hk3 hF3))
  clear hmk hfl x0 x1 x2 x3 xx
  have hGF : G < F := by have := blk_lt HC.out.2.2.1; have := H3.out.2.2; omega
  go_wp2_with fail
  go_loopw [13] (fun s13 wr => ∃ k : Nat, k ≤ n ∧ s13 = .int .i64 k ∧ BoolsAt wr G n (idl f.code m MM k) ∧ Keeps (· = G) w3 wr) (fun i _ => n - (intOf i).toNat)
  case atStart => exact ⟨0, Nat.zero_le _, rfl, by rw [idl_zero]; exact blk_kept HC.out.2.2.1 H3.out.2.1 (fun f => f), Keeps.refl _ _⟩
  case round =>
    obtain ⟨k, hk, rfl, hbo, hkp⟩ := hrel
    have hk0 : Keeps None w wr := (HC.out.2.2.2.1.trans H3.out.2.1 (fun _ f _ => f)).trans hkp (fun i e hi => by have := HC.out.2.2.2.2; omega)
    by_cases hkn : k < n
    · have i1 : (k : Int) < (n : Int) := by omega
      obtain ⟨b, off, i, rfl, hi, hat⟩ := (HC.out.1.more hk0).at hkn
      have y0 := hat.kind
      have hM := H3.out.1.kept hkp (fun q hq e => by omega)
      have r0 := hM.row hkn hkn
      have bX := blk_kept (blk_kept HC.out.2.2.2.2.2.2 H3.out.2.1 (fun f => f)) hkp (by have := HC.out.2.2.2.2.2.1; omega)
      have x3 : wr.cell? ⟨X, 3, none⟩ = some (.slice (some ⟨b, off, none⟩) n cc) := (blk_cell bX 3).trans rfl
      have m0 := hbo.cell hkn
      obtain ⟨mv, hmv⟩ : ∃ mv, mv = idl f.code m MM k k := ⟨_, rfl⟩
      rw [← hmv] at m0
      have fz := blk_free hbo k
      obtain ⟨R, hR⟩ : ∃ R, R = anyP m (MM k) := ⟨_, rfl⟩
      have HAP : Hid (Calls Tryd.prog 60 #[.slice (some ⟨F + 1 + k, 0, none⟩) m m] wr fun e w' => e = .returned (.bool R) ∧ w' = wr) := by
        rw [hR]
        exact anyPending_ok (F + 1 + k) m m (MM k) wr (by omega) (fun s hs => hM.cell hkn hs)
      have hput : ∀ z : Bool, z = (decide (i.kind = 6) && !R) → Hid (BoolsAt (wr.setCell ⟨G, k, none⟩ (.bool z)) G n (idl f.code m MM (k + 1)) ∧ Keeps (· = G) w3 (wr.setCell ⟨G, k, none⟩ (.bool z))) := fun z hz => by
        refine ⟨?_, hkp.trans (Keeps.setCell (S := (· = G)) wr (a := ⟨G, k, none⟩) rfl _) (fun _ e _ => e)⟩
        have := hbo.put k z
        rw [hz, hR, idl_put hi] at this
        rw [hz, hR]
        exact this
      clear hmv hR hM bX hbo hkp hi hat hk0
      by_cases h6 : i.kind = 6
      · rw [h6] at y0
        have HN := hput (!R) (by rw [decide_eq_true h6]; rfl)
        clear hput h6
        go_wp2_with (go_at_call 60; refine Calls.mono HAP.out ?_; rintro _ w5 ⟨rfl, hw5⟩; have hw5' := hw5.symm; subst hw5'; clear hw5)
        exact ⟨⟨k + 1, by omega, by go_num, HN.out⟩, by simp [intOf]; omega⟩
      · have q6 : (i.kind == 6) = false := by simpa using h6
        have HN := hput false (by rw [decide_eq_false h6]; rfl)
        clear hput h6 HAP
        go_wp2_with fail
        exact ⟨⟨k + 1, by omega, by go_num, HN.out⟩, by simp [intOf]; omega⟩
    · have hkn2 : k = n := by omega
      have i1 : ¬ (k : Int) < (n : Int) := by omega
      rw [hkn2] at hbo
      have HF : Hid (BoolsAt wr G n (idl f.code m MM n) ∧ Keeps None w wr) := ⟨hbo, hk0⟩
      clear hbo hkp hk0
      go_wp2_with fail
      go_ret
      exact ⟨G, rfl, HF.out⟩
end Go.Proofs.YtoehkjfdaolcnaaDoor
/-! What is known of a function's places; the first that is loose: the program's. -/
namespace Go.Proofs.YtoehkjfdaolcnaaDoor
set_option linter.unusedVariables false
set_option maxRecDepth 20000
set_option linter.unusedSimpArgs false
open Go.RowKit Go.HeapKit

theorem bldB (ca ma ga : Option Addr) (cn cc mn mc gn gc : Nat) (w : World) : (Instr.build 64 #[(0, .slice ca cn cc), (1, .slice ma mn mc), (2, .slice ga gn gc)]).run Tryd.prog w = .ok (.agg #[.slice ca cn cc, .slice ma mn mc, .slice ga gn gc]) w := run_build _ _ _ _ (by kernel_rfl)
theorem keeps_oneT {w0 w : World} {g o : Nat} (h : Keeps (· = g) w0 w) (v : Value) : Keeps (· = g) w0 (w.setCell ⟨g, o, none⟩ v) := h.andSet (x := ⟨g, o, none⟩) (.inl rfl) v
set_option maxHeartbeats 2000000 in
theorem look_ok (ca : Option Addr) (n cc : Nat) (code : List Ins) (fa : Option Addr) (fn fc : Nat) (fs : List Fn) (w : World) (hC : SeenI w ca n code) (hF : SeenF w fa fn fs) (hG : Gd code) (hR : ∀ i ∈ code, RegOk fs i) :
    Calls Tryd.prog 34 #[.slice ca n cc, .slice fa fn fc] w fun e w' => ∃ Mg Gg met bs, e = .returned (.agg #[.slice ca n cc, .slice (some ⟨Mg, 0, none⟩) n n, .slice (some ⟨Gg, 0, none⟩) n n]) ∧ BodyAt w' fs code ca n Mg Gg met bs ∧ Keeps None w w' := by
  have kA := Keeps.alloc None w (.cells #[.slice none 0 0, .slice none 0 0, .slice none 0 0] 64)
  have bX := heap_alloc_new w (.cells #[.slice none 0 0, .slice none 0 0, .slice none 0 0] 64)
  obtain ⟨W, hW⟩ : ∃ W, W = w.alloc (.cells #[.slice none 0 0, .slice none 0 0, .slice none 0 0] 64) := ⟨_, rfl⟩
  obtain ⟨X, hX⟩ : ∃ X, X = w.heap.size := ⟨_, rfl⟩
  rw [← hW] at kA bX
  rw [← hX] at bX
  have HRE : Hid _ := reached_ok ca n cc code W (hC.more kA) hG
  have HLI : Hid (∀ w', Keeps None W w' → _) := fun w' hk => live_ok ca n cc code fa fn fc fs w' (hC.more (kA.trans hk (fun _ f _ => f))) (hF.more (kA.trans hk (fun _ f _ => f))) hG hR
  have HC : Hid (SeenI w ca n code ∧ Gd code ∧ (∀ i ∈ code, RegOk fs i) ∧ Keeps None w W ∧ W.heap[X]? = some (.cells #[.slice none 0 0, .slice none 0 0, .slice none 0 0] 64 (0, 0)) ∧ X = w.heap.size ∧ X < W.heap.size) := ⟨hC, hG, hR, kA, bX, hX, blk_lt bX⟩
  clear hC hF hG hR kA bX
  go_enter Tryd.func34, Tryd.ntmps34
  go_upto_region 1 with fail
  rw [← hW, ← hX]
  clear hW hX
  go_wp2_with fail
  refine Calls.mono HRE.out ?_
  rintro _ w1 ⟨Mg, met, rfl, hm1, hrc, hk1, hMg⟩
  have H1 : Hid (BoolsAt w1 Mg n met ∧ (∀ k, met k = true ↔ Rc code k) ∧ Keeps None W w1 ∧ W.heap.size ≤ Mg) := ⟨hm1, hrc, hk1, hMg⟩
  clear hm1 hrc hk1 hMg HRE
  go_wp2_with fail
  refine Calls.mono (HLI.out w1 H1.out.2.2.1) ?_
  rintro _ w2 ⟨Gg, bs, rfl, hg2, hlt, hlv, hk2, hGg⟩
  have hbd := bldB ca (some ⟨Mg, 0, none⟩) (some ⟨Gg, 0, none⟩) n cc n n n n w2
  have b2 := blk_kept HC.out.2.2.2.2.1 (H1.out.2.2.1.trans hk2 (fun _ f _ => f)) (fun f => f)
  have c0 := (blk_cell b2 0).trans rfl
  have c1 := (blk_cell b2 1).trans rfl
  have c2 := (blk_cell b2 2).trans rfl
  have f0 := blk_free b2 0
  have f1 := blk_free b2 1
  have f2 := blk_free b2 2
  have b3 := blk_set (i := 2) (blk_set (i := 1) (blk_set (i := 0) b2 (.slice ca n cc)) (.slice (some ⟨Mg, 0, none⟩) n n)) (.slice (some ⟨Gg, 0, none⟩) n n)
  have k3 : Keeps (· = X) w2 (((w2.setCell ⟨X, 0, none⟩ (.slice ca n cc)).setCell ⟨X, 1, none⟩ (.slice (some ⟨Mg, 0, none⟩) n n)).setCell ⟨X, 2, none⟩ (.slice (some ⟨Gg, 0, none⟩) n n)) := keeps_oneT (keeps_oneT (keeps_oneT (Keeps.refl _ w2) _) _) _
  obtain ⟨w3, hw3⟩ : ∃ w3, w3 = ((w2.setCell ⟨X, 0, none⟩ (.slice ca n cc)).setCell ⟨X, 1, none⟩ (.slice (some ⟨Mg, 0, none⟩) n n)).setCell ⟨X, 2, none⟩ (.slice (some ⟨Gg, 0, none⟩) n n) := ⟨_, rfl⟩
  rw [← hw3] at b3 k3
  have b3' : w3.heap[X]? = some (.cells #[.slice ca n cc, .slice (some ⟨Mg, 0, none⟩) n n, .slice (some ⟨Gg, 0, none⟩) n n] 64 (0, 0)) := b3
  have kk : Keeps None w w3 := ((HC.out.2.2.2.1.trans H1.out.2.2.1 (fun _ f _ => f)).trans hk2 (fun _ f _ => f)).trans k3 (fun i e hi => by have := HC.out.2.2.2.2.2.1; omega)
  have H3 : Hid (BodyAt w3 fs code ca n Mg Gg met bs ∧ Keeps None w w3 ∧ w3.heap[X]? = some (.cells #[.slice ca n cc, .slice (some ⟨Mg, 0, none⟩) n n, .slice (some ⟨Gg, 0, none⟩) n n] 64 (0, 0))) := by
    refine ⟨⟨HC.out.1.more kk, HC.out.2.1, HC.out.2.2.1, blk_kept (blk_kept H1.out.1 hk2 (fun f => f)) k3 (fun e => ?_), blk_kept hg2 k3 (fun e => ?_), H1.out.2.1, hlt, hlv⟩, kk, b3'⟩
    · have := H1.out.2.2.2; have := HC.out.2.2.2.2.2.2; omega
    · have := H1.out.2.2.1.size; have := HC.out.2.2.2.2.2.2; omega
  clear hg2 hlt hlv hk2 hGg b2 b3 b3' k3 kk HLI H1
  go_wp2_with fail
  rw [← hw3]
  clear hw3
  refine bodyPost_ret (results_one (q := 4) (ty := 64) rfl rfl (run_loadVar_row _ X 64 64 _ _ _ H3.out.2.2 Tryd.underlying64 rfl (by kernel_rfl))) rfl ?_
  exact ⟨Mg, Gg, met, bs, rfl, H3.out.1, H3.out.2.1⟩
end Go.Proofs.YtoehkjfdaolcnaaDoor
