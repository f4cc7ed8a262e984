import Derived.Test.YtiibflbfnoddmaaDoorPkAH
/-! Check. -/
namespace Go.Proofs.YtiibflbfnoddmaaDoor
set_option linter.unusedVariables false
set_option maxRecDepth 20000
open Go.RowKit Go.HeapKit

def checkF (l : List Fn) : Value := faultV (checkV l).1 (checkV l).2.1 (checkV l).2.2
def zeroF : Array Value := #[.int .i64 0, .int .i64 0, .int .i64 0]
theorem out_panic {Q : Ending → World → Prop} {tmps : Array Value} {w3 : World} {p : Nat} {c : Array Value} {e n x : Int} (ha : tmps.getD 2 undef = .pointer (some ⟨p, 0, none⟩)) (hb : w3.heap[p]? = some (.cells c 49 (0, 0))) (hs : c.size = 3)
    (hQ : ∀ w', Keeps (· = p) w3 w' → Q (.returned (faultV e n x)) w') :
    bodyPostD Tryd.prog Tryd.f30 Q (.panic (thrown e n x)) { tmps := tmps, defers := [{ target := .fn (.func 46) #[.pointer (some ⟨p, 0, none⟩)], args := #[] }] } w3 := by
  refine leaves_cons (f := 46) (args := #[.pointer (some ⟨p, 0, none⟩)]) (by simp) (by simp [go_sem]) ?_
  refine (catch_panic p c e n x w3 hb hs).mono ?_
  rintro _ u' w4 ⟨rfl, rfl, hb4, hk4⟩
  have hr := results_one (P := Tryd.prog) (fn := Tryd.f30) (q := 2) (ty := 49) rfl ha (load_fault w4 p _ e n x hb4)
  simp [Leaves, settle, hr]
  exact hQ w4 hk4
theorem out_ret {Q : Ending → World → Prop} {tmps : Array Value} {w3 : World} {p : Nat} {c : Array Value} (ha : tmps.getD 2 undef = .pointer (some ⟨p, 0, none⟩)) (hb : w3.heap[p]? = some (.cells c 49 (0, 0))) (hs : c.size = 3)
    (hQ : ∀ w', Keeps (· = p) w3 w' → Q (.returned (faultV 0 0 0)) w') :
    bodyPostD Tryd.prog Tryd.f30 Q .ret { tmps := tmps, defers := [{ target := .fn (.func 46) #[.pointer (some ⟨p, 0, none⟩)], args := #[] }] } w3 := by
  refine leaves_cons (f := 46) (args := #[.pointer (some ⟨p, 0, none⟩)]) (by simp) (by simp [go_sem]) ?_
  refine (catch_none p c w3 hb hs).mono ?_
  rintro _ u' w4 ⟨rfl, rfl, hb4, hk4⟩
  have hr := results_one (P := Tryd.prog) (fn := Tryd.f30) (q := 2) (ty := 49) rfl ha (load_fault w4 p _ 0 0 0 hb4)
  simp [Leaves, settle, hr]
  exact hQ w4 hk4
set_option maxHeartbeats 2000000 in
theorem check_any (a : Option Addr) (n c : Nat) (l : List Fn) (w : World) (hT : Tabs w) (hS : SeenF w a n l) (hok : ∀ f ∈ l, f.Ok) :
    Calls Tryd.prog 30 #[.agg #[.slice a n c]] w fun e w' => e = .returned (checkF l) ∧ Keeps None w w' := by
  have hmf : ∀ (fn : Go.Fn) (first cap : Array Value) (w : World), (Instr.makeFunc fn first cap).run Tryd.prog w = .ok (.func fn first cap) w := fun _ _ _ _ => rfl
  obtain ⟨B, hB⟩ : ∃ B, B = w.heap.size := ⟨_, rfl⟩
  obtain ⟨b1, b2⟩ := two_boxes w #[.slice a n c] zeroF 24 49
  have hk2 := keeps2 w (.cells #[.slice a n c] 24) (.cells zeroF 49)
  unfold zeroF at b1 b2 hk2
  obtain ⟨w2, hw2⟩ : ∃ w2, w2 = (w.alloc (.cells #[.slice a n c] 24)).alloc (.cells #[.int .i64 0, .int .i64 0, .int .i64 0] 49) := ⟨_, rfl⟩
  rw [← hw2, ← hB] at b1 b2
  rw [← hw2] at hk2
  have H2 : Hid (w2.heap[B]? = some (.cells #[.slice a n c] 24 (0, 0)) ∧ w2.heap[B + 1]? = some (.cells #[.int .i64 0, .int .i64 0, .int .i64 0] 49 (0, 0)) ∧ Keeps None w w2 ∧ B = w.heap.size) := ⟨b1, b2, hk2, hB⟩
  have HS : Hid (Tabs w ∧ SeenF w a n l ∧ ∀ f ∈ l, f.Ok) := ⟨hT, hS, hok⟩
  have d0 := (cell_of_heap b1 0).trans rfl
  have hsh := shapes_any a n c l w2 (hS.more hk2)
  have hln := hS.len
  have HLN : Hid (n = l.length) := hln
  clear b1 b2 hk2 hT hS hok hln
  cases hE : shapesE l with
  | outgrown => exact absurd hE (by unfold shapesE; split; · simp
                                    split <;> simp)
  | panicked ch =>
    obtain ⟨e, x, rfl, hv⟩ : ∃ e x : Int, ch = thrown e x 0 ∧ checkF l = faultV e x 0 := by
      unfold shapesE at hE
      unfold checkF checkV
      split at hE
      · rename_i h1
        rw [if_pos h1]
        injection hE with hE
        exact ⟨50, 0, hE.symm, rfl⟩
      · rename_i h1
        rw [if_neg h1]
        split at hE
        · rename_i r hr
          injection hE with hE
          rw [hr]
          exact ⟨51, r.1, hE.symm, rfl⟩
        · cases hE
    rw [hE] at hsh
    rw [hv]
    clear hE hv
    go_enter_defers Tryd.func30, Tryd.ntmps30
    rw [hw2] at d0
    go_wp2_with (go_at_call 48; rw [← hw2]; refine hsh.mono ?_; rintro _ w3 ⟨rfl, hk3⟩)
    rw [← hB]
    exact out_panic rfl (blk_kept H2.out.2.1 hk3 (fun f => f)) rfl (fun w' hk => ⟨rfl, (H2.out.2.2.1.trans hk3 (fun _ f _ => f)).trans hk (fun i e hi => by have := H2.out.2.2.2; omega)⟩)
  | returned v =>
    obtain ⟨rfl, hlen, hsv, hv⟩ : v = .tuple #[] ∧ (1 ≤ l.length ∧ l.length ≤ 32) ∧ (∀ f ∈ l, shapeV f = true) ∧ checkF l = (match firstAt (fun _ f => codeFault false l f) l 0 with
      | some r => faultV r.2.1 r.1 r.2.2
      | none => match firstAt (fun _ f => slotFault f) l 0 with
        | some r => faultV r.2.1 r.1 r.2.2
        | none => faultV 0 0 0) := by
      unfold shapesE at hE
      unfold checkF checkV
      split at hE
      · cases hE
      · rename_i h1
        rw [if_neg h1]
        split at hE
        · cases hE
        · rename_i hr
          injection hE with hE
          refine ⟨hE.symm, by omega, fun f hf => ?_, ?_⟩
          · obtain ⟨k, hk, rfl⟩ := List.mem_iff_getElem.1 hf
            have := firstAt_all _ _ _ hr k _ (List.getElem?_eq_getElem hk)
            by_cases hv : shapeV l[k] = true
            · exact hv
            · simp [hv] at this
          · rw [hr]
            cases firstAt (fun _ f => codeFault false l f) l 0 with
            | some r => rfl
            | none =>
              cases firstAt (fun _ f => slotFault f) l 0 with
              | some r => rfl
              | none => rfl
    rw [hE] at hsh
    obtain ⟨R, hR⟩ : ∃ R, R = checkF l := ⟨_, rfl⟩
    rw [← hR]
    have HR : Hid _ := hR.trans hv
    have HX : Hid (∀ f ∈ l, shapeV f = true) := hsv
    have n32 : n ≤ 32 := by have := HLN.out; omega
    clear hE hv hR hsv hlen
    go_enter_defers Tryd.func30, Tryd.ntmps30
    rw [hw2] at d0
    go_upto_region 3 with (go_at_call 48; rw [← hw2]; refine hsh.mono ?_; rintro _ w3 ⟨rfl, hk3⟩)
    rw [← hB]
    have H3 : Hid (w3.heap[B]? = some (.cells #[.slice a n c] 24 (0, 0)) ∧ w3.heap[B + 1]? = some (.cells #[.int .i64 0, .int .i64 0, .int .i64 0] 49 (0, 0)) ∧ Keeps None w w3) := ⟨blk_kept H2.out.1 hk3 (fun f => f), blk_kept H2.out.2.1 hk3 (fun f => f), H2.out.2.2.1.trans hk3 (fun _ f _ => f)⟩
    have d1 := (cell_of_heap H3.out.1 0).trans rfl
    have HBB : Hid (B = w.heap.size) := hB
    clear d0 hw2 hk3 hsh hB
    go_wp2_with fail
    go_loopw [14] (fun s14 wr => ∃ k : Nat, k ≤ n ∧ s14 = .int .i64 k ∧ (∀ (j : Nat) f, j < k → l[j]? = some f → codeFault false l f = none) ∧ wr.heap[B]? = some (.cells #[.slice a n c] 24 (0, 0)) ∧ wr.heap[B + 1]? = some (.cells #[.int .i64 0, .int .i64 0, .int .i64 0] 49 (0, 0)) ∧ Keeps None w wr) (fun i _ => n - (intOf i).toNat)
    case atStart => exact ⟨0, Nat.zero_le _, rfl, fun q _ h => by omega, H3.out.1, H3.out.2.1, H3.out.2.2⟩
    case round =>
      clear d1
      obtain ⟨k, hk, rfl, hall, hb1, hb2, hkp⟩ := hrel
      by_cases hkn : k < n
      · obtain ⟨b, off, f, ca, cc, rfl, hf, hat⟩ := (HS.out.2.1.more hkp).at hkn
        have i1 : (k : Int) < (n : Int) := by omega
        have d0 := (cell_of_heap hb1 0).trans rfl
        obtain ⟨X, hX⟩ : ∃ X, X = wr.heap.size := ⟨_, rfl⟩
        have hal := Keeps.alloc None wr (.cells #[.int .i64 f.params, .int .i64 f.regs, .int .i64 f.slots, .slice ca f.code.length cc] 41)
        have hkx := hkp.trans hal (fun _ f _ => f)
        have d0' := hal.cell d0 (fun f => f)
        have hcc := code_any (k : Int) f ca cc (some ⟨b, off, none⟩) n c _ l (HS.out.1.more hkx) (HS.out.2.1.more hkx) (hat.seen.more hal) (HS.out.2.2 f (List.mem_of_getElem? hf)).code (HX.out f (List.mem_of_getElem? hf))
        unfold codeV at hcc
        obtain ⟨y0, y1, y2, y3, -⟩ := hat
        have HK : Hid ((∀ (j : Nat) f, j < k → l[j]? = some f → codeFault false l f = none) ∧ l[k]? = some f ∧ Keeps None w (wr.alloc (.cells #[.int .i64 f.params, .int .i64 f.regs, .int .i64 f.slots, .slice ca f.code.length cc] 41)) ∧ (wr.alloc (.cells #[.int .i64 f.params, .int .i64 f.regs, .int .i64 f.slots, .slice ca f.code.length cc] 41)).heap[B]? = some (.cells #[.slice (some ⟨b, off, none⟩) n c] 24 (0, 0)) ∧ (wr.alloc (.cells #[.int .i64 f.params, .int .i64 f.regs, .int .i64 f.slots, .slice ca f.code.length cc] 41)).heap[B + 1]? = some (.cells #[.int .i64 0, .int .i64 0, .int .i64 0] 49 (0, 0))) := ⟨hall, hf, hkx, blk_kept hb1 hal (fun f => f), blk_kept hb2 hal (fun f => f)⟩
        clear hall hf hkx hb1 hb2 hal hkp
        unfold codeE at hcc
        cases hcf : codeFault false l f with
        | some r =>
          rw [hcf] at hcc
          have HC : Hid (codeFault false l f = some r) := hcf
          clear hcf
          go_wp2_with (go_at_call 49; refine hcc.mono ?_; rintro _ w4 ⟨rfl, hk4⟩)
          have hRR : R = faultV r.1 k r.2 := by
            rw [HR.out, firstAt_some _ l 0 k f r HK.out.2.1 (fun j y hj hy => HK.out.1 j y hj hy) HC.out]
            simp
          exact out_panic rfl (blk_kept HK.out.2.2.2.2 hk4 (fun f => f)) rfl (fun w' hkw => ⟨by rw [hRR], (HK.out.2.2.1.trans hk4 (fun _ f _ => f)).trans hkw (fun i e hi => by have := HBB.out; omega)⟩)
        | none =>
          rw [hcf] at hcc
          have HC : Hid (codeFault false l f = none) := hcf
          clear hcf
          go_wp2_with (go_at_call 49; refine hcc.mono ?_; rintro _ w4 ⟨rfl, hk4⟩)
          refine ⟨⟨k + 1, by omega, by simp, fun j z hj hz => ?_, blk_kept HK.out.2.2.2.1 hk4 (fun f => f), blk_kept HK.out.2.2.2.2 hk4 (fun f => f), HK.out.2.2.1.trans hk4 (fun _ f _ => f)⟩, by simp [intOf]; omega⟩
          by_cases hjk : j = k
          · subst hjk
            rw [HK.out.2.1] at hz
            obtain rfl := Option.some.inj hz
            exact HC.out
          · exact HK.out.1 j z (by omega) hz
      · have i1 : ¬ ((k : Int) < (n : Int)) := by omega
        have d1 := (cell_of_heap hb1 0).trans rfl
        have hall2 : ∀ f ∈ l, codeFault false l f = none := fun f hf => by
          obtain ⟨j, hj, rfl⟩ := List.mem_iff_getElem.1 hf
          exact hall j _ (by have := HLN.out; omega) (List.getElem?_eq_getElem hj)
        have HR2 : Hid (R = (match firstAt (fun _ f => slotFault f) l 0 with
          | some r => faultV r.2.1 r.1 r.2.2
          | none => faultV 0 0 0)) := by
          unfold Hid
          rw [HR.out, firstAt_none (fun _ f => codeFault false l f) l 0 (fun j y hy => hall2 y (List.mem_of_getElem? hy))]
        have HK : Hid ((∀ f ∈ l, codeFault false l f = none) ∧ Keeps None w wr ∧ wr.heap[B]? = some (.cells #[.slice a n c] 24 (0, 0)) ∧ wr.heap[B + 1]? = some (.cells #[.int .i64 0, .int .i64 0, .int .i64 0] 49 (0, 0))) := ⟨hall2, hkp, hb1, hb2⟩
        clear hall hall2 hkp hb1 hb2 H3
        go_wp2_with fail
        go_loopw [29] (fun s29 wr => ∃ k : Nat, k ≤ n ∧ s29 = .int .i64 k ∧ (∀ (j : Nat) f, j < k → l[j]? = some f → slotFault f = none) ∧ wr.heap[B + 1]? = some (.cells #[.int .i64 0, .int .i64 0, .int .i64 0] 49 (0, 0)) ∧ Keeps None w wr) (fun i _ => n - (intOf i).toNat)
        case atStart => exact ⟨0, Nat.zero_le _, rfl, fun q _ h => by omega, HK.out.2.2.2, HK.out.2.1⟩
        case round =>
          clear d1 i1
          obtain ⟨k, hk, rfl, hall, hb2, hkp⟩ := hrel
          by_cases hkn : k < n
          · obtain ⟨b, off, f, ca, cc, rfl, hf, hat⟩ := (HS.out.2.1.more hkp).at hkn
            have i1 : (k : Int) < (n : Int) := by omega
            have hal := Keeps.alloc None wr (.cells #[.int .i64 f.params, .int .i64 f.regs, .int .i64 f.slots, .slice ca f.code.length cc] 41)
            have hkx := hkp.trans hal (fun _ f _ => f)
            have hcc := slots_any (k : Int) f ca cc _ false l (HS.out.1.more hkx) (hat.seen.more hal) (HX.out f (List.mem_of_getElem? hf)) (HK.out.1 f (List.mem_of_getElem? hf))
            unfold fnV at hcc
            obtain ⟨y0, y1, y2, y3, -⟩ := hat
            have HJ : Hid ((∀ (j : Nat) f, j < k → l[j]? = some f → slotFault f = none) ∧ l[k]? = some f ∧ Keeps None w (wr.alloc (.cells #[.int .i64 f.params, .int .i64 f.regs, .int .i64 f.slots, .slice ca f.code.length cc] 41)) ∧ (wr.alloc (.cells #[.int .i64 f.params, .int .i64 f.regs, .int .i64 f.slots, .slice ca f.code.length cc] 41)).heap[B + 1]? = some (.cells #[.int .i64 0, .int .i64 0, .int .i64 0] 49 (0, 0))) := ⟨hall, hf, hkx, blk_kept hb2 hal (fun f => f)⟩
            clear hall hf hkx hb2 hal hkp
            unfold slotsE at hcc
            cases hcf : slotFault f with
            | some r =>
              rw [hcf] at hcc
              have HC : Hid (slotFault f = some r) := hcf
              clear hcf
              go_wp2_with (go_at_call 50; refine hcc.mono ?_; rintro _ w4 ⟨rfl, hk4⟩)
              have hRR : R = faultV r.1 k r.2 := by
                rw [HR2.out, firstAt_some _ l 0 k f r HJ.out.2.1 (fun j y hj hy => HJ.out.1 j y hj hy) HC.out]
                simp
              exact out_panic rfl (blk_kept HJ.out.2.2.2 hk4 (fun f => f)) rfl (fun w' hkw => ⟨by rw [hRR], (HJ.out.2.2.1.trans hk4 (fun _ f _ => f)).trans hkw (fun i e hi => by have := HBB.out; omega)⟩)
            | none =>
              rw [hcf] at hcc
              have HC : Hid (slotFault f = none) := hcf
              clear hcf
              go_wp2_with (go_at_call 50; refine hcc.mono ?_; rintro _ w4 ⟨rfl, hk4⟩)
              refine ⟨⟨k + 1, by omega, by simp, fun j z hj hz => ?_, blk_kept HJ.out.2.2.2 hk4 (fun f => f), HJ.out.2.2.1.trans hk4 (fun _ f _ => f)⟩, by simp [intOf]; omega⟩
              by_cases hjk : j = k
              · subst hjk
                rw [HJ.out.2.1] at hz
                obtain rfl := Option.some.inj hz
                exact HC.out
              · exact HJ.out.1 j z (by omega) hz
          · have i1 : ¬ ((k : Int) < (n : Int)) := by omega
            have hRR : R = faultV 0 0 0 := by
              rw [HR2.out, firstAt_none (fun _ f => slotFault f) l 0 (fun j y hy => hall j y (by have := HLN.out; have := (List.getElem?_eq_some_iff.1 hy).1; omega) hy)]
            have c0 := (cell_of_heap hb2 0).trans rfl
            have c1 := (cell_of_heap hb2 1).trans rfl
            have c2 := (cell_of_heap hb2 2).trans rfl
            have z0 := blk_free hb2 0
            have z1 := blk_free hb2 1
            have z2 := blk_free hb2 2
            have b3 := blk_set (i := 2) (blk_set (i := 1) (blk_set (i := 0) hb2 (.int .i64 0)) (.int .i64 0)) (.int .i64 0)
            have k3 : Keeps (· = B + 1) wr (((wr.setCell ⟨B + 1, 0, none⟩ (.int .i64 0)).setCell ⟨B + 1, 1, none⟩ (.int .i64 0)).setCell ⟨B + 1, 2, none⟩ (.int .i64 0)) := (((Keeps.refl (· = B + 1) wr).andSet (x := ⟨B + 1, 0, none⟩) (.inl rfl) _).andSet (x := ⟨B + 1, 1, none⟩) (.inl rfl) _).andSet (x := ⟨B + 1, 2, none⟩) (.inl rfl) _
            have HZ : Hid (R = faultV 0 0 0 ∧ _ ∧ Keeps None w wr ∧ Keeps (· = B + 1) wr _) := ⟨hRR, b3, hkp, k3⟩
            clear hall hb2 hkp hRR b3 k3
            go_wp2_with fail
            exact out_ret rfl HZ.out.2.1 rfl (fun w' hkw => ⟨by rw [HZ.out.1], (HZ.out.2.2.1.trans HZ.out.2.2.2 (fun i e hi => by have := HBB.out; omega)).trans hkw (fun i e hi => by have := HBB.out; omega)⟩)
end Go.Proofs.YtiibflbfnoddmaaDoor
