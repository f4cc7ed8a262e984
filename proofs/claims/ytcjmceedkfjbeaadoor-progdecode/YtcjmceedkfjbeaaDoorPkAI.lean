import Derived.Test.YtcjmceedkfjbeaaDoorPkAH
import Derived.Laws.StructEq
import Derived.Test.YtcjmceedkfjbeaaDoorPkAB
/-! Check. -/
namespace Go.Proofs.YtcjmceedkfjbeaaDoor
set_option linter.unusedVariables false
set_option maxRecDepth 20000
open Go.RowKit Go.HeapKit

def checkF (l : List Fn) : Value := faultV (checkV l).1 (checkV l).2.1 (checkV l).2.2
def zeroF : Array Value := #[.int .i64 0, .int .i64 0, .int .i64 0]
theorem out_panic {Q : Ending → World → Prop} {tmps : Array Value} {w3 : World} {p : Nat} {c : Array Value} {e n x : Int} (ha : tmps.getD 2 undef = .pointer (some ⟨p, 0, none⟩)) (hb : w3.heap[p]? = some (.cells c 31 (0, 0))) (hs : c.size = 3)
    (hQ : ∀ w', Keeps (· = p) w3 w' → Q (.returned (faultV e n x)) w') :
    bodyPostD Tryd.prog Tryd.f8 Q (.panic (thrown e n x)) { tmps := tmps, defers := [{ target := .fn (.func 22) #[.pointer (some ⟨p, 0, none⟩)], args := #[] }] } w3 := by
  refine leaves_cons (f := 22) (args := #[.pointer (some ⟨p, 0, none⟩)]) (by simp) (by simp [go_sem]) ?_
  refine (catch_panic p c e n x w3 hb hs).mono ?_
  rintro _ u' w4 ⟨rfl, rfl, hb4, hk4⟩
  have hr := results_one (P := Tryd.prog) (fn := Tryd.f8) (q := 2) (ty := 31) rfl ha (load_fault w4 p _ e n x hb4)
  simp [Leaves, settle, hr]
  exact hQ w4 hk4
theorem out_ret {Q : Ending → World → Prop} {tmps : Array Value} {w3 : World} {p : Nat} {c : Array Value} (ha : tmps.getD 2 undef = .pointer (some ⟨p, 0, none⟩)) (hb : w3.heap[p]? = some (.cells c 31 (0, 0))) (hs : c.size = 3)
    (hQ : ∀ w', Keeps (· = p) w3 w' → Q (.returned (faultV 0 0 0)) w') :
    bodyPostD Tryd.prog Tryd.f8 Q .ret { tmps := tmps, defers := [{ target := .fn (.func 22) #[.pointer (some ⟨p, 0, none⟩)], args := #[] }] } w3 := by
  refine leaves_cons (f := 22) (args := #[.pointer (some ⟨p, 0, none⟩)]) (by simp) (by simp [go_sem]) ?_
  refine (catch_none p c w3 hb hs).mono ?_
  rintro _ u' w4 ⟨rfl, rfl, hb4, hk4⟩
  have hr := results_one (P := Tryd.prog) (fn := Tryd.f8) (q := 2) (ty := 31) rfl ha (load_fault w4 p _ 0 0 0 hb4)
  simp [Leaves, settle, hr]
  exact hQ w4 hk4
set_option maxHeartbeats 2000000 in
theorem check_any (a : Option Addr) (n c : Nat) (l : List Fn) (w : World) (hT : Tabs w) (hS : SeenF w a n l) (hok : ∀ f ∈ l, f.Ok) :
    Calls Tryd.prog 8 #[.agg #[.slice a n c]] w fun e w' => e = .returned (checkF l) ∧ Keeps None w w' := by
  have hmf : ∀ (fn : Go.Fn) (first cap : Array Value) (w : World), (Instr.makeFunc fn first cap).run Tryd.prog w = .ok (.func fn first cap) w := fun _ _ _ _ => rfl
  obtain ⟨B, hB⟩ : ∃ B, B = w.heap.size := ⟨_, rfl⟩
  obtain ⟨b1, b2⟩ := two_boxes w #[.slice a n c] zeroF 25 31
  have hk2 := keeps2 w (.cells #[.slice a n c] 25) (.cells zeroF 31)
  unfold zeroF at b1 b2 hk2
  obtain ⟨w2, hw2⟩ : ∃ w2, w2 = (w.alloc (.cells #[.slice a n c] 25)).alloc (.cells #[.int .i64 0, .int .i64 0, .int .i64 0] 31) := ⟨_, rfl⟩
  rw [← hw2, ← hB] at b1 b2
  rw [← hw2] at hk2
  have H2 : Hid (w2.heap[B]? = some (.cells #[.slice a n c] 25 (0, 0)) ∧ w2.heap[B + 1]? = some (.cells #[.int .i64 0, .int .i64 0, .int .i64 0] 31 (0, 0)) ∧ Keeps None w w2 ∧ B = w.heap.size) := ⟨b1, b2, hk2, hB⟩
  have HS : Hid (Tabs w ∧ SeenF w a n l ∧ ∀ f ∈ l, f.Ok) := ⟨hT, hS, hok⟩
  have d0 := (cell_of_heap b1 0).trans rfl
  have hsh := shapes_any a n c l w2 (hS.more hk2)
  have hln := hS.len
  have HLN : Hid (n = l.length) := hln
  clear b1 b2 hk2 hT hS hok hln
  cases hE : shapesE l with
  | outgrown => exact absurd hE (by unfold shapesE; split; · simp
                                    split <;> simp)
  | panicked ch =>
    obtain ⟨e, x, rfl, hv⟩ : ∃ e x : Int, ch = thrown e x 0 ∧ checkF l = faultV e x 0 := by
      unfold shapesE at hE
      unfold checkF checkV
      split at hE
      · rename_i h1
        rw [if_pos h1]
        injection hE with hE
        exact ⟨50, 0, hE.symm, rfl⟩
      · rename_i h1
        rw [if_neg h1]
        split at hE
        · rename_i r hr
          injection hE with hE
          rw [hr]
          exact ⟨51, r.1, hE.symm, rfl⟩
        · cases hE
    rw [hE] at hsh
    rw [hv]
    clear hE hv
    go_enter_defers Tryd.func8, Tryd.ntmps8
    rw [hw2] at d0
    go_wp2_with (go_at_call 23; rw [← hw2]; refine hsh.mono ?_; rintro _ w3 ⟨rfl, hk3⟩)
    rw [← hB]
    exact out_panic rfl (blk_kept H2.out.2.1 hk3 (fun f => f)) rfl (fun w' hk => ⟨rfl, (H2.out.2.2.1.trans hk3 (fun _ f _ => f)).trans hk (fun i e hi => by have := H2.out.2.2.2; omega)⟩)
  | returned v =>
    obtain ⟨rfl, hlen, hsv, hv⟩ : v = .tuple #[] ∧ (1 ≤ l.length ∧ l.length ≤ 32) ∧ (∀ f ∈ l, shapeV f = true) ∧ checkF l = (match firstAt (fun _ f => codeFault false l f) l 0 with
      | some r => faultV r.2.1 r.1 r.2.2
      | none => match firstAt (fun _ f => slotFault f) l 0 with
        | some r => faultV r.2.1 r.1 r.2.2
        | none => faultV 0 0 0) := by
      unfold shapesE at hE
      unfold checkF checkV
      split at hE
      · cases hE
      · rename_i h1
        rw [if_neg h1]
        split at hE
        · cases hE
        · rename_i hr
          injection hE with hE
          refine ⟨hE.symm, by omega, fun f hf => ?_, ?_⟩
          · obtain ⟨k, hk, rfl⟩ := List.mem_iff_getElem.1 hf
            have := firstAt_all _ _ _ hr k _ (List.getElem?_eq_getElem hk)
            by_cases hv : shapeV l[k] = true
            · exact hv
            · simp [hv] at this
          · rw [hr]
            cases firstAt (fun _ f => codeFault false l f) l 0 with
            | some r => rfl
            | none =>
              cases firstAt (fun _ f => slotFault f) l 0 with
              | some r => rfl
              | none => rfl
    rw [hE] at hsh
    obtain ⟨R, hR⟩ : ∃ R, R = checkF l := ⟨_, rfl⟩
    rw [← hR]
    have HR : Hid _ := hR.trans hv
    have HX : Hid (∀ f ∈ l, shapeV f = true) := hsv
    have n32 : n ≤ 32 := by have := HLN.out; omega
    clear hE hv hR hsv hlen
    go_enter_defers Tryd.func8, Tryd.ntmps8
    rw [hw2] at d0
    go_upto_region 3 with (go_at_call 23; rw [← hw2]; refine hsh.mono ?_; rintro _ w3 ⟨rfl, hk3⟩)
    rw [← hB]
    have H3 : Hid (w3.heap[B]? = some (.cells #[.slice a n c] 25 (0, 0)) ∧ w3.heap[B + 1]? = some (.cells #[.int .i64 0, .int .i64 0, .int .i64 0] 31 (0, 0)) ∧ Keeps None w w3) := ⟨blk_kept H2.out.1 hk3 (fun f => f), blk_kept H2.out.2.1 hk3 (fun f => f), H2.out.2.2.1.trans hk3 (fun _ f _ => f)⟩
    have d1 := (cell_of_heap H3.out.1 0).trans rfl
    have HBB : Hid (B = w.heap.size) := hB
    clear d0 hw2 hk3 hsh hB
    go_wp2_with fail
    go_loopw [14] (fun s14 wr => ∃ k : Nat, k ≤ n ∧ s14 = .int .i64 k ∧ (∀ (j : Nat) f, j < k → l[j]? = some f → codeFault false l f = none) ∧ wr.heap[B]? = some (.cells #[.slice a n c] 25 (0, 0)) ∧ wr.heap[B + 1]? = some (.cells #[.int .i64 0, .int .i64 0, .int .i64 0] 31 (0, 0)) ∧ Keeps None w wr) (fun i _ => n - (intOf i).toNat)
    case atStart => exact ⟨0, Nat.zero_le _, rfl, fun q _ h => by omega, H3.out.1, H3.out.2.1, H3.out.2.2⟩
    case round =>
      clear d1
      obtain ⟨k, hk, rfl, hall, hb1, hb2, hkp⟩ := hrel
      by_cases hkn : k < n
      · obtain ⟨b, off, f, ca, cc, rfl, hf, hat⟩ := (HS.out.2.1.more hkp).at hkn
        have i1 : (k : Int) < (n : Int) := by omega
        have d0 := (cell_of_heap hb1 0).trans rfl
        obtain ⟨X, hX⟩ : ∃ X, X = wr.heap.size := ⟨_, rfl⟩
        have hal := Keeps.alloc None wr (.cells #[.int .i64 f.params, .int .i64 f.regs, .int .i64 f.slots, .slice ca f.code.length cc] 40)
        have hkx := hkp.trans hal (fun _ f _ => f)
        have d0' := hal.cell d0 (fun f => f)
        have hcc := code_any (k : Int) f ca cc (some ⟨b, off, none⟩) n c _ l (HS.out.1.more hkx) (HS.out.2.1.more hkx) (hat.seen.more hal) (HS.out.2.2 f (List.mem_of_getElem? hf)).code (HX.out f (List.mem_of_getElem? hf))
        unfold codeV at hcc
        obtain ⟨y0, y1, y2, y3, -⟩ := hat
        have HK : Hid ((∀ (j : Nat) f, j < k → l[j]? = some f → codeFault false l f = none) ∧ l[k]? = some f ∧ Keeps None w (wr.alloc (.cells #[.int .i64 f.params, .int .i64 f.regs, .int .i64 f.slots, .slice ca f.code.length cc] 40)) ∧ (wr.alloc (.cells #[.int .i64 f.params, .int .i64 f.regs, .int .i64 f.slots, .slice ca f.code.length cc] 40)).heap[B]? = some (.cells #[.slice (some ⟨b, off, none⟩) n c] 25 (0, 0)) ∧ (wr.alloc (.cells #[.int .i64 f.params, .int .i64 f.regs, .int .i64 f.slots, .slice ca f.code.length cc] 40)).heap[B + 1]? = some (.cells #[.int .i64 0, .int .i64 0, .int .i64 0] 31 (0, 0))) := ⟨hall, hf, hkx, blk_kept hb1 hal (fun f => f), blk_kept hb2 hal (fun f => f)⟩
        clear hall hf hkx hb1 hb2 hal hkp
        unfold codeE at hcc
        cases hcf : codeFault false l f with
        | some r =>
          rw [hcf] at hcc
          have HC : Hid (codeFault false l f = some r) := hcf
          clear hcf
          go_wp2_with (go_at_call 24; refine hcc.mono ?_; rintro _ w4 ⟨rfl, hk4⟩)
          have hRR : R = faultV r.1 k r.2 := by
            rw [HR.out, firstAt_some _ l 0 k f r HK.out.2.1 (fun j y hj hy => HK.out.1 j y hj hy) HC.out]
            simp
          exact out_panic rfl (blk_kept HK.out.2.2.2.2 hk4 (fun f => f)) rfl (fun w' hkw => ⟨by rw [hRR], (HK.out.2.2.1.trans hk4 (fun _ f _ => f)).trans hkw (fun i e hi => by have := HBB.out; omega)⟩)
        | none =>
          rw [hcf] at hcc
          have HC : Hid (codeFault false l f = none) := hcf
          clear hcf
          go_wp2_with (go_at_call 24; refine hcc.mono ?_; rintro _ w4 ⟨rfl, hk4⟩)
          refine ⟨⟨k + 1, by omega, by simp, fun j z hj hz => ?_, blk_kept HK.out.2.2.2.1 hk4 (fun f => f), blk_kept HK.out.2.2.2.2 hk4 (fun f => f), HK.out.2.2.1.trans hk4 (fun _ f _ => f)⟩, by simp [intOf]; omega⟩
          by_cases hjk : j = k
          · subst hjk
            rw [HK.out.2.1] at hz
            obtain rfl := Option.some.inj hz
            exact HC.out
          · exact HK.out.1 j z (by omega) hz
      · have i1 : ¬ ((k : Int) < (n : Int)) := by omega
        have d1 := (cell_of_heap hb1 0).trans rfl
        have hall2 : ∀ f ∈ l, codeFault false l f = none := fun f hf => by
          obtain ⟨j, hj, rfl⟩ := List.mem_iff_getElem.1 hf
          exact hall j _ (by have := HLN.out; omega) (List.getElem?_eq_getElem hj)
        have HR2 : Hid (R = (match firstAt (fun _ f => slotFault f) l 0 with
          | some r => faultV r.2.1 r.1 r.2.2
          | none => faultV 0 0 0)) := by
          unfold Hid
          rw [HR.out, firstAt_none (fun _ f => codeFault false l f) l 0 (fun j y hy => hall2 y (List.mem_of_getElem? hy))]
        have HK : Hid ((∀ f ∈ l, codeFault false l f = none) ∧ Keeps None w wr ∧ wr.heap[B]? = some (.cells #[.slice a n c] 25 (0, 0)) ∧ wr.heap[B + 1]? = some (.cells #[.int .i64 0, .int .i64 0, .int .i64 0] 31 (0, 0))) := ⟨hall2, hkp, hb1, hb2⟩
        clear hall hall2 hkp hb1 hb2 H3
        go_wp2_with fail
        go_loopw [29] (fun s29 wr => ∃ k : Nat, k ≤ n ∧ s29 = .int .i64 k ∧ (∀ (j : Nat) f, j < k → l[j]? = some f → slotFault f = none) ∧ wr.heap[B + 1]? = some (.cells #[.int .i64 0, .int .i64 0, .int .i64 0] 31 (0, 0)) ∧ Keeps None w wr) (fun i _ => n - (intOf i).toNat)
        case atStart => exact ⟨0, Nat.zero_le _, rfl, fun q _ h => by omega, HK.out.2.2.2, HK.out.2.1⟩
        case round =>
          clear d1 i1
          obtain ⟨k, hk, rfl, hall, hb2, hkp⟩ := hrel
          by_cases hkn : k < n
          · obtain ⟨b, off, f, ca, cc, rfl, hf, hat⟩ := (HS.out.2.1.more hkp).at hkn
            have i1 : (k : Int) < (n : Int) := by omega
            have hal := Keeps.alloc None wr (.cells #[.int .i64 f.params, .int .i64 f.regs, .int .i64 f.slots, .slice ca f.code.length cc] 40)
            have hkx := hkp.trans hal (fun _ f _ => f)
            have hcc := slots_any (k : Int) f ca cc _ false l (HS.out.1.more hkx) (hat.seen.more hal) (HX.out f (List.mem_of_getElem? hf)) (HK.out.1 f (List.mem_of_getElem? hf))
            unfold fnV at hcc
            obtain ⟨y0, y1, y2, y3, -⟩ := hat
            have HJ : Hid ((∀ (j : Nat) f, j < k → l[j]? = some f → slotFault f = none) ∧ l[k]? = some f ∧ Keeps None w (wr.alloc (.cells #[.int .i64 f.params, .int .i64 f.regs, .int .i64 f.slots, .slice ca f.code.length cc] 40)) ∧ (wr.alloc (.cells #[.int .i64 f.params, .int .i64 f.regs, .int .i64 f.slots, .slice ca f.code.length cc] 40)).heap[B + 1]? = some (.cells #[.int .i64 0, .int .i64 0, .int .i64 0] 31 (0, 0))) := ⟨hall, hf, hkx, blk_kept hb2 hal (fun f => f)⟩
            clear hall hf hkx hb2 hal hkp
            unfold slotsE at hcc
            cases hcf : slotFault f with
            | some r =>
              rw [hcf] at hcc
              have HC : Hid (slotFault f = some r) := hcf
              clear hcf
              go_wp2_with (go_at_call 25; refine hcc.mono ?_; rintro _ w4 ⟨rfl, hk4⟩)
              have hRR : R = faultV r.1 k r.2 := by
                rw [HR2.out, firstAt_some _ l 0 k f r HJ.out.2.1 (fun j y hj hy => HJ.out.1 j y hj hy) HC.out]
                simp
              exact out_panic rfl (blk_kept HJ.out.2.2.2 hk4 (fun f => f)) rfl (fun w' hkw => ⟨by rw [hRR], (HJ.out.2.2.1.trans hk4 (fun _ f _ => f)).trans hkw (fun i e hi => by have := HBB.out; omega)⟩)
            | none =>
              rw [hcf] at hcc
              have HC : Hid (slotFault f = none) := hcf
              clear hcf
              go_wp2_with (go_at_call 25; refine hcc.mono ?_; rintro _ w4 ⟨rfl, hk4⟩)
              refine ⟨⟨k + 1, by omega, by simp, fun j z hj hz => ?_, blk_kept HJ.out.2.2.2 hk4 (fun f => f), HJ.out.2.2.1.trans hk4 (fun _ f _ => f)⟩, by simp [intOf]; omega⟩
              by_cases hjk : j = k
              · subst hjk
                rw [HJ.out.2.1] at hz
                obtain rfl := Option.some.inj hz
                exact HC.out
              · exact HJ.out.1 j z (by omega) hz
          · have i1 : ¬ ((k : Int) < (n : Int)) := by omega
            have hRR : R = faultV 0 0 0 := by
              rw [HR2.out, firstAt_none (fun _ f => slotFault f) l 0 (fun j y hy => hall j y (by have := HLN.out; have := (List.getElem?_eq_some_iff.1 hy).1; omega) hy)]
            have c0 := (cell_of_heap hb2 0).trans rfl
            have c1 := (cell_of_heap hb2 1).trans rfl
            have c2 := (cell_of_heap hb2 2).trans rfl
            have z0 := blk_free hb2 0
            have z1 := blk_free hb2 1
            have z2 := blk_free hb2 2
            have b3 := blk_set (i := 2) (blk_set (i := 1) (blk_set (i := 0) hb2 (.int .i64 0)) (.int .i64 0)) (.int .i64 0)
            have k3 : Keeps (· = B + 1) wr (((wr.setCell ⟨B + 1, 0, none⟩ (.int .i64 0)).setCell ⟨B + 1, 1, none⟩ (.int .i64 0)).setCell ⟨B + 1, 2, none⟩ (.int .i64 0)) := (((Keeps.refl (· = B + 1) wr).andSet (x := ⟨B + 1, 0, none⟩) (.inl rfl) _).andSet (x := ⟨B + 1, 1, none⟩) (.inl rfl) _).andSet (x := ⟨B + 1, 2, none⟩) (.inl rfl) _
            have HZ : Hid (R = faultV 0 0 0 ∧ _ ∧ Keeps None w wr ∧ Keeps (· = B + 1) wr _) := ⟨hRR, b3, hkp, k3⟩
            clear hall hb2 hkp hRR b3 k3
            go_wp2_with fail
            exact out_ret rfl HZ.out.2.1 rfl (fun w' hkw => ⟨by rw [HZ.out.1], (HZ.out.2.2.1.trans HZ.out.2.2.2 (fun i e hi => by have := HBB.out; omega)).trans hkw (fun i e hi => by have := HBB.out; omega)⟩)
end Go.Proofs.YtcjmceedkfjbeaaDoor
/-! The statements' 'head': one little program is taken, one is refused. -/
namespace Go.Proofs.YtcjmceedkfjbeaaDoor
set_option linter.unusedVariables false
set_option maxRecDepth 20000
open Go.RowKit Go.HeapKit

def retF (a : Int) : Fn := ⟨0, 1, 0, [⟨9, a, 0, 0, 0⟩]⟩
theorem ret_ok (a : Int) (ha : okI a) : ∀ f ∈ [retF a], f.Ok := by
  intro f hf
  simp at hf
  subst hf
  refine ⟨by simp [retF, okI], by simp [retF, okI], by simp [retF, okI], fun i hi => ?_⟩
  simp [retF] at hi
  subst hi
  exact ⟨by simp [okI], ha, by simp [okI], by simp [okI], by simp [okI]⟩
theorem ret_seen (w : World) (a : Int) : SeenF ((w.alloc (.cells #[.int .i64 9, .int .i64 a, .int .i64 0, .int .i64 0, .int .i64 0] 42)).alloc (.cells #[.int .i64 0, .int .i64 1, .int .i64 0, .slice (some ⟨w.heap.size, 0, none⟩) 1 1] 40)) (some ⟨w.heap.size + 1, 0, none⟩) 1 [retF a] := by
  obtain ⟨b1, b2⟩ := two_boxes w #[.int .i64 9, .int .i64 a, .int .i64 0, .int .i64 0, .int .i64 0] #[.int .i64 0, .int .i64 1, .int .i64 0, .slice (some ⟨w.heap.size, 0, none⟩) 1 1] 42 40
  refine ⟨rfl, fun _ => ⟨_, 0, rfl, blk_lt b2, fun k f hf => ?_⟩⟩
  cases k with
  | succ k => simp at hf
  | zero =>
    simp at hf
    subst hf
    refine ⟨some ⟨w.heap.size, 0, none⟩, 1, ⟨(cell_of_heap b2 0).trans rfl, (cell_of_heap b2 1).trans rfl, (cell_of_heap b2 2).trans rfl, (cell_of_heap b2 3).trans rfl, ⟨rfl, fun _ => ⟨_, 0, rfl, blk_lt b1, fun j i hi => ?_⟩⟩⟩⟩
    cases j with
    | succ j => simp [retF] at hi
    | zero =>
      simp [retF] at hi
      subst hi
      exact ⟨(cell_of_heap b1 0).trans rfl, (cell_of_heap b1 1).trans rfl, (cell_of_heap b1 2).trans rfl, (cell_of_heap b1 3).trans rfl, (cell_of_heap b1 4).trans rfl⟩
theorem ret_good : checkF [retF 0] = faultV 0 0 0 := by rfl
theorem ret_bad : checkF [retF 1] = faultV 52 0 0 := by rfl
theorem ret_any (a : Int) (ha : okI a) (w : World) (hT : Tabs w) : Calls Tryd.prog 8 #[.agg #[.slice (some ⟨w.heap.size + 1, 0, none⟩) 1 1]] ((w.alloc (.cells #[.int .i64 9, .int .i64 a, .int .i64 0, .int .i64 0, .int .i64 0] 42)).alloc (.cells #[.int .i64 0, .int .i64 1, .int .i64 0, .slice (some ⟨w.heap.size, 0, none⟩) 1 1] 40)) fun e w' => e = .returned (checkF [retF a]) ∧ Keeps None w w' :=
  (check_any _ 1 1 [retF a] _ (hT.more (keeps2 w _ _)) (ret_seen w a) (ret_ok a ha)).mono fun e w' h => ⟨h.1, (keeps2 w _ _).trans h.2 (fun _ f _ => f)⟩
set_option maxHeartbeats 1000000 in
theorem head_any (w : World) (hT : Tabs w) : Calls Tryd.prog 7 #[] w fun e w' => e = .returned (.bool true) ∧ Keeps None w w' := by
  have h1 := ret_any 0 (by simp [okI]) w hT
  rw [ret_good] at h1
  unfold faultV at h1
  have h2 := fun (wx : World) (hk : Keeps None w wx) => ret_any 1 (by simp [okI]) wx (hT.more hk)
  rw [ret_bad] at h2
  unfold faultV at h2
  have H2 : Hid _ := h2
  clear h2 hT
  go_enter Tryd.func7, Tryd.ntmps7
  go_upto_region 2 with (go_at_call 8; refine h1.mono ?_; rintro _ w2 ⟨rfl, hk2⟩)
  have hk3 := hk2.andAlloc (.cells #[.int .i64 0, .int .i64 0, .int .i64 0] 31)
  have b3 := heap_alloc_new w2 (.cells #[.int .i64 0, .int .i64 0, .int .i64 0] 31)
  obtain ⟨w3, hw3⟩ : ∃ w3, w3 = w2.alloc (.cells #[.int .i64 0, .int .i64 0, .int .i64 0] 31) := ⟨_, rfl⟩
  obtain ⟨X, hX⟩ : ∃ X, X = w2.heap.size := ⟨_, rfl⟩
  rw [← hw3] at hk3 b3
  rw [← hX] at b3
  have h4 := H2.out w3 hk3
  have H3 : Hid (Keeps None w w3 ∧ w3.heap[X]? = _) := ⟨hk3, b3⟩
  clear hk3 b3 hk2 h1
  rw [← hw3, ← hX]
  clear hw3 hX
  go_upto_region 3 with (go_at_call 8; refine h4.mono ?_; rintro _ w5 ⟨rfl, hk5⟩)
  have hal := Keeps.alloc None w5 (.cells #[.int .i64 52, .int .i64 0, .int .i64 0] 31)
  have b5 := blk_kept (blk_kept H3.out.2 hk5 (fun f => f)) hal (fun f => f)
  have b6 := heap_alloc_new w5 (.cells #[.int .i64 52, .int .i64 0, .int .i64 0] 31)
  obtain ⟨w6, hw6⟩ : ∃ w6, w6 = w5.alloc (.cells #[.int .i64 52, .int .i64 0, .int .i64 0] 31) := ⟨_, rfl⟩
  obtain ⟨Y, hY⟩ : ∃ Y, Y = w5.heap.size := ⟨_, rfl⟩
  rw [← hw6] at b5 b6 hal
  rw [← hY] at b6
  have HK : Hid (Keeps None w w6) := (H3.out.1.trans hk5 (fun _ f _ => f)).trans hal (fun _ f _ => f)
  have c0 := (cell_of_heap b5 0).trans rfl
  have c1 := (cell_of_heap b5 1).trans rfl
  have c2 := (cell_of_heap b5 2).trans rfl
  have e0 := (cell_of_heap b6 0).trans rfl
  have e1 := (cell_of_heap b6 1).trans rfl
  have e2 := (cell_of_heap b6 2).trans rfl
  rw [← hw6, ← hY]
  clear hw6 hY hal b5 b6 hk5
  go_wp2_with fail
  go_ret
  exact ⟨rfl, HK.out⟩
end Go.Proofs.YtcjmceedkfjbeaaDoor
/-! Images: their words, their sum; Encode. -/
namespace Go.Proofs.YtcjmceedkfjbeaaDoor
set_option linter.unusedVariables false
set_option maxRecDepth 20000
open Go.RowKit Go.HeapKit

def stepS (h x : Int) : Int := wrap64 (wrap64 (h * 31) + x)
def sumV (zs : List Int) : Int := zs.foldl stepS 0
def insW (i : Ins) : List Int := [i.kind, i.a, i.b, i.c, i.k]
def fnW (f : Fn) : List Int := [f.params, f.regs, f.slots, (f.code.length : Int)] ++ f.code.flatMap insW
def imageV (l : List Fn) : List Int := [1886156142, (l.length : Int)] ++ l.flatMap fnW
def encV (l : List Fn) : List Int := imageV l ++ [sumV (imageV l)]
theorem sumV_snoc (zs : List Int) (x : Int) : sumV (zs ++ [x]) = stepS (sumV zs) x := by simp [sumV]
/-- Words that can be read. -/
structure SeenW (w : World) (a : Option Addr) (n : Nat) (zs : List Int) : Prop where
  len : n = zs.length
  most : n ≤ 9223372036854775807
  ok : ∀ x ∈ zs, okI x
  ex : 0 < n → ∃ b off, a = some ⟨b, off, none⟩ ∧ b < w.heap.size ∧ ∀ k x, zs[k]? = some x → w.cell? ⟨b, off + k, none⟩ = some (.int .i64 x)
theorem SeenW.more {w w' : World} {a : Option Addr} {n : Nat} {zs : List Int} (h : SeenW w a n zs) (hk : Keeps None w w') : SeenW w' a n zs := by
  refine ⟨h.len, h.most, h.ok, fun h0 => ?_⟩
  obtain ⟨b, off, rfl, hb, hc⟩ := h.ex h0
  exact ⟨b, off, rfl, Nat.lt_of_lt_of_le hb hk.size, fun k i hi => hk.cell (hc k i hi) (fun f => f)⟩
set_option maxHeartbeats 1000000 in
theorem sum_any (a : Option Addr) (n c : Nat) (zs : List Int) (w : World) (hS : SeenW w a n zs) : Calls Tryd.prog 26 #[.slice a n c] w fun e w' => e = .returned (.int .i64 (sumV zs)) ∧ w' = w := by
  have HS : Hid (SeenW w a n zs) := hS
  have hm := hS.most
  clear hS
  go_enter Tryd.func26, Tryd.ntmps26
  go_wp2_with fail
  go_loop [3, 8] (fun s3 s8 => ∃ k : Nat, k ≤ n ∧ s8 = .int .i64 k ∧ s3 = .int .i64 (sumV (zs.take k))) (fun _ i => n - (intOf i).toNat)
  case atStart => exact ⟨0, Nat.zero_le _, rfl, by simp [sumV]⟩
  case round =>
    obtain ⟨k, hk, rfl, rfl⟩ := hrel
    by_cases hkn : k < n
    · obtain ⟨b, off, rfl, _, hc⟩ := HS.out.ex (by omega)
      obtain ⟨x, hx⟩ : ∃ x, zs[k]? = some x := ⟨zs[k]'(by have := HS.out.len; omega), List.getElem?_eq_getElem _⟩
      have y := hc k x hx
      have i1 : (k : Int) < (n : Int) := by omega
      obtain ⟨s, hs⟩ : ∃ s, s = sumV (zs.take k) := ⟨_, rfl⟩
      rw [← hs]
      have HX : Hid (sumV (zs.take (k + 1)) = stepS s x) := by
        have e : zs.take (k + 1) = zs.take k ++ [x] := by
          rw [List.take_add_one, hx]; rfl
        unfold Hid
        rw [e, sumV_snoc, hs]
      clear hc hx hs
      go_wp2_with fail
      refine ⟨⟨k + 1, by omega, by simp, ?_⟩, by simp [intOf]; omega⟩
      rw [HX.out]
      rfl
    · have i1 : ¬ ((k : Int) < (n : Int)) := by omega
      have HX : Hid (zs.take k = zs) := List.take_of_length_le (by have := HS.out.len; omega)
      go_wp2_with fail
      go_ret
      rw [HX.out]
      exact ⟨rfl, rfl⟩
theorem Tryd.infoI64 : (Tryd.prog.info? 2).map (fun i => (i.zero, i.size, i.bytes)) = some (some (.int .i64 0), 1, 8) := by kernel_rfl
/-- Words behind words. -/
theorem words_more (base : Nat) (s : Value) (zs xs : List Int) (n m ty g0 : Nat) (w : World) (hn : n = zs.length) (hm : m = xs.length) (h : w.ownsRow base 2 1 s n (zs.map (Value.int .i64))) (hb : base ≤ w.heap.size) (hlen : (n + m) * 8 ≤ 140737488355328) (h1 : 0 < n + m)
    (hg0 : w.heap[g0]? = some (.cells (xs.map (Value.int .i64)).toArray 2 (0, 0))) :
    ∃ g cap w', (Builtin.append_ #[22, 22] ty #[s, .slice (some ⟨g0, 0, none⟩) m m]).run Tryd.prog w = .ok (.slice (some ⟨g, 0, none⟩) (n + m) cap) w' ∧
      w'.ownsRow base 2 1 (.slice (some ⟨g, 0, none⟩) (n + m) cap) (n + m) ((zs ++ xs).map (Value.int .i64)) ∧ Keeps (fun k => s.ownBlock = some k) w w' := by
  obtain ⟨i0, hi, hz0, hz1, hz2⟩ := info_parts Tryd.infoI64
  obtain ⟨v', w1, hr, ho, hgr, hmv, -⟩ := run_append_moved (P := Tryd.prog) w base 22 ty 2 i0 _ 1 8 Tryd.underlying22 hi hz0 hz1 hz2 rfl (by decide) s n _ h
    ⟨g0, 0, none⟩ m m (xs.map (Value.int .i64)) (by simp [hm]) (by
      intro j u hu
      rw [show (⟨g0, 0, none⟩ : Addr).add j = ⟨g0, j, none⟩ by unfold Addr.add; split <;> simp_all, blk_cell hg0]
      simpa using hu) (by
      intro u hu
      simp only [List.mem_map] at hu
      obtain ⟨x, _, rfl⟩ := hu
      rfl) (by unfold maxLen; omega) hlen hb
  obtain ⟨g, cap, rfl⟩ : ∃ g cap, v' = .slice (some ⟨g, 0, none⟩) (n + m) cap := by
    rcases ho.2 with ⟨_, h0⟩ | ⟨b, cap, cur, rfl, _⟩
    · omega
    · exact ⟨b, cap, rfl⟩
  exact ⟨g, cap, w1, hr, by rw [List.map_append]; exact ho, (Keeps.refl _ w).andGrown hgr (fun k e => .inl e)⟩
theorem fnW_len (f : Fn) : (fnW f).length = 4 + f.code.length * 5 := by
  unfold fnW
  have : ∀ c : List Ins, (c.flatMap insW).length = c.length * 5 := by
    intro c
    induction c with
    | nil => rfl
    | cons i c ih => rw [List.flatMap_cons, List.length_append, ih]; simp [insW]; omega
  rw [List.length_append, this]
  simp
theorem ins_len (c : List Ins) : (c.flatMap insW).length = c.length * 5 := by
  induction c with
  | nil => rfl
  | cons i c ih => rw [List.flatMap_cons, List.length_append, ih]; simp [insW]; omega
theorem fns_len (l : List Fn) (h : ∀ f ∈ l, f.code.length ≤ 512) : (l.flatMap fnW).length ≤ l.length * 2564 := by
  induction l with
  | nil => simp
  | cons f l ih =>
    have := ih (fun g hg => h g (List.mem_cons_of_mem _ hg))
    have h1 := h f (List.mem_cons_self ..)
    rw [List.flatMap_cons, List.length_append, fnW_len, List.length_cons]
    omega
theorem flat_take {α β : Type} (g : α → List β) (l : List α) (k : Nat) (x : α) (h : l[k]? = some x) : (l.take (k + 1)).flatMap g = (l.take k).flatMap g ++ g x := by
  rw [List.take_add_one, h]; simp
theorem own_at {w : World} {base : Nat} {g n cap : Nat} {zs : List Int} (h : w.ownsRow base 2 1 (.slice (some ⟨g, 0, none⟩) n cap) n (zs.map (Value.int .i64))) : ∀ (k : Nat) x, zs[k]? = some x → w.cell? ⟨g, 0 + k, none⟩ = some (.int .i64 x) := by
  intro k x hx
  have := h.cells (g := g) rfl k (.int .i64 x) (by simp [hx])
  rwa [show (⟨g, 0, none⟩ : Addr).add k = ⟨g, 0 + k, none⟩ by unfold Addr.add; split <;> simp_all] at this
theorem own_seen {w : World} {base : Nat} {g n cap : Nat} {zs : List Int} (h : w.ownsRow base 2 1 (.slice (some ⟨g, 0, none⟩) n cap) n (zs.map (Value.int .i64))) (hn : n = zs.length) (ok : ∀ x ∈ zs, okI x) (hm : n ≤ 200000) : SeenW w (some ⟨g, 0, none⟩) n zs :=
  ⟨hn, by omega, ok, fun _ => ⟨g, 0, rfl, own_lt h rfl, own_at h⟩⟩
end Go.Proofs.YtcjmceedkfjbeaaDoor
/-! Words among the arguments. -/
namespace Go.Proofs.YtcjmceedkfjbeaaDoor
set_option linter.unusedVariables false
set_option maxRecDepth 20000
open Go.ChangeShapes Go.WideShapes Go.ChangeAt Go.RowKit Go.HeapKit Go.Deep

section
variable {H : Type} {enc : TypeId × Value → H} {w : World} {base : Nat} {held : Bool}
theorem open_words {r : Reach} {b0 : Nat} {v : Value} {d : DataW H} {ps : List MemPlace} (hval : Value.okWide Tryd.prog w r b0 22 v) (hd : DataW.Trod enc Tryd.prog w base (fun _ => true) held 22 v d ps) :
    ∃ a n c l, v = .slice a n c ∧ SeenW w a n l ∧ ((d.weights Tryd.prog 22).all (· ≤ reachBytes) = true → n * 8 ≤ 140737488351232) := by
  obtain ⟨a, n, c, rfl⟩ := okWide_slice Tryd.underlying22 hval
  obtain ⟨fuel, h⟩ := hd
  have hreach := fun hall => slice_reach Tryd.underlying22 h (a := a) (n := n) (c := c) rfl hall
  rw [show Tryd.prog.bytesOf 2 = 8 by kernel_rfl] at hreach
  rcases open_slice Tryd.underlying22 h with ⟨hcs, _⟩ | ⟨a', len, cap, m, n', D, Pl, hcs, _, hl, hm, hmm, _, hall⟩
  · simp [Value.cells] at hcs
    obtain ⟨rfl, rfl, rfl⟩ := hcs
    exact ⟨none, 0, 0, [], rfl, ⟨rfl, by omega, fun x hx => by simp at hx, fun h => by omega⟩, hreach⟩
  · simp [Value.cells] at hcs
    obtain ⟨rfl, rfl, rfl⟩ := hcs
    simp at hmm
    subst hmm
    have hc : Tryd.prog.cellsOf 2 = 1 := by kernel_rfl
    rw [hc] at hall
    have hex : ∀ i, i < n → ∃ x : Int, okI x ∧ w.cell? (a'.add i) = some (.int .i64 x) := by
      intro i hi
      obtain ⟨cs', h1, h2⟩ := hall i (by omega)
      obtain ⟨_, hlen, hcell⟩ := World.cells?_some h1
      obtain ⟨x, rfl, _, hwf⟩ := DataW.trod_int Tryd.underlying2 h2
      have := hcell 0 (by omega)
      refine ⟨x, okI_of_wf hwf, ?_⟩
      rw [Nat.mul_one] at this
      rw [show (a'.add i).add 0 = a'.add i by unfold Addr.add; split <;> simp_all] at this
      exact this
    obtain ⟨l, hll, hp⟩ := choose_list _ n hex
    refine ⟨some a', n, m, l, rfl, ⟨hll.symm, by unfold maxLen at hm; omega, fun x hx => by obtain ⟨k, hk, rfl⟩ := List.mem_iff_getElem.1 hx; exact (hp k _ (List.getElem?_eq_getElem hk)).1, fun h0 => ?_⟩, hreach⟩
    obtain ⟨b, off, sp⟩ := a'
    have hsp : sp = none := by
      obtain ⟨x, _, hx⟩ := hex 0 h0
      have := spot_none hx
      unfold Addr.add at this
      split at this <;> simp_all
    subst hsp
    refine ⟨b, off, rfl, ?_, fun k x hx => ?_⟩
    · obtain ⟨x, _, hx⟩ := hex 0 h0
      rw [add_at] at hx
      cases hb : w.heap[b]? with
      | none => simp [World.cell?, hb] at hx
      | some o => exact (Array.getElem?_eq_some_iff.1 hb).1
    · have := (hp k x hx).2
      rwa [add_at] at this
theorem open_wordsC {r : Reach} {b0 : Nat} {v : Value} {d : DataW H} {ps : List MemPlace} (hval : Value.okWide Tryd.prog w r b0 22 v) (hd : DataW.Trod enc Tryd.prog w base (fun _ => true) held 22 v d ps) :
    ∃ a n c l, v = .slice a n c ∧ SeenW w a n l ∧ ((d.weights Tryd.prog 22).all (· ≤ reachBytes) = true → n * 8 ≤ 140737488351232) ∧ n ≤ c ∧ c ≤ maxLen := by
  obtain ⟨a, n, c, rfl⟩ := okWide_slice Tryd.underlying22 hval
  obtain ⟨fuel, h⟩ := hd
  have hreach := fun hall => slice_reach Tryd.underlying22 h (a := a) (n := n) (c := c) rfl hall
  rw [show Tryd.prog.bytesOf 2 = 8 by kernel_rfl] at hreach
  rcases open_slice Tryd.underlying22 h with ⟨hcs, _⟩ | ⟨a', len, cap, m, n', D, Pl, hcs, _, hl, hm, hmm, _, hall⟩
  · simp [Value.cells] at hcs
    obtain ⟨rfl, rfl, rfl⟩ := hcs
    exact ⟨none, 0, 0, [], rfl, ⟨rfl, by omega, fun x hx => by simp at hx, fun h => by omega⟩, hreach, Nat.le_refl _, Nat.zero_le _⟩
  · simp [Value.cells] at hcs
    obtain ⟨rfl, rfl, rfl⟩ := hcs
    simp at hmm
    subst hmm
    have hc : Tryd.prog.cellsOf 2 = 1 := by kernel_rfl
    rw [hc] at hall
    have hex : ∀ i, i < n → ∃ x : Int, okI x ∧ w.cell? (a'.add i) = some (.int .i64 x) := by
      intro i hi
      obtain ⟨cs', h1, h2⟩ := hall i (by omega)
      obtain ⟨_, hlen, hcell⟩ := World.cells?_some h1
      obtain ⟨x, rfl, _, hwf⟩ := DataW.trod_int Tryd.underlying2 h2
      have := hcell 0 (by omega)
      refine ⟨x, okI_of_wf hwf, ?_⟩
      rw [Nat.mul_one] at this
      rw [show (a'.add i).add 0 = a'.add i by unfold Addr.add; split <;> simp_all] at this
      exact this
    obtain ⟨l, hll, hp⟩ := choose_list _ n hex
    refine ⟨some a', n, m, l, rfl, ⟨hll.symm, by unfold maxLen at hm; omega, fun x hx => by obtain ⟨k, hk, rfl⟩ := List.mem_iff_getElem.1 hx; exact (hp k _ (List.getElem?_eq_getElem hk)).1, fun h0 => ?_⟩, hreach, hl, hm⟩
    obtain ⟨b, off, sp⟩ := a'
    have hsp : sp = none := by
      obtain ⟨x, _, hx⟩ := hex 0 h0
      have := spot_none hx
      unfold Addr.add at this
      split at this <;> simp_all
    subst hsp
    refine ⟨b, off, rfl, ?_, fun k x hx => ?_⟩
    · obtain ⟨x, _, hx⟩ := hex 0 h0
      rw [add_at] at hx
      cases hb : w.heap[b]? with
      | none => simp [World.cell?, hb] at hx
      | some o => exact (Array.getElem?_eq_some_iff.1 hb).1
    · have := (hp k x hx).2
      rwa [add_at] at this
end
end Go.Proofs.YtcjmceedkfjbeaaDoor
/-! Decode: what it catches; a wrong sum. -/
namespace Go.Proofs.YtcjmceedkfjbeaaDoor
set_option linter.unusedVariables false
set_option maxRecDepth 20000
open Go.RowKit Go.HeapKit

/-- The two results of Decode in memory. -/
structure IsOut (w : World) (p q : Nat) (v : Value) (e : Int) : Prop where
  prog : w.heap[p]? = some (.cells #[v] 25 (0, 0))
  err : w.heap[q]? = some (.cells #[.int .i64 e] 26 (0, 0))
theorem IsOut.set {w : World} {p q : Nat} {v : Value} {e0 : Int} (h : IsOut w p q v e0) (v' : Value) (e : Int) : IsOut ((w.setCell ⟨p, 0, none⟩ v').setCell ⟨q, 0, none⟩ (.int .i64 e)) p q v' e ∧ Keeps (fun k => k = p ∨ k = q) w ((w.setCell ⟨p, 0, none⟩ v').setCell ⟨q, 0, none⟩ (.int .i64 e)) := by
  have npq : p ≠ q := blk_ne h.prog h.err (by decide)
  have h1 := Keeps.setCell (S := (· = p)) w (a := ⟨p, 0, none⟩) rfl v'
  have h2 := Keeps.setCell (S := (· = q)) (w.setCell ⟨p, 0, none⟩ v') (a := ⟨q, 0, none⟩) rfl (.int .i64 e)
  have b1 := blk_set (i := 0) h.prog v'
  have b2 := blk_kept h.err h1 npq.symm
  refine ⟨⟨?_, ?_⟩, (h1.mono (fun _ e _ => .inl e)).trans h2 (fun _ e _ => .inr e)⟩
  · exact blk_kept b1 h2 npq
  · exact blk_set (i := 0) b2 _
theorem IsOut.kept {w w' : World} {p q : Nat} {v : Value} {e0 : Int} (h : IsOut w p q v e0) (hk : Keeps None w w') : IsOut w' p q v e0 := ⟨blk_kept h.prog hk (fun f => f), blk_kept h.err hk (fun f => f)⟩
theorem dcatch_panic (p q : Nat) (v : Value) (e0 e n a : Int) (w : World) (h : IsOut w p q v e0) (he : (e != 0) = true) :
    CallsD Tryd.prog 19 #[.pointer (some ⟨p, 0, none⟩), .pointer (some ⟨q, 0, none⟩)] (.panicking (thrown e n a)) w fun e' u' w' => e' = .returned (.tuple #[]) ∧ u' = .panicking [{ v := .iface 31 (faultV e n a), recovered := true }] ∧
      IsOut w' p q (.slice none 0 0) e ∧ Keeps (fun k => k = p ∨ k = q) w w' := by
  refine callsD_of_wpS Tryd.func19 rfl fun c₀ cs hu => ?_
  unfold thrown at hu
  apply wpS_seq
  apply wpS_region
  simp [wpOpsS, go_sem, recoverD, hu, Tryd.ntmps19]
  refine (caught_fault e n a w).mono ?_
  rintro _ w2 ⟨rfl, hk2⟩
  simp [faultV, go_sem, Exit.thenS]
  refine wpS_of_wp ?_
  have hal := Keeps.alloc None w2 (.cells #[.int .i64 e, .int .i64 n, .int .i64 a] 31)
  have b3 := heap_alloc_new w2 (.cells #[.int .i64 e, .int .i64 n, .int .i64 a] 31)
  obtain ⟨w3, hw3⟩ : ∃ w3, w3 = w2.alloc (.cells #[.int .i64 e, .int .i64 n, .int .i64 a] 31) := ⟨_, rfl⟩
  obtain ⟨X, hX⟩ : ∃ X, X = w2.heap.size := ⟨_, rfl⟩
  rw [← hw3] at hal b3
  rw [← hX] at b3
  rw [← hw3, ← hX]
  have hk3 := hk2.trans hal (fun _ f _ => f)
  have hp3 := blk_kept h.prog hk3 (fun f => f)
  have hq3 := blk_kept h.err hk3 (fun f => f)
  have x0 := (cell_of_heap b3 0).trans rfl
  have p0 := (cell_of_heap hp3 0).trans rfl
  have q0 := (cell_of_heap hq3 0).trans rfl
  have zp := blk_free hp3 0
  have zq := blk_free hq3 0
  have npq : p ≠ q := blk_ne hp3 hq3 (by decide)
  have nxp : X ≠ p := blk_ne b3 hp3 (by decide)
  have nxq : X ≠ q := blk_ne b3 hq3 (by decide)
  have nqp : q ≠ p := npq.symm
  have npx : p ≠ X := nxp.symm
  have nqx : q ≠ X := nxq.symm
  have HK : Hid (Keeps None w w3 ∧ IsOut w3 p q v e0) := ⟨hk3, hp3, hq3⟩
  have he' : ¬ e = 0 := by simpa using he
  clear hw3 hX hal b3 hk3 hp3 hq3 hk2
  generalize hcs : ({ fn := c₀.fn, tmps := c₀.tmps, todo := c₀.todo, defers := c₀.defers, mode := FrameMode.panicking [{ v := Value.iface 31 (Value.agg #[.int .i64 e, .int .i64 n, .int .i64 a]), recovered := true }], kind := c₀.kind, roundOf := c₀.roundOf } :: cs) = cs'
  change Code.wp Tryd.prog _ _ { tmps := #[.pointer (some ⟨p, 0, none⟩), .pointer (some ⟨q, 0, none⟩), .pointer (some ⟨X, 0, none⟩), .iface 31 (.agg #[.int .i64 e, .int .i64 n, .int .i64 a]), .agg #[.int .i64 e, .int .i64 n, .int .i64 a], undef, undef, undef, undef, undef, undef], defers := [] } _
  go_upto_region 2 with fail
  go_region_held3 (fun w' => w'.cell? ⟨X, 0, none⟩ = some (.int .i64 e)) (go_keep) (fail)
  all_goals
    subst hcs
    have hfin := HK.out.2.set (.slice none 0 0) e
    show bodyPostS _ _ _ _ _ _ _ _ _
    simp [bodyPostS, results, Tryd.results19]
    exact ⟨hfin.1.kept (Keeps.drew None _), ((HK.out.1.mono (fun _ f _ => f.elim)).trans hfin.2 (fun _ e _ => e)).andDrew⟩
theorem dcatch_none (p q : Nat) (v : Value) (e0 : Int) (w : World) (h : IsOut w p q v e0) :
    CallsD Tryd.prog 19 #[.pointer (some ⟨p, 0, none⟩), .pointer (some ⟨q, 0, none⟩)] .returning w fun e' u' w' => e' = .returned (.tuple #[]) ∧ u' = .returning ∧ IsOut w' p q v e0 ∧ Keeps None w w' := by
  refine callsD_of_wpS Tryd.func19 rfl fun c₀ cs hu => ?_
  apply wpS_seq
  apply wpS_region
  simp [wpOpsS, go_sem, recoverD, hu, Tryd.ntmps19]
  refine (caught_nil w).mono ?_
  rintro _ w2 ⟨rfl, hk2⟩
  simp [faultV, go_sem, Exit.thenS]
  refine wpS_of_wp ?_
  have hal := Keeps.alloc None w2 (.cells #[.int .i64 0, .int .i64 0, .int .i64 0] 31)
  have b3 := heap_alloc_new w2 (.cells #[.int .i64 0, .int .i64 0, .int .i64 0] 31)
  obtain ⟨w3, hw3⟩ : ∃ w3, w3 = w2.alloc (.cells #[.int .i64 0, .int .i64 0, .int .i64 0] 31) := ⟨_, rfl⟩
  obtain ⟨X, hX⟩ : ∃ X, X = w2.heap.size := ⟨_, rfl⟩
  rw [← hw3] at hal b3
  rw [← hX] at b3
  rw [← hw3, ← hX]
  have hk3 := hk2.trans hal (fun _ f _ => f)
  have x0 := (cell_of_heap b3 0).trans rfl
  have HK : Hid (Keeps None w w3 ∧ IsOut w3 p q v e0) := ⟨hk3, h.kept hk3⟩
  clear hw3 hX hal b3 hk3 hk2
  change Code.wp Tryd.prog _ _ { tmps := #[.pointer (some ⟨p, 0, none⟩), .pointer (some ⟨q, 0, none⟩), .pointer (some ⟨X, 0, none⟩), .nilIface, .agg #[.int .i64 0, .int .i64 0, .int .i64 0], undef, undef, undef, undef, undef, undef], defers := [] } _
  go_wp2_with fail
  show bodyPostS _ _ _ _ _ _ _ _ _
  simp [bodyPostS, results, Tryd.results19]
  exact ⟨.returning, by cases c₀; simp_all, rfl, HK.out.2, HK.out.1⟩
theorem results_two {P : Program} {fn : Func} {q r : Tmp} {t u : TypeId} (h : fn.results = #[.cell q t, .cell r u]) {tmps : Array Value} {w : World} {g k : Nat} (ha : tmps.getD q undef = .pointer (some ⟨g, 0, none⟩)) (hb : tmps.getD r undef = .pointer (some ⟨k, 0, none⟩)) {v x : Value}
    (hl : (loadVar t ⟨g, 0, none⟩).run P w = .ok v w) (hm : (loadVar u ⟨k, 0, none⟩).run P w = .ok x w) : (results fn tmps).run P w = .ok (.tuple #[v, x]) w := by
  have ha' : tmps[q]?.getD undef = .pointer (some ⟨g, 0, none⟩) := by simpa using ha
  have hb' : tmps[r]?.getD undef = .pointer (some ⟨k, 0, none⟩) := by simpa using hb
  simp [results, h, ha', hb', asAddr, hl, hm]
theorem load_out {w : World} {p q : Nat} {v : Value} {e : Int} (h : IsOut w p q v e) : (loadVar 25 ⟨p, 0, none⟩).run Tryd.prog w = .ok (.agg #[v]) w ∧ (loadVar 26 ⟨q, 0, none⟩).run Tryd.prog w = .ok (.int .i64 e) w := by
  refine ⟨run_loadVar_row _ p _ 25 _ _ _ h.prog Tryd.underlying25 rfl (by kernel_rfl), ?_⟩
  have hc : w.cell? ⟨q, 0, none⟩ = some (.int .i64 e) := (cell_of_heap h.err 0).trans rfl
  have hu := Tryd.underlying26
  have ha := Tryd.isAgg26
  have hz := Tryd.sizeOf26
  go_simp
theorem dout_panic {Q : Ending → World → Prop} {tmps : Array Value} {w3 : World} {p q : Nat} {v : Value} {e0 e n x : Int} (ha : tmps.getD 2 undef = .pointer (some ⟨p, 0, none⟩)) (hb : tmps.getD 3 undef = .pointer (some ⟨q, 0, none⟩)) (h : IsOut w3 p q v e0) (he : (e != 0) = true)
    (hQ : ∀ w', Keeps (fun k => k = p ∨ k = q) w3 w' → Q (.returned (.tuple #[.agg #[.slice none 0 0], .int .i64 e])) w') :
    bodyPostD Tryd.prog Tryd.f6 Q (.panic (thrown e n x)) { tmps := tmps, defers := [{ target := .fn (.func 19) #[.pointer (some ⟨p, 0, none⟩), .pointer (some ⟨q, 0, none⟩)], args := #[] }] } w3 := by
  refine leaves_cons (f := 19) (args := #[.pointer (some ⟨p, 0, none⟩), .pointer (some ⟨q, 0, none⟩)]) (by simp) (by simp [go_sem]) ?_
  refine (dcatch_panic p q v e0 e n x w3 h he).mono ?_
  rintro _ u' w4 ⟨rfl, rfl, ho4, hk4⟩
  have hr := results_two (P := Tryd.prog) (fn := Tryd.f6) (q := 2) (r := 3) (t := 25) (u := 26) rfl ha hb (load_out ho4).1 (load_out ho4).2
  simp [Leaves, settle, hr]
  exact hQ w4 hk4
theorem dout_ret {Q : Ending → World → Prop} {tmps : Array Value} {w3 : World} {p q : Nat} {v : Value} {e0 : Int} (ha : tmps.getD 2 undef = .pointer (some ⟨p, 0, none⟩)) (hb : tmps.getD 3 undef = .pointer (some ⟨q, 0, none⟩)) (h : IsOut w3 p q v e0)
    (hQ : ∀ w', Keeps None w3 w' → Q (.returned (.tuple #[.agg #[v], .int .i64 e0])) w') :
    bodyPostD Tryd.prog Tryd.f6 Q .ret { tmps := tmps, defers := [{ target := .fn (.func 19) #[.pointer (some ⟨p, 0, none⟩), .pointer (some ⟨q, 0, none⟩)], args := #[] }] } w3 := by
  refine leaves_cons (f := 19) (args := #[.pointer (some ⟨p, 0, none⟩), .pointer (some ⟨q, 0, none⟩)]) (by simp) (by simp [go_sem]) ?_
  refine (dcatch_none p q v e0 w3 h).mono ?_
  rintro _ u' w4 ⟨rfl, rfl, ho4, hk4⟩
  have hr := results_two (P := Tryd.prog) (fn := Tryd.f6) (q := 2) (r := 3) (t := 25) (u := 26) rfl ha hb (load_out ho4).1 (load_out ho4).2
  simp [Leaves, settle, hr]
  exact hQ w4 hk4
end Go.Proofs.YtcjmceedkfjbeaaDoor
/-! The reader of images. -/
namespace Go.Proofs.YtcjmceedkfjbeaaDoor
set_option linter.unusedVariables false
set_option maxRecDepth 20000
open Go.RowKit Go.HeapKit

/-! ### Plainly -/
def readIns : List Int → Option (Ins × List Int)
  | k :: a :: b :: c :: x :: r => some (⟨k, a, b, c, x⟩, r)
  | _ => none
def readCode : Nat → List Int → Option (List Ins × List Int)
  | 0, zs => some ([], zs)
  | n + 1, zs => (readIns zs).bind fun p => (readCode n p.2).map fun q => (p.1 :: q.1, q.2)
def readFn : List Int → Option (Fn × List Int)
  | p :: g :: s :: m :: r => if m < 1 ∨ 512 < m then none else (readCode m.toNat r).map fun q => (⟨p, g, s, q.1⟩, q.2)
  | _ => none
def readFns : Nat → List Int → Option (List Fn × List Int)
  | 0, zs => some ([], zs)
  | n + 1, zs => (readFn zs).bind fun p => (readFns n p.2).map fun q => (p.1 :: q.1, q.2)
theorem readIns_spec {zs : List Int} {i : Ins} {r : List Int} (h : readIns zs = some (i, r)) : zs = insW i ++ r := by
  unfold readIns at h
  split at h
  · simp at h
    obtain ⟨rfl, rfl⟩ := h
    rfl
  · cases h
theorem readCode_spec : ∀ (n : Nat) {zs : List Int} {c : List Ins} {r : List Int}, readCode n zs = some (c, r) → zs = c.flatMap insW ++ r ∧ c.length = n
  | 0, zs, c, r, h => by simp [readCode] at h; obtain ⟨rfl, rfl⟩ := h; simp
  | n + 1, zs, c, r, h => by
    simp only [readCode, Option.bind_eq_some_iff, Option.map_eq_some_iff] at h
    obtain ⟨⟨i, r1⟩, h1, ⟨c2, r2⟩, h2, e⟩ := h
    simp at e
    obtain ⟨rfl, rfl⟩ := e
    have e1 := readIns_spec h1
    obtain ⟨e2, e3⟩ := readCode_spec n h2
    refine ⟨?_, by simp [e3]⟩
    rw [e1, List.flatMap_cons, List.append_assoc, ← e2]
theorem readFn_spec {zs : List Int} {f : Fn} {r : List Int} (h : readFn zs = some (f, r)) : zs = fnW f ++ r ∧ 1 ≤ f.code.length ∧ f.code.length ≤ 512 := by
  unfold readFn at h
  split at h
  · rename_i p g s m r1
    split at h
    · cases h
    · rename_i hm
      simp only [Option.map_eq_some_iff] at h
      obtain ⟨⟨c, r2⟩, h1, e⟩ := h
      simp at e
      obtain ⟨rfl, rfl⟩ := e
      obtain ⟨e1, e2⟩ := readCode_spec _ h1
      simp only
      refine ⟨?_, by omega, by omega⟩
      unfold fnW
      simp only
      rw [e2, e1, Int.toNat_of_nonneg (by omega)]
      simp
  · cases h
theorem readFns_spec : ∀ (n : Nat) {zs : List Int} {l : List Fn} {r : List Int}, readFns n zs = some (l, r) → zs = l.flatMap fnW ++ r ∧ l.length = n ∧ ∀ f ∈ l, 1 ≤ f.code.length ∧ f.code.length ≤ 512
  | 0, zs, c, r, h => by simp [readFns] at h; obtain ⟨rfl, rfl⟩ := h; simp
  | n + 1, zs, c, r, h => by
    simp only [readFns, Option.bind_eq_some_iff, Option.map_eq_some_iff] at h
    obtain ⟨⟨i, r1⟩, h1, ⟨c2, r2⟩, h2, e⟩ := h
    simp at e
    obtain ⟨rfl, rfl⟩ := e
    obtain ⟨e1, e4⟩ := readFn_spec h1
    obtain ⟨e2, e3, e5⟩ := readFns_spec n h2
    refine ⟨?_, by simp [e3], fun f hf => ?_⟩
    · rw [e1, List.flatMap_cons, List.append_assoc, ← e2]
    · rcases List.mem_cons.1 hf with rfl | hf
      · exact e4
      · exact e5 f hf
theorem readCode_back (c : List Ins) (r : List Int) : readCode c.length (c.flatMap insW ++ r) = some (c, r) := by
  induction c with
  | nil => rfl
  | cons i c ih =>
    rw [List.length_cons, List.flatMap_cons, List.append_assoc]
    simp only [readCode, insW, List.cons_append, List.nil_append, readIns, Option.bind_some, ih, Option.map_some]
theorem readFn_back (f : Fn) (r : List Int) (h : 1 ≤ f.code.length ∧ f.code.length ≤ 512) : readFn (fnW f ++ r) = some (f, r) := by
  simp only [fnW, List.cons_append, List.nil_append, readFn]
  rw [if_neg (by omega), Int.toNat_natCast, readCode_back]
  rfl
theorem readFns_back (l : List Fn) (r : List Int) (h : ∀ f ∈ l, 1 ≤ f.code.length ∧ f.code.length ≤ 512) : readFns l.length (l.flatMap fnW ++ r) = some (l, r) := by
  induction l with
  | nil => rfl
  | cons f l ih =>
    rw [List.length_cons, List.flatMap_cons, List.append_assoc]
    simp only [readFns, readFn_back f _ (h f (List.mem_cons_self ..)), Option.bind_some, ih (fun g hg => h g (List.mem_cons_of_mem _ hg)), Option.map_some]

/-! ### In memory -/
structure IsRd (w0 w : World) (R : Nat) (zs : List Int) : Prop where
  base : Keeps None w0 w
  low : w0.heap.size ≤ R
  ex : ∃ a n c, w.heap[R]? = some (.cells #[.slice a n c] 67 (0, 0)) ∧ SeenW w0 a n zs ∧ n ≤ c ∧ c ≤ maxLen
theorem IsRd.kept {w0 w w' : World} {R : Nat} {zs : List Int} (h : IsRd w0 w R zs) {S : Nat → Prop} (hk : Keeps S w w') (hS : ∀ k, S k → w0.heap.size ≤ k ∧ k ≠ R) : IsRd w0 w' R zs := by
  refine ⟨h.base.trans hk (fun i s hi => by have := (hS i s).1; omega), h.low, ?_⟩
  obtain ⟨a, n, c, hb, r⟩ := h.ex
  exact ⟨a, n, c, blk_kept hb hk (fun s => (hS R s).2 rfl), r⟩
theorem word_none (w0 : World) (R : Nat) (w : World) (h : IsRd w0 w R []) : Calls Tryd.prog 36 #[.pointer (some ⟨R, 0, none⟩)] w fun e w' => e = .panicked (thrown 57 0 0) ∧ w' = w := by
  obtain ⟨a, n, c, hb, hs, _⟩ := h.ex
  have hn : n = 0 := hs.len
  subst hn
  have y := (cell_of_heap hb 0).trans rfl
  clear h hs hb
  go_enter Tryd.func36, Tryd.ntmps36
  go_wp2_with (go_at_call 35; refine (giveUp_any _ _ _ _).mono ?_; rintro e w' ⟨rfl, hw⟩; have hw2 := hw.symm; subst hw2)
  exact ⟨rfl, rfl, rfl⟩
theorem word_some (w0 : World) (R : Nat) (x : Int) (r : List Int) (w : World) (h : IsRd w0 w R (x :: r)) : Calls Tryd.prog 36 #[.pointer (some ⟨R, 0, none⟩)] w fun e w' => e = .returned (.int .i64 x) ∧ IsRd w0 w' R r ∧ Keeps (· = R) w w' := by
  obtain ⟨a, n, c, hb, hs, hnc, hcm⟩ := h.ex
  have hn : n = r.length + 1 := hs.len
  subst hn
  obtain ⟨b, off, rfl, hlt, hcell⟩ := hs.ex (by omega)
  have y := (cell_of_heap hb 0).trans rfl
  have yx := h.base.cell (hcell 0 x rfl) (fun f => f)
  rw [Nat.add_zero] at yx
  have z := blk_free hb 0
  unfold maxLen at hcm
  have hrest : ∀ a', (r.length ≠ 0 → a' = some ⟨b, off + 1, none⟩) → SeenW w0 a' r.length r := fun a' ha => by
    refine ⟨rfl, by have := hs.most; omega, fun q hq => hs.ok q (List.mem_cons_of_mem _ hq), fun h0 => ⟨b, off + 1, ha (by omega), hlt, fun k q hq => ?_⟩⟩
    have := hcell (k + 1) q (by simpa using hq)
    rwa [show off + (k + 1) = off + 1 + k by omega] at this
  have i1 : ¬ ((r.length : Int) + 1 = 0) := by omega
  have i2 : (1 : Int) ≤ ((r.length + 1 : Nat) : Int) := by omega
  have i3 : ((r.length + 1 : Nat) : Int) ≤ (c : Int) := by omega
  have hfin : ∀ a', (r.length ≠ 0 → a' = some ⟨b, off + 1, none⟩) → IsRd w0 (w.setCell ⟨R, 0, none⟩ (.slice a' r.length (c - 1))) R r ∧ Keeps (· = R) w (w.setCell ⟨R, 0, none⟩ (.slice a' r.length (c - 1))) := fun a' ha => by
    have hk := Keeps.setCell (S := (· = R)) w (a := ⟨R, 0, none⟩) rfl (.slice a' r.length (c - 1))
    refine ⟨⟨h.base.trans hk (fun i e hi => by have := h.low; omega), h.low, a', r.length, c - 1, ?_, hrest a' ha, by omega, by unfold maxLen; omega⟩, hk⟩
    rw [blk_set hb]
    rfl
  have HF : Hid _ := hfin
  clear hfin hrest h hs hb hcell
  by_cases hc1 : c = 1
  · subst hc1
    have hr0 : r.length = 0 := by omega
    have HR : Hid (r.length = 0) := hr0
    clear hr0
    go_enter Tryd.func36, Tryd.ntmps36
    go_wp2_with fail
    go_ret
    have := HF.out (some ⟨b, off, none⟩) (fun h => absurd HR.out h)
    rw [HR.out] at this
    exact ⟨rfl, this⟩
  · go_enter Tryd.func36, Tryd.ntmps36
    go_wp2_with fail
    go_ret
    exact ⟨rfl, HF.out _ (fun _ => rfl)⟩
theorem num_none (w0 : World) (R : Nat) (w : World) (h : IsRd w0 w R []) : Calls Tryd.prog 50 #[.pointer (some ⟨R, 0, none⟩)] w fun e w' => e = .panicked (thrown 57 0 0) ∧ w' = w := by
  have hw := word_none w0 R w h
  clear h
  go_enter Tryd.func50, Tryd.ntmps50
  go_wp2_with (go_at_call 36; refine hw.mono ?_; rintro e w' ⟨rfl, hw⟩; have hw2 := hw.symm; subst hw2)
  exact ⟨rfl, rfl, rfl⟩
theorem num_some (w0 : World) (R : Nat) (x : Int) (r : List Int) (w : World) (h : IsRd w0 w R (x :: r)) : Calls Tryd.prog 50 #[.pointer (some ⟨R, 0, none⟩)] w fun e w' => e = .returned (.int .i64 x) ∧ IsRd w0 w' R r ∧ Keeps (· = R) w w' := by
  have hw := word_some w0 R x r w h
  clear h
  go_enter Tryd.func50, Tryd.ntmps50
  go_wp2_with (go_at_call 36; refine hw.mono ?_; rintro e w2 ⟨rfl, h2, hk2⟩)
  go_ret
  exact ⟨rfl, h2, hk2⟩
/-- What a count is. -/
theorem count_none (w0 : World) (R : Nat) (most : Int) (w : World) (zs : List Int) (h : IsRd w0 w R zs) (hb : ∀ x r, zs = x :: r → x < 1 ∨ most < x) (hm : 0 ≤ most) : Calls Tryd.prog 37 #[.pointer (some ⟨R, 0, none⟩), .int .i64 most] w fun e w' => e = .panicked (thrown 57 0 0) ∧ Keeps (· = R) w w' := by
  cases zs with
  | nil =>
    have hw := word_none w0 R w h
    clear h hb
    go_enter Tryd.func37, Tryd.ntmps37
    go_wp2_with (go_at_call 36; refine hw.mono ?_; rintro e w' ⟨rfl, hw⟩; have hw2 := hw.symm; subst hw2)
    exact ⟨rfl, rfl, Keeps.refl _ _⟩
  | cons x r =>
    have hw := word_some w0 R x r w h
    have hx := hb x r rfl
    clear h hb
    by_cases h1 : x < 1
    · clear hx
      go_enter Tryd.func37, Tryd.ntmps37
      go_wp2_with (first | (go_at_call 36; refine hw.mono ?_; rintro e w2 ⟨rfl, h2, hk2⟩) | (go_at_call 35; refine (giveUp_any _ _ _ _).mono ?_; rintro e w' ⟨rfl, hw⟩; have hw2 := hw.symm; subst hw2))
      exact ⟨rfl, rfl, hk2⟩
    · have h2 : most < x := by omega
      have h3 : ¬ x < 1 := h1
      clear hx
      go_enter Tryd.func37, Tryd.ntmps37
      go_wp2_with (first | (go_at_call 36; refine hw.mono ?_; rintro e w2 ⟨rfl, h2, hk2⟩) | (go_at_call 35; refine (giveUp_any _ _ _ _).mono ?_; rintro e w' ⟨rfl, hw⟩; have hw2 := hw.symm; subst hw2))
      exact ⟨rfl, rfl, hk2⟩
theorem count_some (w0 : World) (R : Nat) (most x : Int) (r : List Int) (w : World) (h : IsRd w0 w R (x :: r)) (h1 : 1 ≤ x) (h2 : x ≤ most) : Calls Tryd.prog 37 #[.pointer (some ⟨R, 0, none⟩), .int .i64 most] w fun e w' => e = .returned (.int .i64 x) ∧ IsRd w0 w' R r ∧ Keeps (· = R) w w' := by
  have hw := word_some w0 R x r w h
  clear h
  go_enter Tryd.func37, Tryd.ntmps37
  go_wp2_with (go_at_call 36; refine hw.mono ?_; rintro e w2 ⟨rfl, h2, hk2⟩)
  go_ret
  exact ⟨rfl, h2, hk2⟩
end Go.Proofs.YtcjmceedkfjbeaaDoor
