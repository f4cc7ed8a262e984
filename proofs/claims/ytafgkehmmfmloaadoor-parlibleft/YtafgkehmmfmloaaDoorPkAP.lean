import Derived.Test.YtafgkehmmfmloaaDoorPkAL
import Derived.Test.YtafgkehmmfmloaaDoorPkAO
import Derived.Test.YtafgkehmmfmloaaDoorPkAC
import Derived.Deep.RegionHeld3
import Derived.Deep.RegionLaw
import Derived.Deep.Cut
/-! Check. -/
namespace Go.Proofs.YtafgkehmmfmloaaDoor
set_option linter.unusedVariables false
set_option maxRecDepth 20000
open Go.RowKit Go.HeapKit

def checkF (l : List Fn) : Value := faultV (checkV l).1 (checkV l).2.1 (checkV l).2.2
def zeroF : Array Value := #[.int .i64 0, .int .i64 0, .int .i64 0]
theorem out_panic {Q : Ending → World → Prop} {tmps : Array Value} {w3 : World} {p : Nat} {c : Array Value} {e n x : Int} (ha : tmps.getD 2 undef = .pointer (some ⟨p, 0, none⟩)) (hb : w3.heap[p]? = some (.cells c 84 (0, 0))) (hs : c.size = 3)
    (hQ : ∀ w', Keeps (· = p) w3 w' → Q (.returned (faultV e n x)) w') :
    bodyPostD Tryd.prog Tryd.f36 Q (.panic (thrown e n x)) { tmps := tmps, defers := [{ target := .fn (.func 59) #[.pointer (some ⟨p, 0, none⟩)], args := #[] }] } w3 := by
  refine leaves_cons (f := 59) (args := #[.pointer (some ⟨p, 0, none⟩)]) (by simp) (by simp [go_sem]) ?_
  refine (catch_panic p c e n x w3 hb hs).mono ?_
  rintro _ u' w4 ⟨rfl, rfl, hb4, hk4⟩
  have hr := results_one (P := Tryd.prog) (fn := Tryd.f36) (q := 2) (ty := 84) rfl ha (load_fault w4 p _ e n x hb4)
  simp [Leaves, settle, hr]
  exact hQ w4 hk4
theorem out_ret {Q : Ending → World → Prop} {tmps : Array Value} {w3 : World} {p : Nat} {c : Array Value} (ha : tmps.getD 2 undef = .pointer (some ⟨p, 0, none⟩)) (hb : w3.heap[p]? = some (.cells c 84 (0, 0))) (hs : c.size = 3)
    (hQ : ∀ w', Keeps (· = p) w3 w' → Q (.returned (faultV 0 0 0)) w') :
    bodyPostD Tryd.prog Tryd.f36 Q .ret { tmps := tmps, defers := [{ target := .fn (.func 59) #[.pointer (some ⟨p, 0, none⟩)], args := #[] }] } w3 := by
  refine leaves_cons (f := 59) (args := #[.pointer (some ⟨p, 0, none⟩)]) (by simp) (by simp [go_sem]) ?_
  refine (catch_none p c w3 hb hs).mono ?_
  rintro _ u' w4 ⟨rfl, rfl, hb4, hk4⟩
  have hr := results_one (P := Tryd.prog) (fn := Tryd.f36) (q := 2) (ty := 84) rfl ha (load_fault w4 p _ 0 0 0 hb4)
  simp [Leaves, settle, hr]
  exact hQ w4 hk4
set_option maxHeartbeats 2000000 in
theorem check_any (a : Option Addr) (n c : Nat) (l : List Fn) (w : World) (hT : Tabs w) (hS : SeenF w a n l) (hok : ∀ f ∈ l, f.Ok) :
    Calls Tryd.prog 36 #[.agg #[.slice a n c]] w fun e w' => e = .returned (checkF l) ∧ Keeps None w w' := by
  have hmf : ∀ (fn : Go.Fn) (first cap : Array Value) (w : World), (Instr.makeFunc fn first cap).run Tryd.prog w = .ok (.func fn first cap) w := fun _ _ _ _ => rfl
  obtain ⟨B, hB⟩ : ∃ B, B = w.heap.size := ⟨_, rfl⟩
  obtain ⟨b1, b2⟩ := two_boxes w #[.slice a n c] zeroF 26 84
  have hk2 := keeps2 w (.cells #[.slice a n c] 26) (.cells zeroF 84)
  unfold zeroF at b1 b2 hk2
  obtain ⟨w2, hw2⟩ : ∃ w2, w2 = (w.alloc (.cells #[.slice a n c] 26)).alloc (.cells #[.int .i64 0, .int .i64 0, .int .i64 0] 84) := ⟨_, rfl⟩
  rw [← hw2, ← hB] at b1 b2
  rw [← hw2] at hk2
  have H2 : Hid (w2.heap[B]? = some (.cells #[.slice a n c] 26 (0, 0)) ∧ w2.heap[B + 1]? = some (.cells #[.int .i64 0, .int .i64 0, .int .i64 0] 84 (0, 0)) ∧ Keeps None w w2 ∧ B = w.heap.size) := ⟨b1, b2, hk2, hB⟩
  have HS : Hid (Tabs w ∧ SeenF w a n l ∧ ∀ f ∈ l, f.Ok) := ⟨hT, hS, hok⟩
  have d0 := (cell_of_heap b1 0).trans rfl
  have hsh := shapes_any a n c l w2 (hS.more hk2)
  have hln := hS.len
  have HLN : Hid (n = l.length) := hln
  clear b1 b2 hk2 hT hS hok hln
  cases hE : shapesE l with
  | outgrown => exact absurd hE (by unfold shapesE; split; · simp
                                    split <;> simp)
  | panicked ch =>
    obtain ⟨e, x, rfl, hv⟩ : ∃ e x : Int, ch = thrown e x 0 ∧ checkF l = faultV e x 0 := by
      unfold shapesE at hE
      unfold checkF checkV
      split at hE
      · rename_i h1
        rw [if_pos h1]
        injection hE with hE
        exact ⟨50, 0, hE.symm, rfl⟩
      · rename_i h1
        rw [if_neg h1]
        split at hE
        · rename_i r hr
          injection hE with hE
          rw [hr]
          exact ⟨51, r.1, hE.symm, rfl⟩
        · cases hE
    rw [hE] at hsh
    rw [hv]
    clear hE hv
    go_enter_defers Tryd.func36, Tryd.ntmps36
    rw [hw2] at d0
    go_wp2_with (go_at_call 61; rw [← hw2]; refine hsh.mono ?_; rintro _ w3 ⟨rfl, hk3⟩)
    rw [← hB]
    exact out_panic rfl (blk_kept H2.out.2.1 hk3 (fun f => f)) rfl (fun w' hk => ⟨rfl, (H2.out.2.2.1.trans hk3 (fun _ f _ => f)).trans hk (fun i e hi => by have := H2.out.2.2.2; omega)⟩)
  | returned v =>
    obtain ⟨rfl, hlen, hsv, hv⟩ : v = .tuple #[] ∧ (1 ≤ l.length ∧ l.length ≤ 32) ∧ (∀ f ∈ l, shapeV f = true) ∧ checkF l = (match firstAt (fun _ f => codeFault false l f) l 0 with
      | some r => faultV r.2.1 r.1 r.2.2
      | none => match firstAt (fun _ f => slotFault f) l 0 with
        | some r => faultV r.2.1 r.1 r.2.2
        | none => faultV 0 0 0) := by
      unfold shapesE at hE
      unfold checkF checkV
      split at hE
      · cases hE
      · rename_i h1
        rw [if_neg h1]
        split at hE
        · cases hE
        · rename_i hr
          injection hE with hE
          refine ⟨hE.symm, by omega, fun f hf => ?_, ?_⟩
          · obtain ⟨k, hk, rfl⟩ := List.mem_iff_getElem.1 hf
            have := firstAt_all _ _ _ hr k _ (List.getElem?_eq_getElem hk)
            by_cases hv : shapeV l[k] = true
            · exact hv
            · simp [hv] at this
          · rw [hr]
            cases firstAt (fun _ f => codeFault false l f) l 0 with
            | some r => rfl
            | none =>
              cases firstAt (fun _ f => slotFault f) l 0 with
              | some r => rfl
              | none => rfl
    rw [hE] at hsh
    obtain ⟨R, hR⟩ : ∃ R, R = checkF l := ⟨_, rfl⟩
    rw [← hR]
    have HR : Hid _ := hR.trans hv
    have HX : Hid (∀ f ∈ l, shapeV f = true) := hsv
    have n32 : n ≤ 32 := by have := HLN.out; omega
    clear hE hv hR hsv hlen
    go_enter_defers Tryd.func36, Tryd.ntmps36
    rw [hw2] at d0
    go_upto_region 3 with (go_at_call 61; rw [← hw2]; refine hsh.mono ?_; rintro _ w3 ⟨rfl, hk3⟩)
    rw [← hB]
    have H3 : Hid (w3.heap[B]? = some (.cells #[.slice a n c] 26 (0, 0)) ∧ w3.heap[B + 1]? = some (.cells #[.int .i64 0, .int .i64 0, .int .i64 0] 84 (0, 0)) ∧ Keeps None w w3) := ⟨blk_kept H2.out.1 hk3 (fun f => f), blk_kept H2.out.2.1 hk3 (fun f => f), H2.out.2.2.1.trans hk3 (fun _ f _ => f)⟩
    have d1 := (cell_of_heap H3.out.1 0).trans rfl
    have HBB : Hid (B = w.heap.size) := hB
    clear d0 hw2 hk3 hsh hB
    go_wp2_with fail
    go_loopw [14] (fun s14 wr => ∃ k : Nat, k ≤ n ∧ s14 = .int .i64 k ∧ (∀ (j : Nat) f, j < k → l[j]? = some f → codeFault false l f = none) ∧ wr.heap[B]? = some (.cells #[.slice a n c] 26 (0, 0)) ∧ wr.heap[B + 1]? = some (.cells #[.int .i64 0, .int .i64 0, .int .i64 0] 84 (0, 0)) ∧ Keeps None w wr) (fun i _ => n - (intOf i).toNat)
    case atStart => exact ⟨0, Nat.zero_le _, rfl, fun q _ h => by omega, H3.out.1, H3.out.2.1, H3.out.2.2⟩
    case round =>
      clear d1
      obtain ⟨k, hk, rfl, hall, hb1, hb2, hkp⟩ := hrel
      by_cases hkn : k < n
      · obtain ⟨b, off, f, ca, cc, rfl, hf, hat⟩ := (HS.out.2.1.more hkp).at hkn
        have i1 : (k : Int) < (n : Int) := by omega
        have d0 := (cell_of_heap hb1 0).trans rfl
        obtain ⟨X, hX⟩ : ∃ X, X = wr.heap.size := ⟨_, rfl⟩
        have hal := Keeps.alloc None wr (.cells #[.int .i64 f.params, .int .i64 f.regs, .int .i64 f.slots, .slice ca f.code.length cc] 29)
        have hkx := hkp.trans hal (fun _ f _ => f)
        have d0' := hal.cell d0 (fun f => f)
        have hcc := code_any (k : Int) f ca cc (some ⟨b, off, none⟩) n c _ l (HS.out.1.more hkx) (HS.out.2.1.more hkx) (hat.seen.more hal) (HS.out.2.2 f (List.mem_of_getElem? hf)).code (HX.out f (List.mem_of_getElem? hf))
        unfold codeV at hcc
        obtain ⟨y0, y1, y2, y3, -⟩ := hat
        have HK : Hid ((∀ (j : Nat) f, j < k → l[j]? = some f → codeFault false l f = none) ∧ l[k]? = some f ∧ Keeps None w (wr.alloc (.cells #[.int .i64 f.params, .int .i64 f.regs, .int .i64 f.slots, .slice ca f.code.length cc] 29)) ∧ (wr.alloc (.cells #[.int .i64 f.params, .int .i64 f.regs, .int .i64 f.slots, .slice ca f.code.length cc] 29)).heap[B]? = some (.cells #[.slice (some ⟨b, off, none⟩) n c] 26 (0, 0)) ∧ (wr.alloc (.cells #[.int .i64 f.params, .int .i64 f.regs, .int .i64 f.slots, .slice ca f.code.length cc] 29)).heap[B + 1]? = some (.cells #[.int .i64 0, .int .i64 0, .int .i64 0] 84 (0, 0))) := ⟨hall, hf, hkx, blk_kept hb1 hal (fun f => f), blk_kept hb2 hal (fun f => f)⟩
        clear hall hf hkx hb1 hb2 hal hkp
        unfold codeE at hcc
        cases hcf : codeFault false l f with
        | some r =>
          rw [hcf] at hcc
          have HC : Hid (codeFault false l f = some r) := hcf
          clear hcf
          go_wp2_with (go_at_call 62; refine hcc.mono ?_; rintro _ w4 ⟨rfl, hk4⟩)
          have hRR : R = faultV r.1 k r.2 := by
            rw [HR.out, firstAt_some _ l 0 k f r HK.out.2.1 (fun j y hj hy => HK.out.1 j y hj hy) HC.out]
            simp
          exact out_panic rfl (blk_kept HK.out.2.2.2.2 hk4 (fun f => f)) rfl (fun w' hkw => ⟨by rw [hRR], (HK.out.2.2.1.trans hk4 (fun _ f _ => f)).trans hkw (fun i e hi => by have := HBB.out; omega)⟩)
        | none =>
          rw [hcf] at hcc
          have HC : Hid (codeFault false l f = none) := hcf
          clear hcf
          go_wp2_with (go_at_call 62; refine hcc.mono ?_; rintro _ w4 ⟨rfl, hk4⟩)
          refine ⟨⟨k + 1, by omega, by simp, fun j z hj hz => ?_, blk_kept HK.out.2.2.2.1 hk4 (fun f => f), blk_kept HK.out.2.2.2.2 hk4 (fun f => f), HK.out.2.2.1.trans hk4 (fun _ f _ => f)⟩, by simp [intOf]; omega⟩
          by_cases hjk : j = k
          · subst hjk
            rw [HK.out.2.1] at hz
            obtain rfl := Option.some.inj hz
            exact HC.out
          · exact HK.out.1 j z (by omega) hz
      · have i1 : ¬ ((k : Int) < (n : Int)) := by omega
        have d1 := (cell_of_heap hb1 0).trans rfl
        have hall2 : ∀ f ∈ l, codeFault false l f = none := fun f hf => by
          obtain ⟨j, hj, rfl⟩ := List.mem_iff_getElem.1 hf
          exact hall j _ (by have := HLN.out; omega) (List.getElem?_eq_getElem hj)
        have HR2 : Hid (R = (match firstAt (fun _ f => slotFault f) l 0 with
          | some r => faultV r.2.1 r.1 r.2.2
          | none => faultV 0 0 0)) := by
          unfold Hid
          rw [HR.out, firstAt_none (fun _ f => codeFault false l f) l 0 (fun j y hy => hall2 y (List.mem_of_getElem? hy))]
        have HK : Hid ((∀ f ∈ l, codeFault false l f = none) ∧ Keeps None w wr ∧ wr.heap[B]? = some (.cells #[.slice a n c] 26 (0, 0)) ∧ wr.heap[B + 1]? = some (.cells #[.int .i64 0, .int .i64 0, .int .i64 0] 84 (0, 0))) := ⟨hall2, hkp, hb1, hb2⟩
        clear hall hall2 hkp hb1 hb2 H3
        go_wp2_with fail
        go_loopw [29] (fun s29 wr => ∃ k : Nat, k ≤ n ∧ s29 = .int .i64 k ∧ (∀ (j : Nat) f, j < k → l[j]? = some f → slotFault f = none) ∧ wr.heap[B + 1]? = some (.cells #[.int .i64 0, .int .i64 0, .int .i64 0] 84 (0, 0)) ∧ Keeps None w wr) (fun i _ => n - (intOf i).toNat)
        case atStart => exact ⟨0, Nat.zero_le _, rfl, fun q _ h => by omega, HK.out.2.2.2, HK.out.2.1⟩
        case round =>
          clear d1 i1
          obtain ⟨k, hk, rfl, hall, hb2, hkp⟩ := hrel
          by_cases hkn : k < n
          · obtain ⟨b, off, f, ca, cc, rfl, hf, hat⟩ := (HS.out.2.1.more hkp).at hkn
            have i1 : (k : Int) < (n : Int) := by omega
            have hal := Keeps.alloc None wr (.cells #[.int .i64 f.params, .int .i64 f.regs, .int .i64 f.slots, .slice ca f.code.length cc] 29)
            have hkx := hkp.trans hal (fun _ f _ => f)
            have hcc := slots_any (k : Int) f ca cc _ false l (HS.out.1.more hkx) (hat.seen.more hal) (HX.out f (List.mem_of_getElem? hf)) (HK.out.1 f (List.mem_of_getElem? hf))
            unfold fnV at hcc
            obtain ⟨y0, y1, y2, y3, -⟩ := hat
            have HJ : Hid ((∀ (j : Nat) f, j < k → l[j]? = some f → slotFault f = none) ∧ l[k]? = some f ∧ Keeps None w (wr.alloc (.cells #[.int .i64 f.params, .int .i64 f.regs, .int .i64 f.slots, .slice ca f.code.length cc] 29)) ∧ (wr.alloc (.cells #[.int .i64 f.params, .int .i64 f.regs, .int .i64 f.slots, .slice ca f.code.length cc] 29)).heap[B + 1]? = some (.cells #[.int .i64 0, .int .i64 0, .int .i64 0] 84 (0, 0))) := ⟨hall, hf, hkx, blk_kept hb2 hal (fun f => f)⟩
            clear hall hf hkx hb2 hal hkp
            unfold slotsE at hcc
            cases hcf : slotFault f with
            | some r =>
              rw [hcf] at hcc
              have HC : Hid (slotFault f = some r) := hcf
              clear hcf
              go_wp2_with (go_at_call 63; refine hcc.mono ?_; rintro _ w4 ⟨rfl, hk4⟩)
              have hRR : R = faultV r.1 k r.2 := by
                rw [HR2.out, firstAt_some _ l 0 k f r HJ.out.2.1 (fun j y hj hy => HJ.out.1 j y hj hy) HC.out]
                simp
              exact out_panic rfl (blk_kept HJ.out.2.2.2 hk4 (fun f => f)) rfl (fun w' hkw => ⟨by rw [hRR], (HJ.out.2.2.1.trans hk4 (fun _ f _ => f)).trans hkw (fun i e hi => by have := HBB.out; omega)⟩)
            | none =>
              rw [hcf] at hcc
              have HC : Hid (slotFault f = none) := hcf
              clear hcf
              go_wp2_with (go_at_call 63; refine hcc.mono ?_; rintro _ w4 ⟨rfl, hk4⟩)
              refine ⟨⟨k + 1, by omega, by simp, fun j z hj hz => ?_, blk_kept HJ.out.2.2.2 hk4 (fun f => f), HJ.out.2.2.1.trans hk4 (fun _ f _ => f)⟩, by simp [intOf]; omega⟩
              by_cases hjk : j = k
              · subst hjk
                rw [HJ.out.2.1] at hz
                obtain rfl := Option.some.inj hz
                exact HC.out
              · exact HJ.out.1 j z (by omega) hz
          · have i1 : ¬ ((k : Int) < (n : Int)) := by omega
            have hRR : R = faultV 0 0 0 := by
              rw [HR2.out, firstAt_none (fun _ f => slotFault f) l 0 (fun j y hy => hall j y (by have := HLN.out; have := (List.getElem?_eq_some_iff.1 hy).1; omega) hy)]
            have c0 := (cell_of_heap hb2 0).trans rfl
            have c1 := (cell_of_heap hb2 1).trans rfl
            have c2 := (cell_of_heap hb2 2).trans rfl
            have z0 := blk_free hb2 0
            have z1 := blk_free hb2 1
            have z2 := blk_free hb2 2
            have b3 := blk_set (i := 2) (blk_set (i := 1) (blk_set (i := 0) hb2 (.int .i64 0)) (.int .i64 0)) (.int .i64 0)
            have k3 : Keeps (· = B + 1) wr (((wr.setCell ⟨B + 1, 0, none⟩ (.int .i64 0)).setCell ⟨B + 1, 1, none⟩ (.int .i64 0)).setCell ⟨B + 1, 2, none⟩ (.int .i64 0)) := (((Keeps.refl (· = B + 1) wr).andSet (x := ⟨B + 1, 0, none⟩) (.inl rfl) _).andSet (x := ⟨B + 1, 1, none⟩) (.inl rfl) _).andSet (x := ⟨B + 1, 2, none⟩) (.inl rfl) _
            have HZ : Hid (R = faultV 0 0 0 ∧ _ ∧ Keeps None w wr ∧ Keeps (· = B + 1) wr _) := ⟨hRR, b3, hkp, k3⟩
            clear hall hb2 hkp hRR b3 k3
            go_wp2_with fail
            exact out_ret rfl HZ.out.2.1 rfl (fun w' hkw => ⟨by rw [HZ.out.1], (HZ.out.2.2.1.trans HZ.out.2.2.2 (fun i e hi => by have := HBB.out; omega)).trans hkw (fun i e hi => by have := HBB.out; omega)⟩)
end Go.Proofs.YtafgkehmmfmloaaDoor
/-! parlib.For: the errors. -/
namespace Go.Proofs.YtafgkehmmfmloaaDoor
set_option linter.unusedVariables false
set_option maxRecDepth 20000
open Go.RowKit Go.HeapKit Go.PlainOps

theorem put_as {K : Act → World → Prop} {a : Act} {d : Option Tmp} {v v' : Value} {w : World} (h : v = v') (k : K (a.put d v') w) : K (a.put d v) w := h ▸ k
theorem box_prog (w : World) (a : Option Addr) (n c : Nat) : ∃ W B, W = w.alloc (.cells #[.slice a n c] 26) ∧ B = w.heap.size ∧ W.heap[B]? = some (.cells #[.slice a n c] 26 (0, 0)) ∧ Keeps None w W ∧ W.cell? ⟨B, 0, none⟩ = some (.slice a n c) ∧ W.heap.size = B + 1 :=
  ⟨_, _, rfl, rfl, heap_alloc_new w _, Keeps.alloc _ _ _, (blk_cell (heap_alloc_new w _) 0).trans rfl, by simp⟩
set_option maxHeartbeats 2000000 in
theorem wrongBase_any (a : Option Addr) (n c : Nat) (l : List Fn) (w : World) (hT : Tabs w) (hS : SeenF w a n l) (hok : ∀ f ∈ l, f.Ok) :
    Calls Tryd.prog 18 #[.agg #[.slice a n c]] w fun e w' => e = .returned (.int .i64 (baseE l)) ∧ Keeps None w w' := by
  obtain ⟨W, B, hW, hB, bP, hal, d0, sW⟩ := box_prog w a n c
  have hck := check_any a n c l W (hT.more hal) (hS.more hal) hok
  unfold checkF faultV at hck
  obtain ⟨E, hE⟩ : ∃ E, E = baseE l := ⟨_, rfl⟩
  rw [← hE]
  by_cases h1 : (checkV l).1 = 0
  · have hcz := check_zero h1
    obtain ⟨hl1, hl2, hall⟩ := check_valid hcz
    rw [hcz] at hck
    obtain ⟨Q, hQ⟩ : ∃ Q, Q = askV l := ⟨_, rfl⟩
    have eE : E = if (!Q) = true then 0 else 130 := by
      rw [hE, hQ]
      unfold baseE
      cases askV l
      · rw [if_pos ⟨h1, rfl⟩]; rfl
      · rw [if_neg (by simp)]; rfl
    have hln := hS.len
    have hask : ∀ w', Keeps None W w' → Calls Tryd.prog 37 #[.agg #[.slice a n c]] w' fun e w'' => e = .returned (.bool Q) ∧ Keeps None w' w'' := fun w' hk => by
      rw [hQ]
      exact askp_any a n c l w' ((hS.more hal).more hk) (by omega) (fun f hf => (valid_bounds (hall f hf)).2.2.2.2)
    have HX : Hid (Keeps None w W ∧ W.heap[B]? = some (.cells #[.slice a n c] 26 (0, 0)) ∧ E = if (!Q) = true then 0 else 130) := ⟨hal, bP, eE⟩
    have HA : Hid _ := hask
    clear hcz hl1 hl2 hall hQ eE hE hask h1 hln hS hal bP hT hok sW
    go_enter Tryd.func18, Tryd.ntmps18
    go_upto_region 1 with fail
    rw [← hW, ← hB]
    clear hW hB
    go_wp2_with (go_at_call 36; refine hck.mono ?_; rintro _ w3 ⟨rfl, hk3⟩)
    refine put_as (v' := .int .i64 0) rfl ?_
    simp only [Act.put, List.setIfInBounds_toArray, List.set_cons_zero, List.set_cons_succ]
    have d1 := (blk_cell (blk_kept HX.out.2.1 hk3 (fun f => f)) 0).trans rfl
    have HK : Hid (Keeps None w w3) := HX.out.1.trans hk3 (fun _ f _ => f)
    have hq := HA.out w3 hk3
    clear hck d0 hk3
    go_wp2_with fail
    refine hq.mono ?_
    rintro _ w4 ⟨rfl, k4⟩
    have HK4 : Hid (Keeps None w w4) := HK.out.trans k4 (fun _ f _ => f)
    clear hq k4 d1
    go_wp2_with fail
    refine (unless_any _ _ _).mono ?_
    rintro _ w5 ⟨rfl, k5⟩
    have HK5 : Hid (Keeps None w w5) := HK4.out.trans k5 (fun _ f _ => f)
    clear k5
    go_wp2
    all_goals go_ret
    all_goals (refine ⟨?_, HK5.out⟩; rw [HX.out.2.2])
    · rw [h]; rfl
    · rw [Bool.not_eq_false] at h; rw [h]; rfl
  · have eE : E = 130 := by
      rw [hE]
      unfold baseE
      rw [if_neg (fun h => h1 h.1)]
    obtain ⟨⟨k1, k2, k3⟩, hcv⟩ : ∃ cv, cv = checkV l := ⟨_, rfl⟩
    rw [← hcv] at h1 hck
    clear hcv
    simp only at h1 hck
    have t1 : (k1 == 0) = false := by simpa using h1
    have HX : Hid (Keeps None w W ∧ E = 130) := ⟨hal, eE⟩
    clear eE hE h1 hS hal bP hT hok sW
    go_enter Tryd.func18, Tryd.ntmps18
    go_upto_region 1 with fail
    rw [← hW, ← hB]
    clear hW hB
    go_wp2_with (go_at_call 36; refine hck.mono ?_; rintro _ w3 ⟨rfl, hk3⟩)
    refine put_as (v' := .int .i64 k1) rfl ?_
    simp only [Act.put, List.setIfInBounds_toArray, List.set_cons_zero, List.set_cons_succ]
    have HK : Hid (Keeps None w w3) := HX.out.1.trans hk3 (fun _ f _ => f)
    clear hck d0 hk3
    go_wp2_with fail
    refine (unless_any _ _ _).mono ?_
    rintro _ w5 ⟨rfl, k5⟩
    have HK5 : Hid (Keeps None w w5) := HK.out.trans k5 (fun _ f _ => f)
    clear k5
    go_wp2
    go_ret
    exact ⟨by rw [HX.out.2]; rfl, HK5.out⟩
set_option maxHeartbeats 2000000 in
theorem takes_any (a : Option Addr) (n c : Nat) (l : List Fn) (k p : Int) (w : World) (hS : SeenF w a n l) :
    Calls Tryd.prog 38 #[.agg #[.slice a n c], .int .i64 k, .int .i64 p] w fun e w' => e = .returned (.bool (takesV l k p)) ∧ Keeps None w w' := by
  obtain ⟨W, B, hW, hB, bP, hal, d0, sW⟩ := box_prog w a n c
  obtain ⟨E, hE⟩ : ∃ E, E = takesV l k p := ⟨_, rfl⟩
  rw [← hE]
  have hln := hS.len
  by_cases h0 : 0 ≤ k
  · obtain ⟨j, rfl⟩ := Int.eq_ofNat_of_zero_le h0
    by_cases h1 : j < n
    · obtain ⟨b, off, f, ca, cc, rfl, ef, hat⟩ := (hS.more hal).at h1
      have y0 := hat.params
      have i1 : (j : Int) < (n : Int) := by omega
      have i2 : (0 : Int) ≤ (j : Int) := by omega
      have eE : E = decide (f.params = p) := by
        rw [hE]
        unfold takesV parV
        simp only [Int.toNat_natCast, ef, Option.map_some, Option.getD_some]
        rw [← hln]
        simp [i1]
      by_cases h2 : f.params = p
      · have t1 : (f.params == p) = true := by simpa using h2
        have HX : Hid (Keeps None w W ∧ E = true) := ⟨hal, by rw [eE]; simpa using h2⟩
        clear eE hE hS hal bP sW hat h2 ef hln
        go_enter Tryd.func38, Tryd.ntmps38
        go_upto_region 1 with fail
        rw [← hW, ← hB]
        clear hW hB
        go_wp2
        go_ret
        exact ⟨by simp [HX.out.2], HX.out.1⟩
      · have t1 : (f.params == p) = false := by simpa using h2
        have HX : Hid (Keeps None w W ∧ E = false) := ⟨hal, by rw [eE]; simpa using h2⟩
        clear eE hE hS hal bP sW hat h2 ef hln
        go_enter Tryd.func38, Tryd.ntmps38
        go_upto_region 1 with fail
        rw [← hW, ← hB]
        clear hW hB
        go_wp2
        go_ret
        exact ⟨by simp [HX.out.2], HX.out.1⟩
    · have i1 : ¬ ((j : Int) < (n : Int)) := by omega
      have i2 : (0 : Int) ≤ (j : Int) := by omega
      have HX : Hid (Keeps None w W ∧ E = false) := ⟨hal, by
        rw [hE]
        unfold takesV
        rw [← hln]
        simp
        omega⟩
      clear hE hS hal bP sW hln
      go_enter Tryd.func38, Tryd.ntmps38
      go_upto_region 1 with fail
      rw [← hW, ← hB]
      clear hW hB
      go_wp2
      go_ret
      exact ⟨by simp [HX.out.2], HX.out.1⟩
  · have i2 : ¬ (0 : Int) ≤ k := h0
    have HX : Hid (Keeps None w W ∧ E = false) := ⟨hal, by
      rw [hE]
      unfold takesV
      simp [h0]⟩
    clear hE hS hal bP sW hln h0
    go_enter Tryd.func38, Tryd.ntmps38
    go_upto_region 1 with fail
    rw [← hW, ← hB]
    clear hW hB
    go_wp2
    go_ret
    exact ⟨by simp [HX.out.2], HX.out.1⟩
set_option maxHeartbeats 2000000 in
theorem wrongBody_any (a : Option Addr) (n c : Nat) (l : List Fn) (k : Int) (w : World) (hS : SeenF w a n l) :
    Calls Tryd.prog 19 #[.agg #[.slice a n c], .int .i64 k] w fun e w' => e = .returned (.int .i64 (bodyE l k)) ∧ Keeps None w w' := by
  obtain ⟨W, B, hW, hB, bP, hal, d0, sW⟩ := box_prog w a n c
  have htk := takes_any a n c l k 1 W (hS.more hal)
  have HX : Hid (Keeps None w W) := hal
  unfold bodyE
  generalize takesV l k 1 = Q at *
  clear hS hal bP sW
  cases Q
  all_goals (
    go_enter Tryd.func19, Tryd.ntmps19
    go_upto_region 1 with fail
    rw [← hW, ← hB]
    clear hW hB
    go_wp2_with fail
    refine htk.mono ?_
    rintro _ w3 ⟨rfl, k3⟩
    have HK : Hid (Keeps None w w3) := HX.out.trans k3 (fun _ f _ => f)
    clear htk k3 d0
    go_wp2_with fail
    refine (unless_any _ _ _).mono ?_
    rintro _ w5 ⟨rfl, k5⟩
    have HK5 : Hid (Keeps None w w5) := HK.out.trans k5 (fun _ f _ => f)
    clear k5
    go_wp2
    go_ret
    exact ⟨rfl, HK5.out⟩)
set_option maxHeartbeats 2000000 in
theorem wrongRoom_any (a : Option Addr) (n c : Nat) (l : List Fn) (w : World) (hS : SeenF w a n l) :
    Calls Tryd.prog 21 #[.agg #[.slice a n c]] w fun e w' => e = .returned (.int .i64 (roomE l)) ∧ Keeps None w w' := by
  obtain ⟨W, B, hW, hB, bP, hal, d0, sW⟩ := box_prog w a n c
  have HX : Hid (Keeps None w W) := hal
  obtain ⟨Q, hQ⟩ : ∃ Q : Bool, Q = decide ((n : Int) ≤ 28) := ⟨_, rfl⟩
  have e1 : roomE l = if Q = true then 0 else 133 := by
    unfold roomE
    rw [hQ, ← hS.len]
    by_cases h : n ≤ 28
    · rw [if_pos h, if_pos (by simp; omega)]
    · rw [if_neg h, if_neg (by simp; omega)]
  rw [e1]
  clear hS hal bP sW e1
  cases Q with
  | true =>
    have i1 : (n : Int) ≤ 28 := by simpa using hQ.symm
    clear hQ
    go_enter Tryd.func21, Tryd.ntmps21
    go_upto_region 1 with fail
    rw [← hW, ← hB]
    clear hW hB
    go_wp2_with fail
    refine (unless_any _ _ _).mono ?_
    rintro _ w5 ⟨rfl, k5⟩
    have HK5 : Hid (Keeps None w w5) := HX.out.trans k5 (fun _ f _ => f)
    clear k5
    go_wp2
    go_ret
    exact ⟨rfl, HK5.out⟩
  | false =>
    have i1 : ¬ (n : Int) ≤ 28 := by simpa using hQ.symm
    clear hQ
    go_enter Tryd.func21, Tryd.ntmps21
    go_upto_region 1 with fail
    rw [← hW, ← hB]
    clear hW hB
    go_wp2_with fail
    refine (unless_any _ _ _).mono ?_
    rintro _ w5 ⟨rfl, k5⟩
    have HK5 : Hid (Keeps None w w5) := HX.out.trans k5 (fun _ f _ => f)
    clear k5
    go_wp2
    go_ret
    exact ⟨rfl, HK5.out⟩
theorem firstV_next {l : List Int} {k : Nat} (h : ∀ j x, j < k → l[j]? = some x → x = 0) {x : Int} (hx : l[k]? = some x) (h0 : x ≠ 0) : firstV l = x := by
  unfold firstV
  induction l generalizing k with
  | nil => simp at hx
  | cons y l ih =>
    cases k with
    | zero =>
      simp at hx
      subst hx
      have h1 : (y != 0) = true := by simpa using h0
      simp [List.find?, h1]
    | succ k =>
      have hy := h 0 y (by omega) rfl
      subst hy
      have := ih (k := k) (fun j x hj hx => h (j + 1) x (by omega) (by simpa using hx)) (by simpa using hx)
      simpa [List.find?] using this
theorem firstV_none {l : List Int} (h : ∀ (j : Nat) x, l[j]? = some x → x = 0) : firstV l = 0 := by
  unfold firstV
  induction l with
  | nil => rfl
  | cons y l ih =>
    have hy := h 0 y rfl
    subst hy
    have := ih (fun j x hx => h (j + 1) x (by simpa using hx))
    simpa [List.find?] using this
set_option maxHeartbeats 2000000 in
theorem first_any (g n c : Nat) (l : List Int) (w : World) (hn : n = l.length) (hl : l.length ≤ 100) (hc : ∀ (k : Nat) x, l[k]? = some x → w.cell? ⟨g, k, none⟩ = some (.int .i64 x)) :
    Calls Tryd.prog 17 #[.slice (some ⟨g, 0, none⟩) n c] w fun e w' => e = .returned (.int .i64 (firstV l)) ∧ Keeps None w w' := by
  obtain ⟨E, hE⟩ : ∃ E, E = firstV l := ⟨_, rfl⟩
  rw [← hE]
  have HC : Hid (n = l.length ∧ (∀ (k : Nat) x, l[k]? = some x → w.cell? ⟨g, k, none⟩ = some (.int .i64 x)) ∧ E = firstV l) := ⟨hn, hc, hE⟩
  have i9 : (n : Int) ≤ 100 := by omega
  clear hn hl hc hE
  go_enter Tryd.func17, Tryd.ntmps17
  go_wp2_with fail
  go_loopw [4, 7] (fun _ s7 wr => ∃ k : Nat, k ≤ n ∧ s7 = .int .i64 k ∧ wr = w ∧ ∀ j x, j < k → l[j]? = some x → x = 0) (fun _ i _ => n - (intOf i).toNat)
  case atStart => exact ⟨0, Nat.zero_le _, rfl, rfl, fun j x hj => by omega⟩
  case round =>
    obtain ⟨k, hk, rfl, hw, hz⟩ := hrel
    have hw2 := hw.symm
    subst hw2
    by_cases hkn : k < n
    · have i1 : (k : Int) < (n : Int) := by omega
      have i2 : (0 : Int) ≤ (k : Int) := by omega
      obtain ⟨x, hx⟩ : ∃ x, l[k]? = some x := ⟨l[k]'(by have := HC.out.1; omega), by simp⟩
      have c0 := HC.out.2.1 k x hx
      by_cases h0 : x = 0
      · have t0 : (x != 0) = false := by simp [h0]
        have HZ : Hid (∀ j x, j < k + 1 → l[j]? = some x → x = 0) := fun j y hj hy => by
          by_cases e : j = k
          · subst e; rw [hx] at hy; obtain rfl := Option.some.inj hy; exact h0
          · exact hz j y (by omega) hy
        clear hz hx h0
        go_wp2
        exact ⟨⟨k + 1, by omega, by simp, trivial, HZ.out⟩, by simp [intOf]; omega⟩
      · have t0 : (x != 0) = true := by simp [h0]
        have HE : Hid (E = x) := by rw [HC.out.2.2]; exact firstV_next hz hx h0
        clear hz hx h0
        go_wp2
        go_ret
        exact ⟨by rw [HE.out]; rfl, Keeps.refl _ _⟩
    · have i1 : ¬ ((k : Int) < (n : Int)) := by omega
      obtain rfl : k = n := by omega
      have HE : Hid (E = 0) := by
        rw [HC.out.2.2]
        exact firstV_none (fun j x hx => hz j x (by have := (List.getElem?_eq_some_iff.1 hx).1; have := HC.out.1; omega) hx)
      clear hz
      go_wp2
      go_ret
      exact ⟨by rw [HE.out]; rfl, Keeps.refl _ _⟩
end Go.Proofs.YtafgkehmmfmloaaDoor
/-! parlib.For. -/
namespace Go.Proofs.YtafgkehmmfmloaaDoor
set_option linter.unusedVariables false
set_option maxRecDepth 20000
open Go.RowKit Go.HeapKit Go.PlainOps

def forE (l : List Fn) (b : Int) : Int := firstV [baseE l, bodyE l b, roomE l]
theorem forE_zero {l : List Fn} {b : Int} (h : forE l b = 0) : (checkV l).1 = 0 ∧ askV l = false ∧ takesV l b 1 = true ∧ l.length ≤ 28 := by
  have h1 : baseE l = 0 := by
    by_cases h0 : baseE l = 0
    · exact h0
    · have := firstV_next (l := [baseE l, bodyE l b, roomE l]) (k := 0) (fun j x hj => by omega) rfl h0
      exact absurd (this.symm.trans h) h0
  have h2 : bodyE l b = 0 := by
    by_cases h0 : bodyE l b = 0
    · exact h0
    · have := firstV_next (l := [baseE l, bodyE l b, roomE l]) (k := 1) (fun j x hj hx => by
        obtain rfl : j = 0 := by omega
        simp at hx
        rw [← hx]; exact h1) rfl h0
      exact absurd (this.symm.trans h) h0
  have h3 : roomE l = 0 := by
    by_cases h0 : roomE l = 0
    · exact h0
    · have := firstV_next (l := [baseE l, bodyE l b, roomE l]) (k := 2) (fun j x hj hx => by
        match j, hj with
        | 0, _ => simp at hx; rw [← hx]; exact h1
        | 1, _ => simp at hx; rw [← hx]; exact h2) rfl h0
      exact absurd (this.symm.trans h) h0
  unfold baseE at h1
  unfold bodyE at h2
  unfold roomE at h3
  by_cases q1 : (checkV l).1 = 0 ∧ askV l = false
  · by_cases q2 : takesV l b 1 = true
    · by_cases q3 : l.length ≤ 28
      · exact ⟨q1.1, q1.2, q2, q3⟩
      · rw [if_neg q3] at h3; omega
    · rw [if_neg q2] at h2; omega
  · rw [if_neg q1] at h1; omega
/-- What For answers. -/
def ForPost (l : List Fn) (b : Int) (w : World) (e : Ending) (w' : World) : Prop :=
  Keeps None w w' ∧ ((forE l b ≠ 0 ∧ e = .returned (.tuple #[.agg #[.slice none 0 0], .int .i64 (forE l b)])) ∨
    (forE l b = 0 ∧ ∃ v L', e = .returned (.tuple #[.agg #[v], .int .i64 0]) ∧ OwnF w' w.heap.size v L' ∧ L'.map (·.1) = forP l b))
theorem prog_end2 {Q : Ending → World → Prop} {a : Act} {w1 : World} {g : Nat} {x u : Value} {fn : Func} (q r : Tmp) (hfn : fn.results = #[.cell q 26, .tmp r]) (hb : w1.heap[g]? = some (.cells #[x] 26 (0, 0)))
    (ha : a.tmps.getD q undef = .pointer (some ⟨g, 0, none⟩)) (hr : a.tmps.getD r undef = u) (hd : a.defers = []) (hQ : Q (.returned (.tuple #[.agg #[x], u])) w1) :
    bodyPost Tryd.prog fn Q .ret a w1 := by
  have hl := run_loadVar_row (P := Tryd.prog) w1 g 26 26 _ _ _ hb Tryd.underlying26 rfl (by kernel_rfl)
  have ha' : a.tmps[q]?.getD undef = .pointer (some ⟨g, 0, none⟩) := by simpa using ha
  have hr' : a.tmps[r]?.getD undef = u := by simpa using hr
  exact bodyPost_ret (v := .tuple #[.agg #[x], u]) (by simp [results, hfn, ha', hr', asAddr, hl]) hd hQ
end Go.Proofs.YtafgkehmmfmloaaDoor
/-! pay, wait, leave. -/
namespace Go.Proofs.YtafgkehmmfmloaaDoor
set_option linter.unusedVariables false
set_option maxRecDepth 20000
open Go.RowKit Go.HeapKit Go.PlainOps

theorem pay_out (R X : Nat) (fv nv : Value) (L : Bool) (s : Rn) (w : World) (h : IsRn w R fv L s nv) (h0 : s.fuel = 0) :
    Calls Tryd.prog 47 #[.pointer (some ⟨R, 0, none⟩), .pointer (some ⟨X, 0, none⟩)] w fun e w' => e = .panicked (thrownE 62) ∧ w' = w := by
  have c1 : w.cell? ⟨R, 1, none⟩ = some (.int .i64 0) := by rw [blk_cell h.blk]; simp [h0]
  clear h h0
  go_enter Tryd.func47, Tryd.ntmps47
  go_wp2_with (go_at_call 45; refine (sgiveUp_any _ _).mono ?_; rintro _ w' ⟨rfl, rfl⟩)
  exact ⟨rfl, rfl, rfl⟩
theorem pay_any (R X : Nat) (fv nv : Value) (L : Bool) (s : Rn) (at_ : Int) (t : Tk) (w : World) (h : IsRn w R fv L s nv) (ht : IsTk w X at_ t) (h0 : s.fuel ≠ 0) (hs : s.fuel ≤ 8388608) (b1 : 0 ≤ t.node.work ∧ t.node.work ≤ 8388608) (b2 : 0 ≤ t.span ∧ t.span ≤ 8388608) :
    Calls Tryd.prog 47 #[.pointer (some ⟨R, 0, none⟩), .pointer (some ⟨X, 0, none⟩)] w fun e w' => e = .returned (.tuple #[]) ∧ IsRn w' R fv L (payS s) nv ∧ IsTk w' X at_ (payT t) ∧ Keeps (fun k => k = R ∨ k = X) w w' := by
  obtain ⟨m, hm⟩ : ∃ m, s.fuel = m + 1 := ⟨s.fuel - 1, by omega⟩
  obtain ⟨F, hF⟩ : ∃ F : Int, F = (m : Int) + 1 := ⟨_, rfl⟩
  have c1 : w.cell? ⟨R, 1, none⟩ = some (.int .i64 F) := by rw [blk_cell h.blk]; simp [hm, hF]
  have c2 := ht.tail 3 rfl
  have c3 := ht.tail 9 rfl
  have z1 := blk_free h.blk 1
  have z2 := ht.free 31
  have z3 := ht.free 37
  have n1 := h.ne ht
  have n2 := n1.symm
  have f1 : (F == 0) = false := by simp; omega
  have f2 : F ≤ 8388609 := by omega
  have f3 : 1 ≤ F := by omega
  have k1 : Keeps (· = R) w (w.setCell ⟨R, 1, none⟩ (.int .i64 (F - 1))) := Keeps.setCell (S := (· = R)) w (a := ⟨R, 1, none⟩) rfl _
  have r1 : IsRn (w.setCell ⟨R, 1, none⟩ (.int .i64 (F - 1))) R fv L (payS s) nv := h.put rfl (by simp [payS, hm, hF])
  have t1 := ht.kept k1 n2
  have t2 := t1.putTail (nf' := t.node.func) (np' := t.node.ped) (t' := { t with node := { t.node with work := t.node.work + 1 } }) (j := 3) (x := t.node.work + 1) rfl rfl rfl
  have t3 := t2.putTail (nf' := t.node.func) (np' := t.node.ped) (t' := payT t) (j := 9) (x := t.span + 1) rfl rfl rfl
  have k2 : Keeps (· = X) (w.setCell ⟨R, 1, none⟩ (.int .i64 (F - 1))) _ := ((Keeps.refl (· = X) _).andSet (x := ⟨X, 31, none⟩) (.inl rfl) (.int .i64 (t.node.work + 1))).andSet (x := ⟨X, 37, none⟩) (.inl rfl) (.int .i64 (t.span + 1))
  have HH : Hid _ := And.intro (r1.kept k2 (fun k hk e => by subst e; rcases hk with hk | hk; exact n2 hk; exact r1.nX t1 hk)) (And.intro t3 ((k1.mono (fun _ e _ => Or.inl e)).trans k2 (fun _ e _ => Or.inr e)))
  clear h ht k1 r1 t1 t2 t3 k2 hF hm h0 hs
  obtain ⟨W, hW⟩ : ∃ W, W = t.node.work := ⟨_, rfl⟩
  obtain ⟨P, hP⟩ : ∃ P, P = t.span := ⟨_, rfl⟩
  go_enter Tryd.func47, Tryd.ntmps47
  go_wp2_with fail
  go_end0
  exact ⟨rfl, HH.out⟩
end Go.Proofs.YtafgkehmmfmloaaDoor
/-! wait, leave, enter. -/
namespace Go.Proofs.YtafgkehmmfmloaaDoor
set_option linter.unusedVariables false
set_option maxRecDepth 20000
open Go.RowKit Go.HeapKit Go.PlainOps

theorem wrap_small {x : Int} (h : -9223372036854775808 ≤ x ∧ x ≤ 9223372036854775807) : IntKind.i64.wrap x = x := by
  simp [IntKind.wrap, IntKind.bits, IntKind.signed]; omega
theorem wait_any (X : Nat) (at_ : Int) (t : Tk) (w : World) (ht : IsTk w X at_ t) (b1 : 0 ≤ t.due ∧ t.due ≤ 8388608) (b2 : 0 ≤ t.span ∧ t.span ≤ 8388608) :
    Calls Tryd.prog 49 #[.pointer (some ⟨X, 0, none⟩)] w fun e w' => e = .returned (.tuple #[]) ∧ IsTk w' X at_ (waitT t) ∧ Keeps (· = X) w w' := by
  have c1 := ht.tail 9 rfl
  have c2 := ht.tail 10 rfl
  have z1 := ht.free 37
  have t1 := ht.putTail (nf' := t.node.func) (np' := t.node.ped) (t' := waitT t) (j := 9) (x := imax t.span (t.due + 1)) rfl rfl rfl
  have k1 : Keeps (· = X) w _ := (Keeps.refl (· = X) w).andSet (x := ⟨X, 37, none⟩) (.inl rfl) (.int .i64 (imax t.span (t.due + 1)))
  have HH : Hid _ := And.intro (t1.kept (Keeps.drew None _) (fun f => f)) k1.andDrew
  clear ht t1 k1
  go_enter Tryd.func49, Tryd.ntmps49
  go_wp2_with fail
  go_region
  all_goals go_end0
  all_goals exact ⟨rfl, HH.out⟩
theorem leave_off (R X : Nat) (fv nv : Value) (s : Rn) (at_ : Int) (t : Tk) (w : World) (h : IsRn w R fv false s nv) :
    Calls Tryd.prog 50 #[.pointer (some ⟨R, 0, none⟩), .pointer (some ⟨X, 0, none⟩)] w fun e w' => e = .returned (.tuple #[]) ∧ w' = w := by
  have c1 : w.cell? ⟨R, 4, none⟩ = some (.bool false) := (blk_cell h.blk 4).trans rfl
  clear h
  go_enter Tryd.func50, Tryd.ntmps50
  go_wp2_with fail
  go_end0
  exact ⟨rfl, rfl⟩
theorem leave_on (R X : Nat) (fv nv : Value) (s : Rn) (at_ : Int) (t : Tk) (w : World) (h : IsRn w R fv true s nv) (ht : IsTk w X at_ t) (hn : 0 ≤ t.number ∧ t.number < s.nodes.length) :
    Calls Tryd.prog 50 #[.pointer (some ⟨R, 0, none⟩), .pointer (some ⟨X, 0, none⟩)] w fun e w' => e = .returned (.tuple #[]) ∧ IsRn w' R fv true (leaveS true s t) nv ∧ IsTk w' X at_ t ∧ Keeps (RFoot R nv) w w' := by
  have hL := ndVals_length s.nodes
  have nX := h.nX ht
  have nR := h.nR
  rcases h.row.2 with ⟨_, h0⟩ | ⟨g, cap, cur, rfl, hb, hg, hnc, hcm, hcs, htk⟩
  · omega
  · obtain ⟨k, hk⟩ := Int.eq_ofNat_of_zero_le hn.1
    have hk2 : k < s.nodes.length := by omega
    have c1 : w.cell? ⟨R, 4, none⟩ = some (.bool true) := (blk_cell h.blk 4).trans rfl
    have c2 : w.cell? ⟨R, 5, none⟩ = some (.slice (some ⟨g, 0, none⟩) s.nodes.length cap) := (blk_cell h.blk 5).trans rfl
    have d0 := ht.tail 0 rfl
    have d1 := ht.tail 1 rfl
    have d2 := ht.tail 2 rfl
    have d3 := ht.tail 3 rfl
    have d4 := ht.tail 4 rfl
    have d5 := ht.tail 5 rfl
    have d6 := ht.tail 6 rfl
    have d7 : w.cell? ⟨X, 35, none⟩ = some (.int .i64 (k : Int)) := by rw [← hk]; exact ht.tail 7 rfl
    have z : ∀ j, w.frozen? ⟨g, j, none⟩ = false := fun j => blk_free hg j
    have z0 := z (k * 7)
    have z1 := z (k * 7 + 1)
    have z2 := z (k * 7 + 2)
    have z3 := z (k * 7 + 3)
    have z4 := z (k * 7 + 4)
    have z5 := z (k * 7 + 5)
    have z6 := z (k * 7 + 6)
    have hsz : s.nodes.length * 7 ≤ cur.size := by rw [hcs]; exact Nat.mul_le_mul_right _ hnc
    have at_ : ∀ j, j < 7 → ∃ v, w.cell? ⟨g, k * 7 + j, none⟩ = some v := fun j hj => ⟨cur[k * 7 + j]'(by omega), by rw [blk_cell hg]; simp⟩
    obtain ⟨v0, y0⟩ := at_ 0 (by omega)
    obtain ⟨v1, y1⟩ := at_ 1 (by omega)
    obtain ⟨v2, y2⟩ := at_ 2 (by omega)
    obtain ⟨v3, y3⟩ := at_ 3 (by omega)
    obtain ⟨v4, y4⟩ := at_ 4 (by omega)
    obtain ⟨v5, y5⟩ := at_ 5 (by omega)
    obtain ⟨v6, y6⟩ := at_ 6 (by omega)
    simp only [Nat.add_zero] at y0
    have i1 : (k : Int) < (s.nodes.length : Int) := by omega
    obtain ⟨w2, hw2⟩ : ∃ w2, w2 = ((((((w.setCell ⟨g, k * 7, none⟩ (.int .i64 t.node.parent)).setCell ⟨g, k * 7 + 1, none⟩ (.int .i64 t.node.idx)).setCell ⟨g, k * 7 + 2, none⟩ (.int .i64 t.node.func)).setCell ⟨g, k * 7 + 3, none⟩ (.int .i64 t.node.work)).setCell ⟨g, k * 7 + 4, none⟩ (.int .i64 t.node.ped)).setCell ⟨g, k * 7 + 5, none⟩ (.int .i64 t.node.arg)).setCell ⟨g, k * 7 + 6, none⟩ (.int .i64 t.node.v) := ⟨_, rfl⟩
    have hk1 : Keeps (· = g) w w2 := by
      rw [hw2]
      exact (((((((Keeps.refl (· = g) w).andSet (x := ⟨g, k * 7, none⟩) (.inl rfl) _).andSet (x := ⟨g, k * 7 + 1, none⟩) (.inl rfl) _).andSet (x := ⟨g, k * 7 + 2, none⟩) (.inl rfl) _).andSet (x := ⟨g, k * 7 + 3, none⟩) (.inl rfl) _).andSet (x := ⟨g, k * 7 + 4, none⟩) (.inl rfl) _).andSet (x := ⟨g, k * 7 + 5, none⟩) (.inl rfl) _).andSet (x := ⟨g, k * 7 + 6, none⟩) (.inl rfl) _
    have ngX : g ≠ X := fun e => nX (by rw [← e]; rfl)
    have ngR : g ≠ R := fun e => nR (by rw [← e]; rfl)
    have hrn : IsRn w2 R fv true (leaveS true s t) (.slice (some ⟨g, 0, none⟩) s.nodes.length cap) := by
      refine ⟨blk_kept h.blk hk1 (fun e => ngR e.symm), ?_⟩
      have hlen : (leaveS true s t).nodes.length = s.nodes.length := by simp [leaveS]
      rw [hlen]
      refine ⟨by rw [ndVals_length, hlen], .inr ⟨g, cap, _, rfl, hb, by rw [hw2]; exact blk_set (blk_set (blk_set (blk_set (blk_set (blk_set (blk_set hg _) _) _) _) _) _) _, hnc, hcm, by simpa using hcs, ?_⟩⟩
      have e : (leaveS true s t).nodes = s.nodes.set k t.node := by simp [leaveS, hk]
      rw [e, ← ndVals_set s.nodes k t.node hk2]
      simp only [Array.toList_setIfInBounds]
      have hall : ∀ (l : List Value) (q : Nat) (v : Value), (l.set q v).take (s.nodes.length * 7) = (l.take (s.nodes.length * 7)).set q v := fun l q v => by rw [List.take_set]
      rw [hall, hall, hall, hall, hall, hall, hall, htk]
    have HH : Hid _ := And.intro (hrn.kept (Keeps.drew None _) (fun _ _ f => f)) (And.intro ((ht.kept hk1 (fun e => ngX e.symm)).kept (Keeps.drew None _) (fun f => f)) (hk1.andDrew.mono (fun i e _ => (Or.inr (by subst e; rfl) : RFoot R (.slice (some ⟨g, 0, none⟩) s.nodes.length cap) i))))
    rw [hw2] at HH
    clear h ht hrn hk1 hw2 at_ z
    go_enter Tryd.func50, Tryd.ntmps50
    go_wp2_with fail
    go_region
    all_goals go_end0
    all_goals exact ⟨rfl, HH.out⟩
end Go.Proofs.YtafgkehmmfmloaaDoor
/-! enter. -/
namespace Go.Proofs.YtafgkehmmfmloaaDoor
set_option linter.unusedVariables false
set_option maxRecDepth 20000
set_option linter.unusedSimpArgs false
open Go.RowKit Go.HeapKit Go.PlainOps

theorem enter_deep (R X : Nat) (t : Tk) (w : World) (ht : IsTkN w X 0 0 0 t) (hd : 4096 < t.depth) :
    Calls Tryd.prog 46 #[.pointer (some ⟨R, 0, none⟩), .pointer (some ⟨X, 0, none⟩)] w fun e w' => e = .panicked (thrownE 63) ∧ w' = w := by
  have c1 := ht.tail 8 rfl
  clear ht
  go_enter Tryd.func46, Tryd.ntmps46
  go_wp2_with (go_at_call 45; refine (sgiveUp_any _ _).mono ?_; rintro _ w' ⟨rfl, rfl⟩)
  exact ⟨rfl, rfl, rfl⟩
/-- What 'enter' does ahead of the node's own cells. -/
def entW (w : World) (R X : Nat) (T0 M : Int) : World := (((w.setCell ⟨X, 35, none⟩ (.int .i64 T0)).setCell ⟨R, 2, none⟩ (.int .i64 (T0 + 1))).setCell ⟨R, 3, none⟩ (.int .i64 M)).drew
theorem entered {R X : Nat} {fv nv : Value} {L : Bool} {s : Rn} {t : Tk} {w : World} (h : IsRn w R fv L s nv) (ht : IsTkN w X 0 0 0 t) :
    IsRn (entW w R X s.tasks (imax s.depth t.depth)) R fv L { s with tasks := s.tasks + 1, depth := imax s.depth t.depth } nv ∧
    IsTkN (entW w R X s.tasks (imax s.depth t.depth)) X 0 0 0 { t with number := s.tasks } ∧
    Keeps (fun k => k = R ∨ k = X) w (entW w R X s.tasks (imax s.depth t.depth)) := by
  have n1 := h.ne ht
  have ka : Keeps (· = X) w (w.setCell ⟨X, 35, none⟩ (.int .i64 s.tasks)) := Keeps.setCell (S := (· = X)) w (a := ⟨X, 35, none⟩) rfl _
  have ta := ht.putTail (nf' := 0) (np' := 0) (t' := { t with number := s.tasks }) (j := 7) (x := s.tasks) rfl rfl rfl
  have ra := h.kept ka (fun k hk e => by subst e; rcases hk with hk | hk; exact n1 hk.symm; exact h.nX ht hk)
  have rb := ra.put (k := 2) (x := (s.tasks : Int) + 1) (s' := { s with tasks := s.tasks + 1 }) rfl (by simp)
  have kb : Keeps (· = R) _ _ := Keeps.setCell (S := (· = R)) (w.setCell ⟨X, 35, none⟩ (.int .i64 s.tasks)) (a := ⟨R, 2, none⟩) rfl (.int .i64 ((s.tasks : Int) + 1))
  have tb := ta.kept kb n1.symm
  have rc := rb.put (k := 3) (x := imax s.depth t.depth) (s' := { s with tasks := s.tasks + 1, depth := imax s.depth t.depth }) rfl (by simp)
  have kc : Keeps (· = R) _ _ := Keeps.setCell (S := (· = R)) ((w.setCell ⟨X, 35, none⟩ (.int .i64 s.tasks)).setCell ⟨R, 2, none⟩ (.int .i64 ((s.tasks : Int) + 1))) (a := ⟨R, 3, none⟩) rfl (.int .i64 (imax s.depth t.depth))
  have tc := tb.kept kc n1.symm
  have kd := Keeps.drew None (((w.setCell ⟨X, 35, none⟩ (.int .i64 s.tasks)).setCell ⟨R, 2, none⟩ (.int .i64 ((s.tasks : Int) + 1))).setCell ⟨R, 3, none⟩ (.int .i64 (imax s.depth t.depth)))
  refine ⟨rc.kept kd (fun _ _ f => f), tc.kept kd (fun f => f), ?_⟩
  exact (((ka.mono (fun _ e _ => Or.inr e)).trans kb (fun _ e _ => Or.inl e)).trans kc (fun _ e _ => Or.inl e)).trans kd (fun _ f _ => f.elim)
/-- The node's own cells. -/
def entN (W : World) (X : Nat) (F P A0 : Int) : World := (((W.setCell ⟨X, 30, none⟩ (.int .i64 F)).setCell ⟨X, 32, none⟩ (.int .i64 P)).setCell ⟨X, 33, none⟩ (.int .i64 A0)).drew
theorem entered2 {R X : Nat} {fv nv : Value} {L : Bool} {s s' : Rn} {t : Tk} {W : World} (h : IsRn W R fv L s nv) (ht : IsTkN W X 0 0 0 { t with number := s'.tasks }) :
    IsRn (entN W X t.node.func t.node.ped (t.regs.getD 0 0)) R fv L s nv ∧ IsTk (entN W X t.node.func t.node.ped (t.regs.getD 0 0)) X 0 (enterT s' t) ∧ Keeps (· = X) W (entN W X t.node.func t.node.ped (t.regs.getD 0 0)) := by
  have n1 := h.ne ht
  have ta := ht.putTail (nf' := t.node.func) (np' := 0) (t' := { t with number := s'.tasks }) (j := 2) (x := t.node.func) rfl rfl rfl
  have tb := ta.putTail (nf' := t.node.func) (np' := t.node.ped) (t' := { t with number := s'.tasks }) (j := 4) (x := t.node.ped) rfl rfl rfl
  have tc := tb.putTail (nf' := t.node.func) (np' := t.node.ped) (t' := enterT s' t) (j := 5) (x := t.regs.getD 0 0) rfl rfl rfl
  have kk : Keeps (· = X) W _ := (((Keeps.refl (· = X) W).andSet (x := ⟨X, 30, none⟩) (.inl rfl) (.int .i64 t.node.func)).andSet (x := ⟨X, 32, none⟩) (.inl rfl) (.int .i64 t.node.ped)).andSet (x := ⟨X, 33, none⟩) (.inl rfl) (.int .i64 (t.regs.getD 0 0))
  exact ⟨h.kept kk.andDrew (fun k hk e => by subst e; rcases hk with hk | hk; exact n1 hk.symm; exact h.nX ht hk), tc.kept (Keeps.drew None _) (fun f => f), kk.andDrew⟩
set_option maxHeartbeats 1000000 in
theorem enter_off (R X : Nat) (fv nv : Value) (s : Rn) (t : Tk) (w : World) (h : IsRn w R fv false s nv) (ht : IsTkN w X 0 0 0 t) (hd : ¬ 4096 < t.depth) (b1 : s.tasks ≤ 8388608) :
    Calls Tryd.prog 46 #[.pointer (some ⟨R, 0, none⟩), .pointer (some ⟨X, 0, none⟩)] w fun e w' => e = .returned (.tuple #[]) ∧ IsRn w' R fv false (enterS false s t) nv ∧ IsTk w' X 0 (enterT s t) ∧ Keeps (fun k => k = R ∨ k = X) w w' := by
  have c1 := ht.tail 8 rfl
  have c2 : w.cell? ⟨R, 2, none⟩ = some (.int .i64 s.tasks) := (blk_cell h.blk 2).trans rfl
  have c3 : w.cell? ⟨R, 3, none⟩ = some (.int .i64 s.depth) := (blk_cell h.blk 3).trans rfl
  have c4 : w.cell? ⟨R, 4, none⟩ = some (.bool false) := (blk_cell h.blk 4).trans rfl
  have c7 := ht.tail 7 rfl
  have z1 := ht.free 35
  have z3 := blk_free h.blk 2
  have z4 := blk_free h.blk 3
  have n1 := h.ne ht
  have n2 := n1.symm
  obtain ⟨h2, t2, k2⟩ := entered h ht
  obtain ⟨h3, t3, k3⟩ := entered2 (s' := s) h2 t2
  have HH : Hid (IsRn (entN (entW w R X s.tasks (imax s.depth t.depth)) X t.node.func t.node.ped (t.regs.getD 0 0)) R fv false (enterS false s t) nv ∧ IsTk (entN (entW w R X s.tasks (imax s.depth t.depth)) X t.node.func t.node.ped (t.regs.getD 0 0)) X 0 (enterT s t) ∧ Keeps (fun k => k = R ∨ k = X) w (entN (entW w R X s.tasks (imax s.depth t.depth)) X t.node.func t.node.ped (t.regs.getD 0 0))) := ⟨h3, t3, k2.trans k3 (fun _ e _ => .inr e)⟩
  have d1 := t2.tsk.func
  have d2 := t2.tsk.ped
  have d3 := t2.reg (k := 0) (by omega)
  have d4 : (entW w R X s.tasks (imax s.depth t.depth)).cell? ⟨R, 4, none⟩ = some (.bool false) := (blk_cell h2.blk 4).trans rfl
  have e1 := t2.tail 2 rfl
  have e2 := t2.tail 4 rfl
  have e3 := t2.tail 5 rfl
  have f1 := t2.free 30
  have f2 := t2.free 32
  have f3 := t2.free 33
  clear h ht h2 t2 k2 h3 t3 k3
  obtain ⟨T0, hT0⟩ : ∃ T0 : Int, T0 = s.tasks := ⟨_, rfl⟩
  rw [← hT0] at c2 HH d1 d2 d3 d4 e1 e2 e3 f1 f2 f3
  have b2 : 0 ≤ T0 ∧ T0 ≤ 8388608 := by omega
  obtain ⟨W, hW⟩ : ∃ W, W = entW w R X T0 (imax s.depth t.depth) := ⟨_, rfl⟩
  rw [← hW] at HH d1 d2 d3 d4 e1 e2 e3 f1 f2 f3
  unfold entN at HH
  clear hT0
  have dd1 : W.cell? ⟨X, 0, none⟩ = some (.int .i64 t.node.func) := d1
  have dd2 : W.cell? ⟨X, 18, none⟩ = some (.int .i64 t.node.ped) := d2
  have dd3 : W.cell? ⟨X, 2, none⟩ = some (.int .i64 (t.regs.getD 0 0)) := d3
  clear d1 d2 d3
  unfold entW at hW
  have HW : Hid _ := hW
  clear hW
  generalize t.regs.getD 0 0 = A0 at *
  go_enter Tryd.func46, Tryd.ntmps46
  by_cases hlt : s.depth < t.depth
  · have e : imax s.depth t.depth = t.depth := if_pos hlt
    rw [e] at HW
    clear e
    go_wp2_with fail
    go_region
    all_goals go_upto_region 5 with fail
    all_goals rw [← HW.out]
    all_goals clear c1 c2 c3 c4 c7 z1 z3 z4 HW
    all_goals go_region
    all_goals go_wp2_with fail
    all_goals go_end0
    all_goals exact ⟨rfl, HH.out⟩
  · have e : imax s.depth t.depth = s.depth := if_neg hlt
    rw [e] at HW
    clear e
    go_wp2_with fail
    go_region
    all_goals go_upto_region 5 with fail
    all_goals rw [← HW.out]
    all_goals clear c1 c2 c3 c4 c7 z1 z3 z4 HW
    all_goals go_region
    all_goals go_wp2_with fail
    all_goals go_end0
    all_goals exact ⟨rfl, HH.out⟩
end Go.Proofs.YtafgkehmmfmloaaDoor
