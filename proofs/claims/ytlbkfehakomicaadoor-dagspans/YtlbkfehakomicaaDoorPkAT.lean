import Derived.Test.YtlbkfehakomicaaDoorPkAL
import Derived.Test.YtlbkfehakomicaaDoorPkAS
import Derived.Test.YtlbkfehakomicaaDoorPkAN
/-! Check. -/
namespace Go.Proofs.YtlbkfehakomicaaDoor
set_option linter.unusedVariables false
set_option maxRecDepth 20000
open Go.RowKit Go.HeapKit

def checkF (l : List Fn) : Value := faultV (checkV l).1 (checkV l).2.1 (checkV l).2.2
def zeroF : Array Value := #[.int .i64 0, .int .i64 0, .int .i64 0]
theorem out_panic {Q : Ending → World → Prop} {tmps : Array Value} {w3 : World} {p : Nat} {c : Array Value} {e n x : Int} (ha : tmps.getD 2 undef = .pointer (some ⟨p, 0, none⟩)) (hb : w3.heap[p]? = some (.cells c 76 (0, 0))) (hs : c.size = 3)
    (hQ : ∀ w', Keeps (· = p) w3 w' → Q (.returned (faultV e n x)) w') :
    bodyPostD Tryd.prog Tryd.f22 Q (.panic (thrown e n x)) { tmps := tmps, defers := [{ target := .fn (.func 39) #[.pointer (some ⟨p, 0, none⟩)], args := #[] }] } w3 := by
  refine leaves_cons (f := 39) (args := #[.pointer (some ⟨p, 0, none⟩)]) (by simp) (by simp [go_sem]) ?_
  refine (catch_panic p c e n x w3 hb hs).mono ?_
  rintro _ u' w4 ⟨rfl, rfl, hb4, hk4⟩
  have hr := results_one (P := Tryd.prog) (fn := Tryd.f22) (q := 2) (ty := 76) rfl ha (load_fault w4 p _ e n x hb4)
  simp [Leaves, settle, hr]
  exact hQ w4 hk4
theorem out_ret {Q : Ending → World → Prop} {tmps : Array Value} {w3 : World} {p : Nat} {c : Array Value} (ha : tmps.getD 2 undef = .pointer (some ⟨p, 0, none⟩)) (hb : w3.heap[p]? = some (.cells c 76 (0, 0))) (hs : c.size = 3)
    (hQ : ∀ w', Keeps (· = p) w3 w' → Q (.returned (faultV 0 0 0)) w') :
    bodyPostD Tryd.prog Tryd.f22 Q .ret { tmps := tmps, defers := [{ target := .fn (.func 39) #[.pointer (some ⟨p, 0, none⟩)], args := #[] }] } w3 := by
  refine leaves_cons (f := 39) (args := #[.pointer (some ⟨p, 0, none⟩)]) (by simp) (by simp [go_sem]) ?_
  refine (catch_none p c w3 hb hs).mono ?_
  rintro _ u' w4 ⟨rfl, rfl, hb4, hk4⟩
  have hr := results_one (P := Tryd.prog) (fn := Tryd.f22) (q := 2) (ty := 76) rfl ha (load_fault w4 p _ 0 0 0 hb4)
  simp [Leaves, settle, hr]
  exact hQ w4 hk4
set_option maxHeartbeats 2000000 in
theorem check_any (a : Option Addr) (n c : Nat) (l : List Fn) (w : World) (hT : Tabs w) (hS : SeenF w a n l) (hok : ∀ f ∈ l, f.Ok) :
    Calls Tryd.prog 22 #[.agg #[.slice a n c]] w fun e w' => e = .returned (checkF l) ∧ Keeps None w w' := by
  have hmf : ∀ (fn : Go.Fn) (first cap : Array Value) (w : World), (Instr.makeFunc fn first cap).run Tryd.prog w = .ok (.func fn first cap) w := fun _ _ _ _ => rfl
  obtain ⟨B, hB⟩ : ∃ B, B = w.heap.size := ⟨_, rfl⟩
  obtain ⟨b1, b2⟩ := two_boxes w #[.slice a n c] zeroF 24 76
  have hk2 := keeps2 w (.cells #[.slice a n c] 24) (.cells zeroF 76)
  unfold zeroF at b1 b2 hk2
  obtain ⟨w2, hw2⟩ : ∃ w2, w2 = (w.alloc (.cells #[.slice a n c] 24)).alloc (.cells #[.int .i64 0, .int .i64 0, .int .i64 0] 76) := ⟨_, rfl⟩
  rw [← hw2, ← hB] at b1 b2
  rw [← hw2] at hk2
  have H2 : Hid (w2.heap[B]? = some (.cells #[.slice a n c] 24 (0, 0)) ∧ w2.heap[B + 1]? = some (.cells #[.int .i64 0, .int .i64 0, .int .i64 0] 76 (0, 0)) ∧ Keeps None w w2 ∧ B = w.heap.size) := ⟨b1, b2, hk2, hB⟩
  have HS : Hid (Tabs w ∧ SeenF w a n l ∧ ∀ f ∈ l, f.Ok) := ⟨hT, hS, hok⟩
  have d0 := (cell_of_heap b1 0).trans rfl
  have hsh := shapes_any a n c l w2 (hS.more hk2)
  have hln := hS.len
  have HLN : Hid (n = l.length) := hln
  clear b1 b2 hk2 hT hS hok hln
  cases hE : shapesE l with
  | outgrown => exact absurd hE (by unfold shapesE; split; · simp
                                    split <;> simp)
  | panicked ch =>
    obtain ⟨e, x, rfl, hv⟩ : ∃ e x : Int, ch = thrown e x 0 ∧ checkF l = faultV e x 0 := by
      unfold shapesE at hE
      unfold checkF checkV
      split at hE
      · rename_i h1
        rw [if_pos h1]
        injection hE with hE
        exact ⟨50, 0, hE.symm, rfl⟩
      · rename_i h1
        rw [if_neg h1]
        split at hE
        · rename_i r hr
          injection hE with hE
          rw [hr]
          exact ⟨51, r.1, hE.symm, rfl⟩
        · cases hE
    rw [hE] at hsh
    rw [hv]
    clear hE hv
    go_enter_defers Tryd.func22, Tryd.ntmps22
    rw [hw2] at d0
    go_wp2_with (go_at_call 41; rw [← hw2]; refine hsh.mono ?_; rintro _ w3 ⟨rfl, hk3⟩)
    rw [← hB]
    exact out_panic rfl (blk_kept H2.out.2.1 hk3 (fun f => f)) rfl (fun w' hk => ⟨rfl, (H2.out.2.2.1.trans hk3 (fun _ f _ => f)).trans hk (fun i e hi => by have := H2.out.2.2.2; omega)⟩)
  | returned v =>
    obtain ⟨rfl, hlen, hsv, hv⟩ : v = .tuple #[] ∧ (1 ≤ l.length ∧ l.length ≤ 32) ∧ (∀ f ∈ l, shapeV f = true) ∧ checkF l = (match firstAt (fun _ f => codeFault false l f) l 0 with
      | some r => faultV r.2.1 r.1 r.2.2
      | none => match firstAt (fun _ f => slotFault f) l 0 with
        | some r => faultV r.2.1 r.1 r.2.2
        | none => faultV 0 0 0) := by
      unfold shapesE at hE
      unfold checkF checkV
      split at hE
      · cases hE
      · rename_i h1
        rw [if_neg h1]
        split at hE
        · cases hE
        · rename_i hr
          injection hE with hE
          refine ⟨hE.symm, by omega, fun f hf => ?_, ?_⟩
          · obtain ⟨k, hk, rfl⟩ := List.mem_iff_getElem.1 hf
            have := firstAt_all _ _ _ hr k _ (List.getElem?_eq_getElem hk)
            by_cases hv : shapeV l[k] = true
            · exact hv
            · simp [hv] at this
          · rw [hr]
            cases firstAt (fun _ f => codeFault false l f) l 0 with
            | some r => rfl
            | none =>
              cases firstAt (fun _ f => slotFault f) l 0 with
              | some r => rfl
              | none => rfl
    rw [hE] at hsh
    obtain ⟨R, hR⟩ : ∃ R, R = checkF l := ⟨_, rfl⟩
    rw [← hR]
    have HR : Hid _ := hR.trans hv
    have HX : Hid (∀ f ∈ l, shapeV f = true) := hsv
    have n32 : n ≤ 32 := by have := HLN.out; omega
    clear hE hv hR hsv hlen
    go_enter_defers Tryd.func22, Tryd.ntmps22
    rw [hw2] at d0
    go_upto_region 3 with (go_at_call 41; rw [← hw2]; refine hsh.mono ?_; rintro _ w3 ⟨rfl, hk3⟩)
    rw [← hB]
    have H3 : Hid (w3.heap[B]? = some (.cells #[.slice a n c] 24 (0, 0)) ∧ w3.heap[B + 1]? = some (.cells #[.int .i64 0, .int .i64 0, .int .i64 0] 76 (0, 0)) ∧ Keeps None w w3) := ⟨blk_kept H2.out.1 hk3 (fun f => f), blk_kept H2.out.2.1 hk3 (fun f => f), H2.out.2.2.1.trans hk3 (fun _ f _ => f)⟩
    have d1 := (cell_of_heap H3.out.1 0).trans rfl
    have HBB : Hid (B = w.heap.size) := hB
    clear d0 hw2 hk3 hsh hB
    go_wp2_with fail
    go_loopw [14] (fun s14 wr => ∃ k : Nat, k ≤ n ∧ s14 = .int .i64 k ∧ (∀ (j : Nat) f, j < k → l[j]? = some f → codeFault false l f = none) ∧ wr.heap[B]? = some (.cells #[.slice a n c] 24 (0, 0)) ∧ wr.heap[B + 1]? = some (.cells #[.int .i64 0, .int .i64 0, .int .i64 0] 76 (0, 0)) ∧ Keeps None w wr) (fun i _ => n - (intOf i).toNat)
    case atStart => exact ⟨0, Nat.zero_le _, rfl, fun q _ h => by omega, H3.out.1, H3.out.2.1, H3.out.2.2⟩
    case round =>
      clear d1
      obtain ⟨k, hk, rfl, hall, hb1, hb2, hkp⟩ := hrel
      by_cases hkn : k < n
      · obtain ⟨b, off, f, ca, cc, rfl, hf, hat⟩ := (HS.out.2.1.more hkp).at hkn
        have i1 : (k : Int) < (n : Int) := by omega
        have d0 := (cell_of_heap hb1 0).trans rfl
        obtain ⟨X, hX⟩ : ∃ X, X = wr.heap.size := ⟨_, rfl⟩
        have hal := Keeps.alloc None wr (.cells #[.int .i64 f.params, .int .i64 f.regs, .int .i64 f.slots, .slice ca f.code.length cc] 49)
        have hkx := hkp.trans hal (fun _ f _ => f)
        have d0' := hal.cell d0 (fun f => f)
        have hcc := code_any (k : Int) f ca cc (some ⟨b, off, none⟩) n c _ l (HS.out.1.more hkx) (HS.out.2.1.more hkx) (hat.seen.more hal) (HS.out.2.2 f (List.mem_of_getElem? hf)).code (HX.out f (List.mem_of_getElem? hf))
        unfold codeV at hcc
        obtain ⟨y0, y1, y2, y3, -⟩ := hat
        have HK : Hid ((∀ (j : Nat) f, j < k → l[j]? = some f → codeFault false l f = none) ∧ l[k]? = some f ∧ Keeps None w (wr.alloc (.cells #[.int .i64 f.params, .int .i64 f.regs, .int .i64 f.slots, .slice ca f.code.length cc] 49)) ∧ (wr.alloc (.cells #[.int .i64 f.params, .int .i64 f.regs, .int .i64 f.slots, .slice ca f.code.length cc] 49)).heap[B]? = some (.cells #[.slice (some ⟨b, off, none⟩) n c] 24 (0, 0)) ∧ (wr.alloc (.cells #[.int .i64 f.params, .int .i64 f.regs, .int .i64 f.slots, .slice ca f.code.length cc] 49)).heap[B + 1]? = some (.cells #[.int .i64 0, .int .i64 0, .int .i64 0] 76 (0, 0))) := ⟨hall, hf, hkx, blk_kept hb1 hal (fun f => f), blk_kept hb2 hal (fun f => f)⟩
        clear hall hf hkx hb1 hb2 hal hkp
        unfold codeE at hcc
        cases hcf : codeFault false l f with
        | some r =>
          rw [hcf] at hcc
          have HC : Hid (codeFault false l f = some r) := hcf
          clear hcf
          go_wp2_with (go_at_call 42; refine hcc.mono ?_; rintro _ w4 ⟨rfl, hk4⟩)
          have hRR : R = faultV r.1 k r.2 := by
            rw [HR.out, firstAt_some _ l 0 k f r HK.out.2.1 (fun j y hj hy => HK.out.1 j y hj hy) HC.out]
            simp
          exact out_panic rfl (blk_kept HK.out.2.2.2.2 hk4 (fun f => f)) rfl (fun w' hkw => ⟨by rw [hRR], (HK.out.2.2.1.trans hk4 (fun _ f _ => f)).trans hkw (fun i e hi => by have := HBB.out; omega)⟩)
        | none =>
          rw [hcf] at hcc
          have HC : Hid (codeFault false l f = none) := hcf
          clear hcf
          go_wp2_with (go_at_call 42; refine hcc.mono ?_; rintro _ w4 ⟨rfl, hk4⟩)
          refine ⟨⟨k + 1, by omega, by simp, fun j z hj hz => ?_, blk_kept HK.out.2.2.2.1 hk4 (fun f => f), blk_kept HK.out.2.2.2.2 hk4 (fun f => f), HK.out.2.2.1.trans hk4 (fun _ f _ => f)⟩, by simp [intOf]; omega⟩
          by_cases hjk : j = k
          · subst hjk
            rw [HK.out.2.1] at hz
            obtain rfl := Option.some.inj hz
            exact HC.out
          · exact HK.out.1 j z (by omega) hz
      · have i1 : ¬ ((k : Int) < (n : Int)) := by omega
        have d1 := (cell_of_heap hb1 0).trans rfl
        have hall2 : ∀ f ∈ l, codeFault false l f = none := fun f hf => by
          obtain ⟨j, hj, rfl⟩ := List.mem_iff_getElem.1 hf
          exact hall j _ (by have := HLN.out; omega) (List.getElem?_eq_getElem hj)
        have HR2 : Hid (R = (match firstAt (fun _ f => slotFault f) l 0 with
          | some r => faultV r.2.1 r.1 r.2.2
          | none => faultV 0 0 0)) := by
          unfold Hid
          rw [HR.out, firstAt_none (fun _ f => codeFault false l f) l 0 (fun j y hy => hall2 y (List.mem_of_getElem? hy))]
        have HK : Hid ((∀ f ∈ l, codeFault false l f = none) ∧ Keeps None w wr ∧ wr.heap[B]? = some (.cells #[.slice a n c] 24 (0, 0)) ∧ wr.heap[B + 1]? = some (.cells #[.int .i64 0, .int .i64 0, .int .i64 0] 76 (0, 0))) := ⟨hall2, hkp, hb1, hb2⟩
        clear hall hall2 hkp hb1 hb2 H3
        go_wp2_with fail
        go_loopw [29] (fun s29 wr => ∃ k : Nat, k ≤ n ∧ s29 = .int .i64 k ∧ (∀ (j : Nat) f, j < k → l[j]? = some f → slotFault f = none) ∧ wr.heap[B + 1]? = some (.cells #[.int .i64 0, .int .i64 0, .int .i64 0] 76 (0, 0)) ∧ Keeps None w wr) (fun i _ => n - (intOf i).toNat)
        case atStart => exact ⟨0, Nat.zero_le _, rfl, fun q _ h => by omega, HK.out.2.2.2, HK.out.2.1⟩
        case round =>
          clear d1 i1
          obtain ⟨k, hk, rfl, hall, hb2, hkp⟩ := hrel
          by_cases hkn : k < n
          · obtain ⟨b, off, f, ca, cc, rfl, hf, hat⟩ := (HS.out.2.1.more hkp).at hkn
            have i1 : (k : Int) < (n : Int) := by omega
            have hal := Keeps.alloc None wr (.cells #[.int .i64 f.params, .int .i64 f.regs, .int .i64 f.slots, .slice ca f.code.length cc] 49)
            have hkx := hkp.trans hal (fun _ f _ => f)
            have hcc := slots_any (k : Int) f ca cc _ false l (HS.out.1.more hkx) (hat.seen.more hal) (HX.out f (List.mem_of_getElem? hf)) (HK.out.1 f (List.mem_of_getElem? hf))
            unfold fnV at hcc
            obtain ⟨y0, y1, y2, y3, -⟩ := hat
            have HJ : Hid ((∀ (j : Nat) f, j < k → l[j]? = some f → slotFault f = none) ∧ l[k]? = some f ∧ Keeps None w (wr.alloc (.cells #[.int .i64 f.params, .int .i64 f.regs, .int .i64 f.slots, .slice ca f.code.length cc] 49)) ∧ (wr.alloc (.cells #[.int .i64 f.params, .int .i64 f.regs, .int .i64 f.slots, .slice ca f.code.length cc] 49)).heap[B + 1]? = some (.cells #[.int .i64 0, .int .i64 0, .int .i64 0] 76 (0, 0))) := ⟨hall, hf, hkx, blk_kept hb2 hal (fun f => f)⟩
            clear hall hf hkx hb2 hal hkp
            unfold slotsE at hcc
            cases hcf : slotFault f with
            | some r =>
              rw [hcf] at hcc
              have HC : Hid (slotFault f = some r) := hcf
              clear hcf
              go_wp2_with (go_at_call 43; refine hcc.mono ?_; rintro _ w4 ⟨rfl, hk4⟩)
              have hRR : R = faultV r.1 k r.2 := by
                rw [HR2.out, firstAt_some _ l 0 k f r HJ.out.2.1 (fun j y hj hy => HJ.out.1 j y hj hy) HC.out]
                simp
              exact out_panic rfl (blk_kept HJ.out.2.2.2 hk4 (fun f => f)) rfl (fun w' hkw => ⟨by rw [hRR], (HJ.out.2.2.1.trans hk4 (fun _ f _ => f)).trans hkw (fun i e hi => by have := HBB.out; omega)⟩)
            | none =>
              rw [hcf] at hcc
              have HC : Hid (slotFault f = none) := hcf
              clear hcf
              go_wp2_with (go_at_call 43; refine hcc.mono ?_; rintro _ w4 ⟨rfl, hk4⟩)
              refine ⟨⟨k + 1, by omega, by simp, fun j z hj hz => ?_, blk_kept HJ.out.2.2.2 hk4 (fun f => f), HJ.out.2.2.1.trans hk4 (fun _ f _ => f)⟩, by simp [intOf]; omega⟩
              by_cases hjk : j = k
              · subst hjk
                rw [HJ.out.2.1] at hz
                obtain rfl := Option.some.inj hz
                exact HC.out
              · exact HJ.out.1 j z (by omega) hz
          · have i1 : ¬ ((k : Int) < (n : Int)) := by omega
            have hRR : R = faultV 0 0 0 := by
              rw [HR2.out, firstAt_none (fun _ f => slotFault f) l 0 (fun j y hy => hall j y (by have := HLN.out; have := (List.getElem?_eq_some_iff.1 hy).1; omega) hy)]
            have c0 := (cell_of_heap hb2 0).trans rfl
            have c1 := (cell_of_heap hb2 1).trans rfl
            have c2 := (cell_of_heap hb2 2).trans rfl
            have z0 := blk_free hb2 0
            have z1 := blk_free hb2 1
            have z2 := blk_free hb2 2
            have b3 := blk_set (i := 2) (blk_set (i := 1) (blk_set (i := 0) hb2 (.int .i64 0)) (.int .i64 0)) (.int .i64 0)
            have k3 : Keeps (· = B + 1) wr (((wr.setCell ⟨B + 1, 0, none⟩ (.int .i64 0)).setCell ⟨B + 1, 1, none⟩ (.int .i64 0)).setCell ⟨B + 1, 2, none⟩ (.int .i64 0)) := (((Keeps.refl (· = B + 1) wr).andSet (x := ⟨B + 1, 0, none⟩) (.inl rfl) _).andSet (x := ⟨B + 1, 1, none⟩) (.inl rfl) _).andSet (x := ⟨B + 1, 2, none⟩) (.inl rfl) _
            have HZ : Hid (R = faultV 0 0 0 ∧ _ ∧ Keeps None w wr ∧ Keeps (· = B + 1) wr _) := ⟨hRR, b3, hkp, k3⟩
            clear hall hb2 hkp hRR b3 k3
            go_wp2_with fail
            exact out_ret rfl HZ.out.2.1 rfl (fun w' hkw => ⟨by rw [HZ.out.1], (HZ.out.2.2.1.trans HZ.out.2.2.2 (fun i e hi => by have := HBB.out; omega)).trans hkw (fun i e hi => by have := HBB.out; omega)⟩)
end Go.Proofs.YtlbkfehakomicaaDoor
/-! root. -/
namespace Go.Proofs.YtlbkfehakomicaaDoor
set_option linter.unusedVariables false
set_option maxRecDepth 20000
open Go.RowKit Go.HeapKit Go.PlainOps

theorem wpList_build_eq {P : Program} {ops : Array Oper} {rest : List Oper} {o : Oper} {a : Act} {w : World} {Q : Exit → Act → World → Prop} (hg : o.guard = none) (t : TypeId) (parts : Array (Nat × Operand)) (ho : o.op = .build t parts) (cells : Array Value)
    (hf : P.built t (parts.map fun (i, x) => (i, a.eval x)).toList = some cells) (h : wpList P ops Q rest (a.put o.dst (.agg cells)) w) : wpList P ops Q (o :: rest) a w :=
  wpList_build hg t parts ho (by rw [hf]; rfl) (by rw [hf]; exact h)
def blankT (d : Int) : Tk := { regs := List.replicate 16 0, slots := List.replicate 8 0, node := ⟨0, 0, 0, 0, 0, 0, 0⟩, number := 0, depth := d, spawned := 0, span := 0, due := 0 }
theorem rootT_l (zs : List Int) : (rootT zs).l 0 0 0 = (rootK zs).l ++ (List.replicate 8 0 ++ [-1, 0, 0, 0, 0, 0, 0, 0, 1, 0, 0]) := rfl
set_option maxHeartbeats 2000000 in
theorem root_any (a : Option Addr) (n c : Nat) (zs : List Int) (w : World) (hS : SeenA w a n zs) (hn : n ≤ 16) :
    Calls Tryd.prog 17 #[.slice a n c] w fun e w' => e = .returned (tkV (rootT zs)) ∧ Keeps None w w' := by
  have hal := Keeps.alloc None w (.cells (ints ((blankT 0).l 0 0 0)).toArray 66)
  have bR := heap_alloc_new w (.cells (ints ((blankT 0).l 0 0 0)).toArray 66)
  obtain ⟨W, hW⟩ : ∃ W, W = w.alloc (.cells (ints ((blankT 0).l 0 0 0)).toArray 66) := ⟨_, rfl⟩
  obtain ⟨B, hB⟩ : ∃ B, B = w.heap.size := ⟨_, rfl⟩
  rw [← hW] at hal bR
  rw [← hB] at bR
  have hrt := troot_any a n c zs W (hS.more hal) hn
  have hbt := built_task (rootK zs) (args_len _ _ _) (-1) 0 1
  have hsz : (ints ((rootT zs).l 0 0 0)).toArray.size = 39 := tk_len (args_len _ _ _) rfl
  unfold tkV
  rw [rootT_l] at hsz ⊢
  have hone := ints_one ((rootK zs).l ++ (List.replicate 8 0 ++ [-1, 0, 0, 0, 0, 0, 0, 0, 1, 0, 0]))
  generalize (ints ((rootK zs).l ++ (List.replicate 8 0 ++ [-1, 0, 0, 0, 0, 0, 0, 0, 1, 0, 0]))).toArray = cw at *
  generalize (ints (rootK zs).l).toArray = cv at *
  have HX : Hid (Keeps None w W ∧ B = w.heap.size) := ⟨hal, hB⟩
  have HB : Hid _ := bR
  have HBT : Hid _ := hbt
  have HSZ : Hid _ := hsz
  have HON : Hid _ := hone
  clear hal bR hS hbt hsz hone
  go_enter Tryd.func17, Tryd.ntmps17
  go_upto_region 1 with fail
  change Code.wp _ _ _ _ (w.alloc (.cells (ints ((blankT 0).l 0 0 0)).toArray 66))
  rw [← hW, ← hB]
  clear hW hB
  go_wp2_with (first | (go_at_call 30; refine hrt.mono ?_; rintro _ w2 ⟨rfl, hk2⟩; have bB := blk_kept HB.out hk2 (fun f => f)) | (refine wpList_build_eq rfl 66 #[(0, .tmp 4), (2, .tmp 5), (4, .const (.int .i64 1))] rfl cw (by simpa [Act.eval] using HBT.out) ?_) | (refine wpList_store_row rfl 66 (.tmp 2) (.tmp 6) rfl B cw rfl rfl 66 (ints ((blankT 0).l 0 0 0)).toArray bB (by rw [HSZ.out]; exact Tryd.infoTk) (by rw [HSZ.out]; rfl) HON.out ?_))
  exact bodyPost_ret (results_one (q := 2) (ty := 66) rfl rfl (run_loadVar_row _ B _ 66 _ _ _ (setRow_heap bB) Tryd.underlying66 rfl (by rw [HSZ.out]; exact Tryd.infoTk))) rfl ⟨rfl, (HX.out.1.trans hk2 (fun _ f _ => f)).trans (setRow_keeps _ _ _) (fun i e hi => by have := HX.out.2; omega)⟩
end Go.Proofs.YtlbkfehakomicaaDoor
/-! check: what comes ahead of a run; what is thrown is caught. -/
namespace Go.Proofs.YtlbkfehakomicaaDoor
set_option linter.unusedVariables false
set_option maxRecDepth 20000
open Go.RowKit Go.HeapKit Go.PlainOps

theorem put_same {K : Act → World → Prop} {a : Act} {d : Option Tmp} {v v' : Value} {w : World} (h : v = v') (k : K (a.put d v') w) : K (a.put d v) w := h ▸ k
set_option maxHeartbeats 2000000 in
theorem scheck_any (a : Option Addr) (n c : Nat) (l : List Fn) (aa : Option Addr) (an ac : Nat) (zs : List Int) (fuel : Int) (w : World) (hT : Tabs w) (hS : SeenF w a n l) (hok : ∀ f ∈ l, f.Ok) (hZ : an = zs.length) (hZ2 : an ≤ 9223372036854775807) (hfu : okI fuel) :
    Calls Tryd.prog 15 #[.agg #[.slice a n c], .slice aa an ac, .int .i64 fuel] w fun e w' => e = (if refusedV l zs fuel = 0 then .returned (.tuple #[]) else .panicked (thrownE (refusedV l zs fuel))) ∧ Keeps None w w' := by
  have bP := heap_alloc_new w (.cells #[.slice a n c] 24)
  have hal := Keeps.alloc None w (.cells #[.slice a n c] 24)
  obtain ⟨W, hW⟩ : ∃ W, W = w.alloc (.cells #[.slice a n c] 24) := ⟨_, rfl⟩
  obtain ⟨B, hB⟩ : ∃ B, B = w.heap.size := ⟨_, rfl⟩
  rw [← hW] at bP hal
  rw [← hB] at bP
  have c0 : W.cell? ⟨B, 0, none⟩ = some (.slice a n c) := (blk_cell bP 0).trans rfl
  have hck := check_any a n c l W (hT.more hal) (hS.more hal) hok
  unfold checkF faultV at hck
  have HX : Hid (Keeps None w W ∧ W.heap[B]? = some (.cells #[.slice a n c] 24 (0, 0)) ∧ SeenF w a n l) := ⟨hal, bP, hS⟩
  by_cases h1 : (checkV l).1 = 0
  · have hcz := check_zero h1
    obtain ⟨hl1, hl2, hall⟩ := check_valid hcz
    rw [hcz] at hck
    obtain ⟨f, hf⟩ : ∃ f, l[0]? = some f := ⟨l[0], by simp⟩
    have hpar : parV l 0 = f.params := by simp [parV, hf]
    have hV := hall f (List.mem_of_getElem? hf)
    obtain ⟨np, hnp⟩ := Int.eq_ofNat_of_zero_le (valid_bounds hV).1.1
    have hln := hS.len
    obtain ⟨b, off, rfl, hb, hfn⟩ := hS.ex (by omega)
    obtain ⟨ca, cc, hat⟩ := hfn 0 f hf
    have p0 : w.cell? ⟨b, off, none⟩ = some (.int .i64 (np : Int)) := by rw [← hnp]; simpa using hat.params
    have i1 : (0 : Int) < (n : Int) := by omega
    have HP : Hid (w.cell? ⟨b, off, none⟩ = some (.int .i64 (np : Int))) := p0
    by_cases h2 : ((zs.length : Int)) = parV l 0
    · have h2n : (an : Int) = (np : Int) := by rw [hZ, h2, hpar, hnp]
      by_cases h3 : fuel < 0 ∨ 4194304 < fuel
      · have hr : refusedV l zs fuel = 3 := by unfold refusedV; rw [if_neg (by simpa using h1), if_neg (by simpa using h2), if_pos h3]
        rw [hr]
        have HF : Hid (fuel < 0 ∨ 4194304 < fuel) := h3
        obtain rfl : an = np := by omega
        clear hcz hl1 hl2 hall hf hpar hV hnp hln hb hfn hat p0 h1 h2 h2n hr hZ hS hal bP hT hok h3
        go_enter Tryd.func15, Tryd.ntmps15
        go_upto_region 1 with fail
        rw [← hW, ← hB]
        clear hW hB
        go_wp2_with (go_at_call 22; refine hck.mono ?_; rintro _ w3 ⟨rfl, hk3⟩)
        refine put_same (v' := .int .i64 0) rfl ?_
        simp only [Act.put, List.setIfInBounds_toArray, List.set_cons_zero, List.set_cons_succ]
        go_upto_region 3 with fail
        have d0 := (blk_cell (blk_kept HX.out.2.1 hk3 (fun f => f)) 0).trans rfl
        have d1 := (HX.out.1.trans hk3 (fun _ f _ => f)).cell HP.out (fun f => f)
        have HK : Hid (Keeps None w w3) := HX.out.1.trans hk3 (fun _ f _ => f)
        clear hck c0
        rcases HF.out with hf | hf
        · go_wp2_with (go_at_call 23; refine (sgiveUp_any _ _).mono ?_; rintro _ w4 ⟨rfl, hw4⟩; have hw5 := hw4.symm; subst hw5)
          exact ⟨rfl, rfl, HK.out⟩
        · have hf2 : ¬ fuel < 0 := by omega
          go_wp2_with (go_at_call 23; refine (sgiveUp_any _ _).mono ?_; rintro _ w4 ⟨rfl, hw4⟩; have hw5 := hw4.symm; subst hw5)
          exact ⟨rfl, rfl, HK.out⟩
      · have hr : refusedV l zs fuel = 0 := by unfold refusedV; rw [if_neg (by simpa using h1), if_neg (by simpa using h2), if_neg h3]
        rw [hr]
        have f1 : ¬ fuel < 0 := by omega
        have f2 : ¬ 4194304 < fuel := by omega
        obtain rfl : an = np := by omega
        clear hcz hl1 hl2 hall hf hpar hV hnp hln hb hfn hat p0 h1 h2 h2n hr hZ hS hal bP hT hok h3
        go_enter Tryd.func15, Tryd.ntmps15
        go_upto_region 1 with fail
        rw [← hW, ← hB]
        clear hW hB
        go_wp2_with (go_at_call 22; refine hck.mono ?_; rintro _ w3 ⟨rfl, hk3⟩)
        refine put_same (v' := .int .i64 0) rfl ?_
        simp only [Act.put, List.setIfInBounds_toArray, List.set_cons_zero, List.set_cons_succ]
        go_upto_region 3 with fail
        have d0 := (blk_cell (blk_kept HX.out.2.1 hk3 (fun f => f)) 0).trans rfl
        have d1 := (HX.out.1.trans hk3 (fun _ f _ => f)).cell HP.out (fun f => f)
        have HK : Hid (Keeps None w w3) := HX.out.1.trans hk3 (fun _ f _ => f)
        clear hck c0
        go_wp2_with fail
        go_end0
        exact ⟨rfl, HK.out⟩
    · have hr : refusedV l zs fuel = 61 := by unfold refusedV; rw [if_neg (by simpa using h1), if_pos (by simpa using h2)]
      rw [hr]
      have h2n : ¬ (an : Int) = (np : Int) := by rw [hZ, ← hnp, ← hpar]; exact h2
      have h2b : ((an : Int) != (np : Int)) = true := by simpa using h2n
      have hnp8 : np ≤ 8 := by have := (valid_bounds hV).1.2; omega
      have h2c : ¬ an = np := by omega
      clear hcz hl1 hl2 hall hf hpar hV hnp hln hb hfn hat p0 h1 h2 hr hZ hS hal bP hT hok h2n
      go_enter Tryd.func15, Tryd.ntmps15
      go_upto_region 1 with fail
      rw [← hW, ← hB]
      clear hW hB
      go_wp2_with (go_at_call 22; refine hck.mono ?_; rintro _ w3 ⟨rfl, hk3⟩)
      refine put_same (v' := .int .i64 0) rfl ?_
      simp only [Act.put, List.setIfInBounds_toArray, List.set_cons_zero, List.set_cons_succ]
      go_upto_region 3 with fail
      have d0 := (blk_cell (blk_kept HX.out.2.1 hk3 (fun f => f)) 0).trans rfl
      have d1 := (HX.out.1.trans hk3 (fun _ f _ => f)).cell HP.out (fun f => f)
      have HK : Hid (Keeps None w w3) := HX.out.1.trans hk3 (fun _ f _ => f)
      clear hck c0
      go_wp2_with (go_at_call 23; refine (sgiveUp_any _ _).mono ?_; rintro _ w4 ⟨rfl, hw4⟩; have hw5 := hw4.symm; subst hw5)
      exact ⟨rfl, rfl, HK.out⟩
  · have hr : refusedV l zs fuel = 60 := by unfold refusedV; rw [if_pos h1]
    rw [hr]
    have h1b : ((checkV l).1 != 0) = true := by simpa using h1
    generalize (checkV l).1 = x at *
    generalize (checkV l).2.1 = y at *
    generalize (checkV l).2.2 = z at *
    clear hr hZ hS hal bP hT hok h1
    go_enter Tryd.func15, Tryd.ntmps15
    go_upto_region 1 with fail
    rw [← hW, ← hB]
    clear hW hB
    go_wp2_with (go_at_call 22; refine hck.mono ?_; rintro _ w3 ⟨rfl, hk3⟩)
    refine put_same (v' := .int .i64 x) rfl ?_
    simp only [Act.put, List.setIfInBounds_toArray, List.set_cons_zero, List.set_cons_succ]
    go_wp2_with (go_at_call 23; refine (sgiveUp_any _ _).mono ?_; rintro _ w4 ⟨rfl, hw4⟩; have hw5 := hw4.symm; subst hw5)
    exact ⟨rfl, rfl, HX.out.1.trans hk3 (fun _ f _ => f)⟩
theorem scaught_nil (w : World) : Calls Tryd.prog 14 #[.nilIface] w fun e w' => e = .returned (.int .i64 0) ∧ w' = w := by
  go_enter Tryd.func14, Tryd.ntmps14
  go_wp2
  go_ret
  exact ⟨rfl, rfl⟩
theorem scaught_err (e : Int) (w : World) : Calls Tryd.prog 14 #[.iface 29 (.int .i64 e)] w fun e' w' => e' = .returned (.int .i64 e) ∧ w' = w := by
  have ht : ∀ wx, (Instr.typeAssert (.iface 29 (.int .i64 e)) 20 29 true).run Tryd.prog wx = .ok (.tuple #[.int .i64 e, .bool true]) wx := fun _ => rfl
  go_enter Tryd.func14, Tryd.ntmps14
  go_wp2
  go_ret
  exact ⟨rfl, rfl⟩
theorem ecatch_panic (q : Nat) (e0 e : Int) (w : World) (hc : w.heap[q]? = some (.cells #[.int .i64 e0] 29 (0, 0))) :
    CallsD Tryd.prog 13 #[.pointer (some ⟨q, 0, none⟩)] (.panicking (thrownE e)) w fun e' u' w' => e' = .returned (.tuple #[]) ∧ u' = .panicking [{ v := .iface 29 (.int .i64 e), recovered := true }] ∧
      w'.heap[q]? = some (.cells #[.int .i64 e] 29 (0, 0)) ∧ Keeps (· = q) w w' := by
  refine callsD_of_wpS Tryd.func13 rfl fun c₀ cs hu => ?_
  unfold thrownE at hu
  apply wpS_region
  simp [wpOpsS, go_sem, recoverD, hu, Tryd.ntmps13]
  refine (scaught_err e w).mono ?_
  rintro _ w2 ⟨rfl, hw2⟩
  subst hw2
  have c0 := (cell_of_heap hc 0).trans rfl
  have z0 := blk_free hc 0
  have b3 := blk_set (i := 0) hc (.int .i64 e)
  have k3 : Keeps (· = q) w2 (w2.setCell ⟨q, 0, none⟩ (.int .i64 e)) := Keeps.setCell (S := (· = q)) w2 (a := ⟨q, 0, none⟩) rfl _
  simp [go_sem, c0, z0, bodyPostS, results, Tryd.results13]
  exact ⟨b3, k3⟩
theorem ecatch_none (q : Nat) (e0 : Int) (w : World) (hc : w.heap[q]? = some (.cells #[.int .i64 e0] 29 (0, 0))) :
    CallsD Tryd.prog 13 #[.pointer (some ⟨q, 0, none⟩)] .returning w fun e' u' w' => e' = .returned (.tuple #[]) ∧ u' = .returning ∧
      w'.heap[q]? = some (.cells #[.int .i64 0] 29 (0, 0)) ∧ Keeps (· = q) w w' := by
  refine callsD_of_wpS Tryd.func13 rfl fun c₀ cs hu => ?_
  apply wpS_region
  simp [wpOpsS, go_sem, recoverD, hu, Tryd.ntmps13]
  refine (scaught_nil w).mono ?_
  rintro _ w2 ⟨rfl, hw2⟩
  subst hw2
  have c0 := (cell_of_heap hc 0).trans rfl
  have z0 := blk_free hc 0
  have b3 := blk_set (i := 0) hc (.int .i64 0)
  have k3 : Keeps (· = q) w2 (w2.setCell ⟨q, 0, none⟩ (.int .i64 0)) := Keeps.setCell (S := (· = q)) w2 (a := ⟨q, 0, none⟩) rfl _
  simp [go_sem, c0, z0, bodyPostS, results, Tryd.results13]
  exact ⟨.returning, by cases c₀; simp_all, rfl, b3, k3⟩
end Go.Proofs.YtlbkfehakomicaaDoor
/-! Eval. -/
namespace Go.Proofs.YtlbkfehakomicaaDoor
set_option linter.unusedVariables false
set_option maxRecDepth 20000
open Go.RowKit Go.HeapKit Go.PlainOps

def valC (v : Val) : Array Value := #[.int .i64 v.v, .int .i64 v.work, .int .i64 v.tasks, .int .i64 v.depth, .int .i64 v.span]
theorem results_two' {P : Program} {fn : Func} {q r : Tmp} {t u : TypeId} (h : fn.results = #[.cell q t, .cell r u]) {tmps : Array Value} {w : World} {g k : Nat} (ha : tmps.getD q undef = .pointer (some ⟨g, 0, none⟩)) (hb : tmps.getD r undef = .pointer (some ⟨k, 0, none⟩)) {v x : Value}
    (hl : (loadVar t ⟨g, 0, none⟩).run P w = .ok v w) (hm : (loadVar u ⟨k, 0, none⟩).run P w = .ok x w) : (results fn tmps).run P w = .ok (.tuple #[v, x]) w := by
  have ha' : tmps[q]?.getD undef = .pointer (some ⟨g, 0, none⟩) := by simpa using ha
  have hb' : tmps[r]?.getD undef = .pointer (some ⟨k, 0, none⟩) := by simpa using hb
  simp [results, h, ha', hb', asAddr, hl, hm]
theorem load_err (w : World) (q : Nat) (e : Int) (h : w.heap[q]? = some (.cells #[.int .i64 e] 29 (0, 0))) : (loadVar 29 ⟨q, 0, none⟩).run Tryd.prog w = .ok (.int .i64 e) w := by
  have hc : w.cell? ⟨q, 0, none⟩ = some (.int .i64 e) := (cell_of_heap h 0).trans rfl
  have hu := Tryd.underlying29
  have ha := Tryd.isAgg29
  have hz := Tryd.sizeOf29
  go_simp
theorem load_val (w : World) (p : Nat) (v : Val) (h : w.heap[p]? = some (.cells (valC v) 28 (0, 0))) : (loadVar 28 ⟨p, 0, none⟩).run Tryd.prog w = .ok (.agg (valC v)) w :=
  run_loadVar_row _ p _ 28 _ _ _ h Tryd.underlying28 rfl (by kernel_rfl)
theorem eout_panic {Q : Ending → World → Prop} {tmps : Array Value} {w3 : World} {p q : Nat} {v : Val} {e0 e : Int} (ha : tmps.getD 6 undef = .pointer (some ⟨p, 0, none⟩)) (hb : tmps.getD 7 undef = .pointer (some ⟨q, 0, none⟩))
    (hp : w3.heap[p]? = some (.cells (valC v) 28 (0, 0))) (hq : w3.heap[q]? = some (.cells #[.int .i64 e0] 29 (0, 0)))
    (hQ : ∀ w', Keeps (· = q) w3 w' → Q (.returned (.tuple #[.agg (valC v), .int .i64 e])) w') :
    bodyPostD Tryd.prog Tryd.f5 Q (.panic (thrownE e)) { tmps := tmps, defers := [{ target := .fn (.func 13) #[.pointer (some ⟨q, 0, none⟩)], args := #[] }] } w3 := by
  refine leaves_cons (f := 13) (args := #[.pointer (some ⟨q, 0, none⟩)]) (by simp) (by simp [go_sem]) ?_
  refine (ecatch_panic q e0 e w3 hq).mono ?_
  rintro _ u' w4 ⟨rfl, rfl, hb4, hk4⟩
  have npq : p ≠ q := blk_ne hp hq (by decide)
  have hr := results_two' (P := Tryd.prog) (fn := Tryd.f5) (q := 6) (r := 7) (t := 28) (u := 29) rfl ha hb (load_val w4 p v (blk_kept hp hk4 npq)) (load_err w4 q e hb4)
  simp [Leaves, settle, hr]
  exact hQ w4 hk4
theorem eout_ret {Q : Ending → World → Prop} {tmps : Array Value} {w3 : World} {p q : Nat} {v : Val} {e0 : Int} (ha : tmps.getD 6 undef = .pointer (some ⟨p, 0, none⟩)) (hb : tmps.getD 7 undef = .pointer (some ⟨q, 0, none⟩))
    (hp : w3.heap[p]? = some (.cells (valC v) 28 (0, 0))) (hq : w3.heap[q]? = some (.cells #[.int .i64 e0] 29 (0, 0)))
    (hQ : ∀ w', Keeps (· = q) w3 w' → Q (.returned (.tuple #[.agg (valC v), .int .i64 0])) w') :
    bodyPostD Tryd.prog Tryd.f5 Q .ret { tmps := tmps, defers := [{ target := .fn (.func 13) #[.pointer (some ⟨q, 0, none⟩)], args := #[] }] } w3 := by
  refine leaves_cons (f := 13) (args := #[.pointer (some ⟨q, 0, none⟩)]) (by simp) (by simp [go_sem]) ?_
  refine (ecatch_none q e0 w3 hq).mono ?_
  rintro _ u' w4 ⟨rfl, rfl, hb4, hk4⟩
  have npq : p ≠ q := blk_ne hp hq (by decide)
  have hr := results_two' (P := Tryd.prog) (fn := Tryd.f5) (q := 6) (r := 7) (t := 28) (u := 29) rfl ha hb (load_val w4 p v (blk_kept hp hk4 npq)) (load_err w4 q 0 hb4)
  simp [Leaves, settle, hr]
  exact hQ w4 hk4
/-! ### The root begins -/
theorem refused_zero {fs : List Fn} {zs : List Int} {fuel : Int} (h : refusedV fs zs fuel = 0) : checkV fs = (0, 0, 0) ∧ ((zs.length : Int)) = parV fs 0 ∧ 0 ≤ fuel ∧ fuel ≤ 4194304 := by
  unfold refusedV at h
  by_cases h1 : (checkV fs).1 ≠ 0
  · rw [if_pos h1] at h; cases h
  · rw [if_neg h1] at h
    by_cases h2 : ((zs.length : Int)) ≠ parV fs 0
    · rw [if_pos h2] at h; cases h
    · rw [if_neg h2] at h
      by_cases h3 : fuel < 0 ∨ 4194304 < fuel
      · rw [if_pos h3] at h; cases h
      · exact ⟨check_zero (by simpa using h1), by simpa using h2, by omega, by omega⟩
theorem allV_of {fs : List Fn} (h : checkV fs = (0, 0, 0)) (hok : ∀ f ∈ fs, f.Ok) : AllV fs := by
  obtain ⟨h1, h2, h3⟩ := check_valid h
  exact ⟨⟨h1, h2⟩, h3, hok⟩
theorem root_begins {fs : List Fn} (hA : AllV fs) (L : Bool) {zs : List Int} (hz : ∀ x ∈ zs, okI x) (F : Nat) (hF : F ≤ 4194304) : Begins fs L (startS F) (rootT zs) := by
  refine ⟨args_len _ _ _, rfl, by show 0 + F < _; omega, by cases L <;> rfl, by simp [startS], fun _ => ?_⟩
  have hl := hA.len
  refine ⟨args_len _ _ _, rfl, args_ok hz _ _, fun x hx => by simp [enterT, rootT] at hx; subst hx; simp [okI], ?_, ?_, by simp [enterT, rootT, okI], by simp [enterT, rootT], ?_, ?_, ?_, ?_⟩
  · show (0 : Int) ≤ 0 ∧ (0 : Int) < fs.length
    omega
  · show (0 : Int) ≤ 0 ∧ (0 : Int) + (F : Int) ≤ 8388608
    omega
  · show (0 : Int) ≤ 0 ∧ (0 : Int) + (F : Int) ≤ 8388608
    omega
  · show (0 : Int) ≤ 0 ∧ (0 : Int) + (F : Int) ≤ 8388608
    omega
  · show (0 : Int) ≤ 0 ∧ (0 : Int) + (F : Int) ≤ 8388608
    omega
  · show (0 : Int) ≤ ((0 : Nat) : Int) ∧ ((0 : Nat) : Int) ≤ 8388608
    omega
theorem root_le {fs : List Fn} (hA : AllV fs) {zs : List Int} (h : ((zs.length : Int)) = parV fs 0) : zs.length ≤ 8 := by
  obtain ⟨f, hf, hm, _, hV, _⟩ := hA.fn (k := 0) (by have := hA.len; omega)
  have hp : parV fs 0 = f.params := by
    have : fs[0]? = some f := by simpa using hf
    simp [parV, this]
  have := (valid_bounds hV).1
  omega
theorem three_boxes (w : World) (c1 c2 c3 : Array Value) (t1 t2 t3 : TypeId) : (((w.alloc (.cells c1 t1)).alloc (.cells c2 t2)).alloc (.cells c3 t3)).heap[w.heap.size]? = some (.cells c1 t1 (0, 0)) ∧ (((w.alloc (.cells c1 t1)).alloc (.cells c2 t2)).alloc (.cells c3 t3)).heap[w.heap.size + 1]? = some (.cells c2 t2 (0, 0)) ∧ (((w.alloc (.cells c1 t1)).alloc (.cells c2 t2)).alloc (.cells c3 t3)).heap[w.heap.size + 2]? = some (.cells c3 t3 (0, 0)) := by
  obtain ⟨h1, h2⟩ := two_boxes w c1 c2 t1 t2
  have hk := Keeps.alloc None ((w.alloc (.cells c1 t1)).alloc (.cells c2 t2)) (.cells c3 t3)
  refine ⟨blk_kept h1 hk (fun f => f), blk_kept h2 hk (fun f => f), ?_⟩
  have := heap_alloc_new ((w.alloc (.cells c1 t1)).alloc (.cells c2 t2)) (.cells c3 t3)
  simpa using this
set_option maxHeartbeats 2000000 in
theorem eval_any (a : Option Addr) (n c : Nat) (l : List Fn) (aa : Option Addr) (an ac : Nat) (zs : List Int) (fuel : Int) (w : World) (hT : Tabs w) (hS : SeenF w a n l) (hok : ∀ f ∈ l, f.Ok) (hZ : SeenA w aa an zs) (hZ2 : an ≤ 9223372036854775807) (hfu : okI fuel) :
    Calls Tryd.prog 5 #[.agg #[.slice a n c], .slice aa an ac, .int .i64 fuel] w fun e w' => e = .returned (.tuple #[.agg (valC (evalV l zs fuel).1), .int .i64 (evalV l zs fuel).2]) ∧ Keeps None w w' := by
  have hmf : ∀ (fn : Go.Fn) (first cap : Array Value) (w : World), (Instr.makeFunc fn first cap).run Tryd.prog w = .ok (.func fn first cap) w := fun _ _ _ _ => rfl
  obtain ⟨B, hB⟩ : ∃ B, B = w.heap.size := ⟨_, rfl⟩
  obtain ⟨b1, b2, b3⟩ := three_boxes w #[.slice a n c] #[.int .i64 0, .int .i64 0, .int .i64 0, .int .i64 0, .int .i64 0] #[.int .i64 0] 24 28 29
  have hk3 : Keeps None w (((w.alloc (.cells #[.slice a n c] 24)).alloc (.cells #[.int .i64 0, .int .i64 0, .int .i64 0, .int .i64 0, .int .i64 0] 28)).alloc (.cells #[.int .i64 0] 29)) := (((Keeps.refl _ w).andAlloc _).andAlloc _).andAlloc _
  obtain ⟨W, hW⟩ : ∃ W, W = ((w.alloc (.cells #[.slice a n c] 24)).alloc (.cells #[.int .i64 0, .int .i64 0, .int .i64 0, .int .i64 0, .int .i64 0] 28)).alloc (.cells #[.int .i64 0] 29) := ⟨_, rfl⟩
  rw [← hW, ← hB] at b1 b2 b3
  rw [← hW] at hk3
  have hck := scheck_any a n c l aa an ac zs fuel W (hT.more hk3) (hS.more hk3) hok hZ.len hZ2 hfu
  have d0 : W.cell? ⟨B, 0, none⟩ = some (.slice a n c) := (blk_cell b1 0).trans rfl
  have HX : Hid (B = w.heap.size ∧ Keeps None w W ∧ W.heap[B]? = some (.cells #[.slice a n c] 24 (0, 0)) ∧ W.heap[B + 1]? = some (.cells (valC zeroVal) 28 (0, 0)) ∧ W.heap[B + 2]? = some (.cells #[.int .i64 0] 29 (0, 0)) ∧ SeenF w a n l ∧ (∀ f ∈ l, f.Ok) ∧ SeenA w aa an zs) := ⟨hB, hk3, b1, b2, b3, hS, hok, hZ⟩
  by_cases hr0 : refusedV l zs fuel = 0
  · rw [if_pos hr0] at hck
    obtain ⟨hcz, hpz, hf0, hf1⟩ := refused_zero hr0
    have hA := allV_of hcz hok
    obtain ⟨F, rfl⟩ := Int.eq_ofNat_of_zero_le hf0
    have hz8 := root_le hA hpz
    have hBg := root_begins hA false hZ.ok F (by omega)
    have hev : evalV l zs (F : Int) = (match runV l false zs F with
      | .gave e => (zeroVal, e)
      | .done v sp s => (⟨v, (F : Int) - s.fuel, s.tasks, s.depth, sp⟩, 0)) := by
      unfold evalV
      rw [if_neg (by simpa using hr0)]
      rfl
    have hpl := fun (R : Nat) (wx : World) (hRx : w.heap.size ≤ R) (hkx : Keeps None w wx) (hrx : IsRn wx R (.slice a n c) false (startS F) (.slice none 0 0)) => play_any l hA false a n c w R F (F + 1) (startS F) (rootT zs) (.slice none 0 0) wx (Nat.lt_succ_self _) (Nat.le_refl _) hrx ⟨hS, hkx, hRx, fun g e => by simp [Value.ownBlock] at e⟩ hBg
    have hrt := fun (wx : World) (hkx : Keeps None w wx) => root_any aa an ac zs wx (hZ.more hkx) (by have := hZ.len; omega)
    have hdn : ∀ v sp s, runV l false zs F = .done v sp s → s.fuel ≤ F ∧ s.tasks ≤ 8388608 := by
      intro v sp s e
      obtain ⟨_, _, _, h4, h5, _⟩ := child_done hA hBg rfl e
      exact ⟨h4, by have := h5.tasks; omega⟩
    have HPL : Hid (∀ (R : Nat) (wx : World) (hRx : w.heap.size ≤ R) (hkx : Keeps None w wx) (hrx : IsRn wx R (.slice a n c) false (startS F) (.slice none 0 0)), Calls Tryd.prog 16 #[.pointer (some ⟨R, 0, none⟩), tkV (rootT zs)] wx (PlaysTo R (.slice a n c) false (.slice none 0 0) wx (runV l false zs F))) := hpl
    have HRT : Hid _ := hrt
    have HEV : Hid _ := hev
    have HDN : Hid _ := hdn
    clear hpl hrt hev hdn hBg hz8 hA hcz hpz hr0 hT hS hok hZ hk3 b1 b2 b3
    obtain ⟨EV, hEV⟩ : ∃ EV, EV = evalV l zs (F : Int) := ⟨_, rfl⟩
    rw [← hEV] at HEV ⊢
    clear hEV
    generalize runV l false zs F = rr at *
    unfold tkV at HPL HRT
    generalize Value.agg (ints ((rootT zs).l 0 0 0)).toArray = tv at *
    go_enter_defers Tryd.func5, Tryd.ntmps5
    go_upto_region 2 with fail
    rw [← hW, ← hB]
    clear hW hB
    go_upto_region 3 with (go_at_call 15; refine hck.mono ?_; rintro _ w3 ⟨rfl, hk3⟩)
    have e0 := hk3.cell d0 (fun f => f)
    have hkw3 : Keeps None w w3 := HX.out.2.1.trans hk3 (fun _ f _ => f)
    have hal := Keeps.alloc None w3 (.cells #[.slice a n c, .int .i64 F, .int .i64 0, .int .i64 0, .bool false, .slice none 0 0] 56)
    have bR := heap_alloc_new w3 (.cells #[.slice a n c, .int .i64 F, .int .i64 0, .int .i64 0, .bool false, .slice none 0 0] 56)
    obtain ⟨V, hV⟩ : ∃ V, V = w3.alloc (.cells #[.slice a n c, .int .i64 F, .int .i64 0, .int .i64 0, .bool false, .slice none 0 0] 56) := ⟨_, rfl⟩
    obtain ⟨R, hR⟩ : ∃ R, R = w3.heap.size := ⟨_, rfl⟩
    rw [← hV] at hal bR
    rw [← hR] at bR
    have hRw : w.heap.size ≤ R := by rw [hR]; exact hkw3.size
    have hRB : B + 2 < R := by rw [hR]; exact blk_lt (blk_kept HX.out.2.2.2.2.1 hk3 (fun f => f))
    have hkV := hkw3.trans hal (fun _ f _ => f)
    have hkWV := hk3.trans hal (fun _ f _ => f)
    have hrn : IsRn V R (.slice a n c) false (startS F) (.slice none 0 0) := ⟨bR, ⟨by simp [startS, ndVals], .inl ⟨rfl, rfl⟩⟩⟩
    have HV : Hid (Keeps None w V ∧ Keeps None W V ∧ IsRn V R (.slice a n c) false (startS F) (.slice none 0 0) ∧ w.heap.size ≤ R ∧ B + 2 < R) := ⟨hkV, hkWV, hrn, hRw, hRB⟩
    have hrt := HRT.out V hkV
    clear hck d0 hk3 hkw3 hal bR hRw hRB hkV hkWV hrn
    go_upto_region 4 with fail
    rw [← hV, ← hR]
    clear hV hR e0
    have hpl := fun wx (hx : Keeps None V wx) => HPL.out R wx HV.out.2.2.2.1 (HV.out.1.trans hx (fun _ f _ => f)) (HV.out.2.2.1.kept hx (fun _ _ f => f))
    have HPL2 : Hid _ := hpl
    clear hpl HPL HRT
    cases rr with
    | gave e =>
      go_wp2_with (first | (go_at_call 17; refine hrt.mono ?_; rintro _ w5 ⟨rfl, hk5⟩) | (go_at_call 16; refine (HPL2.out _ hk5).mono ?_; rintro _ w6 ⟨rfl, hk6⟩))
      have hk56 : Keeps (RFoot R (.slice none 0 0)) V w6 := (hk5.mono (T := RFoot R (.slice none 0 0)) (fun _ f _ => f.elim)).trans hk6 (fun _ e _ => e)
      have nf : ∀ k, k < R → ¬ RFoot R (.slice none 0 0) k := fun k hk e => by rcases e with e | e; omega; simp [Value.ownBlock] at e
      refine eout_panic (v := zeroVal) rfl rfl (blk_kept (blk_kept HX.out.2.2.2.1 HV.out.2.1 (fun f => f)) hk56 (nf _ (by have := HV.out.2.2.2.2; omega))) (blk_kept (blk_kept HX.out.2.2.2.2.1 HV.out.2.1 (fun f => f)) hk56 (nf _ (by have := HV.out.2.2.2.2; omega))) (fun w' hk => ?_)
      rw [HEV.out]
      exact ⟨rfl, (HV.out.1.trans hk56 (fun i e hi => by rcases e with e | e; have := HV.out.2.2.2.1; omega; simp [Value.ownBlock] at e)).trans hk (fun i e hi => by have := HX.out.1; omega)⟩
    | done v sp s =>
      go_upto_region 5 with (first | (go_at_call 17; refine hrt.mono ?_; rintro _ w5 ⟨rfl, hk5⟩) | (go_at_call 16; refine (HPL2.out _ hk5).mono ?_; rintro _ w6 ⟨rfl, nv6, hr6, hk6, hm6⟩))
      have hk56 : Keeps (RFoot R (.slice none 0 0)) V w6 := (hk5.mono (T := RFoot R (.slice none 0 0)) (fun _ f _ => f.elim)).trans hk6 (fun _ e _ => e)
      have nf : ∀ k, k < R → ¬ RFoot R (.slice none 0 0) k := fun k hk e => by rcases e with e | e; omega; simp [Value.ownBlock] at e
      have hp6 := blk_kept (blk_kept HX.out.2.2.2.1 HV.out.2.1 (fun f => f)) hk56 (nf _ (by have := HV.out.2.2.2.2; omega))
      have hq6 := blk_kept (blk_kept HX.out.2.2.2.2.1 HV.out.2.1 (fun f => f)) hk56 (nf _ (by have := HV.out.2.2.2.2; omega))
      have hkw6 : Keeps None w w6 := HV.out.1.trans hk56 (fun i e hi => by rcases e with e | e; have := HV.out.2.2.2.1; omega; simp [Value.ownBlock] at e)
      obtain ⟨q1, q2⟩ := HDN.out v sp s rfl
      have g1 : w6.cell? ⟨R, 1, none⟩ = some (.int .i64 s.fuel) := (blk_cell hr6.blk 1).trans rfl
      have g2 : w6.cell? ⟨R, 2, none⟩ = some (.int .i64 s.tasks) := (blk_cell hr6.blk 2).trans rfl
      have g3 : w6.cell? ⟨R, 3, none⟩ = some (.int .i64 s.depth) := (blk_cell hr6.blk 3).trans rfl
      have i1 : (s.fuel : Int) ≤ (F : Int) := by omega
      unfold valC zeroVal at hp6
      have v0 : w6.cell? ⟨B + 1, 0, none⟩ = some (.int .i64 0) := (blk_cell hp6 0).trans rfl
      have v1 : w6.cell? ⟨B + 1, 1, none⟩ = some (.int .i64 0) := (blk_cell hp6 1).trans rfl
      have v2 : w6.cell? ⟨B + 1, 2, none⟩ = some (.int .i64 0) := (blk_cell hp6 2).trans rfl
      have v3 : w6.cell? ⟨B + 1, 3, none⟩ = some (.int .i64 0) := (blk_cell hp6 3).trans rfl
      have v4 : w6.cell? ⟨B + 1, 4, none⟩ = some (.int .i64 0) := (blk_cell hp6 4).trans rfl
      have z0 := blk_free hp6 0
      have z1 := blk_free hp6 1
      have z2 := blk_free hp6 2
      have z3 := blk_free hp6 3
      have z4 := blk_free hp6 4
      have u0 : w6.cell? ⟨B + 2, 0, none⟩ = some (.int .i64 0) := (blk_cell hq6 0).trans rfl
      have u1 := blk_free hq6 0
      have n1 : R ≠ B + 1 := by have := HV.out.2.2.2.2; omega
      have n2 : R ≠ B + 2 := by have := HV.out.2.2.2.2; omega
      obtain ⟨w7, hw7⟩ : ∃ w7, w7 = (((((w6.setCell ⟨B + 1, 0, none⟩ (.int .i64 v)).setCell ⟨B + 1, 1, none⟩ (.int .i64 ((F : Int) - s.fuel))).setCell ⟨B + 1, 2, none⟩ (.int .i64 s.tasks)).setCell ⟨B + 1, 3, none⟩ (.int .i64 s.depth)).setCell ⟨B + 1, 4, none⟩ (.int .i64 sp)) := ⟨_, rfl⟩
      have bV : w7.heap[B + 1]? = some (.cells (valC ⟨v, (F : Int) - s.fuel, s.tasks, s.depth, sp⟩) 28 (0, 0)) := by
        rw [hw7, blk_set (blk_set (blk_set (blk_set (blk_set hp6 _) _) _) _) _]
        rfl
      have k7 : Keeps (· = B + 1) w6 w7 := by
        rw [hw7]
        exact (((((Keeps.refl (· = B + 1) w6).andSet (x := ⟨B + 1, 0, none⟩) (.inl rfl) _).andSet (x := ⟨B + 1, 1, none⟩) (.inl rfl) _).andSet (x := ⟨B + 1, 2, none⟩) (.inl rfl) _).andSet (x := ⟨B + 1, 3, none⟩) (.inl rfl) _).andSet (x := ⟨B + 1, 4, none⟩) (.inl rfl) _
      have bE := blk_kept hq6 k7 (by omega)
      have k8 := Keeps.setCell (S := (· = B + 2)) w7 (a := ⟨B + 2, 0, none⟩) rfl (.int .i64 0)
      have bV8 := blk_kept bV k8 (by omega)
      have bE8 : (w7.setCell ⟨B + 2, 0, none⟩ (.int .i64 0)).heap[B + 2]? = some (.cells #[.int .i64 0] 29 (0, 0)) := by rw [blk_set bE]; rfl
      have kk : Keeps None w (w7.setCell ⟨B + 2, 0, none⟩ (.int .i64 0)) := (hkw6.trans k7 (fun i e hi => by have := HX.out.1; omega)).trans k8 (fun i e hi => by have := HX.out.1; omega)
      rw [hw7] at bV8 bE8 kk
      have H8 : Hid _ := And.intro bV8 (And.intro bE8 kk)
      clear hw7 bV k7 bE k8 bV8 bE8 kk hp6 hq6 hkw6 hk56 nf hk5 hk6 hr6 hm6 hrt
      go_wp2_with fail
      refine eout_ret (v := ⟨v, (F : Int) - s.fuel, s.tasks, s.depth, sp⟩) rfl rfl H8.out.1 H8.out.2.1 (fun w' hk => ?_)
      rw [HEV.out]
      exact ⟨rfl, H8.out.2.2.trans hk (fun i e hi => by have := HX.out.1; omega)⟩
  · rw [if_neg hr0] at hck
    have hev : evalV l zs fuel = (zeroVal, refusedV l zs fuel) := by
      unfold evalV
      rw [if_pos hr0]
    rw [hev]
    generalize refusedV l zs fuel = er at *
    clear hr0 hT hS hok hZ hk3 b1 b2 b3 hev
    go_enter_defers Tryd.func5, Tryd.ntmps5
    go_upto_region 2 with fail
    rw [← hW, ← hB]
    clear hW hB
    go_wp2_with (go_at_call 15; refine hck.mono ?_; rintro _ w3 ⟨rfl, hk3⟩)
    exact eout_panic (v := zeroVal) rfl rfl (blk_kept HX.out.2.2.2.1 hk3 (fun f => f)) (blk_kept HX.out.2.2.2.2.1 hk3 (fun f => f)) (fun w' hk => ⟨rfl, (HX.out.2.1.trans hk3 (fun _ f _ => f)).trans hk (fun i e hi => by have := HX.out.1; omega)⟩)
end Go.Proofs.YtlbkfehakomicaaDoor
/-! A run that keeps its nodes comes to what one that does not comes to. -/
namespace Go.Proofs.YtlbkfehakomicaaDoor
set_option linter.unusedVariables false
set_option maxRecDepth 20000
open Go.RowKit Go.PlainOps

def Rn.bare (s : Rn) : Rn := { s with nodes := [] }
def Res.bare : Res → Res
  | .gave e => .gave e
  | .done v sp s => .done v sp s.bare
theorem loop_bare (fs : List Fn) : ∀ (g : Nat) (s : Rn) (t : Tk) (at_ : Nat), loopV fs false g s.bare t at_ = (loopV fs true g s t at_).bare
  | 0, s, t, at_ => rfl
  | g + 1, s, t, at_ => by
    have hp : payS s.bare = (payS s).bare := rfl
    have he : ∀ (s : Rn) (c : Tk), enterS false s.bare c = (enterS true s c).bare := fun s c => rfl
    have ht : ∀ (s : Rn) (c : Tk), enterT s.bare c = enterT s c := fun s c => rfl
    have hl : ∀ (s : Rn) (c : Tk), leaveS false s.bare c = (leaveS true s c).bare := fun s c => rfl
    conv => lhs; unfold loopV
    conv => rhs; unfold loopV
    have hf : s.bare.fuel = s.fuel := rfl
    rw [hf, hp]
    by_cases h0 : s.fuel = 0
    · rw [if_pos h0, if_pos h0]; rfl
    · rw [if_neg h0, if_neg h0]
      cases hc : (codeOf fs t.node.func)[at_]? with
      | none => rfl
      | some i =>
        simp only
        by_cases k3 : i.kind = 3
        · rw [if_pos k3, if_pos k3]; exact loop_bare fs g _ _ _
        · rw [if_neg k3, if_neg k3]
          by_cases k4 : i.kind = 4
          · rw [if_pos k4, if_pos k4]; exact loop_bare fs g _ _ _
          · rw [if_neg k4, if_neg k4]
            by_cases k5 : i.kind = 5
            · rw [if_pos k5, if_pos k5]
              by_cases hd : 4096 < (childV fs (payT t) i).depth
              · rw [if_pos hd, if_pos hd]; rfl
              · rw [if_neg hd, if_neg hd, he, ht, loop_bare fs g]
                cases loopV fs true g (enterS true (payS s) (childV fs (payT t) i)) (enterT (payS s) (childV fs (payT t) i)) 0 with
                | gave e => rfl
                | done v sp s2 => exact loop_bare fs g _ _ _
            · rw [if_neg k5, if_neg k5]
              by_cases k6 : i.kind = 6
              · rw [if_pos k6, if_pos k6]; exact loop_bare fs g _ _ _
              · rw [if_neg k6, if_neg k6]
                by_cases k9 : i.kind = 9
                · rw [if_pos k9, if_pos k9, hl]; rfl
                · rw [if_neg k9, if_neg k9]; exact loop_bare fs g _ _ _
theorem run_bare' (fs : List Fn) (zs : List Int) (F : Nat) : runV fs false zs F = (runV fs true zs F).bare := by
  unfold runV playV
  by_cases hd : 4096 < (rootT zs).depth
  · rw [if_pos hd, if_pos hd]; rfl
  · rw [if_neg hd, if_neg hd]
    exact loop_bare fs (F + 1) (enterS true (startS F) (rootT zs)) (enterT (startS F) (rootT zs)) 0
/-- Tree: the nodes. -/
def treeV (fs : List Fn) (zs : List Int) (fuel : Int) : List Nd := match runV fs true zs fuel.toNat with
  | .gave _ => []
  | .done _ _ s => s.nodes
/-- A run is given up for want of fuel, or too deep. -/
theorem loop_gave {fs : List Fn} (hA : AllV fs) (L : Bool) : ∀ (g : Nat) (s : Rn) (t : Tk) (at_ : Nat), s.In L → t.In fs s.fuel → at_ < (codeOf fs t.node.func).length → ∀ e, loopV fs L g s t at_ = .gave e → e = 62 ∨ e = 63
  | 0, s, t, at_, hs, ht, hat, e, h => by
    simp [loopV] at h
    exact .inl h.symm
  | g + 1, s, t, at_, hs, ht, hat, e, h => by
    by_cases h0 : s.fuel = 0
    · rw [loop_out h0] at h
      injection h with h
      exact .inl h.symm
    · obtain ⟨m, hm⟩ : ∃ m, s.fuel = m + 1 := ⟨s.fuel - 1, by omega⟩
      have hpf : (payS s).fuel = m := by simp [payS, hm]
      obtain ⟨f, hf, _, hcf, hV, hok⟩ := hA.fn ht.func
      have hat' := hat
      rw [hcf] at hat'
      obtain ⟨i, hi⟩ : ∃ i, f.code[at_]? = some i := ⟨f.code[at_]'hat', by simp⟩
      have hic : (codeOf fs t.node.func)[at_]? = some i := by rw [hcf]; exact hi
      have so := step_ok hV hi
      have hik := (hok.code i (List.mem_of_getElem? hi)).k
      have ht' := ht
      rw [hm] at ht'
      have hnl : i.kind ≠ 3 → i.kind ≠ 9 → at_ + 1 < (codeOf fs t.node.func).length := fun h3 h9 => by rw [hcf]; exact so.next h3 h9
      have hcases : i.kind = 3 ∨ i.kind = 4 ∨ i.kind = 5 ∨ i.kind = 6 ∨ i.kind = 9 ∨ (i.kind = 0 ∨ i.kind = 1 ∨ i.kind = 2 ∨ i.kind = 7 ∨ i.kind = 8) := by have := so.kind; omega
      rcases hcases with hk | hk | hk | hk | hk | hk
      · rw [loop_jump h0 hic hk] at h
        exact loop_gave hA L g _ _ _ hs.pay (by rw [hpf]; exact ht'.pay) (by show _ < (codeOf fs t.node.func).length; rw [hcf]; have := so.jump hk; omega) e h
      · rw [loop_branch h0 hic hk] at h
        exact loop_gave hA L g _ _ _ hs.pay (by rw [hpf]; exact ht'.pay) (by show _ < (codeOf fs t.node.func).length; have := hnl (by omega) (by omega); rw [hcf] at this ⊢; have := so.branch hk; split <;> omega) e h
      · rw [loop_spawn h0 hic hk] at h
        have hBg := child_begins hs ht h0 so hk
        cases hp : playV fs L g (payS s) (childV fs (payT t) i) with
        | gave e' =>
          rw [hp] at h
          injection h with h
          subst h
          unfold playV at hp
          by_cases hd : 4096 < (childV fs (payT t) i).depth
          · rw [if_pos hd] at hp
            injection hp with hp
            exact .inr hp.symm
          · rw [if_neg hd] at hp
            have hti := hBg.tin hd
            obtain ⟨f2, _, _, hc2, hV2, _⟩ := hA.fn hti.func
            exact loop_gave hA L g _ _ 0 (hBg.sin hd) hti (by rw [hc2]; have := (valid_bounds hV2).2.2.2; omega) _ hp
        | done v sp s2 =>
          rw [hp] at h
          obtain ⟨d1, d2, d3, d4, d5, d6⟩ := child_done hA hBg rfl hp
          exact loop_gave hA L g _ _ _ d5 (ht'.got d1 d2 (by omega)) (by show _ < (codeOf fs t.node.func).length; exact hnl (by omega) (by omega)) e h
      · rw [loop_sync h0 hic hk] at h
        exact loop_gave hA L g _ _ _ hs.pay (by rw [hpf]; exact ht'.wait) (by show _ < (codeOf fs t.node.func).length; exact hnl (by omega) (by omega)) e h
      · rw [loop_ret h0 hic hk] at h
        cases h
      · rw [loop_comp h0 hic hk] at h
        have en : (computeT (payT t) i).node = (payT t).node := by
          unfold computeT setR
          repeat' split
          all_goals rfl
        exact loop_gave hA L g _ _ _ hs.pay (by rw [hpf]; exact ht'.pay.compute i hik) (by rw [en]; show _ < (codeOf fs t.node.func).length; exact hnl (by omega) (by omega)) e h
theorem gave_ne {fs : List Fn} (hA : AllV fs) {L : Bool} {g : Nat} {s : Rn} {t : Tk} {e : Int} (hB : Begins fs L s t) (h : playV fs L g s t = .gave e) : e ≠ 0 := by
  unfold playV at h
  by_cases hd : 4096 < t.depth
  · rw [if_pos hd] at h; injection h with h; omega
  · rw [if_neg hd] at h
    have hti := hB.tin hd
    obtain ⟨f, _, _, hc, hV, _⟩ := hA.fn hti.func
    have := loop_gave hA L g _ _ 0 (hB.sin hd) hti (by rw [hc]; have := (valid_bounds hV).2.2.2; omega) e h
    omega
end Go.Proofs.YtlbkfehakomicaaDoor
