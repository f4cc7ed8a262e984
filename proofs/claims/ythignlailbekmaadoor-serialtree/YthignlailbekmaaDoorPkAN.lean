import Derived.Test.YthignlailbekmaaDoorPkAM
import Derived.Test.YthignlailbekmaaDoorPkAB
import Derived.Test.YthignlailbekmaaDoorPkAL
import Derived.OwnWalk
import Derived.Deep.Cut
import Derived.WalkMore
/-! Root, of package tasks. -/
namespace Go.Proofs.YthignlailbekmaaDoor
set_option linter.unusedVariables false
set_option maxRecDepth 20000
open Go.RowKit Go.HeapKit Go.PlainOps

/-- Arguments that can be read. -/
structure SeenA (w : World) (a : Option Addr) (n : Nat) (zs : List Int) : Prop where
  len : n = zs.length
  most : n ≤ 9223372036854775807
  ok : ∀ x ∈ zs, okI x
  ex : 0 < n → ∃ b off, a = some ⟨b, off, none⟩ ∧ b < w.heap.size ∧ ∀ k x, zs[k]? = some x → w.cell? ⟨b, off + k, none⟩ = some (.int .i64 x)
theorem SeenA.more {w w' : World} {a : Option Addr} {n : Nat} {zs : List Int} (h : SeenA w a n zs) (hk : Keeps None w w') : SeenA w' a n zs := by
  refine ⟨h.len, h.most, h.ok, fun h0 => ?_⟩
  obtain ⟨b, off, rfl, hb, hc⟩ := h.ex h0
  exact ⟨b, off, rfl, Nat.lt_of_lt_of_le hb hk.size, fun k x hx => hk.cell (hc k x hx) (fun f => f)⟩
def rootK (args : List Int) : Tsk := ⟨0, 0, argsV args 0 args.length, 1, 0⟩
theorem args_all (zs : List Int) (h : zs.length ≤ 16) : argsV zs 0 zs.length = zs ++ List.replicate (16 - zs.length) 0 := by
  apply List.ext_getElem?
  intro j
  by_cases hj : j < 16
  · simp only [argsV, List.getElem?_map, List.getElem?_range hj, Option.map_some, Nat.zero_add]
    by_cases h1 : j < zs.length
    · rw [List.getElem?_append_left h1]
      simp [h1]
    · rw [List.getElem?_append_right (by omega), List.getElem?_replicate]
      simp [h1, show j - zs.length < 16 - zs.length by omega]
  · rw [List.getElem?_eq_none (by simp [argsV]; omega), List.getElem?_eq_none (by simp; omega)]
theorem root_row (zs : List Int) (h : zs.length ≤ 16) : ((ints (blankK 0 1).l).toArray.toList.take 2 ++ ints zs ++ (ints (blankK 0 1).l).toArray.toList.drop (2 + (ints zs).length)).toArray = (ints (rootK zs).l).toArray := by
  have e1 : (rootK zs).l = (blankK 0 1).l.take 2 ++ zs ++ (blankK 0 1).l.drop (2 + zs.length) := by
    have hr : (blankK 0 1).l.drop (2 + zs.length) = List.replicate (16 - zs.length) 0 ++ [1, 0] := by
      unfold Tsk.l
      rw [show 2 + zs.length = zs.length + 2 by omega]
      simp only [List.drop_succ_cons]
      rw [List.drop_append_of_le_length (by simp [blankK]; omega)]
      show (List.replicate 16 (0 : Int)).drop zs.length ++ _ = _
      rw [List.drop_replicate]
      rfl
    rw [hr]
    unfold Tsk.l
    show _ :: _ :: (argsV zs 0 zs.length ++ _) = _
    rw [args_all zs h, List.append_assoc]
    simp [blankK, rootK]
  rw [e1]
  simp [ints]
theorem Tryd.infoI64' : (Tryd.prog.info? 2).map (·.size) = some 1 := by kernel_rfl
set_option maxHeartbeats 2000000 in
theorem troot_any (a : Option Addr) (n c : Nat) (zs : List Int) (w : World) (hS : SeenA w a n zs) (hn : n ≤ 16) :
    Calls Tryd.prog 29 #[.slice a n c] w fun e w' => e = .returned (.agg (ints (rootK zs).l).toArray) ∧ Keeps None w w' := by
  have hln := hS.len
  have bR := heap_alloc_new w (.cells (ints (blankK 0 0).l).toArray 55)
  have hal := Keeps.alloc None w (.cells (ints (blankK 0 0).l).toArray 55)
  obtain ⟨W, hW⟩ : ∃ W, W = w.alloc (.cells (ints (blankK 0 0).l).toArray 55) := ⟨_, rfl⟩
  obtain ⟨B, hB⟩ : ∃ B, B = w.heap.size := ⟨_, rfl⟩
  have s1 : W.heap.size = B + 1 := by rw [hW, hB]; simp
  rw [← hW] at bR hal
  rw [← hB] at bR
  have hst := heap_alloc_new W (.cells (ints (blankK 0 0).l).toArray 55)
  rw [s1] at hst
  have HX : Hid (W.heap.size = B + 1 ∧ B = w.heap.size ∧ Keeps None w W ∧ W.heap[B]? = some (.cells (ints (blankK 0 0).l).toArray 55 (0, 0)) ∧ SeenA w a n zs) := ⟨s1, hB, hal, bR, hS⟩
  have HS2 : Hid _ := s1
  go_enter Tryd.func29, Tryd.ntmps29
  go_upto_region 1 with fail
  change Code.wp _ _ _ _ (w.alloc (.cells (ints (blankK 0 0).l).toArray 55))
  rw [← hW, ← hB]
  clear hS bR hal hW hB s1
  go_cut [3] (fun s3 wx => s3 = .pointer (some ⟨B + 1, 0, none⟩) ∧ wx.heap[B + 1]? = some (.cells (ints (blankK 0 1).l).toArray 55 (0, 0)) ∧ Keeps None W wx)
  case first =>
    iterate 8 go_step
    refine wp_store_row 55 (.tmp 3) (.tmp 4) rfl (B + 1) (ints (blankK 0 1).l).toArray (by simp [Act.eval, HS2.out]) rfl 55 (ints (blankK 0 0).l).toArray hst Tryd.infoTsk rfl (ints_one _) ?_
    go_wp2_with fail
    go_meet
    rw [HS2.out]
    exact ⟨rfl, setRow_heap hst, (Keeps.alloc None W _).trans (setRow_keeps _ _ _) (fun i e hi => by have := HS2.out; omega)⟩
  case rest =>
    obtain ⟨rfl, hY, hkW⟩ := hcut
    have bR := blk_kept HX.out.2.2.2.1 hkW (fun f => f)
    have hkw := HX.out.2.2.1.trans hkW (fun _ f _ => f)
    have hSc := HX.out.2.2.2.2.more hkw
    obtain ⟨wd, hcp, hYd, bRd, hkd⟩ : ∃ wd, (Builtin.copy_ #[25, 25] 3 #[.slice (some ⟨B + 1, 2, none⟩) 16 16, .slice a n c]).run Tryd.prog wc = .ok (goInt n) wd ∧ wd.heap[B + 1]? = some (.cells (ints (rootK zs).l).toArray 55 (0, 0)) ∧ wd.heap[B]? = some (.cells (ints (blankK 0 0).l).toArray 55 (0, 0)) ∧ Keeps None w wd := by
      by_cases h0 : n = 0
      · subst h0
        have hz : zs = [] := List.eq_nil_of_length_eq_zero hln.symm
        subst hz
        refine ⟨wc, ?_, hY, bR, hkw⟩
        exact run_copy_none wc 25 25 3 2 _ a 16 16 0 c Tryd.underlying25 Tryd.infoI64' (by simp)
      · obtain ⟨b, off, rfl, hb, hc⟩ := hSc.ex (by omega)
        have hr := run_copy_row (P := Tryd.prog) wc 25 25 3 2 (B + 1) 2 16 16 ⟨b, off, none⟩ n c (ints (blankK 0 1).l).toArray 55 (ints zs) Tryd.underlying25 Tryd.infoI64' hY (by simp only [ints, List.length_map]; rw [← hln]; exact (Nat.min_eq_left hn).symm)
          (fun j v hv => by
            simp only [ints, List.getElem?_map, Option.map_eq_some_iff] at hv
            obtain ⟨x, hx, rfl⟩ := hv
            rw [show (⟨b, off, none⟩ : Addr).add j = ⟨b, off + j, none⟩ by unfold Addr.add; split <;> simp_all]
            exact hc j x hx)
          (by have : (ints (blankK 0 1).l).toArray.size = 20 := rfl; rw [this]; simp [ints]; omega)
          (fun v hv => by
            simp only [ints, List.mem_map] at hv
            obtain ⟨x, _, rfl⟩ := hv
            rfl)
        rw [root_row zs (by omega)] at hr
        have el : (ints zs).length = n := by simp [ints, hln]
        rw [el] at hr
        exact ⟨_, hr, setRow_heap hY, blk_kept bR (setRow_keeps _ _ _) (by omega), hkw.trans (setRow_keeps _ _ _) (fun i e hi => by have := HX.out.2.1; omega)⟩
    have HD : Hid _ := And.intro bRd hkd
    have hsz : (ints (rootK zs).l).toArray.size = 20 := tsk_len (args_len _ _ _)
    have HYD : Hid _ := hYd
    clear hY hkW bR hkw hSc hst hYd bRd hkd hln
    go_upto_region 3 with (at_builtin; refine wpList_copy_run rfl (.tmp 6) (.tmp 7) 25 25 rfl rfl rfl hcp ?_)
    iterate 2 go_step
    refine wp_load_row 55 (.tmp 3) rfl (B + 1) rfl 55 (ints (rootK zs).l).toArray (0, 0) _ HYD.out Tryd.underlying55 rfl (by rw [hsz]; exact Tryd.infoTsk) ?_
    iterate 2 go_step
    refine wp_store_row 55 (.tmp 2) (.tmp 9) rfl B (ints (rootK zs).l).toArray rfl rfl 55 (ints (blankK 0 0).l).toArray HD.out.1 (by rw [hsz]; exact Tryd.infoTsk) (by rw [hsz]; rfl) (ints_one _) ?_
    go_wp2_with fail
    exact bodyPost_ret (results_one (q := 2) (ty := 55) rfl rfl (run_loadVar_row _ B _ 55 _ _ _ (setRow_heap HD.out.1) Tryd.underlying55 rfl (by rw [hsz]; exact Tryd.infoTsk))) rfl ⟨rfl, HD.out.2.trans (setRow_keeps _ _ _) (fun i e hi => by have := HX.out.2.1; omega)⟩
end Go.Proofs.YthignlailbekmaaDoor
/-! A slice of numbers of 64 bits among the arguments, within reach. -/
namespace Go.Proofs.YthignlailbekmaaDoor
set_option linter.unusedVariables false
set_option maxRecDepth 20000
open Go.ChangeShapes Go.WideShapes Go.ChangeAt Go.RowKit Go.HeapKit Go.Deep

section
variable {H : Type} {enc : TypeId × Value → H} {w : World} {base : Nat} {held : Bool}
theorem open_words {r : Reach} {b0 : Nat} {v : Value} {d : DataW H} {ps : List MemPlace} (hval : Value.okWide Tryd.prog w r b0 25 v) (hd : DataW.Trod enc Tryd.prog w base (fun _ => true) held 25 v d ps) :
    ∃ a n c l, v = .slice a n c ∧ SeenA w a n l ∧ ((d.weights Tryd.prog 25).all (· ≤ reachBytes) = true → n * 8 ≤ 140737488351232) := by
  obtain ⟨a, n, c, rfl⟩ := okWide_slice Tryd.underlying25 hval
  obtain ⟨fuel, h⟩ := hd
  have hreach := fun hall => slice_reach Tryd.underlying25 h (a := a) (n := n) (c := c) rfl hall
  rw [show Tryd.prog.bytesOf 2 = 8 by kernel_rfl] at hreach
  rcases open_slice Tryd.underlying25 h with ⟨hcs, _⟩ | ⟨a', len, cap, m, n', D, Pl, hcs, _, hl, hm, hmm, _, hall⟩
  · simp [Value.cells] at hcs
    obtain ⟨rfl, rfl, rfl⟩ := hcs
    exact ⟨none, 0, 0, [], rfl, ⟨rfl, by omega, fun x hx => by simp at hx, fun h => by omega⟩, hreach⟩
  · simp [Value.cells] at hcs
    obtain ⟨rfl, rfl, rfl⟩ := hcs
    simp at hmm
    subst hmm
    have hc : Tryd.prog.cellsOf 2 = 1 := by kernel_rfl
    rw [hc] at hall
    have hex : ∀ i, i < n → ∃ x : Int, okI x ∧ w.cell? (a'.add i) = some (.int .i64 x) := by
      intro i hi
      obtain ⟨cs', h1, h2⟩ := hall i (by omega)
      obtain ⟨_, hlen, hcell⟩ := World.cells?_some h1
      obtain ⟨x, rfl, _, hwf⟩ := DataW.trod_int Tryd.underlying2 h2
      have := hcell 0 (by omega)
      refine ⟨x, okI_of_wf hwf, ?_⟩
      rw [Nat.mul_one] at this
      rw [show (a'.add i).add 0 = a'.add i by unfold Addr.add; split <;> simp_all] at this
      exact this
    obtain ⟨l, hll, hp⟩ := choose_list _ n hex
    refine ⟨some a', n, m, l, rfl, ⟨hll.symm, by unfold maxLen at hm; omega, fun x hx => by obtain ⟨k, hk, rfl⟩ := List.mem_iff_getElem.1 hx; exact (hp k _ (List.getElem?_eq_getElem hk)).1, fun h0 => ?_⟩, hreach⟩
    obtain ⟨b, off, sp⟩ := a'
    have hsp : sp = none := by
      obtain ⟨x, _, hx⟩ := hex 0 h0
      have := spot_none hx
      unfold Addr.add at this
      split at this <;> simp_all
    subst hsp
    refine ⟨b, off, rfl, ?_, fun k x hx => ?_⟩
    · obtain ⟨x, _, hx⟩ := hex 0 h0
      rw [add_at] at hx
      cases hb : w.heap[b]? with
      | none => simp [World.cell?, hb] at hx
      | some o => exact (Array.getElem?_eq_some_iff.1 hb).1
    · have := (hp k x hx).2
      rwa [add_at] at this
end
end Go.Proofs.YthignlailbekmaaDoor
/-! Check. -/
namespace Go.Proofs.YthignlailbekmaaDoor
set_option linter.unusedVariables false
set_option maxRecDepth 20000
open Go.RowKit Go.HeapKit

def checkF (l : List Fn) : Value := faultV (checkV l).1 (checkV l).2.1 (checkV l).2.2
def zeroF : Array Value := #[.int .i64 0, .int .i64 0, .int .i64 0]
theorem out_panic {Q : Ending → World → Prop} {tmps : Array Value} {w3 : World} {p : Nat} {c : Array Value} {e n x : Int} (ha : tmps.getD 2 undef = .pointer (some ⟨p, 0, none⟩)) (hb : w3.heap[p]? = some (.cells c 64 (0, 0))) (hs : c.size = 3)
    (hQ : ∀ w', Keeps (· = p) w3 w' → Q (.returned (faultV e n x)) w') :
    bodyPostD Tryd.prog Tryd.f21 Q (.panic (thrown e n x)) { tmps := tmps, defers := [{ target := .fn (.func 32) #[.pointer (some ⟨p, 0, none⟩)], args := #[] }] } w3 := by
  refine leaves_cons (f := 32) (args := #[.pointer (some ⟨p, 0, none⟩)]) (by simp) (by simp [go_sem]) ?_
  refine (catch_panic p c e n x w3 hb hs).mono ?_
  rintro _ u' w4 ⟨rfl, rfl, hb4, hk4⟩
  have hr := results_one (P := Tryd.prog) (fn := Tryd.f21) (q := 2) (ty := 64) rfl ha (load_fault w4 p _ e n x hb4)
  simp [Leaves, settle, hr]
  exact hQ w4 hk4
theorem out_ret {Q : Ending → World → Prop} {tmps : Array Value} {w3 : World} {p : Nat} {c : Array Value} (ha : tmps.getD 2 undef = .pointer (some ⟨p, 0, none⟩)) (hb : w3.heap[p]? = some (.cells c 64 (0, 0))) (hs : c.size = 3)
    (hQ : ∀ w', Keeps (· = p) w3 w' → Q (.returned (faultV 0 0 0)) w') :
    bodyPostD Tryd.prog Tryd.f21 Q .ret { tmps := tmps, defers := [{ target := .fn (.func 32) #[.pointer (some ⟨p, 0, none⟩)], args := #[] }] } w3 := by
  refine leaves_cons (f := 32) (args := #[.pointer (some ⟨p, 0, none⟩)]) (by simp) (by simp [go_sem]) ?_
  refine (catch_none p c w3 hb hs).mono ?_
  rintro _ u' w4 ⟨rfl, rfl, hb4, hk4⟩
  have hr := results_one (P := Tryd.prog) (fn := Tryd.f21) (q := 2) (ty := 64) rfl ha (load_fault w4 p _ 0 0 0 hb4)
  simp [Leaves, settle, hr]
  exact hQ w4 hk4
set_option maxHeartbeats 2000000 in
theorem check_any (a : Option Addr) (n c : Nat) (l : List Fn) (w : World) (hT : Tabs w) (hS : SeenF w a n l) (hok : ∀ f ∈ l, f.Ok) :
    Calls Tryd.prog 21 #[.agg #[.slice a n c]] w fun e w' => e = .returned (checkF l) ∧ Keeps None w w' := by
  have hmf : ∀ (fn : Go.Fn) (first cap : Array Value) (w : World), (Instr.makeFunc fn first cap).run Tryd.prog w = .ok (.func fn first cap) w := fun _ _ _ _ => rfl
  obtain ⟨B, hB⟩ : ∃ B, B = w.heap.size := ⟨_, rfl⟩
  obtain ⟨b1, b2⟩ := two_boxes w #[.slice a n c] zeroF 24 64
  have hk2 := keeps2 w (.cells #[.slice a n c] 24) (.cells zeroF 64)
  unfold zeroF at b1 b2 hk2
  obtain ⟨w2, hw2⟩ : ∃ w2, w2 = (w.alloc (.cells #[.slice a n c] 24)).alloc (.cells #[.int .i64 0, .int .i64 0, .int .i64 0] 64) := ⟨_, rfl⟩
  rw [← hw2, ← hB] at b1 b2
  rw [← hw2] at hk2
  have H2 : Hid (w2.heap[B]? = some (.cells #[.slice a n c] 24 (0, 0)) ∧ w2.heap[B + 1]? = some (.cells #[.int .i64 0, .int .i64 0, .int .i64 0] 64 (0, 0)) ∧ Keeps None w w2 ∧ B = w.heap.size) := ⟨b1, b2, hk2, hB⟩
  have HS : Hid (Tabs w ∧ SeenF w a n l ∧ ∀ f ∈ l, f.Ok) := ⟨hT, hS, hok⟩
  have d0 := (cell_of_heap b1 0).trans rfl
  have hsh := shapes_any a n c l w2 (hS.more hk2)
  have hln := hS.len
  have HLN : Hid (n = l.length) := hln
  clear b1 b2 hk2 hT hS hok hln
  cases hE : shapesE l with
  | outgrown => exact absurd hE (by unfold shapesE; split; · simp
                                    split <;> simp)
  | panicked ch =>
    obtain ⟨e, x, rfl, hv⟩ : ∃ e x : Int, ch = thrown e x 0 ∧ checkF l = faultV e x 0 := by
      unfold shapesE at hE
      unfold checkF checkV
      split at hE
      · rename_i h1
        rw [if_pos h1]
        injection hE with hE
        exact ⟨50, 0, hE.symm, rfl⟩
      · rename_i h1
        rw [if_neg h1]
        split at hE
        · rename_i r hr
          injection hE with hE
          rw [hr]
          exact ⟨51, r.1, hE.symm, rfl⟩
        · cases hE
    rw [hE] at hsh
    rw [hv]
    clear hE hv
    go_enter_defers Tryd.func21, Tryd.ntmps21
    rw [hw2] at d0
    go_wp2_with (go_at_call 34; rw [← hw2]; refine hsh.mono ?_; rintro _ w3 ⟨rfl, hk3⟩)
    rw [← hB]
    exact out_panic rfl (blk_kept H2.out.2.1 hk3 (fun f => f)) rfl (fun w' hk => ⟨rfl, (H2.out.2.2.1.trans hk3 (fun _ f _ => f)).trans hk (fun i e hi => by have := H2.out.2.2.2; omega)⟩)
  | returned v =>
    obtain ⟨rfl, hlen, hsv, hv⟩ : v = .tuple #[] ∧ (1 ≤ l.length ∧ l.length ≤ 32) ∧ (∀ f ∈ l, shapeV f = true) ∧ checkF l = (match firstAt (fun _ f => codeFault false l f) l 0 with
      | some r => faultV r.2.1 r.1 r.2.2
      | none => match firstAt (fun _ f => slotFault f) l 0 with
        | some r => faultV r.2.1 r.1 r.2.2
        | none => faultV 0 0 0) := by
      unfold shapesE at hE
      unfold checkF checkV
      split at hE
      · cases hE
      · rename_i h1
        rw [if_neg h1]
        split at hE
        · cases hE
        · rename_i hr
          injection hE with hE
          refine ⟨hE.symm, by omega, fun f hf => ?_, ?_⟩
          · obtain ⟨k, hk, rfl⟩ := List.mem_iff_getElem.1 hf
            have := firstAt_all _ _ _ hr k _ (List.getElem?_eq_getElem hk)
            by_cases hv : shapeV l[k] = true
            · exact hv
            · simp [hv] at this
          · rw [hr]
            cases firstAt (fun _ f => codeFault false l f) l 0 with
            | some r => rfl
            | none =>
              cases firstAt (fun _ f => slotFault f) l 0 with
              | some r => rfl
              | none => rfl
    rw [hE] at hsh
    obtain ⟨R, hR⟩ : ∃ R, R = checkF l := ⟨_, rfl⟩
    rw [← hR]
    have HR : Hid _ := hR.trans hv
    have HX : Hid (∀ f ∈ l, shapeV f = true) := hsv
    have n32 : n ≤ 32 := by have := HLN.out; omega
    clear hE hv hR hsv hlen
    go_enter_defers Tryd.func21, Tryd.ntmps21
    rw [hw2] at d0
    go_upto_region 3 with (go_at_call 34; rw [← hw2]; refine hsh.mono ?_; rintro _ w3 ⟨rfl, hk3⟩)
    rw [← hB]
    have H3 : Hid (w3.heap[B]? = some (.cells #[.slice a n c] 24 (0, 0)) ∧ w3.heap[B + 1]? = some (.cells #[.int .i64 0, .int .i64 0, .int .i64 0] 64 (0, 0)) ∧ Keeps None w w3) := ⟨blk_kept H2.out.1 hk3 (fun f => f), blk_kept H2.out.2.1 hk3 (fun f => f), H2.out.2.2.1.trans hk3 (fun _ f _ => f)⟩
    have d1 := (cell_of_heap H3.out.1 0).trans rfl
    have HBB : Hid (B = w.heap.size) := hB
    clear d0 hw2 hk3 hsh hB
    go_wp2_with fail
    go_loopw [14] (fun s14 wr => ∃ k : Nat, k ≤ n ∧ s14 = .int .i64 k ∧ (∀ (j : Nat) f, j < k → l[j]? = some f → codeFault false l f = none) ∧ wr.heap[B]? = some (.cells #[.slice a n c] 24 (0, 0)) ∧ wr.heap[B + 1]? = some (.cells #[.int .i64 0, .int .i64 0, .int .i64 0] 64 (0, 0)) ∧ Keeps None w wr) (fun i _ => n - (intOf i).toNat)
    case atStart => exact ⟨0, Nat.zero_le _, rfl, fun q _ h => by omega, H3.out.1, H3.out.2.1, H3.out.2.2⟩
    case round =>
      clear d1
      obtain ⟨k, hk, rfl, hall, hb1, hb2, hkp⟩ := hrel
      by_cases hkn : k < n
      · obtain ⟨b, off, f, ca, cc, rfl, hf, hat⟩ := (HS.out.2.1.more hkp).at hkn
        have i1 : (k : Int) < (n : Int) := by omega
        have d0 := (cell_of_heap hb1 0).trans rfl
        obtain ⟨X, hX⟩ : ∃ X, X = wr.heap.size := ⟨_, rfl⟩
        have hal := Keeps.alloc None wr (.cells #[.int .i64 f.params, .int .i64 f.regs, .int .i64 f.slots, .slice ca f.code.length cc] 44)
        have hkx := hkp.trans hal (fun _ f _ => f)
        have d0' := hal.cell d0 (fun f => f)
        have hcc := code_any (k : Int) f ca cc (some ⟨b, off, none⟩) n c _ l (HS.out.1.more hkx) (HS.out.2.1.more hkx) (hat.seen.more hal) (HS.out.2.2 f (List.mem_of_getElem? hf)).code (HX.out f (List.mem_of_getElem? hf))
        unfold codeV at hcc
        obtain ⟨y0, y1, y2, y3, -⟩ := hat
        have HK : Hid ((∀ (j : Nat) f, j < k → l[j]? = some f → codeFault false l f = none) ∧ l[k]? = some f ∧ Keeps None w (wr.alloc (.cells #[.int .i64 f.params, .int .i64 f.regs, .int .i64 f.slots, .slice ca f.code.length cc] 44)) ∧ (wr.alloc (.cells #[.int .i64 f.params, .int .i64 f.regs, .int .i64 f.slots, .slice ca f.code.length cc] 44)).heap[B]? = some (.cells #[.slice (some ⟨b, off, none⟩) n c] 24 (0, 0)) ∧ (wr.alloc (.cells #[.int .i64 f.params, .int .i64 f.regs, .int .i64 f.slots, .slice ca f.code.length cc] 44)).heap[B + 1]? = some (.cells #[.int .i64 0, .int .i64 0, .int .i64 0] 64 (0, 0))) := ⟨hall, hf, hkx, blk_kept hb1 hal (fun f => f), blk_kept hb2 hal (fun f => f)⟩
        clear hall hf hkx hb1 hb2 hal hkp
        unfold codeE at hcc
        cases hcf : codeFault false l f with
        | some r =>
          rw [hcf] at hcc
          have HC : Hid (codeFault false l f = some r) := hcf
          clear hcf
          go_wp2_with (go_at_call 35; refine hcc.mono ?_; rintro _ w4 ⟨rfl, hk4⟩)
          have hRR : R = faultV r.1 k r.2 := by
            rw [HR.out, firstAt_some _ l 0 k f r HK.out.2.1 (fun j y hj hy => HK.out.1 j y hj hy) HC.out]
            simp
          exact out_panic rfl (blk_kept HK.out.2.2.2.2 hk4 (fun f => f)) rfl (fun w' hkw => ⟨by rw [hRR], (HK.out.2.2.1.trans hk4 (fun _ f _ => f)).trans hkw (fun i e hi => by have := HBB.out; omega)⟩)
        | none =>
          rw [hcf] at hcc
          have HC : Hid (codeFault false l f = none) := hcf
          clear hcf
          go_wp2_with (go_at_call 35; refine hcc.mono ?_; rintro _ w4 ⟨rfl, hk4⟩)
          refine ⟨⟨k + 1, by omega, by simp, fun j z hj hz => ?_, blk_kept HK.out.2.2.2.1 hk4 (fun f => f), blk_kept HK.out.2.2.2.2 hk4 (fun f => f), HK.out.2.2.1.trans hk4 (fun _ f _ => f)⟩, by simp [intOf]; omega⟩
          by_cases hjk : j = k
          · subst hjk
            rw [HK.out.2.1] at hz
            obtain rfl := Option.some.inj hz
            exact HC.out
          · exact HK.out.1 j z (by omega) hz
      · have i1 : ¬ ((k : Int) < (n : Int)) := by omega
        have d1 := (cell_of_heap hb1 0).trans rfl
        have hall2 : ∀ f ∈ l, codeFault false l f = none := fun f hf => by
          obtain ⟨j, hj, rfl⟩ := List.mem_iff_getElem.1 hf
          exact hall j _ (by have := HLN.out; omega) (List.getElem?_eq_getElem hj)
        have HR2 : Hid (R = (match firstAt (fun _ f => slotFault f) l 0 with
          | some r => faultV r.2.1 r.1 r.2.2
          | none => faultV 0 0 0)) := by
          unfold Hid
          rw [HR.out, firstAt_none (fun _ f => codeFault false l f) l 0 (fun j y hy => hall2 y (List.mem_of_getElem? hy))]
        have HK : Hid ((∀ f ∈ l, codeFault false l f = none) ∧ Keeps None w wr ∧ wr.heap[B]? = some (.cells #[.slice a n c] 24 (0, 0)) ∧ wr.heap[B + 1]? = some (.cells #[.int .i64 0, .int .i64 0, .int .i64 0] 64 (0, 0))) := ⟨hall2, hkp, hb1, hb2⟩
        clear hall hall2 hkp hb1 hb2 H3
        go_wp2_with fail
        go_loopw [29] (fun s29 wr => ∃ k : Nat, k ≤ n ∧ s29 = .int .i64 k ∧ (∀ (j : Nat) f, j < k → l[j]? = some f → slotFault f = none) ∧ wr.heap[B + 1]? = some (.cells #[.int .i64 0, .int .i64 0, .int .i64 0] 64 (0, 0)) ∧ Keeps None w wr) (fun i _ => n - (intOf i).toNat)
        case atStart => exact ⟨0, Nat.zero_le _, rfl, fun q _ h => by omega, HK.out.2.2.2, HK.out.2.1⟩
        case round =>
          clear d1 i1
          obtain ⟨k, hk, rfl, hall, hb2, hkp⟩ := hrel
          by_cases hkn : k < n
          · obtain ⟨b, off, f, ca, cc, rfl, hf, hat⟩ := (HS.out.2.1.more hkp).at hkn
            have i1 : (k : Int) < (n : Int) := by omega
            have hal := Keeps.alloc None wr (.cells #[.int .i64 f.params, .int .i64 f.regs, .int .i64 f.slots, .slice ca f.code.length cc] 44)
            have hkx := hkp.trans hal (fun _ f _ => f)
            have hcc := slots_any (k : Int) f ca cc _ false l (HS.out.1.more hkx) (hat.seen.more hal) (HX.out f (List.mem_of_getElem? hf)) (HK.out.1 f (List.mem_of_getElem? hf))
            unfold fnV at hcc
            obtain ⟨y0, y1, y2, y3, -⟩ := hat
            have HJ : Hid ((∀ (j : Nat) f, j < k → l[j]? = some f → slotFault f = none) ∧ l[k]? = some f ∧ Keeps None w (wr.alloc (.cells #[.int .i64 f.params, .int .i64 f.regs, .int .i64 f.slots, .slice ca f.code.length cc] 44)) ∧ (wr.alloc (.cells #[.int .i64 f.params, .int .i64 f.regs, .int .i64 f.slots, .slice ca f.code.length cc] 44)).heap[B + 1]? = some (.cells #[.int .i64 0, .int .i64 0, .int .i64 0] 64 (0, 0))) := ⟨hall, hf, hkx, blk_kept hb2 hal (fun f => f)⟩
            clear hall hf hkx hb2 hal hkp
            unfold slotsE at hcc
            cases hcf : slotFault f with
            | some r =>
              rw [hcf] at hcc
              have HC : Hid (slotFault f = some r) := hcf
              clear hcf
              go_wp2_with (go_at_call 36; refine hcc.mono ?_; rintro _ w4 ⟨rfl, hk4⟩)
              have hRR : R = faultV r.1 k r.2 := by
                rw [HR2.out, firstAt_some _ l 0 k f r HJ.out.2.1 (fun j y hj hy => HJ.out.1 j y hj hy) HC.out]
                simp
              exact out_panic rfl (blk_kept HJ.out.2.2.2 hk4 (fun f => f)) rfl (fun w' hkw => ⟨by rw [hRR], (HJ.out.2.2.1.trans hk4 (fun _ f _ => f)).trans hkw (fun i e hi => by have := HBB.out; omega)⟩)
            | none =>
              rw [hcf] at hcc
              have HC : Hid (slotFault f = none) := hcf
              clear hcf
              go_wp2_with (go_at_call 36; refine hcc.mono ?_; rintro _ w4 ⟨rfl, hk4⟩)
              refine ⟨⟨k + 1, by omega, by simp, fun j z hj hz => ?_, blk_kept HJ.out.2.2.2 hk4 (fun f => f), HJ.out.2.2.1.trans hk4 (fun _ f _ => f)⟩, by simp [intOf]; omega⟩
              by_cases hjk : j = k
              · subst hjk
                rw [HJ.out.2.1] at hz
                obtain rfl := Option.some.inj hz
                exact HC.out
              · exact HJ.out.1 j z (by omega) hz
          · have i1 : ¬ ((k : Int) < (n : Int)) := by omega
            have hRR : R = faultV 0 0 0 := by
              rw [HR2.out, firstAt_none (fun _ f => slotFault f) l 0 (fun j y hy => hall j y (by have := HLN.out; have := (List.getElem?_eq_some_iff.1 hy).1; omega) hy)]
            have c0 := (cell_of_heap hb2 0).trans rfl
            have c1 := (cell_of_heap hb2 1).trans rfl
            have c2 := (cell_of_heap hb2 2).trans rfl
            have z0 := blk_free hb2 0
            have z1 := blk_free hb2 1
            have z2 := blk_free hb2 2
            have b3 := blk_set (i := 2) (blk_set (i := 1) (blk_set (i := 0) hb2 (.int .i64 0)) (.int .i64 0)) (.int .i64 0)
            have k3 : Keeps (· = B + 1) wr (((wr.setCell ⟨B + 1, 0, none⟩ (.int .i64 0)).setCell ⟨B + 1, 1, none⟩ (.int .i64 0)).setCell ⟨B + 1, 2, none⟩ (.int .i64 0)) := (((Keeps.refl (· = B + 1) wr).andSet (x := ⟨B + 1, 0, none⟩) (.inl rfl) _).andSet (x := ⟨B + 1, 1, none⟩) (.inl rfl) _).andSet (x := ⟨B + 1, 2, none⟩) (.inl rfl) _
            have HZ : Hid (R = faultV 0 0 0 ∧ _ ∧ Keeps None w wr ∧ Keeps (· = B + 1) wr _) := ⟨hRR, b3, hkp, k3⟩
            clear hall hb2 hkp hRR b3 k3
            go_wp2_with fail
            exact out_ret rfl HZ.out.2.1 rfl (fun w' hkw => ⟨by rw [HZ.out.1], (HZ.out.2.2.1.trans HZ.out.2.2.2 (fun i e hi => by have := HBB.out; omega)).trans hkw (fun i e hi => by have := HBB.out; omega)⟩)
end Go.Proofs.YthignlailbekmaaDoor
/-! Programs in memory of their own. -/
namespace Go.Proofs.YthignlailbekmaaDoor
set_option linter.unusedVariables false
set_option maxRecDepth 20000
open Go.RowKit Go.HeapKit

def insVals (l : List Ins) : List Value := l.flatMap insCells
theorem insVals_length (l : List Ins) : (insVals l).length = l.length * 5 := by
  induction l with
  | nil => rfl
  | cons x l ih => simp only [insVals, List.flatMap_cons, List.length_append, List.length_cons] at ih ⊢; rw [ih]; simp [insCells]; omega
theorem insVals_append (a b : List Ins) : insVals (a ++ b) = insVals a ++ insVals b := by simp [insVals]
theorem insVals_at (l : List Ins) (k : Nat) (x : Ins) (h : l[k]? = some x) (j : Nat) (v : Value) (hj : (insCells x)[j]? = some v) : (insVals l)[k * 5 + j]? = some v := by
  have hj5 : j < 5 := (List.getElem?_eq_some_iff.1 hj).1
  induction l generalizing k with
  | nil => simp at h
  | cons z l ih =>
    have e : insVals (z :: l) = insCells z ++ insVals l := rfl
    have hz : (insCells z).length = 5 := rfl
    rw [e]
    cases k with
    | zero =>
      simp at h
      subst h
      rw [List.getElem?_append_left (by omega), Nat.zero_mul, Nat.zero_add]
      exact hj
    | succ k =>
      rw [List.getElem?_append_right (by omega), show (k + 1) * 5 + j - (insCells z).length = k * 5 + j by omega]
      exact ih k (by simpa using h)
theorem insVals_set (l : List Ins) (k : Nat) (x : Ins) (hk : k < l.length) :
    (((((insVals l).set (k * 5) (.int .i64 x.kind)).set (k * 5 + 1) (.int .i64 x.a)).set (k * 5 + 2) (.int .i64 x.b)).set (k * 5 + 3) (.int .i64 x.c)).set (k * 5 + 4) (.int .i64 x.k) = insVals (l.set k x) := by
  induction l generalizing k with
  | nil => simp at hk
  | cons y l ih =>
    have e : insVals (y :: l) = [Value.int .i64 y.kind, .int .i64 y.a, .int .i64 y.b, .int .i64 y.c, .int .i64 y.k] ++ insVals l := rfl
    cases k with
    | zero => rfl
    | succ k =>
      have h1 := ih k (by simpa using hk)
      have e2 : insVals ((y :: l).set (k + 1) x) = [Value.int .i64 y.kind, .int .i64 y.a, .int .i64 y.b, .int .i64 y.c, .int .i64 y.k] ++ insVals (l.set k x) := rfl
      rw [e, e2, ← h1, show (k + 1) * 5 = k * 5 + 5 by omega]
      rfl
/-- A list of instructions in a block of its own. -/
def IsC (w : World) (g : Nat) (l : List Ins) : Prop := w.heap[g]? = some (.cells (insVals l).toArray 46 (0, 0))
theorem IsC.kept {w w' : World} {S : Nat → Prop} {g : Nat} {l : List Ins} (h : IsC w g l) (hk : Keeps S w w') (hS : ¬ S g) : IsC w' g l := blk_kept h hk hS
theorem IsC.at {w : World} {g : Nat} {l : List Ins} (h : IsC w g l) {k : Nat} {x : Ins} (hx : l[k]? = some x) : InsAt w g (k * 5) x := by
  have q : ∀ (j : Nat) (v : Value), (insCells x)[j]? = some v → w.cell? ⟨g, k * 5 + j, none⟩ = some v := fun j v hv => by
    rw [blk_cell h]
    simpa using insVals_at l k x hx j v hv
  exact ⟨q 0 _ rfl, q 1 _ rfl, q 2 _ rfl, q 3 _ rfl, q 4 _ rfl⟩
abbrev set5 (w : World) (g o : Nat) (x : Ins) : World := ((((w.setCell ⟨g, o, none⟩ (.int .i64 x.kind)).setCell ⟨g, o + 1, none⟩ (.int .i64 x.a)).setCell ⟨g, o + 2, none⟩ (.int .i64 x.b)).setCell ⟨g, o + 3, none⟩ (.int .i64 x.c)).setCell ⟨g, o + 4, none⟩ (.int .i64 x.k)
theorem set5_keeps (w : World) (g o : Nat) (x : Ins) : Keeps (· = g) w (set5 w g o x) :=
  (((((Keeps.refl (· = g) w).andSet (x := ⟨g, o, none⟩) (.inl rfl) (.int .i64 x.kind)).andSet (x := ⟨g, o + 1, none⟩) (.inl rfl) (.int .i64 x.a)).andSet (x := ⟨g, o + 2, none⟩) (.inl rfl) (.int .i64 x.b)).andSet (x := ⟨g, o + 3, none⟩) (.inl rfl) (.int .i64 x.c)).andSet (x := ⟨g, o + 4, none⟩) (.inl rfl) (.int .i64 x.k)
theorem IsC.set {w : World} {g : Nat} {l : List Ins} (h : IsC w g l) (k : Nat) (x : Ins) (hk : k < l.length) : IsC (set5 w g (k * 5) x) g (l.set k x) := by
  unfold IsC set5 at *
  rw [blk_set (blk_set (blk_set (blk_set (blk_set h _) _) _) _) _, ← insVals_set l k x hk]
  simp
theorem IsC.seen {w : World} {g : Nat} {l : List Ins} (h : IsC w g l) {m : List Ins} {n : Nat} (hn : n = m.length) (hm : ∀ (k : Nat) i, m[k]? = some i → l[k]? = some i) : SeenI w (some ⟨g, 0, none⟩) n m :=
  ⟨hn, fun _ => ⟨g, 0, rfl, blk_lt h, fun k i hi => by rw [Nat.zero_add]; exact h.at (hm k i hi)⟩⟩
theorem codes_seen {w : World} {v : Value} {l : List Ins} (h : w.ownsRow 0 46 5 v l.length (insVals l)) : ∃ ca cc, v = .slice ca l.length cc ∧ SeenI w ca l.length l := by
  rcases h.2 with ⟨rfl, h0⟩ | ⟨g, cap, cur, rfl, hb, hg, hn, hm, hc, ht⟩
  · exact ⟨none, 0, by rw [h0], ⟨rfl, fun h => by omega⟩⟩
  · refine ⟨_, cap, rfl, ⟨rfl, fun _ => ⟨g, 0, rfl, blk_lt hg, fun k i hi => ?_⟩⟩⟩
    have q : ∀ (j : Nat) (v : Value), (insCells i)[j]? = some v → w.cell? ⟨g, 0 + k * 5 + j, none⟩ = some v := fun j v hv => by
      have h1 := insVals_at l k i hi j v hv
      rw [← ht, List.getElem?_take] at h1
      split at h1
      · rw [blk_cell hg, Nat.zero_add]; simpa using h1
      · cases h1
    exact ⟨q 0 _ rfl, q 1 _ rfl, q 2 _ rfl, q 3 _ rfl, q 4 _ rfl⟩
def zeroI : Ins := ⟨0, 0, 0, 0, 0⟩
def oddI (j : Int) : Ins := ⟨70 + j, -1, -2, -3, -4⟩
theorem Tryd.infoIns : (Tryd.prog.info? 46).map (fun i => (i.zero, i.size, i.bytes)) = some (some (.agg #[.int .i64 0, .int .i64 0, .int .i64 0, .int .i64 0, .int .i64 0]), 5, 40) := by kernel_rfl
theorem insVals_zero (m : Nat) : insVals (List.replicate m zeroI) = List.replicate (m * 5) (.int .i64 0) := by
  induction m with
  | zero => rfl
  | succ m ih =>
    rw [List.replicate_succ, show (m + 1) * 5 = m * 5 + 1 + 1 + 1 + 1 + 1 by omega, List.replicate_succ, List.replicate_succ, List.replicate_succ, List.replicate_succ, List.replicate_succ, ← ih]
    rfl
theorem codes_made (w : World) (n : Nat) (hn : n * 40 ≤ 140737488355328) : ∃ w', (Instr.makeSlice 42 (.int .i64 n) (.int .i64 n)).run Tryd.prog w = .ok (.slice (some ⟨w.heap.size, 0, none⟩) n n) w' ∧ IsC w' w.heap.size (List.replicate n zeroI) ∧ Keeps None w w' := by
  obtain ⟨i0, hi, hz0, hz1, hz2⟩ := info_parts Tryd.infoIns
  obtain ⟨M, hM, _, hr⟩ := run_make_block (P := Tryd.prog) (w := w) 42 46 i0 _ 5 40 Tryd.underlying42 hi hz0 hz1 hz2 n (by omega) (by omega)
  refine ⟨_, hr, ?_, Keeps.alloc None w _⟩
  unfold IsC
  rw [heap_alloc_new, hM, insVals_zero]
  congr 2
  apply Array.ext
  · simp [madeCells]
  · intro i h1 h2
    have h5 : (Value.agg #[Value.int .i64 0, .int .i64 0, .int .i64 0, .int .i64 0, .int .i64 0]).cells = #[.int .i64 0, .int .i64 0, .int .i64 0, .int .i64 0, .int .i64 0] := rfl
    simp only [h5]
    simp only [madeCells, Array.getElem_map, Array.getElem_range, List.getElem_toArray, List.getElem_replicate]
    have hlt : i % 5 < 5 := Nat.mod_lt _ (by omega)
    show #[Value.int .i64 0, .int .i64 0, .int .i64 0, .int .i64 0, .int .i64 0][i % 5]! = _
    generalize i % 5 = q at hlt
    match q, hlt with
    | 0, _ => rfl
    | 1, _ => rfl
    | 2, _ => rfl
    | 3, _ => rfl
    | 4, _ => rfl
theorem ins_append (v : Value) (l : List Ins) (x : Ins) (n g ty : Nat) (w : World) (hn : n = l.length) (h : w.ownsRow 0 46 5 v n (insVals l)) (hlen : (n + 1) * 40 ≤ 140737488355328)
    (hg : w.heap[g]? = some (.cells #[.int .i64 x.kind, .int .i64 x.a, .int .i64 x.b, .int .i64 x.c, .int .i64 x.k] 46 (0, 0))) :
    ∃ b cap w', (Builtin.append_ #[42, 42] ty #[v, .slice (some ⟨g, 0, none⟩) 1 1]).run Tryd.prog w = .ok (.slice (some ⟨b, 0, none⟩) (n + 1) cap) w' ∧
      w'.ownsRow 0 46 5 (.slice (some ⟨b, 0, none⟩) (n + 1) cap) (n + 1) (insVals (l ++ [x])) ∧ Keeps (fun k => v.ownBlock = some k) w w' ∧ (v.ownBlock = some b ∨ w.heap.size ≤ b) := by
  obtain ⟨i0, hi, hz0, hz1, hz2⟩ := info_parts Tryd.infoIns
  obtain ⟨v', w', hr, ho, hgr, hm, -⟩ := run_append_moved (P := Tryd.prog) w 0 42 ty 46 i0 _ 5 40 Tryd.underlying42 hi hz0 hz1 hz2 rfl (by decide) v n (insVals l) h
    ⟨g, 0, none⟩ 1 1 (insCells x) rfl (by
      intro j u hu
      rw [show (⟨g, 0, none⟩ : Addr).add j = ⟨g, j, none⟩ by unfold Addr.add; split <;> simp_all, blk_cell hg]
      simpa [insCells] using hu) (by
      intro u hu
      simp [insCells] at hu
      rcases hu with rfl | rfl | rfl | rfl | rfl <;> rfl) (by unfold maxLen; omega) (by omega) (Nat.zero_le _)
  have e : insVals (l ++ [x]) = insVals l ++ insCells x := by simp [insVals]
  rw [e]
  rcases ho.2 with ⟨_, h0⟩ | ⟨b, cap, cur, rfl, _⟩
  · omega
  · refine ⟨b, cap, w', hr, ho, (Keeps.refl _ w).andGrown hgr (fun k e => .inl e), ?_⟩
    rcases hm with hm | ⟨g', e, hg⟩
    · exact .inl (hm.symm.trans rfl)
    · simp [Value.ownBlock] at e; exact .inr (by omega)
theorem load_fnv (w : World) (g : Nat) (t : TypeId) (p r s : Int) (v : Value) (hb : w.heap[g]? = some (.cells #[.int .i64 p, .int .i64 r, .int .i64 s, v] t (0, 0))) : (loadVar 44 ⟨g, 0, none⟩).run Tryd.prog w = .ok (.agg #[.int .i64 p, .int .i64 r, .int .i64 s, v]) w :=
  run_loadVar_row _ g t 44 _ _ _ hb Tryd.underlying44 rfl (by kernel_rfl)
theorem load_ins (w : World) (g : Nat) (t : TypeId) (x : Ins) (hb : w.heap[g]? = some (.cells #[.int .i64 x.kind, .int .i64 x.a, .int .i64 x.b, .int .i64 x.c, .int .i64 x.k] t (0, 0))) : (loadVar 46 ⟨g, 0, none⟩).run Tryd.prog w = .ok (insV x) w :=
  run_loadVar_row _ g t 46 _ _ _ hb Tryd.underlying46 rfl (by kernel_rfl)
theorem load_prog (w : World) (g : Nat) (t : TypeId) (v : Value) (hb : w.heap[g]? = some (.cells #[v] t (0, 0))) : (loadVar 24 ⟨g, 0, none⟩).run Tryd.prog w = .ok (.agg #[v]) w :=
  run_loadVar_row _ g t 24 _ _ _ hb Tryd.underlying24 rfl (by kernel_rfl)
end Go.Proofs.YthignlailbekmaaDoor
/-! A program copied. -/
namespace Go.Proofs.YthignlailbekmaaDoor
set_option linter.unusedVariables false
set_option maxRecDepth 20000
open Go.RowKit Go.HeapKit

theorem flat4_at (R : List (List Value)) (h : ∀ r ∈ R, r.length = 4) (k : Nat) (x : List Value) (hx : R[k]? = some x) (j : Nat) (hj : j < 4) : R.flatten[k * 4 + j]? = x[j]? := by
  induction R generalizing k with
  | nil => simp at hx
  | cons y R ih =>
    have hy := h y (List.mem_cons_self ..)
    rw [List.flatten_cons]
    cases k with
    | zero =>
      simp at hx
      subst hx
      rw [List.getElem?_append_left (by omega), Nat.zero_mul, Nat.zero_add]
    | succ k =>
      rw [List.getElem?_append_right (by omega), show (k + 1) * 4 + j - y.length = k * 4 + j by omega]
      exact ih (fun r hr => h r (List.mem_cons_of_mem _ hr)) k (by simpa using hx)
theorem Tryd.infoFn : (Tryd.prog.info? 44).map (fun i => (i.zero, i.size, i.bytes)) = some (some (.agg #[.int .i64 0, .int .i64 0, .int .i64 0, .slice none 0 0]), 4, 48) := by kernel_rfl
theorem zip_at {α β γ : Type} (f : α → β → γ) (l : List α) (m : List β) (k : Nat) (a : α) (b : β) (ha : l[k]? = some a) (hb : m[k]? = some b) : (List.zipWith f l m)[k]? = some (f a b) := by
  rw [List.getElem?_zipWith, ha, hb]
theorem take_snoc {α : Type} (l : List α) (k : Nat) (x : α) (hx : l[k]? = some x) : l.take (k + 1) = l.take k ++ [x] := by rw [List.take_add_one, hx]; rfl
abbrev At := Option Addr × Nat
def At.blk (t : At) : Option Nat := (Value.slice t.1 0 0).ownBlock
def tfCells (f : Fn) (t : At) : List Value := [.int .i64 f.params, .int .i64 f.regs, .int .i64 f.slots, .slice t.1 f.code.length t.2]
theorem fn_append (v : Value) (R : List (List Value)) (p r s x : Value) (n g ty : Nat) (w : World) (hn : n = R.length) (h1 : p.oneCell' = true ∧ r.oneCell' = true ∧ s.oneCell' = true ∧ x.oneCell' = true) (h : w.ownsRow 0 44 4 v n R.flatten) (hlen : (n + 1) * 48 ≤ 140737488355328)
    (hg : w.heap[g]? = some (.cells #[p, r, s, x] 44 (0, 0))) :
    ∃ b cap w', (Builtin.append_ #[22, 22] ty #[v, .slice (some ⟨g, 0, none⟩) 1 1]).run Tryd.prog w = .ok (.slice (some ⟨b, 0, none⟩) (n + 1) cap) w' ∧
      w'.ownsRow 0 44 4 (.slice (some ⟨b, 0, none⟩) (n + 1) cap) (n + 1) (R ++ [[p, r, s, x]]).flatten ∧ Keeps (fun k => v.ownBlock = some k) w w' ∧ (v.ownBlock = some b ∨ w.heap.size ≤ b) := by
  obtain ⟨i0, hi, hz0, hz1, hz2⟩ := info_parts Tryd.infoFn
  obtain ⟨v', w', hr, ho, hgr, hm, -⟩ := run_append_moved (P := Tryd.prog) w 0 22 ty 44 i0 _ 4 48 Tryd.underlying22 hi hz0 hz1 hz2 rfl (by decide) v n R.flatten h
    ⟨g, 0, none⟩ 1 1 [p, r, s, x] rfl (by
      intro j u hu
      rw [show (⟨g, 0, none⟩ : Addr).add j = ⟨g, j, none⟩ by unfold Addr.add; split <;> simp_all, blk_cell hg]
      simpa using hu) (by
      intro u hu
      simp at hu
      obtain ⟨q1, q2, q3, q4⟩ := h1
      rcases hu with rfl | rfl | rfl | rfl
      · exact q1
      · exact q2
      · exact q3
      · exact q4) (by unfold maxLen; omega) (by omega) (Nat.zero_le _)
  have e : (R ++ [[p, r, s, x]]).flatten = R.flatten ++ [p, r, s, x] := by simp
  rw [e]
  rcases ho.2 with ⟨_, h0⟩ | ⟨b, cap, cur, rfl, _⟩
  · omega
  · refine ⟨b, cap, w', hr, ho, (Keeps.refl _ w).andGrown hgr (fun k e => .inl e), ?_⟩
    rcases hm with hm | ⟨g', e, hg⟩
    · exact .inl (hm.symm.trans rfl)
    · simp [Value.ownBlock] at e; exact .inr (by omega)
structure Ta (w wr : World) (B : Nat) (pv : Value) (l : List Fn) (k : Nat) (qv : Value) (tv : List At) : Prop where
  keep : Keeps None w wr
  box : wr.heap[B]? = some (.cells #[pv] 24 (0, 0))
  res : wr.heap[B + 1]? = some (.cells #[.slice none 0 0] 24 (0, 0))
  qb : wr.heap[B + 2]? = some (.cells #[qv] 24 (0, 0))
  row : wr.ownsRow 0 44 4 qv k (List.zipWith tfCells (l.take k) tv).flatten
  code : ∀ (i : Nat) (f : Fn) (t : At), (l.take k)[i]? = some f → tv[i]? = some t → wr.ownsRow 0 46 5 (.slice t.1 f.code.length t.2) f.code.length (insVals f.code)
  len : tv.length = k
  low : ∀ g, qv.ownBlock = some g → w.heap.size ≤ g
  hB : w.heap.size ≤ B
  cl : ∀ (i : Nat) (t : At) (g : Nat), tv[i]? = some t → t.blk = some g → w.heap.size ≤ g ∧ g < wr.heap.size
  nd : ∀ (i j : Nat) (t u : At) (g : Nat), tv[i]? = some t → tv[j]? = some u → t.blk = some g → u.blk = some g → i = j
theorem Ta.more {w wr w' : World} {B : Nat} {pv : Value} {l : List Fn} {k : Nat} {qv : Value} {tv : List At} (h : Ta w wr B pv l k qv tv) (hk : Keeps None wr w') : Ta w w' B pv l k qv tv :=
  ⟨h.keep.trans hk (fun _ f _ => f), blk_kept h.box hk (fun f => f), blk_kept h.res hk (fun f => f), blk_kept h.qb hk (fun f => f), hk.own h.row (fun _ _ f => f), fun i f t hf ht => hk.own (h.code i f t hf ht) (fun _ _ f => f), h.len, h.low, h.hB, fun i t g ht hg => ⟨(h.cl i t g ht hg).1, Nat.lt_of_lt_of_le (h.cl i t g ht hg).2 hk.size⟩, h.nd⟩
theorem Ta.next {w wr w2 : World} {B : Nat} {pv : Value} {l : List Fn} {k : Nat} {qv : Value} {tv : List At} {f : Fn} {t : At} {b cap : Nat} (h : Ta w wr B pv l k qv tv) (hf : l[k]? = some f) (hC : wr.ownsRow 0 46 5 (.slice t.1 f.code.length t.2) f.code.length (insVals f.code))
    (hk2 : Keeps (fun k => qv.ownBlock = some k) wr w2) (ho2 : w2.ownsRow 0 44 4 (.slice (some ⟨b, 0, none⟩) (k + 1) cap) (k + 1) (List.zipWith tfCells (l.take k) tv ++ [tfCells f t]).flatten) (hg2 : qv.ownBlock = some b ∨ wr.heap.size ≤ b) {H : Nat} (hold : ∀ (i : Nat) (u : At) (g : Nat), tv[i]? = some u → u.blk = some g → g < H) (hnew : ∀ g, t.blk = some g → w.heap.size ≤ g ∧ H ≤ g ∧ g < wr.heap.size) :
    w2.cell? ⟨B + 2, 0, none⟩ = some qv ∧ w2.frozen? ⟨B + 2, 0, none⟩ = false ∧ Ta w (w2.setCell ⟨B + 2, 0, none⟩ (.slice (some ⟨b, 0, none⟩) (k + 1) cap)) B pv l (k + 1) (.slice (some ⟨b, 0, none⟩) (k + 1) cap) (tv ++ [t]) := by
  have hlk := (List.getElem?_eq_some_iff.1 hf).1
  have ht : (l.take k).length = k := by simp; omega
  have hfun : ∀ {c : Array Value} {T : TypeId} {p : Nat}, T ≠ 44 → wr.heap[p]? = some (.cells c T (0, 0)) → ¬ qv.ownBlock = some p := fun hT hp e => hT ((own_type h.row e hp).symm ▸ rfl)
  have qb2 := blk_kept h.qb hk2 (hfun (by decide) h.qb)
  have kS : Keeps (· = B + 2) w2 (w2.setCell ⟨B + 2, 0, none⟩ (.slice (some ⟨b, 0, none⟩) (k + 1) cap)) := Keeps.setCell (S := (· = B + 2)) w2 rfl _
  have hbB : b ≠ B + 2 := by
    rintro rfl
    have := own_type ho2 (g := B + 2) rfl qb2
    exact absurd this (by decide)
  have hB := h.hB
  have hcode : ∀ (v : Value) (m : Nat) (xs : List Value), wr.ownsRow 0 46 5 v m xs → (w2.setCell ⟨B + 2, 0, none⟩ (.slice (some ⟨b, 0, none⟩) (k + 1) cap)).ownsRow 0 46 5 v m xs := by
    intro v m xs hv
    have h1 := hk2.own hv (fun g e q => by
      obtain ⟨c, hc⟩ := own_block hv e
      exact hfun (by decide) hc q)
    exact kS.own h1 (fun g e q => absurd (own_type h1 e (q ▸ qb2)) (by decide))
  refine ⟨(blk_cell qb2 0).trans rfl, blk_free qb2 0, ⟨(h.keep.trans hk2 (fun i e hi => by have := h.low i e; omega)).trans kS (fun i e hi => by omega), blk_kept (blk_kept h.box hk2 (hfun (by decide) h.box)) kS (by omega), blk_kept (blk_kept h.res hk2 (hfun (by decide) h.res)) kS (by omega), by rw [blk_set qb2]; rfl, ?_, ?_, ?_, ?_, h.hB, ?_, ?_⟩⟩
  · have e : List.zipWith tfCells (l.take (k + 1)) (tv ++ [t]) = List.zipWith tfCells (l.take k) tv ++ [tfCells f t] := by
      rw [take_snoc l k f hf, List.zipWith_append (by rw [h.len, ht])]
      simp
    rw [e]
    exact kS.own ho2 (fun g e q => by simp [Value.ownBlock] at e; exact hbB (e.trans q))
  · intro i f' t' hi hc
    rw [take_snoc l k f hf] at hi
    by_cases hik : i < k
    · rw [List.getElem?_append_left (by omega)] at hi
      rw [List.getElem?_append_left (by rw [h.len]; omega)] at hc
      exact hcode _ _ _ (h.code i f' t' hi hc)
    · have hlt := (List.getElem?_eq_some_iff.1 hi).1
      simp only [List.length_append, ht, List.length_cons, List.length_nil] at hlt
      obtain rfl : i = k := by omega
      rw [List.getElem?_append_right (by omega), ht, Nat.sub_self] at hi
      rw [List.getElem?_append_right (by rw [h.len]; omega), h.len, Nat.sub_self] at hc
      simp at hi hc
      subst hi hc
      exact hcode _ _ _ hC
  · rw [List.length_append, h.len]; rfl
  · intro g e
    simp [Value.ownBlock] at e
    subst e
    rcases hg2 with r | r
    · exact h.low _ r
    · have := h.keep.size; omega
  · intro i u g hi hg
    have hsz : wr.heap.size ≤ (w2.setCell ⟨B + 2, 0, none⟩ (.slice (some ⟨b, 0, none⟩) (k + 1) cap)).heap.size := Nat.le_trans hk2.size kS.size
    by_cases hik : i < tv.length
    · rw [List.getElem?_append_left hik] at hi
      exact ⟨(h.cl i u g hi hg).1, Nat.lt_of_lt_of_le (h.cl i u g hi hg).2 hsz⟩
    · rw [List.getElem?_append_right (by omega)] at hi
      have hlt := (List.getElem?_eq_some_iff.1 hi).1
      simp at hlt
      have e0 : i - tv.length = 0 := by omega
      rw [e0] at hi
      simp at hi
      subst hi
      exact ⟨(hnew g hg).1, Nat.lt_of_lt_of_le (hnew g hg).2.2 hsz⟩
  · intro i j u v g hi hj hu hv
    have tell : ∀ (i : Nat) (u : At), (tv ++ [t])[i]? = some u → (i < tv.length ∧ tv[i]? = some u) ∨ (i = tv.length ∧ u = t) := fun i u hi => by
      by_cases hik : i < tv.length
      · rw [List.getElem?_append_left hik] at hi
        exact .inl ⟨hik, hi⟩
      · rw [List.getElem?_append_right (by omega)] at hi
        have hlt := (List.getElem?_eq_some_iff.1 hi).1
        simp at hlt
        have e0 : i - tv.length = 0 := by omega
        rw [e0] at hi
        simp at hi
        exact .inr ⟨by omega, hi.symm⟩
    rcases tell i u hi with ⟨h1, h1'⟩ | ⟨h1, h1'⟩
    · rcases tell j v hj with ⟨h2, h2'⟩ | ⟨h2, h2'⟩
      · exact h.nd i j u v g h1' h2' hu hv
      · subst h2'
        have a1 := hold i u g h1' hu
        have a2 := hnew g hv
        omega
    · rcases tell j v hj with ⟨h2, h2'⟩ | ⟨h2, h2'⟩
      · subst h1'
        have a1 := hold j v g h2' hv
        have a2 := hnew g hu
        omega
      · omega
theorem codes_copied_nil (g c : Nat) (w : World) (ty : TypeId) : (Builtin.append_ #[42, 42] ty #[.slice (some ⟨g, 0, none⟩) 0 0, .slice none 0 c]).run Tryd.prog w = .ok (.slice (some ⟨g, 0, none⟩) 0 0) w := by
  obtain ⟨i0, hi, hz0, hz1, hz2⟩ := info_parts Tryd.infoIns
  simp [Builtin.append_, run_underlying Tryd.underlying42, sizeOf, typeInfo, zeroValue, hi, hz0, Builtin.lenOf, Builtin.firstCells, storeCells]
theorem rows_seen {wr : World} {l : List Fn} {k : Nat} {qv : Value} {tv : List At} (hrow0 : wr.ownsRow 0 44 4 qv k (List.zipWith tfCells (l.take k) tv).flatten) (hcode : ∀ (i : Nat) (f : Fn) (t : At), (l.take k)[i]? = some f → tv[i]? = some t → wr.ownsRow 0 46 5 (.slice t.1 f.code.length t.2) f.code.length (insVals f.code)) (hlen : tv.length = k) (hk : k = l.length) : ∃ a c, qv = .slice a k c ∧ SeenF wr a k l := by
  have hlt : l.take k = l := List.take_of_length_le (by omega)
  have hrow := hrow0
  rw [hlt] at hrow
  have four : ∀ r ∈ List.zipWith tfCells l tv, r.length = 4 := fun r hr => by
    obtain ⟨i, hi, rfl⟩ := List.mem_iff_getElem.1 hr
    rw [List.getElem_zipWith]
    rfl
  rcases hrow.2 with ⟨rfl, h0⟩ | ⟨g, cap, cur, rfl, hb, hg, hn, hm, hc, ht⟩
  · exact ⟨none, 0, by rw [h0], ⟨by omega, fun h => by omega⟩⟩
  · refine ⟨_, cap, rfl, ⟨by omega, fun _ => ⟨g, 0, rfl, blk_lt hg, fun i f hf => ?_⟩⟩⟩
    have hi := (List.getElem?_eq_some_iff.1 hf).1
    obtain ⟨t, hti⟩ : ∃ t, tv[i]? = some t := ⟨tv[i]'(by rw [hlen]; omega), by simp⟩
    have hz := zip_at tfCells l tv i f t hf hti
    have hcell : ∀ j, j < 4 → wr.cell? ⟨g, 0 + i * 4 + j, none⟩ = (tfCells f t)[j]? := fun j hj => by
      have h1 := flat4_at _ four i _ hz j hj
      rw [blk_cell hg, ← h1, ← ht, List.getElem?_take, if_pos (by omega), Nat.zero_add]
      simp
    have hcd := hcode i f t (by rw [hlt]; exact hf) hti
    obtain ⟨ca, cc, hv, hsn⟩ := codes_seen hcd
    injection hv with e1 e2 e3
    have q3 : wr.cell? ⟨g, 0 + i * 4 + 3, none⟩ = some (.slice t.1 f.code.length t.2) := hcell 3 (by omega)
    refine ⟨t.1, t.2, ⟨hcell 0 (by omega), hcell 1 (by omega), hcell 2 (by omega), q3, by rw [e1]; exact hsn⟩⟩
theorem Ta.seen {w wr : World} {B : Nat} {pv : Value} {l : List Fn} {k : Nat} {qv : Value} {tv : List At} (h : Ta w wr B pv l k qv tv) (hk : k = l.length) : ∃ a c, qv = .slice a k c ∧ SeenF wr a k l := rows_seen h.row h.code h.len hk
theorem codes_copied (ca : Option Addr) (n c : Nat) (code : List Ins) (w : World) (ty : TypeId) (h : SeenI w ca n code) (hs : n * 40 ≤ 140737488351232) :
    ∃ v w', (Builtin.append_ #[42, 42] ty #[.slice (some ⟨w.heap.size, 0, none⟩) 0 0, .slice ca n c]).run Tryd.prog (w.alloc (.cells #[] 46)) = .ok v w' ∧
      w'.ownsRow 0 46 5 v n (insVals code) ∧ Keeps None w w' ∧ ∀ g, v.ownBlock = some g → w.heap.size ≤ g := by
  have hl := h.len
  have hal := Keeps.alloc None w (.cells #[] 46)
  have h2 := h.more hal
  have hrow : (w.alloc (.cells #[] 46)).ownsRow 0 46 5 (.slice (some ⟨w.heap.size, 0, none⟩) 0 0) 0 [] :=
    ⟨by simp, .inr ⟨w.heap.size, 0, #[], rfl, Nat.zero_le _, heap_alloc_new _ _, Nat.le_refl _, by unfold maxLen; omega, rfl, rfl⟩⟩
  cases ca with
  | none =>
    have hn : n = 0 := by
      rcases Nat.eq_zero_or_pos n with h0 | h0
      · exact h0
      · obtain ⟨b, off, e, _⟩ := h.ex h0
        cases e
    subst hn
    have hc0 : code = [] := List.eq_nil_of_length_eq_zero hl.symm
    subst hc0
    refine ⟨.slice (some ⟨w.heap.size, 0, none⟩) 0 0, w.alloc (.cells #[] 46), ?_, hrow, hal, fun g e => by simp [Value.ownBlock] at e; omega⟩
    exact codes_copied_nil _ c _ ty
  | some x =>
    obtain ⟨i0, hi, hz0, hz1, hz2⟩ := info_parts Tryd.infoIns
    obtain ⟨v', w1, hr, ho, hgr, hm, -⟩ := run_append_moved (P := Tryd.prog) (w.alloc (.cells #[] 46)) 0 42 ty 46 i0 _ 5 40 Tryd.underlying42 hi hz0 hz1 hz2 rfl (by decide) _ 0 _ hrow
      x n c (insVals code) (by rw [insVals_length]; omega) (by
        intro j u hu
        have hj : j < n * 5 := by have := (List.getElem?_eq_some_iff.1 hu).1; rw [insVals_length] at this; omega
        obtain ⟨b, off, e, _, hc⟩ := h2.ex (by omega)
        injection e with e
        subst e
        rw [show (⟨b, off, none⟩ : Addr).add j = ⟨b, off + j, none⟩ by unfold Addr.add; split <;> simp_all]
        have hlj : code[j / 5]? = some (code[j / 5]'(by omega)) := List.getElem?_eq_getElem _
        have hin := hc (j / 5) _ hlj
        have hjj : j = j / 5 * 5 + j % 5 := by omega
        have hm5 : j % 5 < 5 := Nat.mod_lt _ (by omega)
        obtain ⟨v0, hv0⟩ : ∃ v0, (insCells (code[j / 5]'(by omega)))[j % 5]? = some v0 := ⟨(insCells (code[j / 5]'(by omega)))[j % 5]'(by simpa [insCells] using hm5), by simp⟩
        have hat := insVals_at code (j / 5) _ hlj (j % 5) v0 hv0
        rw [← hjj] at hat
        rw [hat] at hu
        injection hu with hu
        subst hu
        have hq : off + j = off + j / 5 * 5 + j % 5 := by omega
        rw [hq]
        generalize j % 5 = r at hm5 hv0
        generalize code[j / 5]'(by omega) = ii at hin hv0
        match r, hm5 with
        | 0, _ => simp [insCells] at hv0; subst hv0; exact hin.kind
        | 1, _ => simp [insCells] at hv0; subst hv0; exact hin.a
        | 2, _ => simp [insCells] at hv0; subst hv0; exact hin.b
        | 3, _ => simp [insCells] at hv0; subst hv0; exact hin.c
        | 4, _ => simp [insCells] at hv0; subst hv0; exact hin.k) (by
        intro u hu
        simp only [insVals, List.mem_flatMap] at hu
        obtain ⟨y, _, hy⟩ := hu
        simp [insCells] at hy
        rcases hy with rfl | rfl | rfl | rfl | rfl <;> rfl) (by unfold maxLen; omega) (by omega) (Nat.zero_le _)
    rw [Nat.zero_add, List.nil_append] at ho
    refine ⟨v', w1, hr, ho, hal.andGrown hgr (fun k e => .inr (by simp [Value.ownBlock] at e; omega)), fun g e => ?_⟩
    rcases hm with hm | ⟨g', e', hg'⟩
    · rw [hm] at e; simp [Value.ownBlock] at e; omega
    · rw [e'] at e
      obtain rfl := Option.some.inj e
      simp at hg'
      omega
theorem ins_put (l : List Ins) (k : Nat) (x : Ins) (y : Int) (hk : l[k]? = some x) : (insVals l).set (k * 5 + 4) (.int .i64 y) = insVals (l.set k { x with k := y }) := by
  induction l generalizing k with
  | nil => simp at hk
  | cons z l ih =>
    have e : insVals (z :: l) = insCells z ++ insVals l := rfl
    have hz : (insCells z).length = 5 := rfl
    cases k with
    | zero =>
      simp at hk
      subst hk
      have e2 : insVals ((z :: l).set 0 { z with k := y }) = insCells { z with k := y } ++ insVals l := rfl
      rw [e, e2, Nat.zero_mul, Nat.zero_add, List.set_append_left _ _ (by omega)]
      rfl
    | succ k =>
      have e2 : insVals ((z :: l).set (k + 1) { x with k := y }) = insCells z ++ insVals (l.set k { x with k := y }) := rfl
      rw [e, e2, ← ih k (by simpa using hk), List.set_append_right _ _ (by omega), hz, show (k + 1) * 5 + 4 - 5 = k * 5 + 4 by omega]
/-- A program in memory of its own: no two of its lists share any. -/
structure Cp (base : Nat) (w : World) (l : List Fn) (qv : Value) (tv : List At) : Prop where
  row : w.ownsRow 0 44 4 qv l.length (List.zipWith tfCells l tv).flatten
  code : ∀ (i : Nat) (f : Fn) (t : At), l[i]? = some f → tv[i]? = some t → w.ownsRow 0 46 5 (.slice t.1 f.code.length t.2) f.code.length (insVals f.code)
  len : tv.length = l.length
  low : ∀ g, qv.ownBlock = some g → base ≤ g
  cl : ∀ (i : Nat) (t : At) (g : Nat), tv[i]? = some t → t.blk = some g → base ≤ g
  nd : ∀ (i j : Nat) (t u : At) (g : Nat), tv[i]? = some t → tv[j]? = some u → t.blk = some g → u.blk = some g → i = j
theorem At.blk_slice (a : Option Addr) (n c k : Nat) : (Value.slice a n c).ownBlock = At.blk (a, k) := by cases a <;> rfl
theorem Cp.more {base : Nat} {w w' : World} {l : List Fn} {qv : Value} {tv : List At} (h : Cp base w l qv tv) (hk : Keeps None w w') : Cp base w' l qv tv :=
  ⟨hk.own h.row (fun _ _ f => f), fun i f t hf ht => hk.own (h.code i f t hf ht) (fun _ _ f => f), h.len, h.low, h.cl, h.nd⟩
theorem Cp.kept {base : Nat} {w w' : World} {l : List Fn} {qv : Value} {tv : List At} {S : Nat → Prop} (h : Cp base w l qv tv) (hk : Keeps S w w') (hr : ∀ g, qv.ownBlock = some g → ¬ S g) (hc : ∀ (i : Nat) (t : At) (g : Nat), tv[i]? = some t → t.blk = some g → ¬ S g) : Cp base w' l qv tv :=
  ⟨hk.own h.row (fun g e => hr g e), fun i f t hf ht => hk.own (h.code i f t hf ht) (fun g e => hc i t g ht (by rw [← e]; exact (At.blk_slice _ _ _ _).symm)), h.len, h.low, h.cl, h.nd⟩
theorem Cp.seen {base : Nat} {w : World} {l : List Fn} {qv : Value} {tv : List At} (h : Cp base w l qv tv) : ∃ a c, qv = .slice a l.length c ∧ SeenF w a l.length l := by
  have e : l.take l.length = l := List.take_of_length_le (Nat.le_refl _)
  exact rows_seen (k := l.length) (by rw [e]; exact h.row) (fun i f t hf ht => h.code i f t (by rw [e] at hf; exact hf) ht) h.len rfl
/-- One constant of it is written over. -/
theorem Cp.put {base : Nat} {w : World} {l : List Fn} {qv : Value} {tv : List At} (h : Cp base w l qv tv) {i k : Nat} {f : Fn} {x : Ins} {t : At} (hf : l[i]? = some f) (hx : f.code[k]? = some x) (ht : tv[i]? = some t) (y : Int) :
    ∃ cb, t.1 = some ⟨cb, 0, none⟩ ∧ InsAt w cb (k * 5) x ∧ (∀ j, w.frozen? ⟨cb, j, none⟩ = false) ∧ Cp base (w.setCell ⟨cb, k * 5 + 4, none⟩ (.int .i64 y)) (l.set i { f with code := f.code.set k { x with k := y } }) qv tv ∧ Keeps (· = cb) w (w.setCell ⟨cb, k * 5 + 4, none⟩ (.int .i64 y)) ∧ base ≤ cb := by
  have hkl := (List.getElem?_eq_some_iff.1 hx).1
  have hil := (List.getElem?_eq_some_iff.1 hf).1
  have hown := h.code i f t hf ht
  rcases hown.2 with ⟨_, h0⟩ | ⟨g, cap, cur, he, hb0, hg, hnc, hcm, hcs, htk⟩
  · omega
  · have he2 := he
    injection he with e1 e2 e3
    have hL := insVals_length f.code
    have hblk : t.blk = some g := by unfold At.blk; rw [e1]; rfl
    have hcell : ∀ j v, (insCells x)[j]? = some v → w.cell? ⟨g, k * 5 + j, none⟩ = some v := fun j v hv => by
      have hj : j < 5 := by have := (List.getElem?_eq_some_iff.1 hv).1; simpa [insCells] using this
      have h1 := insVals_at f.code k x hx j v hv
      rw [← htk, List.getElem?_take, if_pos (by omega)] at h1
      rw [blk_cell hg, ← Array.getElem?_toList]
      exact h1
    have kS : Keeps (· = g) w (w.setCell ⟨g, k * 5 + 4, none⟩ (.int .i64 y)) := Keeps.setCell (S := (· = g)) w (a := ⟨g, k * 5 + 4, none⟩) rfl _
    refine ⟨g, e1, ⟨hcell 0 _ rfl, hcell 1 _ rfl, hcell 2 _ rfl, hcell 3 _ rfl, hcell 4 _ rfl⟩, fun j => blk_free hg j, ?_, kS, h.cl i t g ht hblk⟩
    have hz : List.zipWith tfCells (l.set i { f with code := f.code.set k { x with k := y } }) tv = List.zipWith tfCells l tv := by
      apply List.ext_getElem?
      intro j
      rw [List.getElem?_zipWith, List.getElem?_zipWith]
      by_cases hji : i = j
      · subst hji
        rw [List.getElem?_set_self hil, hf, ht]
        simp [tfCells]
      · rw [List.getElem?_set_ne hji]
    refine ⟨?_, ?_, by rw [List.length_set]; exact h.len, h.low, h.cl, h.nd⟩
    · rw [hz, List.length_set]
      exact kS.own h.row (fun q e hq => by subst hq; exact absurd (own_type h.row e hg) (by decide))
    · intro j f' t' hf' ht'
      by_cases hji : i = j
      · subst hji
        rw [List.getElem?_set_self hil] at hf'
        obtain rfl := Option.some.inj hf'
        rw [ht] at ht'
        obtain rfl := Option.some.inj ht'
        simp only [List.length_set]
        refine ⟨by rw [insVals_length, List.length_set], .inr ⟨g, cap, _, he2, hb0, blk_set hg _, hnc, hcm, by simpa using hcs, ?_⟩⟩
        rw [Array.toList_setIfInBounds, List.take_set, htk]
        exact ins_put f.code k x y hx
      · rw [List.getElem?_set_ne hji] at hf'
        refine kS.own (h.code j f' t' hf' ht') (fun q e hq => ?_)
        subst hq
        exact hji (h.nd i j t t' q ht ht' hblk (by rw [← e]; exact (At.blk_slice _ _ _ _).symm))
end Go.Proofs.YthignlailbekmaaDoor
