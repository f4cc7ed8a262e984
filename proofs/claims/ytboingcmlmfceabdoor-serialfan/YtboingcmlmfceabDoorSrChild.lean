import Derived.Test.YtboingcmlmfceabDoorSrEnter3
import Derived.Test.YtboingcmlmfceabDoorSrPed
import Derived.Test.YtboingcmlmfceabDoorPgCheck
/-! child. -/
namespace Go.Proofs.YtboingcmlmfceabDoor
set_option linter.unusedVariables false
set_option maxRecDepth 20000
open Go.RowKit Go.HeapKit Go.PlainOps

/-- The child of a task. -/
def childP (t : Tk) (ib ic : Int) (n : Nat) : Tk :=
  { regs := argsV t.regs ic.toNat n, slots := List.replicate 8 0, node := ⟨t.number, t.spawned, ib, 0, pedV t.node.ped t.spawned, 0, 0⟩, number := 0, depth := t.depth + 1, spawned := 0, span := 0, due := 0 }
def blankT (d : Int) : Tk := { regs := List.replicate 16 0, slots := List.replicate 8 0, node := ⟨0, 0, 0, 0, 0, 0, 0⟩, number := 0, depth := d, spawned := 0, span := 0, due := 0 }
def partT (t : Tk) (ib : Int) (c k : Nat) : Tk :=
  { regs := argsV t.regs c k, slots := List.replicate 8 0, node := ⟨t.number, t.spawned, ib, 0, pedV t.node.ped t.spawned, 0, 0⟩, number := 0, depth := t.depth + 1, spawned := 0, span := 0, due := 0 }
theorem args_zero (l : List Int) (c : Nat) : argsV l c 0 = List.replicate 16 0 := by simp [argsV, List.range, List.range.loop, List.replicate]
theorem args_step (l : List Int) (c k : Nat) (hk : k < 16) : (argsV l c k).set k (l.getD (c + k) 0) = argsV l c (k + 1) := by
  apply List.ext_getElem?
  intro j
  by_cases hj : j < 16
  · by_cases hjk : k = j
    · subst hjk
      rw [List.getElem?_set_self (by simp [argsV]; omega)]
      simp [argsV, hj]
    · rw [List.getElem?_set_ne hjk]
      simp only [argsV, List.getElem?_map, List.getElem?_range hj, Option.map_some]
      by_cases h1 : j < k
      · simp [h1, show j < k + 1 by omega]
      · simp [h1, show ¬ j < k + 1 by omega]
  · rw [List.getElem?_eq_none (by simp [argsV]; omega), List.getElem?_eq_none (by simp [argsV]; omega)]
theorem setRow_heap {w : World} {g : Nat} {c c' : Array Value} {t : TypeId} {z : Nat × Nat} (h : w.heap[g]? = some (.cells c t z)) : (w.setRow g c').heap[g]? = some (.cells c' t z) := by
  simp [World.setRow, Array.getElem?_modify, h]
theorem setRow_keeps (w : World) (g : Nat) (c' : Array Value) : Keeps (· = g) w (w.setRow g c') :=
  ⟨rfl, rfl, rfl, by simp [World.setRow], fun k hk hn => by simp [World.setRow, Array.getElem?_modify, show ¬ g = k from fun e => hn e.symm]⟩
theorem Tryd.infoTk : (Tryd.prog.info? 64).map (·.size) = some 36 := by kernel_rfl
theorem blank_is (w : World) (g : Nat) (d : Int) (h : w.heap[g]? = some (.cells #[.int .i64 0, .int .i64 0, .int .i64 0, .int .i64 0, .int .i64 0, .int .i64 0, .int .i64 0, .int .i64 0, .int .i64 0, .int .i64 0, .int .i64 0, .int .i64 0, .int .i64 0, .int .i64 0, .int .i64 0, .int .i64 0, .int .i64 0, .int .i64 0, .int .i64 0, .int .i64 0, .int .i64 0, .int .i64 0, .int .i64 0, .int .i64 0, .int .i64 0, .int .i64 0, .int .i64 0, .int .i64 0, .int .i64 0, .int .i64 0, .int .i64 0, .int .i64 0, .int .i64 d, .int .i64 0, .int .i64 0, .int .i64 0] 64 (0, 0))) : IsTk w g (blankT d) := ⟨h, rfl, rfl⟩
theorem ints_one (l : List Int) : (ints l).toArray.all (·.oneCell') = true := by
  rw [Array.all_eq_true_iff_forall_mem]
  intro x hx
  simp [ints] at hx
  obtain ⟨y, _, rfl⟩ := hx
  rfl
theorem tk_len {t : Tk} (h : t.regs.length = 16) (h2 : t.slots.length = 8) : (ints t.l).toArray.size = 36 := by simp [ints, Tk.l, Tk.tl, h, h2]
set_option maxHeartbeats 2000000 in
theorem child_any (X : Nat) (t : Tk) (ik ia ib : Int) (ic : Int) (iK : Int) (n : Nat) (w : World) (ht : IsTk w X t) (hn : n ≤ 8) (hd : 0 ≤ t.depth ∧ t.depth ≤ 4096) (hsp : 0 ≤ t.spawned ∧ t.spawned ≤ 8388608) (hc : n = 0 ∨ (0 ≤ ic ∧ ic + n ≤ 16)) :
    Calls Tryd.prog 46 #[.pointer (some ⟨X, 0, none⟩), .agg #[.int .i64 ik, .int .i64 ia, .int .i64 ib, .int .i64 ic, .int .i64 iK], .int .i64 n] w fun e w' => e = .returned (tkV (childP t ib ic n)) ∧ IsTk w' X (spawnT t) ∧ Keeps (· = X) w w' := by
  go_enter Tryd.func46, Tryd.ntmps46
  go_upto_region 1 with fail
  obtain ⟨W, hW⟩ : ∃ W, W = (w.alloc (.cells #[.int .i64 ik, .int .i64 ia, .int .i64 ib, .int .i64 ic, .int .i64 iK] 54)).alloc (.cells (ints (blankT 0).l).toArray 64) := ⟨_, rfl⟩
  obtain ⟨B, hB⟩ : ∃ B, B = w.heap.size := ⟨_, rfl⟩
  have hk2 := keeps2 w (.cells #[.int .i64 ik, .int .i64 ia, .int .i64 ib, .int .i64 ic, .int .i64 iK] 54) (.cells (ints (blankT 0).l).toArray 64)
  obtain ⟨p1, p2⟩ := two_boxes w #[.int .i64 ik, .int .i64 ia, .int .i64 ib, .int .i64 ic, .int .i64 iK] (ints (blankT 0).l).toArray 54 64
  have hX : X < B := by rw [hB]; exact blk_lt ht.blk
  have s2 : W.heap.size = B + 2 := by rw [hW, hB]; simp
  rw [← hW] at hk2 p1 p2
  rw [← hB] at p1 p2
  have t2 := ht.kept hk2 (fun f => f)
  have c1 := t2.tail 8 rfl
  have hst := heap_alloc_new W (.cells (ints (blankT 0).l).toArray 64)
  rw [s2] at hst
  have HX : Hid (X < B ∧ W.heap.size = B + 2 ∧ B = w.heap.size ∧ IsTk W X t ∧ Keeps None w W ∧ W.heap[B]? = some (.cells #[.int .i64 ik, .int .i64 ia, .int .i64 ib, .int .i64 ic, .int .i64 iK] 54 (0, 0)) ∧ W.heap[B + 1]? = some (.cells (ints (blankT 0).l).toArray 64 (0, 0))) := ⟨hX, s2, hB, t2, hk2, p1, p2⟩
  change Code.wp _ _ _ _ ((w.alloc (.cells #[.int .i64 ik, .int .i64 ia, .int .i64 ib, .int .i64 ic, .int .i64 iK] 54)).alloc (.cells (ints (blankT 0).l).toArray 64))
  rw [← hW, ← hB]
  have HS2 : Hid _ := s2
  clear hX t2 hk2 p1 p2 ht hW hB s2
  go_cut [7] (fun s7 wx => s7 = .pointer (some ⟨B + 2, 0, none⟩) ∧ IsTk wx (B + 2) (blankT (t.depth + 1)) ∧ Keeps None W wx)
  case first =>
    iterate 23 go_step
    refine wp_store_row 64 (.tmp 7) (.tmp 14) rfl (B + 2) (ints (blankT (t.depth + 1)).l).toArray (by simp [Act.eval, HS2.out]) rfl 64 (ints (blankT 0).l).toArray hst Tryd.infoTk rfl (ints_one _) ?_
    go_wp2_with fail
    go_meet
    rw [HS2.out]
    exact ⟨rfl, ⟨setRow_heap hst, rfl, rfl⟩, (Keeps.alloc None W _).trans (setRow_keeps _ _ _) (fun i e hi => by have := HS2.out; omega)⟩
  case rest =>
    obtain ⟨rfl, hY, hkW⟩ := hcut
    have tX := HX.out.2.2.2.1.kept hkW (fun f => f)
    have bI := blk_kept HX.out.2.2.2.2.2.1 hkW (fun f => f)
    have bR := blk_kept HX.out.2.2.2.2.2.2 hkW (fun f => f)
    have hsW : W.heap.size + 1 ≤ wc.heap.size := by have := blk_lt hY.blk; have := HX.out.2.1; omega
    have HC : Hid (IsTk wc (B + 2) (blankT (t.depth + 1)) ∧ IsTk wc X t ∧ Keeps None w wc ∧ wc.heap[B]? = some (.cells #[.int .i64 ik, .int .i64 ia, .int .i64 ib, .int .i64 ic, .int .i64 iK] 54 (0, 0)) ∧ wc.heap[B + 1]? = some (.cells (ints (blankT 0).l).toArray 64 (0, 0)) ∧ B + 2 < wc.heap.size) := ⟨hY, tX, HX.out.2.2.2.2.1.trans hkW (fun _ f _ => f), bI, bR, by have := HX.out.2.1; omega⟩
    have d1 := tX.tail 7 rfl
    have d2 := tX.tail 9 rfl
    have d3 := tX.tail 4 rfl
    have d4 : wc.cell? ⟨B, 2, none⟩ = some (.int .i64 ib) := (blk_cell bI 2).trans rfl
    have f0 := hY.free 24
    have f1 := hY.free 25
    have f2 := hY.free 26
    have f3 := hY.free 27
    have f4 := hY.free 28
    have f5 := hY.free 29
    have f6 := hY.free 30
    have e0 := hY.tail 0 rfl
    have e1 := hY.tail 1 rfl
    have e2 := hY.tail 2 rfl
    have e3 := hY.tail 3 rfl
    have e4 := hY.tail 4 rfl
    have e5 := hY.tail 5 rfl
    have e6 := hY.tail 6 rfl
    have n1 : B + 2 ≠ X := by have := HX.out.1; omega
    have n2 : X ≠ B + 2 := n1.symm
    have n3 : ¬ B = B + 2 := by omega
    have hY2 : IsTk ((((((wc.setCell ⟨B + 2, 24, none⟩ (.int .i64 t.number)).setCell ⟨B + 2, 25, none⟩ (.int .i64 t.spawned)).setCell ⟨B + 2, 26, none⟩ (.int .i64 ib)).setCell ⟨B + 2, 27, none⟩ (.int .i64 0)).setCell ⟨B + 2, 28, none⟩ (.int .i64 (pedV t.node.ped t.spawned))).setCell ⟨B + 2, 29, none⟩ (.int .i64 0) |>.setCell ⟨B + 2, 30, none⟩ (.int .i64 0)) (B + 2) { blankT (t.depth + 1) with node := ⟨t.number, t.spawned, ib, 0, pedV t.node.ped t.spawned, 0, 0⟩ } := by
      have q0 := hY.putTail (t' := { blankT (t.depth + 1) with node := ⟨t.number, 0, 0, 0, 0, 0, 0⟩ }) (j := 0) (x := t.number) rfl rfl rfl
      have q1 := q0.putTail (t' := { blankT (t.depth + 1) with node := ⟨t.number, t.spawned, 0, 0, 0, 0, 0⟩ }) (j := 1) (x := t.spawned) rfl rfl rfl
      have q2 := q1.putTail (t' := { blankT (t.depth + 1) with node := ⟨t.number, t.spawned, ib, 0, 0, 0, 0⟩ }) (j := 2) (x := ib) rfl rfl rfl
      have q3 := q2.putTail (t' := { blankT (t.depth + 1) with node := ⟨t.number, t.spawned, ib, 0, 0, 0, 0⟩ }) (j := 3) (x := 0) rfl rfl rfl
      have q4 := q3.putTail (t' := { blankT (t.depth + 1) with node := ⟨t.number, t.spawned, ib, 0, pedV t.node.ped t.spawned, 0, 0⟩ }) (j := 4) (x := pedV t.node.ped t.spawned) rfl rfl rfl
      have q5 := q4.putTail (t' := { blankT (t.depth + 1) with node := ⟨t.number, t.spawned, ib, 0, pedV t.node.ped t.spawned, 0, 0⟩ }) (j := 5) (x := 0) rfl rfl rfl
      have q6 := q5.putTail (t' := { blankT (t.depth + 1) with node := ⟨t.number, t.spawned, ib, 0, pedV t.node.ped t.spawned, 0, 0⟩ }) (j := 6) (x := 0) rfl rfl rfl
      exact q6
    have hk7 : Keeps (· = B + 2) wc _ := (((((((Keeps.refl (· = B + 2) wc).andSet (x := ⟨B + 2, 24, none⟩) (.inl rfl) (.int .i64 t.number)).andSet (x := ⟨B + 2, 25, none⟩) (.inl rfl) (.int .i64 t.spawned)).andSet (x := ⟨B + 2, 26, none⟩) (.inl rfl) (.int .i64 ib)).andSet (x := ⟨B + 2, 27, none⟩) (.inl rfl) (.int .i64 0)).andSet (x := ⟨B + 2, 28, none⟩) (.inl rfl) (.int .i64 (pedV t.node.ped t.spawned))).andSet (x := ⟨B + 2, 29, none⟩) (.inl rfl) (.int .i64 0)).andSet (x := ⟨B + 2, 30, none⟩) (.inl rfl) (.int .i64 0)
    have HQ : Hid _ := And.intro (hY2.kept (Keeps.drew None _) (fun f => f)) hk7.andDrew
    have HPD : Hid (wrap64 (wrap64 (wrap64 (t.node.ped * 1000003) + t.spawned) + 1) = pedV t.node.ped t.spawned) := rfl
    have hped := fun wx => ped_any t.node.ped t.spawned wx
    rw [HPD.out] at hped
    have HPED : Hid _ := hped
    generalize hPV : pedV t.node.ped t.spawned = PV at *
    have HPV : Hid _ := hPV
    clear hPV hY tX bI bR hkW hY2 hk7 hped HPD c1 hst
    go_upto_region 2 with fail
    go_cut [7] (fun s7 wx => s7 = .pointer (some ⟨B + 2, 0, none⟩) ∧ IsTk wx (B + 2) { blankT (t.depth + 1) with node := ⟨t.number, t.spawned, ib, 0, PV, 0, 0⟩ } ∧ Keeps (· = B + 2) wc wx)
    case first =>
      go_region_held3 (fun w' => w'.cell? ⟨X, 31, none⟩ = some (.int .i64 t.number) ∧ w'.cell? ⟨X, 33, none⟩ = some (.int .i64 t.spawned) ∧ w'.cell? ⟨X, 28, none⟩ = some (.int .i64 t.node.ped) ∧ w'.cell? ⟨B, 2, none⟩ = some (.int .i64 ib)) (go_keep) ((go_at_call 29; refine (HPED.out _).mono ?_; rintro _ w4 ⟨rfl, hw4⟩; have hw5 := hw4.symm; subst hw5))
      all_goals (go_wp2_with fail; go_meet)
      all_goals exact ⟨rfl, HQ.out⟩
    case rest =>
      obtain ⟨rfl, hY, hkY⟩ := hcut
      have tX := HC.out.2.1.kept hkY n2
      have d5 := tX.tail 9 rfl
      have z5 := tX.free 33
      have tX2 := tX.putTail (t' := spawnT t) (j := 9) (x := t.spawned + 1) rfl rfl rfl
      have kS : Keeps (· = X) wc _ := Keeps.setCell (S := (· = X)) wc (a := ⟨X, 33, none⟩) rfl (.int .i64 (t.spawned + 1))
      have hY2 := hY.kept kS n1
      have bI := blk_kept (blk_kept HC.out.2.2.2.1 hkY n3) kS (by have := HX.out.1; omega)
      have bR := blk_kept (blk_kept HC.out.2.2.2.2.1 hkY (by omega)) kS (by have := HX.out.1; omega)
      have hkw : Keeps (· = X) w (wc.setCell ⟨X, 33, none⟩ (.int .i64 (t.spawned + 1))) := ((HC.out.2.2.1.mono (T := (· = X)) (fun _ f _ => f.elim)).trans hkY (fun i e hi => by have := HX.out.2.2.1; omega)).trans kS (fun _ e _ => e)
      have HD : Hid (IsTk (wc.setCell ⟨X, 33, none⟩ (.int .i64 (t.spawned + 1))) (B + 2) { blankT (t.depth + 1) with node := ⟨t.number, t.spawned, ib, 0, PV, 0, 0⟩ } ∧ IsTk (wc.setCell ⟨X, 33, none⟩ (.int .i64 (t.spawned + 1))) X (spawnT t) ∧ (wc.setCell ⟨X, 33, none⟩ (.int .i64 (t.spawned + 1))).heap[B]? = some (.cells #[.int .i64 ik, .int .i64 ia, .int .i64 ib, .int .i64 ic, .int .i64 iK] 54 (0, 0)) ∧ (wc.setCell ⟨X, 33, none⟩ (.int .i64 (t.spawned + 1))).heap[B + 1]? = some (.cells (ints (blankT 0).l).toArray 64 (0, 0)) ∧ Keeps (· = X) w (wc.setCell ⟨X, 33, none⟩ (.int .i64 (t.spawned + 1)))) := ⟨hY2, tX2, bI, bR, hkw⟩
      clear d1 d2 d3 d4 f0 f1 f2 f3 f4 f5 f6 e0 e1 e2 e3 e4 e5 e6 HC HQ hY hkY tX tX2 kS hY2 bI bR hkw
      go_upto_region 4 with fail
      obtain ⟨V, hV⟩ : ∃ V, V = wc.setCell ⟨X, 33, none⟩ (.int .i64 (t.spawned + 1)) := ⟨_, rfl⟩
      rw [← hV]
      rw [← hV] at HD
      clear hV d5 z5
      go_wp2_with fail
      go_loopw [45] (fun s45 wr => ∃ k : Nat, k ≤ n ∧ s45 = .int .i64 k ∧ IsTk wr (B + 2) { blankT (t.depth + 1) with regs := argsV t.regs ic.toNat k, node := ⟨t.number, t.spawned, ib, 0, PV, 0, 0⟩ } ∧ IsTk wr X (spawnT t) ∧ wr.heap[B]? = some (.cells #[.int .i64 ik, .int .i64 ia, .int .i64 ib, .int .i64 ic, .int .i64 iK] 54 (0, 0)) ∧ wr.heap[B + 1]? = some (.cells (ints (blankT 0).l).toArray 64 (0, 0)) ∧ Keeps (· = X) w wr) (fun i _ => n - (intOf i).toNat)
      case atStart =>
        refine ⟨0, Nat.zero_le _, rfl, ?_, HD.out.2⟩
        rw [args_zero]
        exact HD.out.1
      case round =>
        obtain ⟨k, hk, rfl, hY, tX, bI, bR, hkw⟩ := hrel
        by_cases hkn : k < n
        · have hic : 0 ≤ ic ∧ ic + n ≤ 16 := by omega
          obtain ⟨c, rfl⟩ := Int.eq_ofNat_of_zero_le hic.1
          have i1 : (k : Int) < (n : Int) := by omega
          have i2 : (k : Int) < 16 := by omega
          have i3 : (c : Int) + (k : Int) < 16 := by omega
          have i4 : (0 : Int) ≤ (c : Int) + (k : Int) := by omega
          have y1 : wr.cell? ⟨B, 3, none⟩ = some (.int .i64 (c : Int)) := (blk_cell bI 3).trans rfl
          have y2 := tX.reg (k := c + k) (by omega)
          have y3 := hY.reg (k := k) (by omega)
          have y4 := hY.free k
          have hY3 := hY.putReg (j := k) (x := t.regs.getD (c + k) 0) (by omega)
          have kY : Keeps (· = B + 2) wr _ := Keeps.setCell (S := (· = B + 2)) wr (a := ⟨B + 2, k, none⟩) rfl (.int .i64 (t.regs.getD (c + k) 0))
          have e7 : (spawnT t).regs.getD (c + k) 0 = t.regs.getD (c + k) 0 := rfl
          rw [e7] at y2
          have HR : Hid _ := And.intro (hY3.kept (Keeps.drew None _) (fun f => f)) (And.intro ((tX.kept kY n2).kept (Keeps.drew None _) (fun f => f)) (And.intro (blk_kept (blk_kept bI kY n3) (Keeps.drew None _) (fun f => f)) (And.intro (blk_kept (blk_kept bR kY (by omega)) (Keeps.drew None _) (fun f => f)) ((hkw.trans kY (fun i e hi => by have := HX.out.2.2.1; omega)).andDrew))))
          have HA : Hid ((argsV t.regs (c : Int).toNat k).set k (t.regs.getD (c + k) 0) = argsV t.regs (c : Int).toNat (k + 1)) := args_step t.regs c k (by omega)
          generalize t.regs.getD (c + k) 0 = x at *
          generalize (argsV t.regs (c : Int).toNat k).getD k 0 = x2 at y3
          clear hY tX bI bR hkw hY3 kY HD e7
          go_wp2_with fail
          go_region
          all_goals (go_wp2_with fail)
          all_goals
            refine ⟨⟨k + 1, by omega, by simp, ?_, HR.out.2⟩, by simp [intOf]; omega⟩
            rw [← HA.out]
            exact HR.out.1
        · have i1 : ¬ ((k : Int) < (n : Int)) := by omega
          obtain rfl : k = n := by omega
          have ex : { blankT (t.depth + 1) with regs := argsV t.regs ic.toNat k, node := ⟨t.number, t.spawned, ib, 0, PV, 0, 0⟩ } = childP t ib ic k := by
            unfold childP
            rw [HPV.out]
            rfl
          rw [ex] at hY
          have kR := setRow_keeps wr (B + 1) (ints (childP t ib ic k).l).toArray
          have hR := setRow_heap (c' := (ints (childP t ib ic k).l).toArray) bR
          have HE : Hid _ := And.intro hR (And.intro (tX.kept kR (by have := HX.out.1; omega)) (hkw.trans kR (fun i e hi => by have := HX.out.2.2.1; omega)))
          have hsz := tk_len hY.regs hY.slots
          have HYB : Hid _ := hY.blk
          clear ex hY tX hkw bI HD kR hR
          go_upto_region 9 with fail
          iterate 2 go_step
          refine wp_load_row 64 (.tmp 7) rfl (B + 2) rfl 64 (ints (childP t ib ic k).l).toArray (0, 0) _ HYB.out Tryd.underlying64 rfl (by rw [hsz]; exact Tryd.infoTk) ?_
          iterate 2 go_step
          refine wp_store_row 64 (.tmp 6) (.tmp 61) rfl (B + 1) (ints (childP t ib ic k).l).toArray rfl rfl 64 (ints (blankT 0).l).toArray bR (by rw [hsz]; exact Tryd.infoTk) (by rw [hsz]; rfl) (ints_one _) ?_
          go_wp2_with fail
          exact bodyPost_ret (results_one (q := 6) (ty := 64) rfl rfl (run_loadVar_row _ (B + 1) _ 64 _ _ _ HE.out.1 Tryd.underlying64 rfl (by rw [hsz]; exact Tryd.infoTk))) rfl ⟨rfl, HE.out.2⟩
end Go.Proofs.YtboingcmlmfceabDoor
