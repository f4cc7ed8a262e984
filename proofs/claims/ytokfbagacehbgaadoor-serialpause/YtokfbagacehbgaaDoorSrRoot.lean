import Derived.Test.YtokfbagacehbgaaDoorSrTask
/-! Root, of package tasks. -/
namespace Go.Proofs.YtokfbagacehbgaaDoor
set_option linter.unusedVariables false
set_option maxRecDepth 20000
open Go.RowKit Go.HeapKit Go.PlainOps

/-- Arguments that can be read. -/
structure SeenA (w : World) (a : Option Addr) (n : Nat) (zs : List Int) : Prop where
  len : n = zs.length
  most : n ≤ 9223372036854775807
  ok : ∀ x ∈ zs, okI x
  ex : 0 < n → ∃ b off, a = some ⟨b, off, none⟩ ∧ b < w.heap.size ∧ ∀ k x, zs[k]? = some x → w.cell? ⟨b, off + k, none⟩ = some (.int .i64 x)
theorem SeenA.more {w w' : World} {a : Option Addr} {n : Nat} {zs : List Int} (h : SeenA w a n zs) (hk : Keeps None w w') : SeenA w' a n zs := by
  refine ⟨h.len, h.most, h.ok, fun h0 => ?_⟩
  obtain ⟨b, off, rfl, hb, hc⟩ := h.ex h0
  exact ⟨b, off, rfl, Nat.lt_of_lt_of_le hb hk.size, fun k x hx => hk.cell (hc k x hx) (fun f => f)⟩
def rootK (args : List Int) : Tsk := ⟨0, 0, argsV args 0 args.length, 1, 0⟩
theorem args_all (zs : List Int) (h : zs.length ≤ 16) : argsV zs 0 zs.length = zs ++ List.replicate (16 - zs.length) 0 := by
  apply List.ext_getElem?
  intro j
  by_cases hj : j < 16
  · simp only [argsV, List.getElem?_map, List.getElem?_range hj, Option.map_some, Nat.zero_add]
    by_cases h1 : j < zs.length
    · rw [List.getElem?_append_left h1]
      simp [h1]
    · rw [List.getElem?_append_right (by omega), List.getElem?_replicate]
      simp [h1, show j - zs.length < 16 - zs.length by omega]
  · rw [List.getElem?_eq_none (by simp [argsV]; omega), List.getElem?_eq_none (by simp; omega)]
theorem root_row (zs : List Int) (h : zs.length ≤ 16) : ((ints (blankK 0 1).l).toArray.toList.take 2 ++ ints zs ++ (ints (blankK 0 1).l).toArray.toList.drop (2 + (ints zs).length)).toArray = (ints (rootK zs).l).toArray := by
  have e1 : (rootK zs).l = (blankK 0 1).l.take 2 ++ zs ++ (blankK 0 1).l.drop (2 + zs.length) := by
    have hr : (blankK 0 1).l.drop (2 + zs.length) = List.replicate (16 - zs.length) 0 ++ [1, 0] := by
      unfold Tsk.l
      rw [show 2 + zs.length = zs.length + 2 by omega]
      simp only [List.drop_succ_cons]
      rw [List.drop_append_of_le_length (by simp [blankK]; omega)]
      show (List.replicate 16 (0 : Int)).drop zs.length ++ _ = _
      rw [List.drop_replicate]
      rfl
    rw [hr]
    unfold Tsk.l
    show _ :: _ :: (argsV zs 0 zs.length ++ _) = _
    rw [args_all zs h, List.append_assoc]
    simp [blankK, rootK]
  rw [e1]
  simp [ints]
theorem Tryd.infoI64' : (Tryd.prog.info? 2).map (·.size) = some 1 := by kernel_rfl
set_option maxHeartbeats 2000000 in
theorem troot_any (a : Option Addr) (n c : Nat) (zs : List Int) (w : World) (hS : SeenA w a n zs) (hn : n ≤ 16) :
    Calls Tryd.prog 21 #[.slice a n c] w fun e w' => e = .returned (.agg (ints (rootK zs).l).toArray) ∧ Keeps None w w' := by
  have hln := hS.len
  have bR := heap_alloc_new w (.cells (ints (blankK 0 0).l).toArray 48)
  have hal := Keeps.alloc None w (.cells (ints (blankK 0 0).l).toArray 48)
  obtain ⟨W, hW⟩ : ∃ W, W = w.alloc (.cells (ints (blankK 0 0).l).toArray 48) := ⟨_, rfl⟩
  obtain ⟨B, hB⟩ : ∃ B, B = w.heap.size := ⟨_, rfl⟩
  have s1 : W.heap.size = B + 1 := by rw [hW, hB]; simp
  rw [← hW] at bR hal
  rw [← hB] at bR
  have hst := heap_alloc_new W (.cells (ints (blankK 0 0).l).toArray 48)
  rw [s1] at hst
  have HX : Hid (W.heap.size = B + 1 ∧ B = w.heap.size ∧ Keeps None w W ∧ W.heap[B]? = some (.cells (ints (blankK 0 0).l).toArray 48 (0, 0)) ∧ SeenA w a n zs) := ⟨s1, hB, hal, bR, hS⟩
  have HS2 : Hid _ := s1
  go_enter Tryd.func21, Tryd.ntmps21
  go_upto_region 1 with fail
  change Code.wp _ _ _ _ (w.alloc (.cells (ints (blankK 0 0).l).toArray 48))
  rw [← hW, ← hB]
  clear hS bR hal hW hB s1
  go_cut [3] (fun s3 wx => s3 = .pointer (some ⟨B + 1, 0, none⟩) ∧ wx.heap[B + 1]? = some (.cells (ints (blankK 0 1).l).toArray 48 (0, 0)) ∧ Keeps None W wx)
  case first =>
    iterate 8 go_step
    refine wp_store_row 48 (.tmp 3) (.tmp 4) rfl (B + 1) (ints (blankK 0 1).l).toArray (by simp [Act.eval, HS2.out]) rfl 48 (ints (blankK 0 0).l).toArray hst Tryd.infoTsk rfl (ints_one _) ?_
    go_wp2_with fail
    go_meet
    rw [HS2.out]
    exact ⟨rfl, setRow_heap hst, (Keeps.alloc None W _).trans (setRow_keeps _ _ _) (fun i e hi => by have := HS2.out; omega)⟩
  case rest =>
    obtain ⟨rfl, hY, hkW⟩ := hcut
    have bR := blk_kept HX.out.2.2.2.1 hkW (fun f => f)
    have hkw := HX.out.2.2.1.trans hkW (fun _ f _ => f)
    have hSc := HX.out.2.2.2.2.more hkw
    obtain ⟨wd, hcp, hYd, bRd, hkd⟩ : ∃ wd, (Builtin.copy_ #[25, 25] 3 #[.slice (some ⟨B + 1, 2, none⟩) 16 16, .slice a n c]).run Tryd.prog wc = .ok (goInt n) wd ∧ wd.heap[B + 1]? = some (.cells (ints (rootK zs).l).toArray 48 (0, 0)) ∧ wd.heap[B]? = some (.cells (ints (blankK 0 0).l).toArray 48 (0, 0)) ∧ Keeps None w wd := by
      by_cases h0 : n = 0
      · subst h0
        have hz : zs = [] := List.eq_nil_of_length_eq_zero hln.symm
        subst hz
        refine ⟨wc, ?_, hY, bR, hkw⟩
        exact run_copy_none wc 25 25 3 2 _ a 16 16 0 c Tryd.underlying25 Tryd.infoI64' (by simp)
      · obtain ⟨b, off, rfl, hb, hc⟩ := hSc.ex (by omega)
        have hr := run_copy_row (P := Tryd.prog) wc 25 25 3 2 (B + 1) 2 16 16 ⟨b, off, none⟩ n c (ints (blankK 0 1).l).toArray 48 (ints zs) Tryd.underlying25 Tryd.infoI64' hY (by simp only [ints, List.length_map]; rw [← hln]; exact (Nat.min_eq_left hn).symm)
          (fun j v hv => by
            simp only [ints, List.getElem?_map, Option.map_eq_some_iff] at hv
            obtain ⟨x, hx, rfl⟩ := hv
            rw [show (⟨b, off, none⟩ : Addr).add j = ⟨b, off + j, none⟩ by unfold Addr.add; split <;> simp_all]
            exact hc j x hx)
          (by have : (ints (blankK 0 1).l).toArray.size = 20 := rfl; rw [this]; simp [ints]; omega)
          (fun v hv => by
            simp only [ints, List.mem_map] at hv
            obtain ⟨x, _, rfl⟩ := hv
            rfl)
        rw [root_row zs (by omega)] at hr
        have el : (ints zs).length = n := by simp [ints, hln]
        rw [el] at hr
        exact ⟨_, hr, setRow_heap hY, blk_kept bR (setRow_keeps _ _ _) (by omega), hkw.trans (setRow_keeps _ _ _) (fun i e hi => by have := HX.out.2.1; omega)⟩
    have HD : Hid _ := And.intro bRd hkd
    have hsz : (ints (rootK zs).l).toArray.size = 20 := tsk_len (args_len _ _ _)
    have HYD : Hid _ := hYd
    clear hY hkW bR hkw hSc hst hYd bRd hkd hln
    go_upto_region 3 with (at_builtin; refine wpList_copy_run rfl (.tmp 6) (.tmp 7) 25 25 rfl rfl rfl hcp ?_)
    iterate 2 go_step
    refine wp_load_row 48 (.tmp 3) rfl (B + 1) rfl 48 (ints (rootK zs).l).toArray (0, 0) _ HYD.out Tryd.underlying48 rfl (by rw [hsz]; exact Tryd.infoTsk) ?_
    iterate 2 go_step
    refine wp_store_row 48 (.tmp 2) (.tmp 9) rfl B (ints (rootK zs).l).toArray rfl rfl 48 (ints (blankK 0 0).l).toArray HD.out.1 (by rw [hsz]; exact Tryd.infoTsk) (by rw [hsz]; rfl) (ints_one _) ?_
    go_wp2_with fail
    exact bodyPost_ret (results_one (q := 2) (ty := 48) rfl rfl (run_loadVar_row _ B _ 48 _ _ _ (setRow_heap HD.out.1) Tryd.underlying48 rfl (by rw [hsz]; exact Tryd.infoTsk))) rfl ⟨rfl, HD.out.2.trans (setRow_keeps _ _ _) (fun i e hi => by have := HX.out.2.1; omega)⟩
end Go.Proofs.YtokfbagacehbgaaDoor
