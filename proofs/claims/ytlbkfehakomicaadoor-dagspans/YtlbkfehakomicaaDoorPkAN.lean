import Derived.Test.YtlbkfehakomicaaDoorPkAM
import Derived.Test.YtlbkfehakomicaaDoorPkAB
import Derived.Test.YtlbkfehakomicaaDoorPkAC
import Derived.Deep.RegionHeld3
import Derived.Deep.RegionLaw
import Derived.Deep.Cut
/-! Root, of package tasks. -/
namespace Go.Proofs.YtlbkfehakomicaaDoor
set_option linter.unusedVariables false
set_option maxRecDepth 20000
open Go.RowKit Go.HeapKit Go.PlainOps

/-- Arguments that can be read. -/
structure SeenA (w : World) (a : Option Addr) (n : Nat) (zs : List Int) : Prop where
  len : n = zs.length
  most : n ≤ 9223372036854775807
  ok : ∀ x ∈ zs, okI x
  ex : 0 < n → ∃ b off, a = some ⟨b, off, none⟩ ∧ b < w.heap.size ∧ ∀ k x, zs[k]? = some x → w.cell? ⟨b, off + k, none⟩ = some (.int .i64 x)
theorem SeenA.more {w w' : World} {a : Option Addr} {n : Nat} {zs : List Int} (h : SeenA w a n zs) (hk : Keeps None w w') : SeenA w' a n zs := by
  refine ⟨h.len, h.most, h.ok, fun h0 => ?_⟩
  obtain ⟨b, off, rfl, hb, hc⟩ := h.ex h0
  exact ⟨b, off, rfl, Nat.lt_of_lt_of_le hb hk.size, fun k x hx => hk.cell (hc k x hx) (fun f => f)⟩
def rootK (args : List Int) : Tsk := ⟨0, 0, argsV args 0 args.length, 1, 0⟩
theorem args_all (zs : List Int) (h : zs.length ≤ 16) : argsV zs 0 zs.length = zs ++ List.replicate (16 - zs.length) 0 := by
  apply List.ext_getElem?
  intro j
  by_cases hj : j < 16
  · simp only [argsV, List.getElem?_map, List.getElem?_range hj, Option.map_some, Nat.zero_add]
    by_cases h1 : j < zs.length
    · rw [List.getElem?_append_left h1]
      simp [h1]
    · rw [List.getElem?_append_right (by omega), List.getElem?_replicate]
      simp [h1, show j - zs.length < 16 - zs.length by omega]
  · rw [List.getElem?_eq_none (by simp [argsV]; omega), List.getElem?_eq_none (by simp; omega)]
theorem root_row (zs : List Int) (h : zs.length ≤ 16) : ((ints (blankK 0 1).l).toArray.toList.take 2 ++ ints zs ++ (ints (blankK 0 1).l).toArray.toList.drop (2 + (ints zs).length)).toArray = (ints (rootK zs).l).toArray := by
  have e1 : (rootK zs).l = (blankK 0 1).l.take 2 ++ zs ++ (blankK 0 1).l.drop (2 + zs.length) := by
    have hr : (blankK 0 1).l.drop (2 + zs.length) = List.replicate (16 - zs.length) 0 ++ [1, 0] := by
      unfold Tsk.l
      rw [show 2 + zs.length = zs.length + 2 by omega]
      simp only [List.drop_succ_cons]
      rw [List.drop_append_of_le_length (by simp [blankK]; omega)]
      show (List.replicate 16 (0 : Int)).drop zs.length ++ _ = _
      rw [List.drop_replicate]
      rfl
    rw [hr]
    unfold Tsk.l
    show _ :: _ :: (argsV zs 0 zs.length ++ _) = _
    rw [args_all zs h, List.append_assoc]
    simp [blankK, rootK]
  rw [e1]
  simp [ints]
theorem Tryd.infoI64' : (Tryd.prog.info? 2).map (·.size) = some 1 := by kernel_rfl
set_option maxHeartbeats 2000000 in
theorem troot_any (a : Option Addr) (n c : Nat) (zs : List Int) (w : World) (hS : SeenA w a n zs) (hn : n ≤ 16) :
    Calls Tryd.prog 30 #[.slice a n c] w fun e w' => e = .returned (.agg (ints (rootK zs).l).toArray) ∧ Keeps None w w' := by
  have hln := hS.len
  have bR := heap_alloc_new w (.cells (ints (blankK 0 0).l).toArray 61)
  have hal := Keeps.alloc None w (.cells (ints (blankK 0 0).l).toArray 61)
  obtain ⟨W, hW⟩ : ∃ W, W = w.alloc (.cells (ints (blankK 0 0).l).toArray 61) := ⟨_, rfl⟩
  obtain ⟨B, hB⟩ : ∃ B, B = w.heap.size := ⟨_, rfl⟩
  have s1 : W.heap.size = B + 1 := by rw [hW, hB]; simp
  rw [← hW] at bR hal
  rw [← hB] at bR
  have hst := heap_alloc_new W (.cells (ints (blankK 0 0).l).toArray 61)
  rw [s1] at hst
  have HX : Hid (W.heap.size = B + 1 ∧ B = w.heap.size ∧ Keeps None w W ∧ W.heap[B]? = some (.cells (ints (blankK 0 0).l).toArray 61 (0, 0)) ∧ SeenA w a n zs) := ⟨s1, hB, hal, bR, hS⟩
  have HS2 : Hid _ := s1
  go_enter Tryd.func30, Tryd.ntmps30
  go_upto_region 1 with fail
  change Code.wp _ _ _ _ (w.alloc (.cells (ints (blankK 0 0).l).toArray 61))
  rw [← hW, ← hB]
  clear hS bR hal hW hB s1
  go_cut [3] (fun s3 wx => s3 = .pointer (some ⟨B + 1, 0, none⟩) ∧ wx.heap[B + 1]? = some (.cells (ints (blankK 0 1).l).toArray 61 (0, 0)) ∧ Keeps None W wx)
  case first =>
    iterate 8 go_step
    refine wp_store_row 61 (.tmp 3) (.tmp 4) rfl (B + 1) (ints (blankK 0 1).l).toArray (by simp [Act.eval, HS2.out]) rfl 61 (ints (blankK 0 0).l).toArray hst Tryd.infoTsk rfl (ints_one _) ?_
    go_wp2_with fail
    go_meet
    rw [HS2.out]
    exact ⟨rfl, setRow_heap hst, (Keeps.alloc None W _).trans (setRow_keeps _ _ _) (fun i e hi => by have := HS2.out; omega)⟩
  case rest =>
    obtain ⟨rfl, hY, hkW⟩ := hcut
    have bR := blk_kept HX.out.2.2.2.1 hkW (fun f => f)
    have hkw := HX.out.2.2.1.trans hkW (fun _ f _ => f)
    have hSc := HX.out.2.2.2.2.more hkw
    obtain ⟨wd, hcp, hYd, bRd, hkd⟩ : ∃ wd, (Builtin.copy_ #[25, 25] 3 #[.slice (some ⟨B + 1, 2, none⟩) 16 16, .slice a n c]).run Tryd.prog wc = .ok (goInt n) wd ∧ wd.heap[B + 1]? = some (.cells (ints (rootK zs).l).toArray 61 (0, 0)) ∧ wd.heap[B]? = some (.cells (ints (blankK 0 0).l).toArray 61 (0, 0)) ∧ Keeps None w wd := by
      by_cases h0 : n = 0
      · subst h0
        have hz : zs = [] := List.eq_nil_of_length_eq_zero hln.symm
        subst hz
        refine ⟨wc, ?_, hY, bR, hkw⟩
        exact run_copy_none wc 25 25 3 2 _ a 16 16 0 c Tryd.underlying25 Tryd.infoI64' (by simp)
      · obtain ⟨b, off, rfl, hb, hc⟩ := hSc.ex (by omega)
        have hr := run_copy_row (P := Tryd.prog) wc 25 25 3 2 (B + 1) 2 16 16 ⟨b, off, none⟩ n c (ints (blankK 0 1).l).toArray 61 (ints zs) Tryd.underlying25 Tryd.infoI64' hY (by simp only [ints, List.length_map]; rw [← hln]; exact (Nat.min_eq_left hn).symm)
          (fun j v hv => by
            simp only [ints, List.getElem?_map, Option.map_eq_some_iff] at hv
            obtain ⟨x, hx, rfl⟩ := hv
            rw [show (⟨b, off, none⟩ : Addr).add j = ⟨b, off + j, none⟩ by unfold Addr.add; split <;> simp_all]
            exact hc j x hx)
          (by have : (ints (blankK 0 1).l).toArray.size = 20 := rfl; rw [this]; simp [ints]; omega)
          (fun v hv => by
            simp only [ints, List.mem_map] at hv
            obtain ⟨x, _, rfl⟩ := hv
            rfl)
        rw [root_row zs (by omega)] at hr
        have el : (ints zs).length = n := by simp [ints, hln]
        rw [el] at hr
        exact ⟨_, hr, setRow_heap hY, blk_kept bR (setRow_keeps _ _ _) (by omega), hkw.trans (setRow_keeps _ _ _) (fun i e hi => by have := HX.out.2.1; omega)⟩
    have HD : Hid _ := And.intro bRd hkd
    have hsz : (ints (rootK zs).l).toArray.size = 20 := tsk_len (args_len _ _ _)
    have HYD : Hid _ := hYd
    clear hY hkW bR hkw hSc hst hYd bRd hkd hln
    go_upto_region 3 with (at_builtin; refine wpList_copy_run rfl (.tmp 6) (.tmp 7) 25 25 rfl rfl rfl hcp ?_)
    iterate 2 go_step
    refine wp_load_row 61 (.tmp 3) rfl (B + 1) rfl 61 (ints (rootK zs).l).toArray (0, 0) _ HYD.out Tryd.underlying61 rfl (by rw [hsz]; exact Tryd.infoTsk) ?_
    iterate 2 go_step
    refine wp_store_row 61 (.tmp 2) (.tmp 9) rfl B (ints (rootK zs).l).toArray rfl rfl 61 (ints (blankK 0 0).l).toArray HD.out.1 (by rw [hsz]; exact Tryd.infoTsk) (by rw [hsz]; rfl) (ints_one _) ?_
    go_wp2_with fail
    exact bodyPost_ret (results_one (q := 2) (ty := 61) rfl rfl (run_loadVar_row _ B _ 61 _ _ _ (setRow_heap HD.out.1) Tryd.underlying61 rfl (by rw [hsz]; exact Tryd.infoTsk))) rfl ⟨rfl, HD.out.2.trans (setRow_keeps _ _ _) (fun i e hi => by have := HX.out.2.1; omega)⟩
end Go.Proofs.YtlbkfehakomicaaDoor
/-! A slice of numbers of 64 bits among the arguments. -/
namespace Go.Proofs.YtlbkfehakomicaaDoor
set_option linter.unusedVariables false
set_option maxRecDepth 20000
open Go.ChangeShapes Go.WideShapes Go.ChangeAt Go.RowKit Go.HeapKit Go.Deep

section
variable {H : Type} {enc : TypeId × Value → H} {w : World} {base : Nat} {held : Bool}
theorem open_words {r : Reach} {b0 : Nat} {v : Value} {d : DataW H} {ps : List MemPlace} (hval : Value.okWide Tryd.prog w r b0 25 v) (hd : DataW.Trod enc Tryd.prog w base (fun _ => true) held 25 v d ps) :
    ∃ a n c l, v = .slice a n c ∧ SeenA w a n l := by
  obtain ⟨a, n, c, rfl⟩ := okWide_slice Tryd.underlying25 hval
  obtain ⟨fuel, h⟩ := hd
  rcases open_slice Tryd.underlying25 h with ⟨hcs, _⟩ | ⟨a', len, cap, m, n', D, Pl, hcs, _, hl, hm, hmm, _, hall⟩
  · simp [Value.cells] at hcs
    obtain ⟨rfl, rfl, rfl⟩ := hcs
    exact ⟨none, 0, 0, [], rfl, ⟨rfl, by omega, fun x hx => by simp at hx, fun h => by omega⟩⟩
  · simp [Value.cells] at hcs
    obtain ⟨rfl, rfl, rfl⟩ := hcs
    simp at hmm
    subst hmm
    have hc : Tryd.prog.cellsOf 2 = 1 := by kernel_rfl
    rw [hc] at hall
    have hex : ∀ i, i < n → ∃ x : Int, okI x ∧ w.cell? (a'.add i) = some (.int .i64 x) := by
      intro i hi
      obtain ⟨cs', h1, h2⟩ := hall i (by omega)
      obtain ⟨_, hlen, hcell⟩ := World.cells?_some h1
      obtain ⟨x, rfl, _, hwf⟩ := DataW.trod_int Tryd.underlying2 h2
      have := hcell 0 (by omega)
      refine ⟨x, okI_of_wf hwf, ?_⟩
      rw [Nat.mul_one] at this
      rw [show (a'.add i).add 0 = a'.add i by unfold Addr.add; split <;> simp_all] at this
      exact this
    obtain ⟨l, hll, hp⟩ := choose_list _ n hex
    refine ⟨some a', n, m, l, rfl, ⟨hll.symm, by unfold maxLen at hm; omega, fun x hx => by obtain ⟨k, hk, rfl⟩ := List.mem_iff_getElem.1 hx; exact (hp k _ (List.getElem?_eq_getElem hk)).1, fun h0 => ?_⟩⟩
    obtain ⟨b, off, sp⟩ := a'
    have hsp : sp = none := by
      obtain ⟨x, _, hx⟩ := hex 0 h0
      have := spot_none hx
      unfold Addr.add at this
      split at this <;> simp_all
    subst hsp
    refine ⟨b, off, rfl, ?_, fun k x hx => ?_⟩
    · obtain ⟨x, _, hx⟩ := hex 0 h0
      rw [add_at] at hx
      cases hb : w.heap[b]? with
      | none => simp [World.cell?, hb] at hx
      | some o => exact (Array.getElem?_eq_some_iff.1 hb).1
    · have := (hp k x hx).2
      rwa [add_at] at this
end
end Go.Proofs.YtlbkfehakomicaaDoor
/-! Programs that are written out, in memory. -/
namespace Go.Proofs.YtlbkfehakomicaaDoor
set_option linter.unusedVariables false
set_option maxRecDepth 20000
open Go.RowKit Go.HeapKit

def codeC (l : List Ins) : List Value := l.flatMap insCells
theorem codeC_at (l : List Ins) (k : Nat) (i : Ins) (h : l[k]? = some i) (j : Nat) (v : Value) (hj : (insCells i)[j]? = some v) : (codeC l)[k * 5 + j]? = some v := by
  have hj5 : j < 5 := (List.getElem?_eq_some_iff.1 hj).1
  induction l generalizing k with
  | nil => simp at h
  | cons z l ih =>
    have e : codeC (z :: l) = insCells z ++ codeC l := rfl
    have hz : (insCells z).length = 5 := rfl
    rw [e]
    cases k with
    | zero =>
      simp at h
      subst h
      rw [List.getElem?_append_left (by omega), Nat.zero_mul, Nat.zero_add]
      exact hj
    | succ k =>
      rw [List.getElem?_append_right (by omega), show (k + 1) * 5 + j - (insCells z).length = k * 5 + j by omega]
      exact ih k (by simpa using h)
theorem seen_code {w : World} {g : Nat} {l : List Ins} {t : TypeId} {z : Nat × Nat} (hb : w.heap[g]? = some (.cells (codeC l).toArray t z)) : SeenI w (some ⟨g, 0, none⟩) l.length l := by
  refine ⟨rfl, fun _ => ⟨g, 0, rfl, blk_lt hb, fun k i hi => ?_⟩⟩
  have hc : ∀ j v, (insCells i)[j]? = some v → w.cell? ⟨g, 0 + k * 5 + j, none⟩ = some v := fun j v hv => by
    rw [blk_cell hb, Nat.zero_add]
    simpa using codeC_at l k i hi j v hv
  exact ⟨hc 0 _ rfl, hc 1 _ rfl, hc 2 _ rfl, hc 3 _ rfl, hc 4 _ rfl⟩
theorem seen_one {w : World} {g h : Nat} {f : Fn} {t t2 : TypeId} {z z2 : Nat × Nat} {cc : Nat} (hb : w.heap[g]? = some (.cells (codeC f.code).toArray t z)) (hc : w.heap[h]? = some (.cells #[.int .i64 f.params, .int .i64 f.regs, .int .i64 f.slots, .slice (some ⟨g, 0, none⟩) f.code.length cc] t2 z2)) : SeenF w (some ⟨h, 0, none⟩) 1 [f] := by
  refine ⟨rfl, fun _ => ⟨_, 0, rfl, blk_lt hc, fun k f' hf => ?_⟩⟩
  cases k with
  | succ k => simp at hf
  | zero =>
    simp at hf
    subst hf
    exact ⟨_, cc, ⟨(cell_of_heap hc 0).trans rfl, (cell_of_heap hc 1).trans rfl, (cell_of_heap hc 2).trans rfl, (cell_of_heap hc 3).trans rfl, seen_code hb⟩⟩
end Go.Proofs.YtlbkfehakomicaaDoor
/-! pay, wait, leave. -/
namespace Go.Proofs.YtlbkfehakomicaaDoor
set_option linter.unusedVariables false
set_option maxRecDepth 20000
open Go.RowKit Go.HeapKit Go.PlainOps

theorem pay_out (R X : Nat) (fv nv : Value) (L : Bool) (s : Rn) (w : World) (h : IsRn w R fv L s nv) (h0 : s.fuel = 0) :
    Calls Tryd.prog 25 #[.pointer (some ⟨R, 0, none⟩), .pointer (some ⟨X, 0, none⟩)] w fun e w' => e = .panicked (thrownE 62) ∧ w' = w := by
  have c1 : w.cell? ⟨R, 1, none⟩ = some (.int .i64 0) := by rw [blk_cell h.blk]; simp [h0]
  clear h h0
  go_enter Tryd.func25, Tryd.ntmps25
  go_wp2_with (go_at_call 23; refine (sgiveUp_any _ _).mono ?_; rintro _ w' ⟨rfl, rfl⟩)
  exact ⟨rfl, rfl, rfl⟩
theorem pay_any (R X : Nat) (fv nv : Value) (L : Bool) (s : Rn) (at_ : Int) (t : Tk) (w : World) (h : IsRn w R fv L s nv) (ht : IsTk w X at_ t) (h0 : s.fuel ≠ 0) (hs : s.fuel ≤ 8388608) (b1 : 0 ≤ t.node.work ∧ t.node.work ≤ 8388608) (b2 : 0 ≤ t.span ∧ t.span ≤ 8388608) :
    Calls Tryd.prog 25 #[.pointer (some ⟨R, 0, none⟩), .pointer (some ⟨X, 0, none⟩)] w fun e w' => e = .returned (.tuple #[]) ∧ IsRn w' R fv L (payS s) nv ∧ IsTk w' X at_ (payT t) ∧ Keeps (fun k => k = R ∨ k = X) w w' := by
  obtain ⟨m, hm⟩ : ∃ m, s.fuel = m + 1 := ⟨s.fuel - 1, by omega⟩
  obtain ⟨F, hF⟩ : ∃ F : Int, F = (m : Int) + 1 := ⟨_, rfl⟩
  have c1 : w.cell? ⟨R, 1, none⟩ = some (.int .i64 F) := by rw [blk_cell h.blk]; simp [hm, hF]
  have c2 := ht.tail 3 rfl
  have c3 := ht.tail 9 rfl
  have z1 := blk_free h.blk 1
  have z2 := ht.free 31
  have z3 := ht.free 37
  have n1 := h.ne ht
  have n2 := n1.symm
  have f1 : (F == 0) = false := by simp; omega
  have f2 : F ≤ 8388609 := by omega
  have f3 : 1 ≤ F := by omega
  have k1 : Keeps (· = R) w (w.setCell ⟨R, 1, none⟩ (.int .i64 (F - 1))) := Keeps.setCell (S := (· = R)) w (a := ⟨R, 1, none⟩) rfl _
  have r1 : IsRn (w.setCell ⟨R, 1, none⟩ (.int .i64 (F - 1))) R fv L (payS s) nv := h.put rfl (by simp [payS, hm, hF])
  have t1 := ht.kept k1 n2
  have t2 := t1.putTail (nf' := t.node.func) (np' := t.node.ped) (t' := { t with node := { t.node with work := t.node.work + 1 } }) (j := 3) (x := t.node.work + 1) rfl rfl rfl
  have t3 := t2.putTail (nf' := t.node.func) (np' := t.node.ped) (t' := payT t) (j := 9) (x := t.span + 1) rfl rfl rfl
  have k2 : Keeps (· = X) (w.setCell ⟨R, 1, none⟩ (.int .i64 (F - 1))) _ := ((Keeps.refl (· = X) _).andSet (x := ⟨X, 31, none⟩) (.inl rfl) (.int .i64 (t.node.work + 1))).andSet (x := ⟨X, 37, none⟩) (.inl rfl) (.int .i64 (t.span + 1))
  have HH : Hid _ := And.intro (r1.kept k2 (fun k hk e => by subst e; rcases hk with hk | hk; exact n2 hk; exact r1.nX t1 hk)) (And.intro t3 ((k1.mono (fun _ e _ => Or.inl e)).trans k2 (fun _ e _ => Or.inr e)))
  clear h ht k1 r1 t1 t2 t3 k2 hF hm h0 hs
  obtain ⟨W, hW⟩ : ∃ W, W = t.node.work := ⟨_, rfl⟩
  obtain ⟨P, hP⟩ : ∃ P, P = t.span := ⟨_, rfl⟩
  go_enter Tryd.func25, Tryd.ntmps25
  go_wp2_with fail
  go_end0
  exact ⟨rfl, HH.out⟩
end Go.Proofs.YtlbkfehakomicaaDoor
/-! wait, leave, enter. -/
namespace Go.Proofs.YtlbkfehakomicaaDoor
set_option linter.unusedVariables false
set_option maxRecDepth 20000
open Go.RowKit Go.HeapKit Go.PlainOps

theorem wrap_small {x : Int} (h : -9223372036854775808 ≤ x ∧ x ≤ 9223372036854775807) : IntKind.i64.wrap x = x := by
  simp [IntKind.wrap, IntKind.bits, IntKind.signed]; omega
theorem wait_any (X : Nat) (at_ : Int) (t : Tk) (w : World) (ht : IsTk w X at_ t) (b1 : 0 ≤ t.due ∧ t.due ≤ 8388608) (b2 : 0 ≤ t.span ∧ t.span ≤ 8388608) :
    Calls Tryd.prog 27 #[.pointer (some ⟨X, 0, none⟩)] w fun e w' => e = .returned (.tuple #[]) ∧ IsTk w' X at_ (waitT t) ∧ Keeps (· = X) w w' := by
  have c1 := ht.tail 9 rfl
  have c2 := ht.tail 10 rfl
  have z1 := ht.free 37
  have t1 := ht.putTail (nf' := t.node.func) (np' := t.node.ped) (t' := waitT t) (j := 9) (x := imax t.span (t.due + 1)) rfl rfl rfl
  have k1 : Keeps (· = X) w _ := (Keeps.refl (· = X) w).andSet (x := ⟨X, 37, none⟩) (.inl rfl) (.int .i64 (imax t.span (t.due + 1)))
  have HH : Hid _ := And.intro (t1.kept (Keeps.drew None _) (fun f => f)) k1.andDrew
  clear ht t1 k1
  go_enter Tryd.func27, Tryd.ntmps27
  go_wp2_with fail
  go_region
  all_goals go_end0
  all_goals exact ⟨rfl, HH.out⟩
theorem leave_off (R X : Nat) (fv nv : Value) (s : Rn) (at_ : Int) (t : Tk) (w : World) (h : IsRn w R fv false s nv) :
    Calls Tryd.prog 28 #[.pointer (some ⟨R, 0, none⟩), .pointer (some ⟨X, 0, none⟩)] w fun e w' => e = .returned (.tuple #[]) ∧ w' = w := by
  have c1 : w.cell? ⟨R, 4, none⟩ = some (.bool false) := (blk_cell h.blk 4).trans rfl
  clear h
  go_enter Tryd.func28, Tryd.ntmps28
  go_wp2_with fail
  go_end0
  exact ⟨rfl, rfl⟩
theorem leave_on (R X : Nat) (fv nv : Value) (s : Rn) (at_ : Int) (t : Tk) (w : World) (h : IsRn w R fv true s nv) (ht : IsTk w X at_ t) (hn : 0 ≤ t.number ∧ t.number < s.nodes.length) :
    Calls Tryd.prog 28 #[.pointer (some ⟨R, 0, none⟩), .pointer (some ⟨X, 0, none⟩)] w fun e w' => e = .returned (.tuple #[]) ∧ IsRn w' R fv true (leaveS true s t) nv ∧ IsTk w' X at_ t ∧ Keeps (RFoot R nv) w w' := by
  have hL := ndVals_length s.nodes
  have nX := h.nX ht
  have nR := h.nR
  rcases h.row.2 with ⟨_, h0⟩ | ⟨g, cap, cur, rfl, hb, hg, hnc, hcm, hcs, htk⟩
  · omega
  · obtain ⟨k, hk⟩ := Int.eq_ofNat_of_zero_le hn.1
    have hk2 : k < s.nodes.length := by omega
    have c1 : w.cell? ⟨R, 4, none⟩ = some (.bool true) := (blk_cell h.blk 4).trans rfl
    have c2 : w.cell? ⟨R, 5, none⟩ = some (.slice (some ⟨g, 0, none⟩) s.nodes.length cap) := (blk_cell h.blk 5).trans rfl
    have d0 := ht.tail 0 rfl
    have d1 := ht.tail 1 rfl
    have d2 := ht.tail 2 rfl
    have d3 := ht.tail 3 rfl
    have d4 := ht.tail 4 rfl
    have d5 := ht.tail 5 rfl
    have d6 := ht.tail 6 rfl
    have d7 : w.cell? ⟨X, 35, none⟩ = some (.int .i64 (k : Int)) := by rw [← hk]; exact ht.tail 7 rfl
    have z : ∀ j, w.frozen? ⟨g, j, none⟩ = false := fun j => blk_free hg j
    have z0 := z (k * 7)
    have z1 := z (k * 7 + 1)
    have z2 := z (k * 7 + 2)
    have z3 := z (k * 7 + 3)
    have z4 := z (k * 7 + 4)
    have z5 := z (k * 7 + 5)
    have z6 := z (k * 7 + 6)
    have hsz : s.nodes.length * 7 ≤ cur.size := by rw [hcs]; exact Nat.mul_le_mul_right _ hnc
    have at_ : ∀ j, j < 7 → ∃ v, w.cell? ⟨g, k * 7 + j, none⟩ = some v := fun j hj => ⟨cur[k * 7 + j]'(by omega), by rw [blk_cell hg]; simp⟩
    obtain ⟨v0, y0⟩ := at_ 0 (by omega)
    obtain ⟨v1, y1⟩ := at_ 1 (by omega)
    obtain ⟨v2, y2⟩ := at_ 2 (by omega)
    obtain ⟨v3, y3⟩ := at_ 3 (by omega)
    obtain ⟨v4, y4⟩ := at_ 4 (by omega)
    obtain ⟨v5, y5⟩ := at_ 5 (by omega)
    obtain ⟨v6, y6⟩ := at_ 6 (by omega)
    simp only [Nat.add_zero] at y0
    have i1 : (k : Int) < (s.nodes.length : Int) := by omega
    obtain ⟨w2, hw2⟩ : ∃ w2, w2 = ((((((w.setCell ⟨g, k * 7, none⟩ (.int .i64 t.node.parent)).setCell ⟨g, k * 7 + 1, none⟩ (.int .i64 t.node.idx)).setCell ⟨g, k * 7 + 2, none⟩ (.int .i64 t.node.func)).setCell ⟨g, k * 7 + 3, none⟩ (.int .i64 t.node.work)).setCell ⟨g, k * 7 + 4, none⟩ (.int .i64 t.node.ped)).setCell ⟨g, k * 7 + 5, none⟩ (.int .i64 t.node.arg)).setCell ⟨g, k * 7 + 6, none⟩ (.int .i64 t.node.v) := ⟨_, rfl⟩
    have hk1 : Keeps (· = g) w w2 := by
      rw [hw2]
      exact (((((((Keeps.refl (· = g) w).andSet (x := ⟨g, k * 7, none⟩) (.inl rfl) _).andSet (x := ⟨g, k * 7 + 1, none⟩) (.inl rfl) _).andSet (x := ⟨g, k * 7 + 2, none⟩) (.inl rfl) _).andSet (x := ⟨g, k * 7 + 3, none⟩) (.inl rfl) _).andSet (x := ⟨g, k * 7 + 4, none⟩) (.inl rfl) _).andSet (x := ⟨g, k * 7 + 5, none⟩) (.inl rfl) _).andSet (x := ⟨g, k * 7 + 6, none⟩) (.inl rfl) _
    have ngX : g ≠ X := fun e => nX (by rw [← e]; rfl)
    have ngR : g ≠ R := fun e => nR (by rw [← e]; rfl)
    have hrn : IsRn w2 R fv true (leaveS true s t) (.slice (some ⟨g, 0, none⟩) s.nodes.length cap) := by
      refine ⟨blk_kept h.blk hk1 (fun e => ngR e.symm), ?_⟩
      have hlen : (leaveS true s t).nodes.length = s.nodes.length := by simp [leaveS]
      rw [hlen]
      refine ⟨by rw [ndVals_length, hlen], .inr ⟨g, cap, _, rfl, hb, by rw [hw2]; exact blk_set (blk_set (blk_set (blk_set (blk_set (blk_set (blk_set hg _) _) _) _) _) _) _, hnc, hcm, by simpa using hcs, ?_⟩⟩
      have e : (leaveS true s t).nodes = s.nodes.set k t.node := by simp [leaveS, hk]
      rw [e, ← ndVals_set s.nodes k t.node hk2]
      simp only [Array.toList_setIfInBounds]
      have hall : ∀ (l : List Value) (q : Nat) (v : Value), (l.set q v).take (s.nodes.length * 7) = (l.take (s.nodes.length * 7)).set q v := fun l q v => by rw [List.take_set]
      rw [hall, hall, hall, hall, hall, hall, hall, htk]
    have HH : Hid _ := And.intro (hrn.kept (Keeps.drew None _) (fun _ _ f => f)) (And.intro ((ht.kept hk1 (fun e => ngX e.symm)).kept (Keeps.drew None _) (fun f => f)) (hk1.andDrew.mono (fun i e _ => (Or.inr (by subst e; rfl) : RFoot R (.slice (some ⟨g, 0, none⟩) s.nodes.length cap) i))))
    rw [hw2] at HH
    clear h ht hrn hk1 hw2 at_ z
    go_enter Tryd.func28, Tryd.ntmps28
    go_wp2_with fail
    go_region
    all_goals go_end0
    all_goals exact ⟨rfl, HH.out⟩
end Go.Proofs.YtlbkfehakomicaaDoor
/-! enter. -/
namespace Go.Proofs.YtlbkfehakomicaaDoor
set_option linter.unusedVariables false
set_option maxRecDepth 20000
set_option linter.unusedSimpArgs false
open Go.RowKit Go.HeapKit Go.PlainOps

theorem enter_deep (R X : Nat) (t : Tk) (w : World) (ht : IsTkN w X 0 0 0 t) (hd : 4096 < t.depth) :
    Calls Tryd.prog 24 #[.pointer (some ⟨R, 0, none⟩), .pointer (some ⟨X, 0, none⟩)] w fun e w' => e = .panicked (thrownE 63) ∧ w' = w := by
  have c1 := ht.tail 8 rfl
  clear ht
  go_enter Tryd.func24, Tryd.ntmps24
  go_wp2_with (go_at_call 23; refine (sgiveUp_any _ _).mono ?_; rintro _ w' ⟨rfl, rfl⟩)
  exact ⟨rfl, rfl, rfl⟩
/-- What 'enter' does ahead of the node's own cells. -/
def entW (w : World) (R X : Nat) (T0 M : Int) : World := (((w.setCell ⟨X, 35, none⟩ (.int .i64 T0)).setCell ⟨R, 2, none⟩ (.int .i64 (T0 + 1))).setCell ⟨R, 3, none⟩ (.int .i64 M)).drew
theorem entered {R X : Nat} {fv nv : Value} {L : Bool} {s : Rn} {t : Tk} {w : World} (h : IsRn w R fv L s nv) (ht : IsTkN w X 0 0 0 t) :
    IsRn (entW w R X s.tasks (imax s.depth t.depth)) R fv L { s with tasks := s.tasks + 1, depth := imax s.depth t.depth } nv ∧
    IsTkN (entW w R X s.tasks (imax s.depth t.depth)) X 0 0 0 { t with number := s.tasks } ∧
    Keeps (fun k => k = R ∨ k = X) w (entW w R X s.tasks (imax s.depth t.depth)) := by
  have n1 := h.ne ht
  have ka : Keeps (· = X) w (w.setCell ⟨X, 35, none⟩ (.int .i64 s.tasks)) := Keeps.setCell (S := (· = X)) w (a := ⟨X, 35, none⟩) rfl _
  have ta := ht.putTail (nf' := 0) (np' := 0) (t' := { t with number := s.tasks }) (j := 7) (x := s.tasks) rfl rfl rfl
  have ra := h.kept ka (fun k hk e => by subst e; rcases hk with hk | hk; exact n1 hk.symm; exact h.nX ht hk)
  have rb := ra.put (k := 2) (x := (s.tasks : Int) + 1) (s' := { s with tasks := s.tasks + 1 }) rfl (by simp)
  have kb : Keeps (· = R) _ _ := Keeps.setCell (S := (· = R)) (w.setCell ⟨X, 35, none⟩ (.int .i64 s.tasks)) (a := ⟨R, 2, none⟩) rfl (.int .i64 ((s.tasks : Int) + 1))
  have tb := ta.kept kb n1.symm
  have rc := rb.put (k := 3) (x := imax s.depth t.depth) (s' := { s with tasks := s.tasks + 1, depth := imax s.depth t.depth }) rfl (by simp)
  have kc : Keeps (· = R) _ _ := Keeps.setCell (S := (· = R)) ((w.setCell ⟨X, 35, none⟩ (.int .i64 s.tasks)).setCell ⟨R, 2, none⟩ (.int .i64 ((s.tasks : Int) + 1))) (a := ⟨R, 3, none⟩) rfl (.int .i64 (imax s.depth t.depth))
  have tc := tb.kept kc n1.symm
  have kd := Keeps.drew None (((w.setCell ⟨X, 35, none⟩ (.int .i64 s.tasks)).setCell ⟨R, 2, none⟩ (.int .i64 ((s.tasks : Int) + 1))).setCell ⟨R, 3, none⟩ (.int .i64 (imax s.depth t.depth)))
  refine ⟨rc.kept kd (fun _ _ f => f), tc.kept kd (fun f => f), ?_⟩
  exact (((ka.mono (fun _ e _ => Or.inr e)).trans kb (fun _ e _ => Or.inl e)).trans kc (fun _ e _ => Or.inl e)).trans kd (fun _ f _ => f.elim)
/-- The node's own cells. -/
def entN (W : World) (X : Nat) (F P A0 : Int) : World := (((W.setCell ⟨X, 30, none⟩ (.int .i64 F)).setCell ⟨X, 32, none⟩ (.int .i64 P)).setCell ⟨X, 33, none⟩ (.int .i64 A0)).drew
theorem entered2 {R X : Nat} {fv nv : Value} {L : Bool} {s s' : Rn} {t : Tk} {W : World} (h : IsRn W R fv L s nv) (ht : IsTkN W X 0 0 0 { t with number := s'.tasks }) :
    IsRn (entN W X t.node.func t.node.ped (t.regs.getD 0 0)) R fv L s nv ∧ IsTk (entN W X t.node.func t.node.ped (t.regs.getD 0 0)) X 0 (enterT s' t) ∧ Keeps (· = X) W (entN W X t.node.func t.node.ped (t.regs.getD 0 0)) := by
  have n1 := h.ne ht
  have ta := ht.putTail (nf' := t.node.func) (np' := 0) (t' := { t with number := s'.tasks }) (j := 2) (x := t.node.func) rfl rfl rfl
  have tb := ta.putTail (nf' := t.node.func) (np' := t.node.ped) (t' := { t with number := s'.tasks }) (j := 4) (x := t.node.ped) rfl rfl rfl
  have tc := tb.putTail (nf' := t.node.func) (np' := t.node.ped) (t' := enterT s' t) (j := 5) (x := t.regs.getD 0 0) rfl rfl rfl
  have kk : Keeps (· = X) W _ := (((Keeps.refl (· = X) W).andSet (x := ⟨X, 30, none⟩) (.inl rfl) (.int .i64 t.node.func)).andSet (x := ⟨X, 32, none⟩) (.inl rfl) (.int .i64 t.node.ped)).andSet (x := ⟨X, 33, none⟩) (.inl rfl) (.int .i64 (t.regs.getD 0 0))
  exact ⟨h.kept kk.andDrew (fun k hk e => by subst e; rcases hk with hk | hk; exact n1 hk.symm; exact h.nX ht hk), tc.kept (Keeps.drew None _) (fun f => f), kk.andDrew⟩
set_option maxHeartbeats 1000000 in
theorem enter_off (R X : Nat) (fv nv : Value) (s : Rn) (t : Tk) (w : World) (h : IsRn w R fv false s nv) (ht : IsTkN w X 0 0 0 t) (hd : ¬ 4096 < t.depth) (b1 : s.tasks ≤ 8388608) :
    Calls Tryd.prog 24 #[.pointer (some ⟨R, 0, none⟩), .pointer (some ⟨X, 0, none⟩)] w fun e w' => e = .returned (.tuple #[]) ∧ IsRn w' R fv false (enterS false s t) nv ∧ IsTk w' X 0 (enterT s t) ∧ Keeps (fun k => k = R ∨ k = X) w w' := by
  have c1 := ht.tail 8 rfl
  have c2 : w.cell? ⟨R, 2, none⟩ = some (.int .i64 s.tasks) := (blk_cell h.blk 2).trans rfl
  have c3 : w.cell? ⟨R, 3, none⟩ = some (.int .i64 s.depth) := (blk_cell h.blk 3).trans rfl
  have c4 : w.cell? ⟨R, 4, none⟩ = some (.bool false) := (blk_cell h.blk 4).trans rfl
  have c7 := ht.tail 7 rfl
  have z1 := ht.free 35
  have z3 := blk_free h.blk 2
  have z4 := blk_free h.blk 3
  have n1 := h.ne ht
  have n2 := n1.symm
  obtain ⟨h2, t2, k2⟩ := entered h ht
  obtain ⟨h3, t3, k3⟩ := entered2 (s' := s) h2 t2
  have HH : Hid (IsRn (entN (entW w R X s.tasks (imax s.depth t.depth)) X t.node.func t.node.ped (t.regs.getD 0 0)) R fv false (enterS false s t) nv ∧ IsTk (entN (entW w R X s.tasks (imax s.depth t.depth)) X t.node.func t.node.ped (t.regs.getD 0 0)) X 0 (enterT s t) ∧ Keeps (fun k => k = R ∨ k = X) w (entN (entW w R X s.tasks (imax s.depth t.depth)) X t.node.func t.node.ped (t.regs.getD 0 0))) := ⟨h3, t3, k2.trans k3 (fun _ e _ => .inr e)⟩
  have d1 := t2.tsk.func
  have d2 := t2.tsk.ped
  have d3 := t2.reg (k := 0) (by omega)
  have d4 : (entW w R X s.tasks (imax s.depth t.depth)).cell? ⟨R, 4, none⟩ = some (.bool false) := (blk_cell h2.blk 4).trans rfl
  have e1 := t2.tail 2 rfl
  have e2 := t2.tail 4 rfl
  have e3 := t2.tail 5 rfl
  have f1 := t2.free 30
  have f2 := t2.free 32
  have f3 := t2.free 33
  clear h ht h2 t2 k2 h3 t3 k3
  obtain ⟨T0, hT0⟩ : ∃ T0 : Int, T0 = s.tasks := ⟨_, rfl⟩
  rw [← hT0] at c2 HH d1 d2 d3 d4 e1 e2 e3 f1 f2 f3
  have b2 : 0 ≤ T0 ∧ T0 ≤ 8388608 := by omega
  obtain ⟨W, hW⟩ : ∃ W, W = entW w R X T0 (imax s.depth t.depth) := ⟨_, rfl⟩
  rw [← hW] at HH d1 d2 d3 d4 e1 e2 e3 f1 f2 f3
  unfold entN at HH
  clear hT0
  have dd1 : W.cell? ⟨X, 0, none⟩ = some (.int .i64 t.node.func) := d1
  have dd2 : W.cell? ⟨X, 18, none⟩ = some (.int .i64 t.node.ped) := d2
  have dd3 : W.cell? ⟨X, 2, none⟩ = some (.int .i64 (t.regs.getD 0 0)) := d3
  clear d1 d2 d3
  unfold entW at hW
  have HW : Hid _ := hW
  clear hW
  generalize t.regs.getD 0 0 = A0 at *
  go_enter Tryd.func24, Tryd.ntmps24
  by_cases hlt : s.depth < t.depth
  · have e : imax s.depth t.depth = t.depth := if_pos hlt
    rw [e] at HW
    clear e
    go_wp2_with fail
    go_region
    all_goals go_upto_region 5 with fail
    all_goals rw [← HW.out]
    all_goals clear c1 c2 c3 c4 c7 z1 z3 z4 HW
    all_goals go_region
    all_goals go_wp2_with fail
    all_goals go_end0
    all_goals exact ⟨rfl, HH.out⟩
  · have e : imax s.depth t.depth = s.depth := if_neg hlt
    rw [e] at HW
    clear e
    go_wp2_with fail
    go_region
    all_goals go_upto_region 5 with fail
    all_goals rw [← HW.out]
    all_goals clear c1 c2 c3 c4 c7 z1 z3 z4 HW
    all_goals go_region
    all_goals go_wp2_with fail
    all_goals go_end0
    all_goals exact ⟨rfl, HH.out⟩
end Go.Proofs.YtlbkfehakomicaaDoor
