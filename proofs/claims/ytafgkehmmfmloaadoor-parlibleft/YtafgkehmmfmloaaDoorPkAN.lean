import Derived.Test.YtafgkehmmfmloaaDoorPkAM
import Derived.Test.YtafgkehmmfmloaaDoorPkAB
import Derived.Test.YtafgkehmmfmloaaDoorPkAL
import Derived.Test.YtafgkehmmfmloaaDoorPkAC
import Derived.Test.YtafgkehmmfmloaaDoorPkAA
/-! Root, of package tasks. -/
namespace Go.Proofs.YtafgkehmmfmloaaDoor
set_option linter.unusedVariables false
set_option maxRecDepth 20000
open Go.RowKit Go.HeapKit Go.PlainOps

/-- Arguments that can be read. -/
structure SeenA (w : World) (a : Option Addr) (n : Nat) (zs : List Int) : Prop where
  len : n = zs.length
  most : n ≤ 9223372036854775807
  ok : ∀ x ∈ zs, okI x
  ex : 0 < n → ∃ b off, a = some ⟨b, off, none⟩ ∧ b < w.heap.size ∧ ∀ k x, zs[k]? = some x → w.cell? ⟨b, off + k, none⟩ = some (.int .i64 x)
theorem SeenA.more {w w' : World} {a : Option Addr} {n : Nat} {zs : List Int} (h : SeenA w a n zs) (hk : Keeps None w w') : SeenA w' a n zs := by
  refine ⟨h.len, h.most, h.ok, fun h0 => ?_⟩
  obtain ⟨b, off, rfl, hb, hc⟩ := h.ex h0
  exact ⟨b, off, rfl, Nat.lt_of_lt_of_le hb hk.size, fun k x hx => hk.cell (hc k x hx) (fun f => f)⟩
def rootK (args : List Int) : Tsk := ⟨0, 0, argsV args 0 args.length, 1, 0⟩
theorem args_all (zs : List Int) (h : zs.length ≤ 16) : argsV zs 0 zs.length = zs ++ List.replicate (16 - zs.length) 0 := by
  apply List.ext_getElem?
  intro j
  by_cases hj : j < 16
  · simp only [argsV, List.getElem?_map, List.getElem?_range hj, Option.map_some, Nat.zero_add]
    by_cases h1 : j < zs.length
    · rw [List.getElem?_append_left h1]
      simp [h1]
    · rw [List.getElem?_append_right (by omega), List.getElem?_replicate]
      simp [h1, show j - zs.length < 16 - zs.length by omega]
  · rw [List.getElem?_eq_none (by simp [argsV]; omega), List.getElem?_eq_none (by simp; omega)]
theorem root_row (zs : List Int) (h : zs.length ≤ 16) : ((ints (blankK 0 1).l).toArray.toList.take 2 ++ ints zs ++ (ints (blankK 0 1).l).toArray.toList.drop (2 + (ints zs).length)).toArray = (ints (rootK zs).l).toArray := by
  have e1 : (rootK zs).l = (blankK 0 1).l.take 2 ++ zs ++ (blankK 0 1).l.drop (2 + zs.length) := by
    have hr : (blankK 0 1).l.drop (2 + zs.length) = List.replicate (16 - zs.length) 0 ++ [1, 0] := by
      unfold Tsk.l
      rw [show 2 + zs.length = zs.length + 2 by omega]
      simp only [List.drop_succ_cons]
      rw [List.drop_append_of_le_length (by simp [blankK]; omega)]
      show (List.replicate 16 (0 : Int)).drop zs.length ++ _ = _
      rw [List.drop_replicate]
      rfl
    rw [hr]
    unfold Tsk.l
    show _ :: _ :: (argsV zs 0 zs.length ++ _) = _
    rw [args_all zs h, List.append_assoc]
    simp [blankK, rootK]
  rw [e1]
  simp [ints]
theorem Tryd.infoI64' : (Tryd.prog.info? 2).map (·.size) = some 1 := by kernel_rfl
set_option maxHeartbeats 2000000 in
theorem troot_any (a : Option Addr) (n c : Nat) (zs : List Int) (w : World) (hS : SeenA w a n zs) (hn : n ≤ 16) :
    Calls Tryd.prog 52 #[.slice a n c] w fun e w' => e = .returned (.agg (ints (rootK zs).l).toArray) ∧ Keeps None w w' := by
  have hln := hS.len
  have bR := heap_alloc_new w (.cells (ints (blankK 0 0).l).toArray 65)
  have hal := Keeps.alloc None w (.cells (ints (blankK 0 0).l).toArray 65)
  obtain ⟨W, hW⟩ : ∃ W, W = w.alloc (.cells (ints (blankK 0 0).l).toArray 65) := ⟨_, rfl⟩
  obtain ⟨B, hB⟩ : ∃ B, B = w.heap.size := ⟨_, rfl⟩
  have s1 : W.heap.size = B + 1 := by rw [hW, hB]; simp
  rw [← hW] at bR hal
  rw [← hB] at bR
  have hst := heap_alloc_new W (.cells (ints (blankK 0 0).l).toArray 65)
  rw [s1] at hst
  have HX : Hid (W.heap.size = B + 1 ∧ B = w.heap.size ∧ Keeps None w W ∧ W.heap[B]? = some (.cells (ints (blankK 0 0).l).toArray 65 (0, 0)) ∧ SeenA w a n zs) := ⟨s1, hB, hal, bR, hS⟩
  have HS2 : Hid _ := s1
  go_enter Tryd.func52, Tryd.ntmps52
  go_upto_region 1 with fail
  change Code.wp _ _ _ _ (w.alloc (.cells (ints (blankK 0 0).l).toArray 65))
  rw [← hW, ← hB]
  clear hS bR hal hW hB s1
  go_cut [3] (fun s3 wx => s3 = .pointer (some ⟨B + 1, 0, none⟩) ∧ wx.heap[B + 1]? = some (.cells (ints (blankK 0 1).l).toArray 65 (0, 0)) ∧ Keeps None W wx)
  case first =>
    iterate 8 go_step
    refine wp_store_row 65 (.tmp 3) (.tmp 4) rfl (B + 1) (ints (blankK 0 1).l).toArray (by simp [Act.eval, HS2.out]) rfl 65 (ints (blankK 0 0).l).toArray hst Tryd.infoTsk rfl (ints_one _) ?_
    go_wp2_with fail
    go_meet
    rw [HS2.out]
    exact ⟨rfl, setRow_heap hst, (Keeps.alloc None W _).trans (setRow_keeps _ _ _) (fun i e hi => by have := HS2.out; omega)⟩
  case rest =>
    obtain ⟨rfl, hY, hkW⟩ := hcut
    have bR := blk_kept HX.out.2.2.2.1 hkW (fun f => f)
    have hkw := HX.out.2.2.1.trans hkW (fun _ f _ => f)
    have hSc := HX.out.2.2.2.2.more hkw
    obtain ⟨wd, hcp, hYd, bRd, hkd⟩ : ∃ wd, (Builtin.copy_ #[32, 32] 3 #[.slice (some ⟨B + 1, 2, none⟩) 16 16, .slice a n c]).run Tryd.prog wc = .ok (goInt n) wd ∧ wd.heap[B + 1]? = some (.cells (ints (rootK zs).l).toArray 65 (0, 0)) ∧ wd.heap[B]? = some (.cells (ints (blankK 0 0).l).toArray 65 (0, 0)) ∧ Keeps None w wd := by
      by_cases h0 : n = 0
      · subst h0
        have hz : zs = [] := List.eq_nil_of_length_eq_zero hln.symm
        subst hz
        refine ⟨wc, ?_, hY, bR, hkw⟩
        exact run_copy_none wc 32 32 3 2 _ a 16 16 0 c Tryd.underlying32 Tryd.infoI64' (by simp)
      · obtain ⟨b, off, rfl, hb, hc⟩ := hSc.ex (by omega)
        have hr := run_copy_row (P := Tryd.prog) wc 32 32 3 2 (B + 1) 2 16 16 ⟨b, off, none⟩ n c (ints (blankK 0 1).l).toArray 65 (ints zs) Tryd.underlying32 Tryd.infoI64' hY (by simp only [ints, List.length_map]; rw [← hln]; exact (Nat.min_eq_left hn).symm)
          (fun j v hv => by
            simp only [ints, List.getElem?_map, Option.map_eq_some_iff] at hv
            obtain ⟨x, hx, rfl⟩ := hv
            rw [show (⟨b, off, none⟩ : Addr).add j = ⟨b, off + j, none⟩ by unfold Addr.add; split <;> simp_all]
            exact hc j x hx)
          (by have : (ints (blankK 0 1).l).toArray.size = 20 := rfl; rw [this]; simp [ints]; omega)
          (fun v hv => by
            simp only [ints, List.mem_map] at hv
            obtain ⟨x, _, rfl⟩ := hv
            rfl)
        rw [root_row zs (by omega)] at hr
        have el : (ints zs).length = n := by simp [ints, hln]
        rw [el] at hr
        exact ⟨_, hr, setRow_heap hY, blk_kept bR (setRow_keeps _ _ _) (by omega), hkw.trans (setRow_keeps _ _ _) (fun i e hi => by have := HX.out.2.1; omega)⟩
    have HD : Hid _ := And.intro bRd hkd
    have hsz : (ints (rootK zs).l).toArray.size = 20 := tsk_len (args_len _ _ _)
    have HYD : Hid _ := hYd
    clear hY hkW bR hkw hSc hst hYd bRd hkd hln
    go_upto_region 3 with (at_builtin; refine wpList_copy_run rfl (.tmp 6) (.tmp 7) 32 32 rfl rfl rfl hcp ?_)
    iterate 2 go_step
    refine wp_load_row 65 (.tmp 3) rfl (B + 1) rfl 65 (ints (rootK zs).l).toArray (0, 0) _ HYD.out Tryd.underlying65 rfl (by rw [hsz]; exact Tryd.infoTsk) ?_
    iterate 2 go_step
    refine wp_store_row 65 (.tmp 2) (.tmp 9) rfl B (ints (rootK zs).l).toArray rfl rfl 65 (ints (blankK 0 0).l).toArray HD.out.1 (by rw [hsz]; exact Tryd.infoTsk) (by rw [hsz]; rfl) (ints_one _) ?_
    go_wp2_with fail
    exact bodyPost_ret (results_one (q := 2) (ty := 65) rfl rfl (run_loadVar_row _ B _ 65 _ _ _ (setRow_heap HD.out.1) Tryd.underlying65 rfl (by rw [hsz]; exact Tryd.infoTsk))) rfl ⟨rfl, HD.out.2.trans (setRow_keeps _ _ _) (fun i e hi => by have := HX.out.2.1; omega)⟩
end Go.Proofs.YtafgkehmmfmloaaDoor
/-! A slice of numbers of 64 bits among the arguments. -/
namespace Go.Proofs.YtafgkehmmfmloaaDoor
set_option linter.unusedVariables false
set_option maxRecDepth 20000
open Go.ChangeShapes Go.WideShapes Go.ChangeAt Go.RowKit Go.HeapKit Go.Deep

section
variable {H : Type} {enc : TypeId × Value → H} {w : World} {base : Nat} {held : Bool}
theorem open_words {r : Reach} {b0 : Nat} {v : Value} {d : DataW H} {ps : List MemPlace} (hval : Value.okWide Tryd.prog w r b0 32 v) (hd : DataW.Trod enc Tryd.prog w base (fun _ => true) held 32 v d ps) :
    ∃ a n c l, v = .slice a n c ∧ SeenA w a n l := by
  obtain ⟨a, n, c, rfl⟩ := okWide_slice Tryd.underlying32 hval
  obtain ⟨fuel, h⟩ := hd
  rcases open_slice Tryd.underlying32 h with ⟨hcs, _⟩ | ⟨a', len, cap, m, n', D, Pl, hcs, _, hl, hm, hmm, _, hall⟩
  · simp [Value.cells] at hcs
    obtain ⟨rfl, rfl, rfl⟩ := hcs
    exact ⟨none, 0, 0, [], rfl, ⟨rfl, by omega, fun x hx => by simp at hx, fun h => by omega⟩⟩
  · simp [Value.cells] at hcs
    obtain ⟨rfl, rfl, rfl⟩ := hcs
    simp at hmm
    subst hmm
    have hc : Tryd.prog.cellsOf 2 = 1 := by kernel_rfl
    rw [hc] at hall
    have hex : ∀ i, i < n → ∃ x : Int, okI x ∧ w.cell? (a'.add i) = some (.int .i64 x) := by
      intro i hi
      obtain ⟨cs', h1, h2⟩ := hall i (by omega)
      obtain ⟨_, hlen, hcell⟩ := World.cells?_some h1
      obtain ⟨x, rfl, _, hwf⟩ := DataW.trod_int Tryd.underlying2 h2
      have := hcell 0 (by omega)
      refine ⟨x, okI_of_wf hwf, ?_⟩
      rw [Nat.mul_one] at this
      rw [show (a'.add i).add 0 = a'.add i by unfold Addr.add; split <;> simp_all] at this
      exact this
    obtain ⟨l, hll, hp⟩ := choose_list _ n hex
    refine ⟨some a', n, m, l, rfl, ⟨hll.symm, by unfold maxLen at hm; omega, fun x hx => by obtain ⟨k, hk, rfl⟩ := List.mem_iff_getElem.1 hx; exact (hp k _ (List.getElem?_eq_getElem hk)).1, fun h0 => ?_⟩⟩
    obtain ⟨b, off, sp⟩ := a'
    have hsp : sp = none := by
      obtain ⟨x, _, hx⟩ := hex 0 h0
      have := spot_none hx
      unfold Addr.add at this
      split at this <;> simp_all
    subst hsp
    refine ⟨b, off, rfl, ?_, fun k x hx => ?_⟩
    · obtain ⟨x, _, hx⟩ := hex 0 h0
      rw [add_at] at hx
      cases hb : w.heap[b]? with
      | none => simp [World.cell?, hb] at hx
      | some o => exact (Array.getElem?_eq_some_iff.1 hb).1
    · have := (hp k x hx).2
      rwa [add_at] at this
end
end Go.Proofs.YtafgkehmmfmloaaDoor
/-! Programs that are written out, in memory. -/
namespace Go.Proofs.YtafgkehmmfmloaaDoor
set_option linter.unusedVariables false
set_option maxRecDepth 20000
open Go.RowKit Go.HeapKit

def codeC (l : List Ins) : List Value := l.flatMap insCells
theorem codeC_at (l : List Ins) (k : Nat) (i : Ins) (h : l[k]? = some i) (j : Nat) (v : Value) (hj : (insCells i)[j]? = some v) : (codeC l)[k * 5 + j]? = some v := by
  have hj5 : j < 5 := (List.getElem?_eq_some_iff.1 hj).1
  induction l generalizing k with
  | nil => simp at h
  | cons z l ih =>
    have e : codeC (z :: l) = insCells z ++ codeC l := rfl
    have hz : (insCells z).length = 5 := rfl
    rw [e]
    cases k with
    | zero =>
      simp at h
      subst h
      rw [List.getElem?_append_left (by omega), Nat.zero_mul, Nat.zero_add]
      exact hj
    | succ k =>
      rw [List.getElem?_append_right (by omega), show (k + 1) * 5 + j - (insCells z).length = k * 5 + j by omega]
      exact ih k (by simpa using h)
theorem seen_code {w : World} {g : Nat} {l : List Ins} {t : TypeId} {z : Nat × Nat} (hb : w.heap[g]? = some (.cells (codeC l).toArray t z)) : SeenI w (some ⟨g, 0, none⟩) l.length l := by
  refine ⟨rfl, fun _ => ⟨g, 0, rfl, blk_lt hb, fun k i hi => ?_⟩⟩
  have hc : ∀ j v, (insCells i)[j]? = some v → w.cell? ⟨g, 0 + k * 5 + j, none⟩ = some v := fun j v hv => by
    rw [blk_cell hb, Nat.zero_add]
    simpa using codeC_at l k i hi j v hv
  exact ⟨hc 0 _ rfl, hc 1 _ rfl, hc 2 _ rfl, hc 3 _ rfl, hc 4 _ rfl⟩
theorem seen_one {w : World} {g h : Nat} {f : Fn} {t t2 : TypeId} {z z2 : Nat × Nat} {cc : Nat} (hb : w.heap[g]? = some (.cells (codeC f.code).toArray t z)) (hc : w.heap[h]? = some (.cells #[.int .i64 f.params, .int .i64 f.regs, .int .i64 f.slots, .slice (some ⟨g, 0, none⟩) f.code.length cc] t2 z2)) : SeenF w (some ⟨h, 0, none⟩) 1 [f] := by
  refine ⟨rfl, fun _ => ⟨_, 0, rfl, blk_lt hc, fun k f' hf => ?_⟩⟩
  cases k with
  | succ k => simp at hf
  | zero =>
    simp at hf
    subst hf
    exact ⟨_, cc, ⟨(cell_of_heap hc 0).trans rfl, (cell_of_heap hc 1).trans rfl, (cell_of_heap hc 2).trans rfl, (cell_of_heap hc 3).trans rfl, seen_code hb⟩⟩
end Go.Proofs.YtafgkehmmfmloaaDoor
/-! Package asm: instructions, functions, programs. -/
namespace Go.Proofs.YtafgkehmmfmloaaDoor
set_option linter.unusedVariables false
set_option maxRecDepth 20000
open Go.RowKit Go.HeapKit

/-- A function whose one result lies in a block that is new. -/
theorem ins_ret {Q : Ending → World → Prop} {a : Act} {w : World} {fn : Func} {us : Array Value} (q : Tmp) (hfn : fn.results = #[.cell q 48]) (ha : a.tmps.getD q undef = .pointer (some ⟨w.heap.size, 0, none⟩)) (hd : a.defers = [])
    (hz : us.size = 5) (hQ : Q (.returned (.agg us)) (w.alloc (.cells us 48))) : bodyPost Tryd.prog fn Q .ret a (w.alloc (.cells us 48)) :=
  bodyPost_ret (results_one (q := q) (ty := 48) hfn ha (run_loadVar_row _ w.heap.size 48 48 _ _ _ (heap_alloc_new w _) Tryd.underlying48 rfl (by rw [hz]; kernel_rfl))) hd hQ
theorem fn_ret {Q : Ending → World → Prop} {a : Act} {w : World} {fn : Func} {us : Array Value} (q : Tmp) (hfn : fn.results = #[.cell q 29]) (ha : a.tmps.getD q undef = .pointer (some ⟨w.heap.size, 0, none⟩)) (hd : a.defers = [])
    (hz : us.size = 4) (hQ : Q (.returned (.agg us)) (w.alloc (.cells us 29))) : bodyPost Tryd.prog fn Q .ret a (w.alloc (.cells us 29)) :=
  bodyPost_ret (results_one (q := q) (ty := 29) hfn ha (run_loadVar_row _ w.heap.size 29 29 _ _ _ (heap_alloc_new w _) Tryd.underlying29 rfl (by rw [hz]; kernel_rfl))) hd hQ
theorem prog_ret {Q : Ending → World → Prop} {a : Act} {w : World} {fn : Func} {us : Array Value} (q : Tmp) (hfn : fn.results = #[.cell q 26]) (ha : a.tmps.getD q undef = .pointer (some ⟨w.heap.size, 0, none⟩)) (hd : a.defers = [])
    (hz : us.size = 1) (hQ : Q (.returned (.agg us)) (w.alloc (.cells us 26))) : bodyPost Tryd.prog fn Q .ret a (w.alloc (.cells us 26)) :=
  bodyPost_ret (results_one (q := q) (ty := 26) hfn ha (run_loadVar_row _ w.heap.size 26 26 _ _ _ (heap_alloc_new w _) Tryd.underlying26 rfl (by rw [hz]; kernel_rfl))) hd hQ
theorem asm_const (a k : Int) (w : World) : Calls Tryd.prog 78 #[.int .i64 a, .int .i64 k] w fun e w' => e = .returned (.agg #[.int .i64 0, .int .i64 a, .int .i64 0, .int .i64 0, .int .i64 k]) ∧ Keeps None w w' := by
  go_enter Tryd.func78, Tryd.ntmps78
  go_wp2
  refine ins_ret 4 rfl rfl rfl rfl ?_
  exact ⟨rfl, Keeps.alloc _ _ _⟩
theorem asm_move (a b : Int) (w : World) : Calls Tryd.prog 81 #[.int .i64 a, .int .i64 b] w fun e w' => e = .returned (.agg #[.int .i64 1, .int .i64 a, .int .i64 b, .int .i64 0, .int .i64 0]) ∧ Keeps None w w' := by
  go_enter Tryd.func81, Tryd.ntmps81
  go_wp2
  refine ins_ret 4 rfl rfl rfl rfl ?_
  exact ⟨rfl, Keeps.alloc _ _ _⟩
theorem asm_arith (a b o c : Int) (w : World) : Calls Tryd.prog 79 #[.int .i64 a, .int .i64 b, .int .i64 o, .int .i64 c] w fun e w' => e = .returned (.agg #[.int .i64 2, .int .i64 a, .int .i64 b, .int .i64 c, .int .i64 o]) ∧ Keeps None w w' := by
  go_enter Tryd.func79, Tryd.ntmps79
  go_wp2
  refine ins_ret 8 rfl rfl rfl rfl ?_
  exact ⟨rfl, Keeps.alloc _ _ _⟩
theorem asm_branch (a t : Int) (w : World) : Calls Tryd.prog 80 #[.int .i64 a, .int .i64 t] w fun e w' => e = .returned (.agg #[.int .i64 4, .int .i64 a, .int .i64 t, .int .i64 0, .int .i64 0]) ∧ Keeps None w w' := by
  go_enter Tryd.func80, Tryd.ntmps80
  go_wp2
  refine ins_ret 4 rfl rfl rfl rfl ?_
  exact ⟨rfl, Keeps.alloc _ _ _⟩
theorem asm_spawn (s f x : Int) (w : World) : Calls Tryd.prog 41 #[.int .i64 s, .int .i64 f, .int .i64 x] w fun e w' => e = .returned (.agg #[.int .i64 5, .int .i64 s, .int .i64 f, .int .i64 x, .int .i64 0]) ∧ Keeps None w w' := by
  go_enter Tryd.func41, Tryd.ntmps41
  go_wp2
  refine ins_ret 6 rfl rfl rfl rfl ?_
  exact ⟨rfl, Keeps.alloc _ _ _⟩
theorem asm_sync (w : World) : Calls Tryd.prog 42 #[] w fun e w' => e = .returned (.agg #[.int .i64 6, .int .i64 0, .int .i64 0, .int .i64 0, .int .i64 0]) ∧ Keeps None w w' := by
  go_enter Tryd.func42, Tryd.ntmps42
  go_wp2
  refine ins_ret 0 rfl rfl rfl rfl ?_
  exact ⟨rfl, Keeps.alloc _ _ _⟩
theorem asm_load (a s : Int) (w : World) : Calls Tryd.prog 43 #[.int .i64 a, .int .i64 s] w fun e w' => e = .returned (.agg #[.int .i64 7, .int .i64 a, .int .i64 s, .int .i64 0, .int .i64 0]) ∧ Keeps None w w' := by
  go_enter Tryd.func43, Tryd.ntmps43
  go_wp2
  refine ins_ret 4 rfl rfl rfl rfl ?_
  exact ⟨rfl, Keeps.alloc _ _ _⟩
theorem asm_return (a : Int) (w : World) : Calls Tryd.prog 82 #[.int .i64 a] w fun e w' => e = .returned (.agg #[.int .i64 9, .int .i64 a, .int .i64 0, .int .i64 0, .int .i64 0]) ∧ Keeps None w w' := by
  go_enter Tryd.func82, Tryd.ntmps82
  go_wp2
  refine ins_ret 2 rfl rfl rfl rfl ?_
  exact ⟨rfl, Keeps.alloc _ _ _⟩
theorem asm_func (p r t : Int) (a : Option Addr) (n c : Nat) (w : World) : Calls Tryd.prog 77 #[.int .i64 p, .int .i64 r, .int .i64 t, .slice a n c] w fun e w' => e = .returned (.agg #[.int .i64 p, .int .i64 r, .int .i64 t, .slice a n c]) ∧ Keeps None w w' := by
  go_enter Tryd.func77, Tryd.ntmps77
  go_wp2
  refine fn_ret 8 rfl rfl rfl rfl ?_
  exact ⟨rfl, Keeps.alloc _ _ _⟩
theorem asm_program (a : Option Addr) (n c : Nat) (w : World) : Calls Tryd.prog 76 #[.slice a n c] w fun e w' => e = .returned (.agg #[.slice a n c]) ∧ Keeps None w w' := by
  go_enter Tryd.func76, Tryd.ntmps76
  go_wp2
  refine prog_ret 2 rfl rfl rfl rfl ?_
  exact ⟨rfl, Keeps.alloc _ _ _⟩
end Go.Proofs.YtafgkehmmfmloaaDoor
/-! Lists of instructions and of functions that a call has made. -/
namespace Go.Proofs.YtafgkehmmfmloaaDoor
set_option linter.unusedVariables false
set_option maxRecDepth 20000
open Go.RowKit Go.HeapKit Go.PlainOps

theorem Tryd.plIns : (Tryd.prog.info? 48).map (fun i => (i.zero, i.size, i.bytes)) = some (some (.agg #[.int .i64 0, .int .i64 0, .int .i64 0, .int .i64 0, .int .i64 0]), 5, 40) := by kernel_rfl
theorem Tryd.plFn : (Tryd.prog.info? 29).map (fun i => (i.zero, i.size, i.bytes)) = some (some (.agg #[.int .i64 0, .int .i64 0, .int .i64 0, .slice none 0 0]), 4, 48) := by kernel_rfl
theorem codeC_length (l : List Ins) : (codeC l).length = l.length * 5 := by
  induction l with
  | nil => rfl
  | cons x l ih => simp only [codeC, List.flatMap_cons, List.length_append, List.length_cons] at ih ⊢; rw [ih]; simp [insCells]; omega
theorem codeC_append (a b : List Ins) : codeC (a ++ b) = codeC a ++ codeC b := by simp [codeC]
theorem codeC_one (l : List Ins) : ∀ u ∈ codeC l, u.oneCell' = true := by
  intro u hu
  simp only [codeC, List.mem_flatMap] at hu
  obtain ⟨i, _, hi⟩ := hu
  simp [insCells] at hi
  rcases hi with rfl | rfl | rfl | rfl | rfl <;> rfl
theorem codeC_cell {l : List Ins} {j : Nat} {u : Value} (h : (codeC l)[j]? = some u) : ∃ k i o, l[k]? = some i ∧ j = k * 5 + o ∧ (insCells i)[o]? = some u := by
  induction l generalizing j with
  | nil => simp [codeC] at h
  | cons x l ih =>
    have e : codeC (x :: l) = insCells x ++ codeC l := rfl
    rw [e] at h
    have hz : (insCells x).length = 5 := rfl
    by_cases hj : j < 5
    · rw [List.getElem?_append_left (by omega)] at h
      exact ⟨0, x, j, rfl, by omega, h⟩
    · rw [List.getElem?_append_right (by omega)] at h
      obtain ⟨k, i, o, h1, h2, h3⟩ := ih h
      exact ⟨k + 1, i, o, by simpa using h1, by omega, h3⟩
/-- A list of instructions that is this call's own. -/
abbrev OwnC (w : World) (base : Nat) (v : Value) (l : List Ins) : Prop := w.ownsRow base 48 5 v l.length (codeC l)
theorem OwnC.shape {w : World} {base : Nat} {v : Value} {l : List Ins} (h : OwnC w base v l) : ∃ ca cc, v = .slice ca l.length cc ∧ SeenI w ca l.length l := by
  rcases h.2 with ⟨rfl, h0⟩ | ⟨g, cap, cur, rfl, _, hb, hn, _, hcs, htk⟩
  · exact ⟨none, 0, by rw [h0], ⟨rfl, fun hp => by omega⟩⟩
  · refine ⟨_, cap, rfl, ⟨rfl, fun _ => ⟨g, 0, rfl, blk_lt hb, fun k i hi => ?_⟩⟩⟩
    have hc : ∀ j x, (insCells i)[j]? = some x → w.cell? ⟨g, 0 + k * 5 + j, none⟩ = some x := fun j x hx => by
      have h1 := codeC_at l k i hi j x hx
      rw [blk_cell hb, ← Array.getElem?_toList, Nat.zero_add]
      rw [← htk, List.getElem?_take] at h1
      split at h1
      · exact h1
      · cases h1
    exact ⟨hc 0 _ rfl, hc 1 _ rfl, hc 2 _ rfl, hc 3 _ rfl, hc 4 _ rfl⟩
theorem OwnC.base {w : World} {base : Nat} {v : Value} {l : List Ins} (h : OwnC w base v l) {g : Nat} (hg : v.ownBlock = some g) : base ≤ g ∧ g < w.heap.size := by
  rcases h.2 with ⟨rfl, _⟩ | ⟨g', cap, cur, rfl, hb, hh, _⟩
  · simp [Value.ownBlock] at hg
  · simp [Value.ownBlock] at hg
    subst hg
    exact ⟨hb, blk_lt hh⟩
theorem OwnC.low {w : World} {base b2 : Nat} {v : Value} {l : List Ins} (h : OwnC w base v l) (hb : b2 ≤ base) : OwnC w b2 v l := by
  refine ⟨h.1, ?_⟩
  rcases h.2 with h0 | ⟨g', cap, cur, e, hg, r⟩
  · exact .inl h0
  · exact .inr ⟨g', cap, cur, e, by omega, r⟩
theorem OwnC.kept {w w' : World} {S : Nat → Prop} {base : Nat} {v : Value} {l : List Ins} (h : OwnC w base v l) (hk : Keeps S w w') (hS : ∀ g, v.ownBlock = some g → ¬ S g) : OwnC w' base v l := hk.own h hS
theorem OwnC.more {w w' : World} {base : Nat} {v : Value} {l : List Ins} (h : OwnC w base v l) (hk : Keeps None w w') : OwnC w' base v l := hk.own h (fun _ _ f => f)
/-- A list that is written out lies in a new block. -/
theorem own_lit (w : World) (l : List Ins) (us : Array Value) (n : Nat) (e : us = (codeC l).toArray) (hn : n = l.length) (hl : l.length ≤ 1000) : OwnC (w.alloc (.cells us 48)) w.heap.size (.slice (some ⟨w.heap.size, 0, none⟩) n n) l := by
  subst e hn
  refine ⟨codeC_length l, .inr ⟨w.heap.size, l.length, _, rfl, Nat.le_refl _, heap_alloc_new w _, Nat.le_refl _, by unfold maxLen; omega, by simp [codeC_length], by simp [← codeC_length]⟩⟩
/-- 'append(s, l...)'. -/
theorem code_app (base : Nat) (g n cap : Nat) (l1 : List Ins) (a : Option Addr) (m c : Nat) (l2 : List Ins) (ty : TypeId) (w : World) (hn : n = l1.length) (h : OwnC w base (.slice (some ⟨g, 0, none⟩) n cap) l1) (h2 : SeenI w a m l2) (hb : base ≤ w.heap.size) (hl : l1.length + l2.length ≤ 100000) :
    ∃ g' cap' w', (Builtin.append_ #[27, 27] ty #[.slice (some ⟨g, 0, none⟩) n cap, .slice a m c]).run Tryd.prog w = .ok (.slice (some ⟨g', 0, none⟩) (n + m) cap') w' ∧
      OwnC w' base (.slice (some ⟨g', 0, none⟩) (n + m) cap') (l1 ++ l2) ∧ Keeps (· = g) w w' ∧ (g' = g ∨ w.heap.size ≤ g') := by
  obtain ⟨i0, hi, hz0, hz1, hz2⟩ := info_parts Tryd.plIns
  have hm := h2.len
  cases a with
  | none =>
    have h0 : m = 0 := by
      by_cases hp : 0 < m
      · obtain ⟨b, off, e, _⟩ := h2.ex hp
        cases e
      · omega
    have e2 : l2 = [] := List.eq_nil_of_length_eq_zero (by omega)
    subst e2
    subst h0
    refine ⟨g, cap, w, ?_, by rw [List.append_nil]; exact h, Keeps.refl _ _, .inl rfl⟩
    have hnc : n ≤ cap := by
      rcases h.2 with ⟨h, _⟩ | ⟨_, _, _, e, _, _, hh, _⟩
      · cases h
      · injection e with _ e1 e2
        subst e2
        rw [hn]
        exact hh
    simp [Builtin.append_, run_underlying Tryd.underlying27, sizeOf, typeInfo, zeroValue, hi, hz0, Builtin.lenOf, Builtin.firstCells, storeCells, hnc]
  | some x =>
    rw [hn] at h ⊢
    obtain ⟨v', w', hr, ho, hgr, hmv, -⟩ := run_append_moved (P := Tryd.prog) w base 27 ty 48 i0 _ 5 40 Tryd.underlying27 hi hz0 hz1 hz2 rfl (by decide) _ l1.length (codeC l1) h
      x m c (codeC l2) (by rw [codeC_length, hm]) (fun j u hu => by
        obtain ⟨k, i, o, h1, rfl, h3⟩ := codeC_cell hu
        have hk : 0 < m := by have := (List.getElem?_eq_some_iff.1 h1).1; omega
        obtain ⟨b, off, e, _, hc⟩ := h2.ex hk
        obtain rfl := Option.some.inj e
        have hI := hc k i h1
        rw [show (⟨b, off, none⟩ : Addr).add (k * 5 + o) = ⟨b, off + k * 5 + o, none⟩ by unfold Addr.add; split <;> simp_all; omega]
        have ho : o < 5 := (List.getElem?_eq_some_iff.1 h3).1
        match o, ho, h3 with
        | 0, _, h3 => simp [insCells] at h3; subst h3; exact hI.kind
        | 1, _, h3 => simp [insCells] at h3; subst h3; exact hI.a
        | 2, _, h3 => simp [insCells] at h3; subst h3; exact hI.b
        | 3, _, h3 => simp [insCells] at h3; subst h3; exact hI.c
        | 4, _, h3 => simp [insCells] at h3; subst h3; exact hI.k) (codeC_one l2) (by unfold maxLen; omega) (by omega) hb
    have ho' : w'.ownsRow base 48 5 v' (l1 ++ l2).length (codeC (l1 ++ l2)) := by
      rw [codeC_append, List.length_append, ← hm]
      exact ho
    have hsh : ∃ g' cap', v' = .slice (some ⟨g', 0, none⟩) (l1.length + m) cap' := by
      rcases ho.2 with ⟨hv, h0⟩ | ⟨g', cap', _, e, _⟩
      · subst hv
        rcases hmv with e | ⟨g2, e, _⟩
        · simp [Value.ownBlock] at e
        · simp [Value.ownBlock] at e
      · exact ⟨g', cap', e⟩
    obtain ⟨g', cap', rfl⟩ := hsh
    refine ⟨g', cap', w', hr, ho', (Keeps.refl _ w).andGrown hgr (fun k e => .inl (by simpa [Value.ownBlock] using e.symm)), ?_⟩
    rcases hmv with e | ⟨g2, e, h3⟩
    · simp [Value.ownBlock] at e
      exact .inl e
    · simp [Value.ownBlock] at e
      exact .inr (by omega)
/-- 'append(nil, make([]Instr, n)...)[:0]': room for n. -/
theorem code_room (m : Nat) (ty : TypeId) (w : World) (hm : 0 < m) (hl : m ≤ 100000) : ∃ cap cells, (Builtin.append_ #[27, 3] ty #[.slice none 0 0, .int .i64 m]).run Tryd.prog w = .ok (.slice (some ⟨w.heap.size, 0, none⟩) m cap) (w.drew.alloc (.cells cells 48)) ∧ m ≤ cap ∧ cap ≤ maxLen ∧ cells.size = cap * 5 := by
  obtain ⟨i0, hi, hz0, hz1, hz2⟩ := info_parts Tryd.plIns
  have hwrap : IntKind.i64.wrap (m : Int) = m := by rw [IntKind.wrap_i64]; omega
  have hai : ∀ w, Sem.run Tryd.prog (asInt (.int .i64 (m : Int))) w = .ok (m : Int) w := fun _ => rfl
  have hm0 : ¬ m = 0 := by omega
  have hmb' : ¬ (281474976710656 < (m : Int) * (i0.bytes : Int)) := by rw [hz2]; omega
  have hneg : ¬ ((m : Int) < 0) := by omega
  have h63' : ¬ (9223372036854775807 < (m : Int)) := by omega
  have h48' : ¬ (281474976710656 < Builtin.nextslicecap m 0 * i0.bytes) := by rw [nextslicecap_zero hm, hz2]; omega
  have hge := grownCap_ge w m 0 48
  refine ⟨grownCap w m 0 48, Builtin.zeroCells (Value.cells (.agg #[.int .i64 0, .int .i64 0, .int .i64 0, .int .i64 0, .int .i64 0])) m ++ Builtin.zeroCells (Value.cells (.agg #[.int .i64 0, .int .i64 0, .int .i64 0, .int .i64 0, .int .i64 0])) (grownCap w m 0 48 - m), ?_, hge, grownCap_le_maxLen w m 0 _ (by unfold maxLen; omega), ?_⟩
  · simp [Builtin.append_, run_underlying Tryd.underlying27, run_underlying Tryd.underlying3, sizeOf, typeInfo, zeroValue, hi, hz0, hz1, hai, hwrap, hneg, hmb', hm0, h63', h48', Question.forced, run_firstCells_none, newRow, grownCap]
    exact fun h => absurd h (by omega)
  · have hs : (Value.cells (.agg #[.int .i64 0, .int .i64 0, .int .i64 0, .int .i64 0, .int .i64 0])).size = 5 := rfl
    simp [Builtin.zeroCells, hs]
    omega
end Go.Proofs.YtafgkehmmfmloaaDoor
/-! slices.Grow and slices.Concat of instructions. -/
namespace Go.Proofs.YtafgkehmmfmloaaDoor
set_option linter.unusedVariables false
set_option maxRecDepth 20000
open Go.RowKit Go.HeapKit Go.PlainOps

/-- A list of lists of instructions that can be read. -/
structure SeenS (w : World) (a : Option Addr) (n : Nat) (ls : List (List Ins)) : Prop where
  len : n = ls.length
  ex : 0 < n → ∃ b off, a = some ⟨b, off, none⟩ ∧ ∀ k l, ls[k]? = some l → ∃ ca cc, w.cell? ⟨b, off + k, none⟩ = some (.slice ca l.length cc) ∧ SeenI w ca l.length l
theorem SeenS.more {w w' : World} {a : Option Addr} {n : Nat} {ls : List (List Ins)} (h : SeenS w a n ls) (hk : Keeps None w w') : SeenS w' a n ls := by
  refine ⟨h.len, fun h0 => ?_⟩
  obtain ⟨b, off, rfl, hc⟩ := h.ex h0
  refine ⟨b, off, rfl, fun k l hl => ?_⟩
  obtain ⟨ca, cc, h1, h2⟩ := hc k l hl
  exact ⟨ca, cc, hk.cell h1 (fun f => f), h2.more hk⟩
theorem SeenS.at {w : World} {a : Option Addr} {n : Nat} {ls : List (List Ins)} (h : SeenS w a n ls) {k : Nat} (hk : k < n) : ∃ b off l ca cc, a = some ⟨b, off, none⟩ ∧ ls[k]? = some l ∧ w.cell? ⟨b, off + k, none⟩ = some (.slice ca l.length cc) ∧ SeenI w ca l.length l := by
  obtain ⟨b, off, rfl, hc⟩ := h.ex (by omega)
  have hl := h.len
  obtain ⟨ca, cc, h1, h2⟩ := hc k (ls[k]'(by omega)) (by simp)
  exact ⟨b, off, ls[k]'(by omega), ca, cc, rfl, by simp, h1, h2⟩
theorem flat_take {ls : List (List Ins)} {k : Nat} {l : List Ins} (h : ls[k]? = some l) : (ls.take (k + 1)).flatten = (ls.take k).flatten ++ l := by
  have hk := (List.getElem?_eq_some_iff.1 h).1
  have e : ls.take (k + 1) = ls.take k ++ [l] := by
    rw [List.take_add_one, h]
    rfl
  rw [e, List.flatten_append]
  simp
theorem flat_le (ls : List (List Ins)) (k : Nat) : (ls.take k).flatten.length ≤ ls.flatten.length := by
  conv => rhs; rw [← List.take_append_drop k ls]
  rw [List.flatten_append, List.length_append]
  omega
theorem grow_any (m : Nat) (w : World) (hm : 0 < m) (hl : m ≤ 100000) : Calls Tryd.prog 88 #[.slice none 0 0, .int .i64 m] w fun e w' => ∃ g cap, e = .returned (.slice (some ⟨g, 0, none⟩) 0 cap) ∧ OwnC w' w.heap.size (.slice (some ⟨g, 0, none⟩) 0 cap) [] ∧ Keeps None w w' := by
  have i1 : ¬ ((m : Int) < 0) := by omega
  have i2 : (0 : Int) < (m : Int) := by omega
  obtain ⟨cap, cells, hr, h1, h2, h3⟩ := code_room m 27 w hm hl
  have i3 : (0 : Int) ≤ (cap : Int) := by omega
  have HX : Hid (m ≤ cap ∧ cap ≤ maxLen ∧ cells.size = cap * 5) := ⟨h1, h2, h3⟩
  clear h1 h2 h3
  go_enter Tryd.func88, Tryd.ntmps88
  go_wp2_with (at_builtin; refine wpList_append_run rfl (.tmp 20) (.tmp 21) 27 3 rfl rfl rfl hr ?_)
  go_ret
  obtain ⟨h1, h2, h3⟩ := HX.out
  refine ⟨w.heap.size, cap, rfl, ⟨rfl, .inr ⟨w.heap.size, cap, cells, rfl, Nat.le_refl _, heap_alloc_new w.drew _, by simp, h2, h3, rfl⟩⟩, (Keeps.drew _ w).andAlloc _⟩
set_option maxHeartbeats 1600000 in
theorem concat_any (a : Option Addr) (n c : Nat) (ls : List (List Ins)) (w : World) (h : SeenS w a n ls) (hn : n ≤ 1000) (h0 : 0 < ls.flatten.length) (hl : ls.flatten.length ≤ 100000) : Calls Tryd.prog 83 #[.slice a n c] w fun e w' => ∃ ca cc, e = .returned (.slice ca ls.flatten.length cc) ∧ OwnC w' w.heap.size (.slice ca ls.flatten.length cc) ls.flatten ∧ Keeps None w w' := by
  obtain ⟨T, hT⟩ : ∃ T, T = ls.flatten.length := ⟨_, rfl⟩
  have HT : Hid (T = ls.flatten.length ∧ n = ls.length) := ⟨hT, h.len⟩
  rw [← hT] at h0 hl
  have HS : Hid (SeenS w a n ls) := h
  clear h
  have hgw := grow_any T w h0 hl
  rw [← hT]
  clear hT
  go_enter Tryd.func83, Tryd.ntmps83
  go_wp2_with fail
  go_loopw [3, 5, 11] (fun s3 _ s11 wr => ∃ k t : Nat, k ≤ n ∧ s11 = .int .i64 k ∧ s3 = .int .i64 t ∧ t = (ls.take k).flatten.length ∧ wr = w) (fun _ _ i _ => n - (intOf i).toNat)
  case atStart => exact ⟨0, 0, Nat.zero_le _, rfl, rfl, by simp, rfl⟩
  case round =>
    obtain ⟨k, t, hk, rfl, rfl, ht, hw⟩ := hrel
    have hw2 := hw.symm
    subst hw2
    have ht2 := flat_le ls k
    rw [← ht] at ht2
    by_cases hkn : k < n
    · have i1 : (k : Int) < (n : Int) := by omega
      have i2 : (0 : Int) ≤ (k : Int) := by omega
      obtain ⟨b, off, l, ca, cc, rfl, e1, c1, s1⟩ := HS.out.at hkn
      have ht3 := flat_le ls (k + 1)
      rw [flat_take e1, List.length_append, ← ht] at ht3
      have e2 : t + l.length = (ls.take (k + 1)).flatten.length := by rw [flat_take e1, List.length_append, ht]
      have HE : Hid (t + l.length = (ls.take (k + 1)).flatten.length) := e2
      rw [← HT.out.1] at ht3
      generalize l.length = L at *
      have w1 : (t : Int) + (L : Int) ≤ 100000 := by omega
      have w2 : ¬ ((t : Int) + (L : Int) < 0) := by omega
      have w3 : (k : Int) ≤ 1000 := by omega
      clear e2 ht3 ht2 ht
      go_wp2
      exact ⟨⟨k + 1, t + L, by omega, by simp, by simp, HE.out, trivial⟩, by simp [intOf]; omega⟩
    · have i1 : ¬ ((k : Int) < (n : Int)) := by omega
      obtain rfl : k = n := by omega
      have e3 : t = T := by rw [ht, HT.out.1, List.take_of_length_le (by rw [← HT.out.2]; omega)]
      subst e3
      clear ht ht2
      go_wp2_with (go_at_call 88; refine hgw.mono ?_; rintro _ w1 ⟨g1, cap1, rfl, ho1, hk1⟩)
      clear hgw
      go_loopw [6, 8, 27] (fun s6 _ s27 wr => ∃ j t2 g cap : Nat, j ≤ k ∧ s27 = .int .i64 j ∧ s6 = .slice (some ⟨g, 0, none⟩) t2 cap ∧ t2 = (ls.take j).flatten.length ∧ OwnC wr w.heap.size (.slice (some ⟨g, 0, none⟩) t2 cap) (ls.take j).flatten ∧ Keeps None w wr) (fun _ _ i _ => k - (intOf i).toNat)
      case atStart => exact ⟨0, 0, g1, cap1, Nat.zero_le _, rfl, rfl, by simp, by simpa using ho1, hk1⟩
      case round =>
        obtain ⟨j, t2, g, cap, hj, rfl, rfl, ht2, ho, hkp⟩ := hrel
        by_cases hjk : j < k
        · have j1 : (j : Int) < (k : Int) := by omega
          have j2 : (0 : Int) ≤ (j : Int) := by omega
          obtain ⟨b, off, l, ca, cc, rfl, e1, c1, s1⟩ := (HS.out.more hkp).at hjk
          have ht3 := flat_le ls (j + 1)
          rw [flat_take e1, List.length_append, ← HT.out.1] at ht3
          obtain ⟨g', cap', w2, hr, ho2, hk2, hg2⟩ := code_app w.heap.size g t2 cap (ls.take j).flatten ca l.length cc l 27 wr ht2 ho s1 hkp.size (by omega)
          have hkn : Keeps None w w2 := hkp.trans hk2 (fun i e hi => by subst e; have := (ho.base (g := i) rfl).1; omega)
          rw [← flat_take e1] at ho2
          have e2 : t2 + l.length = (ls.take (j + 1)).flatten.length := by rw [flat_take e1, List.length_append, ht2]
          have HE : Hid (t2 + l.length = (ls.take (j + 1)).flatten.length ∧ OwnC w2 w.heap.size (.slice (some ⟨g', 0, none⟩) (t2 + l.length) cap') (ls.take (j + 1)).flatten ∧ Keeps None w w2) := ⟨e2, ho2, hkn⟩
          clear e2 ho2 hkn ht3 ho hkp hk2 hg2
          generalize l.length = L at *
          have w3 : (j : Int) ≤ 1000 := by omega
          clear ht2
          go_wp2_with (at_builtin; refine wpList_append_run rfl (.tmp 31) (.tmp 32) 27 27 rfl rfl rfl hr ?_)
          exact ⟨⟨j + 1, t2 + L, g', cap', by omega, by simp, rfl, HE.out.1, HE.out.2.1, HE.out.2.2⟩, by simp [intOf]; omega⟩
        · have j1 : ¬ ((j : Int) < (k : Int)) := by omega
          obtain rfl : j = k := by omega
          have e4 : ls.take j = ls := List.take_of_length_le (by rw [← HT.out.2]; omega)
          rw [e4, ← HT.out.1] at ht2
          rw [e4] at ho
          subst ht2
          have HF : Hid (OwnC wr w.heap.size (.slice (some ⟨g, 0, none⟩) t2 cap) ls.flatten ∧ Keeps None w wr) := ⟨ho, hkp⟩
          clear ho hkp e4
          go_wp2
          go_ret
          exact ⟨_, _, rfl, HF.out.1, HF.out.2⟩
end Go.Proofs.YtafgkehmmfmloaaDoor
/-! The programs that parlib makes, plainly. -/
namespace Go.Proofs.YtafgkehmmfmloaaDoor
set_option linter.unusedVariables false
set_option maxRecDepth 20000

def shI (i : Ins) : Ins := if i.kind = 5 then { i with b := i.b + 2 } else i
def shF (f : Fn) : Fn := { f with code := f.code.map shI }
def entC (u : Int) : List Ins := [⟨0, 5, 0, 0, u⟩, ⟨0, 2, 0, 0, 0⟩, ⟨2, 6, 0, 2, 13⟩, ⟨4, 6, 10, 0, 0⟩, ⟨0, 4, 0, 0, 1⟩, ⟨2, 4, 1, 4, 11⟩, ⟨1, 3, 0, 0, 0⟩, ⟨5, 0, 1, 2, 0⟩, ⟨6, 0, 0, 0, 0⟩, ⟨7, 5, 0, 0, 0⟩, ⟨9, 5, 0, 0, 0⟩]
def choC (n : Int) : List Ins := [⟨2, 8, 1, 0, 1⟩, ⟨2, 10, 2, 8, 12⟩, ⟨4, 10, n, 0, 0⟩]
def lfC (b u : Int) (m : List Ins) : List Ins := [⟨0, 6, 0, 0, u⟩, ⟨0, 9, 0, 0, 1⟩] ++ [⟨5, 0, b, 0, 0⟩, ⟨6, 0, 0, 0, 0⟩] ++ m ++ [⟨2, 0, 0, 9, 0⟩, ⟨2, 10, 0, 1, 12⟩, ⟨4, 10, 5, 0, 0⟩, ⟨9, 6, 0, 0, 0⟩]
def hvC (m : List Ins) : List Ins := [⟨0, 4, 0, 0, 2⟩, ⟨2, 4, 8, 4, 3⟩, ⟨2, 4, 0, 4, 0⟩] ++ [⟨1, 3, 0, 0, 0⟩, ⟨1, 5, 2, 0, 0⟩, ⟨5, 0, 1, 3, 0⟩] ++ [⟨1, 0, 4, 0, 0⟩, ⟨5, 1, 1, 0, 0⟩, ⟨6, 0, 0, 0, 0⟩] ++ m ++ [⟨9, 6, 0, 0, 0⟩]
def entF (u : Int) : Fn := ⟨2, 7, 1, entC u⟩
def rnC (lf hv : List Ins) : List Ins := choC (3 + (lf.length : Int)) ++ lf ++ hv
def rnF (lf hv : List Ins) : Fn := ⟨3, 11, 2, rnC lf hv⟩
/-- For's program. -/
def forP (fs : List Fn) (b : Int) : List Fn := entF 0 :: rnF (lfC (b + 2) 0 []) (hvC []) :: fs.map shF
/-- The loads, and what they are merged by. -/
def mgC (c : Int) (l : List Ins) : List Ins := l ++ [⟨5, 0, c, 6, 0⟩, ⟨6, 0, 0, 0, 0⟩, ⟨7, 6, 0, 0, 0⟩]
/-- Reduce's program. -/
def redP (fs : List Fn) (b c u : Int) : List Fn := entF u :: rnF (lfC (b + 2) u (mgC (c + 2) [⟨7, 7, 0, 0, 0⟩])) (hvC (mgC (c + 2) [⟨7, 6, 0, 0, 0⟩, ⟨7, 7, 1, 0, 0⟩])) :: fs.map shF

theorem set_same {α : Type} (l : List α) (n : Nat) (x : α) (h : l[n]? = some x) : l.set n x = l := by
  apply List.ext_getElem?
  intro k
  rw [List.getElem?_set]
  by_cases hk : n = k
  · subst hk
    rw [if_pos rfl, h]
    rw [if_pos (List.getElem?_eq_some_iff.1 h).1]
  · rw [if_neg hk]
end Go.Proofs.YtafgkehmmfmloaaDoor
/-! What parlib's programs are made of. -/
namespace Go.Proofs.YtafgkehmmfmloaaDoor
set_option linter.unusedVariables false
set_option maxRecDepth 20000
open Go.RowKit Go.HeapKit Go.PlainOps

def slV (l : List (Value × List Ins)) : Array Value := (l.map (·.1)).toArray
theorem seenS_lit (w : World) (vs : List (Value × List Ins)) (us : Array Value) (n : Nat) (ls : List (List Ins)) (H : Nat) (hH : w.heap.size = H) (e : us = slV vs) (hn : n = vs.length) (hl : ls = vs.map (·.2)) (h : ∀ x ∈ vs, ∃ b, OwnC w b x.1 x.2) : SeenS (w.alloc (.cells us 27)) (some ⟨H, 0, none⟩) n ls := by
  subst e hn hl hH
  refine ⟨by simp, fun _ => ⟨w.heap.size, 0, rfl, fun k l hk => ?_⟩⟩
  rw [List.getElem?_map] at hk
  obtain ⟨x, hx, rfl⟩ := Option.map_eq_some_iff.1 hk
  obtain ⟨b, hb⟩ := h x (List.mem_of_getElem? hx)
  obtain ⟨ca, cc, e, hs⟩ := hb.shape
  refine ⟨ca, cc, ?_, hs.more (Keeps.alloc _ _ _)⟩
  rw [blk_cell (heap_alloc_new w _), Nat.zero_add]
  simp [slV, hx, e]
theorem own_nil (w : World) (b : Nat) : OwnC w b (.slice none 0 0) [] := ⟨rfl, .inl ⟨rfl, rfl⟩⟩
theorem fn_end {Q : Ending → World → Prop} {a : Act} {w1 : World} {g : Nat} {c : Array Value} {fn : Func} (q : Tmp) (hfn : fn.results = #[.cell q 29]) (hc : c.size = 4) (hb : w1.heap[g]? = some (.cells c 29 (0, 0)))
    (ha : a.tmps.getD q undef = .pointer (some ⟨g, 0, none⟩)) (hd : a.defers = []) (v0 v1 v2 v3 : Value) (hQ : ∀ w', Keeps (· = g) w1 w' → Q (.returned (.agg #[v0, v1, v2, v3])) w') :
    bodyPost Tryd.prog fn Q .ret a ((((w1.setCell ⟨g, 0, none⟩ v0).setCell ⟨g, 1, none⟩ v1).setCell ⟨g, 2, none⟩ v2).setCell ⟨g, 3, none⟩ v3) := by
  have hb2 := blk_set (i := 3) (blk_set (i := 2) (blk_set (i := 1) (blk_set (i := 0) hb v0) v1) v2) v3
  have hc3 : (((c.setIfInBounds 0 v0).setIfInBounds 1 v1).setIfInBounds 2 v2).setIfInBounds 3 v3 = #[v0, v1, v2, v3] := by
    obtain ⟨l⟩ := c
    match l, hc with
    | [x0, x1, x2, x3], _ => rfl
  rw [hc3] at hb2
  refine bodyPost_ret (results_one (q := q) (ty := 29) hfn ha (run_loadVar_row _ g 29 29 _ _ _ hb2 Tryd.underlying29 rfl (by kernel_rfl))) hd (hQ _ ?_)
  exact (((Keeps.setCell (S := (· = g)) w1 (a := ⟨g, 0, none⟩) rfl _).andSet (x := ⟨g, 1, none⟩) (.inl rfl) _).andSet (x := ⟨g, 2, none⟩) (.inl rfl) _).andSet (x := ⟨g, 3, none⟩) (.inl rfl) _
set_option maxHeartbeats 1600000 in
theorem entry_any (u : Int) (w : World) : Calls Tryd.prog 66 #[.int .i64 u] w fun e w' => ∃ v, e = .returned (.agg #[.int .i64 2, .int .i64 7, .int .i64 1, v]) ∧ OwnC w' w.heap.size v (entC u) ∧ Keeps None w w' := by
  have j0 : Keeps None w w := Keeps.refl _ _
  go_enter Tryd.func66, Tryd.ntmps66
  go_wp2_with fail
  refine (asm_const _ _ _).mono ?_
  rintro _ w1 ⟨rfl, k1⟩
  have j1 : Keeps None w w1 := (j0.andAlloc _).trans k1 (fun _ f _ => f)
  have bG := blk_kept (heap_alloc_new w (.cells #[.int .i64 0, .int .i64 0, .int .i64 0, .slice none 0 0] 29)) k1 (fun f => f)
  clear k1
  go_wp2_with fail
  refine (asm_const _ _ _).mono ?_
  rintro _ w2 ⟨rfl, k2⟩
  have j2 : Keeps None w w2 := j1.trans k2 (fun _ f _ => f)
  replace bG := blk_kept bG k2 (fun f => f)
  clear k2
  go_wp2_with fail
  refine (asm_arith _ _ _ _ _).mono ?_
  rintro _ w3 ⟨rfl, k3⟩
  have j3 : Keeps None w w3 := j2.trans k3 (fun _ f _ => f)
  replace bG := blk_kept bG k3 (fun f => f)
  clear k3
  go_wp2_with fail
  refine (asm_branch _ _ _).mono ?_
  rintro _ w4 ⟨rfl, k4⟩
  have j4 : Keeps None w w4 := j3.trans k4 (fun _ f _ => f)
  replace bG := blk_kept bG k4 (fun f => f)
  clear k4
  go_wp2_with fail
  refine (asm_const _ _ _).mono ?_
  rintro _ w5 ⟨rfl, k5⟩
  have j5 : Keeps None w w5 := j4.trans k5 (fun _ f _ => f)
  replace bG := blk_kept bG k5 (fun f => f)
  clear k5
  go_wp2_with fail
  refine (asm_arith _ _ _ _ _).mono ?_
  rintro _ w6 ⟨rfl, k6⟩
  have j6 : Keeps None w w6 := j5.trans k6 (fun _ f _ => f)
  replace bG := blk_kept bG k6 (fun f => f)
  clear k6
  go_wp2_with fail
  refine (asm_move _ _ _).mono ?_
  rintro _ w7 ⟨rfl, k7⟩
  have j7 : Keeps None w w7 := j6.trans k7 (fun _ f _ => f)
  replace bG := blk_kept bG k7 (fun f => f)
  clear k7
  go_wp2_with fail
  refine (asm_spawn _ _ _ _).mono ?_
  rintro _ w8 ⟨rfl, k8⟩
  have j8 : Keeps None w w8 := j7.trans k8 (fun _ f _ => f)
  replace bG := blk_kept bG k8 (fun f => f)
  clear k8
  go_wp2_with fail
  refine (asm_sync _).mono ?_
  rintro _ w9 ⟨rfl, k9⟩
  have j9 : Keeps None w w9 := j8.trans k9 (fun _ f _ => f)
  replace bG := blk_kept bG k9 (fun f => f)
  clear k9
  go_wp2_with fail
  refine (asm_load _ _ _).mono ?_
  rintro _ w10 ⟨rfl, k10⟩
  have j10 : Keeps None w w10 := j9.trans k10 (fun _ f _ => f)
  replace bG := blk_kept bG k10 (fun f => f)
  clear k10
  go_wp2_with fail
  refine (asm_return _ _).mono ?_
  rintro _ w11 ⟨rfl, k11⟩
  have j11 : Keeps None w w11 := j10.trans k11 (fun _ f _ => f)
  replace bG := blk_kept bG k11 (fun f => f)
  clear k11
  have hlt := blk_lt bG
  have al := own_lit w11 (entC u) _ 11 rfl rfl (by simp [entC])
  go_wp2_with fail
  refine (asm_func _ _ _ _ _ _ _).mono ?_
  rintro _ w12 ⟨rfl, k12⟩
  replace al := al.more k12
  replace bG := blk_kept (blk_kept bG (Keeps.alloc None _ _) (fun f => f)) k12 (fun f => f)
  have j12 : Keeps None w w12 := (j11.andAlloc _).trans k12 (fun _ f _ => f)
  obtain ⟨G, hG⟩ : ∃ G, G = w.heap.size := ⟨_, rfl⟩
  have HF : Hid (OwnC w12 w11.heap.size _ _ ∧ Keeps None w w12 ∧ w.heap.size < w11.heap.size) := ⟨al, j12, hlt⟩
  rw [← hG] at bG
  have c0 : w12.cell? ⟨G, 0, none⟩ = some (.int .i64 0) := (blk_cell bG 0).trans rfl
  have c1 : w12.cell? ⟨G, 1, none⟩ = some (.int .i64 0) := (blk_cell bG 1).trans rfl
  have c2 : w12.cell? ⟨G, 2, none⟩ = some (.int .i64 0) := (blk_cell bG 2).trans rfl
  have c3 : w12.cell? ⟨G, 3, none⟩ = some (.slice none 0 0) := (blk_cell bG 3).trans rfl
  have z0 := blk_free bG 0
  have z1 := blk_free bG 1
  have z2 := blk_free bG 2
  have z3 := blk_free bG 3
  have HB : Hid (w12.heap[G]? = some (.cells #[.int .i64 0, .int .i64 0, .int .i64 0, .slice none 0 0] 29 (0, 0)) ∧ G = w.heap.size) := ⟨bG, hG⟩
  rw [← hG]
  clear al bG j12 k12 hG hlt
  go_wp2
  refine fn_end 2 rfl rfl HB.out.1 rfl rfl _ _ _ _ (fun w' hw' => ?_)
  refine ⟨_, rfl, (HF.out.1.kept hw' (fun g e q => ?_)).low (Nat.le_of_lt HF.out.2.2), HF.out.2.1.trans hw' (fun i e hi => ?_)⟩
  · have := (HF.out.1.base e).1; have := HF.out.2.2; have := HB.out.2; omega
  · have := HB.out.2; omega
set_option maxHeartbeats 1600000 in
theorem ranged_any (a1 a2 : Option Addr) (n1 c1 n2 c2 b1 b2 : Nat) (lf hv : List Ins) (w : World) (e1 : n1 = lf.length) (e2 : n2 = hv.length) (ol : OwnC w b1 (.slice a1 n1 c1) lf) (oh : OwnC w b2 (.slice a2 n2 c2) hv) (h1 : lf.length ≤ 200) (h2 : hv.length ≤ 200) : Calls Tryd.prog 67 #[.slice a1 n1 c1, .slice a2 n2 c2] w fun e w' => ∃ v, e = .returned (.agg #[.int .i64 3, .int .i64 11, .int .i64 2, v]) ∧ OwnC w' w.heap.size v (rnC lf hv) ∧ Keeps None w w' := by
  have j0 : Keeps None w w := Keeps.refl _ _
  have i1 : (n1 : Int) ≤ 200 := by omega
  have HE : Hid (n1 = lf.length ∧ lf.length ≤ 200 ∧ hv.length ≤ 200) := ⟨e1, h1, h2⟩
  clear e1 e2 h1 h2
  go_enter Tryd.func67, Tryd.ntmps67
  go_wp2_with fail
  refine (asm_arith _ _ _ _ _).mono ?_
  rintro _ w1 ⟨rfl, k1⟩
  have j1 : Keeps None w w1 := (j0.andAlloc _).trans k1 (fun _ f _ => f)
  have bG := blk_kept (heap_alloc_new w (.cells #[.int .i64 0, .int .i64 0, .int .i64 0, .slice none 0 0] 29)) k1 (fun f => f)
  replace ol := (ol.more (Keeps.alloc None _ _)).more k1
  replace oh := (oh.more (Keeps.alloc None _ _)).more k1
  clear k1
  go_wp2_with fail
  refine (asm_arith _ _ _ _ _).mono ?_
  rintro _ w2 ⟨rfl, k2⟩
  have j2 : Keeps None w w2 := j1.trans k2 (fun _ f _ => f)
  replace bG := blk_kept bG k2 (fun f => f)
  replace ol := ol.more k2
  replace oh := oh.more k2
  clear k2
  go_wp2_with fail
  refine (asm_branch _ _ _).mono ?_
  rintro _ w3 ⟨rfl, k3⟩
  have j3 : Keeps None w w3 := j2.trans k3 (fun _ f _ => f)
  replace bG := blk_kept bG k3 (fun f => f)
  replace ol := ol.more k3
  replace oh := oh.more k3
  clear k3
  have hlt := blk_lt bG
  have al := own_lit w3 (choC (3 + (n1 : Int))) _ 3 rfl rfl (by simp [choC])
  replace bG := blk_kept bG (Keeps.alloc None _ (.cells (codeC (choC (3 + (n1 : Int)))).toArray 48)) (fun f => f)
  have hfl : [choC (3 + (n1 : Int)), lf, hv].flatten = rnC lf hv := by
    unfold rnC
    rw [← HE.out.1]
    simp
  have hle : (rnC lf hv).length ≤ 500 := by have := HE.out; simp [rnC, choC]; omega
  have hpo : 0 < (rnC lf hv).length := by simp [rnC, choC]
  go_wp2_with fail
  refine (concat_any _ 3 3 [choC (3 + (n1 : Int)), lf, hv] _ (seenS_lit _ [(_, choC (3 + (n1 : Int))), (_, lf), (_, hv)] _ 3 [choC (3 + (n1 : Int)), lf, hv] _ (by simp) rfl rfl rfl ?_) (by omega) (by rw [hfl]; exact hpo) (by rw [hfl]; omega)).mono ?_
  · intro x hx
    simp only [List.mem_cons, List.not_mem_nil, or_false] at hx
    rcases hx with rfl | rfl | rfl
    · exact ⟨_, al⟩
    · exact ⟨_, ol.more (Keeps.alloc None _ _)⟩
    · exact ⟨_, oh.more (Keeps.alloc None _ _)⟩
  rw [hfl]
  rintro _ w4 ⟨ca, cc, rfl, ho, hk⟩
  have j4 : Keeps None w w4 := ((j3.andAlloc _).andAlloc _).trans hk (fun _ f _ => f)
  replace bG := blk_kept (blk_kept bG (Keeps.alloc None _ _) (fun f => f)) hk (fun f => f)
  replace ho := ho.low (b2 := w3.heap.size) (by simp; omega)
  clear hk al
  generalize (rnC lf hv).length = R at *
  go_wp2_with fail
  refine (asm_func _ _ _ _ _ _ _).mono ?_
  rintro _ w5 ⟨rfl, k5⟩
  replace ho := ho.more k5
  replace bG := blk_kept bG k5 (fun f => f)
  have j5 : Keeps None w w5 := j4.trans k5 (fun _ f _ => f)
  obtain ⟨G, hG⟩ : ∃ G, G = w.heap.size := ⟨_, rfl⟩
  have HF : Hid (OwnC w5 w3.heap.size _ _ ∧ Keeps None w w5 ∧ w.heap.size < w3.heap.size) := ⟨ho, j5, hlt⟩
  rw [← hG] at bG
  have c0 : w5.cell? ⟨G, 0, none⟩ = some (.int .i64 0) := (blk_cell bG 0).trans rfl
  have c1' : w5.cell? ⟨G, 1, none⟩ = some (.int .i64 0) := (blk_cell bG 1).trans rfl
  have c2' : w5.cell? ⟨G, 2, none⟩ = some (.int .i64 0) := (blk_cell bG 2).trans rfl
  have c3 : w5.cell? ⟨G, 3, none⟩ = some (.slice none 0 0) := (blk_cell bG 3).trans rfl
  have z0 := blk_free bG 0
  have z1 := blk_free bG 1
  have z2 := blk_free bG 2
  have z3 := blk_free bG 3
  have HB : Hid (w5.heap[G]? = some (.cells #[.int .i64 0, .int .i64 0, .int .i64 0, .slice none 0 0] 29 (0, 0)) ∧ G = w.heap.size) := ⟨bG, hG⟩
  rw [← hG]
  clear ho bG j5 k5 hG hlt
  go_wp2
  refine fn_end 4 rfl rfl HB.out.1 rfl rfl _ _ _ _ (fun w' hw' => ?_)
  refine ⟨_, rfl, (HF.out.1.kept hw' (fun g e q => ?_)).low (Nat.le_of_lt HF.out.2.2), HF.out.2.1.trans hw' (fun i e hi => ?_)⟩
  · have := (HF.out.1.base e).1; have := HF.out.2.2; have := HB.out.2; omega
  · have := HB.out.2; omega
end Go.Proofs.YtafgkehmmfmloaaDoor
