import Derived.Test.YtokfbagacehbgaaDoorSrPlay
import Derived.Test.YtokfbagacehbgaaDoorSrRoot
import Derived.Test.YtokfbagacehbgaaDoorPgCheck2
/-! root. -/
namespace Go.Proofs.YtokfbagacehbgaaDoor
set_option linter.unusedVariables false
set_option maxRecDepth 20000
open Go.RowKit Go.HeapKit Go.PlainOps

theorem wpList_build_eq {P : Program} {ops : Array Oper} {rest : List Oper} {o : Oper} {a : Act} {w : World} {Q : Exit → Act → World → Prop} (hg : o.guard = none) (t : TypeId) (parts : Array (Nat × Operand)) (ho : o.op = .build t parts) (cells : Array Value)
    (hf : P.built t (parts.map fun (i, x) => (i, a.eval x)).toList = some cells) (h : wpList P ops Q rest (a.put o.dst (.agg cells)) w) : wpList P ops Q (o :: rest) a w :=
  wpList_build hg t parts ho (by rw [hf]; rfl) (by rw [hf]; exact h)
def blankT (d : Int) : Tk := { regs := List.replicate 16 0, slots := List.replicate 8 0, node := ⟨0, 0, 0, 0, 0, 0, 0⟩, number := 0, depth := d, spawned := 0, span := 0, due := 0 }
theorem rootT_l (zs : List Int) : (rootT zs).l 0 0 0 = (rootK zs).l ++ (List.replicate 8 0 ++ [-1, 0, 0, 0, 0, 0, 0, 0, 1, 0, 0]) := rfl
set_option maxHeartbeats 2000000 in
theorem root_any (a : Option Addr) (n c : Nat) (zs : List Int) (w : World) (hS : SeenA w a n zs) (hn : n ≤ 16) :
    Calls Tryd.prog 11 #[.slice a n c] w fun e w' => e = .returned (tkV (rootT zs)) ∧ Keeps None w w' := by
  have hal := Keeps.alloc None w (.cells (ints ((blankT 0).l 0 0 0)).toArray 53)
  have bR := heap_alloc_new w (.cells (ints ((blankT 0).l 0 0 0)).toArray 53)
  obtain ⟨W, hW⟩ : ∃ W, W = w.alloc (.cells (ints ((blankT 0).l 0 0 0)).toArray 53) := ⟨_, rfl⟩
  obtain ⟨B, hB⟩ : ∃ B, B = w.heap.size := ⟨_, rfl⟩
  rw [← hW] at hal bR
  rw [← hB] at bR
  have hrt := troot_any a n c zs W (hS.more hal) hn
  have hbt := built_task (rootK zs) (args_len _ _ _) (-1) 0 1
  have hsz : (ints ((rootT zs).l 0 0 0)).toArray.size = 39 := tk_len (args_len _ _ _) rfl
  unfold tkV
  rw [rootT_l] at hsz ⊢
  have hone := ints_one ((rootK zs).l ++ (List.replicate 8 0 ++ [-1, 0, 0, 0, 0, 0, 0, 0, 1, 0, 0]))
  generalize (ints ((rootK zs).l ++ (List.replicate 8 0 ++ [-1, 0, 0, 0, 0, 0, 0, 0, 1, 0, 0]))).toArray = cw at *
  generalize (ints (rootK zs).l).toArray = cv at *
  have HX : Hid (Keeps None w W ∧ B = w.heap.size) := ⟨hal, hB⟩
  have HB : Hid _ := bR
  have HBT : Hid _ := hbt
  have HSZ : Hid _ := hsz
  have HON : Hid _ := hone
  clear hal bR hS hbt hsz hone
  go_enter Tryd.func11, Tryd.ntmps11
  go_upto_region 1 with fail
  change Code.wp _ _ _ _ (w.alloc (.cells (ints ((blankT 0).l 0 0 0)).toArray 53))
  rw [← hW, ← hB]
  clear hW hB
  go_wp2_with (first | (go_at_call 21; refine hrt.mono ?_; rintro _ w2 ⟨rfl, hk2⟩; have bB := blk_kept HB.out hk2 (fun f => f)) | (refine wpList_build_eq rfl 53 #[(0, .tmp 4), (2, .tmp 5), (4, .const (.int .i64 1))] rfl cw (by simpa [Act.eval] using HBT.out) ?_) | (refine wpList_store_row rfl 53 (.tmp 2) (.tmp 6) rfl B cw rfl rfl 53 (ints ((blankT 0).l 0 0 0)).toArray bB (by rw [HSZ.out]; exact Tryd.infoTk) (by rw [HSZ.out]; rfl) HON.out ?_))
  exact bodyPost_ret (results_one (q := 2) (ty := 53) rfl rfl (run_loadVar_row _ B _ 53 _ _ _ (setRow_heap bB) Tryd.underlying53 rfl (by rw [HSZ.out]; exact Tryd.infoTk))) rfl ⟨rfl, (HX.out.1.trans hk2 (fun _ f _ => f)).trans (setRow_keeps _ _ _) (fun i e hi => by have := HX.out.2; omega)⟩
end Go.Proofs.YtokfbagacehbgaaDoor
