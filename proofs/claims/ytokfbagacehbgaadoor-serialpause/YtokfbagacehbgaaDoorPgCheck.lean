import Derived.Test.YtokfbagacehbgaaDoorPgSlots
import Derived.Test.YtokfbagacehbgaaDoorPgCode
import Derived.Recover
import Derived.Defers
/-! Check: what is thrown is caught. -/
namespace Go.Proofs.YtokfbagacehbgaaDoor
set_option linter.unusedVariables false
set_option maxRecDepth 20000
open Go.RowKit Go.HeapKit

theorem results_one {P : Program} {fn : Func} {q : Tmp} {ty : TypeId} (h : fn.results = #[.cell q ty]) {tmps : Array Value} {w : World} {g : Nat} (ha : tmps.getD q undef = .pointer (some ⟨g, 0, none⟩)) {v : Value}
    (hl : (loadVar ty ⟨g, 0, none⟩).run P w = .ok v w) : (results fn tmps).run P w = .ok v w := by
  have ha' : tmps[q]?.getD undef = .pointer (some ⟨g, 0, none⟩) := by simpa using ha
  simp [results, h, ha', asAddr, hl]
theorem load_fault (w : World) (g : Nat) (t : TypeId) (e n a : Int) (hb : w.heap[g]? = some (.cells #[.int .i64 e, .int .i64 n, .int .i64 a] t (0, 0))) : (loadVar 59 ⟨g, 0, none⟩).run Tryd.prog w = .ok (faultV e n a) w :=
  run_loadVar_row _ g t 59 _ _ _ hb Tryd.underlying59 rfl (by kernel_rfl)
theorem fault_end {Q : Ending → World → Prop} {a : Act} {w1 : World} {g : Nat} {t : TypeId} {fn : Func} {e n x : Int} (hfn : fn.results = #[.cell 2 59]) (hb : w1.heap[g]? = some (.cells #[.int .i64 e, .int .i64 n, .int .i64 x] t (0, 0)))
    (ha : a.tmps.getD 2 undef = .pointer (some ⟨g, 0, none⟩)) (hd : a.defers = []) (hQ : Q (.returned (faultV e n x)) w1) : bodyPost Tryd.prog fn Q .ret a w1 :=
  bodyPost_ret (results_one (q := 2) (ty := 59) hfn ha (load_fault _ g t e n x hb)) hd hQ
theorem caught_nil (w : World) : Calls Tryd.prog 23 #[.nilIface] w fun e w' => e = .returned (faultV 0 0 0) ∧ Keeps None w w' := by
  go_enter Tryd.func23, Tryd.ntmps23
  go_wp2
  exact fault_end rfl (heap_alloc_new _ _) rfl rfl ⟨rfl, Keeps.alloc None w _⟩
theorem caught_fault (e n a : Int) (w : World) : Calls Tryd.prog 23 #[.iface 59 (faultV e n a)] w fun e' w' => e' = .returned (faultV e n a) ∧ Keeps None w w' := by
  unfold faultV
  have ht : ∀ wx, (Instr.typeAssert (.iface 59 (.agg #[.int .i64 e, .int .i64 n, .int .i64 a])) 20 59 true).run Tryd.prog wx = .ok (.tuple #[.agg #[.int .i64 e, .int .i64 n, .int .i64 a], .bool true]) wx := fun _ => rfl
  go_enter Tryd.func23, Tryd.ntmps23
  go_wp2
  exact fault_end rfl (two_boxes w _ _ _ _).1 rfl rfl ⟨rfl, keeps2 w _ _⟩
theorem catch_panic (p : Nat) (c : Array Value) (e n a : Int) (w : World) (hc : w.heap[p]? = some (.cells c 59 (0, 0))) (hs : c.size = 3) :
    CallsD Tryd.prog 22 #[.pointer (some ⟨p, 0, none⟩)] (.panicking (thrown e n a)) w fun e' u' w' => e' = .returned (.tuple #[]) ∧ u' = .panicking [{ v := .iface 59 (faultV e n a), recovered := true }] ∧
      w'.heap[p]? = some (.cells #[.int .i64 e, .int .i64 n, .int .i64 a] 59 (0, 0)) ∧ Keeps (· = p) w w' := by
  refine callsD_of_wpS Tryd.func22 rfl fun c₀ cs hu => ?_
  unfold thrown at hu
  apply wpS_region
  simp [wpOpsS, go_sem, recoverD, hu, Tryd.ntmps22]
  refine (caught_fault e n a w).mono ?_
  rintro _ w2 ⟨rfl, hk2⟩
  have hc2 := blk_kept hc hk2 (fun f => f)
  obtain ⟨l⟩ := c
  match l, hs with
  | [v0, v1, v2], _ =>
    have c0 := (cell_of_heap hc2 0).trans rfl
    have c1 := (cell_of_heap hc2 1).trans rfl
    have c2 := (cell_of_heap hc2 2).trans rfl
    have z0 := blk_free hc2 0
    have z1 := blk_free hc2 1
    have z2 := blk_free hc2 2
    have b3 := blk_set (i := 2) (blk_set (i := 1) (blk_set (i := 0) hc2 (.int .i64 e)) (.int .i64 n)) (.int .i64 a)
    have k3 : Keeps (· = p) w (((w2.setCell ⟨p, 0, none⟩ (.int .i64 e)).setCell ⟨p, 1, none⟩ (.int .i64 n)).setCell ⟨p, 2, none⟩ (.int .i64 a)) := (((hk2.mono (fun _ f _ => f.elim)).andSet (S := (· = p)) (x := ⟨p, 0, none⟩) (.inl rfl) _).andSet (x := ⟨p, 1, none⟩) (.inl rfl) _).andSet (x := ⟨p, 2, none⟩) (.inl rfl) _
    simp [faultV, go_sem, c0, c1, c2, z0, z1, z2, bodyPostS, results, Tryd.results22]
    exact ⟨b3, k3⟩
theorem catch_none (p : Nat) (c : Array Value) (w : World) (hc : w.heap[p]? = some (.cells c 59 (0, 0))) (hs : c.size = 3) :
    CallsD Tryd.prog 22 #[.pointer (some ⟨p, 0, none⟩)] .returning w fun e' u' w' => e' = .returned (.tuple #[]) ∧ u' = .returning ∧
      w'.heap[p]? = some (.cells #[.int .i64 0, .int .i64 0, .int .i64 0] 59 (0, 0)) ∧ Keeps (· = p) w w' := by
  refine callsD_of_wpS Tryd.func22 rfl fun c₀ cs hu => ?_
  apply wpS_region
  simp [wpOpsS, go_sem, recoverD, hu, Tryd.ntmps22]
  refine (caught_nil w).mono ?_
  rintro _ w2 ⟨rfl, hk2⟩
  have hc2 := blk_kept hc hk2 (fun f => f)
  obtain ⟨l⟩ := c
  match l, hs with
  | [v0, v1, v2], _ =>
    have c0 := (cell_of_heap hc2 0).trans rfl
    have c1 := (cell_of_heap hc2 1).trans rfl
    have c2 := (cell_of_heap hc2 2).trans rfl
    have z0 := blk_free hc2 0
    have z1 := blk_free hc2 1
    have z2 := blk_free hc2 2
    have b3 := blk_set (i := 2) (blk_set (i := 1) (blk_set (i := 0) hc2 (.int .i64 0)) (.int .i64 0)) (.int .i64 0)
    have k3 : Keeps (· = p) w (((w2.setCell ⟨p, 0, none⟩ (.int .i64 0)).setCell ⟨p, 1, none⟩ (.int .i64 0)).setCell ⟨p, 2, none⟩ (.int .i64 0)) := (((hk2.mono (fun _ f _ => f.elim)).andSet (S := (· = p)) (x := ⟨p, 0, none⟩) (.inl rfl) _).andSet (x := ⟨p, 1, none⟩) (.inl rfl) _).andSet (x := ⟨p, 2, none⟩) (.inl rfl) _
    simp [faultV, go_sem, c0, c1, c2, z0, z1, z2, bodyPostS, results, Tryd.results22]
    exact ⟨.returning, by cases c₀; simp_all, rfl, b3, k3⟩
end Go.Proofs.YtokfbagacehbgaaDoor
