import Derived.Test.YtheginjjncnheaaHoThr
import Derived.Laws.CopyOwn
/-! The search for an order: a deque copied. -/
namespace Go.Proofs.Ytheginjjncnheaa
set_option linter.unusedVariables false
set_option maxRecDepth 20000
set_option linter.unusedSimpArgs false
open Go.RowKit Go.HeapKit

theorem made_one4 (z : Value) (hz : z.cells = #[z]) (n : Nat) : madeCells z.cells n = (List.replicate n z).toArray := by
  rw [hz]
  apply Array.ext
  · simp [madeCells]
  · intro i h1 h2
    simp [madeCells, Nat.mod_one]
theorem make_i64h (n : Nat) (w : World) (hn : n ≤ 1000000) : (Instr.makeSlice 28 (.int .i64 n) (.int .i64 n)).run Try.prog w = .ok (.slice (some ⟨w.heap.size, 0, none⟩) n n) (w.alloc (.cells (List.replicate n (Value.int .i64 0)).toArray 2)) := by
  obtain ⟨i0, hi, hz0, hz1, hz2⟩ := info_parts Try.infoInt64
  obtain ⟨M, hM, _, hr⟩ := run_make_block (P := Try.prog) (w := w) 28 2 i0 _ 1 8 Try.underlying28 hi hz0 hz1 hz2 n (by omega) (by omega)
  rw [made_one4 _ rfl, Nat.mul_one] at hM
  rw [hr, hM]
theorem copy_held (g : Nat) (v : Value) (zs : List Int) (w : World) (h : Held w v zs) (hg : w.heap[g]? = some (.cells (List.replicate zs.length (Value.int .i64 0)).toArray 2 (0, 0))) :
    ∃ w', (Builtin.copy_ #[28, 28] 3 #[.slice (some ⟨g, 0, none⟩) zs.length zs.length, v]).run Try.prog w = .ok (goInt zs.length) w' ∧ w'.heap[g]? = some (.cells (zs.map (Value.int .i64)).toArray 2 (0, 0)) ∧ Keeps (· = g) w w' := by
  have hsz : (Try.prog.info? 2).map (·.size) = some 1 := by kernel_rfl
  rcases h with ⟨rfl, rfl⟩ | ⟨b, off, cap, cur, rfl, hb, hc, hcap, hz⟩
  · refine ⟨w, ?_, hg, Keeps.refl _ _⟩
    have := run_copy_none (P := Try.prog) w 28 28 3 2 (some ⟨g, 0, none⟩) none 0 0 0 0 Try.underlying28 hsz rfl
    exact this
  · have hr := run_copy_row (P := Try.prog) w 28 28 3 2 g 0 zs.length zs.length ⟨b, off, none⟩ zs.length cap _ 2 (zs.map (Value.int .i64)) Try.underlying28 hsz hg (by simp) (fun j u hu => by
      rw [show (⟨b, off, none⟩ : Addr).add j = ⟨b, off + j, none⟩ by unfold Addr.add; split <;> simp_all]
      rw [List.getElem?_map] at hu
      cases hzj : zs[j]? with
      | none => rw [hzj] at hu; cases hu
      | some z =>
        rw [hzj] at hu
        rw [blk_cell hb, hz j z hzj]
        exact hu) (by simp) (fun u hu => by
      obtain ⟨z, _, rfl⟩ := List.mem_map.1 hu
      rfl)
    have e : (List.replicate zs.length (Value.int .i64 0)).toArray.toList.take 0 ++ zs.map (Value.int .i64) ++ (List.replicate zs.length (Value.int .i64 0)).toArray.toList.drop (0 + (zs.map (Value.int .i64)).length) = zs.map (Value.int .i64) := by simp
    rw [e] at hr
    refine ⟨_, by rw [hr]; simp, setRow_heap w g _ _ _ _ hg, ⟨rfl, rfl, rfl, by simp [World.setRow], fun k _ hk => setRow_other w g k _ (fun e => hk e)⟩⟩
theorem held_new {w : World} {g : Nat} {zs : List Int} (h : w.heap[g]? = some (.cells (zs.map (Value.int .i64)).toArray 2 (0, 0))) : Held w (.slice (some ⟨g, 0, none⟩) zs.length zs.length) zs :=
  .inr ⟨g, 0, zs.length, _, rfl, h, Nat.le_refl _, by simp, fun i z hz => by simp [hz]⟩
theorem results_one4 {P : Program} {fn : Func} {q : Tmp} {ty : TypeId} (h : fn.results = #[.cell q ty]) {tmps : Array Value} {w : World} {g : Nat} (ha : tmps.getD q undef = .pointer (some ⟨g, 0, none⟩)) {v : Value}
    (hl : (loadVar ty ⟨g, 0, none⟩).run P w = .ok v w) : (results fn tmps).run P w = .ok v w := by
  have ha' : tmps[q]?.getD undef = .pointer (some ⟨g, 0, none⟩) := by simpa using ha
  simp [results, h, ha', asAddr, hl]
set_option maxHeartbeats 1000000 in
theorem copied_ok (most : Nat) (v : Value) (zs : List Int) (w : World) (h : Held w v zs) (hl : zs.length ≤ 4096) :
    Calls Try.prog 39 #[.agg #[.int .i64 most, v]] w fun e w' => ∃ g, e = .returned (.agg #[.int .i64 most, .slice (some ⟨g, 0, none⟩) zs.length zs.length]) ∧ Held w' (.slice (some ⟨g, 0, none⟩) zs.length zs.length) zs ∧ w.heap.size ≤ g ∧ Keeps None w w' := by
  obtain ⟨ao, cap, rfl, -⟩ := h.shape
  have hal : Keeps None w ((w.alloc (.cells #[.int .i64 most, .slice ao zs.length cap] 47)).alloc (.cells #[.int .i64 0, .slice none 0 0] 47)) := ((Keeps.refl _ w).andAlloc _).andAlloc _
  have bB := blk_kept (heap_alloc_new w (.cells #[.int .i64 most, .slice ao zs.length cap] 47)) (Keeps.alloc None (w.alloc (.cells #[.int .i64 most, .slice ao zs.length cap] 47)) (.cells #[.int .i64 0, .slice none 0 0] 47)) (fun f => f)
  have bR := heap_alloc_new (w.alloc (.cells #[.int .i64 most, .slice ao zs.length cap] 47)) (.cells #[.int .i64 0, .slice none 0 0] 47)
  obtain ⟨W, hW⟩ : ∃ W, W = (w.alloc (.cells #[.int .i64 most, .slice ao zs.length cap] 47)).alloc (.cells #[.int .i64 0, .slice none 0 0] 47) := ⟨_, rfl⟩
  obtain ⟨B, hB⟩ : ∃ B, B = w.heap.size := ⟨_, rfl⟩
  have sB : (w.alloc (.cells #[.int .i64 most, .slice ao zs.length cap] 47)).heap.size = B + 1 := by rw [hB]; simp
  have sW : W.heap.size = B + 2 := by rw [hW, hB]; simp
  rw [sB] at bR
  rw [← hW] at hal bB bR
  rw [← hB] at bB
  have hmk := make_i64h zs.length W (by omega)
  rw [sW] at hmk
  have k3 := Keeps.alloc None W (.cells (List.replicate zs.length (Value.int .i64 0)).toArray 2)
  have b3 := heap_alloc_new W (.cells (List.replicate zs.length (Value.int .i64 0)).toArray 2)
  obtain ⟨W3, hW3⟩ : ∃ W3, W3 = W.alloc (.cells (List.replicate zs.length (Value.int .i64 0)).toArray 2) := ⟨_, rfl⟩
  rw [← hW3] at hmk k3 b3
  rw [sW] at b3
  have h3 : Held W3 (.slice ao zs.length cap) zs := (h.kept hal (fun _ _ f => f)).kept k3 (fun _ _ f => f)
  obtain ⟨W4, hcp, b4, k4⟩ := copy_held (B + 2) _ zs W3 h3 b3
  have c1 : W.cell? ⟨B, 1, none⟩ = some (.slice ao zs.length cap) := (blk_cell bB 1).trans rfl
  have bB3 := blk_kept bB k3 (fun f => f)
  have bB4 := blk_kept bB3 k4 (by omega)
  have bR4 := blk_kept (blk_kept bR k3 (fun f => f)) k4 (by omega)
  have c3 : W3.cell? ⟨B, 1, none⟩ = some (.slice ao zs.length cap) := (blk_cell bB3 1).trans rfl
  have c4 : W4.cell? ⟨B, 0, none⟩ = some (.int .i64 most) := (blk_cell bB4 0).trans rfl
  have r0 : W4.cell? ⟨B + 1, 0, none⟩ = some (.int .i64 0) := (blk_cell bR4 0).trans rfl
  have r1 : W4.cell? ⟨B + 1, 1, none⟩ = some (.slice none 0 0) := (blk_cell bR4 1).trans rfl
  have f0 := blk_free bR4 0
  have f1 := blk_free bR4 1
  have HF : Hid (B = w.heap.size ∧ Keeps None w W4 ∧ W4.heap[B + 1]? = some (.cells #[.int .i64 0, .slice none 0 0] 47 (0, 0)) ∧ W4.heap[B + 2]? = some (.cells (zs.map (Value.int .i64)).toArray 2 (0, 0))) := ⟨hB, (hal.trans k3 (fun _ f _ => f)).trans k4 (fun i e hi => by omega), bR4, b4⟩
  clear h hal bB bR sB sW k3 b3 hW3 h3 b4 k4 bB3 bB4 bR4
  generalize hL : zs.length = L at *
  go_enter Try.func39, Try.ntmps39
  go_upto_region 1 with fail
  change Code.wp _ _ _ _ ((w.alloc (.cells #[.int .i64 most, .slice ao L cap] 47)).alloc (.cells #[.int .i64 0, .slice none 0 0] 47))
  rw [← hW, ← hB]
  clear hW hB
  go_upto_region 2 with (at_make; refine wpList_make_run rfl (.tmp 6) (.tmp 6) 28 rfl rfl rfl hmk ?_)
  clear hmk c1
  go_wp2_with (at_builtin; refine wpList_copy_run rfl (.tmp 8) (.tmp 10) 28 28 rfl rfl rfl hcp ?_)
  have h1 : ((W4.setCell ⟨B + 1, 0, none⟩ (.int .i64 most)).setCell ⟨B + 1, 1, none⟩ (.slice (some ⟨B + 2, 0, none⟩) L L)).heap[B + 1]? = some (.cells #[.int .i64 most, .slice (some ⟨B + 2, 0, none⟩) L L] 47 (0, 0)) := blk_set (blk_set HF.out.2.2.1 _) _
  have h2 : Keeps (· = B + 1) W4 ((W4.setCell ⟨B + 1, 0, none⟩ (.int .i64 most)).setCell ⟨B + 1, 1, none⟩ (.slice (some ⟨B + 2, 0, none⟩) L L)) := (Keeps.setCell (S := (· = B + 1)) _ (a := ⟨B + 1, 0, none⟩) rfl _).trans (Keeps.setCell (S := (· = B + 1)) _ (a := ⟨B + 1, 1, none⟩) rfl _) (fun _ e _ => e)
  refine bodyPost_ret (results_one4 (q := 2) (ty := 47) rfl rfl (run_loadVar_row _ (B + 1) _ 47 _ _ _ h1 Try.underlying47 rfl (by kernel_rfl))) rfl ⟨B + 2, rfl, ?_, by have := HF.out.1; omega, HF.out.2.1.trans h2 (fun i e hi => by have := HF.out.1; omega)⟩
  have h3 := held_new (zs := zs) (blk_kept HF.out.2.2.2 h2 (by omega))
  rw [hL] at h3
  exact h3
end Go.Proofs.Ytheginjjncnheaa
