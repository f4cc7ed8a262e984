import Derived.Test.YtheginjjncnheaaHiPlain
/-! The document's plain deque does a call. -/
namespace Go.Proofs.Ytheginjjncnheaa
set_option linter.unusedVariables false
set_option maxRecDepth 20000
open Go.RowKit Go.HeapKit

/-- 'append([]int64{}, row...)'. -/
theorem held_copy (v : Value) (zs : List Int) (w : World) (h : Held w v zs) (hlen : zs.length ≤ 1000000) :
    ∃ v' w', (Builtin.append_ #[28, 28] 28 #[.slice (some ⟨w.heap.size, 0, none⟩) 0 0, v]).run Try.prog (w.alloc (.cells #[] 2)) = .ok v' w' ∧ Held w' v' zs ∧ Keeps None w w' ∧ (∀ g, v'.ownBlock = some g → w.heap.size ≤ g) := by
  obtain ⟨i0, hi, hz0, hz1, hz2⟩ := info_parts Try.infoInt64
  have hown : (w.alloc (.cells #[] 2)).ownsRow w.heap.size 2 1 (.slice (some ⟨w.heap.size, 0, none⟩) 0 0) 0 [] := World.ownsRow_lit w #[] 0 (Nat.le_refl _) (by unfold maxLen; omega) rfl
  have hheld : Held (w.alloc (.cells #[] 2)) (.slice (some ⟨w.heap.size, 0, none⟩) 0 0) [] := .inr ⟨w.heap.size, 0, 0, #[], rfl, blk_new w _ _ rfl, Nat.le_refl _, by simp, by simp⟩
  rcases h with ⟨rfl, rfl⟩ | ⟨g, off, cap, cur, rfl, hb, hc, hs, hr⟩
  · refine ⟨_, _, run_append_owned_none (P := Try.prog) _ w.heap.size 28 28 2 i0 1 Try.underlying28 hi _ 0 [] hown, hheld, Keeps.alloc None w _, ?_⟩
    intro g hg
    simp [Value.ownBlock] at hg
    omega
  · have hlt : g < w.heap.size := (Array.getElem?_eq_some_iff.1 hb).1
    have hb1 : (w.alloc (.cells #[] 2)).heap[g]? = some (.cells cur 2 (0, 0)) := (Below.heap_alloc _ _ _ hlt).trans hb
    obtain ⟨v', w1, hrun, ho, hgr, hm, -⟩ := run_append_moved (P := Try.prog) (w.alloc (.cells #[] 2)) w.heap.size 28 28 2 i0 _ 1 8 Try.underlying28 hi hz0 hz1 hz2 rfl (by decide) (.slice (some ⟨w.heap.size, 0, none⟩) 0 0) 0 [] hown
      ⟨g, off, none⟩ zs.length cap (zs.map (Value.int .i64)) (by simp) (by
        intro j u hu
        rw [show (⟨g, off, none⟩ : Addr).add j = ⟨g, off + j, none⟩ by unfold Addr.add; split <;> simp_all, blk_cell hb1]
        rw [List.getElem?_map] at hu
        cases hzj : zs[j]? with
        | none => simp [hzj] at hu
        | some z => simp [hzj] at hu; subst hu; exact hr j z hzj) (by
        intro u hu
        obtain ⟨z, _, rfl⟩ := List.mem_map.1 hu
        rfl) (by unfold maxLen; omega) (by omega) (by simp)
    simp only [Nat.zero_add, List.nil_append] at ho
    refine ⟨v', w1, hrun, ?_, ((Keeps.refl _ w).andAlloc _).andGrown hgr (fun k e => by simp [Value.ownBlock] at e; exact .inr (by omega)), fun k e => row_low ho e⟩
    rcases ho.2 with ⟨e, h0⟩ | ⟨g2, cap2, cur2, rfl, _, hg2, hnc, _, hcs, ht⟩
    · exact .inl ⟨e, List.eq_nil_of_length_eq_zero h0⟩
    · refine .inr ⟨g2, 0, cap2, cur2, rfl, hg2, hnc, by omega, ?_⟩
      intro i z hz
      have hz2 : (zs.map (Value.int .i64))[i]? = some (.int .i64 z) := by simp [hz]
      rw [← ht, List.getElem?_take] at hz2
      split at hz2
      · simpa using hz2
      · cases hz2

def doR (row : List Int) (c : Cl) (most : Nat) : List Int × Bool :=
  if c.code = 3 then (row, decide (row.length = most))
  else if c.code = 5 then (row, decide (row.length = 0))
  else if c.code = 6 then (row, true)
  else if c.kind = 0 then (if most ≤ row.length then (row, false) else (row ++ [c.arg], true))
  else if row = [] then (row, false)
  else if c.kind = 1 then (row.dropLast, decide (c.code = 0 ∨ row.getLastD 0 = c.v))
  else (row.tail, decide (c.code = 0 ∨ row.headD 0 = c.v))

def DoPost (w : World) (v : Value) (r : List Int × Bool) (e : Ending) (w' : World) : Prop := ∃ v', e = .returned (.tuple #[v', .bool r.2]) ∧ Held w' v' r.1 ∧ Keeps None w w' ∧ Moved w v v'
theorem held_box {w : World} {v : Value} {zs : List Int} (h : Held w v zs) (o : Obj) (m : Nat) : Held ((w.alloc o).drewN m) v zs ∧ Keeps None w ((w.alloc o).drewN m) :=
  have hk : Keeps None w ((w.alloc o).drewN m) := (Keeps.alloc None w o).trans ⟨rfl, rfl, rfl, Nat.le_refl _, fun _ _ _ => rfl⟩ (fun _ f _ => f)
  ⟨h.kept hk (fun _ _ f => f), hk⟩
theorem held_box0 {w : World} {v : Value} {zs : List Int} (h : Held w v zs) (o : Obj) : Held (w.alloc o) v zs ∧ Keeps None w (w.alloc o) :=
  ⟨h.kept (Keeps.alloc None w o) (fun _ _ f => f), Keeps.alloc None w o⟩

theorem do_full_t (v : Value) (row : List Int) (c : Cl) (most : Nat) (w : World) (h : Held w v row) (hs : row.length ≤ 1000000) (hm : most ≤ 4096) (c3 : (c.code == 3) = true) (he : row.length = most) :
    Calls Try.prog 45 #[v, .agg #[.int .i64 c.who, .int .i64 c.kind, .int .i64 c.arg, .int .i64 c.beg, .int .i64 c.fin, .int .i64 c.code, .int .i64 c.v], .int .i64 most] w (DoPost w v (row, true)) := by
  obtain ⟨ao, cap, rfl, hcap⟩ := h.shape
  have HN : Hid (Held (w.alloc (.cells #[.int .i64 c.who, .int .i64 c.kind, .int .i64 c.arg, .int .i64 c.beg, .int .i64 c.fin, .int .i64 c.code, .int .i64 c.v] 49)) (.slice ao row.length cap) row ∧ Keeps None w (w.alloc (.cells #[.int .i64 c.who, .int .i64 c.kind, .int .i64 c.arg, .int .i64 c.beg, .int .i64 c.fin, .int .i64 c.code, .int .i64 c.v] 49))) := held_box0 h _
  have b1 : ((row.length : Int) == (most : Int)) = true := beq_iff_eq.2 (by omega)
  clear he
  clear h
  generalize row.length = n at *
  go_enter Try.func45, Try.ntmps45
  go_wp2
  go_ret2
  exact ⟨_, rfl, HN.out.1, HN.out.2, .inl rfl⟩

theorem do_full_f (v : Value) (row : List Int) (c : Cl) (most : Nat) (w : World) (h : Held w v row) (hs : row.length ≤ 1000000) (hm : most ≤ 4096) (c3 : (c.code == 3) = true) (he : ¬ row.length = most) :
    Calls Try.prog 45 #[v, .agg #[.int .i64 c.who, .int .i64 c.kind, .int .i64 c.arg, .int .i64 c.beg, .int .i64 c.fin, .int .i64 c.code, .int .i64 c.v], .int .i64 most] w (DoPost w v (row, false)) := by
  obtain ⟨ao, cap, rfl, hcap⟩ := h.shape
  have HN : Hid (Held (w.alloc (.cells #[.int .i64 c.who, .int .i64 c.kind, .int .i64 c.arg, .int .i64 c.beg, .int .i64 c.fin, .int .i64 c.code, .int .i64 c.v] 49)) (.slice ao row.length cap) row ∧ Keeps None w (w.alloc (.cells #[.int .i64 c.who, .int .i64 c.kind, .int .i64 c.arg, .int .i64 c.beg, .int .i64 c.fin, .int .i64 c.code, .int .i64 c.v] 49))) := held_box0 h _
  have b1 : ((row.length : Int) == (most : Int)) = false := beq_eq_false_iff_ne.2 (by omega)
  clear he
  clear h
  generalize row.length = n at *
  go_enter Try.func45, Try.ntmps45
  go_wp2
  go_ret2
  exact ⟨_, rfl, HN.out.1, HN.out.2, .inl rfl⟩

theorem do_empty_t (v : Value) (row : List Int) (c : Cl) (most : Nat) (w : World) (h : Held w v row) (hs : row.length ≤ 1000000) (hm : most ≤ 4096) (c3 : (c.code == 3) = false) (c5 : (c.code == 5) = true) (he : row.length = 0) :
    Calls Try.prog 45 #[v, .agg #[.int .i64 c.who, .int .i64 c.kind, .int .i64 c.arg, .int .i64 c.beg, .int .i64 c.fin, .int .i64 c.code, .int .i64 c.v], .int .i64 most] w (DoPost w v (row, true)) := by
  obtain ⟨ao, cap, rfl, hcap⟩ := h.shape
  have HN : Hid (Held (w.alloc (.cells #[.int .i64 c.who, .int .i64 c.kind, .int .i64 c.arg, .int .i64 c.beg, .int .i64 c.fin, .int .i64 c.code, .int .i64 c.v] 49)) (.slice ao row.length cap) row ∧ Keeps None w (w.alloc (.cells #[.int .i64 c.who, .int .i64 c.kind, .int .i64 c.arg, .int .i64 c.beg, .int .i64 c.fin, .int .i64 c.code, .int .i64 c.v] 49))) := held_box0 h _
  have b1 : ((row.length : Int) == 0) = true := beq_iff_eq.2 (by omega)
  clear he
  clear h
  generalize row.length = n at *
  go_enter Try.func45, Try.ntmps45
  go_wp2
  go_ret2
  exact ⟨_, rfl, HN.out.1, HN.out.2, .inl rfl⟩

theorem do_empty_f (v : Value) (row : List Int) (c : Cl) (most : Nat) (w : World) (h : Held w v row) (hs : row.length ≤ 1000000) (hm : most ≤ 4096) (c3 : (c.code == 3) = false) (c5 : (c.code == 5) = true) (he : ¬ row.length = 0) :
    Calls Try.prog 45 #[v, .agg #[.int .i64 c.who, .int .i64 c.kind, .int .i64 c.arg, .int .i64 c.beg, .int .i64 c.fin, .int .i64 c.code, .int .i64 c.v], .int .i64 most] w (DoPost w v (row, false)) := by
  obtain ⟨ao, cap, rfl, hcap⟩ := h.shape
  have HN : Hid (Held (w.alloc (.cells #[.int .i64 c.who, .int .i64 c.kind, .int .i64 c.arg, .int .i64 c.beg, .int .i64 c.fin, .int .i64 c.code, .int .i64 c.v] 49)) (.slice ao row.length cap) row ∧ Keeps None w (w.alloc (.cells #[.int .i64 c.who, .int .i64 c.kind, .int .i64 c.arg, .int .i64 c.beg, .int .i64 c.fin, .int .i64 c.code, .int .i64 c.v] 49))) := held_box0 h _
  have b1 : ((row.length : Int) == 0) = false := beq_eq_false_iff_ne.2 (by omega)
  clear he
  clear h
  generalize row.length = n at *
  go_enter Try.func45, Try.ntmps45
  go_wp2
  go_ret2
  exact ⟨_, rfl, HN.out.1, HN.out.2, .inl rfl⟩

theorem do_lost (v : Value) (row : List Int) (c : Cl) (most : Nat) (w : World) (h : Held w v row) (hs : row.length ≤ 1000000) (hm : most ≤ 4096) (c3 : (c.code == 3) = false) (c5 : (c.code == 5) = false) (c6 : (c.code == 6) = true) :
    Calls Try.prog 45 #[v, .agg #[.int .i64 c.who, .int .i64 c.kind, .int .i64 c.arg, .int .i64 c.beg, .int .i64 c.fin, .int .i64 c.code, .int .i64 c.v], .int .i64 most] w (DoPost w v (row, true)) := by
  obtain ⟨ao, cap, rfl, hcap⟩ := h.shape
  have HN : Hid (Held (w.alloc (.cells #[.int .i64 c.who, .int .i64 c.kind, .int .i64 c.arg, .int .i64 c.beg, .int .i64 c.fin, .int .i64 c.code, .int .i64 c.v] 49)) (.slice ao row.length cap) row ∧ Keeps None w (w.alloc (.cells #[.int .i64 c.who, .int .i64 c.kind, .int .i64 c.arg, .int .i64 c.beg, .int .i64 c.fin, .int .i64 c.code, .int .i64 c.v] 49))) := held_box0 h _
  skip
  clear h
  generalize row.length = n at *
  go_enter Try.func45, Try.ntmps45
  go_wp2
  go_ret2
  exact ⟨_, rfl, HN.out.1, HN.out.2, .inl rfl⟩

theorem do_no_room (v : Value) (row : List Int) (c : Cl) (most : Nat) (w : World) (h : Held w v row) (hs : row.length ≤ 1000000) (hm : most ≤ 4096) (c3 : (c.code == 3) = false) (c5 : (c.code == 5) = false) (c6 : (c.code == 6) = false) (k0 : (c.kind == 0) = true) (he : most ≤ row.length) :
    Calls Try.prog 45 #[v, .agg #[.int .i64 c.who, .int .i64 c.kind, .int .i64 c.arg, .int .i64 c.beg, .int .i64 c.fin, .int .i64 c.code, .int .i64 c.v], .int .i64 most] w (DoPost w v (row, false)) := by
  obtain ⟨ao, cap, rfl, hcap⟩ := h.shape
  have HN : Hid (Held (w.alloc (.cells #[.int .i64 c.who, .int .i64 c.kind, .int .i64 c.arg, .int .i64 c.beg, .int .i64 c.fin, .int .i64 c.code, .int .i64 c.v] 49)) (.slice ao row.length cap) row ∧ Keeps None w (w.alloc (.cells #[.int .i64 c.who, .int .i64 c.kind, .int .i64 c.arg, .int .i64 c.beg, .int .i64 c.fin, .int .i64 c.code, .int .i64 c.v] 49))) := held_box0 h _
  have b1 : (most : Int) ≤ (row.length : Int) := by omega
  clear h
  generalize row.length = n at *
  go_enter Try.func45, Try.ntmps45
  go_wp2
  go_ret2
  exact ⟨_, rfl, HN.out.1, HN.out.2, .inl rfl⟩

theorem do_none (v : Value) (row : List Int) (c : Cl) (most : Nat) (w : World) (h : Held w v row) (hs : row.length ≤ 1000000) (hm : most ≤ 4096) (c3 : (c.code == 3) = false) (c5 : (c.code == 5) = false) (c6 : (c.code == 6) = false) (k0 : (c.kind == 0) = false) (he : row.length = 0) :
    Calls Try.prog 45 #[v, .agg #[.int .i64 c.who, .int .i64 c.kind, .int .i64 c.arg, .int .i64 c.beg, .int .i64 c.fin, .int .i64 c.code, .int .i64 c.v], .int .i64 most] w (DoPost w v (row, false)) := by
  obtain ⟨ao, cap, rfl, hcap⟩ := h.shape
  have HN : Hid (Held (w.alloc (.cells #[.int .i64 c.who, .int .i64 c.kind, .int .i64 c.arg, .int .i64 c.beg, .int .i64 c.fin, .int .i64 c.code, .int .i64 c.v] 49)) (.slice ao row.length cap) row ∧ Keeps None w (w.alloc (.cells #[.int .i64 c.who, .int .i64 c.kind, .int .i64 c.arg, .int .i64 c.beg, .int .i64 c.fin, .int .i64 c.code, .int .i64 c.v] 49))) := held_box0 h _
  have b1 : ((row.length : Int) == 0) = true := beq_iff_eq.2 (by omega)
  clear he
  clear h
  generalize row.length = n at *
  go_enter Try.func45, Try.ntmps45
  go_wp2
  go_ret2
  exact ⟨_, rfl, HN.out.1, HN.out.2, .inl rfl⟩

set_option maxRecDepth 20000 in
theorem do_push (v : Value) (row : List Int) (c : Cl) (most : Nat) (w : World) (h : Held w v row) (hs : row.length ≤ 1000000) (hm : most ≤ 4096) (c3 : (c.code == 3) = false) (c5 : (c.code == 5) = false) (c6 : (c.code == 6) = false) (k0 : (c.kind == 0) = true) (he : ¬ most ≤ row.length) :
    Calls Try.prog 45 #[v, .agg #[.int .i64 c.who, .int .i64 c.kind, .int .i64 c.arg, .int .i64 c.beg, .int .i64 c.fin, .int .i64 c.code, .int .i64 c.v], .int .i64 most] w (DoPost w v (row ++ [c.arg], true)) := by
  obtain ⟨v1, w1, hr1, hh1, hk1, hl1⟩ := held_copy v row (w.alloc (.cells #[.int .i64 c.who, .int .i64 c.kind, .int .i64 c.arg, .int .i64 c.beg, .int .i64 c.fin, .int .i64 c.code, .int .i64 c.v] 49)) (held_box0 h _).1 hs
  obtain ⟨v2, w2, hr2, hh2, hk2, hm2⟩ := held_more v1 row c.arg 28 w1 hh1 hs
  have hkeep : Keeps None w w2 := ((Keeps.alloc None w _).trans hk1 (fun _ f _ => f)).trans hk2 (fun i e hi => by have := hl1 i e; simp at this; omega)
  have hmov : Moved w v v2 := by
    rcases hm2 with e | ⟨g, e, hg⟩
    · cases hv : v1.ownBlock with
      | none =>
        rcases hh2 with ⟨rfl, e2⟩ | ⟨g, off, cap, cur, rfl, _⟩
        · simp at e2
        · rw [hv] at e; simp [Value.ownBlock] at e
      | some g => exact .inr ⟨g, e.trans hv, by have := hl1 g hv; simp at this; omega⟩
    · exact .inr ⟨g, e, by have := hk1.size; simp at this; omega⟩
  have HN : Hid (Held w2 v2 (row ++ [c.arg]) ∧ Keeps None w w2 ∧ Moved w v v2) := ⟨hh2, hkeep, hmov⟩
  obtain ⟨ao, cap, rfl, hcap⟩ := h.shape
  have x4 : w1.cell? ⟨w.heap.size, 2, none⟩ = some (.int .i64 c.arg) := hk1.cell (by rw [blk_cell (blk_new w _ _ rfl)]; rfl) (fun f => f)
  have b1 : ¬ (most : Int) ≤ (row.length : Int) := by omega
  simp only [World.size_alloc] at hr1
  clear h hh1 hk1 hl1 hh2 hk2 hm2 hkeep hmov he
  generalize row.length = n at *
  go_enter Try.func45, Try.ntmps45
  go_wp2_with (first
    | (at_builtin; refine wpList_append_run rfl (.tmp 35) (.tmp 36) 28 28 rfl rfl rfl hr1 ?_)
    | (at_builtin; refine wpList_append_run rfl (.tmp 38) (.tmp 41) 28 28 rfl rfl rfl hr2 ?_))
  go_ret2
  exact ⟨_, rfl, HN.out⟩

theorem do_pop_run (v : Value) (r : List Int) (z : Int) (c : Cl) (most : Nat) (w : World) (h : Held w v (r ++ [z])) (hs : r.length ≤ 1000000) (hm : most ≤ 4096) (c3 : (c.code == 3) = false) (c5 : (c.code == 5) = false) (c6 : (c.code == 6) = false) (k0 : (c.kind == 0) = false) (k1 : (c.kind == 1) = true) (c0 : (c.code == 0) = true)  :
    Calls Try.prog 45 #[v, .agg #[.int .i64 c.who, .int .i64 c.kind, .int .i64 c.arg, .int .i64 c.beg, .int .i64 c.fin, .int .i64 c.code, .int .i64 c.v], .int .i64 most] w (DoPost w v (r, true)) := by
  obtain ⟨g, off, cap, rfl, hc, hz⟩ := h.at (i := r.length) (z := z) (by simp)
  rw [show (r ++ [z]).length = r.length + 1 by simp] at h hc
  have HN : Hid (∀ m, Held ((w.alloc (.cells #[.int .i64 c.who, .int .i64 c.kind, .int .i64 c.arg, .int .i64 c.beg, .int .i64 c.fin, .int .i64 c.code, .int .i64 c.v] 49)).drewN m) (.slice (some ⟨g, off, none⟩) r.length cap) r ∧ Keeps None w ((w.alloc (.cells #[.int .i64 c.who, .int .i64 c.kind, .int .i64 c.arg, .int .i64 c.beg, .int .i64 c.fin, .int .i64 c.code, .int .i64 c.v] 49)).drewN m)) := fun m => held_box (by have := h.init (by simp); simpa using this) _ m
  have hz2 : (w.alloc (.cells #[.int .i64 c.who, .int .i64 c.kind, .int .i64 c.arg, .int .i64 c.beg, .int .i64 c.fin, .int .i64 c.code, .int .i64 c.v] 49)).cell? ⟨g, off + r.length, none⟩ = some (.int .i64 z) := (Keeps.alloc None w _).cell hz (fun f => f)
  clear h
  rw [show (r ++ [z]).length = r.length + 1 by simp]
  generalize r.length = n at *
  go_enter Try.func45, Try.ntmps45
  go_wp2
  go_quiet (fail)
  go_wp2
  go_ret2
  exact ⟨_, rfl, (HN.out _).1, (HN.out _).2, .inl rfl⟩

theorem do_pop_t (v : Value) (r : List Int) (z : Int) (c : Cl) (most : Nat) (w : World) (h : Held w v (r ++ [z])) (hs : r.length ≤ 1000000) (hm : most ≤ 4096) (c3 : (c.code == 3) = false) (c5 : (c.code == 5) = false) (c6 : (c.code == 6) = false) (k0 : (c.kind == 0) = false) (k1 : (c.kind == 1) = true) (c0 : (c.code == 0) = false) (b : (z == c.v) = true) :
    Calls Try.prog 45 #[v, .agg #[.int .i64 c.who, .int .i64 c.kind, .int .i64 c.arg, .int .i64 c.beg, .int .i64 c.fin, .int .i64 c.code, .int .i64 c.v], .int .i64 most] w (DoPost w v (r, true)) := by
  obtain ⟨g, off, cap, rfl, hc, hz⟩ := h.at (i := r.length) (z := z) (by simp)
  rw [show (r ++ [z]).length = r.length + 1 by simp] at h hc
  have HN : Hid (∀ m, Held ((w.alloc (.cells #[.int .i64 c.who, .int .i64 c.kind, .int .i64 c.arg, .int .i64 c.beg, .int .i64 c.fin, .int .i64 c.code, .int .i64 c.v] 49)).drewN m) (.slice (some ⟨g, off, none⟩) r.length cap) r ∧ Keeps None w ((w.alloc (.cells #[.int .i64 c.who, .int .i64 c.kind, .int .i64 c.arg, .int .i64 c.beg, .int .i64 c.fin, .int .i64 c.code, .int .i64 c.v] 49)).drewN m)) := fun m => held_box (by have := h.init (by simp); simpa using this) _ m
  have hz2 : (w.alloc (.cells #[.int .i64 c.who, .int .i64 c.kind, .int .i64 c.arg, .int .i64 c.beg, .int .i64 c.fin, .int .i64 c.code, .int .i64 c.v] 49)).cell? ⟨g, off + r.length, none⟩ = some (.int .i64 z) := (Keeps.alloc None w _).cell hz (fun f => f)
  clear h
  rw [show (r ++ [z]).length = r.length + 1 by simp]
  generalize r.length = n at *
  go_enter Try.func45, Try.ntmps45
  go_wp2
  go_quiet (fail)
  go_wp2
  go_ret2
  exact ⟨_, rfl, (HN.out _).1, (HN.out _).2, .inl rfl⟩

theorem do_pop_f (v : Value) (r : List Int) (z : Int) (c : Cl) (most : Nat) (w : World) (h : Held w v (r ++ [z])) (hs : r.length ≤ 1000000) (hm : most ≤ 4096) (c3 : (c.code == 3) = false) (c5 : (c.code == 5) = false) (c6 : (c.code == 6) = false) (k0 : (c.kind == 0) = false) (k1 : (c.kind == 1) = true) (c0 : (c.code == 0) = false) (b : (z == c.v) = false) :
    Calls Try.prog 45 #[v, .agg #[.int .i64 c.who, .int .i64 c.kind, .int .i64 c.arg, .int .i64 c.beg, .int .i64 c.fin, .int .i64 c.code, .int .i64 c.v], .int .i64 most] w (DoPost w v (r, false)) := by
  obtain ⟨g, off, cap, rfl, hc, hz⟩ := h.at (i := r.length) (z := z) (by simp)
  rw [show (r ++ [z]).length = r.length + 1 by simp] at h hc
  have HN : Hid (∀ m, Held ((w.alloc (.cells #[.int .i64 c.who, .int .i64 c.kind, .int .i64 c.arg, .int .i64 c.beg, .int .i64 c.fin, .int .i64 c.code, .int .i64 c.v] 49)).drewN m) (.slice (some ⟨g, off, none⟩) r.length cap) r ∧ Keeps None w ((w.alloc (.cells #[.int .i64 c.who, .int .i64 c.kind, .int .i64 c.arg, .int .i64 c.beg, .int .i64 c.fin, .int .i64 c.code, .int .i64 c.v] 49)).drewN m)) := fun m => held_box (by have := h.init (by simp); simpa using this) _ m
  have hz2 : (w.alloc (.cells #[.int .i64 c.who, .int .i64 c.kind, .int .i64 c.arg, .int .i64 c.beg, .int .i64 c.fin, .int .i64 c.code, .int .i64 c.v] 49)).cell? ⟨g, off + r.length, none⟩ = some (.int .i64 z) := (Keeps.alloc None w _).cell hz (fun f => f)
  clear h
  rw [show (r ++ [z]).length = r.length + 1 by simp]
  generalize r.length = n at *
  go_enter Try.func45, Try.ntmps45
  go_wp2
  go_quiet (fail)
  go_wp2
  go_ret2
  exact ⟨_, rfl, (HN.out _).1, (HN.out _).2, .inl rfl⟩

theorem do_steal_run (v : Value) (r : List Int) (z : Int) (c : Cl) (most : Nat) (w : World) (h : Held w v (z :: r)) (hs : r.length ≤ 1000000) (hm : most ≤ 4096) (c3 : (c.code == 3) = false) (c5 : (c.code == 5) = false) (c6 : (c.code == 6) = false) (k0 : (c.kind == 0) = false) (k1 : (c.kind == 1) = false) (c0 : (c.code == 0) = true)  :
    Calls Try.prog 45 #[v, .agg #[.int .i64 c.who, .int .i64 c.kind, .int .i64 c.arg, .int .i64 c.beg, .int .i64 c.fin, .int .i64 c.code, .int .i64 c.v], .int .i64 most] w (DoPost w v (r, true)) := by
  obtain ⟨g, off, cap, rfl, hc, hz⟩ := h.at (i := 0) (z := z) (by simp)
  simp only [List.length_cons, Nat.add_zero] at h hc hz
  have hz2 : (w.alloc (.cells #[.int .i64 c.who, .int .i64 c.kind, .int .i64 c.arg, .int .i64 c.beg, .int .i64 c.fin, .int .i64 c.code, .int .i64 c.v] 49)).cell? ⟨g, off, none⟩ = some (.int .i64 z) := (Keeps.alloc None w _).cell hz (fun f => f)
  by_cases hcap : cap = 1
  · subst hcap
    have hz0 : r = [] := by cases r with
      | nil => rfl
      | cons a b => simp at hc
    subst hz0
    have HN : Hid (∀ m, Held ((w.alloc (.cells #[.int .i64 c.who, .int .i64 c.kind, .int .i64 c.arg, .int .i64 c.beg, .int .i64 c.fin, .int .i64 c.code, .int .i64 c.v] 49)).drewN m) (.slice (some ⟨g, off, none⟩) 0 0) [] ∧ Keeps None w ((w.alloc (.cells #[.int .i64 c.who, .int .i64 c.kind, .int .i64 c.arg, .int .i64 c.beg, .int .i64 c.fin, .int .i64 c.code, .int .i64 c.v] 49)).drewN m)) := fun m => held_box h.none _ m
    clear h
    simp only [List.length_nil, List.length_cons, Nat.zero_add] at *
    go_enter Try.func45, Try.ntmps45
    go_wp2
    go_quiet (fail)
    go_wp2
    go_ret2
    exact ⟨_, rfl, (HN.out _).1, (HN.out _).2, .inl rfl⟩
  · have HN : Hid (∀ m, Held ((w.alloc (.cells #[.int .i64 c.who, .int .i64 c.kind, .int .i64 c.arg, .int .i64 c.beg, .int .i64 c.fin, .int .i64 c.code, .int .i64 c.v] 49)).drewN m) (.slice (some ⟨g, off + 1, none⟩) r.length (cap - 1)) r ∧ Keeps None w ((w.alloc (.cells #[.int .i64 c.who, .int .i64 c.kind, .int .i64 c.arg, .int .i64 c.beg, .int .i64 c.fin, .int .i64 c.code, .int .i64 c.v] 49)).drewN m)) := fun m => held_box (h.tail rfl) _ m
    clear h
    simp only [List.length_cons]
    generalize r.length = n at *
    go_enter Try.func45, Try.ntmps45
    go_wp2
    go_quiet (fail)
    go_wp2
    go_ret2
    exact ⟨_, rfl, (HN.out _).1, (HN.out _).2, .inl rfl⟩

theorem do_steal_t (v : Value) (r : List Int) (z : Int) (c : Cl) (most : Nat) (w : World) (h : Held w v (z :: r)) (hs : r.length ≤ 1000000) (hm : most ≤ 4096) (c3 : (c.code == 3) = false) (c5 : (c.code == 5) = false) (c6 : (c.code == 6) = false) (k0 : (c.kind == 0) = false) (k1 : (c.kind == 1) = false) (c0 : (c.code == 0) = false) (b : (z == c.v) = true) :
    Calls Try.prog 45 #[v, .agg #[.int .i64 c.who, .int .i64 c.kind, .int .i64 c.arg, .int .i64 c.beg, .int .i64 c.fin, .int .i64 c.code, .int .i64 c.v], .int .i64 most] w (DoPost w v (r, true)) := by
  obtain ⟨g, off, cap, rfl, hc, hz⟩ := h.at (i := 0) (z := z) (by simp)
  simp only [List.length_cons, Nat.add_zero] at h hc hz
  have hz2 : (w.alloc (.cells #[.int .i64 c.who, .int .i64 c.kind, .int .i64 c.arg, .int .i64 c.beg, .int .i64 c.fin, .int .i64 c.code, .int .i64 c.v] 49)).cell? ⟨g, off, none⟩ = some (.int .i64 z) := (Keeps.alloc None w _).cell hz (fun f => f)
  by_cases hcap : cap = 1
  · subst hcap
    have hz0 : r = [] := by cases r with
      | nil => rfl
      | cons a b => simp at hc
    subst hz0
    have HN : Hid (∀ m, Held ((w.alloc (.cells #[.int .i64 c.who, .int .i64 c.kind, .int .i64 c.arg, .int .i64 c.beg, .int .i64 c.fin, .int .i64 c.code, .int .i64 c.v] 49)).drewN m) (.slice (some ⟨g, off, none⟩) 0 0) [] ∧ Keeps None w ((w.alloc (.cells #[.int .i64 c.who, .int .i64 c.kind, .int .i64 c.arg, .int .i64 c.beg, .int .i64 c.fin, .int .i64 c.code, .int .i64 c.v] 49)).drewN m)) := fun m => held_box h.none _ m
    clear h
    simp only [List.length_nil, List.length_cons, Nat.zero_add] at *
    go_enter Try.func45, Try.ntmps45
    go_wp2
    go_quiet (fail)
    go_wp2
    go_ret2
    exact ⟨_, rfl, (HN.out _).1, (HN.out _).2, .inl rfl⟩
  · have HN : Hid (∀ m, Held ((w.alloc (.cells #[.int .i64 c.who, .int .i64 c.kind, .int .i64 c.arg, .int .i64 c.beg, .int .i64 c.fin, .int .i64 c.code, .int .i64 c.v] 49)).drewN m) (.slice (some ⟨g, off + 1, none⟩) r.length (cap - 1)) r ∧ Keeps None w ((w.alloc (.cells #[.int .i64 c.who, .int .i64 c.kind, .int .i64 c.arg, .int .i64 c.beg, .int .i64 c.fin, .int .i64 c.code, .int .i64 c.v] 49)).drewN m)) := fun m => held_box (h.tail rfl) _ m
    clear h
    simp only [List.length_cons]
    generalize r.length = n at *
    go_enter Try.func45, Try.ntmps45
    go_wp2
    go_quiet (fail)
    go_wp2
    go_ret2
    exact ⟨_, rfl, (HN.out _).1, (HN.out _).2, .inl rfl⟩

theorem do_steal_f (v : Value) (r : List Int) (z : Int) (c : Cl) (most : Nat) (w : World) (h : Held w v (z :: r)) (hs : r.length ≤ 1000000) (hm : most ≤ 4096) (c3 : (c.code == 3) = false) (c5 : (c.code == 5) = false) (c6 : (c.code == 6) = false) (k0 : (c.kind == 0) = false) (k1 : (c.kind == 1) = false) (c0 : (c.code == 0) = false) (b : (z == c.v) = false) :
    Calls Try.prog 45 #[v, .agg #[.int .i64 c.who, .int .i64 c.kind, .int .i64 c.arg, .int .i64 c.beg, .int .i64 c.fin, .int .i64 c.code, .int .i64 c.v], .int .i64 most] w (DoPost w v (r, false)) := by
  obtain ⟨g, off, cap, rfl, hc, hz⟩ := h.at (i := 0) (z := z) (by simp)
  simp only [List.length_cons, Nat.add_zero] at h hc hz
  have hz2 : (w.alloc (.cells #[.int .i64 c.who, .int .i64 c.kind, .int .i64 c.arg, .int .i64 c.beg, .int .i64 c.fin, .int .i64 c.code, .int .i64 c.v] 49)).cell? ⟨g, off, none⟩ = some (.int .i64 z) := (Keeps.alloc None w _).cell hz (fun f => f)
  by_cases hcap : cap = 1
  · subst hcap
    have hz0 : r = [] := by cases r with
      | nil => rfl
      | cons a b => simp at hc
    subst hz0
    have HN : Hid (∀ m, Held ((w.alloc (.cells #[.int .i64 c.who, .int .i64 c.kind, .int .i64 c.arg, .int .i64 c.beg, .int .i64 c.fin, .int .i64 c.code, .int .i64 c.v] 49)).drewN m) (.slice (some ⟨g, off, none⟩) 0 0) [] ∧ Keeps None w ((w.alloc (.cells #[.int .i64 c.who, .int .i64 c.kind, .int .i64 c.arg, .int .i64 c.beg, .int .i64 c.fin, .int .i64 c.code, .int .i64 c.v] 49)).drewN m)) := fun m => held_box h.none _ m
    clear h
    simp only [List.length_nil, List.length_cons, Nat.zero_add] at *
    go_enter Try.func45, Try.ntmps45
    go_wp2
    go_quiet (fail)
    go_wp2
    go_ret2
    exact ⟨_, rfl, (HN.out _).1, (HN.out _).2, .inl rfl⟩
  · have HN : Hid (∀ m, Held ((w.alloc (.cells #[.int .i64 c.who, .int .i64 c.kind, .int .i64 c.arg, .int .i64 c.beg, .int .i64 c.fin, .int .i64 c.code, .int .i64 c.v] 49)).drewN m) (.slice (some ⟨g, off + 1, none⟩) r.length (cap - 1)) r ∧ Keeps None w ((w.alloc (.cells #[.int .i64 c.who, .int .i64 c.kind, .int .i64 c.arg, .int .i64 c.beg, .int .i64 c.fin, .int .i64 c.code, .int .i64 c.v] 49)).drewN m)) := fun m => held_box (h.tail rfl) _ m
    clear h
    simp only [List.length_cons]
    generalize r.length = n at *
    go_enter Try.func45, Try.ntmps45
    go_wp2
    go_quiet (fail)
    go_wp2
    go_ret2
    exact ⟨_, rfl, (HN.out _).1, (HN.out _).2, .inl rfl⟩

theorem do_ok (v : Value) (row : List Int) (c : Cl) (most : Nat) (w : World) (h : Held w v row) (hs : row.length ≤ 1000000) (hm : most ≤ 4096) :
    Calls Try.prog 45 #[v, .agg #[.int .i64 c.who, .int .i64 c.kind, .int .i64 c.arg, .int .i64 c.beg, .int .i64 c.fin, .int .i64 c.code, .int .i64 c.v], .int .i64 most] w (DoPost w v (doR row c most)) := by
  unfold doR
  by_cases c3 : c.code = 3
  · rw [if_pos c3]
    by_cases he : row.length = most
    · rw [decide_eq_true he]; exact do_full_t v row c most w h hs hm (by simpa using c3) he
    · rw [decide_eq_false he]; exact do_full_f v row c most w h hs hm (by simpa using c3) he
  rw [if_neg c3]
  by_cases c5 : c.code = 5
  · rw [if_pos c5]
    by_cases he : row.length = 0
    · rw [decide_eq_true he]; exact do_empty_t v row c most w h hs hm (by simpa using c3) (by simpa using c5) he
    · rw [decide_eq_false he]; exact do_empty_f v row c most w h hs hm (by simpa using c3) (by simpa using c5) he
  rw [if_neg c5]
  by_cases c6 : c.code = 6
  · rw [if_pos c6]
    exact do_lost v row c most w h hs hm (by simpa using c3) (by simpa using c5) (by simpa using c6)
  rw [if_neg c6]
  by_cases k0 : c.kind = 0
  · rw [if_pos k0]
    by_cases he : most ≤ row.length
    · rw [if_pos he]; exact do_no_room v row c most w h hs hm (by simpa using c3) (by simpa using c5) (by simpa using c6) (by simpa using k0) he
    · rw [if_neg he]; exact do_push v row c most w h hs hm (by simpa using c3) (by simpa using c5) (by simpa using c6) (by simpa using k0) he
  rw [if_neg k0]
  by_cases hz : row = []
  · rw [if_pos hz]
    exact do_none v row c most w h hs hm (by simpa using c3) (by simpa using c5) (by simpa using c6) (by simpa using k0) (by rw [hz]; rfl)
  rw [if_neg hz]
  by_cases k1 : c.kind = 1
  · rw [if_pos k1]
    have hsp := last_split hz
    generalize row.getLastD 0 = z at *
    generalize row.dropLast = r at *
    subst hsp
    have hs2 : r.length ≤ 1000000 := by simp at hs; omega
    by_cases c0 : c.code = 0
    · rw [decide_eq_true (.inl c0)]; exact do_pop_run v r z c most w h hs2 hm (by simpa using c3) (by simpa using c5) (by simpa using c6) (by simpa using k0) (by simpa using k1) (by simpa using c0)
    · by_cases b : z = c.v
      · rw [decide_eq_true (.inr b)]; exact do_pop_t v r z c most w h hs2 hm (by simpa using c3) (by simpa using c5) (by simpa using c6) (by simpa using k0) (by simpa using k1) (by simpa using c0) (by simpa using b)
      · rw [decide_eq_false (fun e => e.elim c0 b)]; exact do_pop_f v r z c most w h hs2 hm (by simpa using c3) (by simpa using c5) (by simpa using c6) (by simpa using k0) (by simpa using k1) (by simpa using c0) (by simpa using b)
  · rw [if_neg k1]
    cases row with
    | nil => exact absurd rfl hz
    | cons z r =>
      have hs2 : r.length ≤ 1000000 := by simp at hs; omega
      show Calls _ _ _ _ (DoPost w v (r, decide (c.code = 0 ∨ z = c.v)))
      by_cases c0 : c.code = 0
      · rw [decide_eq_true (.inl c0)]; exact do_steal_run v r z c most w h hs2 hm (by simpa using c3) (by simpa using c5) (by simpa using c6) (by simpa using k0) (by simpa using k1) (by simpa using c0)
      · by_cases b : z = c.v
        · rw [decide_eq_true (.inr b)]; exact do_steal_t v r z c most w h hs2 hm (by simpa using c3) (by simpa using c5) (by simpa using c6) (by simpa using k0) (by simpa using k1) (by simpa using c0) (by simpa using b)
        · rw [decide_eq_false (fun e => e.elim c0 b)]; exact do_steal_f v r z c most w h hs2 hm (by simpa using c3) (by simpa using c5) (by simpa using c6) (by simpa using k0) (by simpa using k1) (by simpa using c0) (by simpa using b)
end Go.Proofs.Ytheginjjncnheaa
