import Derived.Test.YtaipeclmfgdegaaReserveWalks
/-! What an arena tells: Cells, Log, Size, Mark; Watch, Who. -/
namespace Go.Proofs.Ytaipeclmfgdegaa
open Go.RowKit Go.HeapKit

theorem cells_nil (w : World) : Calls Try.prog 13 #[.pointer none] w fun e w' => e = .returned (.slice none 0 0) ∧ w' = w := by
  go_enter Try.func13, Try.ntmps13
  go_wp2
  go_ret
  exact ⟨rfl, rfl⟩
theorem log_nil (w : World) : Calls Try.prog 16 #[.pointer none] w fun e w' => e = .returned (.slice none 0 0) ∧ w' = w := by
  go_enter Try.func16, Try.ntmps16
  go_wp2
  go_ret
  exact ⟨rfl, rfl⟩

theorem own_shape {w : World} {base : Nat} {e : TypeId} {size : Nat} {v : Value} {n : Nat} {xs : List Value} (h : w.ownsRow base e size v n xs) : ∃ ao cap, v = .slice ao n cap := by
  rcases h.2 with ⟨rfl, rfl⟩ | ⟨g, cap, cur, rfl, _⟩
  · exact ⟨_, _, rfl⟩
  · exact ⟨_, _, rfl⟩

set_option maxRecDepth 100000 in
theorem cells_any (p : Nat) (vc vl : Value) (A : Ar) (w : World) (h : IsArena w p vc vl A) :
    Calls Try.prog 13 #[.pointer (some ⟨p, 0, none⟩)] w fun e w' => e = .returned (.slice (some ⟨w.heap.size, 0, none⟩) A.cells.length A.cells.length) ∧
      w'.heap[w.heap.size]? = some (.cells (A.cells.map (Value.int .i64)).toArray 2 (0, 0)) ∧ Keeps None w w' := by
  obtain ⟨i0, hi, hz0, hz1, hz2⟩ := info_parts Try.infoI64
  have hf := h.fit
  obtain ⟨M, -, hM, hmk⟩ := run_make_block (P := Try.prog) (w := w) 31 2 i0 _ 1 8 Try.underlying31 hi hz0 hz1 hz2 A.cells.length (by omega) (by omega)
  obtain ⟨w2, hr, hb, hgr⟩ := run_copy_all (P := Try.prog) (w := w.alloc (.cells M 2)) 31 31 3 2 1 Try.underlying31 (by rw [hi]; exact congrArg some hz1)
    w.heap.size A.cells.length A.cells.length _ 2 (new_at _ _ _ rfl) hM vc _ (h.alloc _).cells (fun u hu => by obtain ⟨x, _, rfl⟩ := List.mem_map.1 hu; rfl)
  have HK : Hid (Keeps None w w2) := ((Keeps.refl None w).andAlloc _).andGrown hgr (fun k e => .inr (by injection e with e; omega))
  have HB : Hid (w2.heap[w.heap.size]? = some (.cells (A.cells.map (Value.int .i64)).toArray 2 (0, 0))) := hb
  clear hb hgr hM hi hz0 hz1 hz2 i0
  have c2 := h.c2
  have d2 := (h.alloc (.cells M 2)).c2
  obtain ⟨ao, cap, rfl⟩ := own_shape h.cells
  go_enter Try.func13, Try.ntmps13
  go_wp2_with (at_builtin; (refine wpList_copy_run rfl (.tmp 12) (.tmp 16) 31 31 rfl rfl rfl hr ?_))
  go_ret
  exact ⟨rfl, HB.out, HK.out⟩

theorem oneCell_log (l : List Acc) : ∀ u ∈ logVals l, u.oneCell' = true := by
  intro u hu
  obtain ⟨x, _, hx⟩ := List.mem_flatMap.1 hu
  simp [Acc.vals] at hx
  rcases hx with rfl | rfl | rfl | rfl | rfl | rfl <;> rfl

set_option maxRecDepth 100000 in
theorem log_any (p : Nat) (vc vl : Value) (A : Ar) (w : World) (h : IsArena w p vc vl A) (hlog : A.log.length ≤ 1000000000000) :
    Calls Try.prog 16 #[.pointer (some ⟨p, 0, none⟩)] w fun e w' => e = .returned (.slice (some ⟨w.heap.size, 0, none⟩) A.log.length A.log.length) ∧
      w'.heap[w.heap.size]? = some (.cells (logVals A.log).toArray 89 (0, 0)) ∧ Keeps None w w' := by
  obtain ⟨i0, hi, hz0, hz1, hz2⟩ := info_parts Try.infoAcc
  obtain ⟨M, -, hM, hmk⟩ := run_make_block (P := Try.prog) (w := w) 32 89 i0 _ 6 48 Try.underlying32 hi hz0 hz1 hz2 A.log.length (by omega) (by omega)
  obtain ⟨w2, hr, hb, hgr⟩ := run_copy_all (P := Try.prog) (w := w.alloc (.cells M 89)) 32 32 3 89 6 Try.underlying32 (by rw [hi]; exact congrArg some hz1)
    w.heap.size A.log.length A.log.length _ 89 (new_at _ _ _ rfl) hM vl _ (h.alloc _).log (oneCell_log _)
  have HK : Hid (Keeps None w w2) := ((Keeps.refl None w).andAlloc _).andGrown hgr (fun k e => .inr (by injection e with e; omega))
  have HB : Hid (w2.heap[w.heap.size]? = some (.cells (logVals A.log).toArray 89 (0, 0))) := hb
  clear hb hgr hM hi hz0 hz1 hz2 i0
  have c2 := h.c5
  have d2 := (h.alloc (.cells M 89)).c5
  obtain ⟨ao, cap, rfl⟩ := own_shape h.log
  go_enter Try.func16, Try.ntmps16
  go_wp2_with (at_builtin; (refine wpList_copy_run rfl (.tmp 12) (.tmp 16) 32 32 rfl rfl rfl hr ?_))
  go_ret
  exact ⟨rfl, HB.out, HK.out⟩

theorem watch_nil (t : Bool) (w : World) : Calls Try.prog 9 #[.pointer none, .bool t] w fun e w' => e = .returned (.tuple #[]) ∧ w' = w := by
  go_enter Try.func9, Try.ntmps9
  go_wp2
  go_end0
  exact ⟨rfl, rfl⟩
theorem who_nil (n : Int) (w : World) : Calls Try.prog 24 #[.pointer none, .int .i64 n] w fun e w' => e = .returned (.tuple #[]) ∧ w' = w := by
  go_enter Try.func24, Try.ntmps24
  go_wp2
  go_end0
  exact ⟨rfl, rfl⟩

/-- A store into one of the struct's plain fields. -/
theorem IsArena.field {w : World} {p : Nat} {vc vl : Value} {A B : Ar} (h : IsArena w p vc vl A) (i : Nat) (v : Value) (hc : B.cells = A.cells) (hl : B.log = A.log) (hs : B.size = A.size)
    (hb : (#[.int .i64 A.size, .int .i64 A.cells.length, vc, .bool A.on, .int .i64 A.actor, vl] : Array Value).setIfInBounds i v = #[.int .i64 B.size, .int .i64 B.cells.length, vc, .bool B.on, .int .i64 B.actor, vl]) :
    IsArena (w.setCell ⟨p, i, none⟩ v) p vc vl B ∧ Keeps (Foot p vc vl) w (w.setCell ⟨p, i, none⟩ v) := by
  have hk : Keeps (· = p) w (w.setCell ⟨p, i, none⟩ v) := Keeps.setCell (S := (· = p)) w (a := ⟨p, i, none⟩) rfl _
  refine ⟨⟨(setCell_block h.blk v).trans (by rw [hb]), ?_, ?_, by rw [hc, hs]; exact h.fit⟩, hk.mono (fun i e _ => .inl e)⟩
  · rw [hc]
    exact hk.own h.cells (fun k e e2 => h.ncp (e2 ▸ e))
  · rw [hl]
    exact hk.own h.log (fun k e e2 => h.nlp (e2 ▸ e))
theorem watch_any (p : Nat) (vc vl : Value) (A : Ar) (t : Bool) (w : World) (h : IsArena w p vc vl A) :
    Calls Try.prog 9 #[.pointer (some ⟨p, 0, none⟩), .bool t] w fun e w' => e = .returned (.tuple #[]) ∧ IsArena w' p vc vl { A with on := t } ∧ Keeps (Foot p vc vl) w w' := by
  have c3 := h.c3
  have f3 := h.free 3
  have HF : Hid _ := h.field (B := { A with on := t }) 3 (.bool t) rfl rfl rfl rfl
  go_enter Try.func9, Try.ntmps9
  go_wp2
  go_end0
  exact ⟨rfl, HF.out⟩
theorem who_any (p : Nat) (vc vl : Value) (A : Ar) (n : Int) (w : World) (h : IsArena w p vc vl A) :
    Calls Try.prog 24 #[.pointer (some ⟨p, 0, none⟩), .int .i64 n] w fun e w' => e = .returned (.tuple #[]) ∧ IsArena w' p vc vl { A with actor := n } ∧ Keeps (Foot p vc vl) w w' := by
  have c4 := h.c4
  have f4 := h.free 4
  have HF : Hid _ := h.field (B := { A with actor := n }) 4 (.int .i64 n) rfl rfl rfl rfl
  go_enter Try.func24, Try.ntmps24
  go_wp2
  go_end0
  exact ⟨rfl, HF.out⟩
end Go.Proofs.Ytaipeclmfgdegaa
