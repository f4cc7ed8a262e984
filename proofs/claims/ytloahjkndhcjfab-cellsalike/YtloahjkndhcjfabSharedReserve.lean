import Derived.Test.YtloahjkndhcjfabSharedWalks
import Derived.Defers
/-! Reserve of shared cells: under the lock; NewShared. -/
namespace Go.Proofs.Ytloahjkndhcjfab
open Go.RowKit Go.HeapKit Go.MuLone

/-- The lock taken and given back, the mark m between. -/
theorem lock_block {w : World} {p : Nat} {vs : Value} {A B : Ar} (h : IsShared w p vs A) (hs : B.size = A.size) (hf : full B = full A) (hb : B.cells.length ≤ B.size) (hon : B.on = false) :
    IsShared (((w.setCell ⟨p, 2, none⟩ (.int .i32 1)).setCell ⟨p, 1, none⟩ (.int .i64 B.cells.length)).setCell ⟨p, 2, none⟩ (.int .i32 0)) p vs B ∧
      Keeps (SFoot p vs) w (((w.setCell ⟨p, 2, none⟩ (.int .i32 1)).setCell ⟨p, 1, none⟩ (.int .i64 B.cells.length)).setCell ⟨p, 2, none⟩ (.int .i32 0)) := by
  have hk : Keeps (· = p) w (((w.setCell ⟨p, 2, none⟩ (.int .i32 1)).setCell ⟨p, 1, none⟩ (.int .i64 B.cells.length)).setCell ⟨p, 2, none⟩ (.int .i32 0)) :=
    (((Keeps.refl (· = p) w).andSet (x := ⟨p, 2, none⟩) (.inl rfl) _).andSet (x := ⟨p, 1, none⟩) (.inl rfl) _).andSet (x := ⟨p, 2, none⟩) (.inl rfl) _
  refine ⟨⟨?_, ?_, ⟨hb, by rw [hs]; exact h.fit.2⟩, hon⟩, hk.mono (fun i e _ => .inl e)⟩
  · rw [setCell_block (setCell_block (setCell_block h.blk _) _) _, hs]
    rfl
  · rw [hs, hf]
    exact hk.own h.row (fun k e e2 => h.nsp (e2 ▸ e))
theorem lock_same {w : World} {p : Nat} {vs : Value} {A : Ar} (h : IsShared w p vs A) :
    IsShared ((w.setCell ⟨p, 2, none⟩ (.int .i32 1)).setCell ⟨p, 2, none⟩ (.int .i32 0)) p vs A ∧ Keeps (SFoot p vs) w ((w.setCell ⟨p, 2, none⟩ (.int .i32 1)).setCell ⟨p, 2, none⟩ (.int .i32 0)) := by
  have hk : Keeps (· = p) w ((w.setCell ⟨p, 2, none⟩ (.int .i32 1)).setCell ⟨p, 2, none⟩ (.int .i32 0)) :=
    ((Keeps.refl (· = p) w).andSet (x := ⟨p, 2, none⟩) (.inl rfl) _).andSet (x := ⟨p, 2, none⟩) (.inl rfl) _
  refine ⟨⟨?_, hk.own h.row (fun k e e2 => h.nsp (e2 ▸ e)), h.fit, h.plain⟩, hk.mono (fun i e _ => .inl e)⟩
  rw [setCell_block (setCell_block h.blk _) _]
  rfl

theorem sreserve_nil_few (n : Int) (w : World) (hn : n < 1) :
    Calls Try.prog 42 #[.pointer none, .int .i64 n] w fun e w' => e = .returned (.tuple #[.int .i64 0, .int .i64 21]) ∧ Keeps None w w' := by
  go_enter_defers Try.func42, Try.ntmps42
  go_wp2_with (go_at_call 78; refine (take_few w.heap.size 0 0 n _ (by simp) hn).mono ?_; rintro e w' ⟨rfl, rfl⟩)
  exact ⟨_, results_tmp2 rfl _ _ _, rfl, (Keeps.refl _ _).andAlloc _⟩
theorem sreserve_nil_many (n : Int) (w : World) (hn : ¬ n < 1) :
    Calls Try.prog 42 #[.pointer none, .int .i64 n] w fun e w' => e = .returned (.tuple #[.int .i64 0, .int .i64 22]) ∧ Keeps None w w' := by
  go_enter_defers Try.func42, Try.ntmps42
  go_wp2_with (go_at_call 78; refine (take_many w.heap.size 0 0 0 n _ (by simp) (by simp) (by omega) (by omega) (by omega)).mono ?_; rintro e w' ⟨rfl, rfl⟩)
  exact ⟨_, results_tmp2 rfl _ _ _, rfl, (Keeps.refl _ _).andAlloc _⟩

theorem sreserve_few (p : Nat) (vs : Value) (A : Ar) (n : Int) (w : World) (h : IsShared w p vs A) (hn : n < 1) :
    Calls Try.prog 42 #[.pointer (some ⟨p, 0, none⟩), .int .i64 n] w fun e w' => e = .returned (.tuple #[.int .i64 0, .int .i64 21]) ∧ IsShared w' p vs A ∧ Keeps (SFoot p vs) w w' := by
  have c1 : (w.setCell ⟨p, 2, none⟩ (.int .i32 1)).cell? ⟨p, 1, none⟩ = _ := (World.cell?_setCell_other w ⟨p, 2, none⟩ ⟨p, 1, none⟩ _ (by simp)).trans h.c1
  go_enter_defers Try.func42, Try.ntmps42
  go_wp2_with (first
    | (go_at_call 79; refine (lock_free Try.muLib ⟨p, 2, none⟩ _ h.c2 (h.free 2)).mono ?_; rintro e w' ⟨rfl, rfl⟩)
    | (go_at_call 78; refine (take_few p 0 _ n _ c1 hn).mono ?_; rintro e w' ⟨rfl, rfl⟩))
  refine leaves_cons (f := 80) (args := #[.pointer (some ⟨p, 2, none⟩)]) (by simp) (by simp [go_sem]) ?_
  refine (unlock_deferred Try.muLib ⟨p, 2, none⟩ .returning _ (World.cell?_setCell_same w ⟨p, 2, none⟩ _ h.c2) (by simp [h.free 2])).mono ?_
  rintro e u' w'' ⟨rfl, rfl, rfl⟩
  exact ⟨_, results_tmp2 rfl _ _ _, rfl, lock_same h⟩
theorem sreserve_many (p : Nat) (vs : Value) (A : Ar) (n : Int) (w : World) (h : IsShared w p vs A) (hn : ¬ n < 1) (hm : (A.size : Int) - A.cells.length < n) :
    Calls Try.prog 42 #[.pointer (some ⟨p, 0, none⟩), .int .i64 n] w fun e w' => e = .returned (.tuple #[.int .i64 0, .int .i64 22]) ∧ IsShared w' p vs A ∧ Keeps (SFoot p vs) w w' := by
  have c0 : (w.setCell ⟨p, 2, none⟩ (.int .i32 1)).cell? ⟨p, 0, none⟩ = _ := (World.cell?_setCell_other w ⟨p, 2, none⟩ ⟨p, 0, none⟩ _ (by simp)).trans h.c0
  have c1 : (w.setCell ⟨p, 2, none⟩ (.int .i32 1)).cell? ⟨p, 1, none⟩ = _ := (World.cell?_setCell_other w ⟨p, 2, none⟩ ⟨p, 1, none⟩ _ (by simp)).trans h.c1
  have hf := h.fit
  go_enter_defers Try.func42, Try.ntmps42
  go_wp2_with (first
    | (go_at_call 79; refine (lock_free Try.muLib ⟨p, 2, none⟩ _ h.c2 (h.free 2)).mono ?_; rintro e w' ⟨rfl, rfl⟩)
    | (go_at_call 78; refine (take_many p 0 _ _ n _ c0 c1 (by omega) (by omega) hm).mono ?_; rintro e w' ⟨rfl, rfl⟩))
  refine leaves_cons (f := 80) (args := #[.pointer (some ⟨p, 2, none⟩)]) (by simp) (by simp [go_sem]) ?_
  refine (unlock_deferred Try.muLib ⟨p, 2, none⟩ .returning _ (World.cell?_setCell_same w ⟨p, 2, none⟩ _ h.c2) (by simp [h.free 2])).mono ?_
  rintro e u' w'' ⟨rfl, rfl, rfl⟩
  exact ⟨_, results_tmp2 rfl _ _ _, rfl, lock_same h⟩
theorem sreserve_fits (p : Nat) (vs : Value) (A : Ar) (n : Nat) (w : World) (h : IsShared w p vs A) (hn : 0 < n) (hfit : A.cells.length + n ≤ A.size) :
    Calls Try.prog 42 #[.pointer (some ⟨p, 0, none⟩), .int .i64 n] w fun e w' => e = .returned (.tuple #[.int .i64 A.cells.length, .int .i64 0]) ∧ IsShared w' p vs (A.more n) ∧ Keeps (SFoot p vs) w w' := by
  have c0 : (w.setCell ⟨p, 2, none⟩ (.int .i32 1)).cell? ⟨p, 0, none⟩ = _ := (World.cell?_setCell_other w ⟨p, 2, none⟩ ⟨p, 0, none⟩ _ (by simp)).trans h.c0
  have c1 : (w.setCell ⟨p, 2, none⟩ (.int .i32 1)).cell? ⟨p, 1, none⟩ = _ := (World.cell?_setCell_other w ⟨p, 2, none⟩ ⟨p, 1, none⟩ _ (by simp)).trans h.c1
  have f1 : (w.setCell ⟨p, 2, none⟩ (.int .i32 1)).frozen? ⟨p, 1, none⟩ = false := by simp [h.free 1]
  have d2 : ((w.setCell ⟨p, 2, none⟩ (.int .i32 1)).setCell ⟨p, 1, none⟩ (.int .i64 ((A.cells.length : Int) + n))).cell? ⟨p, 2, none⟩ = some (.int .i32 1) :=
    (World.cell?_setCell_other _ ⟨p, 1, none⟩ ⟨p, 2, none⟩ _ (by simp)).trans (World.cell?_setCell_same w ⟨p, 2, none⟩ _ h.c2)
  have hf := h.fit
  have HP := lock_block (B := A.more n) h rfl (by simp only [full, Ar.more, List.append_assoc, List.length_append, List.length_replicate]; rw [List.replicate_append_replicate]; congr 2; omega) (by simp [Ar.more]; omega) h.plain
  rw [show ((A.more n).cells.length : Int) = (A.cells.length : Int) + n by simp [Ar.more]] at HP
  have HQ : Hid _ := HP
  clear HP
  go_enter_defers Try.func42, Try.ntmps42
  go_wp2_with (first
    | (go_at_call 79; refine (lock_free Try.muLib ⟨p, 2, none⟩ _ h.c2 (h.free 2)).mono ?_; rintro e w' ⟨rfl, rfl⟩)
    | (go_at_call 78; refine (take_fits p 0 _ _ n _ c0 c1 f1 (by omega) (by omega) (by omega)).mono ?_; rintro e w' ⟨rfl, rfl⟩))
  refine leaves_cons (f := 80) (args := #[.pointer (some ⟨p, 2, none⟩)]) (by simp) (by simp [go_sem]) ?_
  refine (unlock_deferred Try.muLib ⟨p, 2, none⟩ .returning _ d2 (by simp [h.free 2])).mono ?_
  rintro e u' w'' ⟨rfl, rfl, rfl⟩
  exact ⟨_, results_tmp2 rfl _ _ _, rfl, HQ.out⟩

theorem Try.infoAt : (Try.prog.info? 55).map (fun i => (i.zero, i.size, i.bytes)) = some (some (.agg #[.int .i64 0]), 1, 8) := by kernel_rfl
theorem snew_bad (n : Int) (w : World) (hn : (decide (0 ≤ n) && decide (n ≤ 1048576)) = false) :
    Calls Try.prog 11 #[.int .i64 n] w fun e w' => e = .returned (.tuple #[.pointer none, .int .i64 3]) ∧ w' = w := by
  go_enter Try.func11, Try.ntmps11
  go_wp2_with (go_at_call 37; refine (fits_any n w).mono ?_; rw [hn]; rintro e w' ⟨rfl, rfl⟩)
  go_ret2
  exact ⟨rfl, rfl⟩
theorem snew_ok (n : Nat) (w : World) (hn : n ≤ 1048576) :
    Calls Try.prog 11 #[.int .i64 n] w fun e w' => e = .returned (.tuple #[.pointer (some ⟨w.heap.size + 1, 0, none⟩), .int .i64 0]) ∧
      IsShared w' (w.heap.size + 1) (.slice (some ⟨w.heap.size, 0, none⟩) n n) (Ar.new n) ∧ Keeps None w w' := by
  have hn' : (decide (0 ≤ (n : Int)) && decide ((n : Int) ≤ 1048576)) = true := by simp; omega
  obtain ⟨i0, hi, hz0, hz1, hz2⟩ := info_parts Try.infoAt
  obtain ⟨M, hME, hM, hmk⟩ := run_make_block (P := Try.prog) (w := w) 66 55 i0 _ 1 8 Try.underlying66 hi hz0 hz1 hz2 n (by omega) (by omega)
  have HM : Hid (M = ((List.replicate n 0).map (Value.int .i64)).toArray) := by
    show M = _
    rw [hME]
    apply Array.ext
    · simp [madeCells]
    · intro j h1 h2
      simp [madeCells, Value.cells, Nat.mod_one]
  clear hME hi hz0 hz1 hz2 i0
  go_enter Try.func11, Try.ntmps11
  go_wp2_with (go_at_call 37; refine (fits_any n w).mono ?_; rw [hn']; rintro e w' ⟨rfl, rfl⟩)
  go_ret2
  refine ⟨rfl, ⟨new_at _ _ _ (by simp), ⟨by simp [full, Ar.new], .inr ⟨_, n, M, rfl, Nat.zero_le _, ?_, Nat.le_refl _, by unfold maxLen; omega, hM, ?_⟩⟩, ⟨by simp [Ar.new], by simpa [Ar.new] using hn⟩, rfl⟩, ((Keeps.refl _ _).andAlloc _).andAlloc _⟩
  · exact (Below.heap_alloc _ _ _ (by simp)).trans (new_at _ _ _ rfl)
  · rw [HM.out]
    simp [full, Ar.new]
end Go.Proofs.Ytloahjkndhcjfab
