import Derived.Test.YtaipeclmfgdegaaArenaWalks
/-! Reserve; New. -/
namespace Go.Proofs.Ytaipeclmfgdegaa
open Go.RowKit Go.HeapKit

/-- The cells, so many zeros longer: behind the mark's store, the append and the store of the field. -/
theorem reserve_append (p : Nat) (vc vl : Value) (A : Ar) (n : Nat) (ty : TypeId) (w : World) (h : IsArena w p vc vl A) (hn : 0 < n) (hfit : A.cells.length + n ≤ A.size) :
    ∃ g cap w2, (Builtin.append_ #[31, 3] ty #[vc, .int .i64 n]).run Try.prog (w.setCell ⟨p, 1, none⟩ (.int .i64 (A.cells.length + n : Int))) = .ok (.slice (some ⟨g, 0, none⟩) (A.cells.length + n) cap) w2 ∧
      w2.cell? ⟨p, 2, none⟩ = some vc ∧ w2.frozen? ⟨p, 2, none⟩ = false ∧
      IsArena (w2.setCell ⟨p, 2, none⟩ (.slice (some ⟨g, 0, none⟩) (A.cells.length + n) cap)) p (.slice (some ⟨g, 0, none⟩) (A.cells.length + n) cap) vl (A.more n) ∧
      Keeps (Foot p vc vl) w (w2.setCell ⟨p, 2, none⟩ (.slice (some ⟨g, 0, none⟩) (A.cells.length + n) cap)) ∧ Moved w vc (.slice (some ⟨g, 0, none⟩) (A.cells.length + n) cap) := by
  obtain ⟨i0, hi, hz0, hz1, hz2⟩ := info_parts Try.infoI64
  have hk1 : Keeps (· = p) w (w.setCell ⟨p, 1, none⟩ (.int .i64 (A.cells.length + n : Int))) := Keeps.setCell (S := (· = p)) w (a := ⟨p, 1, none⟩) rfl _
  have ho1 := hk1.own h.cells (fun k e e2 => h.ncp (e2 ▸ e))
  have hl1 := hk1.own h.log (fun k e e2 => h.nlp (e2 ▸ e))
  have hb1 := setCell_block (i := 1) h.blk (.int .i64 (A.cells.length + n : Int))
  obtain ⟨v', w2, hr, ho, hgr, hm⟩ := run_append_zeros (P := Try.prog) (w.setCell ⟨p, 1, none⟩ (.int .i64 (A.cells.length + n : Int))) 0 31 3 ty 2 .i64 i0 (.int .i64 0) 8 Try.underlying31 Try.underlying3 hi hz0 hz1 hz2 rfl rfl vc A.cells.length _ ho1 n hn
    (by have := h.fit; unfold maxLen; omega) (by have := h.fit; omega) (Nat.zero_le _)
  obtain ⟨g, cap, rfl⟩ : ∃ g cap, v' = .slice (some ⟨g, 0, none⟩) (A.cells.length + n) cap := by
    rcases ho.2 with ⟨_, h0⟩ | ⟨b, cap, cur, rfl, _⟩
    · omega
    · exact ⟨b, cap, rfl⟩
  have hk2 : Keeps (fun i => vc.ownBlock = some i) _ w2 := Keeps.grown hgr (fun _ e => e)
  have hb2 := (hk2.block p (Nat.lt_of_lt_of_le h.lt hk1.size) h.ncp).trans hb1
  have hgp : ∀ k, (Value.slice (some ⟨g, 0, none⟩) (A.cells.length + n) cap).ownBlock = some k → k ≠ p := fun k e e2 => by
    subst e2
    exact absurd (own_type ho e hb2) (by decide)
  have hk3 : Keeps (· = p) w2 (w2.setCell ⟨p, 2, none⟩ (.slice (some ⟨g, 0, none⟩) (A.cells.length + n) cap)) := Keeps.setCell (S := (· = p)) w2 (a := ⟨p, 2, none⟩) rfl _
  refine ⟨g, cap, w2, hr, ?_, free_of_block hb2 2, ⟨?_, ?_, ?_, by simp [Ar.more]; exact ⟨hfit, h.fit.2⟩⟩, ?_, ?_⟩
  · rw [cell_of_block hb2]; rfl
  · rw [setCell_block hb2]
    simp [Ar.more]
  · have := hk3.own ho hgp
    simpa [Ar.more] using this
  · exact hk3.own (hk2.own hl1 (fun k e e2 => h.ncl e2 e)) (fun k e e2 => h.nlp (e2 ▸ e))
  · exact ((((Keeps.refl _ w).andSet (x := ⟨p, 1, none⟩) (.inl (.inl rfl)) _).andGrown hgr (fun k e => .inl (.inr (.inl e)))).andSet (x := ⟨p, 2, none⟩) (.inl (.inl rfl)) _)
  · rcases hm with hm | ⟨g', e, hg⟩
    · exact .inl hm
    · exact .inr ⟨g', e, Nat.le_trans hk1.size hg⟩

theorem reserve_few (p : Nat) (vc vl : Value) (A : Ar) (n : Int) (w : World) (h : IsArena w p vc vl A) (hn : n < 1) :
    Calls Try.prog 20 #[.pointer (some ⟨p, 0, none⟩), .int .i64 n] w fun e w' => e = .returned (.tuple #[.int .i64 0, .int .i64 21]) ∧ w' = w := by
  go_enter Try.func20, Try.ntmps20
  go_wp2_with (go_at_call 33; refine (take_few p 0 _ n w h.c1 hn).mono ?_; rintro e w' ⟨rfl, rfl⟩)
  go_ret2
  exact ⟨rfl, rfl⟩
theorem reserve_many (p : Nat) (vc vl : Value) (A : Ar) (n : Int) (w : World) (h : IsArena w p vc vl A) (hn : ¬ n < 1) (hm : (A.size : Int) - A.cells.length < n) :
    Calls Try.prog 20 #[.pointer (some ⟨p, 0, none⟩), .int .i64 n] w fun e w' => e = .returned (.tuple #[.int .i64 0, .int .i64 22]) ∧ w' = w := by
  have hf := h.fit
  go_enter Try.func20, Try.ntmps20
  go_wp2_with (go_at_call 33; refine (take_many p 0 _ _ n w h.c0 h.c1 (by omega) hn hm).mono ?_; rintro e w' ⟨rfl, rfl⟩)
  go_ret2
  exact ⟨rfl, rfl⟩
theorem reserve_fits (p : Nat) (vc vl : Value) (A : Ar) (n : Nat) (w : World) (h : IsArena w p vc vl A) (hn : 0 < n) (hfit : A.cells.length + n ≤ A.size) (hlog : A.log.length < 1000000000000) :
    Calls Try.prog 20 #[.pointer (some ⟨p, 0, none⟩), .int .i64 n] w fun e w' => e = .returned (.tuple #[.int .i64 A.cells.length, .int .i64 0]) ∧
      After w w' p vc vl ((A.more n).noted ⟨0, 4, A.cells.length, n, 0, true⟩) := by
  obtain ⟨g, cap, w2, hr, d2, f2, h2, hk, hm⟩ := reserve_append p vc vl A n 31 w h hn hfit
  have HK : Hid (Keeps (Foot p vc vl) w (w2.setCell ⟨p, 2, none⟩ (.slice (some ⟨g, 0, none⟩) (A.cells.length + n) cap))) := hk
  have HM : Hid (Moved w vc (.slice (some ⟨g, 0, none⟩) (A.cells.length + n) cap)) := hm
  clear hk hm
  have c2 : (w.setCell ⟨p, 1, none⟩ (.int .i64 (A.cells.length + n : Int))).cell? ⟨p, 2, none⟩ = some vc := (World.cell?_setCell_other w ⟨p, 1, none⟩ ⟨p, 2, none⟩ _ (by simp)).trans h.c2
  have hf := h.fit
  go_enter Try.func20, Try.ntmps20
  go_wp2_with (first
    | (go_at_call 33; refine (take_fits p 0 _ _ n w h.c0 h.c1 (h.free 1) (by omega) (by omega) (by omega)).mono ?_; rintro e w1 ⟨rfl, rfl⟩)
    | (at_builtin; refine wpList_append_run rfl (.tmp 30) (.tmp 31) 31 3 rfl rfl rfl hr ?_)
    | (go_at_call 34; refine (note_any p _ vl _ 0 4 A.cells.length n 0 true _ h2 hlog).mono ?_; rintro e w3 ⟨rfl, hA⟩))
  go_ret2
  exact ⟨rfl, After.trans HK.out HM.out (.refl _ _) hA⟩
theorem reserve_nil_few (n : Int) (w : World) (hn : n < 1) :
    Calls Try.prog 20 #[.pointer none, .int .i64 n] w fun e w' => e = .returned (.tuple #[.int .i64 0, .int .i64 21]) ∧ Keeps None w w' := by
  go_enter Try.func20, Try.ntmps20
  go_wp2_with (go_at_call 33; refine (take_few w.heap.size 0 0 n _ (by simp) hn).mono ?_; rintro e w' ⟨rfl, rfl⟩)
  go_ret2
  exact ⟨rfl, (Keeps.refl _ _).andAlloc _⟩
theorem reserve_nil_many (n : Int) (w : World) (hn : ¬ n < 1) :
    Calls Try.prog 20 #[.pointer none, .int .i64 n] w fun e w' => e = .returned (.tuple #[.int .i64 0, .int .i64 22]) ∧ Keeps None w w' := by
  go_enter Try.func20, Try.ntmps20
  go_wp2_with (go_at_call 33; refine (take_many w.heap.size 0 0 0 n _ (by simp) (by simp) (by omega) hn (by omega)).mono ?_; rintro e w' ⟨rfl, rfl⟩)
  go_ret2
  exact ⟨rfl, (Keeps.refl _ _).andAlloc _⟩

def Ar.new (n : Nat) : Ar := ⟨n, [], false, 0, []⟩
theorem new_bad (n : Int) (w : World) (hn : (decide (0 ≤ n) && decide (n ≤ 1048576)) = false) :
    Calls Try.prog 6 #[.int .i64 n] w fun e w' => e = .returned (.tuple #[.pointer none, .int .i64 3]) ∧ w' = w := by
  go_enter Try.func6, Try.ntmps6
  go_wp2_with (go_at_call 27; refine (fits_any n w).mono ?_; rw [hn]; rintro e w' ⟨rfl, rfl⟩)
  go_ret2
  exact ⟨rfl, rfl⟩
theorem new_ok (n : Nat) (w : World) (hn : n ≤ 1048576) :
    Calls Try.prog 6 #[.int .i64 n] w fun e w' => e = .returned (.tuple #[.pointer (some ⟨w.heap.size, 0, none⟩), .int .i64 0]) ∧
      IsArena w' w.heap.size (.slice none 0 0) (.slice none 0 0) (Ar.new n) ∧ Keeps None w w' := by
  have hn' : (decide (0 ≤ (n : Int)) && decide ((n : Int) ≤ 1048576)) = true := by simp; omega
  go_enter Try.func6, Try.ntmps6
  go_wp2_with (go_at_call 27; refine (fits_any n w).mono ?_; rw [hn']; rintro e w' ⟨rfl, rfl⟩)
  go_ret2
  refine ⟨rfl, ⟨?_, World.ownsRow_nil _ _ _ _, World.ownsRow_nil _ _ _ _, ⟨by simp [Ar.new], by simpa [Ar.new] using hn⟩⟩, (Keeps.refl _ _).andAlloc _⟩
  exact new_at _ _ _ rfl
end Go.Proofs.Ytaipeclmfgdegaa
