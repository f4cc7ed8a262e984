import Derived.Test.YtnhoedodnbifdaaDgEar
import Derived.Test.YtnhoedodnbifdaaDgHeapP
import Derived.WalkMore
import Derived.Shelf.RegionOpenPlain
/-! The heap in a plan. -/
namespace Go.Proofs.Ytnhoedodnbifdaa
set_option linter.unusedVariables false
set_option maxRecDepth 20000
open Go.RowKit Go.HeapKit

def lessV : Value := .func (.func 60) #[] #[]
/-- A plan's cells, its heap's row. -/
structure HpIn (w : World) (p base : Nat) (L Lf Tm v : Value) (hl : List Int) : Prop where
  blk : w.heap[p]? = some (.cells #[L, Lf, v, lessV, Tm] 71 (0, 0))
  row : w.ownsRow base 3 1 v hl.length (iv hl)
section
variable {w w' : World} {p base : Nat} {L Lf Tm v : Value} {hl : List Int}
theorem HpIn.kept {S : Nat → Prop} (h : HpIn w p base L Lf Tm v hl) (hk : Keeps S w w') (hp : ¬ S p) (hv : ∀ g, v.ownBlock = some g → ¬ S g) : HpIn w' p base L Lf Tm v hl :=
  ⟨blk_kept h.blk hk hp, row_kept h.row hk hv⟩
theorem HpIn.more (h : HpIn w p base L Lf Tm v hl) (hk : Keeps None w w') : HpIn w' p base L Lf Tm v hl := h.kept hk (fun f => f) (fun _ _ f => f)
theorem HpIn.np (h : HpIn w p base L Lf Tm v hl) : ¬ v.ownBlock = some p := fun e => absurd (own_type h.row e h.blk) (by decide)
theorem HpIn.c0 (h : HpIn w p base L Lf Tm v hl) : w.cell? ⟨p, 0, none⟩ = some L := (blk_cell h.blk 0).trans rfl
theorem HpIn.c1 (h : HpIn w p base L Lf Tm v hl) : w.cell? ⟨p, 1, none⟩ = some Lf := (blk_cell h.blk 1).trans rfl
theorem HpIn.c2 (h : HpIn w p base L Lf Tm v hl) : w.cell? ⟨p, 2, none⟩ = some v := (blk_cell h.blk 2).trans rfl
theorem HpIn.c3 (h : HpIn w p base L Lf Tm v hl) : w.cell? ⟨p, 3, none⟩ = some lessV := (blk_cell h.blk 3).trans rfl
theorem HpIn.c4 (h : HpIn w p base L Lf Tm v hl) : w.cell? ⟨p, 4, none⟩ = some Tm := (blk_cell h.blk 4).trans rfl
theorem HpIn.free (h : HpIn w p base L Lf Tm v hl) (i : Nat) : w.frozen? ⟨p, i, none⟩ = false := blk_free h.blk i
end
theorem empty_any (p base : Nat) (L Lf Tm v : Value) (hl : List Int) (w : World) (h : HpIn w p base L Lf Tm v hl) :
    Calls Try.prog 47 #[.pointer (some ⟨p, 2, none⟩)] w fun e w' => e = .returned (.bool (decide (hl.length = 0))) ∧ w' = w := by
  obtain ⟨a, c, rfl⟩ := row_shape h.row
  have c2 := h.c2
  generalize hn : hl.length = n at c2 ⊢
  clear hn h
  by_cases e : n = 0
  · have e1 : ((n : Int) == 0) = true := by simpa using e
    have E : Hid (n = 0) := e
    clear e
    go_enter Try.func47, Try.ntmps47
    go_wp2_with fail
    go_ret
    exact ⟨by simp [E.out], rfl⟩
  · have e1 : ((n : Int) == 0) = false := by simpa using e
    go_enter Try.func47, Try.ntmps47
    go_wp2_with fail
    go_ret
    exact ⟨by simp [e], rfl⟩
theorem less_any (a b : Int) (w : World) : Calls Try.prog 60 #[.int .i64 a, .int .i64 b] w fun e w' => e = .returned (.bool (decide (a < b))) ∧ w' = w := by
  by_cases e : a < b
  · go_enter Try.func60, Try.ntmps60
    go_wp2_with fail
    go_ret
    exact ⟨by simp [e], rfl⟩
  · go_enter Try.func60, Try.ntmps60
    go_wp2_with fail
    go_ret
    exact ⟨by simp [e], rfl⟩
set_option maxHeartbeats 1600000 in
theorem swap_any (p base : Nat) (L Lf Tm v : Value) (hl : List Int) (i j : Nat) (w : World) (h : HpIn w p base L Lf Tm v hl) (hi : i < hl.length) (hj : j < hl.length) (hn : hl.length ≤ 4096) :
    Calls Try.prog 67 #[.pointer (some ⟨p, 2, none⟩), .int .i64 i, .int .i64 j] w fun e w' => e = .returned (.tuple #[]) ∧ HpIn w' p base L Lf Tm v (sw hl i j) ∧ Keeps (fun q => v.ownBlock = some q) w w' := by
  have mixed : Try.prog.follows Departure.mixedOrders = true := by kernel_rfl
  obtain ⟨a, c, rfl⟩ := row_shape h.row
  have c2 := h.c2
  obtain ⟨g, rfl, c0, z0⟩ := row_at h.row (at_get hi)
  obtain ⟨g', e', c1, z1⟩ := row_at h.row (at_get hj)
  injection e' with e'
  injection e' with e'
  subst e'
  have hq := row_set (row_set h.row i (.int .i64 (at' hl j))) j (.int .i64 (at' hl i))
  rw [iv_set, iv_set] at hq
  have hkk : Keeps (fun q => (Value.slice (some ⟨g, 0, none⟩) hl.length c).ownBlock = some q) w ((w.setCell ⟨g, i, none⟩ (.int .i64 (at' hl j))).setCell ⟨g, j, none⟩ (.int .i64 (at' hl i))) :=
    ((Keeps.refl (fun q => (Value.slice (some ⟨g, 0, none⟩) hl.length c).ownBlock = some q) w).andSet (x := ⟨g, i, none⟩) (.inl rfl) _).andSet (x := ⟨g, j, none⟩) (.inl rfl) _
  have hlen : (sw hl i j).length = hl.length := sw_len hl i j
  have HN : Hid (HpIn ((w.setCell ⟨g, i, none⟩ (.int .i64 (at' hl j))).setCell ⟨g, j, none⟩ (.int .i64 (at' hl i))) p base L Lf Tm (.slice (some ⟨g, 0, none⟩) hl.length c) (sw hl i j) ∧ Keeps (fun q => (Value.slice (some ⟨g, 0, none⟩) hl.length c).ownBlock = some q) w ((w.setCell ⟨g, i, none⟩ (.int .i64 (at' hl j))).setCell ⟨g, j, none⟩ (.int .i64 (at' hl i)))) :=
    ⟨⟨blk_kept h.blk hkk h.np, by rw [hlen]; exact hq⟩, hkk⟩
  obtain ⟨u, hu⟩ : ∃ u, u = at' hl i := ⟨_, rfl⟩
  obtain ⟨u', hu'⟩ : ∃ u', u' = at' hl j := ⟨_, rfl⟩
  obtain ⟨n, hnn⟩ : ∃ n, n = hl.length := ⟨_, rfl⟩
  rw [← hu] at c0 HN
  rw [← hu'] at c1 HN
  rw [← hnn] at c2 HN hi hj ⊢
  have i2 : (i : Int) < (n : Int) := by omega
  have i3 : (j : Int) < (n : Int) := by omega
  have i4 : ¬ n = 0 := by omega
  clear hq hkk hlen hu hu' h hnn
  by_cases e : i = j
  · subst e
    have eu : u' = u := by
      rw [c0] at c1
      simpa using c1.symm
    subst eu
    clear c1 z1
    go_enter Try.func67, Try.ntmps67
    go_wp2_with fail
    go_region_o
    all_goals go_wp2_with fail
    all_goals go_end0
    all_goals exact ⟨rfl, HN.out.1.more (Keeps.drew None _), HN.out.2.andDrew⟩
  · have i5 : ¬ i = j := e
    clear e
    go_enter Try.func67, Try.ntmps67
    go_wp2_with fail
    go_region_o
    all_goals go_wp2_with fail
    all_goals go_end0
    all_goals exact ⟨rfl, HN.out.1.more (Keeps.drew None _), HN.out.2.andDrew⟩
set_option maxHeartbeats 3200000 in
theorem least_any (p base : Nat) (L Lf Tm v : Value) (hl : List Int) (i j : Nat) (w : World) (h : HpIn w p base L Lf Tm v hl) (hij : j < hl.length → i < hl.length) (hn : hl.length ≤ 4096) (hi4 : i ≤ 9000) (hj4 : j ≤ 9000) :
    Calls Try.prog 72 #[.pointer (some ⟨p, 2, none⟩), .int .i64 i, .int .i64 j] w fun e w' => e = .returned (.int .i64 (leastV hl i j : Nat)) ∧ Keeps None w w' := by
  obtain ⟨a, c, rfl⟩ := row_shape h.row
  have c2 := h.c2
  have c3 := h.c3
  unfold lessV at c3
  by_cases hj : j < hl.length
  · obtain ⟨g, rfl, c0, _⟩ := row_at h.row (at_get (hij hj))
    obtain ⟨g', e', c1, _⟩ := row_at h.row (at_get hj)
    injection e' with e'
    injection e' with e'
    subst e'
    have HL : Hid (leastV hl i j = if at' hl j < at' hl i then j else i) := by
      show _ = _
      unfold leastV
      by_cases e : at' hl j < at' hl i
      · rw [if_pos ⟨hj, e⟩, if_pos e]
      · rw [if_neg (fun h => e h.2), if_neg e]
    have hi := hij hj
    obtain ⟨u, hu⟩ : ∃ u, u = at' hl i := ⟨_, rfl⟩
    obtain ⟨u', hu'⟩ : ∃ u', u' = at' hl j := ⟨_, rfl⟩
    obtain ⟨n, hnn⟩ : ∃ n, n = hl.length := ⟨_, rfl⟩
    rw [← hu] at c0 HL
    rw [← hu'] at c1 HL
    rw [← hnn] at c2 hi hj
    have i2 : (i : Int) < (n : Int) := by omega
    have i3 : (j : Int) < (n : Int) := by omega
    have i4 : ¬ n = 0 := by omega
    clear hu hu' h hnn hij
    go_enter Try.func72, Try.ntmps72
    by_cases e : u' < u
    · go_upto_region 1 with fail
      go_region_held3 (fun w' => w'.cell? ⟨p, 2, none⟩ = some (.slice (some ⟨g, 0, none⟩) n c) ∧ w'.cell? ⟨p, 3, none⟩ = some (.func (.func 60) #[] #[]) ∧ w'.cell? ⟨g, i, none⟩ = some (.int .i64 u) ∧ w'.cell? ⟨g, j, none⟩ = some (.int .i64 u')) (go_keep) (first
        | (go_at_call 60; refine (less_any _ _ _).mono ?_; rintro _ w4 ⟨rfl, hw⟩; have hw2 := hw.symm; subst hw2; clear hw))
      all_goals go_wp2_with fail
      all_goals go_ret
      all_goals exact ⟨by rw [HL.out, if_pos e]; rfl, Keeps.drew None w⟩
    · go_upto_region 1 with fail
      go_region_held3 (fun w' => w'.cell? ⟨p, 2, none⟩ = some (.slice (some ⟨g, 0, none⟩) n c) ∧ w'.cell? ⟨p, 3, none⟩ = some (.func (.func 60) #[] #[]) ∧ w'.cell? ⟨g, i, none⟩ = some (.int .i64 u) ∧ w'.cell? ⟨g, j, none⟩ = some (.int .i64 u')) (go_keep) (first
        | (go_at_call 60; refine (less_any _ _ _).mono ?_; rintro _ w4 ⟨rfl, hw⟩; have hw2 := hw.symm; subst hw2; clear hw))
      all_goals go_wp2_with fail
      all_goals go_ret
      all_goals exact ⟨by rw [HL.out, if_neg (by omega)]; rfl, Keeps.drew None w⟩
  · have HL : Hid (leastV hl i j = i) := by
      show _ = _
      unfold leastV
      rw [if_neg (fun h => hj h.1)]
    obtain ⟨n, hnn⟩ : ∃ n, n = hl.length := ⟨_, rfl⟩
    rw [← hnn] at c2 hj
    have i3 : ¬ (j : Int) < (n : Int) := by omega
    clear h hnn hij
    go_enter Try.func72, Try.ntmps72
    go_upto_region 1 with fail
    go_quiet (fail)
    all_goals go_wp2_with fail
    all_goals go_ret
    all_goals exact ⟨by rw [HL.out]; rfl, Keeps.drewN None w _⟩
end Go.Proofs.Ytnhoedodnbifdaa
