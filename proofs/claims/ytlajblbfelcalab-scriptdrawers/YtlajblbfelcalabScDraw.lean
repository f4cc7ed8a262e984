import Derived.Test.YtlajblbfelcalabScWaits
import Derived.Laws.EntriesVeiled
/-! Drawers: seeded ones. -/
namespace Go.Proofs.Ytlajblbfelcalab
set_option linter.unusedVariables false
set_option maxRecDepth 20000
open Go.RowKit Go.HeapKit Go.Sc

def IsD (w : World) (g : Nat) (x : Int) (fv : Value) : Prop := w.heap[g]? = some (.cells #[.int .i64 x, fv] 51 (0, 0))
theorem IsD.kept {w w' : World} {g : Nat} {x : Int} {fv : Value} {S : Nat → Prop} (h : IsD w g x fv) (hk : Keeps S w w') (hS : ¬ S g) : IsD w' g x fv := blk_kept h hk hS
theorem IsD.more {w w' : World} {g : Nat} {x : Int} {fv : Value} (h : IsD w g x fv) (hk : Keeps None w w') : IsD w' g x fv := blk_kept h hk (fun f => f)
theorem IsD.c0 {w : World} {g : Nat} {x : Int} {fv : Value} (h : IsD w g x fv) : w.cell? ⟨g, 0, none⟩ = some (.int .i64 x) := (blk_cell h 0).trans rfl
theorem IsD.c1 {w : World} {g : Nat} {x : Int} {fv : Value} (h : IsD w g x fv) : w.cell? ⟨g, 1, none⟩ = some fv := (blk_cell h 1).trans rfl
theorem IsD.set {w : World} {g : Nat} {x : Int} {fv : Value} (h : IsD w g x fv) (y : Int) : IsD (w.setCell ⟨g, 0, none⟩ (.int .i64 y)) g y fv := by
  have := blk_set (i := 0) h (.int .i64 y)
  exact this
theorem IsD.lt {w : World} {g : Nat} {x : Int} {fv : Value} (h : IsD w g x fv) : g < w.heap.size := blk_lt h
theorem seeded1_any (x : Int) (w : World) : Calls Try.prog 40 #[.int .i64 x] w fun e w' => e = .returned (.tuple #[.int .i64 (num (nx x)), .int .i64 (nx x)]) ∧ w' = w := by
  go_enter Try.func40, Try.ntmps40
  go_wp2
  go_ret2
  exact ⟨rfl, rfl⟩
def seedF : Value := .func (Fn.func 40) #[] #[]
theorem seeded_any (x : Int) (w : World) : Calls Try.prog 19 #[.int .i64 x] w fun e w' => e = .returned (.pointer (some ⟨w.heap.size, 0, none⟩)) ∧ IsD w' w.heap.size x seedF ∧ Keeps None w w' := by
  go_enter Try.func19, Try.ntmps19
  go_wp2
  go_ret
  exact ⟨rfl, blk_new _ _ _ rfl, keeps1 _ _⟩
set_option maxHeartbeats 1600000 in
theorem draw_seeded (g : Nat) (x : Int) (w : World) (h : IsD w g x seedF) :
    Calls Try.prog 23 #[.pointer (some ⟨g, 0, none⟩)] w fun e w' => e = .returned (.int .i64 (num (nx x))) ∧ IsD w' g (nx x) seedF ∧ Keeps (· = g) w w' := by
  have HI : Hid (IsD w g x seedF) := h
  have d0 := h.c0
  have d1 := h.c1
  have f0 := blk_free h 0
  unfold seedF at d1
  have hq : ∀ wz, Sem.run Try.prog (binOp BinOp.eql 49 (.func (Fn.func 40) #[] #[]) .nilFunc) wz = .ok (.bool false) wz := fun _ => by kernel_rfl
  clear h
  go_enter Try.func23, Try.ntmps23
  go_upto_region 3 with fail
  go_cut [3, 4] (fun s3 s4 wx => s3 = .int .i64 (num (nx x)) ∧ s4 = .int .i64 (nx x) ∧ ∃ d, wx = w.drewN d)
  case first =>
    go_quiet ((go_at_call 40; exact Calls.quiet_of_same (seeded1_any x _)))
    all_goals go_wp2_with fail
    all_goals go_meet
    all_goals exact ⟨rfl, rfl, _, rfl⟩
  case rest =>
    obtain ⟨rfl, rfl, d, rfl⟩ := hcut
    have HN : Hid (IsD ((w.drewN d).setCell ⟨g, 0, none⟩ (.int .i64 (nx x))) g (nx x) seedF ∧ Keeps (· = g) w ((w.drewN d).setCell ⟨g, 0, none⟩ (.int .i64 (nx x)))) :=
      ⟨(HI.out.more (Keeps.drewN None _ _)).set _, keeps_one (Keeps.drewN _ _ _) _⟩
    go_wp2_with fail
    go_ret
    exact ⟨rfl, HN.out⟩
def pickV (c : Nat → Nat) (W : Nat) (D y : Int) : Nat := if D ≤ (c (lg c W) : Int) then lg c W else (y % (W : Int)).toNat
theorem pickV_lt (c : Nat → Nat) {W : Nat} (D y : Int) (h : 0 < W) : pickV c W D y < W := by
  unfold pickV
  split
  · exact lg_lt _ h
  · have h1 := Int.emod_nonneg y (b := (W : Int)) (by omega)
    have h2 := Int.emod_lt_of_pos y (b := (W : Int)) (by omega)
    omega
set_option maxHeartbeats 1600000 in
theorem pick_any (g W k : Nat) (c : Nat → Nat) (y win : Int) (w : World) (h : IsW w g W k c) (hW1 : 1 ≤ W) (hW : W ≤ 64) (hc : ∀ j, c j ≤ k) (hk : k ≤ 17592186044416) (hwin : (W : Int) ≤ win) (hwo : win ≤ 9223372036854775807) :
    Calls Try.prog 34 #[.pointer (some ⟨g, 0, none⟩), .int .i64 y, .int .i64 win] w fun e w' => e = .returned (.int .i64 (pickV c W (win - W) y : Nat)) ∧ ∃ d, w' = w.drewN d := by
  have HI : Hid (IsW w g W k c ∧ ∀ j, c j ≤ k) := ⟨h, hc⟩
  have d0 := h.c0
  have hlt := lg_lt c (show 0 < W by omega)
  have hck := hc (lg c W)
  clear h hc
  obtain ⟨L, hL⟩ : ∃ L, L = lg c W := ⟨_, rfl⟩
  obtain ⟨C, hC⟩ : ∃ C, C = c L := ⟨_, rfl⟩
  have HP : Hid (L = lg c W ∧ C = c L ∧ pickV c W (win - W) y = if win - W ≤ (C : Int) then L else (y % (W : Int)).toNat) := ⟨hL, hC, by rw [hC, hL]; exact rfl⟩
  rw [← hL] at hlt hck
  rw [← hC] at hck
  clear hL hC
  have HM : Hid (Go.PlainOps.modV y W = ((y % (W : Int)).toNat : Int)) := by
    have := Int.emod_nonneg y (b := (W : Int)) (by omega)
    unfold Go.PlainOps.modV
    rw [if_neg (by omega)]
    show _ = _
    omega
  generalize (y % (W : Int)).toNat = Q at HP HM
  go_enter Try.func34, Try.ntmps34
  go_wp2_with fail
  refine (longest_any g W k c _ HI.out.1 hW HI.out.2 hk).mono ?_
  rintro _ w1 ⟨rfl, d, rfl⟩
  rw [← HP.out.1]
  obtain ⟨wd, hwd⟩ : ∃ wd, wd = w.drewN d := ⟨_, rfl⟩
  have HWD : Hid (wd = w.drewN d) := hwd
  have d0 : wd.cell? ⟨g, 0, none⟩ = some (.int .i64 W) := by rw [hwd]; exact d0
  have HI2 : Hid (IsW wd g W k c) := by rw [hwd]; exact HI.out.1.more (Keeps.drewN None _ _)
  rw [← hwd]
  clear hwd
  have hof := fun n => Calls.quiet_of (of_any g W k L c (wd.drewN n) (HI2.out.more (Keeps.drewN None _ _)) (by omega) (HI.out.2 L) hk)
  rw [← HP.out.2.1] at hof
  by_cases hq : win - W ≤ (C : Int)
  · go_wp2_with fail
    go_quiet ((go_at_call 47; exact hof _))
    all_goals go_wp2_with fail
    all_goals go_ret
    all_goals exact ⟨by rw [HP.out.2.2, if_pos hq]; rfl, _, by rw [HWD.out, World.drewN_drewN]⟩
  · go_wp2_with fail
    go_quiet ((go_at_call 47; exact hof _))
    all_goals go_wp2_with fail
    all_goals refine (mod_any y W _ (by omega)).mono ?_
    all_goals rintro _ wz ⟨rfl, hw⟩
    all_goals have hw2 := hw.symm
    all_goals subst hw2
    all_goals clear hw
    all_goals rw [HM.out]
    all_goals go_wp2_with fail
    all_goals go_ret
    all_goals exact ⟨by rw [HP.out.2.2, if_neg (by omega)]; rfl, _, by rw [HWD.out, World.drewN_drewN]⟩
end Go.Proofs.Ytlajblbfelcalab
