import Derived.Test.YtlajblbfelcalabScLaw
import Derived.Test.YtlajblbfelcalabModWalks
/-! Who has waited how long. -/
namespace Go.Proofs.Ytlajblbfelcalab
set_option linter.unusedVariables false
set_option maxRecDepth 20000
open Go.RowKit Go.HeapKit Go.Sc

def wc (W k : Nat) (c : Nat → Nat) (j : Nat) : Int := if j = 0 then W else if j = 1 then k else (k : Int) - c (j - 2)
def IsW (w : World) (g W k : Nat) (c : Nat → Nat) : Prop := w.heap[g]? = some (.cells ((List.range 66).map (fun j => Value.int .i64 (wc W k c j))).toArray 57 (0, 0))
def nm (c : Nat → Nat) (p : Nat) (j : Nat) : Nat := if p = j then 0 else c j + 1
section
variable {w w' : World} {g W k : Nat} {c : Nat → Nat}
theorem IsW.lt (h : IsW w g W k c) : g < w.heap.size := blk_lt h
theorem IsW.kept {S : Nat → Prop} (h : IsW w g W k c) (hk : Keeps S w w') (hS : ¬ S g) : IsW w' g W k c := blk_kept h hk hS
theorem IsW.more (h : IsW w g W k c) (hk : Keeps None w w') : IsW w' g W k c := blk_kept h hk (fun f => f)
theorem IsW.c0 (h : IsW w g W k c) : w.cell? ⟨g, 0, none⟩ = some (.int .i64 W) := by rw [blk_cell h, range_at 66 0 _ (by omega)]; rfl
theorem IsW.c1 (h : IsW w g W k c) : w.cell? ⟨g, 1, none⟩ = some (.int .i64 k) := by rw [blk_cell h, range_at 66 1 _ (by omega)]; rfl
theorem IsW.cj (h : IsW w g W k c) {j : Nat} (hj : j < 64) : w.cell? ⟨g, 2 + j, none⟩ = some (.int .i64 ((k : Int) - c j)) := by
  rw [blk_cell h, range_at 66 (2 + j) _ (by omega)]
  unfold wc
  rw [if_neg (by omega), if_neg (by omega), show 2 + j - 2 = j by omega]
theorem IsW.free (h : IsW w g W k c) (i : Nat) : w.frozen? ⟨g, i, none⟩ = false := blk_free h i
theorem IsW.name (h : IsW w g W k c) {p : Nat} (hp : p < 64) : IsW ((w.setCell ⟨g, 1, none⟩ (.int .i64 ((k : Int) + 1))).setCell ⟨g, 2 + p, none⟩ (.int .i64 ((k : Int) + 1))) g W (k + 1) (nm c p) := by
  unfold IsW
  rw [blk_set (blk_set h _), range_set, range_set]
  congr 3
  apply List.map_congr_left
  intro j hj
  have := List.mem_range.1 hj
  by_cases e1 : j = 2 + p
  · rw [if_pos e1]
    congr 1
    unfold wc nm
    rw [if_neg (by omega), if_neg (by omega), if_pos (by omega)]
    omega
  · rw [if_neg e1]
    by_cases e2 : j = 1
    · rw [if_pos e2]
      congr 1
      unfold wc
      rw [if_neg (by omega), if_pos e2]
      omega
    · rw [if_neg e2]
      congr 1
      unfold wc nm
      by_cases e3 : j = 0
      · rw [if_pos e3, if_pos e3]
      · rw [if_neg e3, if_neg e3, if_neg e2, if_neg e2, if_neg (by omega)]
        omega
end
theorem of_any (g W k j : Nat) (c : Nat → Nat) (w : World) (h : IsW w g W k c) (hj : j < 64) (hc : c j ≤ k) (hk : k ≤ 17592186044416) :
    Calls Try.prog 47 #[.pointer (some ⟨g, 0, none⟩), .int .i64 j] w fun e w' => e = .returned (.int .i64 (c j)) ∧ ∃ d, w' = w.drewN d := by
  have d1 := h.c1
  have d2 := h.cj hj
  have i1 : (j : Int) < 64 := by omega
  clear h
  obtain ⟨C, hC⟩ : ∃ C : Nat, C = c j := ⟨_, rfl⟩
  rw [← hC] at d2 hc ⊢
  clear hC
  obtain ⟨D, hD⟩ : ∃ D : Int, D = (k : Int) - (C : Int) := ⟨_, rfl⟩
  have HD : Hid ((k : Int) - D = (C : Int) ∧ 0 ≤ D ∧ D ≤ k) := ⟨by omega, by omega, by omega⟩
  rw [← hD] at d2
  have b1 := HD.out.2.1
  have b2 := HD.out.2.2
  clear hD
  go_enter Try.func47, Try.ntmps47
  go_wp2_with fail
  go_quiet (fail)
  all_goals go_wp2_with fail
  all_goals go_ret
  all_goals exact ⟨by rw [HD.out.1]; rfl, _, rfl⟩
theorem name_any (g W k p : Nat) (c : Nat → Nat) (w : World) (h : IsW w g W k c) (hp : p < 64) (hk : k ≤ 17592186044416) :
    Calls Try.prog 35 #[.pointer (some ⟨g, 0, none⟩), .int .i64 p] w fun e w' => e = .returned (.tuple #[]) ∧ IsW w' g W (k + 1) (nm c p) ∧ Keeps (· = g) w w' := by
  have d1 := h.c1
  have d2 := h.cj hp
  have f1 := h.free 1
  have f2 := h.free (2 + p)
  have i1 : (p : Int) < 64 := by omega
  have HN : Hid (IsW ((w.setCell ⟨g, 1, none⟩ (.int .i64 ((k : Int) + 1))).setCell ⟨g, 2 + p, none⟩ (.int .i64 ((k : Int) + 1))) g W (k + 1) (nm c p) ∧ Keeps (· = g) w ((w.setCell ⟨g, 1, none⟩ (.int .i64 ((k : Int) + 1))).setCell ⟨g, 2 + p, none⟩ (.int .i64 ((k : Int) + 1)))) :=
    ⟨h.name hp, keeps_one (keeps_one (Keeps.refl _ w) _) _⟩
  clear h
  generalize (k : Int) - (c p : Int) = D at d2
  go_enter Try.func35, Try.ntmps35
  go_wp2_with fail
  go_region
  all_goals go_wp2_with fail
  all_goals go_end0
  all_goals first | exact ⟨rfl, HN.out⟩ | exact ⟨rfl, HN.out.1.more (Keeps.drew None _), HN.out.2.andDrew⟩
set_option maxHeartbeats 1600000 in
theorem longest_any (g W k : Nat) (c : Nat → Nat) (w : World) (h : IsW w g W k c) (hW : W ≤ 64) (hc : ∀ j, c j ≤ k) (hk : k ≤ 17592186044416) :
    Calls Try.prog 46 #[.pointer (some ⟨g, 0, none⟩)] w fun e w' => e = .returned (.int .i64 (lg c W : Nat)) ∧ ∃ d, w' = w.drewN d := by
  have HI : Hid (IsW w g W k c ∧ ∀ j, c j ≤ k) := ⟨h, hc⟩
  have d0 := h.c0
  clear h hc
  go_enter Try.func46, Try.ntmps46
  go_wp2_with fail
  go_loopw [9, 3, 4] (fun s9 s3 _ wr => ∃ n : Nat, s9 = .int .i64 n ∧ n ≤ W ∧ s3 = .int .i64 (lg c n : Nat) ∧ ∃ d, wr = w.drewN d) (fun s9 _ _ _ => W - (intOf s9).toNat)
  case atStart => exact ⟨0, rfl, Nat.zero_le _, rfl, 0, rfl⟩
  case round =>
    obtain ⟨n, rfl, hn, rfl, d, rfl⟩ := hrel
    by_cases hlt : n < W
    · have i1 : (n : Int) < (W : Int) := by omega
      have hl := lg_le c n
      obtain ⟨L, hL⟩ : ∃ L, L = lg c n := ⟨_, rfl⟩
      have HL : Hid (lg c (n + 1) = if c L < c n then n else L) := by rw [hL]; exact rfl
      rw [← hL] at hl ⊢
      clear hL
      by_cases hq : c L < c n
      · have i2 : (c L : Int) < (c n : Int) := by omega
        go_wp2_with fail
        refine (of_any g W k n c _ (HI.out.1.more (Keeps.drewN None _ _)) (by omega) (HI.out.2 n) hk).mono ?_
        rintro _ w1 ⟨rfl, d1, rfl⟩
        go_wp2_with fail
        refine (of_any g W k L c _ (HI.out.1.more (Keeps.drewN None _ _)) (by omega) (HI.out.2 L) hk).mono ?_
        rintro _ w2 ⟨rfl, d2, rfl⟩
        go_wp2_with fail
        exact ⟨⟨n + 1, by go_num, by omega, by rw [HL.out, if_pos hq], _, rfl⟩, by simp [intOf]; omega⟩
      · have i2 : ¬ (c L : Int) < (c n : Int) := by omega
        go_wp2_with fail
        refine (of_any g W k n c _ (HI.out.1.more (Keeps.drewN None _ _)) (by omega) (HI.out.2 n) hk).mono ?_
        rintro _ w1 ⟨rfl, d1, rfl⟩
        go_wp2_with fail
        refine (of_any g W k L c _ (HI.out.1.more (Keeps.drewN None _ _)) (by omega) (HI.out.2 L) hk).mono ?_
        rintro _ w2 ⟨rfl, d2, rfl⟩
        go_wp2_with fail
        exact ⟨⟨n + 1, by go_num, by omega, by rw [HL.out, if_neg hq], _, rfl⟩, by simp [intOf]; omega⟩
    · have i1 : ¬ (n : Int) < (W : Int) := by omega
      obtain rfl : n = W := by omega
      go_wp2_with fail
      go_ret
      exact ⟨rfl, d, rfl⟩
end Go.Proofs.Ytlajblbfelcalab
