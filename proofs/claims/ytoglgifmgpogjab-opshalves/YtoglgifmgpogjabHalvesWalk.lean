import Derived.Test.YtoglgifmgpogjabRowSeg
import Derived.Test.YtoglgifmgpogjabSevenWalks
import Derived.Test.YtoglgifmgpogjabModWalks
/-! The walk of OpsHalves. -/
namespace Go.Proofs.Ytoglgifmgpogjab
open Go.RowKit Go.PlainOps
section
set_option maxHeartbeats 800000
theorem halves_long (a0 a2 : Int) (a1 : Option Addr) (n cap : Nat) (w : World) (hl : 65536 < (n : Int)) :
    Calls Try.prog 3 #[.int .i64 a0, .slice a1 n cap, .int .i64 a2] w fun e w' => e = .returned (.bool true) ∧ Below w.heap.size w w' := by
  go_enter Try.func3, Try.ntmps3
  go_wp2
  go_ret
  exact ⟨rfl, Below.refl _ _⟩
theorem heap_new (w : World) (o : Obj) : (w.alloc o).heap[w.heap.size]? = some o := by
  show (w.heap.push o)[w.heap.size]? = _
  simp
theorem seg_new (w : World) (t : TypeId) (x : Int) : Seg (w.alloc (.cells #[.int .i64 x] t)) (some ⟨w.heap.size, 0, none⟩) 1 [x] :=
  ⟨by simp, by simp [maxLen], .inr ⟨w.heap.size, 0, rfl, fun i hi => by
    obtain rfl : i = 0 := by simp at hi; omega
    simp only [World.cell?, Nat.zero_add, heap_new]
    rfl⟩⟩
theorem below_drewN {B : Nat} {a w : World} (h : Below B a w) (n : Nat) : Below B a (w.drewN n) := ⟨h.os, h.tape, h.output, h.size, h.block⟩
theorem below_new (w : World) (o : Obj) (m n : Nat) : Below w.heap.size w (((w.drewN m).alloc o).drewN n) :=
  below_drewN ((below_drewN (Below.refl _ _) m).alloc (Nat.le_refl _) o) n
theorem halves_short (a0 a2 : Int) (b off : Nat) (n cap : Nat) (zs : List Int) (w : World) (hl : (n : Int) ≤ 65536) (hn : zs.length = n) (h1 : 1 ≤ n) (hc : n ≤ cap) (hm : cap ≤ maxLen) (hcell : CellsAt w b off zs) (hf : Fits zs) (k : Nat) (hk : modV a2 ((n : Int) + 1) = k) (hkn : k ≤ n) (hck : ¬ cap = k) :
    Calls Try.prog 3 #[.int .i64 a0, .slice (some ⟨b, off, none⟩) n cap, .int .i64 a2] w fun e w' => e = .returned (.bool true) ∧ Below w.heap.size w w' := by
  obtain ⟨m0, m1⟩ := modV_bounds a0 7 (by decide)
  have hkc : k ≤ cap := by omega
  have hkn' : (k : Int) ≤ (n : Int) := by omega
  have hkc' : (k : Int) ≤ (cap : Int) := by omega
  generalize hop : sevenV (modV a0 7) = op at *
  have hU : hasU op = true := by rw [← hop]; exact hasU_seven _
  have HOP : Hid (sevenV (modV a0 7) = op) := hop
  have hI := isOp_hasU hU
  have er : ∀ j : Nat, j ≤ n → foldErr op j = 0 := by
    intro j hj
    unfold foldErr
    rw [hI, hU, if_neg (by decide), if_neg (by decide), if_neg (by omega)]
  have ER1 : Hid (foldErr op (n : Nat) = 0) := er n (Nat.le_refl _)
  have ER2 : Hid (foldErr op (k : Nat) = 0) := er k hkn
  have ER3 : Hid (foldErr op ((n - k : Nat) : Int) = 0) := er (n - k) (by omega)
  have ER4 : Hid (foldErr op ((1 : Nat) : Int) = 0) := er 1 h1
  have S1 : Hid (Seg w (some ⟨b, off, none⟩) cap zs) := ⟨by omega, hm, .inr ⟨b, off, rfl, hcell⟩⟩
  have L1 : Hid (zs.length = n) := hn
  have L2 : Hid ((zs.take k).length = k) := by show (zs.take k).length = k; rw [List.length_take]; omega
  have L3 : Hid ((zs.drop k).length = n - k) := by show (zs.drop k).length = n - k; rw [List.length_drop]; omega
  have S2 : Hid (Seg w (some ⟨b, off, none⟩) cap (zs.take k)) := ⟨by rw [L2.out]; omega, hm, .inr ⟨b, off, rfl, hcell.take k⟩⟩
  have S3 : Hid (Seg w (some ⟨b, off + k, none⟩) (cap - k) (zs.drop k)) := ⟨by rw [L3.out]; omega, by unfold maxLen at hm ⊢; omega, .inr ⟨b, off + k, rfl, hcell.drop k⟩⟩
  have T1 : Hid (treeR op zs = foldV op zs) := by
    show treeR op zs = foldV op zs
    unfold treeR
    rw [if_neg (by intro h; rw [h] at hn; simp at hn; omega)]
    exact treeV_foldV op hU n zs hn h1 hf
  have T2 : Hid (workV op (foldV op (zs.take k)) (foldV op (zs.drop k)) = foldV op zs) := foldV_cut op hU zs hf k
  have T3 : Hid (treeR op [a2] = a2) := by
    show treeR op [a2] = a2
    unfold treeR; rw [if_neg (by simp)]; exact treeV_one op a2
  have HI : Hid (isOpV op = true) := hI
  have e1 : (treeR op zs == foldV op zs) = true := by rw [T1.out]; simp
  have e2 : (workV op (foldV op (zs.take k)) (foldV op (zs.drop k)) == foldV op zs) = true := by rw [T2.out]; simp
  have e3 : (treeR op [a2] == a2) = true := by rw [T3.out]; simp
  clear hU hI er hn hcell hf hm T1 T2 T3 HOP
  go_enter Try.func3, Try.ntmps3
  go_wp2_with (first
    | (go_at_call 8; refine (mod_any _ _ _ (by omega)).mono ?_; rintro e w' ⟨rfl, rfl⟩)
    | (go_at_call 7; refine (seven_any _ _ m0 m1).mono ?_; rintro e w' ⟨rfl, rfl⟩)
    | (go_at_call 11; refine (apply_any _ _ _ _ HI.out).mono ?_; rintro e w' ⟨rfl, rfl⟩)
    | (go_at_call_of 9 (Value.slice (some ⟨b, off, none⟩) n cap); refine (fold_ok _ _ _ _ zs _ ER1.out L1.out S1.out).mono ?_; rintro e w' ⟨rfl, rfl⟩)
    | (go_at_call_of 9 (Value.slice (some ⟨b, off, none⟩) k cap); refine (fold_ok _ _ _ _ (zs.take k) _ ER2.out L2.out (S2.out.drewN _)).mono ?_; rintro e w' ⟨rfl, rfl⟩)
    | (go_at_call_of 9 (Value.slice (some ⟨b, off + k, none⟩) (n - k) (cap - k)); refine (fold_ok _ _ _ _ (zs.drop k) _ ER3.out L3.out (S3.out.drewN _)).mono ?_; rintro e w' ⟨rfl, rfl⟩)
    | (go_at_call_of 10 (Value.slice (some ⟨b, off, none⟩) n cap); refine (tree_ok _ _ _ _ zs _ ER1.out L1.out S1.out).mono ?_; rintro e w' ⟨rfl, m, rfl⟩))
  refine (tree_ok _ _ 1 1 [a2] _ ER4.out rfl ?hs).mono ?_
  case hs => exact seg_new _ _ _
  rintro e w1 ⟨rfl, m', rfl⟩
  go_wp2
  go_ret
  exact ⟨rfl, below_new _ _ _ _⟩
/-- Where the cut falls behind the last cell of the room. -/
theorem halves_full (a0 a2 : Int) (b off : Nat) (n : Nat) (zs : List Int) (w : World) (hl : (n : Int) ≤ 65536) (hn : zs.length = n) (h1 : 1 ≤ n) (hm : n ≤ maxLen) (hcell : CellsAt w b off zs) (hf : Fits zs) (hk : modV a2 ((n : Int) + 1) = n) :
    Calls Try.prog 3 #[.int .i64 a0, .slice (some ⟨b, off, none⟩) n n, .int .i64 a2] w fun e w' => e = .returned (.bool true) ∧ Below w.heap.size w w' := by
  obtain ⟨m0, m1⟩ := modV_bounds a0 7 (by decide)
  generalize hop : sevenV (modV a0 7) = op at *
  have hU : hasU op = true := by rw [← hop]; exact hasU_seven _
  have hI := isOp_hasU hU
  have er : ∀ j : Nat, j ≤ n → foldErr op j = 0 := by
    intro j hj
    unfold foldErr
    rw [hI, hU, if_neg (by decide), if_neg (by decide), if_neg (by omega)]
  have ER1 : Hid (foldErr op (n : Nat) = 0) := er n (Nat.le_refl _)
  have ER3 : Hid (foldErr op ((0 : Nat) : Int) = 0) := er 0 (by omega)
  have ER4 : Hid (foldErr op ((1 : Nat) : Int) = 0) := er 1 h1
  have S1 : Hid (Seg w (some ⟨b, off, none⟩) n zs) := ⟨by omega, hm, .inr ⟨b, off, rfl, hcell⟩⟩
  have L1 : Hid (zs.length = n) := hn
  have S3 : Hid (∀ w a, Seg w a 0 []) := fun _ _ => ⟨by simp, by simp [maxLen], .inl rfl⟩
  have T1 : Hid (treeR op zs = foldV op zs) := by
    show treeR op zs = foldV op zs
    unfold treeR
    rw [if_neg (by intro h; rw [h] at hn; simp at hn; omega)]
    exact treeV_foldV op hU n zs hn h1 hf
  have T2 : Hid (workV op (foldV op zs) (foldV op []) = foldV op zs) := by
    have := foldV_cut op hU zs hf n
    rw [List.take_of_length_le (by omega), List.drop_of_length_le (by omega)] at this
    exact this
  have T3 : Hid (treeR op [a2] = a2) := by
    show treeR op [a2] = a2
    unfold treeR; rw [if_neg (by simp)]; exact treeV_one op a2
  have HI : Hid (isOpV op = true) := hI
  have e1 : (treeR op zs == foldV op zs) = true := by rw [T1.out]; simp
  have e2 : (workV op (foldV op zs) (foldV op []) == foldV op zs) = true := by rw [T2.out]; simp
  have e3 : (treeR op [a2] == a2) = true := by rw [T3.out]; simp
  have hnn : n ≤ n := Nat.le_refl _
  have hnn' : (n : Int) ≤ (n : Int) := Int.le_refl _
  clear hU hI er hn hcell hf hm T1 T2 T3
  go_enter Try.func3, Try.ntmps3
  go_wp2_with (first
    | (go_at_call 8; refine (mod_any _ _ _ (by omega)).mono ?_; rintro e w' ⟨rfl, rfl⟩)
    | (go_at_call 7; refine (seven_any _ _ m0 m1).mono ?_; rintro e w' ⟨rfl, rfl⟩)
    | (go_at_call 11; refine (apply_any _ _ _ _ HI.out).mono ?_; rintro e w' ⟨rfl, rfl⟩)
    | (go_at_call_of 9 (Value.slice (some ⟨b, off, none⟩) n n); refine (fold_ok _ _ _ _ zs _ ER1.out L1.out (by exact S1.out)).mono ?_; rintro e w' ⟨rfl, rfl⟩)
    | (go_at_call_of 10 (Value.slice (some ⟨b, off, none⟩) n n); refine (tree_ok _ _ _ _ zs _ ER1.out L1.out S1.out).mono ?_; rintro e w' ⟨rfl, m, rfl⟩)
    | (go_at_call 9; refine (fold_ok _ _ 0 0 [] _ ER3.out rfl (S3.out _ _)).mono ?_; rintro e w' ⟨rfl, rfl⟩))
  refine (tree_ok _ _ 1 1 [a2] _ ER4.out rfl ?hs).mono ?_
  case hs => exact seg_new _ _ _
  rintro e w1 ⟨rfl, m', rfl⟩
  go_wp2
  go_ret
  exact ⟨rfl, below_new _ _ _ _⟩
/-- The empty list, nil or not. -/
theorem halves_empty (a0 a2 : Int) (a : Option Addr) (cap : Nat) (w : World) (hm : cap ≤ maxLen) :
    Calls Try.prog 3 #[.int .i64 a0, .slice a 0 cap, .int .i64 a2] w fun e w' => e = .returned (.bool true) ∧ Below w.heap.size w w' := by
  obtain ⟨m0, m1⟩ := modV_bounds a0 7 (by decide)
  have hk : modV a2 1 = 0 := by have := modV_bounds a2 1 (by decide); omega
  generalize hop : sevenV (modV a0 7) = op at *
  have hU : hasU op = true := by rw [← hop]; exact hasU_seven _
  have hI := isOp_hasU hU
  have er : ∀ j : Nat, j ≤ 1 → foldErr op j = 0 := by
    intro j hj
    unfold foldErr
    rw [hI, hU, if_neg (by decide), if_neg (by decide), if_neg (by omega)]
  have ER3 : Hid (foldErr op ((0 : Nat) : Int) = 0) := er 0 (by omega)
  have ER4 : Hid (foldErr op ((1 : Nat) : Int) = 0) := er 1 (by omega)
  have S3 : Hid (∀ w a (c : Nat), c ≤ cap → Seg w a c []) := fun _ _ c hc => ⟨by simp, by unfold maxLen at hm ⊢; omega, .inl rfl⟩
  have T1 : Hid (treeR op [] = foldV op []) := rfl
  have T2 : Hid (workV op (foldV op []) (foldV op []) = foldV op []) := foldV_cut op hU [] (fun _ h => by cases h) 0
  have T3 : Hid (treeR op [a2] = a2) := by
    show treeR op [a2] = a2
    unfold treeR; rw [if_neg (by simp)]; exact treeV_one op a2
  have HI : Hid (isOpV op = true) := hI
  have e1 : (treeR op [] == foldV op []) = true := by rw [T1.out]; simp
  have e2 : (workV op (foldV op []) (foldV op []) == foldV op []) = true := by rw [T2.out]; simp
  have e3 : (treeR op [a2] == a2) = true := by rw [T3.out]; simp
  clear hU hI er hm T1 T2 T3
  go_enter Try.func3, Try.ntmps3
  go_wp2_with (first
    | (go_at_call 8; refine (mod_any _ _ _ (by omega)).mono ?_; rintro e w' ⟨rfl, rfl⟩)
    | (go_at_call 7; refine (seven_any _ _ m0 m1).mono ?_; rintro e w' ⟨rfl, rfl⟩)
    | (go_at_call 11; refine (apply_any _ _ _ _ HI.out).mono ?_; rintro e w' ⟨rfl, rfl⟩)
    | (go_at_call_of 9 (Value.slice a 0 cap); refine (fold_ok _ _ 0 _ [] _ ER3.out rfl (S3.out _ _ _ (by omega))).mono ?_; rintro e w' ⟨rfl, rfl⟩)
    | (go_at_call_of 10 (Value.slice a 0 cap); refine (tree_ok _ _ 0 _ [] _ ER3.out rfl (S3.out _ _ _ (by omega))).mono ?_; rintro e w' ⟨rfl, m, rfl⟩))
  refine (tree_ok _ _ 1 1 [a2] _ ER4.out rfl ?hs).mono ?_
  case hs => exact seg_new _ _ _
  rintro e w1 ⟨rfl, m', rfl⟩
  go_wp2
  go_ret
  exact ⟨rfl, below_new _ _ _ _⟩
theorem opsHalves_walk (a0 a2 : Int) (a : Option Addr) (n cap : Nat) (zs : List Int) (w : World) (hn : zs.length = n) (hs : Seg w a cap zs) (hf : Fits zs) :
    Calls Try.prog 3 #[.int .i64 a0, .slice a n cap, .int .i64 a2] w fun e w' => e = .returned (.bool true) ∧ Below w.heap.size w w' := by
  by_cases hl : 65536 < (n : Int)
  · exact halves_long a0 a2 a n cap w hl
  · obtain ⟨hc, hm, hcell⟩ := hs
    by_cases h0 : n = 0
    · subst h0; exact halves_empty a0 a2 a cap w hm
    · rcases hcell with rfl | ⟨b, off, rfl, hcell⟩
      · exact absurd hn.symm h0
      · obtain ⟨k0, k1⟩ := modV_bounds a2 ((n : Int) + 1) (by omega)
        obtain ⟨k, hk⟩ := Int.eq_ofNat_of_zero_le k0
        rw [hk] at k1
        by_cases hck : cap = k
        · obtain rfl : cap = n := by omega
          subst hck
          exact halves_full a0 a2 b off cap zs w (by omega) hn (by omega) hm hcell hf hk
        · exact halves_short a0 a2 b off n cap zs w (by omega) hn (by omega) (by omega) hm hcell hf k hk (by omega) hck
end
end Go.Proofs.Ytoglgifmgpogjab
