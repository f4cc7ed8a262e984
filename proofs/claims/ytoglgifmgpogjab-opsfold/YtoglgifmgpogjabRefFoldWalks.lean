import Derived.Test.YtoglgifmgpogjabTreeWalks
import Derived.Test.YtoglgifmgpogjabRefWorkWalks
import Derived.Test.YtoglgifmgpogjabRefUnitWalks
/-! The contracts of the document's own folds, Fold, halves, Tree. -/
namespace Go.Proofs.Ytoglgifmgpogjab
open Go.RowKit Go.PlainOps
theorem foldK_fits (op : Int) (h : hasU op = true) (zs : List Int) (hz : Fits zs) (k : Nat) : -9223372036854775808 ≤ foldK op zs k ∧ foldK op zs k ≤ 9223372036854775807 := foldl_fits op h _ _ (hz.take k) (unitV_fits op)
theorem fits_getD {zs : List Int} (h : Fits zs) (k : Nat) (hk : k < zs.length) : -9223372036854775808 ≤ zs.getD k 0 ∧ zs.getD k 0 ≤ 9223372036854775807 := by
  simp only [List.getD, List.getElem?_eq_getElem hk, Option.getD_some]
  exact h _ (List.getElem_mem hk)
theorem treeV_fits (op : Int) (h : hasU op = true) (zs : List Int) (h1 : 1 ≤ zs.length) (hz : Fits zs) : -9223372036854775808 ≤ treeV op zs ∧ treeV op zs ≤ 9223372036854775807 := by
  rw [treeV_foldV op h _ zs rfl h1 hz]; exact foldV_fits op h zs hz
section
set_option maxHeartbeats 400000
theorem refFolds_ok (op n : Int) (w : World) (h : hasU op = true) (hn : n ≤ 65536) : Calls Try.prog 24 #[.int .i64 op, .int .i64 n] w fun e w' => e = .returned (.int .i64 0) ∧ w' = w := by
  have hi : 0 ≤ op ∧ op < 16 := by simpa [isOpV] using isOp_hasU h
  obtain ⟨i0, i1⟩ := hi
  have H : Hid (hasU op = true) := h
  clear h
  go_enter Try.func24, Try.ntmps24
  go_wp2_with (go_at_call 25; refine (refUnit_any _ _ H.out).mono ?_; rintro e w' ⟨rfl, rfl⟩)
  go_ret
  exact ⟨rfl, rfl⟩
theorem refFolds_long (op n : Int) (w : World) (h : hasU op = true) (hn : 65536 < n) : Calls Try.prog 24 #[.int .i64 op, .int .i64 n] w fun e w' => e = .returned (.int .i64 2) ∧ w' = w := by
  have hi : 0 ≤ op ∧ op < 16 := by simpa [isOpV] using isOp_hasU h
  obtain ⟨i0, i1⟩ := hi
  have H : Hid (hasU op = true) := h
  clear h
  go_enter Try.func24, Try.ntmps24
  go_wp2_with (go_at_call 25; refine (refUnit_any _ _ H.out).mono ?_; rintro e w' ⟨rfl, rfl⟩)
  go_ret
  exact ⟨rfl, rfl⟩
theorem refFolds_unit (op n : Int) (w : World) (hi : isOpV op = true) (h : hasU op = false) : Calls Try.prog 24 #[.int .i64 op, .int .i64 n] w fun e w' => e = .returned (.int .i64 11) ∧ w' = w := by
  have hi : 0 ≤ op ∧ op < 16 := by simpa [isOpV] using hi
  obtain ⟨i0, i1⟩ := hi
  have H : Hid (hasU op = false) := h
  clear h
  go_enter Try.func24, Try.ntmps24
  go_wp2_with (go_at_call 25; refine (refUnit_not _ _ H.out).mono ?_; rintro e w' ⟨rfl, rfl⟩)
  go_ret
  exact ⟨rfl, rfl⟩
theorem refFolds_op (op n : Int) (w : World) (hi : isOpV op = false) : Calls Try.prog 24 #[.int .i64 op, .int .i64 n] w fun e w' => e = .returned (.int .i64 10) ∧ w' = w := by
  have hr : ¬ (0 ≤ op ∧ op < 16) := by simpa [isOpV] using hi
  clear hi
  by_cases r0 : op < 0
  · clear hr
    go_enter Try.func24, Try.ntmps24
    go_wp2
    go_ret
    exact ⟨rfl, rfl⟩
  · have r1 : 16 ≤ op := by omega
    clear hr
    go_enter Try.func24, Try.ntmps24
    go_wp2
    go_ret
    exact ⟨rfl, rfl⟩
theorem refFolds_any (op n : Int) (w : World) : Calls Try.prog 24 #[.int .i64 op, .int .i64 n] w fun e w' => e = .returned (.int .i64 (foldErr op n)) ∧ w' = w := by
  unfold foldErr
  split
  · rename_i h1; exact refFolds_op op n w h1
  · rename_i h1
    split
    · rename_i h2; exact refFolds_unit op n w (by simpa using h1) h2
    · rename_i h2
      split
      · rename_i h3; exact refFolds_long op n w (by simpa using h2) h3
      · rename_i h3; exact refFolds_ok op n w (by simpa using h2) (by omega)
theorem refFold_err (op : Int) (a : Option Addr) (n cap : Nat) (w : World) (h : foldErr op n ≠ 0) : Calls Try.prog 15 #[.int .i64 op, .slice a n cap] w fun e w' => e = .returned (.tuple #[.int .i64 0, .int .i64 (foldErr op n)]) ∧ w' = w := by
  have hb : (foldErr op n != 0) = true := by rw [bne_iff_ne]; exact h
  clear h
  go_enter Try.func15, Try.ntmps15
  go_wp2_with (go_at_call 24; refine (refFolds_any _ _ _).mono ?_; rintro e w' ⟨rfl, rfl⟩)
  go_ret2
  exact ⟨rfl, rfl⟩
theorem refFold_ok (op : Int) (a : Option Addr) (n cap : Nat) (zs : List Int) (w : World) (h : foldErr op n = 0) (hn : zs.length = n) (hf : Fits zs) (hs : Seg w a cap zs) : Calls Try.prog 15 #[.int .i64 op, .slice a n cap] w fun e w' => e = .returned (.tuple #[.int .i64 (foldV op zs), .int .i64 0]) ∧ w' = w := by
  obtain ⟨hU, hle⟩ := foldErr_ok h
  subst hn
  obtain ⟨hc, hm, hcell⟩ := hs
  unfold maxLen at hm
  have HI : Hid (isOpV op = true) := isOp_hasU hU
  have HU : Hid (hasU op = true) := hU
  have HF : Hid (Fits zs) := hf
  clear hU hf
  rcases hcell with rfl | ⟨b, off, rfl, hcell⟩
  · have E : Hid (foldV op [] = unitV op) := rfl
    have h : foldErr op 0 = 0 := h
    go_enter Try.func15, Try.ntmps15
    go_wp2_with (first | (go_at_call 24; refine (refFolds_any _ _ _).mono ?_; rintro e w' ⟨rfl, rfl⟩) | (go_at_call 25; refine (refUnit_any _ _ HU.out).mono ?_; rintro e w' ⟨rfl, rfl⟩))
    go_loop [7, 9] (fun v i => i = .int .i64 0 ∧ v = .int .i64 (unitV op)) (fun _ _ => 0)
    case atStart => exact ⟨rfl, rfl⟩
    case round =>
      obtain ⟨rfl, rfl⟩ := hrel
      go_wp2
      go_ret2
      exact ⟨by rw [E.out]; rfl, rfl⟩
  · go_enter Try.func15, Try.ntmps15
    go_wp2_with (first | (go_at_call 24; refine (refFolds_any _ _ _).mono ?_; rintro e w' ⟨rfl, rfl⟩) | (go_at_call 25; refine (refUnit_any _ _ HU.out).mono ?_; rintro e w' ⟨rfl, rfl⟩))
    go_loop [7, 9] (fun v i => ∃ k : Nat, k ≤ zs.length ∧ i = .int .i64 k ∧ v = .int .i64 (foldK op zs k)) (fun _ i => zs.length - (intOf i).toNat)
    case atStart => exact ⟨0, by omega, rfl, by rw [foldK_zero]⟩
    case round =>
      obtain ⟨k, hk, rfl, rfl⟩ := hrel
      by_cases hlt : k < zs.length
      · have hck := hcell k hlt
        have E : Hid (workV op (foldK op zs k) (zs.getD k 0) = foldK op zs (k + 1)) := foldK_succ op zs k hlt
        have HK := foldK_fits op HU.out zs HF.out k
        have HG := fits_getD HF.out k hlt
        clear hcell
        generalize zs.getD k 0 = z at hck E HG
        obtain ⟨f0, f1⟩ := HK
        obtain ⟨f2, f3⟩ := HG
        go_wp2_with (go_at_call 23; refine (refWork_any _ _ _ _ HI.out f0 f1 f2 f3).mono ?_; rintro e w' ⟨rfl, rfl⟩)
        exact ⟨⟨k + 1, by omega, by go_num, by rw [← E.out]⟩, by simp [intOf]; omega⟩
      · have E : Hid (foldK op zs k = foldV op zs) := foldK_end op zs k (by omega)
        go_wp2
        go_ret2
        exact ⟨by rw [← E.out]; rfl, rfl⟩
theorem refHalves_one (op : Int) (b off cap : Nat) (x : Int) (w : World) (hc : w.cell? ⟨b, off, none⟩ = some (.int .i64 x)) :
    Calls Try.prog 26 #[.int .i64 op, .slice (some ⟨b, off, none⟩) 1 cap] w fun e w' => e = .returned (.int .i64 x) ∧ w' = w := by
  go_enter Try.func26, Try.ntmps26
  go_wp2
  go_ret
  exact ⟨rfl, rfl⟩
theorem refHalves_two (op : Int) (hI : isOpV op = true) (t1 t2 : Int) (n q b off cap : Nat) (w : World) (h2 : 2 ≤ n) (hc : n ≤ cap) (hm : cap ≤ maxLen) (hq : (n : Int) / 2 = (q : Int)) (hq1 : q < n)
    (f1 : -9223372036854775808 ≤ t1 ∧ t1 ≤ 9223372036854775807) (f2 : -9223372036854775808 ≤ t2 ∧ t2 ≤ 9223372036854775807)
    (ih1 : Calls Try.prog 26 #[.int .i64 op, .slice (some ⟨b, off, none⟩) q cap] w fun e w' => e = .returned (.int .i64 t1) ∧ w' = w)
    (ih2 : Calls Try.prog 26 #[.int .i64 op, .slice (some ⟨b, off + q, none⟩) (n - q) (cap - q)] w fun e w' => e = .returned (.int .i64 t2) ∧ w' = w) :
    Calls Try.prog 26 #[.int .i64 op, .slice (some ⟨b, off, none⟩) n cap] w fun e w' => e = .returned (.int .i64 (workV op t1 t2)) ∧ w' = w := by
  unfold maxLen at hm
  have HI : Hid (isOpV op = true) := hI
  have H1 : Hid (Calls Try.prog 26 #[.int .i64 op, .slice (some ⟨b, off, none⟩) q cap] w fun e w' => e = .returned (.int .i64 t1) ∧ w' = w) := ih1
  have H2 : Hid (Calls Try.prog 26 #[.int .i64 op, .slice (some ⟨b, off + q, none⟩) (n - q) (cap - q)] w fun e w' => e = .returned (.int .i64 t2) ∧ w' = w) := ih2
  clear ih1 ih2 hI
  obtain ⟨f10, f11⟩ := f1
  obtain ⟨f20, f21⟩ := f2
  have hq2 : q ≤ cap := by omega
  have hne : ¬ cap = q := by omega
  have hq3 : q ≤ n := by omega
  have hi1 : (q : Int) ≤ (n : Int) := by omega
  have hi2 : (q : Int) ≤ (cap : Int) := by omega
  go_enter Try.func26, Try.ntmps26
  go_wp2_with (first
    | (go_at_call 23; refine (refWork_any _ _ _ _ HI.out f10 f11 f20 f21).mono ?_; rintro e w' ⟨rfl, rfl⟩)
    | (go_at_call_of 26 (Value.slice (some ⟨b, off, none⟩) q cap); refine H1.out.mono ?_; intro e w' hh; obtain ⟨he, hw⟩ := hh; subst he; rw [hw]; clear hw)
    | (go_at_call_of 26 (Value.slice (some ⟨b, off + q, none⟩) (n - q) (cap - q)); refine H2.out.mono ?_; intro e w' hh; obtain ⟨he, hw⟩ := hh; subst he; rw [hw]; clear hw))
  go_ret
  exact ⟨rfl, rfl⟩
theorem refHalves_any (op : Int) (hU : hasU op = true) : ∀ (n : Nat) (zs : List Int) (b off cap : Nat) (w : World), zs.length = n → 1 ≤ n → n ≤ cap → cap ≤ maxLen → Fits zs → CellsAt w b off zs →
    Calls Try.prog 26 #[.int .i64 op, .slice (some ⟨b, off, none⟩) n cap] w fun e w' => e = .returned (.int .i64 (treeV op zs)) ∧ w' = w := by
  intro n
  induction n using Nat.strongRecOn with
  | ind n ih =>
    intro zs b off cap w hz h1 hc hm hf hcell
    by_cases hone : n = 1
    · subst hone
      match zs, hz with
      | [x], _ =>
        rw [treeV_one]
        have h0 := hcell 0 (by simp)
        simp at h0
        exact refHalves_one op b off cap x w h0
    · have l1 : (zs.take (n / 2)).length = n / 2 := by rw [List.length_take]; omega
      have l2 : (zs.drop (n / 2)).length = n - n / 2 := by rw [List.length_drop]; omega
      rw [treeV_more op zs (by omega), hz]
      exact refHalves_two op (isOp_hasU hU) _ _ n (n / 2) b off cap w (by omega) hc hm (by omega) (by omega)
        (treeV_fits op hU _ (by omega) (hf.take _)) (treeV_fits op hU _ (by omega) (hf.drop _))
        (ih (n / 2) (by omega) _ b off cap _ l1 (by omega) (by omega) hm (hf.take _) (hcell.take _))
        (ih (n - n / 2) (by omega) _ b (off + n / 2) (cap - n / 2) _ l2 (by omega) (by omega) (by omega) (hf.drop _) (hcell.drop _))
theorem refTree_err (op : Int) (a : Option Addr) (n cap : Nat) (w : World) (h : foldErr op n ≠ 0) : Calls Try.prog 18 #[.int .i64 op, .slice a n cap] w fun e w' => e = .returned (.tuple #[.int .i64 0, .int .i64 (foldErr op n)]) ∧ w' = w := by
  have hb : (foldErr op n != 0) = true := by rw [bne_iff_ne]; exact h
  clear h
  go_enter Try.func18, Try.ntmps18
  go_wp2_with (go_at_call 24; refine (refFolds_any _ _ _).mono ?_; rintro e w' ⟨rfl, rfl⟩)
  go_ret2
  exact ⟨rfl, rfl⟩
theorem refTree_ok (op : Int) (a : Option Addr) (n cap : Nat) (zs : List Int) (w : World) (h : foldErr op n = 0) (hn : zs.length = n) (hf : Fits zs) (hs : Seg w a cap zs) : Calls Try.prog 18 #[.int .i64 op, .slice a n cap] w fun e w' => e = .returned (.tuple #[.int .i64 (treeR op zs), .int .i64 0]) ∧ w' = w := by
  obtain ⟨hU, hle⟩ := foldErr_ok h
  obtain ⟨hc, hm, hcell⟩ := hs
  have HM : Hid (cap ≤ maxLen) := hm
  unfold maxLen at hm
  have HU : Hid (hasU op = true) := hU
  have HF : Hid (Fits zs) := hf
  clear hU hf
  by_cases hz : zs = []
  · subst hz
    subst hn
    have E : Hid (treeR op [] = unitV op) := rfl
    have h : foldErr op 0 = 0 := h
    clear hcell
    go_enter Try.func18, Try.ntmps18
    go_wp2_with (first | (go_at_call 24; refine (refFolds_any _ _ _).mono ?_; rintro e w' ⟨rfl, rfl⟩) | (go_at_call 25; refine (refUnit_any _ _ HU.out).mono ?_; rintro e w' ⟨rfl, rfl⟩))
    go_ret2
    exact ⟨by rw [E.out]; rfl, rfl⟩
  · rcases hcell with hcell | ⟨b, off, rfl, hcell⟩
    · exact absurd hcell hz
    · have E : Hid (treeR op zs = treeV op zs) := by unfold treeR; exact if_neg hz
      have hl : 1 ≤ n := by rw [← hn]; cases zs with | nil => exact absurd rfl hz | cons => simp
      have hb : ((n : Int) == 0) = false := beq_eq_false_iff_ne.2 (by omega)
      have HC : Hid (CellsAt w b off zs) := hcell
      have HN : Hid (zs.length = n) := hn
      have hc : n ≤ cap := by omega
      clear hcell hz hn
      go_enter Try.func18, Try.ntmps18
      go_wp2_with (first | (go_at_call 24; refine (refFolds_any _ _ _).mono ?_; rintro e w' ⟨rfl, rfl⟩) | (go_at_call 26; refine (refHalves_any op HU.out _ zs _ _ _ _ HN.out hl hc HM.out HF.out HC.out).mono ?_; rintro e w' ⟨rfl, rfl⟩))
      go_ret2
      exact ⟨by rw [E.out]; rfl, rfl⟩
end
end Go.Proofs.Ytoglgifmgpogjab
