import Derived.Test.YtoglgifmgpogjabFoldWalks
import Derived.Deep.RegionWith
/-! The contracts of halves and Tree. -/
namespace Go.Proofs.Ytoglgifmgpogjab
open Go.RowKit Go.PlainOps
section
set_option maxHeartbeats 400000
theorem halves_one (op : Int) (b off cap : Nat) (x : Int) (w : World) (hc : w.cell? ⟨b, off, none⟩ = some (.int .i64 x)) :
    Calls Try.prog 21 #[.int .i64 op, .slice (some ⟨b, off, none⟩) 1 cap] w fun e w' => e = .returned (.int .i64 x) ∧ w' = w := by
  go_enter Try.func21, Try.ntmps21
  go_wp2
  go_ret
  exact ⟨rfl, rfl⟩
theorem halves_two (op : Int) (hI : isOpV op = true) (t1 t2 : Int) (n q b off cap : Nat) (w : World) (h2 : 2 ≤ n) (hc : n ≤ cap) (hm : cap ≤ maxLen) (hq : (n : Int) / 2 = (q : Int)) (hq1 : q < n)
    (ih1 : ∀ m, Calls Try.prog 21 #[.int .i64 op, .slice (some ⟨b, off, none⟩) q cap] (w.drewN m) fun e w' => e = .returned (.int .i64 t1) ∧ ∃ k, w' = (w.drewN m).drewN k)
    (ih2 : ∀ m, Calls Try.prog 21 #[.int .i64 op, .slice (some ⟨b, off + q, none⟩) (n - q) (cap - q)] (w.drewN m) fun e w' => e = .returned (.int .i64 t2) ∧ ∃ k, w' = (w.drewN m).drewN k) :
    Calls Try.prog 21 #[.int .i64 op, .slice (some ⟨b, off, none⟩) n cap] w fun e w' => e = .returned (.int .i64 (workV op t1 t2)) ∧ ∃ m, w' = w.drewN m := by
  unfold maxLen at hm
  have HI : Hid (isOpV op = true) := hI
  have H1 : Hid (∀ m, Calls Try.prog 21 #[.int .i64 op, .slice (some ⟨b, off, none⟩) q cap] (w.drewN m) fun e w' => e = .returned (.int .i64 t1) ∧ ∃ k, w' = (w.drewN m).drewN k) := ih1
  have H2 : Hid (∀ m, Calls Try.prog 21 #[.int .i64 op, .slice (some ⟨b, off + q, none⟩) (n - q) (cap - q)] (w.drewN m) fun e w' => e = .returned (.int .i64 t2) ∧ ∃ k, w' = (w.drewN m).drewN k) := ih2
  clear ih1 ih2 hI
  have hq2 : q ≤ cap := by omega
  have hne : ¬ cap = q := by omega
  have hq3 : q ≤ n := by omega
  have hi1 : (q : Int) ≤ (n : Int) := by omega
  have hi2 : (q : Int) ≤ (cap : Int) := by omega
  go_enter Try.func21, Try.ntmps21
  go_wp2
  go_quiet (first
    | (go_at_call 20; exact Calls.quiet_of_same (work_any _ _ _ _ HI.out))
    | (go_at_call_of 21 (Value.slice (some ⟨b, off, none⟩) q cap); exact Calls.quiet_of (H1.out _))
    | (go_at_call_of 21 (Value.slice (some ⟨b, off + q, none⟩) (n - q) (cap - q)); exact Calls.quiet_of (H2.out _)))
  go_wp2
  go_ret
  exact ⟨rfl, _, rfl⟩
/-- Cells at a place, one behind the other. -/
def CellsAt (w : World) (b off : Nat) (zs : List Int) : Prop := ∀ i, i < zs.length → w.cell? ⟨b, off + i, none⟩ = some (.int .i64 (zs.getD i 0))
theorem CellsAt.drewN {w : World} {b off : Nat} {zs : List Int} (h : CellsAt w b off zs) (n : Nat) : CellsAt (w.drewN n) b off zs := h
theorem CellsAt.take {w : World} {b off : Nat} {zs : List Int} (h : CellsAt w b off zs) (k : Nat) : CellsAt w b off (zs.take k) := by
  intro i hi
  rw [List.length_take] at hi
  rw [h i (by omega)]
  simp only [List.getD, List.getElem?_take]
  rw [if_pos (by omega)]
theorem CellsAt.drop {w : World} {b off : Nat} {zs : List Int} (h : CellsAt w b off zs) (k : Nat) : CellsAt w b (off + k) (zs.drop k) := by
  intro i hi
  rw [List.length_drop] at hi
  rw [Nat.add_assoc, h (k + i) (by omega)]
  simp only [List.getD, List.getElem?_drop]
theorem halves_any (op : Int) (hI : isOpV op = true) : ∀ (n : Nat) (zs : List Int) (b off cap : Nat) (w : World), zs.length = n → 1 ≤ n → n ≤ cap → cap ≤ maxLen → CellsAt w b off zs →
    Calls Try.prog 21 #[.int .i64 op, .slice (some ⟨b, off, none⟩) n cap] w fun e w' => e = .returned (.int .i64 (treeV op zs)) ∧ ∃ m, w' = w.drewN m := by
  intro n
  induction n using Nat.strongRecOn with
  | ind n ih =>
    intro zs b off cap w hz h1 hc hm hcell
    by_cases hone : n = 1
    · subst hone
      match zs, hz with
      | [x], _ =>
        rw [treeV_one]
        have h0 := hcell 0 (by simp)
        simp at h0
        refine (halves_one op b off cap x w h0).mono ?_
        rintro e w' ⟨rfl, rfl⟩
        exact ⟨rfl, 0, rfl⟩
    · have l1 : (zs.take (n / 2)).length = n / 2 := by rw [List.length_take]; omega
      have l2 : (zs.drop (n / 2)).length = n - n / 2 := by rw [List.length_drop]; omega
      rw [treeV_more op zs (by omega), hz]
      exact halves_two op hI _ _ n (n / 2) b off cap w (by omega) hc hm (by omega) (by omega)
        (fun m => ih (n / 2) (by omega) _ b off cap _ l1 (by omega) (by omega) hm ((hcell.take _).drewN m))
        (fun m => ih (n - n / 2) (by omega) _ b (off + n / 2) (cap - n / 2) _ l2 (by omega) (by omega) (by omega) ((hcell.drop _).drewN m))
def treeR (op : Int) (zs : List Int) : Int := if zs = [] then unitV op else treeV op zs
theorem tree_err (op : Int) (a : Option Addr) (n cap : Nat) (w : World) (h : foldErr op n ≠ 0) : Calls Try.prog 10 #[.int .i64 op, .slice a n cap] w fun e w' => e = .returned (.tuple #[.int .i64 0, .int .i64 (foldErr op n)]) ∧ ∃ m, w' = w.drewN m := by
  have hb : (foldErr op n != 0) = true := by rw [bne_iff_ne]; exact h
  have H : Hid (foldErr op n ≠ 0) := h
  clear h
  go_enter Try.func10, Try.ntmps10
  go_wp2_with (go_at_call 19; refine (foldUnit_err _ _ _ H.out).mono ?_; rintro e w' ⟨rfl, rfl⟩)
  go_ret2
  exact ⟨rfl, 0, rfl⟩
theorem tree_ok (op : Int) (a : Option Addr) (n cap : Nat) (zs : List Int) (w : World) (h : foldErr op n = 0) (hn : zs.length = n) (hs : Seg w a cap zs) : Calls Try.prog 10 #[.int .i64 op, .slice a n cap] w fun e w' => e = .returned (.tuple #[.int .i64 (treeR op zs), .int .i64 0]) ∧ ∃ m, w' = w.drewN m := by
  subst hn
  obtain ⟨hU, hle⟩ := foldErr_ok h
  obtain ⟨hc, hm, hcell⟩ := hs
  have HM : Hid (cap ≤ maxLen) := hm
  unfold maxLen at hm
  have HI : Hid (isOpV op = true) := isOp_hasU hU
  have HU : Hid (hasU op = true) := hU
  clear h hU
  by_cases hz : zs = []
  · subst hz
    have E : Hid (treeR op [] = unitV op) := rfl
    clear hcell
    go_enter Try.func10, Try.ntmps10
    go_wp2_with (go_at_call 19; refine (foldUnit_ok _ _ _ HU.out (by omega)).mono ?_; rintro e w' ⟨rfl, rfl⟩)
    go_ret2
    exact ⟨by rw [E.out]; rfl, 0, rfl⟩
  · rcases hcell with hcell | ⟨b, off, rfl, hcell⟩
    · exact absurd hcell hz
    · have E : Hid (treeR op zs = treeV op zs) := by unfold treeR; exact if_neg hz
      have hl : 1 ≤ zs.length := by cases zs with | nil => exact absurd rfl hz | cons => simp
      have hb : ((zs.length : Int) == 0) = false := beq_eq_false_iff_ne.2 (by omega)
      have HC : Hid (CellsAt w b off zs) := hcell
      clear hcell hz
      generalize hn : zs.length = n at *
      have HN : Hid (zs.length = n) := hn
      clear hn
      go_enter Try.func10, Try.ntmps10
      go_wp2_with (first | (go_at_call 19; refine (foldUnit_ok _ _ _ HU.out (by omega)).mono ?_; rintro e w' ⟨rfl, rfl⟩) | (go_at_call 21; refine (halves_any op HI.out _ zs _ _ _ _ HN.out hl hc HM.out HC.out).mono ?_; rintro e w' ⟨rfl, m, rfl⟩))
      go_ret2
      exact ⟨by rw [E.out]; rfl, _, rfl⟩
end
end Go.Proofs.Ytoglgifmgpogjab
