import Derived.Test.YtoglgifmgpogjaaDoorProg
import Derived.WalkKit
import Derived.WalkSpells
import Derived.WalkLawsBesides
import Derived.Test.YtoglgifmgpogjaaDoorNamesPlain
import Derived.Outline
/-! The contracts of ops.Name and ops.Find, under what the variable holds. -/
namespace Go.Proofs.YtoglgifmgpogjaaDoor
open Go.RowKit Go.PlainOps

def tab : Array Value := #[.string (nmS 0), .string (nmS 1), .string (nmS 2), .string (nmS 3), .string (nmS 4), .string (nmS 5), .string (nmS 6), .string (nmS 7), .string (nmS 8), .string (nmS 9), .string (nmS 10), .string (nmS 11), .string (nmS 12), .string (nmS 13), .string (nmS 14), .string (nmS 15)]
/-- The variable's block holds the table. -/
def NamesAre (w : World) : Prop := ∃ t fr, w.heap[0]? = some (.cells tab t fr)
theorem tab_at (k : Nat) (hk : k < 16) : tab[k]? = some (.string (nmS k)) := by
  have hc : k = 0 ∨ k = 1 ∨ k = 2 ∨ k = 3 ∨ k = 4 ∨ k = 5 ∨ k = 6 ∨ k = 7 ∨ k = 8 ∨ k = 9 ∨ k = 10 ∨ k = 11 ∨ k = 12 ∨ k = 13 ∨ k = 14 ∨ k = 15 := by omega
  rcases hc with rfl | rfl | rfl | rfl | rfl | rfl | rfl | rfl | rfl | rfl | rfl | rfl | rfl | rfl | rfl | rfl <;> rfl
theorem NamesAre.cell {w : World} (h : NamesAre w) (k : Nat) (hk : k < 16) : w.cell? ⟨0, k, none⟩ = some (.string (nmS k)) := by
  obtain ⟨t, fr, h⟩ := h
  simp [World.cell?, h, tab_at k hk]
theorem index0 (w : World) : (Instr.index 29 (.agg tab) (.int .i64 0)).run Tryd.prog w = .ok (.string (nmS 0)) w := by kernel_rfl
theorem index1 (w : World) : (Instr.index 29 (.agg tab) (.int .i64 1)).run Tryd.prog w = .ok (.string (nmS 1)) w := by kernel_rfl
theorem index2 (w : World) : (Instr.index 29 (.agg tab) (.int .i64 2)).run Tryd.prog w = .ok (.string (nmS 2)) w := by kernel_rfl
theorem index3 (w : World) : (Instr.index 29 (.agg tab) (.int .i64 3)).run Tryd.prog w = .ok (.string (nmS 3)) w := by kernel_rfl
theorem index4 (w : World) : (Instr.index 29 (.agg tab) (.int .i64 4)).run Tryd.prog w = .ok (.string (nmS 4)) w := by kernel_rfl
theorem index5 (w : World) : (Instr.index 29 (.agg tab) (.int .i64 5)).run Tryd.prog w = .ok (.string (nmS 5)) w := by kernel_rfl
theorem index6 (w : World) : (Instr.index 29 (.agg tab) (.int .i64 6)).run Tryd.prog w = .ok (.string (nmS 6)) w := by kernel_rfl
theorem index7 (w : World) : (Instr.index 29 (.agg tab) (.int .i64 7)).run Tryd.prog w = .ok (.string (nmS 7)) w := by kernel_rfl
theorem index8 (w : World) : (Instr.index 29 (.agg tab) (.int .i64 8)).run Tryd.prog w = .ok (.string (nmS 8)) w := by kernel_rfl
theorem index9 (w : World) : (Instr.index 29 (.agg tab) (.int .i64 9)).run Tryd.prog w = .ok (.string (nmS 9)) w := by kernel_rfl
theorem index10 (w : World) : (Instr.index 29 (.agg tab) (.int .i64 10)).run Tryd.prog w = .ok (.string (nmS 10)) w := by kernel_rfl
theorem index11 (w : World) : (Instr.index 29 (.agg tab) (.int .i64 11)).run Tryd.prog w = .ok (.string (nmS 11)) w := by kernel_rfl
theorem index12 (w : World) : (Instr.index 29 (.agg tab) (.int .i64 12)).run Tryd.prog w = .ok (.string (nmS 12)) w := by kernel_rfl
theorem index13 (w : World) : (Instr.index 29 (.agg tab) (.int .i64 13)).run Tryd.prog w = .ok (.string (nmS 13)) w := by kernel_rfl
theorem index14 (w : World) : (Instr.index 29 (.agg tab) (.int .i64 14)).run Tryd.prog w = .ok (.string (nmS 14)) w := by kernel_rfl
theorem index15 (w : World) : (Instr.index 29 (.agg tab) (.int .i64 15)).run Tryd.prog w = .ok (.string (nmS 15)) w := by kernel_rfl
theorem index_tab (k : Nat) (hk : k < 16) (w : World) : (Instr.index 29 (.agg tab) (.int .i64 k)).run Tryd.prog w = .ok (.string (nmS k)) w := by
  have hc : k = 0 ∨ k = 1 ∨ k = 2 ∨ k = 3 ∨ k = 4 ∨ k = 5 ∨ k = 6 ∨ k = 7 ∨ k = 8 ∨ k = 9 ∨ k = 10 ∨ k = 11 ∨ k = 12 ∨ k = 13 ∨ k = 14 ∨ k = 15 := by omega
  rcases hc with rfl | rfl | rfl | rfl | rfl | rfl | rfl | rfl | rfl | rfl | rfl | rfl | rfl | rfl | rfl | rfl
  · exact index0 w
  · exact index1 w
  · exact index2 w
  · exact index3 w
  · exact index4 w
  · exact index5 w
  · exact index6 w
  · exact index7 w
  · exact index8 w
  · exact index9 w
  · exact index10 w
  · exact index11 w
  · exact index12 w
  · exact index13 w
  · exact index14 w
  · exact index15 w
theorem str_eq (a b : ByteArray) : (a.toList == b.toList) = decide (a = b) := by
  rw [ByteArray.toList_eq, ByteArray.toList_eq, Bool.eq_iff_iff]
  simp only [beq_iff_eq, decide_eq_true_eq]
  exact ⟨fun h => Go.WideShapes.bytes_inj h, fun h => by rw [h]⟩

set_option maxHeartbeats 400000 in
theorem isOp_any (op : Int) (w : World) : Calls Tryd.prog 12 #[.int .i64 op] w fun e w' => e = .returned (.bool (decide (0 ≤ op ∧ op < 16))) ∧ w' = w := by
  by_cases h1 : 0 ≤ op
  · by_cases h2 : op < 16
    · go_enter Tryd.func12, Tryd.ntmps12
      go_wp2
      go_ret
      exact ⟨by simp [h1, h2], rfl⟩
    · go_enter Tryd.func12, Tryd.ntmps12
      go_wp2
      go_ret
      exact ⟨by simp [h2], rfl⟩
  · go_enter Tryd.func12, Tryd.ntmps12
    go_wp2
    go_ret
    exact ⟨by simp; omega, rfl⟩

set_option maxHeartbeats 400000 in
theorem name_any (op : Int) (w : World) (h : NamesAre w) : Calls Tryd.prog 6 #[.int .i64 op] w fun e w' => e = .returned (.string (nameV op)) ∧ w' = w := by
  by_cases ho : 0 ≤ op ∧ op < 16
  · obtain ⟨h0, h1⟩ := ho
    obtain ⟨k, rfl⟩ := Int.eq_ofNat_of_zero_le h0
    have hc := h.cell k (by omega)
    have hd : decide ((0 : Int) ≤ k ∧ (k : Int) < 16) = true := by simp; omega
    have hl : (k : Int) < (16 : Nat) := by omega
    have e : nameV k = nmS k := by unfold nameV; rw [if_pos ⟨h0, h1⟩]; simp
    have E : Hid (nameV k = nmS k) := e
    clear e h
    go_enter Tryd.func6, Tryd.ntmps6
    go_wp2_with (go_at_call 12; refine (isOp_any _ _).mono ?_; rintro e w' ⟨rfl, rfl⟩)
    go_ret
    exact ⟨by rw [E.out]; rfl, rfl⟩
  · have hd : decide (0 ≤ op ∧ op < 16) = false := decide_eq_false ho
    have E : Hid (nameV op = ⟨#[]⟩) := by unfold nameV; exact if_neg ho
    clear ho h
    go_enter Tryd.func6, Tryd.ntmps6
    go_wp2_with (go_at_call 12; refine (isOp_any _ _).mono ?_; rintro e w' ⟨rfl, rfl⟩)
    go_ret
    exact ⟨by rw [E.out]; rfl, rfl⟩

set_option maxHeartbeats 400000 in
theorem find_any (s : ByteArray) (w : World) (h : NamesAre w) : Calls Tryd.prog 7 #[.string s] w fun e w' => e = .returned (.int .i64 (findV s)) ∧ w' = w := by
  obtain ⟨t, fr, hg⟩ := h
  go_enter Tryd.func7, Tryd.ntmps7
  go_wp2_with (refine wpList_load_row rfl 29 _ rfl 0 rfl t tab fr _ hg Tryd.underlying29 rfl (by kernel_rfl) ?_)
  go_loop [6] (fun i => ∃ k : Nat, k ≤ 16 ∧ i = .int .i64 k ∧ Hid (findN s (16 - k) k = findV s)) (fun i => 16 - (intOf i).toNat)
  case atStart => exact ⟨0, by omega, rfl, rfl⟩
  case round =>
    obtain ⟨k, hk, rfl, HF⟩ := hrel
    by_cases hlt : k < 16
    · have ik := index_tab k hlt
      by_cases he : nmS k = s
      · have hb : ((nmS k).toList == s.toList) = true := by rw [str_eq]; exact decide_eq_true he
        have E : Hid (findV s = k) := by rw [← HF.out]; exact findN_yes hlt he
        clear he
        go_wp2
        go_ret
        exact ⟨by rw [E.out]; rfl, rfl⟩
      · have hb : ((nmS k).toList == s.toList) = false := by rw [str_eq]; exact decide_eq_false he
        have E : Hid (findN s (16 - (k + 1)) (k + 1) = findV s) := by rw [← HF.out]; exact (findN_no hlt he).symm
        clear he
        go_wp2
        exact ⟨⟨k + 1, by omega, by go_num, E⟩, by simp [intOf]; omega⟩
    · have E : Hid (findV s = -1) := by
        have : k = 16 := by omega
        subst this
        exact HF.out.symm
      go_wp2
      go_ret
      exact ⟨by rw [E.out]; rfl, rfl⟩
end Go.Proofs.YtoglgifmgpogjaaDoor
