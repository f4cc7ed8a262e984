import Derived.Test.YtoglgifmgpogjabRowSeg
import Derived.OwnWalk
/-! The contracts of the statements' own helper moved: a new row, other numbers, a mark behind them. -/
namespace Go.Proofs.Ytoglgifmgpogjab
open Go.RowKit Go.PlainOps

def movedK (zs : List Int) (k : Nat) : List Value := (zs.take k).map fun x => .int .i64 (wrap64 (x + 1))
theorem movedK_zero (zs : List Int) : movedK zs 0 = [] := rfl
theorem movedK_succ (zs : List Int) (k : Nat) (hk : k < zs.length) : movedK zs k ++ [.int .i64 (wrap64 (zs.getD k 0 + 1))] = movedK zs (k + 1) := by
  unfold movedK
  rw [List.take_succ_eq_append_getElem hk, List.map_append]
  simp [List.getD, List.getElem?_eq_getElem hk]
theorem info2 : (Try.prog.info? 2).map (fun i => (i.zero, i.size, i.bytes)) = some (some (.int .i64 0), 1, 8) := by kernel_rfl
theorem own_shape {w : World} {B : Nat} {e : TypeId} {s : Nat} {v : Value} {n : Nat} {xs : List Value} (h : w.ownsRow B e s v (n + 1) xs) : ∃ g cap, v = .slice (some ⟨g, 0, none⟩) (n + 1) cap ∧ n + 1 ≤ cap ∧ cap ≤ maxLen ∧ B ≤ g := by
  rcases h.2 with ⟨_, h0⟩ | ⟨g, cap, cur, hv, hb, _, hc, hm, _⟩
  · omega
  · exact ⟨g, cap, hv, hc, hm, hb⟩
section
set_option maxHeartbeats 800000
theorem moved_empty (a : Option Addr) (cap : Nat) (w : World) :
    Calls Try.prog 13 #[.slice a 0 cap] w fun e w' => ∃ g cp, e = .returned (.slice (some ⟨g, 0, none⟩) 0 cp) ∧ 0 + 1 ≤ cp ∧ cp ≤ maxLen ∧ w'.ownsRow w.heap.size 2 1 (.slice (some ⟨g, 0, none⟩) (0 + 1) cp) (0 + 1) ([] ++ [.int .i64 (-77)]) ∧ Below w.heap.size w w' := by
  obtain ⟨i0, hi, hz0, hz1, hz2⟩ := info_parts info2
  have hown := World.ownsRow_nil w w.heap.size 2 1
  go_enter Try.func13, Try.ntmps13
  go_wp2
  go_loop [3, 4] (fun v i => v = .slice none 0 0 ∧ i = .int .i64 0) (fun _ _ => 0)
  case atStart => exact ⟨rfl, rfl⟩
  case round =>
    obtain ⟨rfl, rfl⟩ := hrel
    go_wp2_with (at_builtin; refine wpList_append_own _ rfl (.tmp 19) (.tmp 20) 22 rfl w.heap.size 2 i0 (.int .i64 0) 1 8 Try.underlying22 hi hz0 hz1 hz2 rfl (by decide) _ _ _ rfl (hown.alloc _) ⟨w.heap.size, 0, none⟩ 1 1 [.int .i64 (-77)] rfl rfl ?c1 ?c2 ?c3 ?c4 ?c5 ?_)
    case c2 => rfl
    case c3 => unfold maxLen; omega
    all_goals try (first | omega | (simp; done))
    · intro v' w1 hown' hgrow _
      have hbel : Below w.heap.size w w1 := ((Below.refl _ w).alloc (Nat.le_refl _) _).grown hgrow (by simp) (fun j hj => by cases hj)
      obtain ⟨g, cp, hv, hc1, hm1, hb1⟩ := own_shape (n := 0) hown'
      rw [hv] at hown'
      rw [hv]
      have O : Hid (w1.ownsRow w.heap.size 2 1 (.slice (some ⟨g, 0, none⟩) (0 + 1) cp) (0 + 1) ([] ++ [.int .i64 (-77)])) := hown'
      have BL : Hid (Below w.heap.size w w1) := hbel
      have HM : Hid (cp ≤ maxLen) := hm1
      clear hown' hgrow hbel hv hm1
      go_wp2
      go_ret
      exact ⟨g, cp, rfl, hc1, HM.out, O.out, BL.out⟩
theorem moved_some (b off n cap : Nat) (zs : List Int) (w : World) (hn : zs.length = n) (h1 : 1 ≤ n) (hc : n ≤ cap) (hcell : CellsAt w b off zs) (hbB : b < w.heap.size) (hr : n * 8 ≤ 140737488351232) :
    Calls Try.prog 13 #[.slice (some ⟨b, off, none⟩) n cap] w fun e w' => ∃ g cp, e = .returned (.slice (some ⟨g, 0, none⟩) n cp) ∧ n + 1 ≤ cp ∧ cp ≤ maxLen ∧ w'.ownsRow w.heap.size 2 1 (.slice (some ⟨g, 0, none⟩) (n + 1) cp) (n + 1) (movedK zs n ++ [.int .i64 (-77)]) ∧ Below w.heap.size w w' := by
  obtain ⟨i0, hi, hz0, hz1, hz2⟩ := info_parts info2
  have HC : Hid (CellsAt w b off zs) := hcell
  have HN : Hid (zs.length = n) := hn
  clear hcell hn
  go_enter Try.func13, Try.ntmps13
  go_wp2
  go_loopw [3, 4] (fun v i wr => ∃ k : Nat, k ≤ n ∧ i = .int .i64 k ∧ Hid (wr.ownsRow w.heap.size 2 1 v k (movedK zs k)) ∧ Hid (Below w.heap.size w wr)) (fun _ i _ => n - (intOf i).toNat)
  case atStart => exact ⟨0, Nat.zero_le _, rfl, World.ownsRow_nil _ _ _ _, Below.refl _ _⟩
  case round =>
    obtain ⟨k, hk, rfl, hown, hnx⟩ := hrel
    by_cases hlt : k < n
    · have hcx := (hnx.out.cell (p := ⟨b, off + k, none⟩) hbB).trans (HC.out k (by rw [HN.out]; exact hlt))
      have E : Hid (movedK zs k ++ [.int .i64 (wrap64 (zs.getD k 0 + 1))] = movedK zs (k + 1)) := movedK_succ zs k (by rw [HN.out]; exact hlt)
      generalize zs.getD k 0 = z at hcx E
      have hsz := hnx.out.size
      go_wp2_with (at_builtin; refine wpList_append_own _ rfl (.tmp 11) (.tmp 17) 22 rfl w.heap.size 2 i0 (.int .i64 0) 1 8 Try.underlying22 hi hz0 hz1 hz2 rfl (by decide) _ _ _ rfl (hown.out.alloc _) ⟨_, 0, none⟩ 1 1 [.int .i64 (wrap64 (z + 1))] rfl rfl ?c1 ?c2 ?c3 ?c4 ?c5 ?_)
      case c1 => exact cell_one_new _ _ _
      case c2 => intro u hu; simp at hu; subst hu; rfl
      case c3 => unfold maxLen; omega
      case c4 => omega
      case c5 => simp; omega
      · intro v' w1 hown' hgrow _
        have hbel : Below w.heap.size w w1 := (hnx.out.alloc (by omega) _).grown hgrow (by simp; omega) (fun j hj => (hown.out.lt j hj).1)
        rw [E.out] at hown'
        have O : Hid (w1.ownsRow w.heap.size 2 1 v' (k + 1) (movedK zs (k + 1))) := hown'
        have BL : Hid (Below w.heap.size w w1) := hbel
        clear hown' hgrow hbel hown hnx hsz hcx
        go_wp2
        go_roundw
        case rel => exact ⟨k + 1, by omega, by go_num, O, BL⟩
        case measure => simp [intOf]; omega
    · obtain rfl : k = n := by omega
      have hsz := hnx.out.size
      go_wp2_with (at_builtin; refine wpList_append_own _ rfl (.tmp 19) (.tmp 20) 22 rfl w.heap.size 2 i0 (.int .i64 0) 1 8 Try.underlying22 hi hz0 hz1 hz2 rfl (by decide) _ _ _ rfl (hown.out.alloc _) ⟨_, 0, none⟩ 1 1 [.int .i64 (-77)] rfl rfl ?d1 ?d2 ?d3 ?d4 ?d5 ?_)
      case d1 => exact cell_one_new _ _ _
      case d2 => intro u hu; simp at hu; subst hu; rfl
      case d3 => unfold maxLen; omega
      case d4 => omega
      case d5 => simp; omega
      · intro v' w1 hown' hgrow _
        have hbel : Below w.heap.size w w1 := (hnx.out.alloc (by omega) _).grown hgrow (by simp; omega) (fun j hj => (hown.out.lt j hj).1)
        obtain ⟨g, cp, hv, hc1, hm1, hb1⟩ := own_shape hown'
        rw [hv] at hown'
        rw [hv]
        have O : Hid (w1.ownsRow w.heap.size 2 1 (.slice (some ⟨g, 0, none⟩) (k + 1) cp) (k + 1) (movedK zs k ++ [.int .i64 (-77)])) := hown'
        have BL : Hid (Below w.heap.size w w1) := hbel
        have HM : Hid (cp ≤ maxLen) := hm1
        have hkc : k ≤ cp := by omega
        have hkc' : (k : Int) ≤ (cp : Int) := by omega
        clear hown' hgrow hbel hv hm1 hown hnx hsz
        go_wp2
        go_ret
        exact ⟨g, cp, rfl, hc1, HM.out, O.out, BL.out⟩
end
end Go.Proofs.Ytoglgifmgpogjab
