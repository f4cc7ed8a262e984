import Derived.Test.YtoglgifmgpogjabMovedWalks
/-! The contracts of the statements' own helpers back, same, marked. -/
namespace Go.Proofs.Ytoglgifmgpogjab
open Go.RowKit Go.PlainOps

/-- The call's own row, in block g from B on: n numbers, a mark behind them. -/
structure Mine (w : World) (B g cp : Nat) (xs : List Int) (m : Int) : Prop where
  own : w.ownsRow B 2 1 (.slice (some ⟨g, 0, none⟩) (xs.length + 1) cp) (xs.length + 1) (xs.map (Value.int .i64) ++ [.int .i64 m])
  room : xs.length + 1 ≤ cp
  most : cp ≤ maxLen
theorem Mine.above {w : World} {B g cp : Nat} {xs : List Int} {m : Int} (h : Mine w B g cp xs m) : B ≤ g ∧ g < w.heap.size := h.own.lt g rfl
theorem Mine.cell {w : World} {B g cp : Nat} {xs : List Int} {m : Int} (h : Mine w B g cp xs m) (j : Nat) (hj : j < xs.length) : w.cell? ⟨g, j, none⟩ = some (.int .i64 (xs.getD j 0)) := by
  rw [h.own.cellAt j (by omega), List.getElem?_append_left (by rw [List.length_map]; exact hj)]
  simp [List.getD, List.getElem?_eq_getElem hj]
theorem Mine.mark {w : World} {B g cp : Nat} {xs : List Int} {m : Int} (h : Mine w B g cp xs m) : w.cell? ⟨g, xs.length, none⟩ = some (.int .i64 m) := by
  rw [h.own.cellAt xs.length (by omega), List.getElem?_append_right (by rw [List.length_map]; exact Nat.le_refl _)]
  simp
theorem Mine.free {w : World} {B g cp : Nat} {xs : List Int} {m : Int} (h : Mine w B g cp xs m) (j : Nat) : w.frozen? ⟨g, j, none⟩ = false := h.own.frozenAt j
theorem Mine.drewN {w : World} {B g cp : Nat} {xs : List Int} {m : Int} (h : Mine w B g cp xs m) (k : Nat) : Mine (w.drewN k) B g cp xs m := ⟨h.own, h.room, h.most⟩
theorem Mine.cells {w : World} {B g cp : Nat} {xs : List Int} {m : Int} (h : Mine w B g cp xs m) : CellsAt w g 0 xs := fun i hi => by rw [Nat.zero_add]; exact h.cell i hi
theorem Mine.seg {w : World} {B g cp : Nat} {xs : List Int} {m : Int} (h : Mine w B g cp xs m) : Seg w (some ⟨g, 0, none⟩) cp xs := ⟨by have := h.room; omega, h.most, .inr ⟨g, 0, rfl, h.cells⟩⟩
theorem Mine.stored {w : World} {B g cp : Nat} {xs : List Int} {m : Int} (h : Mine w B g cp xs m) (j : Nat) (hj : j < xs.length) (x : Int) : Mine (w.setCell ⟨g, j, none⟩ (.int .i64 x)) B g cp (xs.set j x) m ∧ Below B w (w.setCell ⟨g, j, none⟩ (.int .i64 x)) := by
  obtain ⟨h1, h2⟩ := h.own.stored j (.int .i64 x)
  have hlt := h.above
  refine ⟨⟨?_, by rw [List.length_set]; exact h.room, h.most⟩, (Below.refl B w).grown h2 (by omega) (fun k hk => by cases hk; exact hlt.1)⟩
  rw [List.length_set, List.map_set]
  rw [List.set_append_left j _ (by rw [List.length_map]; exact hj)] at h1
  exact h1
/-- The first k of zs, then xs from k on. -/
def backK (zs xs : List Int) (k : Nat) : List Int := zs.take k ++ xs.drop k
theorem backK_zero (zs xs : List Int) : backK zs xs 0 = xs := by simp [backK]
theorem backK_len (zs xs : List Int) (k : Nat) (h : zs.length = xs.length) (hk : k ≤ xs.length) : (backK zs xs k).length = xs.length := by
  unfold backK; rw [List.length_append, List.length_take, List.length_drop]; omega
theorem backK_succ (zs xs : List Int) (k : Nat) (h : zs.length = xs.length) (hk : k < xs.length) : (backK zs xs k).set k (zs.getD k 0) = backK zs xs (k + 1) := by
  unfold backK
  have hz : k < zs.length := by omega
  rw [List.take_succ_eq_append_getElem hz, List.drop_eq_getElem_cons hk, List.set_append_right _ _ (by rw [List.length_take]; omega)]
  rw [List.length_take, Nat.min_eq_left (by omega), Nat.sub_self, List.set_cons_zero]
  simp only [List.getD, List.getElem?_eq_getElem hz, Option.getD_some, List.append_assoc, List.cons_append, List.nil_append]
theorem backK_end (zs xs : List Int) (h : zs.length = xs.length) : backK zs xs xs.length = zs := by
  unfold backK; rw [List.drop_of_length_le (Nat.le_refl _), List.append_nil, List.take_of_length_le (by omega)]
theorem CellsAt.below {B : Nat} {w w' : World} {b off : Nat} {zs : List Int} (h : CellsAt w b off zs) (hb : Below B w w') (hB : b < B) : CellsAt w' b off zs := fun i hi => (hb.cell (p := ⟨b, off + i, none⟩) hB).trans (h i hi)
section
set_option maxHeartbeats 800000
theorem back_empty (l : Value) (a : Option Addr) (cap : Nat) (w : World) :
    Calls Try.prog 14 #[l, .slice a 0 cap] w fun e w' => e = .returned (.tuple #[]) ∧ w' = w := by
  go_enter Try.func14, Try.ntmps14
  go_wp2
  go_loop [4] (fun i => i = .int .i64 0) (fun _ => 0)
  case atStart => rfl
  case round =>
    obtain rfl := hrel
    go_wp2
    go_end0
    exact ⟨rfl, rfl⟩
theorem back_some (B g cp b off n cap : Nat) (zs xs : List Int) (m : Int) (w : World) (hM : Mine w B g cp xs m) (hx : xs.length = n) (hz : zs.length = n) (hc : n ≤ cap) (hr : n * 8 ≤ 140737488351232) (hcell : CellsAt w b off zs) (hbB : b < B) :
    Calls Try.prog 14 #[.slice (some ⟨g, 0, none⟩) n cp, .slice (some ⟨b, off, none⟩) n cap] w fun e w' => e = .returned (.tuple #[]) ∧ Mine w' B g cp zs m ∧ Below B w w' := by
  have HC : Hid (CellsAt w b off zs) := hcell
  have HX : Hid (xs.length = n) := hx
  have HZ : Hid (zs.length = n) := hz
  have HM : Hid (Mine w B g cp xs m) := hM
  clear hcell hx hz hM
  go_enter Try.func14, Try.ntmps14
  go_wp2
  go_loopw [4] (fun i wr => ∃ k : Nat, k ≤ n ∧ i = .int .i64 k ∧ Hid (Mine wr B g cp (backK zs xs k) m) ∧ Hid (Below B w wr)) (fun i _ => n - (intOf i).toNat)
  case atStart => exact ⟨0, Nat.zero_le _, rfl, by rw [backK_zero]; exact HM, Below.refl _ _⟩
  case round =>
    obtain ⟨k, hk, rfl, hown, hnx⟩ := hrel
    by_cases hlt : k < n
    · have hcx := (hnx.out.cell (p := ⟨b, off + k, none⟩) hbB).trans (HC.out k (by rw [HZ.out]; exact hlt))
      have hl : k < (backK zs xs k).length := by rw [backK_len zs xs k (by rw [HZ.out, HX.out]) (by rw [HX.out]; exact hk), HX.out]; exact hlt
      have hgx := hown.out.cell k hl
      have hfx := hown.out.free k
      have S : Hid (_ ∧ _) := hown.out.stored k hl (zs.getD k 0)
      rw [backK_succ zs xs k (by rw [HZ.out, HX.out]) (by rw [HX.out]; exact hlt)] at S
      generalize zs.getD k 0 = z at hcx S
      generalize (backK zs xs k).getD k 0 = y at hgx
      clear hl
      go_wp2
      go_roundw
      case rel => exact ⟨k + 1, by omega, by go_num, S.out.1, hnx.out.trans S.out.2⟩
      case measure => simp [intOf]; omega
    · obtain rfl : k = n := by omega
      have E : Hid (backK zs xs k = zs) := by
        have := backK_end zs xs (by rw [HZ.out, HX.out])
        rw [HX.out] at this
        exact this
      go_wp2
      go_end0
      exact ⟨rfl, by rw [← E.out]; exact hown.out, hnx.out⟩
theorem same_empty (a a' : Option Addr) (cap cap' : Nat) (w : World) :
    Calls Try.prog 16 #[.slice a 0 cap, .slice a' 0 cap'] w fun e w' => e = .returned (.bool true) ∧ ∃ m, w' = w.drewN m := by
  go_enter Try.func16, Try.ntmps16
  go_wp2
  go_loop [5] (fun i => i = .int .i64 0) (fun _ => 0)
  case atStart => rfl
  case round =>
    obtain rfl := hrel
    go_wp2
    go_ret
    exact ⟨rfl, 0, rfl⟩
theorem same_some (g o cp b off n cap : Nat) (zs : List Int) (w : World) (hz : zs.length = n) (hn : n * 8 ≤ 140737488351232) (h1 : CellsAt w g o zs) (h2 : CellsAt w b off zs) :
    Calls Try.prog 16 #[.slice (some ⟨g, o, none⟩) n cp, .slice (some ⟨b, off, none⟩) n cap] w fun e w' => e = .returned (.bool true) ∧ ∃ m, w' = w.drewN m := by
  have H1 : Hid (CellsAt w g o zs) := h1
  have H2 : Hid (CellsAt w b off zs) := h2
  have HZ : Hid (zs.length = n) := hz
  have hbn : ((n : Int) != (n : Int)) = false := by simp
  clear h1 h2 hz
  go_enter Try.func16, Try.ntmps16
  go_wp2
  go_loopw [5] (fun i wr => ∃ k : Nat, k ≤ n ∧ i = .int .i64 k ∧ ∃ m, wr = w.drewN m) (fun i _ => n - (intOf i).toNat)
  case atStart => exact ⟨0, Nat.zero_le _, rfl, 0, rfl⟩
  case round =>
    obtain ⟨k, hk, rfl, m, rfl⟩ := hrel
    by_cases hlt : k < n
    · have c1 := H1.out k (by rw [HZ.out]; exact hlt)
      have c2 := H2.out k (by rw [HZ.out]; exact hlt)
      generalize zs.getD k 0 = z at c1 c2
      have hlt' : (k : Int) < (n : Int) := by omega
      go_wp2
      go_quiet (fail)
      go_wp2
      go_roundw
      case rel => exact ⟨k + 1, by omega, by go_num, _, rfl⟩
      case measure => simp [intOf]; omega
    · go_wp2
      go_ret
      exact ⟨rfl, _, rfl⟩
theorem marked_any (B g cp n : Nat) (xs : List Int) (w : World) (hM : Mine w B g cp xs (-77)) (hx : xs.length = n) (hn : n * 8 ≤ 140737488351232) :
    Calls Try.prog 17 #[.slice (some ⟨g, 0, none⟩) n cp] w fun e w' => e = .returned (.bool true) ∧ w' = w := by
  subst hx
  have hc := hM.mark
  have hr := hM.room
  generalize xs.length = n at *
  have hr' : (n : Int) + 1 ≤ (cp : Int) := by omega
  clear hM
  go_enter Try.func17, Try.ntmps17
  go_wp2
  go_ret
  exact ⟨rfl, rfl⟩
end
end Go.Proofs.Ytoglgifmgpogjab
