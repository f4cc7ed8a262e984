import Derived.Test.YtdiabpoafennlaaHyCalm
/-! What was put, with the room behind it. -/
namespace Go.Proofs.Ytdiabpoafennlaa
set_option linter.unusedVariables false
set_option maxRecDepth 20000
set_option linter.unusedSimpArgs false
open Go.RowKit Go.HeapKit

theorem own_cut {w : World} {B e P Z A uc : Nat} {ua : Option Addr} {x y : List Int} (h : w.ownsRow B e 1 (.slice ua P uc) P (iv (x ++ y))) (hA : x.length = A) (hZ : y.length = Z) :
    SeenV w (if uc = A then ua else ua.map (·.add (A * 1))) Z (iv y) := by
  have hl := h.1
  rw [iv_len, List.length_append] at hl
  refine ⟨by rw [iv_len, hZ], fun h0 => ?_⟩
  rcases h.2 with ⟨_, h1⟩ | ⟨g, cap, cur, hv, hbg, hg, hnc, hcm, hcs, htake⟩
  · omega
  · injection hv with e1 e2 e3
    subst e1 e3
    rw [if_neg (by omega)]
    refine ⟨g, A, by simp [Addr.add]; omega, (blk_lt hg), fun k v hk => ?_⟩
    obtain ⟨g', e1, -, -, -, hc, -⟩ := own_cell1 h (k := A + k) (x := v) (by rw [iv, List.map_append, List.getElem?_append_right (by rw [List.length_map]; omega), List.length_map, hA, Nat.add_sub_cancel_left]; exact hk)
    injection e1 with e1
    injection e1 with e1
    rw [e1]
    exact hc
set_option maxHeartbeats 1600000 in
theorem puts_own (a : Option Addr) (n c q : Nat) (l : List Dd) (w : World) (hS : Seen w a n l) (hn : n ≤ 4096) (hq : q ≤ n) :
    Calls Try.prog 18 #[.slice a n c, .int .i64 q] w fun e w' => ∃ a1 c1, e = .returned (.slice a1 (putsD (l.take q)).length c1) ∧ w'.ownsRow w.heap.size 2 1 (.slice a1 (putsD (l.take q)).length c1) (putsD (l.take q)).length (iv (putsD (l.take q))) ∧ Keeps None w w' := by
  have HS : Hid (Seen w a n l) := hS
  have HLen : Hid (n = l.length) := hS.len
  clear hS
  go_enter Try.func18, Try.ntmps18
  go_wp2_with fail
  go_loopw [5, 6] (fun s i wr => ∃ k : Nat, k ≤ q ∧ i = .int .i64 k ∧ wr.ownsRow w.heap.size 2 1 s (putsD (l.take k)).length (iv (putsD (l.take k))) ∧ Keeps None w wr) (fun _ i _ => q - (intOf i).toNat)
  case atStart => exact ⟨0, Nat.zero_le _, rfl, row_nil _ _ _ _, Keeps.refl _ _⟩
  case round =>
    obtain ⟨k, hk, rfl, hrow, hkp⟩ := hrel
    have hlen := HLen.out
    obtain ⟨sa, cs, rfl⟩ := row_shape hrow
    by_cases hkn : k < q
    · obtain ⟨b, off, x, rfl, hb, hx, u0, u1⟩ := (HS.out.more hkp).elem (show k < n by omega)
      have i2 : (k : Int) < (n : Int) := by omega
      have i3 : (k : Int) < (q : Int) := by omega
      have hm := putsD_more hx
      obtain ⟨xk, xl⟩ := x
      by_cases e4 : xk = 4
      · subst e4
        have hbn : (wr.alloc (.cells #[.int .i64 xl] 2)).heap[wr.heap.size]? = some (.cells #[.int .i64 xl] 2 (0, 0)) := blk_new _ _ _ rfl
        have hpl := putsD_len (l.take k)
        have hpl2 : (l.take k).length ≤ 4096 := by rw [List.length_take]; omega
        obtain ⟨g, cp, w2, hr, ho, hk3, hm3⟩ := i64_more w.heap.size (.slice sa _ cs) (putsD (l.take k)) xl 28 _ _ (hrow.alloc _) (by have := hkp.size; simp; omega) (by omega) hbn
        have HN : Hid (w2.ownsRow w.heap.size 2 1 (.slice (some ⟨g, 0, none⟩) ((putsD (l.take k)).length + 1) cp) (putsD (l.take (k + 1))).length (iv (putsD (l.take (k + 1)))) ∧ Keeps None w w2) := by
          rw [hm]
          simp only [if_true]
          exact ⟨by rw [List.length_append]; exact ho, (hkp.andAlloc _).trans hk3 (fun i e hi => by have := row_low hrow e; omega)⟩
        clear hrow hkp hx hlen hm ho hk3 hm3 hbn
        go_wp2_with (at_builtin; refine wpList_append_run rfl (.tmp 24) (.tmp 30) 28 28 rfl rfl rfl hr ?_)
        go_roundw
        case rel => exact ⟨k + 1, by omega, by go_num, HN.out⟩
        case measure => simp [intOf]; omega
      · have HN : Hid (wr.ownsRow w.heap.size 2 1 (.slice sa (putsD (l.take k)).length cs) (putsD (l.take (k + 1))).length (iv (putsD (l.take (k + 1)))) ∧ Keeps None w wr) := by
          rw [hm, if_neg e4, List.append_nil]
          exact ⟨hrow, hkp⟩
        clear hrow hkp hx hlen hm
        go_wp2
        go_roundw
        case rel => exact ⟨k + 1, by omega, by go_num, HN.out⟩
        case measure => simp [intOf]; omega
    · have hkn2 : k = q := by omega
      subst hkn2
      have i3 : ¬ (k : Int) < (k : Int) := by omega
      have HN : Hid (wr.ownsRow w.heap.size 2 1 (.slice sa (putsD (l.take k)).length cs) (putsD (l.take k)).length (iv (putsD (l.take k))) ∧ Keeps None w wr) := ⟨hrow, hkp⟩
      clear hrow hkp hlen
      go_wp2
      go_ret
      first
        | exact ⟨_, _, rfl, HN.out.1, HN.out.2⟩
        | exact ⟨_, _, ⟨rfl, rfl⟩, HN.out.1, HN.out.2⟩
end Go.Proofs.Ytdiabpoafennlaa
