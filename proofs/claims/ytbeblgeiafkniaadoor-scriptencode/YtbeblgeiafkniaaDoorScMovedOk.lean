import Derived.Test.YtbeblgeiafkniaaDoorScMoved
/-! 'moved' once more, with what its numbers are. -/
namespace Go.Proofs.YtbeblgeiafkniaaDoor
set_option linter.unusedVariables false
set_option maxRecDepth 20000
open Go.RowKit Go.HeapKit

theorem okI_wrap (x : Int) : okI (wrap64 x) := by
  unfold okI wrap64
  omega
set_option maxHeartbeats 1600000 in
theorem moved_ok (a : Option Addr) (m c : Nat) (l : List Int) (w : World) (h : SeenN w a m l) (hs : m * 8 ≤ 140737488351232) :
    Calls Tryd.prog 5 #[.slice a m c] w fun e w' => ∃ g cap, e = .returned (.slice (some ⟨g, 0, none⟩) m cap) ∧ (∃ l', Room w' w.heap.size g m cap l' ∧ ∀ x ∈ l', okI x) ∧ Keeps None w w' := by
  have HS : Hid (SeenN w a m l) := h
  clear h
  go_enter Tryd.func5, Tryd.ntmps5
  go_wp2_with fail
  go_loopw [4, 3] (fun s4 s3 wr => ∃ (k : Nat) (l' : List Int), s4 = .int .i64 k ∧ k ≤ m ∧ wr.ownsRow w.heap.size 3 1 s3 k (iv l') ∧ Keeps None w wr ∧ ∀ x ∈ l', okI x) (fun s4 _ _ => m - (intOf s4).toNat)
  case atStart => exact ⟨0, [], rfl, Nat.zero_le _, row_nil _ _ _ _, Keeps.refl _ _, fun x hx => (by cases hx)⟩
  case round =>
    obtain ⟨k, l', rfl, hk, hrow, hkp, hok⟩ := hrel
    obtain ⟨sa, cs, rfl⟩ := row_shape hrow
    have hl := row_len hrow
    by_cases hkm : k < m
    · obtain ⟨b, off, x, rfl, he, c1⟩ := (HS.out.more hkp).at hkm
      have m0 : ¬ m = 0 := by omega
      have i1 : (k : Int) < (m : Int) := by omega
      obtain ⟨g, cp, w2, hr, ho, hk2, hm⟩ := int_more w.heap.size (.slice sa k cs) l' (wrap64 (x + 1)) k 22 wr.heap.size (wr.alloc (.cells #[.int .i64 (wrap64 (x + 1))] 3)) hl (row_more hrow (keeps1 _ _)) (by have := hkp.size; simp; omega) (by omega) (blk_new _ _ _ rfl)
      have HN : Hid (w2.ownsRow w.heap.size 3 1 (.slice (some ⟨g, 0, none⟩) (k + 1) cp) (k + 1) (iv (l' ++ [wrap64 (x + 1)])) ∧ Keeps None w w2 ∧ ∀ z ∈ l' ++ [wrap64 (x + 1)], okI z) :=
        ⟨ho, (hkp.andAlloc _).trans hk2 (fun i e hi => by have := row_low hrow e; omega), fun z hz => by
          rcases List.mem_append.1 hz with h | h
          · exact hok z h
          · simp at h; subst h; exact okI_wrap _⟩
      clear hrow hkp ho hk2 hm hl HS he hok
      go_wp2_with (at_builtin; refine wpList_append_run rfl (.tmp 11) (.tmp 17) 22 22 rfl rfl rfl hr ?_)
      exact ⟨⟨k + 1, _, by go_num, by omega, HN.out⟩, by simp [intOf]; omega⟩
    · have i1 : ¬ (k : Int) < (m : Int) := by omega
      obtain rfl : k = m := by omega
      obtain ⟨g, cp, w2, hr, ho, hk2, hm⟩ := int_more w.heap.size (.slice sa k cs) l' (-77) k 22 wr.heap.size (wr.alloc (.cells #[.int .i64 (-77)] 3)) hl (row_more hrow (keeps1 _ _)) (by have := hkp.size; simp; omega) (by omega) (blk_new _ _ _ rfl)
      have hR : Room w2 w.heap.size g k cp l' := ⟨hl, ho⟩
      have hf := hR.fits
      have f1 : (k : Int) ≤ (cp : Int) := by omega
      have HN : Hid (Room w2 w.heap.size g k cp l' ∧ Keeps None w w2 ∧ ∀ z ∈ l', okI z) := ⟨hR, (hkp.andAlloc _).trans hk2 (fun i e hi => by have := row_low hrow e; omega), hok⟩
      clear hrow hkp ho hk2 hm hl hR hok
      go_wp2_with (at_builtin; refine wpList_append_run rfl (.tmp 19) (.tmp 20) 22 22 rfl rfl rfl hr ?_)
      go_ret
      exact ⟨g, cp, rfl, ⟨_, HN.out.1, HN.out.2.2⟩, HN.out.2.1⟩
end Go.Proofs.YtbeblgeiafkniaaDoor
