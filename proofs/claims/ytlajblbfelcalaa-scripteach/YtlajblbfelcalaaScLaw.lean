import Derived.Test.YtlajblbfelcalaaScBase
/-! The laws' own helpers: same, spoilt; who is good. -/
namespace Go.Proofs.Ytlajblbfelcalaa
set_option linter.unusedVariables false
set_option maxRecDepth 20000
open Go.RowKit Go.HeapKit

set_option maxHeartbeats 1600000 in
theorem same_any (a a2 : Option Addr) (m c c2 : Nat) (l : List Int) (w : World) (h : SeenN w a m l) (h2 : SeenN w a2 m l) (hs : m * 8 ≤ 140737488351232) :
    Calls Try.prog 14 #[.slice a m c, .slice a2 m c2] w fun e w' => e = .returned (.bool true) ∧ ∃ k, w' = w.drewN k := by
  have HS : Hid (SeenN w a m l ∧ SeenN w a2 m l) := ⟨h, h2⟩
  clear h h2
  go_enter Try.func14, Try.ntmps14
  go_wp2_with fail
  go_loopw [5] (fun s5 wr => ∃ k : Nat, s5 = .int .i64 k ∧ k ≤ m ∧ ∃ d, wr = w.drewN d) (fun s5 _ => m - (intOf s5).toNat)
  case atStart => exact ⟨0, rfl, Nat.zero_le _, 0, rfl⟩
  case round =>
    obtain ⟨k, rfl, hk, d, rfl⟩ := hrel
    by_cases hkn : k < m
    · obtain ⟨b, off, x, rfl, he, c1⟩ := HS.out.1.at hkn
      obtain ⟨b2, off2, x2, rfl, he2, c2⟩ := HS.out.2.at hkn
      rw [he] at he2
      injection he2 with he2
      subst he2
      have m0 : ¬ m = 0 := by omega
      have i1 : (k : Int) < (m : Int) := by omega
      clear he HS
      go_wp2_with fail
      go_quiet (fail)
      all_goals go_wp2_with fail
      all_goals exact ⟨⟨k + 1, by go_num, by omega, _, rfl⟩, by simp [intOf]; omega⟩
    · have i1 : ¬ (k : Int) < (m : Int) := by omega
      go_wp2_with fail
      go_ret
      exact ⟨rfl, d, rfl⟩
set_option maxHeartbeats 1600000 in
theorem spoilt_any (base : Nat) (v : Value) (n : Nat) (l : List Int) (w : World) (h : w.ownsRow base 3 1 v n (iv l)) (hb : base ≤ w.heap.size) (hs : n * 8 ≤ 140737488351232) :
    Calls Try.prog 10 #[v] w fun e w' => ∃ g cap, e = .returned (.slice (some ⟨g, 0, none⟩) (n + 1) cap) ∧ (∃ l', w'.ownsRow base 3 1 (.slice (some ⟨g, 0, none⟩) (n + 1) cap) (n + 1) (iv l')) ∧ Keeps (fun k => v.ownBlock = some k) w w' ∧ (v.ownBlock = some g ∨ w.heap.size ≤ g) := by
  obtain ⟨a, c, rfl⟩ := row_shape h
  have H0 : Hid (w.ownsRow base 3 1 (.slice a n c) n (iv l)) := h
  have HB : Hid (base ≤ w.heap.size) := hb
  clear h hb
  go_enter Try.func10, Try.ntmps10
  go_wp2_with fail
  go_loopw [3] (fun s3 wr => ∃ (k : Nat) (l' : List Int), s3 = .int .i64 k ∧ k ≤ n ∧ wr.ownsRow base 3 1 (.slice a n c) n (iv l') ∧ Keeps (fun k => (Value.slice a n c).ownBlock = some k) w wr) (fun s3 _ => n - (intOf s3).toNat)
  case atStart => exact ⟨0, l, rfl, Nat.zero_le _, H0.out, Keeps.refl _ _⟩
  case round =>
    obtain ⟨k, l', rfl, hk, hrow, hkp⟩ := hrel
    have hl := row_len hrow
    by_cases hkn : k < n
    · obtain ⟨g, rfl, _, _, hnc, _, c1, fz⟩ := row_elem hrow (k := k) (x := l'[k]'(by omega)) (List.getElem?_eq_getElem _)
      have f1 := fz k
      have HN : Hid ((wr.setCell ⟨g, k, none⟩ (.int .i64 (-1 - (k : Int)))).ownsRow base 3 1 (.slice (some ⟨g, 0, none⟩) n c) n (iv (l'.set k (-1 - (k : Int)))) ∧ Keeps (fun k => (Value.slice (some ⟨g, 0, none⟩) n c).ownBlock = some k) w (wr.setCell ⟨g, k, none⟩ (.int .i64 (-1 - (k : Int))))) :=
        ⟨row_setI hrow k _, hkp.andSet (x := ⟨g, k, none⟩) (.inl rfl) _⟩
      have m0 : ¬ n = 0 := by omega
      have i1 : (k : Int) < (n : Int) := by omega
      generalize l'[k]'(by omega) = x0 at c1
      clear hrow hkp hl fz H0
      go_wp2_with fail
      exact ⟨⟨k + 1, _, by go_num, by omega, HN.out⟩, by simp [intOf]; omega⟩
    · have i1 : ¬ (k : Int) < (n : Int) := by omega
      obtain ⟨g, cp, w2, hr, ho, hk2, hm⟩ := int_more base (.slice a n c) l' (-100) n 25 wr.heap.size (wr.alloc (.cells #[.int .i64 (-100)] 3)) hl (row_more hrow (keeps1 _ _)) (by have := hkp.size; have := HB.out; simp; omega) (by omega) (blk_new _ _ _ rfl)
      have HF : Hid (w2.ownsRow base 3 1 (.slice (some ⟨g, 0, none⟩) (n + 1) cp) (n + 1) (iv (l' ++ [-100])) ∧ Keeps (fun k => (Value.slice a n c).ownBlock = some k) w w2 ∧ ((Value.slice a n c).ownBlock = some g ∨ w.heap.size ≤ g)) := by
        refine ⟨ho, (hkp.andAlloc _).trans hk2 (fun i e _ => e), ?_⟩
        rcases hm with hm | hm
        · exact .inl hm
        · have := hkp.size
          simp at hm
          exact .inr (by omega)
      clear hrow hkp ho hk2 hm hl H0
      go_wp2_with (at_builtin; refine wpList_append_run rfl (.tmp 15) (.tmp 16) 25 25 rfl rfl rfl hr ?_)
      go_ret
      exact ⟨g, cp, rfl, ⟨_, HF.out.1⟩, HF.out.2⟩
def goodB (x : Int) : Bool := decide (1 ≤ x) && decide (x ≤ 64)
theorem goodB_t {x : Int} (h1 : 1 ≤ x) (h2 : x ≤ 64) : goodB x = true := by simp [goodB, h1, h2]
theorem goodB_of {x : Int} (h : goodB x = true) : ∃ W : Nat, x = W ∧ 1 ≤ W ∧ W ≤ 64 := by
  simp [goodB] at h
  exact ⟨x.toNat, by omega, by omega, by omega⟩
theorem good_any (x : Int) (w : World) : Calls Try.prog 29 #[.int .i64 x] w fun e w' => e = .returned (.bool (goodB x)) ∧ w' = w := by
  by_cases h1 : 1 ≤ x
  · by_cases h2 : x ≤ 64
    · go_enter Try.func29, Try.ntmps29
      go_wp2
      go_ret
      exact ⟨by simp [goodB, h1, h2], rfl⟩
    · go_enter Try.func29, Try.ntmps29
      go_wp2
      go_ret
      exact ⟨by simp [goodB, h2], rfl⟩
  · go_enter Try.func29, Try.ntmps29
    go_wp2
    go_ret
    exact ⟨by simp [goodB]; omega, rfl⟩
theorem rgood_any (x : Int) (w : World) : Calls Try.prog 30 #[.int .i64 x] w fun e w' => e = .returned (.bool (goodB x)) ∧ w' = w := by
  by_cases h1 : 1 ≤ x
  · by_cases h2 : x ≤ 64
    · go_enter Try.func30, Try.ntmps30
      go_wp2
      go_ret
      exact ⟨by simp [goodB, h1, h2], rfl⟩
    · go_enter Try.func30, Try.ntmps30
      go_wp2
      go_ret
      exact ⟨by simp [goodB, h2], rfl⟩
  · go_enter Try.func30, Try.ntmps30
    go_wp2
    go_ret
    exact ⟨by simp [goodB]; omega, rfl⟩
end Go.Proofs.Ytlajblbfelcalaa
