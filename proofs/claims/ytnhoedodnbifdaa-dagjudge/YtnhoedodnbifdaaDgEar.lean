import Derived.Test.YtnhoedodnbifdaaDgLong
import Derived.Test.YtnhoedodnbifdaaDgLaw
/-! Earliest: the program's and the document's; lists compared and spoilt. -/
namespace Go.Proofs.Ytnhoedodnbifdaa
set_option linter.unusedVariables false
set_option maxRecDepth 20000
open Go.RowKit Go.HeapKit

def earV (n : Int) (l : List Ed) : List Int := if checkV n l = 0 then (List.range n.toNat).map (R l) else []
theorem ear_ok {n : Nat} {l : List Ed} (h : checkV n l = 0) : earV n l = (List.range n).map (R l) := by
  unfold earV
  rw [if_pos h]
  simp
theorem ear_bad {n : Int} {l : List Ed} (h : ¬ checkV n l = 0) : earV n l = [] := by
  unfold earV
  rw [if_neg h]
theorem ear_len (n : Int) (l : List Ed) : (earV n l).length ≤ 4096 := by
  by_cases h : checkV n l = 0
  · have hd := dag_of h
    have := hd.hi
    unfold earV
    rw [if_pos h]
    simp
    omega
  · rw [ear_bad h]; simp
set_option maxHeartbeats 1600000 in
theorem same_any (v1 v2 : Value) (b1 b2 n : Nat) (l : List Int) (w : World) (h1 : w.ownsRow b1 3 1 v1 n (iv l)) (h2 : w.ownsRow b2 3 1 v2 n (iv l)) (hn : n ≤ 4096) :
    Calls Try.prog 13 #[v1, v2] w fun e w' => e = .returned (.bool true) ∧ Keeps None w w' := by
  obtain ⟨a, c, rfl⟩ := row_shape h1
  obtain ⟨a2, c2, rfl⟩ := row_shape h2
  have HS : Hid (w.ownsRow b1 3 1 (.slice a n c) n (iv l) ∧ w.ownsRow b2 3 1 (.slice a2 n c2) n (iv l)) := ⟨h1, h2⟩
  have hl : Hid (l.length = n) := by have := h1.1; rw [iv_len] at this; show _ = _; omega
  clear h1 h2
  go_enter Try.func13, Try.ntmps13
  go_wp2_with fail
  go_loopw [5] (fun s5 wr => ∃ k : Nat, s5 = .int .i64 k ∧ k ≤ n ∧ Keeps None w wr) (fun s5 _ => n - (intOf s5).toNat)
  case atStart => exact ⟨0, rfl, Nat.zero_le _, Keeps.refl _ _⟩
  case round =>
    obtain ⟨k, rfl, hk, hkp⟩ := hrel
    by_cases hkn : k < n
    · have hx : l[k]? = some (l[k]'(by have := hl.out; omega)) := List.getElem?_eq_getElem _
      obtain ⟨g, rfl, e0, _⟩ := row_at (row_kept HS.out.1 hkp (fun _ _ f => f)) hx
      obtain ⟨g2, rfl, e1, _⟩ := row_at (row_kept HS.out.2 hkp (fun _ _ f => f)) hx
      generalize l[k]'(by have := hl.out; omega) = x at e0 e1
      have m0 : ¬ n = 0 := by omega
      have i1 : (k : Int) < (n : Int) := by omega
      have HN : Hid (Keeps None w wr) := hkp
      clear hkp hx HS
      go_wp2_with fail
      go_quiet (fail)
      all_goals go_wp2_with fail
      all_goals (refine ⟨⟨k + 1, by go_num, by omega, ?_⟩, by simp [intOf]; omega⟩; exact HN.out.trans (Keeps.drewN None _ _) (fun _ f _ => f))
    · have i1 : ¬ (k : Int) < (n : Int) := by omega
      go_wp2_with fail
      go_ret
      exact ⟨rfl, hkp⟩
theorem iv_set (l : List Int) (k : Nat) (x : Int) : (iv l).set k (.int .i64 x) = iv (l.set k x) := by simp [iv, List.map_set]
set_option maxHeartbeats 1600000 in
theorem spoilt_any (v : Value) (base n : Nat) (l : List Int) (w : World) (h : w.ownsRow base 3 1 v n (iv l)) (hb : base ≤ w.heap.size) (hn : n ≤ 4096) :
    Calls Try.prog 17 #[v] w fun e w' => ∃ a c, e = .returned (.slice a (n + 1) c) ∧ Keeps (fun q => base ≤ q) w w' := by
  obtain ⟨a, c, rfl⟩ := row_shape h
  have HS : Hid (w.ownsRow base 3 1 (.slice a n c) n (iv l)) := h
  have hl : Hid (l.length = n) := by have := h.1; rw [iv_len] at this; show _ = _; omega
  clear h
  go_enter Try.func17, Try.ntmps17
  go_wp2_with fail
  go_loopw [3] (fun s3 wr => ∃ (k : Nat) (l' : List Int), s3 = .int .i64 k ∧ k ≤ n ∧ l'.length = n ∧ wr.ownsRow base 3 1 (.slice a n c) n (iv l') ∧ Keeps (fun q => base ≤ q) w wr) (fun s3 _ => n - (intOf s3).toNat)
  case atStart => exact ⟨0, l, rfl, Nat.zero_le _, hl.out, HS.out, Keeps.refl _ _⟩
  case round =>
    obtain ⟨k, l', rfl, hk, hl', hrow, hkp⟩ := hrel
    by_cases hkn : k < n
    · obtain ⟨g, rfl, e0, z0⟩ := row_at hrow (List.getElem?_eq_getElem (by omega : k < l'.length))
      generalize l'[k]'(by omega) = x at e0
      have m0 : ¬ n = 0 := by omega
      have i1 : (k : Int) < (n : Int) := by omega
      have hr2 := row_set hrow k (.int .i64 (-1 - k))
      rw [iv_set] at hr2
      have HN : Hid (∃ l' : List Int, l'.length = n ∧ (wr.setCell ⟨g, k, none⟩ (.int .i64 (-1 - k))).ownsRow base 3 1 (.slice (some ⟨g, 0, none⟩) n c) n (iv l') ∧ Keeps (fun q => base ≤ q) w (wr.setCell ⟨g, k, none⟩ (.int .i64 (-1 - k)))) :=
        ⟨_, by simpa using hl', hr2, hkp.andSet (x := ⟨g, k, none⟩) (.inl (row_low hrow rfl)) _⟩
      clear hrow hkp hr2 hl' HS
      go_wp2_with fail
      obtain ⟨l2, h1, h2, h3⟩ := HN.out
      exact ⟨⟨k + 1, l2, by go_num, by omega, h1, h2, h3⟩, by simp [intOf]; omega⟩
    · have i1 : ¬ (k : Int) < (n : Int) := by omega
      obtain ⟨g, cap, w2, hr, ho, hk2, hm⟩ := int_more base (.slice a n c) l' (-100) n 25 wr.heap.size (wr.alloc (.cells #[.int .i64 (-100)] 3)) hl'.symm (row_kept hrow (Keeps.alloc None wr _) (fun _ _ f => f)) (by have := hkp.size; simp; omega) (by omega) (blk_new _ _ _ rfl)
      have HN : Hid (Keeps (fun q => base ≤ q) w w2) := (hkp.andAlloc _).trans hk2 (fun i e _ => row_low hrow e)
      clear hrow hkp ho hk2 hm hl' HS
      go_wp2_with (at_builtin; refine wpList_append_run rfl (.tmp 15) (.tmp 16) 25 25 rfl rfl rfl hr ?_)
      go_ret
      first | exact ⟨_, _, rfl, HN.out⟩ | exact ⟨⟨_, _, rfl⟩, HN.out⟩
end Go.Proofs.Ytnhoedodnbifdaa
