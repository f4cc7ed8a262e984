import Derived.Test.YtpofffbookhinaaDgLong
import Derived.Test.YtpofffbookhinaaDgLaw
/-! Earliest: the program's and the document's; lists compared and spoilt. -/
namespace Go.Proofs.Ytpofffbookhinaa
set_option linter.unusedVariables false
set_option maxRecDepth 20000
open Go.RowKit Go.HeapKit

def earV (n : Int) (l : List Ed) : List Int := if checkV n l = 0 then (List.range n.toNat).map (R l) else []
theorem ear_ok {n : Nat} {l : List Ed} (h : checkV n l = 0) : earV n l = (List.range n).map (R l) := by
  unfold earV
  rw [if_pos h]
  simp
theorem ear_bad {n : Int} {l : List Ed} (h : ¬ checkV n l = 0) : earV n l = [] := by
  unfold earV
  rw [if_neg h]
theorem ear_len (n : Int) (l : List Ed) : (earV n l).length ≤ 4096 := by
  by_cases h : checkV n l = 0
  · have hd := dag_of h
    have := hd.hi
    unfold earV
    rw [if_pos h]
    simp
    omega
  · rw [ear_bad h]; simp
theorem iv_set (l : List Int) (k : Nat) (x : Int) : (iv l).set k (.int .i64 x) = iv (l.set k x) := by simp [iv, List.map_set]
set_option maxHeartbeats 1600000 in
theorem spoilt_any (v : Value) (base n : Nat) (l : List Int) (w : World) (h : w.ownsRow base 3 1 v n (iv l)) (hb : base ≤ w.heap.size) (hn : n ≤ 4096) :
    Calls Try.prog 18 #[v] w fun e w' => ∃ a c, e = .returned (.slice a (n + 1) c) ∧ Keeps (fun q => base ≤ q) w w' := by
  obtain ⟨a, c, rfl⟩ := row_shape h
  have HS : Hid (w.ownsRow base 3 1 (.slice a n c) n (iv l)) := h
  have hl : Hid (l.length = n) := by have := h.1; rw [iv_len] at this; show _ = _; omega
  clear h
  go_enter Try.func18, Try.ntmps18
  go_wp2_with fail
  go_loopw [3] (fun s3 wr => ∃ (k : Nat) (l' : List Int), s3 = .int .i64 k ∧ k ≤ n ∧ l'.length = n ∧ wr.ownsRow base 3 1 (.slice a n c) n (iv l') ∧ Keeps (fun q => base ≤ q) w wr) (fun s3 _ => n - (intOf s3).toNat)
  case atStart => exact ⟨0, l, rfl, Nat.zero_le _, hl.out, HS.out, Keeps.refl _ _⟩
  case round =>
    obtain ⟨k, l', rfl, hk, hl', hrow, hkp⟩ := hrel
    by_cases hkn : k < n
    · obtain ⟨g, rfl, e0, z0⟩ := row_at hrow (List.getElem?_eq_getElem (by omega : k < l'.length))
      generalize l'[k]'(by omega) = x at e0
      have m0 : ¬ n = 0 := by omega
      have i1 : (k : Int) < (n : Int) := by omega
      have hr2 := row_set hrow k (.int .i64 (-1 - k))
      rw [iv_set] at hr2
      have HN : Hid (∃ l' : List Int, l'.length = n ∧ (wr.setCell ⟨g, k, none⟩ (.int .i64 (-1 - k))).ownsRow base 3 1 (.slice (some ⟨g, 0, none⟩) n c) n (iv l') ∧ Keeps (fun q => base ≤ q) w (wr.setCell ⟨g, k, none⟩ (.int .i64 (-1 - k)))) :=
        ⟨_, by simpa using hl', hr2, hkp.andSet (x := ⟨g, k, none⟩) (.inl (row_low hrow rfl)) _⟩
      clear hrow hkp hr2 hl' HS
      go_wp2_with fail
      obtain ⟨l2, h1, h2, h3⟩ := HN.out
      exact ⟨⟨k + 1, l2, by go_num, by omega, h1, h2, h3⟩, by simp [intOf]; omega⟩
    · have i1 : ¬ (k : Int) < (n : Int) := by omega
      obtain ⟨g, cap, w2, hr, ho, hk2, hm⟩ := int_more base (.slice a n c) l' (-100) n 23 wr.heap.size (wr.alloc (.cells #[.int .i64 (-100)] 3)) hl'.symm (row_kept hrow (Keeps.alloc None wr _) (fun _ _ f => f)) (by have := hkp.size; simp; omega) (by omega) (blk_new _ _ _ rfl)
      have HN : Hid (Keeps (fun q => base ≤ q) w w2) := (hkp.andAlloc _).trans hk2 (fun i e _ => row_low hrow e)
      clear hrow hkp ho hk2 hm hl' HS
      go_wp2_with (at_builtin; refine wpList_append_run rfl (.tmp 15) (.tmp 16) 23 23 rfl rfl rfl hr ?_)
      go_ret
      first | exact ⟨_, _, rfl, HN.out⟩ | exact ⟨⟨_, _, rfl⟩, HN.out⟩
end Go.Proofs.Ytpofffbookhinaa
