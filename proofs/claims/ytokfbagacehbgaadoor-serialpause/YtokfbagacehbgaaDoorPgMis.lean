import Derived.Test.YtokfbagacehbgaaDoorPgFlow
/-! What is wrong with an instruction where the slots have these states. -/
namespace Go.Proofs.YtokfbagacehbgaaDoor
set_option linter.unusedVariables false
set_option maxRecDepth 20000
open Go.RowKit Go.HeapKit

theorem and2_bits (x : Int) (h0 : 0 ≤ x) (h7 : x ≤ 7) : bits BinOp.and .i64 x 2 = if has2 x then 2 else 0 := by
  obtain rfl | rfl | rfl | rfl | rfl | rfl | rfl | rfl : x = 0 ∨ x = 1 ∨ x = 2 ∨ x = 3 ∨ x = 4 ∨ x = 5 ∨ x = 6 ∨ x = 7 := by omega
  all_goals rfl
theorem less_bits (x : Int) (h0 : 0 ≤ x) (h7 : x ≤ 7) : (bits BinOp.andNot .i64 x 4 != 0) = hasLess x := by
  obtain rfl | rfl | rfl | rfl | rfl | rfl | rfl | rfl : x = 0 ∨ x = 1 ∨ x = 2 ∨ x = 3 ∨ x = 4 ∨ x = 5 ∨ x = 6 ∨ x = 7 := by omega
  all_goals rfl
set_option maxHeartbeats 1000000 in
theorem misuse_any (i : Ins) (gr m : Nat) (row : List Int) (w : World) (hb : ∀ (k : Nat) x, row[k]? = some x → w.cell? ⟨gr, k, none⟩ = some (.int .i64 x)) (hl : row.length = m) (h7 : ∀ x ∈ row, 0 ≤ x ∧ x ≤ 7) (hm8 : m ≤ 8)
    (ha : i.kind = 5 → 0 ≤ i.a ∧ i.a < m) (hq : i.kind = 7 → 0 ≤ i.b ∧ i.b < m) :
    Calls Tryd.prog 33 #[insV i, .slice (some ⟨gr, 0, none⟩) m m] w fun e w' => e = .returned (.int .i64 (misuseV i row)) ∧ Keeps None w w' := by
  obtain ⟨ik, ia, ib, ic, iK⟩ := i
  simp only at ha hq
  have hal := Keeps.alloc None w (.cells #[.int .i64 ik, .int .i64 ia, .int .i64 ib, .int .i64 ic, .int .i64 iK] 37)
  have hb2 : ∀ (k : Nat) x, row[k]? = some x → (w.alloc (.cells #[.int .i64 ik, .int .i64 ia, .int .i64 ib, .int .i64 ic, .int .i64 iK] 37)).cell? ⟨gr, k, none⟩ = some (.int .i64 x) := fun k x h => hal.cell (hb k x h) (fun f => f)
  have HB : Hid _ := hb2
  have HL : Hid (row.length = m ∧ ∀ x ∈ row, 0 ≤ x ∧ x ≤ 7) := ⟨hl, h7⟩
  clear hb hl h7 hb2 hal
  unfold insV
  by_cases k5 : ik = 5
  · obtain ⟨a0, a1⟩ := ha k5
    clear ha hq
    subst k5
    obtain ⟨a, rfl⟩ := Int.eq_ofNat_of_zero_le a0
    obtain ⟨x, hx⟩ : ∃ x, row[a]? = some x := ⟨row[a]'(by have := HL.out.1; omega), List.getElem?_eq_getElem _⟩
    have hv : misuseV ⟨5, a, ib, ic, iK⟩ row = if has2 x then 54 else 0 := by simp [misuseV, List.getD_eq_getElem?_getD, hx]
    rw [hv]
    have c0 := HB.out a x hx
    have hx7 := HL.out.2 x (List.mem_of_getElem? hx)
    have hr := and2_bits x hx7.1 hx7.2
    clear hx hx7 hv
    cases hh : has2 x
    all_goals
      rw [hh] at hr
      clear hh
      try simp only [if_true] at hr
      try simp only [Bool.false_eq_true, if_false] at hr
      go_enter Tryd.func33, Tryd.ntmps33
      go_wp2_with fail
      go_ret
      exact ⟨rfl, (Keeps.refl _ _).andAlloc _⟩
  · by_cases k7 : ik = 7
    · obtain ⟨a0, a1⟩ := hq k7
      clear ha hq k5
      subst k7
      obtain ⟨a, rfl⟩ := Int.eq_ofNat_of_zero_le a0
      obtain ⟨x, hx⟩ : ∃ x, row[a]? = some x := ⟨row[a]'(by have := HL.out.1; omega), List.getElem?_eq_getElem _⟩
      have hv : misuseV ⟨7, ia, a, ic, iK⟩ row = if hasLess x then 55 else 0 := by simp [misuseV, List.getD_eq_getElem?_getD, hx]
      rw [hv]
      have c0 := HB.out a x hx
      have hx7 := HL.out.2 x (List.mem_of_getElem? hx)
      have hy := less_bits x hx7.1 hx7.2
      clear hx hx7 hv
      cases hh : hasLess x
      all_goals
        rw [hh] at hy
        clear hh
        have hy2 := hy
        simp only [bne_iff_ne, ne_eq, bne_eq_false_iff_eq] at hy2
        go_enter Tryd.func33, Tryd.ntmps33
        go_wp2_with fail
        go_ret
        exact ⟨rfl, (Keeps.refl _ _).andAlloc _⟩
    · clear ha hq
      by_cases k9 : ik = 9
      · subst k9
        clear k5 k7
        have hv : misuseV ⟨9, ia, ib, ic, iK⟩ row = if row.any has2 then 56 else 0 := by simp [misuseV]
        rw [hv]
        obtain ⟨R, hR⟩ : ∃ R : Int, R = if row.any has2 then 56 else 0 := ⟨_, rfl⟩
        rw [← hR]
        have HR : Hid (R = if row.any has2 then 56 else 0) := hR
        clear hv hR
        obtain ⟨wa, hwa⟩ : ∃ wa, wa = w.alloc (.cells #[.int .i64 9, .int .i64 ia, .int .i64 ib, .int .i64 ic, .int .i64 iK] 37) := ⟨_, rfl⟩
        have HK : Hid (Keeps None w wa) := by rw [hwa]; exact Keeps.alloc None w _
        have HB2 : Hid (∀ (k : Nat) x, row[k]? = some x → wa.cell? ⟨gr, k, none⟩ = some (.int .i64 x)) := by rw [hwa]; exact HB.out
        clear HB
        go_enter Tryd.func33, Tryd.ntmps33
        go_wp2_with fail
        rw [← hwa]
        clear hwa
        go_loop [31] (fun s31 => ∃ k : Nat, k ≤ m ∧ s31 = .int .i64 k ∧ ∀ (j : Nat) x, j < k → row[j]? = some x → has2 x = false) (fun i => m - (intOf i).toNat)
        case atStart => exact ⟨0, Nat.zero_le _, rfl, fun j _ h => by omega⟩
        case round =>
          obtain ⟨k, hk, rfl, hall⟩ := hrel
          by_cases hkm : k < m
          · have i1 : (k : Int) < (m : Int) := by omega
            obtain ⟨x, hx⟩ : ∃ x, row[k]? = some x := ⟨row[k]'(by have := HL.out.1; omega), List.getElem?_eq_getElem _⟩
            have c0 := HB2.out k x hx
            have hx7 := HL.out.2 x (List.mem_of_getElem? hx)
            have hr := and2_bits x hx7.1 hx7.2
            have HA : Hid ((∀ (j : Nat) x, j < k → row[j]? = some x → has2 x = false) ∧ row[k]? = some x) := ⟨hall, hx⟩
            clear hx hx7 hall
            cases hh : has2 x with
            | true =>
              rw [hh] at hr
              have HH : Hid (has2 x = true) := hh
              clear hh
              simp only [if_true] at hr
              go_wp2_with fail
              go_ret
              rw [HR.out, if_pos (List.any_eq_true.2 ⟨x, List.mem_of_getElem? HA.out.2, HH.out⟩)]
              exact ⟨rfl, HK.out⟩
            | false =>
              rw [hh] at hr
              have HH : Hid (has2 x = false) := hh
              clear hh
              simp only [Bool.false_eq_true, if_false] at hr
              go_wp2_with fail
              refine ⟨⟨k + 1, by omega, by simp, fun j y hj hy => ?_⟩, by simp [intOf]; omega⟩
              by_cases e : j = k
              · subst e
                rw [HA.out.2] at hy
                obtain rfl := Option.some.inj hy
                exact HH.out
              · exact HA.out.1 j y (by omega) hy
          · have i1 : ¬ ((k : Int) < (m : Int)) := by omega
            have HA : Hid (row.any has2 = false) := by
              unfold Hid
              rw [List.any_eq_false]
              intro x hx
              obtain ⟨j, hj, rfl⟩ := List.mem_iff_getElem.1 hx
              rw [hall j _ (by have := HL.out.1; omega) (List.getElem?_eq_getElem hj)]
              simp
            clear hall
            go_wp2_with fail
            go_ret
            rw [HR.out, HA.out]
            exact ⟨rfl, HK.out⟩
      · have hv : misuseV ⟨ik, ia, ib, ic, iK⟩ row = 0 := by simp [misuseV, k5, k7, k9]
        rw [hv]
        have q5 : (ik == 5) = false := by simpa using k5
        have q7 : (ik == 7) = false := by simpa using k7
        have q9 : (ik == 9) = false := by simpa using k9
        clear hv
        go_enter Tryd.func33, Tryd.ntmps33
        go_wp2_with fail
        go_ret
        exact ⟨rfl, (Keeps.refl _ _).andAlloc _⟩
end Go.Proofs.YtokfbagacehbgaaDoor
