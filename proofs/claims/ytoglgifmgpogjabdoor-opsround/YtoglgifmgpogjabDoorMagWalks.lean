import Derived.Test.YtoglgifmgpogjabDoorProg
import Derived.WalkKit
import Derived.WalkSpells
import Derived.WalkLawsBesides
import Derived.Laws.RangeAny
import Derived.Test.YtoglgifmgpogjabDoorPlainParse
/-! The contracts of magnitude and of strings.CutPrefix at the sign. -/
namespace Go.Proofs.YtoglgifmgpogjabDoor
open Go.RowKit Go.PlainOps

theorem drop_at (s : ByteArray) (pos : Nat) (h : pos < s.size) : s.data.toList.drop pos = s[pos] :: s.data.toList.drop (pos + 1) := by
  rw [List.drop_eq_getElem_cons (by simpa using h)]
  rfl
theorem mag_no1 {limit : Nat} {st : Bool} {n : Nat} {c : UInt8} {r : List UInt8} (h : c.toNat < 48 ∨ 57 < c.toNat) : magN limit st n (c :: r) = none := by rw [magN, if_pos h]
theorem mag_no2 {limit : Nat} {n : Nat} {c : UInt8} {r : List UInt8} (h0 : 48 ≤ c.toNat) (h1 : c.toNat ≤ 57) (h : n = 0) : magN limit true n (c :: r) = none := by
  rw [magN, if_neg (by omega), if_pos ⟨rfl, h⟩]
theorem mag_no3 {limit : Nat} {st : Bool} {n : Nat} {c : UInt8} {r : List UInt8} (h0 : 48 ≤ c.toNat) (h1 : c.toNat ≤ 57) (h : ¬ (st = true ∧ n = 0)) (hb : (limit - (c.toNat - 48)) / 10 < n) : magN limit st n (c :: r) = none := by
  rw [magN, if_neg (by omega), if_neg h, if_pos hb]
theorem mag_yes {limit : Nat} {st : Bool} {n : Nat} {c : UInt8} {r : List UInt8} (h0 : 48 ≤ c.toNat) (h1 : c.toNat ≤ 57) (h : ¬ (st = true ∧ n = 0)) (hb : ¬ (limit - (c.toNat - 48)) / 10 < n) : magN limit st n (c :: r) = magN limit true (n * 10 + (c.toNat - 48)) r := by
  rw [magN, if_neg (by omega), if_neg h, if_neg hb]
def magN1 (limit : Nat) (l : List UInt8) : Int := (((magR limit l).getD 0 : Nat) : Int)
def magB1 (limit : Nat) (l : List UInt8) : Bool := (magR limit l).isSome
theorem mag_end0 {limit : Nat} {l : List UInt8} (h : magN limit false 0 l = none) : magN1 limit l = 0 ∧ magB1 limit l = false := by
  have e : magR limit l = none := by
    unfold magR
    split
    · rfl
    · exact h
  unfold magN1 magB1
  rw [e]; exact ⟨rfl, rfl⟩
theorem mag_end1 {limit m : Nat} {l : List UInt8} (h : magN limit false 0 l = some m) : magN1 limit l = m ∧ magB1 limit l = !l.isEmpty := by
  unfold magN1 magB1 magR
  by_cases hl : l = []
  · subst hl
    rw [magN] at h
    cases h
    exact ⟨rfl, rfl⟩
  · rw [if_neg hl, h]
    refine ⟨rfl, ?_⟩
    cases l with
    | nil => exact absurd rfl hl
    | cons => rfl
theorem below_iter (w : World) (s : ByteArray) (p : Nat) : Below w.heap.size w (w.iter s p) := (Below.refl _ w).alloc (Nat.le_refl _) _
section
set_option maxHeartbeats 800000
theorem mag_any (s : ByteArray) (limit : Nat) (w : World) (hl : 9 ≤ limit) (hl2 : limit ≤ 9223372036854775808) (hs : s.size ≤ 20) :
    Calls Tryd.prog 10 #[.string s, .int .u64 limit] w fun e w' => e = .returned (.tuple #[.int .u64 (magN1 limit s.data.toList), .bool (magB1 limit s.data.toList)]) ∧ Below w.heap.size w w' := by
  go_enter Tryd.func10, Tryd.ntmps10
  go_wp2
  go_loopw [6] (fun n wr => ∃ pos m : Nat, pos ≤ s.size ∧ n = .int .u64 m ∧ m ≤ limit ∧ wr = w.iter s pos ∧ Hid (magN limit (decide (0 < pos)) m (s.data.toList.drop pos) = magN limit false 0 s.data.toList)) (fun _ wr => s.size - wr.iterPos w.heap.size)
  case atStart => exact ⟨0, 0, by omega, rfl, by omega, rfl, rfl⟩
  case round =>
    obtain ⟨pos, m, hp, rfl, hm, rfl, HR⟩ := hrel
    by_cases hlt : pos < s.size
    · have HD := HR.out
      rw [drop_at s pos hlt] at HD
      by_cases ha : (s[pos]'hlt).toNat < 128
      · have hnx := fun ty => run_next_ascii (P := Tryd.prog) w s pos ty hlt ha
        have N1 : Hid ((s[pos]'hlt).toNat < 48 ∨ 57 < (s[pos]'hlt).toNat → magN limit false 0 s.data.toList = none) := fun h => by rw [← HD]; exact mag_no1 h
        have N2 : Hid (48 ≤ (s[pos]'hlt).toNat → (s[pos]'hlt).toNat ≤ 57 → 0 < pos → m = 0 → magN limit false 0 s.data.toList = none) := fun h0 h1 h2 h3 => by rw [← HD, decide_eq_true h2]; exact mag_no2 h0 h1 h3
        have N3 : Hid (48 ≤ (s[pos]'hlt).toNat → (s[pos]'hlt).toNat ≤ 57 → ¬ (0 < pos ∧ m = 0) → (limit - ((s[pos]'hlt).toNat - 48)) / 10 < m → magN limit false 0 s.data.toList = none) := fun h0 h1 h2 h3 => by
          rw [← HD]; exact mag_no3 h0 h1 (by rw [decide_eq_true_eq]; exact h2) h3
        have N4 : Hid (48 ≤ (s[pos]'hlt).toNat → (s[pos]'hlt).toNat ≤ 57 → ¬ (0 < pos ∧ m = 0) → ¬ (limit - ((s[pos]'hlt).toNat - 48)) / 10 < m → magN limit (decide (0 < pos + 1)) (m * 10 + ((s[pos]'hlt).toNat - 48)) (s.data.toList.drop (pos + 1)) = magN limit false 0 s.data.toList) := fun h0 h1 h2 h3 => by
          rw [← HD, mag_yes h0 h1 (by rw [decide_eq_true_eq]; exact h2) h3, decide_eq_true (by omega)]
        generalize (s[pos]'hlt).toNat = c at *
        clear HD HR
        by_cases d0 : c < 48
        · have E := mag_end0 (N1.out (.inl d0))
          have E1 : Hid (magN1 limit s.data.toList = 0) := E.1
          have E2 : Hid (magB1 limit s.data.toList = false) := E.2
          clear E
          have d0' : (c : Int) < 48 := by omega
          go_wp2
          go_ret2
          exact ⟨by rw [E1.out, E2.out]; rfl, below_iter _ _ _⟩
        · by_cases d1 : 57 < c
          · have E := mag_end0 (N1.out (.inr d1))
            have E1 : Hid (magN1 limit s.data.toList = 0) := E.1
            have E2 : Hid (magB1 limit s.data.toList = false) := E.2
            clear E
            have d0' : (48 : Int) ≤ c := by omega
            have d1' : (57 : Int) < c := by omega
            go_wp2
            go_ret2
            exact ⟨by rw [E1.out, E2.out]; rfl, below_iter _ _ _⟩
          · have d0' : (48 : Int) ≤ c := by omega
            have d1' : (c : Int) ≤ 57 := by omega
            by_cases hz : 0 < pos ∧ m = 0
            · have E := mag_end0 (N2.out (by omega) (by omega) hz.1 hz.2)
              have E1 : Hid (magN1 limit s.data.toList = 0) := E.1
              have E2 : Hid (magB1 limit s.data.toList = false) := E.2
              have p0 : (0 : Int) < pos := by omega
              have hm0 : ((m : Int) == 0) = true := by rw [beq_iff_eq]; omega
              clear E hz
              go_wp2
              go_ret2
              exact ⟨by rw [E1.out, E2.out]; rfl, below_iter _ _ _⟩
            · by_cases hv : (limit - (c - 48)) / 10 < m
              · have E := mag_end0 (N3.out (by omega) (by omega) hz hv)
                have E1 : Hid (magN1 limit s.data.toList = 0) := E.1
                have E2 : Hid (magB1 limit s.data.toList = false) := E.2
                have hv' : ((limit : Int) - ((c : Int) - 48)) / 10 < (m : Int) := by omega
                clear E
                by_cases hp0 : 0 < pos
                · have hm0 : ((m : Int) == 0) = false := beq_eq_false_iff_ne.2 (by omega)
                  clear hz
                  go_wp2
                  go_ret2
                  exact ⟨by rw [E1.out, E2.out]; rfl, below_iter _ _ _⟩
                · clear hz
                  go_wp2
                  go_ret2
                  exact ⟨by rw [E1.out, E2.out]; rfl, below_iter _ _ _⟩
              · have R := N4.out (by omega) (by omega) hz hv
                have HRR : Hid (magN limit (decide (0 < pos + 1)) (m * 10 + (c - 48)) (s.data.toList.drop (pos + 1)) = magN limit false 0 s.data.toList) := R
                have hv' : (m : Int) ≤ ((limit : Int) - ((c : Int) - 48)) / 10 := by omega
                have hle : m * 10 + (c - 48) ≤ limit := by omega
                have hle' : (m : Int) * 10 + ((c : Int) - 48) ≤ (limit : Int) := by omega
                clear R
                by_cases hp0 : 0 < pos
                · have hm0 : ((m : Int) == 0) = false := beq_eq_false_iff_ne.2 (by omega)
                  clear hz
                  go_wp2
                  go_roundw
                  case rel => exact ⟨pos + 1, m * 10 + (c - 48), by omega, by go_num, hle, rfl, HRR⟩
                  case measure => simp; omega
                · clear hz
                  go_wp2
                  go_roundw
                  case rel => exact ⟨pos + 1, m * 10 + (c - 48), by omega, by go_num, hle, rfl, HRR⟩
                  case measure => simp; omega
      · have hnx := fun ty => run_next_any (P := Tryd.prog) w s pos ty hlt
        have hd := decode_high s pos hlt (by omega)
        have E := mag_end0 (by rw [← HD]; exact mag_no1 (.inr (by omega)))
        have E1 : Hid (magN1 limit s.data.toList = 0) := E.1
        have E2 : Hid (magB1 limit s.data.toList = false) := E.2
        have hle := decode_le s pos
        have d0' : (48 : Int) ≤ (Utf8.decode s pos).1 := by omega
        have d1' : (57 : Int) < (Utf8.decode s pos).1 := by omega
        clear E HD HR ha hd
        go_wp2
        go_ret2
        exact ⟨by rw [E1.out, E2.out]; rfl, below_iter _ _ _⟩
    · have hnx := fun ty => run_next_end (P := Tryd.prog) w s pos ty hlt
      have HD := HR.out
      rw [List.drop_of_length_le (by rw [Array.length_toList]; show s.size ≤ pos; omega), magN] at HD
      have E := mag_end1 HD.symm
      have E1 : Hid (magN1 limit s.data.toList = m) := E.1
      have E2 : Hid (magB1 limit s.data.toList = !s.toList.isEmpty) := by rw [ByteArray.toList_eq]; exact E.2
      clear E HD HR
      go_wp2
      go_ret2
      exact ⟨by rw [E1.out, E2.out]; rfl, below_iter _ _ _⟩
end
end Go.Proofs.YtoglgifmgpogjabDoor
