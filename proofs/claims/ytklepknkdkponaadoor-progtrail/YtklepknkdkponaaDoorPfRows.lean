import Derived.Test.YtklepknkdkponaaDoorRpFlow2
import Derived.Deep.QuietTactic
import Derived.Deep.RegionHeld3
import Derived.BigQuiet
/-! sameRows, fill, grow, filled. -/
namespace Go.Proofs.YtklepknkdkponaaDoor
set_option linter.unusedVariables false
set_option maxRecDepth 20000
open Go.RowKit Go.HeapKit

theorem sameRow_any (b b' n : Nat) (F : Nat → Int) (w : World) (hn : n ≤ 8) (h1 : ∀ k, k < n → w.cell? ⟨b, k, none⟩ = some (.int .i64 (F k))) (h2 : ∀ k, k < n → w.cell? ⟨b', k, none⟩ = some (.int .i64 (F k))) :
    Calls Tryd.prog 52 #[.slice (some ⟨b, 0, none⟩) n n, .slice (some ⟨b', 0, none⟩) n n] w fun e w' => e = .returned (.bool true) ∧ Keeps None w w' := by
  have HC : Hid ((∀ k, k < n → w.cell? ⟨b, k, none⟩ = some (.int .i64 (F k))) ∧ (∀ k, k < n → w.cell? ⟨b', k, none⟩ = some (.int .i64 (F k)))) := ⟨h1, h2⟩
  clear h1 h2
  go_enter Tryd.func52, Tryd.ntmps52
  go_wp2_with fail
  go_loopw [5] (fun s5 wr => ∃ k : Nat, k ≤ n ∧ s5 = .int .i64 k ∧ Keeps None w wr) (fun i _ => n - (intOf i).toNat)
  case atStart => exact ⟨0, Nat.zero_le _, rfl, Keeps.refl _ _⟩
  case round =>
    obtain ⟨k, hk, rfl, hkp⟩ := hrel
    by_cases hkn : k < n
    · have y1 := hkp.cell (HC.out.1 k hkn) (fun f => f)
      have y2 := hkp.cell (HC.out.2 k hkn) (fun f => f)
      generalize F k = x at y1 y2
      have i1 : (k : Int) < (n : Int) := by omega
      have HK : Hid (Keeps None w wr) := hkp
      clear hkp
      go_upto_region 6 with fail
      go_quiet (fail)
      go_wp2_with fail
      exact ⟨⟨k + 1, by omega, by simp, HK.out.trans (Keeps.drewN None _ _) (fun _ f _ => f)⟩, by simp [intOf]; omega⟩
    · have i1 : ¬ ((k : Int) < (n : Int)) := by omega
      have HK : Hid (Keeps None w wr) := hkp
      clear hkp
      go_wp2_with fail
      go_ret
      exact ⟨rfl, HK.out⟩
theorem IsM.more {w w' : World} {g n m q : Nat} {M : Nat → Nat → Int} (h : IsM w g n m q M) (hk : Keeps None w w') : IsM w' g n m q M := h.kept hk (fun _ _ f => f)
set_option maxHeartbeats 1000000 in
theorem sameRows_any (g g' n m : Nat) (M : Nat → Nat → Int) (w : World) (hn : n ≤ 512) (hm : m ≤ 8) (h1 : IsM w g n m n M) (h2 : IsM w g' n m n M) :
    Calls Tryd.prog 17 #[.slice (some ⟨g, 0, none⟩) n n, .slice (some ⟨g', 0, none⟩) n n] w fun e w' => e = .returned (.bool true) ∧ Keeps None w w' := by
  have HC : Hid (IsM w g n m n M ∧ IsM w g' n m n M) := ⟨h1, h2⟩
  clear h1 h2
  go_enter Tryd.func17, Tryd.ntmps17
  go_wp2_with fail
  go_loopw [5] (fun s5 wr => ∃ k : Nat, k ≤ n ∧ s5 = .int .i64 k ∧ Keeps None w wr) (fun i _ => n - (intOf i).toNat)
  case atStart => exact ⟨0, Nat.zero_le _, rfl, Keeps.refl _ _⟩
  case round =>
    obtain ⟨k, hk, rfl, hkp⟩ := hrel
    by_cases hkn : k < n
    · have m1 := HC.out.1.more hkp
      have m2 := HC.out.2.more hkp
      have y1 := m1.row hkn hkn
      have y2 := m2.row hkn hkn
      have hdr := Keeps.drew None wr
      have hsr := sameRow_any (g + 1 + k) (g' + 1 + k) m (M k) wr.drew hm (fun s hs => (m1.more hdr).cell hkn hs) (fun s hs => (m2.more hdr).cell hkn hs)
      have i1 : (k : Int) < (n : Int) := by omega
      have HK : Hid (Keeps None w wr) := hkp
      clear hkp m1 m2 hdr
      obtain ⟨r1, hr1⟩ : ∃ r1, r1 = g + 1 + k := ⟨_, rfl⟩
      obtain ⟨r2, hr2⟩ : ∃ r2, r2 = g' + 1 + k := ⟨_, rfl⟩
      rw [← hr1] at hsr y1
      rw [← hr2] at hsr y2
      clear hr1 hr2
      go_upto_region 6 with fail
      go_region_held3 (fun w' => w'.cell? ⟨g, k, none⟩ = some (.slice (some ⟨r1, 0, none⟩) m m) ∧ w'.cell? ⟨g', k, none⟩ = some (.slice (some ⟨r2, 0, none⟩) m m)) (first | go_keep | with_reducible exact hS2) (first
        | (go_at_call 52; refine hsr.mono ?_; rintro _ w2 ⟨rfl, hk2⟩; have hkP : Keeps None wr w2 := (Keeps.drew None wr).trans hk2 (fun _ f _ => f); have hS2 := (And.intro (hkP.cell y1 (fun f => f)) (hkP.cell y2 (fun f => f)))))
      all_goals
        have HR : Hid (Keeps None w w2) := HK.out.trans hkP (fun _ f _ => f)
        go_wp2_with fail
        exact ⟨⟨k + 1, by omega, by simp, HR.out⟩, by simp [intOf]; omega⟩
    · have i1 : ¬ ((k : Int) < (n : Int)) := by omega
      have HK : Hid (Keeps None w wr) := hkp
      clear hkp
      go_wp2_with fail
      go_ret
      exact ⟨rfl, HK.out⟩
/-- Rows, each full of its mark. -/
def markM (k : Int) : Nat → Nat → Int := fun i _ => k + i
set_option maxHeartbeats 1000000 in
theorem filled_any (g n m : Nat) (mk : Int) (hmk : 0 ≤ mk ∧ mk ≤ 5000) (w : World) (hn : n ≤ 512) (hm : m ≤ 8) (h1 : IsM w g n m n (markM mk)) :
    Calls Tryd.prog 20 #[.slice (some ⟨g, 0, none⟩) n n, .int .i64 mk] w fun e w' => e = .returned (.bool true) ∧ Keeps None w w' := by
  have HC : Hid (IsM w g n m n (markM mk)) := h1
  clear h1
  go_enter Tryd.func20, Tryd.ntmps20
  go_wp2_with fail
  go_loop [5] (fun s5 => ∃ k : Nat, k ≤ n ∧ s5 = .int .i64 k) (fun i => n - (intOf i).toNat)
  case atStart => exact ⟨0, Nat.zero_le _, rfl⟩
  case round =>
    obtain ⟨k, hk, rfl⟩ := hrel
    by_cases hkn : k < n
    · have y1 := HC.out.row hkn hkn
      have i1 : (k : Int) < (n : Int) := by omega
      have HY : Hid (∀ s, s < m → w.cell? ⟨g + 1 + k, s, none⟩ = some (.int .i64 (mk + k))) := fun s hs => HC.out.cell hkn hs
      obtain ⟨r1, hr1⟩ : ∃ r1, r1 = g + 1 + k := ⟨_, rfl⟩
      rw [← hr1] at HY y1
      clear hr1
      have e1 : wrap64 (mk + k) = mk + k := by unfold wrap64; omega
      go_upto_region 4 with fail
      go_wp2_with fail
      go_loop [6] (fun s6 => ∃ j : Nat, j ≤ m ∧ s6 = .int .i64 j) (fun i => m - (intOf i).toNat)
      case atStart => exact ⟨0, Nat.zero_le _, rfl⟩
      case round =>
        obtain ⟨j, hj, rfl⟩ := hrel
        by_cases hjm : j < m
        · have y2 := HY.out j hjm
          have i2 : (j : Int) < (m : Int) := by omega
          go_wp2_with fail
          exact ⟨⟨j + 1, by omega, by simp⟩, by simp [intOf]; omega⟩
        · have i2 : ¬ ((j : Int) < (m : Int)) := by omega
          go_wp2_with fail
          exact ⟨⟨k + 1, by omega, by simp⟩, by simp [intOf]; omega⟩
    · have i1 : ¬ ((k : Int) < (n : Int)) := by omega
      go_wp2_with fail
      go_ret
      exact ⟨rfl, Keeps.refl _ _⟩
/-- Rows half filled. -/
def halfM (mk : Int) (M : Nat → Nat → Int) (k j : Nat) : Nat → Nat → Int := fun k' s' => if k' < k ∨ k' = k ∧ s' < j then mk + k' else M k' s'
theorem half_set (mk : Int) (M : Nat → Nat → Int) (k j : Nat) (k' s' : Nat) : (if k' = k ∧ s' = j then mk + k else halfM mk M k j k' s') = halfM mk M k (j + 1) k' s' := by
  unfold halfM
  by_cases h1 : k' = k
  · subst h1
    by_cases h2 : s' = j
    · subst h2; simp
    · by_cases h3 : s' < j
      · simp [h2, h3, show s' < j + 1 by omega]
      · simp [h2, h3, show ¬ s' < j + 1 by omega]
  · simp [h1]
theorem half_next (mk : Int) (M : Nat → Nat → Int) (k m : Nat) (k' s' : Nat) (h : s' < m) : halfM mk M k m k' s' = halfM mk M (k + 1) 0 k' s' := by
  unfold halfM
  by_cases h1 : k' < k ∨ k' = k
  · rw [if_pos (by omega), if_pos (by omega)]
  · rw [if_neg (by omega), if_neg (by omega)]
set_option maxHeartbeats 1000000 in
theorem fill_any (g n m : Nat) (mk : Int) (M : Nat → Nat → Int) (hmk : 0 ≤ mk ∧ mk ≤ 5000) (w : World) (hn : n ≤ 512) (hm : m ≤ 8) (h1 : IsM w g n m n M) :
    Calls Tryd.prog 18 #[.slice (some ⟨g, 0, none⟩) n n, .int .i64 mk] w fun e w' => e = .returned (.tuple #[]) ∧ IsM w' g n m n (markM mk) ∧ Keeps (fun q => g ≤ q ∧ q ≤ g + n) w w' := by
  have HC : Hid (IsM w g n m n M) := h1
  clear h1
  go_enter Tryd.func18, Tryd.ntmps18
  go_wp2_with fail
  go_loopw [4] (fun s4 wr => ∃ k : Nat, k ≤ n ∧ s4 = .int .i64 k ∧ IsM wr g n m n (halfM mk M k 0) ∧ Keeps (fun q => g ≤ q ∧ q ≤ g + n) w wr) (fun i _ => n - (intOf i).toNat)
  case atStart => exact ⟨0, Nat.zero_le _, rfl, HC.out.congr (fun k s _ _ => by simp [halfM]), Keeps.refl _ _⟩
  case round =>
    obtain ⟨k, hk, rfl, hM, hkp⟩ := hrel
    by_cases hkn : k < n
    · have i1 : (k : Int) < (n : Int) := by omega
      have HK : Hid (IsM wr g n m n (halfM mk M k 0) ∧ Keeps (fun q => g ≤ q ∧ q ≤ g + n) w wr) := ⟨hM, hkp⟩
      clear hM hkp
      have e1 : wrap64 (mk + k) = mk + k := by unfold wrap64; omega
      go_upto_region 3 with fail
      go_wp2_with fail
      go_loopw [5] (fun s5 wx => ∃ j : Nat, j ≤ m ∧ s5 = .int .i64 j ∧ IsM wx g n m n (halfM mk M k j) ∧ Keeps (fun q => g ≤ q ∧ q ≤ g + n) w wx) (fun i _ => m - (intOf i).toNat)
      case atStart => exact ⟨0, Nat.zero_le _, rfl, HK.out.1, HK.out.2⟩
      case round =>
        obtain ⟨j, hj, rfl, hM, hkp⟩ := hrel
        have y1 := hM.row hkn hkn
        by_cases hjm : j < m
        · have y2 := hM.cell hkn hjm
          have z2 := hM.free j hkn
          have hM2 := (hM.set k j (mk + k) hkn).congr (fun k' s' _ _ => half_set mk M k j k' s')
          have i2 : (j : Int) < (m : Int) := by omega
          generalize halfM mk M k j k j = x at y2
          have HN : Hid (IsM (wr.setCell ⟨g + 1 + k, j, none⟩ (.int .i64 (mk + k))) g n m n (halfM mk M k (j + 1)) ∧ Keeps (fun q => g ≤ q ∧ q ≤ g + n) w (wr.setCell ⟨g + 1 + k, j, none⟩ (.int .i64 (mk + k)))) := ⟨hM2, hkp.andSet (x := ⟨g + 1 + k, j, none⟩) (.inl ⟨by show g ≤ g + 1 + k; omega, by show g + 1 + k ≤ g + n; omega⟩) _⟩
          clear hM hM2 hkp
          obtain ⟨r1, hr1⟩ : ∃ r1, r1 = g + 1 + k := ⟨_, rfl⟩
          rw [← hr1] at HN y1 y2 z2
          clear hr1
          go_wp2_with fail
          exact ⟨⟨j + 1, by omega, by simp, HN.out.1, HN.out.2⟩, by simp [intOf]; omega⟩
        · have i2 : ¬ ((j : Int) < (m : Int)) := by omega
          have hj2 : j = m := by omega
          subst hj2
          have HN : Hid (IsM wr g n j n (halfM mk M (k + 1) 0) ∧ Keeps (fun q => g ≤ q ∧ q ≤ g + n) w wr) := ⟨hM.congr (fun k' s' _ hs => half_next mk M k j k' s' hs), hkp⟩
          clear hM hkp
          go_wp2_with fail
          exact ⟨⟨k + 1, by omega, by simp, HN.out.1, HN.out.2⟩, by simp [intOf]; omega⟩
    · have i1 : ¬ ((k : Int) < (n : Int)) := by omega
      have HN : Hid (IsM wr g n m n (markM mk) ∧ Keeps (fun q => g ≤ q ∧ q ≤ g + n) w wr) := ⟨hM.congr (fun k' s' hk' _ => by simp [halfM, markM, show k' < k by omega]), hkp⟩
      clear hM hkp
      go_wp2_with fail
      go_end0
      exact ⟨rfl, HN.out.1, HN.out.2⟩
end Go.Proofs.YtklepknkdkponaaDoor
