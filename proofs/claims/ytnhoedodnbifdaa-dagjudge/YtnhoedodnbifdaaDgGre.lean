import Derived.Test.YtnhoedodnbifdaaDgTimes
/-! Greedy: the program's. -/
namespace Go.Proofs.Ytnhoedodnbifdaa
set_option linter.unusedVariables false
set_option maxRecDepth 20000
open Go.RowKit Go.HeapKit

def greE (n : Int) (l : List Ed) (p : Int) : Int := if checkV n l = 0 then (if p < 1 ∨ 64 < p then 3 else 0) else checkV n l
def greV (n : Int) (l : List Ed) (p : Int) : List Int := if greE n l p = 0 then (List.range n.toNat).map (timesV n.toNat p.toNat l) else []
theorem gre_zero {n : Int} {l : List Ed} {p : Int} (h : greE n l p = 0) : checkV n l = 0 ∧ 1 ≤ p ∧ p ≤ 64 := by
  unfold greE at h
  split at h
  · split at h
    · cases h
    · rename_i h1 h2; exact ⟨h1, by omega, by omega⟩
  · rename_i h1; exact absurd h h1
theorem gre_ok {n : Nat} {l : List Ed} {P : Nat} (h : greE n l P = 0) : greV n l P = (List.range n).map (timesV n P l) := by
  unfold greV
  rw [if_pos h]
  simp
theorem gre_bad {n : Int} {l : List Ed} {p : Int} (h : ¬ greE n l p = 0) : greV n l p = [] := by
  unfold greV
  rw [if_neg h]
theorem gre_len (n : Int) (l : List Ed) (p : Int) : (greV n l p).length ≤ 4096 := by
  by_cases h : greE n l p = 0
  · have hd := dag_of (gre_zero h).1
    have := hd.hi
    unfold greV
    rw [if_pos h]
    simp
    omega
  · rw [gre_bad h]; simp
set_option maxHeartbeats 1600000 in
theorem checkFor_any (n : Int) (a : Option Addr) (m c : Nat) (l : List Ed) (p : Int) (w : World) (h : SeenE w a m l) (hs : m * 16 ≤ 140737488351232) :
    Calls Try.prog 29 #[dagV n a m c, .int .i64 p] w fun e w' => e = .returned (.int .i64 (greE n l p)) ∧ Keeps None w w' := by
  have HS : Hid (SeenE w a m l) := h
  clear h
  unfold dagV
  by_cases hc : checkV n l = 0
  · have E : Hid (greE n l p = if p < 1 ∨ 64 < p then 3 else 0) := by show _ = _; unfold greE; rw [if_pos hc]
    generalize greE n l p = r at E ⊢
    go_enter Try.func29, Try.ntmps29
    go_wp2_with fail
    have hk0 := keeps1 w (.cells #[.int .i64 n, .slice a m c] 24)
    refine (check_any n a m c l _ (HS.out.more hk0) hs).mono ?_
    rintro _ w2 ⟨rfl, hk⟩
    have HK : Hid (Keeps None w w2) := hk0.trans hk (fun _ f _ => f)
    rw [hc]
    clear hk hk0 hc
    by_cases p1 : p < 1
    · go_wp2_with fail
      go_ret
      exact ⟨by rw [E.out, if_pos (.inl p1)]; rfl, HK.out⟩
    · by_cases p2 : 64 < p
      · go_wp2_with fail
        go_ret
        exact ⟨by rw [E.out, if_pos (.inr p2)]; rfl, HK.out⟩
      · have E2 : Hid (r = 0) := by have := E.out; rw [if_neg (by omega)] at this; exact this
        go_wp2_with fail
        go_ret
        exact ⟨by rw [E2.out]; rfl, HK.out⟩
  · have E : Hid (greE n l p = checkV n l) := by show _ = _; unfold greE; rw [if_neg hc]
    have eb : (checkV n l == 0) = false := by simpa using hc
    have q0 : ¬ checkV n l = 0 := hc
    generalize greE n l p = r at E ⊢
    go_enter Try.func29, Try.ntmps29
    go_wp2_with fail
    have hk0 := keeps1 w (.cells #[.int .i64 n, .slice a m c] 24)
    refine (check_any n a m c l _ (HS.out.more hk0) hs).mono ?_
    rintro _ w2 ⟨rfl, hk⟩
    have HK : Hid (Keeps None w w2) := hk0.trans hk (fun _ f _ => f)
    clear hk hk0 hc
    go_wp2_with fail
    go_ret
    exact ⟨by rw [E.out]; rfl, HK.out⟩
set_option maxHeartbeats 1600000 in
theorem gre_any (n : Int) (a : Option Addr) (m c : Nat) (l : List Ed) (p : Int) (w : World) (h : SeenE w a m l) (hs : m * 16 ≤ 140737488351232) :
    Calls Try.prog 16 #[dagV n a m c, .int .i64 p] w fun e w' => ∃ v, e = .returned (.tuple #[v, .int .i64 (greE n l p)]) ∧ w'.ownsRow w.heap.size 3 1 v (greV n l p).length (iv (greV n l p)) ∧ Keeps None w w' := by
  have HS : Hid (SeenE w a m l) := h
  clear h
  obtain ⟨s0, hs0⟩ : ∃ s0, s0 = w.heap.size := ⟨_, rfl⟩
  have HS0 : Hid (s0 = w.heap.size) := hs0
  unfold dagV
  go_enter Try.func16, Try.ntmps16
  go_wp2_with fail
  have hbox := blk_new w (.cells #[.int .i64 n, .slice a m c] 24) _ rfl
  have hk0 := keeps1 w (.cells #[.int .i64 n, .slice a m c] 24)
  refine (checkFor_any n a m c l p _ (HS.out.more hk0) hs).mono ?_
  rintro e w2 ⟨rfl, hk⟩
  rw [← hs0] at hbox ⊢
  have H1 : Hid (w2.heap[s0]? = some (.cells #[.int .i64 n, .slice a m c] 24 (0, 0)) ∧ Keeps None w w2) := ⟨blk_kept hbox hk (fun f => f), hk0.trans hk (fun _ f _ => f)⟩
  have d0 : w2.cell? ⟨s0, 0, none⟩ = some (.int .i64 n) := (blk_cell H1.out.1 0).trans rfl
  have d1 : w2.cell? ⟨s0, 1, none⟩ = some (.slice a m c) := (blk_cell H1.out.1 1).trans rfl
  clear hk0 hbox hk hs0
  by_cases hc : greE n l p = 0
  · have HC : Hid (greE n l p = 0) := hc
    rw [hc]
    obtain ⟨h1, h2, h3⟩ := gre_zero hc
    have hd := dag_of h1
    obtain ⟨N, rfl⟩ := Int.eq_ofNat_of_zero_le hd.lo
    obtain ⟨P, rfl⟩ := Int.eq_ofNat_of_zero_le (show 0 ≤ p by omega)
    have HD : Hid (Dag (N : Int) l) := hd
    have hP1 : 1 ≤ P := by omega
    have hP2 : P ≤ 64 := by omega
    clear hc hd h1 h2 h3
    go_wp2_with fail
    refine (times_any N P a m c l _ (HS.out.more H1.out.2) HD.out hP1 hP2).mono ?_
    rintro e w3 ⟨gt, rfl, hN, hg, hk⟩
    have HN : Hid (w3.ownsRow w.heap.size 3 1 (.slice (some ⟨gt, 0, none⟩) N N) (greV N l P).length (iv (greV N l P)) ∧ Keeps None w w3) := by
      refine ⟨?_, H1.out.2.trans hk (fun _ f _ => f)⟩
      have h1 := H1.out.2.size
      have h2 := HD.out.hi
      have := hN.row w.heap.size (by omega) (by omega)
      rw [gre_ok HC.out]
      simpa using this
    clear hN hg hk
    go_wp2_with fail
    go_ret2
    exact ⟨_, by rw [HC.out]; rfl, HN.out⟩
  · have HC : Hid (¬ greE n l p = 0) := hc
    have hb : (greE n l p == 0) = false := by simpa using hc
    have HE : Hid (greV n l p = []) := gre_bad hc
    have q0 : ¬ greE n l p = 0 := hc
    clear hc
    go_wp2_with fail
    go_ret2
    refine ⟨_, rfl, ?_, H1.out.2⟩
    rw [HE.out]
    exact row_nil _ _ _ _
end Go.Proofs.Ytnhoedodnbifdaa
