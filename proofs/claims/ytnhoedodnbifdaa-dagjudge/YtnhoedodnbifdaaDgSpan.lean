import Derived.Test.YtnhoedodnbifdaaDgCrit
/-! Critical and Span: the program's; the document's Span. -/
namespace Go.Proofs.Ytnhoedodnbifdaa
set_option linter.unusedVariables false
set_option maxRecDepth 20000
open Go.RowKit Go.HeapKit

set_option maxHeartbeats 1600000 in
theorem crit_any (n : Int) (a : Option Addr) (m c : Nat) (l : List Ed) (w : World) (h : SeenE w a m l) (hs : m * 16 ≤ 140737488351232) :
    Calls Try.prog 25 #[dagV n a m c] w fun e w' => ∃ v path, e = .returned (.tuple #[v, .int .i64 (checkV n l)]) ∧ w'.ownsRow w.heap.size 3 1 v path.length (iv path) ∧ critV n l path ∧ Keeps None w w' := by
  have HS : Hid (SeenE w a m l) := h
  clear h
  obtain ⟨s0, hs0⟩ : ∃ s0, s0 = w.heap.size := ⟨_, rfl⟩
  have HS0 : Hid (s0 = w.heap.size) := hs0
  unfold dagV
  go_enter Try.func25, Try.ntmps25
  go_wp2_with fail
  have hbox := blk_new w (.cells #[.int .i64 n, .slice a m c] 24) _ rfl
  have hk0 := keeps1 w (.cells #[.int .i64 n, .slice a m c] 24)
  refine (check_any n a m c l _ (HS.out.more hk0) hs).mono ?_
  rintro e w2 ⟨rfl, hk⟩
  rw [← hs0] at hbox ⊢
  have H1 : Hid (w2.heap[s0]? = some (.cells #[.int .i64 n, .slice a m c] 24 (0, 0)) ∧ Keeps None w w2) := ⟨blk_kept hbox hk (fun f => f), hk0.trans hk (fun _ f _ => f)⟩
  have d0 : w2.cell? ⟨s0, 0, none⟩ = some (.int .i64 n) := (blk_cell H1.out.1 0).trans rfl
  have d1 : w2.cell? ⟨s0, 1, none⟩ = some (.slice a m c) := (blk_cell H1.out.1 1).trans rfl
  clear hk0 hbox hk hs0
  by_cases hc : checkV n l = 0
  · have HC : Hid (checkV n l = 0) := hc
    rw [hc]
    have hd := dag_of hc
    obtain ⟨N, rfl⟩ := Int.eq_ofNat_of_zero_le hd.lo
    have HD : Hid (Dag (N : Int) l) := hd
    clear hc hd
    go_wp2_with fail
    refine (path_any N a m c l _ (HS.out.more H1.out.2) HD.out).mono ?_
    rintro e w3 ⟨v, path, rfl, hr, hcr, hk⟩
    have HN : Hid (w3.ownsRow w.heap.size 3 1 v path.length (iv path) ∧ critV N l path ∧ Keeps None w w3) := ⟨row_base hr H1.out.2.size, hcr, H1.out.2.trans hk (fun _ f _ => f)⟩
    clear hr hcr hk
    go_wp2_with fail
    go_ret2
    exact ⟨_, _, by rw [HC.out]; rfl, HN.out⟩
  · have HC : Hid (¬ checkV n l = 0) := hc
    have hb : (checkV n l == 0) = false := by simpa using hc
    have HE : Hid (earV n l = []) := ear_bad hc
    have q0 : ¬ checkV n l = 0 := hc
    clear hc
    go_wp2_with fail
    go_ret2
    refine ⟨_, [], rfl, row_nil _ _ _ _, ⟨?_, ⟨(fun x hx => by cases hx), (fun i x y hx => by simp at hx)⟩⟩, H1.out.2⟩
    rw [HE.out]
    rfl
def spanV (n : Int) (l : List Ed) : Int := grt (earV n l)
theorem crit_len (n : Int) (l : List Ed) : 0 ≤ grt (earV n l) ∧ grt (earV n l) ≤ 4096 := by
  refine ⟨(grt_ge _).1, ?_⟩
  rcases grt_eq (earV n l) with h | h
  · omega
  · by_cases hc : checkV n l = 0
    · have hd := dag_of hc
      have h1 := hd.hi
      unfold earV at h
      rw [if_pos hc] at h
      obtain ⟨j, hj, e⟩ := List.mem_map.1 h
      have hj := List.mem_range.1 hj
      have := R_le l j
      unfold earV
      rw [if_pos hc]
      omega
    · rw [ear_bad hc] at h
      cases h
set_option maxHeartbeats 1600000 in
theorem span_any (n : Int) (a : Option Addr) (m c : Nat) (l : List Ed) (w : World) (h : SeenE w a m l) (hs : m * 16 ≤ 140737488351232) :
    Calls Try.prog 22 #[dagV n a m c] w fun e w' => e = .returned (.tuple #[.int .i64 (spanV n l), .int .i64 (checkV n l)]) ∧ Keeps None w w' := by
  have HS : Hid (SeenE w a m l) := h
  clear h
  unfold dagV
  go_enter Try.func22, Try.ntmps22
  go_wp2_with fail
  have hk0 := keeps1 w (.cells #[.int .i64 n, .slice a m c] 24)
  refine (crit_any n a m c l _ (HS.out.more hk0) hs).mono ?_
  rintro e w2 ⟨v, path, rfl, hr, hcr, hk⟩
  obtain ⟨a1, c1, rfl⟩ := row_shape hr
  have HN : Hid ((path.length : Int) = spanV n l ∧ Keeps None w w2) := ⟨hcr.1, hk0.trans hk (fun _ f _ => f)⟩
  clear hr hcr hk hk0
  go_wp2_with fail
  go_ret2
  exact ⟨by rw [← HN.out.1]; rfl, HN.out.2⟩
set_option maxHeartbeats 1600000 in
theorem rspan_any (n : Int) (a : Option Addr) (m c : Nat) (l : List Ed) (w : World) (h : SeenE w a m l) (hs : m * 16 ≤ 140737488351232) :
    Calls Try.prog 40 #[dagV n a m c] w fun e w' => e = .returned (.tuple #[.int .i64 (spanV n l), .int .i64 (checkV n l)]) ∧ Keeps None w w' := by
  have HS : Hid (SeenE w a m l) := h
  clear h
  unfold dagV
  go_enter Try.func40, Try.ntmps40
  go_wp2_with fail
  have hk0 := keeps1 w (.cells #[.int .i64 n, .slice a m c] 24)
  refine (rear_any n a m c l _ (HS.out.more hk0) hs).mono ?_
  rintro e w2 ⟨v, rfl, hr, hk⟩
  have HN : Hid (w2.ownsRow (w.alloc (.cells #[.int .i64 n, .slice a m c] 24)).heap.size 3 1 v (earV n l).length (iv (earV n l)) ∧ Keeps None w w2) := ⟨hr, hk0.trans hk (fun _ f _ => f)⟩
  clear hr hk hk0
  by_cases hc : checkV n l = 0
  · have HC : Hid (checkV n l = 0) := hc
    rw [hc]
    clear hc
    go_wp2_with fail
    refine (grt_any v _ _ _ _ HN.out.1 (ear_len n l)).mono ?_
    rintro e w3 ⟨rfl, hw⟩
    have hw2 := hw.symm
    subst hw2
    clear hw
    go_wp2_with fail
    go_ret2
    exact ⟨by rw [HC.out]; rfl, HN.out.2⟩
  · have HE : Hid (spanV n l = 0) := by
      show grt (earV n l) = 0
      rw [ear_bad hc]
      rfl
    have hb : (checkV n l == 0) = false := by simpa using hc
    go_wp2_with fail
    go_ret2
    exact ⟨by rw [HE.out]; rfl, HN.out.2⟩
end Go.Proofs.Ytnhoedodnbifdaa
