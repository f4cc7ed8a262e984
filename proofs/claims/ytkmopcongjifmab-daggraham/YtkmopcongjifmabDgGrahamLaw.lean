import Derived.Test.YtkmopcongjifmabDgGrahamWalk
/-! DagGraham: its walk. -/
namespace Go.Proofs.Ytkmopcongjifmab
set_option linter.unusedVariables false
set_option maxRecDepth 20000
open Go.RowKit Go.HeapKit

set_option maxHeartbeats 3200000 in
theorem dagGraham_walk (n : Int) (a : Option Addr) (m c : Nat) (l : List Ed) (q : Int) (w : World) (o : okI n) (oq : okI q) (h : SeenE w a m l) (hok : ∀ e ∈ l, okI e.f ∧ okI e.t) :
    Calls Try.prog 4 #[.int .i64 n, .slice a m c, .int .i64 q] w fun e w' => e = .returned (.bool true) ∧ Keeps None w w' := by
  have HS : Hid (SeenE w a m l ∧ (∀ e ∈ l, okI e.f ∧ okI e.t) ∧ okI q) := ⟨h, hok, oq⟩
  clear h hok oq
  go_enter Try.func4, Try.ntmps4
  go_wp2_with fail
  refine (fit_any n a m c l _ o HS.out.1 HS.out.2.1).mono ?_
  rintro _ w2 ⟨sa, k, sc, rfl, hrow, hk⟩
  have hN := modN_lt n (n := 201) (by omega)
  obtain ⟨N, hNe⟩ : ∃ N, N = modN n 201 := ⟨_, rfl⟩
  rw [← hNe] at hN hrow ⊢
  have hD := fit_dag N l (by omega)
  obtain ⟨L, hL⟩ : ∃ L, L = fitL N l := ⟨_, rfl⟩
  rw [← hL] at hrow hD
  have HD : Hid (Dag (N : Int) L) := hD
  have hks : k * 16 ≤ 140737488351232 := by
    have h1 := hrow.1
    rw [edVals_length] at h1
    have h2 := hD.len
    omega
  obtain ⟨p, hp⟩ : ∃ p, p = w2.heap.size := ⟨_, rfl⟩
  have hkA := Keeps.alloc None w2 (.cells #[.int .i64 N, .slice sa k sc] 24)
  have H1 : Hid (SeenE (w2.alloc (.cells #[.int .i64 N, .slice sa k sc] 24)) sa k L ∧ (w2.alloc (.cells #[.int .i64 N, .slice sa k sc] 24)).heap[p]? = some (.cells #[.int .i64 N, .slice sa k sc] 24 (0, 0)) ∧ Keeps None w (w2.alloc (.cells #[.int .i64 N, .slice sa k sc] 24))) :=
    ⟨(row_seen hrow).more hkA, blk_new _ _ _ hp.symm, hk.trans hkA (fun _ f _ => f)⟩
  unfold dagV
  clear hrow hk hkA hL hD hNe o
  go_wp2_with fail
  refine (mod_any q 64 _ HS.out.2.2 (by omega) (by omega)).mono ?_
  rintro _ wz ⟨rfl, hw⟩
  have hw2 := hw.symm
  subst hw2
  clear hw
  have hM := modN_lt q (n := 64) (by omega)
  obtain ⟨M, hMe⟩ : ∃ M, M = modN q 64 := ⟨_, rfl⟩
  rw [← hMe] at hM ⊢
  obtain ⟨P, hPe⟩ : ∃ P, P = M + 1 := ⟨_, rfl⟩
  have HPE : Hid ((1 : Int) + (M : Int) = (P : Int)) := by show _ = _; omega
  have hP1 : 1 ≤ P := by omega
  have hP2 : P ≤ 64 := by omega
  rw [← hp]
  clear hMe HS hp
  generalize w2.alloc (.cells #[.int .i64 N, .slice sa k sc] 24) = wa at H1 ⊢
  have d0 : wa.cell? ⟨p, 0, none⟩ = some (.int .i64 N) := (blk_cell H1.out.2.1 0).trans rfl
  have d1 : wa.cell? ⟨p, 1, none⟩ = some (.slice sa k sc) := (blk_cell H1.out.2.1 1).trans rfl
  clear hPe
  go_wp2_with fail
  rw [HPE.out]
  clear HPE
  refine (gre_any (N : Int) sa k sc L (P : Int) wa H1.out.1 hks).mono ?_
  rintro _ w3 ⟨v, rfl, hr, hk3⟩
  rw [greE_ok HD.out hP1 hP2]
  rw [gre_ok (greE_ok HD.out hP1 hP2)] at hr
  obtain ⟨zs, hzs⟩ : ∃ zs, zs = (List.range N).map (timesV N P L) := ⟨_, rfl⟩
  have hzl : zs.length = N := by rw [hzs]; simp
  rw [← hzs, hzl] at hr
  obtain ⟨va, vc, rfl⟩ := row_shape hr
  have hoz : ∀ x ∈ zs, okI x := by
    intro x hx
    rw [hzs, List.mem_map] at hx
    obtain ⟨i, hi, rfl⟩ := hx
    have := times_one HD.out hP1 i (List.mem_range.1 hi)
    unfold okI
    omega
  have HZ : Hid (zs = (List.range N).map (timesV N P L)) := hzs
  have H2 : Hid (SeenE w3 sa k L ∧ w3.heap[p]? = some (.cells #[.int .i64 N, .slice sa k sc] 24 (0, 0)) ∧ Keeps None w w3 ∧ SeenZ w3 va N zs) :=
    ⟨H1.out.1.more hk3, blk_kept H1.out.2.1 hk3 (fun f => f), H1.out.2.2.trans hk3 (fun _ f _ => f), row_seenZ hr hoz⟩
  obtain ⟨t, htt⟩ : ∃ t : Nat, grt zs = t := Int.eq_ofNat_of_zero_le (grt_ge zs).1
  obtain ⟨S, hSS⟩ : ∃ S : Nat, spanV N L = S := Int.eq_ofNat_of_zero_le (crit_len N L).1
  have hS4 : S ≤ 4096 := by have := (crit_len N L).2; unfold spanV at hSS; omega
  have hpl := graham_plain HD.out hP1 zs hzs t S htt hSS
  have HP : Hid ((isSched P zs L ∧ grOk P zs L zs.length ∧ S ≤ t ∧ N ≤ P * t ∧ P * t ≤ N + (P - 1) * S ∧ t ≤ N) ∧ grt zs = t ∧ spanV N L = S) := ⟨hpl, htt, hSS⟩
  have ht4 : t ≤ 4096 := by have := hpl.2.2.2.2.2; omega
  clear hr hk3 H1 d0 d1 hoz hzl hzs hpl htt hSS
  have d0 : w3.cell? ⟨p, 0, none⟩ = some (.int .i64 N) := (blk_cell H2.out.2.1 0).trans rfl
  have d1 : w3.cell? ⟨p, 1, none⟩ = some (.slice sa k sc) := (blk_cell H2.out.2.1 1).trans rfl
  go_wp2_with fail
  refine (judge_any N sa k sc L P ⟨hP1, hP2⟩ va vc zs w3 H2.out.1 H2.out.2.2.2 (dag_check HD.out)).mono ?_
  rintro _ w4 ⟨jv, rfl, hj, hk4⟩
  have hj2 : jv = 2 := by
    rcases hj with h | h | h
    · exact absurd HP.out.1.1 h.2
    · exact absurd HP.out.1.2.1 h.2.2
    · exact h.1
  rw [hj2]
  have H3 : Hid (SeenE w4 sa k L ∧ w4.heap[p]? = some (.cells #[.int .i64 N, .slice sa k sc] 24 (0, 0)) ∧ Keeps None w w4 ∧ SeenZ w4 va N zs) :=
    ⟨H2.out.1.more hk4, blk_kept H2.out.2.1 hk4 (fun f => f), H2.out.2.2.1.trans hk4 (fun _ f _ => f), H2.out.2.2.2.more hk4⟩
  clear hj hj2 hk4 H2 d0 d1
  have d0 : w4.cell? ⟨p, 0, none⟩ = some (.int .i64 N) := (blk_cell H3.out.2.1 0).trans rfl
  have d1 : w4.cell? ⟨p, 1, none⟩ = some (.slice sa k sc) := (blk_cell H3.out.2.1 1).trans rfl
  go_wp2_with fail
  refine (span_any (N : Int) sa k sc L w4 H3.out.1 hks).mono ?_
  rintro _ w5 ⟨rfl, hk5⟩
  rw [dag_check HD.out, HP.out.2.2]
  have H4 : Hid (w5.heap[p]? = some (.cells #[.int .i64 N, .slice sa k sc] 24 (0, 0)) ∧ Keeps None w w5 ∧ SeenZ w5 va N zs) :=
    ⟨blk_kept H3.out.2.1 hk5 (fun f => f), H3.out.2.2.1.trans hk5 (fun _ f _ => f), H3.out.2.2.2.more hk5⟩
  clear hk5 H3 d0 d1
  have d0 : w5.cell? ⟨p, 0, none⟩ = some (.int .i64 N) := (blk_cell H4.out.1 0).trans rfl
  go_wp2_with fail
  refine (length_any va N vc zs w5 H4.out.2.2 (by omega)).mono ?_
  rintro _ w6 ⟨rfl, hk6⟩
  rw [HP.out.2.1]
  have H5 : Hid (Keeps None w w6) := H4.out.2.1.trans hk6 (fun _ f _ => f)
  have d2 := hk6.cell d0 (fun f => f)
  clear hk6 H4 d0
  have p0 : ¬ P = 0 := by omega
  have p1 : ¬ (P : Int) = 0 := by omega
  go_wp2_with fail
  obtain ⟨C, hC, h2C, hC4⟩ : ∃ C : Nat, max (S : Int) (((N : Int) + (P : Int) - 1) / (P : Int)) = C ∧ (t : Int) ≤ 2 * (C : Int) ∧ C ≤ 4096 := by
    obtain ⟨c, hc⟩ : ∃ c, c = (N + P - 1) / P := ⟨_, rfl⟩
    have e1 : ((N : Int) + (P : Int) - 1) / (P : Int) = (c : Int) := by
      rw [show (N : Int) + (P : Int) - 1 = ((N + P - 1 : Nat) : Int) by omega, hc]
      exact (Int.natCast_ediv _ _).symm
    have h3 := twice hP1 HP.out.1.2.2.2.2.1 hc
    have h4 : c ≤ N + P - 1 := by rw [hc]; exact Nat.div_le_self _ _
    refine ⟨max S c, ?_, ?_, ?_⟩
    · rw [e1]; omega
    · omega
    · omega
  rw [hC]
  clear hC
  refine (bounds_any (N : Int) S P t w6 (by omega) (by omega) (by omega) (by omega) (by have := HP.out.1.2.2.1; omega) ?_ ?_).mono ?_
  · have h1 := HP.out.1.2.2.2.1
    rw [← Int.natCast_mul]
    omega
  · have h1 := HP.out.1.2.2.2.2.1
    have e : (P : Int) - 1 = ((P - 1 : Nat) : Int) := by omega
    rw [e, ← Int.natCast_mul, ← Int.natCast_mul]
    omega
  rintro _ wz ⟨rfl, hw⟩
  have hw2 := hw.symm
  subst hw2
  clear hw
  go_wp2_with fail
  go_ret
  exact ⟨by first | rfl | simp, H5.out⟩
end Go.Proofs.Ytkmopcongjifmab
