import Derived.Test.YtkmopcongjifmaaDgGre
import Derived.Test.YtkmopcongjifmaaDgFit
import Derived.Test.YtkmopcongjifmaaDgEndsP
/-! DagEnds. -/
namespace Go.Proofs.Ytkmopcongjifmaa
set_option linter.unusedVariables false
set_option maxRecDepth 20000
open Go.RowKit Go.HeapKit

theorem greE_ok {n : Nat} {l : List Ed} (hd : Dag (n : Int) l) {P : Nat} (h1 : 1 ≤ P) (h2 : P ≤ 64) : greE n l P = 0 := by
  unfold greE
  rw [if_pos (dag_check hd), if_neg (by omega)]
set_option maxHeartbeats 3200000 in
theorem dagEnds_walk (n : Int) (a : Option Addr) (m c : Nat) (l : List Ed) (w : World) (o : okI n) (h : SeenE w a m l) (hok : ∀ e ∈ l, okI e.f ∧ okI e.t) :
    Calls Try.prog 4 #[.int .i64 n, .slice a m c] w fun e w' => e = .returned (.bool true) ∧ Keeps None w w' := by
  have HS : Hid (SeenE w a m l ∧ ∀ e ∈ l, okI e.f ∧ okI e.t) := ⟨h, hok⟩
  clear h hok
  go_enter Try.func4, Try.ntmps4
  go_wp2_with fail
  refine (mod_any n 65 _ o (by omega) (by omega)).mono ?_
  rintro _ wz ⟨rfl, hw⟩
  have hw2 := hw.symm
  subst hw2
  clear hw
  have hN := modN_lt n (n := 65) (by omega)
  obtain ⟨N, hNe⟩ : ∃ N, N = modN n 65 := ⟨_, rfl⟩
  rw [← hNe] at hN ⊢
  clear hNe
  have hNN : modN (N : Int) 201 = N := by unfold modN; omega
  go_wp2_with fail
  refine (fit_any (N : Int) a m c l _ (by unfold okI; omega) HS.out.1 HS.out.2).mono ?_
  rintro _ w2 ⟨sa, k, sc, rfl, hrow, hk⟩
  rw [hNN] at hrow ⊢
  have hD := fit_dag N l (by omega)
  obtain ⟨L, hL⟩ : ∃ L, L = fitL N l := ⟨_, rfl⟩
  rw [← hL] at hrow hD
  have HD : Hid (Dag (N : Int) L) := hD
  have hks : k * 16 ≤ 140737488351232 := by
    have h1 := hrow.1
    rw [edVals_length] at h1
    have h2 := hD.len
    omega
  obtain ⟨p, hp⟩ : ∃ p, p = w2.heap.size := ⟨_, rfl⟩
  have hkA := Keeps.alloc None w2 (.cells #[.int .i64 N, .slice sa k sc] 24)
  have H1 : Hid (SeenE (w2.alloc (.cells #[.int .i64 N, .slice sa k sc] 24)) sa k L ∧ (w2.alloc (.cells #[.int .i64 N, .slice sa k sc] 24)).heap[p]? = some (.cells #[.int .i64 N, .slice sa k sc] 24 (0, 0)) ∧ Keeps None w (w2.alloc (.cells #[.int .i64 N, .slice sa k sc] 24))) :=
    ⟨(row_seen hrow).more hkA, blk_new _ _ _ hp.symm, hk.trans hkA (fun _ f _ => f)⟩
  unfold dagV
  clear hrow hk hkA hL hD HS hNN
  go_wp2_with fail
  refine (gre_any (N : Int) sa k sc L 64 _ H1.out.1 hks).mono ?_
  rintro _ w3 ⟨v1, rfl, hr1, hk3⟩
  rw [show greE (N : Int) L 64 = 0 from greE_ok (P := 64) HD.out (by omega) (by omega)]
  have H2 : Hid (SeenE w3 sa k L ∧ w3.heap[p]? = some (.cells #[.int .i64 N, .slice sa k sc] 24 (0, 0)) ∧ Keeps None w w3 ∧ w3.ownsRow 0 3 1 v1 N (iv ((List.range N).map (R L)))) := by
    refine ⟨H1.out.1.more hk3, blk_kept H1.out.2.1 hk3 (fun f => f), H1.out.2.2.trans hk3 (fun _ f _ => f), ?_⟩
    rw [show greV (N : Int) L 64 = (List.range N).map (timesV N 64 L) from gre_ok (P := 64) (greE_ok (P := 64) HD.out (by omega) (by omega))] at hr1
    have e : (List.range N).map (timesV N 64 L) = (List.range N).map (R L) := List.map_congr_left (fun i hi => wide_times HD.out N 64 rfl (by omega) i (List.mem_range.1 hi))
    rw [e] at hr1
    have := row_base hr1 (Nat.zero_le _)
    simpa using this
  have d0 : w3.cell? ⟨p, 0, none⟩ = some (.int .i64 N) := (blk_cell H2.out.2.1 0).trans rfl
  have d1 : w3.cell? ⟨p, 1, none⟩ = some (.slice sa k sc) := (blk_cell H2.out.2.1 1).trans rfl
  rw [← hp]
  clear hr1 hk3 H1 hp
  go_wp2_with fail
  refine (ear_any (N : Int) sa k sc L _ H2.out.1 hks).mono ?_
  rintro _ w4 ⟨v2, rfl, hr2, hk4⟩
  rw [dag_check HD.out]
  have H3 : Hid (SeenE w4 sa k L ∧ w4.heap[p]? = some (.cells #[.int .i64 N, .slice sa k sc] 24 (0, 0)) ∧ Keeps None w w4 ∧ w4.ownsRow 0 3 1 v1 N (iv ((List.range N).map (R L))) ∧ w4.ownsRow 0 3 1 v2 N (iv ((List.range N).map (R L)))) := by
    refine ⟨H2.out.1.more hk4, blk_kept H2.out.2.1 hk4 (fun f => f), H2.out.2.2.1.trans hk4 (fun _ f _ => f), row_kept H2.out.2.2.2 hk4 (fun _ _ f => f), ?_⟩
    rw [ear_ok (dag_check HD.out)] at hr2
    have := row_base hr2 (Nat.zero_le _)
    simpa using this
  clear hr2 hk4 H2 d0 d1
  have d0 : w4.cell? ⟨p, 0, none⟩ = some (.int .i64 N) := (blk_cell H3.out.2.1 0).trans rfl
  have d1 : w4.cell? ⟨p, 1, none⟩ = some (.slice sa k sc) := (blk_cell H3.out.2.1 1).trans rfl
  go_wp2_with fail
  refine (gre_any (N : Int) sa k sc L 1 _ H3.out.1 hks).mono ?_
  rintro _ w5 ⟨v3, rfl, hr3, hk5⟩
  rw [show greE (N : Int) L 1 = 0 from greE_ok (P := 1) HD.out (by omega) (by omega)]
  have H4 : Hid (w5.heap[p]? = some (.cells #[.int .i64 N, .slice sa k sc] 24 (0, 0)) ∧ Keeps None w w5 ∧ w5.ownsRow 0 3 1 v1 N (iv ((List.range N).map (R L))) ∧ w5.ownsRow 0 3 1 v2 N (iv ((List.range N).map (R L))) ∧ w5.ownsRow 0 3 1 v3 N (iv ((List.range N).map (fun (i : Nat) => (i : Int) + 1)))) := by
    refine ⟨blk_kept H3.out.2.1 hk5 (fun f => f), H3.out.2.2.1.trans hk5 (fun _ f _ => f), row_kept H3.out.2.2.2.1 hk5 (fun _ _ f => f), row_kept H3.out.2.2.2.2 hk5 (fun _ _ f => f), ?_⟩
    rw [show greV (N : Int) L 1 = (List.range N).map (timesV N 1 L) from gre_ok (P := 1) (greE_ok (P := 1) HD.out (by omega) (by omega))] at hr3
    have e : (List.range N).map (timesV N 1 L) = (List.range N).map (fun (i : Nat) => (i : Int) + 1) := List.map_congr_left (fun i hi => one_times HD.out N rfl i (List.mem_range.1 hi))
    rw [e] at hr3
    have := row_base hr3 (Nat.zero_le _)
    simpa using this
  clear hr3 hk5 H3 d0 d1
  obtain ⟨a1, c1, rfl⟩ := row_shape H4.out.2.2.1
  obtain ⟨a2, c2, rfl⟩ := row_shape H4.out.2.2.2.1
  obtain ⟨a3, c3, rfl⟩ := row_shape H4.out.2.2.2.2
  have d0 : w5.cell? ⟨p, 0, none⟩ = some (.int .i64 N) := (blk_cell H4.out.1 0).trans rfl
  go_wp2_with fail
  go_loopw [12] (fun s12 wr => ∃ i : Nat, s12 = .int .i64 i ∧ i ≤ N ∧ wr = w5) (fun s12 _ => N - (intOf s12).toNat)
  case atStart => exact ⟨0, rfl, Nat.zero_le _, rfl⟩
  case round =>
    obtain ⟨i, rfl, hi, hwr⟩ := hrel
    subst hwr
    by_cases hlt : i < N
    · have i1 : (i : Int) < (N : Int) := by omega
      have n0 : ¬ N = 0 := by omega
      have hx : ((List.range N).map (fun (i : Nat) => (i : Int) + 1))[i]? = some ((i : Int) + 1) := by rw [List.getElem?_map, List.getElem?_range hlt]; rfl
      obtain ⟨g, rfl, e0, _⟩ := row_at H4.out.2.2.2.2 hx
      clear hx
      go_wp2_with fail
      exact ⟨⟨i + 1, by go_num, by omega, trivial⟩, by simp [intOf]; omega⟩
    · have i1 : ¬ (i : Int) < (N : Int) := by omega
      go_wp2_with fail
      refine (same_any _ _ _ _ N _ _ H4.out.2.2.1 H4.out.2.2.2.1 (by omega)).mono ?_
      rintro _ w6 ⟨rfl, hk6⟩
      have HF : Hid (w6.cell? ⟨p, 0, none⟩ = some (.int .i64 N) ∧ Keeps None w w6) := ⟨hk6.cell d0 (fun f => f), H4.out.2.1.trans hk6 (fun _ f _ => f)⟩
      have d2 := HF.out.1
      clear hk6
      go_wp2_with fail
      go_ret
      exact ⟨rfl, HF.out.2⟩
end Go.Proofs.Ytkmopcongjifmaa
