import Derived.Test.YtolhojagbiaamaaRcFirst
/-! parentsFirst, swapped, serially. -/
namespace Go.Proofs.Ytolhojagbiaamaa
set_option linter.unusedVariables false
set_option maxRecDepth 20000
set_option linter.unusedSimpArgs false
open Go.RowKit Go.HeapKit

theorem lof_len {ds : List Dd} {n : Nat} (h : Inv ds n) : (Lof (stN ds n)).length = n := by
  have hp : (Lof (stN ds n)).Perm (List.range n) := by
    rw [List.perm_ext_iff_of_nodup h.nd List.nodup_range]
    intro a
    rw [h.all a, List.mem_range]
  simpa using hp.length_eq
set_option maxHeartbeats 1600000 in
theorem parentsFirst_ok (a : Option Addr) (n c : Nat) (l : List Dd) (w : World) (hS : Seen w a n l) (hf : Fine l) (hn : n ≤ 4096) :
    Calls Try.prog 35 #[.slice a n c] w fun e w' => ∃ g c, e = .returned (.slice (some ⟨g, 0, none⟩) n c) ∧ w'.ownsRow w.heap.size 3 1 (.slice (some ⟨g, 0, none⟩) n c) n (ivN (Lof (stN l n))) ∧ Keeps None w w' := by
  have HS : Hid (Seen w a n l ∧ Fine l) := ⟨hS, hf⟩
  have hlen : Hid (n = l.length) := hS.len
  clear hS hf
  go_enter Try.func35, Try.ntmps35
  go_wp2_with (go_at_call 43; refine Calls.mono (newRow_ok n l w hn) ?_; rintro _ w1 ⟨R, rfl, hR1, hk1⟩)
  have H1 : Hid (RowK w1 w.heap.size R n l 0 ∧ Keeps None w w1) := ⟨hR1, hk1⟩
  clear hR1 hk1
  go_loopw [4, 5, 11] (fun _ _ i wr => ∃ k : Nat, k ≤ n ∧ i = .int .i64 k ∧ RowK wr w.heap.size R n l k ∧ Keeps None w wr) (fun _ _ i _ => n - (intOf i).toNat)
  case atStart => exact ⟨0, Nat.zero_le _, rfl, H1.out⟩
  case round =>
    clear H1
    obtain ⟨k, hk, rfl, hrow, hkp⟩ := hrel
    by_cases hkn : k < n
    · obtain ⟨b, off, x, rfl, hb, hx, u0, u1⟩ := (HS.out.1.more hkp).elem hkn
      have i1 : (k : Int) < (n : Int) := by omega
      have kA := Keeps.alloc None wr (.cells #[.int .i64 x.k, .int .i64 x.loc] 51)
      have HC : Hid _ := add_any (wr.alloc (.cells #[.int .i64 x.k, .int .i64 x.loc] 51)) w.heap.size R n k l x hx HS.out.2 hlen.out hn (hrow.more kA) (by have := hkp.size; simp; omega)
      have HK : Hid (Keeps None w (wr.alloc (.cells #[.int .i64 x.k, .int .i64 x.loc] 51))) := hkp.andAlloc _
      clear hrow hkp hx kA
      go_wp2_with (go_at_call 44; refine Calls.mono HC.out ?_; rintro _ w4 ⟨rfl, hR4, hk4⟩)
      go_roundw
      case rel => exact ⟨k + 1, by omega, by go_num, hR4, HK.out.trans hk4 (fun i e hi => by omega)⟩
      case measure => simp [intOf]; omega
    · have hkn2 : k = n := by omega
      subst hkn2
      obtain ⟨N, gN, gA, cap, hM, hL⟩ := hrow
      obtain ⟨d, _, _, hI⟩ := HS.out.2.at k (by rw [← hlen.out]; exact Nat.le_refl _)
      have HC : Hid _ := order_ok wr w.heap.size R k gN gA cap N _ (Lof (stN l k)) hM hL (lof_len hI) (fun a ha => (hI.all a).1 ha) hn
      have HK : Hid (Keeps None w wr) := hkp
      clear hM hL hI hkp
      go_wp2_with (go_at_call 45; refine Calls.mono HC.out ?_; rintro _ w4 ⟨g, c4, rfl, hr4, hk4⟩)
      go_ret
      exact ⟨_, _, rfl, row_base hr4 HK.out.size, HK.out.trans hk4 (fun _ f _ => f)⟩
/-- A number of a row, as it is read. -/
theorem ints_at {w : World} {base g n c k : Nat} {L : List Nat} {x : Nat} (h : w.ownsRow base 3 1 (.slice (some ⟨g, 0, none⟩) n c) n (ivN L)) (hx : L[k]? = some x) : w.cell? ⟨g, k, none⟩ = some (.int .i64 x) := by
  have hlen : L.length = n := by have := h.1; rw [ivN_len] at this; omega
  have hk := (List.getElem?_eq_some_iff.1 hx).1
  rcases h.2 with ⟨_, h1⟩ | ⟨g', cap, cur, hv, hbg, hg, hnc, hcm, hcs, htake⟩
  · omega
  · injection hv with e1 e2 e3
    injection e1 with e1
    injection e1 with e1
    subst e1 e3
    have hv : (ivN L)[k]? = some (.int .i64 x) := by simp [ivN, hx]
    rw [blk_cell hg]
    rw [← htake, List.getElem?_take] at hv
    split at hv
    · simpa using hv
    · cases hv
theorem idx_at {L : List Nat} {x k : Nat} (h : ∀ j, j < k → L[j]? ≠ some x) (hx : L[k]? = some x) : L.idxOf x = k := by
  induction L generalizing k with
  | nil => simp at hx
  | cons y L ih =>
    cases k with
    | zero => simp at hx; subst hx; simp
    | succ k =>
      have hne : y ≠ x := fun e => h 0 (by omega) (by simp [e])
      rw [List.idxOf_cons, show (y == x) = false by simpa using hne]
      simp only [cond_false]
      rw [ih (k := k) (fun j hj => by have := h (j + 1) (by omega); simpa using this) (by simpa using hx)]
set_option maxHeartbeats 1600000 in
theorem index_ok (g n c base : Nat) (L : List Nat) (x : Nat) (w : World) (h : w.ownsRow base 3 1 (.slice (some ⟨g, 0, none⟩) n c) n (ivN L)) (hx : x ∈ L) (hn : n ≤ 4096) :
    Calls Try.prog 42 #[.slice (some ⟨g, 0, none⟩) n c, .int .i64 x] w fun e w' => e = .returned (.int .i64 (L.idxOf x : Nat)) ∧ w' = w := by
  have HH : Hid (w.ownsRow base 3 1 (.slice (some ⟨g, 0, none⟩) n c) n (ivN L) ∧ x ∈ L) := ⟨h, hx⟩
  have hlen : L.length = n := by have := h.1; rw [ivN_len] at this; omega
  have HLen : Hid (L.length = n) := hlen
  clear h hx hlen
  go_enter Try.func42, Try.ntmps42
  go_wp2_with fail
  go_loopw [5, 8] (fun _ i wr => ∃ k : Nat, k ≤ n ∧ i = .int .i64 k ∧ (∀ j, j < k → L[j]? ≠ some x) ∧ wr = w) (fun _ i _ => n - (intOf i).toNat)
  case atStart => exact ⟨0, Nat.zero_le _, rfl, fun j hj => by omega, rfl⟩
  case round =>
    obtain ⟨k, hk, rfl, hno, hwr⟩ := hrel
    subst hwr
    by_cases hkn : k < n
    · obtain ⟨b, hb⟩ : ∃ b, L[k]? = some b := ⟨L[k]'(by have := HLen.out; omega), by simp⟩
      have cb := ints_at HH.out.1 hb
      have i1 : (k : Int) < (n : Int) := by omega
      by_cases hbx : b = x
      · subst hbx
        have HI : Hid (L.idxOf b = k) := idx_at hno hb
        clear hno hb HH
        go_wp2
        go_ret
        exact ⟨by rw [HI.out]; rfl, rfl⟩
      · have hne : ¬ (x : Int) = (b : Int) := by omega
        have HN : Hid (∀ j, j < k + 1 → L[j]? ≠ some x) := by
          intro j hj e
          by_cases hjk : j = k
          · subst hjk; rw [hb] at e; injection e with e; exact hbx e
          · exact hno j (by omega) e
        clear hno hb hbx
        go_wp2
        go_roundw
        case rel => exact ⟨k + 1, by omega, by go_num, HN.out, trivial⟩
        case measure => simp [intOf]; omega
    · exfalso
      obtain ⟨j, hj⟩ := List.getElem?_of_mem HH.out.2
      have := (List.getElem?_eq_some_iff.1 hj).1
      exact hno j (by have := HLen.out; omega) hj
set_option maxHeartbeats 1600000 in
theorem swapped_ok (g n c base : Nat) (L : List Nat) (lo hi : Nat) (w : World) (h : w.ownsRow base 3 1 (.slice (some ⟨g, 0, none⟩) n c) n (ivN L)) (hlo : lo ∈ L) (hhi : hi ∈ L) (hn : n ≤ 4096) :
    Calls Try.prog 34 #[.slice (some ⟨g, 0, none⟩) n c, .int .i64 lo, .int .i64 hi] w fun e w' => e = .returned (.bool (decide (L.idxOf hi < L.idxOf lo))) ∧ w' = w := by
  have H1 : Hid _ := index_ok g n c base L hi w h hhi hn
  have H2 : Hid _ := index_ok g n c base L lo w h hlo hn
  clear h hlo hhi
  go_enter Try.func34, Try.ntmps34
  go_wp2_with fail
  refine Calls.mono H1.out ?_
  rintro e w1 ⟨rfl, hw1⟩
  have hw1' := hw1.symm
  subst hw1'
  go_wp2_with fail
  refine Calls.mono H2.out ?_
  rintro e w2 ⟨rfl, hw2⟩
  have hw2' := hw2.symm
  subst hw2'
  go_wp2
  go_ret
  exact ⟨rfl, rfl⟩
end Go.Proofs.Ytolhojagbiaamaa
