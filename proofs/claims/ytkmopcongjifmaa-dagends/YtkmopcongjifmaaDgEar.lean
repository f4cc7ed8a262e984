import Derived.Test.YtkmopcongjifmaaDgLong
import Derived.Test.YtkmopcongjifmaaDgLaw
/-! Earliest: the program's and the document's; lists compared and spoilt. -/
namespace Go.Proofs.Ytkmopcongjifmaa
set_option linter.unusedVariables false
set_option maxRecDepth 20000
open Go.RowKit Go.HeapKit

def earV (n : Int) (l : List Ed) : List Int := if checkV n l = 0 then (List.range n.toNat).map (R l) else []
theorem ear_ok {n : Nat} {l : List Ed} (h : checkV n l = 0) : earV n l = (List.range n).map (R l) := by
  unfold earV
  rw [if_pos h]
  simp
theorem ear_bad {n : Int} {l : List Ed} (h : ¬ checkV n l = 0) : earV n l = [] := by
  unfold earV
  rw [if_neg h]
theorem ear_len (n : Int) (l : List Ed) : (earV n l).length ≤ 4096 := by
  by_cases h : checkV n l = 0
  · have hd := dag_of h
    have := hd.hi
    unfold earV
    rw [if_pos h]
    simp
    omega
  · rw [ear_bad h]; simp
set_option maxHeartbeats 1600000 in
theorem ear_any (n : Int) (a : Option Addr) (m c : Nat) (l : List Ed) (w : World) (h : SeenE w a m l) (hs : m * 16 ≤ 140737488351232) :
    Calls Try.prog 18 #[dagV n a m c] w fun e w' => ∃ v, e = .returned (.tuple #[v, .int .i64 (checkV n l)]) ∧ w'.ownsRow w.heap.size 3 1 v (earV n l).length (iv (earV n l)) ∧ Keeps None w w' := by
  have HS : Hid (SeenE w a m l) := h
  clear h
  obtain ⟨s0, hs0⟩ : ∃ s0, s0 = w.heap.size := ⟨_, rfl⟩
  have HS0 : Hid (s0 = w.heap.size) := hs0
  unfold dagV
  go_enter Try.func18, Try.ntmps18
  go_wp2_with fail
  have hbox := blk_new w (.cells #[.int .i64 n, .slice a m c] 24) _ rfl
  have hk0 := keeps1 w (.cells #[.int .i64 n, .slice a m c] 24)
  refine (check_any n a m c l _ (HS.out.more hk0) hs).mono ?_
  rintro e w2 ⟨rfl, hk⟩
  rw [← hs0] at hbox ⊢
  have H1 : Hid (w2.heap[s0]? = some (.cells #[.int .i64 n, .slice a m c] 24 (0, 0)) ∧ Keeps None w w2) := ⟨blk_kept hbox hk (fun f => f), hk0.trans hk (fun _ f _ => f)⟩
  have d0 : w2.cell? ⟨s0, 0, none⟩ = some (.int .i64 n) := (blk_cell H1.out.1 0).trans rfl
  have d1 : w2.cell? ⟨s0, 1, none⟩ = some (.slice a m c) := (blk_cell H1.out.1 1).trans rfl
  clear hk0 hbox hk hs0
  by_cases hc : checkV n l = 0
  · have HC : Hid (checkV n l = 0) := hc
    rw [hc]
    have hd := dag_of hc
    obtain ⟨N, rfl⟩ := Int.eq_ofNat_of_zero_le hd.lo
    have HD : Hid (Dag (N : Int) l) := hd
    clear hc hd
    go_wp2_with fail
    refine (longest_any N a m c l _ (HS.out.more H1.out.2) HD.out).mono ?_
    rintro e w3 ⟨g1, g2, B, rfl, hN1, hN2, hB, hg1, hg2, hne, hk⟩
    have HN : Hid (w3.ownsRow w.heap.size 3 1 (.slice (some ⟨g1, 0, none⟩) N N) (earV N l).length (iv (earV N l)) ∧ Keeps None w w3) := by
      refine ⟨?_, H1.out.2.trans hk (fun _ f _ => f)⟩
      have h1 := H1.out.2.size
      have h2 := HD.out.hi
      have := hN1.row w.heap.size (by omega) (by omega)
      rw [ear_ok HC.out]
      simpa using this
    clear hN1 hN2 hB hg1 hg2 hne hk
    go_wp2_with fail
    go_ret2
    exact ⟨_, by rw [HC.out]; rfl, HN.out⟩
  · have HC : Hid (¬ checkV n l = 0) := hc
    have hb : (checkV n l == 0) = false := by simpa using hc
    have HE : Hid (earV n l = []) := ear_bad hc
    have q0 : ¬ checkV n l = 0 := hc
    clear hc
    go_wp2_with fail
    go_ret2
    refine ⟨_, rfl, ?_, H1.out.2⟩
    rw [HE.out]
    exact row_nil _ _ _ _
set_option maxHeartbeats 1600000 in
theorem same_any (v1 v2 : Value) (b1 b2 n : Nat) (l : List Int) (w : World) (h1 : w.ownsRow b1 3 1 v1 n (iv l)) (h2 : w.ownsRow b2 3 1 v2 n (iv l)) (hn : n ≤ 4096) :
    Calls Try.prog 19 #[v1, v2] w fun e w' => e = .returned (.bool true) ∧ Keeps None w w' := by
  obtain ⟨a, c, rfl⟩ := row_shape h1
  obtain ⟨a2, c2, rfl⟩ := row_shape h2
  have HS : Hid (w.ownsRow b1 3 1 (.slice a n c) n (iv l) ∧ w.ownsRow b2 3 1 (.slice a2 n c2) n (iv l)) := ⟨h1, h2⟩
  have hl : Hid (l.length = n) := by have := h1.1; rw [iv_len] at this; show _ = _; omega
  clear h1 h2
  go_enter Try.func19, Try.ntmps19
  go_wp2_with fail
  go_loopw [5] (fun s5 wr => ∃ k : Nat, s5 = .int .i64 k ∧ k ≤ n ∧ Keeps None w wr) (fun s5 _ => n - (intOf s5).toNat)
  case atStart => exact ⟨0, rfl, Nat.zero_le _, Keeps.refl _ _⟩
  case round =>
    obtain ⟨k, rfl, hk, hkp⟩ := hrel
    by_cases hkn : k < n
    · have hx : l[k]? = some (l[k]'(by have := hl.out; omega)) := List.getElem?_eq_getElem _
      obtain ⟨g, rfl, e0, _⟩ := row_at (row_kept HS.out.1 hkp (fun _ _ f => f)) hx
      obtain ⟨g2, rfl, e1, _⟩ := row_at (row_kept HS.out.2 hkp (fun _ _ f => f)) hx
      generalize l[k]'(by have := hl.out; omega) = x at e0 e1
      have m0 : ¬ n = 0 := by omega
      have i1 : (k : Int) < (n : Int) := by omega
      have HN : Hid (Keeps None w wr) := hkp
      clear hkp hx HS
      go_wp2_with fail
      go_quiet (fail)
      all_goals go_wp2_with fail
      all_goals (refine ⟨⟨k + 1, by go_num, by omega, ?_⟩, by simp [intOf]; omega⟩; exact HN.out.trans (Keeps.drewN None _ _) (fun _ f _ => f))
    · have i1 : ¬ (k : Int) < (n : Int) := by omega
      go_wp2_with fail
      go_ret
      exact ⟨rfl, hkp⟩
theorem iv_set (l : List Int) (k : Nat) (x : Int) : (iv l).set k (.int .i64 x) = iv (l.set k x) := by simp [iv, List.map_set]
set_option maxHeartbeats 1600000 in
theorem spoilt_any (v : Value) (base n : Nat) (l : List Int) (w : World) (h : w.ownsRow base 3 1 v n (iv l)) (hb : base ≤ w.heap.size) (hn : n ≤ 4096) :
    Calls Try.prog 20 #[v] w fun e w' => ∃ a c, e = .returned (.slice a (n + 1) c) ∧ Keeps (fun q => base ≤ q) w w' := by
  obtain ⟨a, c, rfl⟩ := row_shape h
  have HS : Hid (w.ownsRow base 3 1 (.slice a n c) n (iv l)) := h
  have hl : Hid (l.length = n) := by have := h.1; rw [iv_len] at this; show _ = _; omega
  clear h
  go_enter Try.func20, Try.ntmps20
  go_wp2_with fail
  go_loopw [3] (fun s3 wr => ∃ (k : Nat) (l' : List Int), s3 = .int .i64 k ∧ k ≤ n ∧ l'.length = n ∧ wr.ownsRow base 3 1 (.slice a n c) n (iv l') ∧ Keeps (fun q => base ≤ q) w wr) (fun s3 _ => n - (intOf s3).toNat)
  case atStart => exact ⟨0, l, rfl, Nat.zero_le _, hl.out, HS.out, Keeps.refl _ _⟩
  case round =>
    obtain ⟨k, l', rfl, hk, hl', hrow, hkp⟩ := hrel
    by_cases hkn : k < n
    · obtain ⟨g, rfl, e0, z0⟩ := row_at hrow (List.getElem?_eq_getElem (by omega : k < l'.length))
      generalize l'[k]'(by omega) = x at e0
      have m0 : ¬ n = 0 := by omega
      have i1 : (k : Int) < (n : Int) := by omega
      have hr2 := row_set hrow k (.int .i64 (-1 - k))
      rw [iv_set] at hr2
      have HN : Hid (∃ l' : List Int, l'.length = n ∧ (wr.setCell ⟨g, k, none⟩ (.int .i64 (-1 - k))).ownsRow base 3 1 (.slice (some ⟨g, 0, none⟩) n c) n (iv l') ∧ Keeps (fun q => base ≤ q) w (wr.setCell ⟨g, k, none⟩ (.int .i64 (-1 - k)))) :=
        ⟨_, by simpa using hl', hr2, hkp.andSet (x := ⟨g, k, none⟩) (.inl (row_low hrow rfl)) _⟩
      clear hrow hkp hr2 hl' HS
      go_wp2_with fail
      obtain ⟨l2, h1, h2, h3⟩ := HN.out
      exact ⟨⟨k + 1, l2, by go_num, by omega, h1, h2, h3⟩, by simp [intOf]; omega⟩
    · have i1 : ¬ (k : Int) < (n : Int) := by omega
      obtain ⟨g, cap, w2, hr, ho, hk2, hm⟩ := int_more base (.slice a n c) l' (-100) n 33 wr.heap.size (wr.alloc (.cells #[.int .i64 (-100)] 3)) hl'.symm (row_kept hrow (Keeps.alloc None wr _) (fun _ _ f => f)) (by have := hkp.size; simp; omega) (by omega) (blk_new _ _ _ rfl)
      have HN : Hid (Keeps (fun q => base ≤ q) w w2) := (hkp.andAlloc _).trans hk2 (fun i e _ => row_low hrow e)
      clear hrow hkp ho hk2 hm hl' HS
      go_wp2_with (at_builtin; refine wpList_append_run rfl (.tmp 15) (.tmp 16) 33 33 rfl rfl rfl hr ?_)
      go_ret
      first | exact ⟨_, _, rfl, HN.out⟩ | exact ⟨⟨_, _, rfl⟩, HN.out⟩
end Go.Proofs.Ytkmopcongjifmaa
