import Derived.Test.YtifhaomjobjjnaaRcPlaces
/-! The document's places and Orders. -/
namespace Go.Proofs.Ytifhaomjobjjnaa
set_option linter.unusedVariables false
set_option maxRecDepth 20000
set_option linter.unusedSimpArgs false
open Go.RowKit Go.HeapKit

def atV (L : List Nat) (k : Nat) : Nat → Int := fun v => if L.idxOf v < k then (L.idxOf v : Int) else -1
set_option maxHeartbeats 1600000 in
theorem places_ok (n : Nat) (v : Value) (L : List Nat) (base : Nat) (w : World) (h : RowZ w base v (natZ L)) (hl : L.length = n) (hnd : L.Nodup) (hall : ∀ a ∈ L, a < n) (hn : n ≤ 4096) :
    Calls Try.prog 38 #[v, .int .i64 n] w fun e w' => ∃ P, e = .returned (.tuple #[.slice (some ⟨P, 0, none⟩) n n, .bool true]) ∧ w.heap.size ≤ P ∧ w'.heap[P]? = some (.cells (numsA n (atV L n)) 3 (0, 0)) ∧ Keeps None w w' := by
  obtain ⟨a, c, rfl, ha⟩ := h.shape
  rw [natZ_len, hl] at ha
  have HH : Hid (RowZ w base (.slice a (natZ L).length c) (natZ L) ∧ L.length = n ∧ L.Nodup ∧ (∀ a ∈ L, a < n)) := ⟨h, hl, hnd, hall⟩
  have hln : (natZ L).length = n := by rw [natZ_len, hl]
  rw [hln]
  have hmk := make_nums n n (Nat.le_refl _) w (by omega)
  have b1 := heap_alloc_new w (.cells (numsA n (fun _ => 0)) 3)
  have k1 := Keeps.alloc None w (.cells (numsA n (fun _ => 0)) 3)
  obtain ⟨w1, hw1⟩ : ∃ w1, w1 = w.alloc (.cells (numsA n (fun _ => 0)) 3) := ⟨_, rfl⟩
  obtain ⟨P, hP⟩ : ∃ P, P = w.heap.size := ⟨_, rfl⟩
  rw [← hw1] at hmk b1 k1
  rw [← hP] at hmk b1
  have HP : Hid (P = w.heap.size) := hP
  have H1 : Hid (w1.heap[P]? = some (.cells (numsA n (fun _ => 0)) 3 (0, 0)) ∧ Keeps None w w1) := ⟨b1, k1⟩
  clear hw1 hP b1 k1 h hl hnd hall hln
  go_enter Try.func38, Try.ntmps38
  go_wp2_with (at_make; refine wpList_make_run rfl (.tmp 9) (.tmp 9) 33 rfl rfl rfl hmk ?_)
  clear hmk
  go_loopw [7] (fun i wr => ∃ (k : Nat) (N : Nat → Int), k ≤ n ∧ i = .int .i64 k ∧ wr.heap[P]? = some (.cells (numsA n N) 3 (0, 0)) ∧ (∀ j, j < k → N j = -1) ∧ Keeps None w wr) (fun i _ => n - (intOf i).toNat)
  case atStart => exact ⟨0, _, Nat.zero_le _, rfl, H1.out.1, fun j hj => by omega, H1.out.2⟩
  case round =>
    clear H1
    obtain ⟨k, N, hk, rfl, hb, hN, hkp⟩ := hrel
    by_cases hkn : k < n
    · have c0 : wr.cell? ⟨P, k, none⟩ = some (.int .i64 (N k)) := (cell_of_heap hb k).trans (nums_at _ _ hkn)
      have f0 := blk_free hb k
      have b2 := blk_set (i := k) hb (.int .i64 (-1))
      rw [nums_set] at b2
      have HN : Hid ((wr.setCell ⟨P, k, none⟩ (.int .i64 (-1))).heap[P]? = some (.cells (numsA n (upd N k (-1))) 3 (0, 0)) ∧ (∀ j, j < k + 1 → upd N k (-1) j = -1) ∧ Keeps None w (wr.setCell ⟨P, k, none⟩ (.int .i64 (-1)))) := by
        refine ⟨b2, fun j hj => ?_, hkp.andSet (x := ⟨P, k, none⟩) (.inr (by rw [HP.out]; exact Nat.le_refl _)) _⟩
        by_cases e : j = k
        · subst e; exact upd_eq _ _ _
        · rw [upd_ne e]; exact hN j (by omega)
      have i1 : (k : Int) < (n : Int) := by omega
      clear hb hN hkp b2
      go_wp2
      go_roundw
      case rel => exact ⟨k + 1, _, by omega, by go_num, HN.out⟩
      case measure => simp [intOf]; omega
    · have hkn2 : k = n := by omega
      subst hkn2
      have H2 : Hid (wr.heap[P]? = some (.cells (numsA k N) 3 (0, 0)) ∧ (∀ j, j < k → N j = atV L 0 j) ∧ Keeps None w wr) := ⟨hb, fun j hj => by rw [hN j hj]; unfold atV; rw [if_neg (by omega)], hkp⟩
      clear hb hN hkp
      go_wp2_with fail
      go_loopw [8] (fun i wm => ∃ (q : Nat) (N2 : Nat → Int), q ≤ k ∧ i = .int .i64 q ∧ wm.heap[P]? = some (.cells (numsA k N2) 3 (0, 0)) ∧ (∀ j, j < k → N2 j = atV L q j) ∧ Keeps None w wm) (fun i _ => k - (intOf i).toNat)
      case atStart => exact ⟨0, N, Nat.zero_le _, rfl, H2.out⟩
      case round =>
        clear H2
        obtain ⟨q, N2, hq, rfl, hb, hN, hkp⟩ := hrel
        by_cases hqn : q < k
        · obtain ⟨g, rfl⟩ := ha (by omega)
          obtain ⟨hR, hl, hnd, hall⟩ := HH.out
          obtain ⟨x, hx⟩ : ∃ x, L[q]? = some x := ⟨L[q]'(by omega), by simp⟩
          have hxk : x < k := hall x (List.mem_of_getElem? hx)
          have hid : L.idxOf x = q := by
            have h1 : L[q]'(by omega) = x := (List.getElem?_eq_some_iff.1 hx).2
            rw [← h1]
            exact hnd.idxOf_getElem q (by omega)
          obtain ⟨cl, _, hbg⟩ := (hR.more hkp).at (k := q) (x := (x : Int)) (by simp [natZ, hx])
          have c0 : wr.cell? ⟨P, x, none⟩ = some (.int .i64 (-1)) := ((cell_of_heap hb x).trans (nums_at _ _ hxk)).trans (by rw [hN x hxk]; unfold atV; rw [if_neg (by omega)])
          have f0 := blk_free hb x
          have b2 := blk_set (i := x) hb (.int .i64 q)
          rw [nums_set] at b2
          have HN : Hid ((wr.setCell ⟨P, x, none⟩ (.int .i64 q)).heap[P]? = some (.cells (numsA k (upd N2 x q)) 3 (0, 0)) ∧ (∀ j, j < k → upd N2 x q j = atV L (q + 1) j) ∧ Keeps None w (wr.setCell ⟨P, x, none⟩ (.int .i64 q))) := by
            refine ⟨b2, fun j hj => ?_, hkp.andSet (x := ⟨P, x, none⟩) (.inr (by rw [HP.out]; exact Nat.le_refl _)) _⟩
            by_cases e : j = x
            · subst e; rw [upd_eq]; unfold atV; rw [hid, if_pos (by omega)]
            · rw [upd_ne e, hN j hj]
              unfold atV
              have hne : L.idxOf j ≠ q := fun e2 => by
                by_cases hm : j ∈ L
                · have := idx_inj hm (e2.trans hid.symm)
                  exact e this
                · rw [List.idxOf_eq_length hm] at e2
                  omega
              by_cases h3 : L.idxOf j < q
              · rw [if_pos h3, if_pos (by omega)]
              · rw [if_neg h3, if_neg (by omega)]
          have i1 : (q : Int) < (k : Int) := by omega
          have i2 : (x : Int) < (k : Int) := by omega
          have i3 : ¬ (x : Int) < 0 := by omega
          clear hb hN hkp b2 hR hl hnd hall hx hid ha
          go_wp2
          go_roundw
          case rel => exact ⟨q + 1, _, by omega, by go_num, HN.out⟩
          case measure => simp [intOf]; omega
        · have hqn2 : q = k := by omega
          subst hqn2
          have HN : Hid (w.heap.size ≤ P ∧ wr.heap[P]? = some (.cells (numsA q (atV L q)) 3 (0, 0)) ∧ Keeps None w wr) := by
            refine ⟨by rw [HP.out]; exact Nat.le_refl _, ?_, hkp⟩
            have e : numsA q N2 = numsA q (atV L q) := by
              unfold numsA
              congr 1
              apply List.map_congr_left
              intro j hj
              rw [hN j (by simpa using hj)]
            rw [← e]
            exact hb
          clear hb hN hkp ha
          go_wp2
          go_ret2
          exact ⟨P, rfl, HN.out⟩
theorem atV_in {L : List Nat} {n v : Nat} (hl : L.length = n) (hv : v ∈ L) : atV L n v = (L.idxOf v : Int) := by
  unfold atV
  rw [if_pos (by have := List.idxOf_lt_length_iff.2 hv; omega)]
theorem idx_range {n v : Nat} (hv : v < n) : (List.range n).idxOf v = v := by
  have h := (List.nodup_range (n := n)).idxOf_getElem v (by simpa using hv)
  simpa using h
set_option maxHeartbeats 4000000 in
theorem rorders_ok (a : Option Addr) (n c : Nat) (l : List Dd) (v1 v2 : Value) (base : Nat) (w : World) (hS : Seen w a n l) (h1 : RowZ w base v1 (natZ (ord1 l))) (h2 : RowZ w base v2 (natZ (ord2 l))) :
    Calls Try.prog 18 #[.slice a n c, v1, v2, .int .i64 (chkE l)] w fun e w' => e = .returned (.bool true) ∧ Keeps None w w' := by
  have HS : Hid (Seen w a n l) := hS
  have HLen : Hid (n = l.length) := hS.len
  have HV : Hid (RowZ w base v1 (natZ (ord1 l)) ∧ RowZ w base v2 (natZ (ord2 l))) := ⟨h1, h2⟩
  obtain ⟨a1, c1, e1, _⟩ := h1.shape
  obtain ⟨a2, c2, e2, _⟩ := h2.shape
  obtain ⟨E, hE⟩ : ∃ E, E = chkE l := ⟨_, rfl⟩
  rw [← hE]
  have HE : Hid (chkE l = E) := hE.symm
  obtain ⟨n1, hn1⟩ : ∃ n1, n1 = (natZ (ord1 l)).length := ⟨_, rfl⟩
  obtain ⟨n2, hn2'⟩ : ∃ n2, n2 = (natZ (ord2 l)).length := ⟨_, rfl⟩
  rw [← hn1] at e1
  rw [← hn2'] at e2
  subst e1 e2
  have HNN : Hid (n1 = (natZ (ord1 l)).length ∧ n2 = (natZ (ord2 l)).length) := ⟨hn1, hn2'⟩
  clear hS h1 h2 hE hn1 hn2'
  go_enter Try.func18, Try.ntmps18
  go_upto_region 2 with (go_at_call 11; refine Calls.mono (rcheck_raw a n c l w HS.out) ?_; rintro _ w1 ⟨rfl, hk1⟩)
  obtain ⟨A1, hA1⟩ : ∃ A1, A1 = chkA l := ⟨_, rfl⟩
  rw [HE.out, ← hA1]
  have b2 := heap_alloc_new w1 (.cells #[.int .i64 E, .int .i64 A1] 26)
  have k2 := hk1.andAlloc (.cells #[.int .i64 E, .int .i64 A1] 26)
  obtain ⟨w2, hw2⟩ : ∃ w2, w2 = w1.alloc (.cells #[.int .i64 E, .int .i64 A1] 26) := ⟨_, rfl⟩
  obtain ⟨B, hB⟩ : ∃ B, B = w1.heap.size := ⟨_, rfl⟩
  rw [← hw2] at b2 k2
  rw [← hB] at b2
  rw [← hw2, ← hB]
  have g0 : w2.cell? ⟨B, 0, none⟩ = some (.int .i64 E) := cell_of_heap b2 0
  have HK : Hid (Keeps None w w2) := k2
  clear b2 k2 hw2 hB hA1 hk1
  by_cases hE0 : E = 0
  · subst hE0
    obtain ⟨hn, hf⟩ := chk_fine HE.out
    have hn2 : n ≤ 4096 := by rw [HLen.out]; exact hn
    obtain ⟨d, _, _, hI⟩ := hf.at n (by rw [HLen.out]; exact Nat.le_refl _)
    have o1 : ord1 l = List.range n := by unfold ord1; rw [if_pos HE.out, HLen.out]
    have o2 : ord2 l = Lof (stN l n) := by unfold ord2; rw [if_pos HE.out, HLen.out]
    have hlL := lof_len hI
    have z1 : n1 = n := by rw [HNN.out.1, o1, natZ_len]; simp
    have z2 : n2 = n := by rw [HNN.out.2, o2, natZ_len, hlL]
    rw [z1, z2, o1, o2] at HV
    rw [z1, z2]
    have HF : Hid (Fine l ∧ Inv l n) := ⟨hf, hI⟩
    have HP1 : Hid (∀ w', Keeps None w2 w' → Calls Try.prog 38 #[.slice a1 n c1, .int .i64 n] w' fun e w'' => ∃ P, e = .returned (.tuple #[.slice (some ⟨P, 0, none⟩) n n, .bool true]) ∧ w'.heap.size ≤ P ∧ w''.heap[P]? = some (.cells (numsA n (atV (List.range n) n)) 3 (0, 0)) ∧ Keeps None w' w'') := fun w' hk => places_ok n _ (List.range n) base w' (HV.out.1.more (HK.out.trans hk (fun _ f _ => f))) (by simp) List.nodup_range (fun a ha => by simpa using ha) hn2
    have HP2 : Hid (∀ w', Keeps None w2 w' → Calls Try.prog 38 #[.slice a2 n c2, .int .i64 n] w' fun e w'' => ∃ P, e = .returned (.tuple #[.slice (some ⟨P, 0, none⟩) n n, .bool true]) ∧ w'.heap.size ≤ P ∧ w''.heap[P]? = some (.cells (numsA n (atV (Lof (stN l n)) n)) 3 (0, 0)) ∧ Keeps None w' w'') := fun w' hk => places_ok n _ (Lof (stN l n)) base w' (HV.out.2.more (HK.out.trans hk (fun _ f _ => f))) hlL hI.nd (fun a ha => (hI.all a).1 ha) hn2
    clear hn hf hI o1 o2 hlL z1 z2 HNN
    go_wp2_with fail
    refine (HP1.out w2 (Keeps.refl _ _)).mono ?_
    rintro _ w3 ⟨P1, rfl, _, hp1, hk3⟩
    have H3 : Hid (w3.heap[P1]? = some (.cells (numsA n (atV (List.range n) n)) 3 (0, 0)) ∧ Keeps None w2 w3) := ⟨hp1, hk3⟩
    clear hp1 hk3 HP1
    go_wp2_with fail
    refine (HP2.out w3 H3.out.2).mono ?_
    rintro _ w4 ⟨P2, rfl, _, hp2, hk4⟩
    have H4 : Hid (w4.heap[P1]? = some (.cells (numsA n (atV (List.range n) n)) 3 (0, 0)) ∧ w4.heap[P2]? = some (.cells (numsA n (atV (Lof (stN l n)) n)) 3 (0, 0)) ∧ Keeps None w w4) := ⟨blk_kept H3.out.1 hk4 (fun f => f), hp2, (HK.out.trans H3.out.2 (fun _ f _ => f)).trans hk4 (fun _ f _ => f)⟩
    clear hp2 hk4 HP2 H3
    go_wp2_with fail
    refine (before_ok a n c l w4 (HS.out.more H4.out.2.2) HF.out.1 hn2).mono ?_
    rintro _ w5 ⟨G, R, M, rfl, hB, hSy, hk5⟩
    have p1 : ∀ i, i < n → w5.cell? ⟨P1, i, none⟩ = some (.int .i64 (i : Int)) := fun i hi => ((cell_of_heap (blk_kept H4.out.1 hk5 (fun f => f)) i).trans (nums_at _ _ hi)).trans (by rw [atV_in (by simp) (by simpa using hi), idx_range hi])
    have p2 : ∀ i, i < n → w5.cell? ⟨P2, i, none⟩ = some (.int .i64 ((Lof (stN l n)).idxOf i : Nat)) := fun i hi => ((cell_of_heap (blk_kept H4.out.2.1 hk5 (fun f => f)) i).trans (nums_at _ _ hi)).trans (by rw [atV_in (lof_len HF.out.2) ((HF.out.2.all i).2 hi)])
    have gi : ∀ i, i < n → w5.cell? ⟨G, i, none⟩ = some (.slice (some ⟨R i, 0, none⟩) n n) := fun i hi => ((cell_of_heap hB.out i).trans (outB_at hi)).trans (by unfold vsB; rw [if_pos hi])
    have ri : ∀ i j, i < n → j < n → w5.cell? ⟨R i, j, none⟩ = some (.bool (M i j)) := fun i j hi hj => (cell_of_heap (hB.row i hi) j).trans (bools_at _ _ hj)
    have hM : ∀ i j, i < n → j < n → (M j i = true ↔ (i < j ∧ (Lof (stN l n)).idxOf i < (Lof (stN l n)).idxOf j)) := fun i j hi hj => (hSy j hj i hi).trans (HF.out.2.ah j hj i)
    have HC : Hid _ := p1
    have HC2 : Hid _ := p2
    have HC3 : Hid _ := gi
    have HC4 : Hid _ := ri
    have HM : Hid _ := hM
    have H5 : Hid (Keeps None w w5) := H4.out.2.2.trans hk5 (fun _ f _ => f)
    clear p1 p2 gi ri hM hB hSy hk5 H4 HF HV
    go_wp2_with fail
    go_loopw [16, 17, 18] (fun s16 _ _ wr => ∃ i m : Nat, i ≤ n ∧ s16 = .int .i64 i ∧ wr = w5.drewN m) (fun s16 _ _ _ => n - (intOf s16).toNat)
    case atStart => exact ⟨0, 0, Nat.zero_le _, rfl, rfl⟩
    case round =>
      obtain ⟨i, m, hi, rfl, rfl⟩ := hrel
      by_cases hin : i < n
      · have i1 : (i : Int) < (n : Int) := by omega
        go_wp2_with fail
        go_loopw [17, 18] (fun s17 _ wr => ∃ j m2 : Nat, j ≤ n ∧ s17 = .int .i64 j ∧ wr = w5.drewN m2) (fun s17 _ _ => n - (intOf s17).toNat)
        case atStart => exact ⟨0, m, Nat.zero_le _, rfl, rfl⟩
        case round =>
          obtain ⟨j, m2, hj, rfl, rfl⟩ := hrel
          by_cases hjn : j < n
          · have j1 : (j : Int) < (n : Int) := by omega
            have x1 := HC.out i hin
            have x2 := HC.out j hjn
            have x3 := HC2.out i hin
            have x4 := HC2.out j hjn
            have x5 := HC3.out j hjn
            have x6 := HC4.out j i hjn hin
            have hiff := HM.out i j hin hjn
            obtain ⟨qi, hqi⟩ : ∃ qi, qi = (Lof (stN l n)).idxOf i := ⟨_, rfl⟩
            obtain ⟨qj, hqj⟩ : ∃ qj, qj = (Lof (stN l n)).idxOf j := ⟨_, rfl⟩
            rw [← hqi] at x3 hiff
            rw [← hqj] at x4 hiff
            have HFIN : Hid (j ≤ n) := hj
            by_cases hij : i = j
            · subst hij
              clear hiff hqi hqj
              go_wp2
              go_quiet (fail)
              go_wp2
              go_roundw
              case rel => exact ⟨i + 1, _, by omega, by go_num, rfl⟩
              case measure => simp [intOf]; omega
            · clear hqi hqj
              have hne : ¬ (i : Int) = (j : Int) := by omega
              by_cases hlt : i < j
              · have l1 : (i : Int) < (j : Int) := by omega
                by_cases hq : qi < qj
                · have l2 : (qi : Int) < (qj : Int) := by omega
                  rw [hiff.2 ⟨hlt, hq⟩] at x6
                  clear hiff
                  go_wp2
                  go_quiet (fail)
                  go_wp2
                  go_roundw
                  case rel => exact ⟨j + 1, _, by omega, by go_num, rfl⟩
                  case measure => simp [intOf]; omega
                · have l2 : ¬ (qi : Int) < (qj : Int) := by omega
                  have hf : M j i = false := by
                    cases hb : M j i with
                    | false => rfl
                    | true => exact absurd (hiff.1 hb).2 hq
                  rw [hf] at x6
                  clear hiff hf
                  go_wp2
                  go_quiet (fail)
                  go_wp2
                  go_roundw
                  case rel => exact ⟨j + 1, _, by omega, by go_num, rfl⟩
                  case measure => simp [intOf]; omega
              · have l1 : ¬ (i : Int) < (j : Int) := by omega
                have hf : M j i = false := by
                  cases hb : M j i with
                  | false => rfl
                  | true => exact absurd (hiff.1 hb).1 hlt
                rw [hf] at x6
                clear hiff hf
                go_wp2
                go_quiet (fail)
                go_wp2
                go_roundw
                case rel => exact ⟨j + 1, _, by omega, by go_num, rfl⟩
                case measure => simp [intOf]; omega
          · go_wp2
            go_roundw
            case rel => exact ⟨i + 1, _, by omega, by go_num, rfl⟩
            case measure => simp [intOf]; omega
      · go_wp2
        go_ret
        exact ⟨rfl, H5.out.trans (keeps_drewN _ m) (fun _ f _ => f)⟩
  · have z1 : n1 = 0 := by rw [HNN.out.1]; unfold ord1; rw [if_neg (fun h => hE0 (HE.out.symm.trans h))]; rfl
    have z2 : n2 = 0 := by rw [HNN.out.2]; unfold ord2; rw [if_neg (fun h => hE0 (HE.out.symm.trans h))]; rfl
    subst z1 z2
    go_wp2
    go_ret
    exact ⟨rfl, HK.out⟩
end Go.Proofs.Ytifhaomjobjjnaa
