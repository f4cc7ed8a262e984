import Derived.Test.YtkmopcongjifmabDgJudgedP
/-! DagJudged: its walk. -/
namespace Go.Proofs.Ytkmopcongjifmab
set_option linter.unusedVariables false
set_option maxRecDepth 20000
open Go.RowKit Go.HeapKit

def lV (ts : List Int) (k : Nat) : List Int := (List.range k).map (fun i => ts.getD i 0)
theorem lV_len (ts : List Int) (k : Nat) : (lV ts k).length = k := by simp [lV]
theorem lV_succ (ts : List Int) (k : Nat) : lV ts (k + 1) = lV ts k ++ [ts.getD k 0] := by simp [lV, List.range_succ]
theorem lV_ok {ts : List Int} (h : ∀ x ∈ ts, okI x) (k : Nat) : ∀ x ∈ lV ts k, okI x := by
  intro x hx
  obtain ⟨i, hi, rfl⟩ := List.mem_map.1 hx
  by_cases e : i < ts.length
  · rw [List.getD_eq_getElem?_getD, List.getElem?_eq_getElem e]
    exact h _ (List.getElem_mem e)
  · rw [List.getD_eq_getElem?_getD, List.getElem?_eq_none (by omega)]
    unfold okI
    simp
set_option maxHeartbeats 3200000 in
theorem dagJudged_walk (n : Int) (a : Option Addr) (m c : Nat) (l : List Ed) (q : Int) (ta : Option Addr) (tl tc : Nat) (ts : List Int) (w : World) (o : okI n) (oq : okI q) (h : SeenE w a m l) (hok : ∀ e ∈ l, okI e.f ∧ okI e.t) (hts : SeenZ w ta tl ts) :
    Calls Try.prog 5 #[.int .i64 n, .slice a m c, .int .i64 q, .slice ta tl tc] w fun e w' => e = .returned (.bool true) ∧ Keeps None w w' := by
  have HS : Hid (SeenE w a m l ∧ (∀ e ∈ l, okI e.f ∧ okI e.t) ∧ okI q) := ⟨h, hok, oq⟩
  have HT : Hid (SeenZ w ta tl ts) := hts
  clear h hok oq hts
  go_enter Try.func5, Try.ntmps5
  go_wp2_with fail
  refine (fit_any n a m c l _ o HS.out.1 HS.out.2.1).mono ?_
  rintro _ w2 ⟨sa, k, sc, rfl, hrow, hk⟩
  have hN := modN_lt n (n := 201) (by omega)
  obtain ⟨N, hNe⟩ : ∃ N, N = modN n 201 := ⟨_, rfl⟩
  rw [← hNe] at hN hrow ⊢
  have hD := fit_dag N l (by omega)
  obtain ⟨L, hL⟩ : ∃ L, L = fitL N l := ⟨_, rfl⟩
  rw [← hL] at hrow hD
  have HD : Hid (Dag (N : Int) L) := hD
  have hks : k * 16 ≤ 140737488351232 := by
    have h1 := hrow.1
    rw [edVals_length] at h1
    have h2 := hD.len
    omega
  obtain ⟨p, hp⟩ : ∃ p, p = w2.heap.size := ⟨_, rfl⟩
  have hkA := Keeps.alloc None w2 (.cells #[.int .i64 N, .slice sa k sc] 24)
  have H1 : Hid (SeenE (w2.alloc (.cells #[.int .i64 N, .slice sa k sc] 24)) sa k L ∧ (w2.alloc (.cells #[.int .i64 N, .slice sa k sc] 24)).heap[p]? = some (.cells #[.int .i64 N, .slice sa k sc] 24 (0, 0)) ∧ Keeps None w (w2.alloc (.cells #[.int .i64 N, .slice sa k sc] 24))) :=
    ⟨(row_seen hrow).more hkA, blk_new _ _ _ hp.symm, hk.trans hkA (fun _ f _ => f)⟩
  unfold dagV
  clear hrow hk hkA hL hD hNe o
  go_wp2_with fail
  refine (mod_any q 64 _ HS.out.2.2 (by omega) (by omega)).mono ?_
  rintro _ wz ⟨rfl, hw⟩
  have hw2 := hw.symm
  subst hw2
  clear hw
  have hM := modN_lt q (n := 64) (by omega)
  obtain ⟨M, hMe⟩ : ∃ M, M = modN q 64 := ⟨_, rfl⟩
  rw [← hMe] at hM ⊢
  obtain ⟨P, hPe⟩ : ∃ P, P = M + 1 := ⟨_, rfl⟩
  have HPE : Hid ((1 : Int) + (M : Int) = (P : Int)) := by show _ = _; omega
  have hP1 : 1 ≤ P := by omega
  have hP2 : P ≤ 64 := by omega
  rw [← hp]
  clear hMe HS hp
  generalize w2.alloc (.cells #[.int .i64 N, .slice sa k sc] 24) = wa at H1 ⊢
  have d0 : wa.cell? ⟨p, 0, none⟩ = some (.int .i64 N) := (blk_cell H1.out.2.1 0).trans rfl
  clear hPe
  have hmk := make_ints N wa (by omega)
  obtain ⟨g, hg⟩ : ∃ g, g = wa.heap.size := ⟨_, rfl⟩
  rw [← hg] at hmk
  have hN0 : IsN (wa.alloc (.cells ((List.range N).map (fun _ => Value.int .i64 0)).toArray 3)) g N (fun _ => 0) := blk_new _ _ _ hg.symm
  have hkm := keeps1 wa (.cells ((List.range N).map (fun _ => Value.int .i64 0)).toArray 3)
  generalize hwm : wa.alloc (.cells ((List.range N).map (fun _ => Value.int .i64 0)).toArray 3) = wm at hmk hN0 hkm
  have hdm := hkm.cell d0 (fun f => f)
  have HM : Hid (IsN wm g N (fun _ => 0) ∧ Keeps None wa wm ∧ g = wa.heap.size) := ⟨hN0, hkm, hg⟩
  clear hwm hg hN0 hkm
  go_wp2_with fail
  go_loopw [12] (fun s12 wr => ∃ i : Nat, s12 = .int .i64 i ∧ i ≤ N ∧ IsN wr g N (fun j => if j < i then (j : Int) + 1 else 0) ∧ Keeps None wa wr) (fun s12 _ => N - (intOf s12).toNat)
  case atStart => exact ⟨0, rfl, Nat.zero_le _, HM.out.1.congr (fun k _ => by simp), HM.out.2.1⟩
  case round =>
    obtain ⟨i, rfl, hi, hNn, hkp⟩ := hrel
    have e0 := hkp.cell d0 (fun f => f)
    clear hdm
    by_cases hlt : i < N
    · have i1 : (i : Int) < (N : Int) := by omega
      have n0 : ¬ N = 0 := by omega
      have x0 := hNn.at hlt
      have z0 := hNn.free i
      have HN : Hid (IsN (wr.setCell ⟨g, i, none⟩ (.int .i64 ((i : Int) + 1))) g N (fun j => if j < i + 1 then (j : Int) + 1 else 0) ∧ Keeps None wa (wr.setCell ⟨g, i, none⟩ (.int .i64 ((i : Int) + 1)))) := by
        refine ⟨(hNn.set i _).congr (fun j hj => ?_), hkp.andSet (x := ⟨g, i, none⟩) (.inr (by show wa.heap.size ≤ g; rw [HM.out.2.2]; exact Nat.le_refl _)) _⟩
        unfold upd
        by_cases e1 : j = i
        · subst e1; rw [if_pos rfl, if_pos (by omega)]
        · rw [if_neg e1]
          show (if j < i then (j : Int) + 1 else 0) = _
          by_cases e2 : j < i
          · rw [if_pos e2, if_pos (by omega)]
          · rw [if_neg e2, if_neg (by omega)]
      clear hNn hkp
      go_wp2_with fail
      exact ⟨⟨i + 1, by go_num, by omega, HN.out⟩, by simp [intOf]; omega⟩
    · have i1 : ¬ (i : Int) < (N : Int) := by omega
      have e1 : wr.cell? ⟨p, 1, none⟩ = some (.slice sa k sc) := hkp.cell ((blk_cell H1.out.2.1 1).trans rfl) (fun f => f)
      have hNr : IsN wr g N (fun (j : Nat) => (j : Int) + 1) := hNn.congr (fun j hj => by rw [if_pos (by omega)])
      have hzr : SeenZ wr (some ⟨g, 0, none⟩) N (rowV N) := row_seenZ (hNr.row 0 (Nat.zero_le _) (by omega)) (by
        intro x hx
        obtain ⟨j, hj, rfl⟩ := List.mem_map.1 hx
        have := List.mem_range.1 hj
        unfold okI
        omega)
      have H2 : Hid (SeenE wr sa k L ∧ wr.heap[p]? = some (.cells #[.int .i64 N, .slice sa k sc] 24 (0, 0)) ∧ Keeps None w wr ∧ SeenZ wr (some ⟨g, 0, none⟩) N (rowV N)) :=
        ⟨H1.out.1.more hkp, blk_kept H1.out.2.1 hkp (fun f => f), H1.out.2.2.trans hkp (fun _ f _ => f), hzr⟩
      clear hNn hkp hNr hzr
      go_wp2_with fail
      refine (judge_one N sa k sc L (some ⟨g, 0, none⟩) N (rowV N) wr H2.out.1 H2.out.2.2.2 (dag_check HD.out)).mono ?_
      rintro _ w4 ⟨jv, rfl, hj, hk4⟩
      have hj2 : jv = 2 := by
        rcases hj with h | h | h
        · exact absurd (row_is HD.out (Nat.le_refl 1)) h.2
        · exact absurd (row_gr HD.out) h.2.2
        · exact h.1
      rw [hj2]
      have H3 : Hid (SeenE w4 sa k L ∧ w4.heap[p]? = some (.cells #[.int .i64 N, .slice sa k sc] 24 (0, 0)) ∧ Keeps None w w4 ∧ SeenZ w4 (some ⟨g, 0, none⟩) N (rowV N)) :=
        ⟨H2.out.1.more hk4, blk_kept H2.out.2.1 hk4 (fun f => f), H2.out.2.2.1.trans hk4 (fun _ f _ => f), H2.out.2.2.2.more hk4⟩
      clear hj hj2 hk4 H2 e0 e1
      have e0 : w4.cell? ⟨p, 0, none⟩ = some (.int .i64 N) := (blk_cell H3.out.2.1 0).trans rfl
      have e1 : w4.cell? ⟨p, 1, none⟩ = some (.slice sa k sc) := (blk_cell H3.out.2.1 1).trans rfl
      go_wp2_with fail
      rw [HPE.out]
      clear HPE
      refine (judge_any N sa k sc L P ⟨hP1, hP2⟩ (some ⟨g, 0, none⟩) N (rowV N) w4 H3.out.1 H3.out.2.2.2 (dag_check HD.out)).mono ?_
      rintro _ w5 ⟨bv, rfl, hb, hk5⟩
      have hb2 : bv = 1 ∨ bv = 2 := by
        rcases hb with h | h | h
        · exact absurd (row_is HD.out hP1) h.2
        · exact .inl h.1
        · exact .inr h.1
      have H4 : Hid (SeenE w5 sa k L ∧ w5.heap[p]? = some (.cells #[.int .i64 N, .slice sa k sc] 24 (0, 0)) ∧ Keeps None w w5) :=
        ⟨H3.out.1.more hk5, blk_kept H3.out.2.1 hk5 (fun f => f), H3.out.2.2.1.trans hk5 (fun _ f _ => f)⟩
      have hb3 : (bv == 0) = false := by rcases hb2 with rfl | rfl <;> rfl
      have hb4 : ¬ bv = 0 := by omega
      clear hb hb2 hk5 H3 e0 e1
      have e0 : w5.cell? ⟨p, 0, none⟩ = some (.int .i64 N) := (blk_cell H4.out.2.1 0).trans rfl
      have e1 : w5.cell? ⟨p, 1, none⟩ = some (.slice sa k sc) := (blk_cell H4.out.2.1 1).trans rfl
      obtain ⟨S, hSS⟩ : ∃ S : Nat, spanV N L = S := Int.eq_ofNat_of_zero_le (crit_len N L).1
      have hS4 : S ≤ 4096 := by have := (crit_len N L).2; unfold spanV at hSS; omega
      have HSS : Hid (spanV N L = S) := hSS
      clear hSS
      go_wp2_with fail
      refine (span_any (N : Int) sa k sc L w5 H4.out.1 hks).mono ?_
      rintro _ w6 ⟨rfl, hk6⟩
      rw [dag_check HD.out, HSS.out]
      have H5 : Hid (SeenE w6 sa k L ∧ w6.heap[p]? = some (.cells #[.int .i64 N, .slice sa k sc] 24 (0, 0)) ∧ Keeps None w w6) :=
        ⟨H4.out.1.more hk6, blk_kept H4.out.2.1 hk6 (fun f => f), H4.out.2.2.trans hk6 (fun _ f _ => f)⟩
      clear hk6 H4 e0 e1
      obtain ⟨B, hB⟩ : ∃ B, B = w6.heap.size := ⟨_, rfl⟩
      have HB : Hid (B = w6.heap.size) := hB
      clear hB
      have e0 : w6.cell? ⟨p, 0, none⟩ = some (.int .i64 N) := (blk_cell H5.out.2.1 0).trans rfl
      go_wp2_with fail
      go_loopw [20, 19] (fun s20 s19 ws => ∃ (i : Nat) (la : Option Addr) (lc : Nat), s20 = .int .i64 i ∧ s19 = .slice la i lc ∧ i ≤ N ∧ ws.ownsRow B 3 1 (.slice la i lc) i (iv (lV ts i)) ∧ Keeps None w6 ws) (fun s20 _ _ => N - (intOf s20).toNat)
      case atStart => exact ⟨0, none, 0, rfl, rfl, Nat.zero_le _, row_nil _ _ _ _, Keeps.refl _ _⟩
      case round =>
        obtain ⟨i, la, lc, rfl, rfl, hi, hrow, hkp⟩ := hrel
        have e2 := hkp.cell e0 (fun f => f)
        have HI : Hid (wr.ownsRow B 3 1 (.slice la i lc) i (iv (lV ts i)) ∧ Keeps None w6 wr) := ⟨hrow, hkp⟩
        clear hrow hkp e0
        by_cases hlt : i < N
        · have i2 : (i : Int) < (N : Int) := by omega
          go_wp2_with fail
          refine (rank_any ta tl tc ts i wr (HT.out.more (H5.out.2.2.trans HI.out.2 (fun _ f _ => f)))).mono ?_
          rintro _ wz ⟨rfl, hw⟩
          have hw2 := hw.symm
          subst hw2
          clear hw
          have HX : Hid (lV ts (i + 1) = lV ts i ++ [ts.getD i 0]) := lV_succ ts i
          generalize ts.getD i 0 = x at HX ⊢
          have hsz : B ≤ wr.heap.size := by have := HI.out.2.size; have := HB.out; omega
          obtain ⟨gg, cc, w7, hr, ho, hk7, hm7⟩ := int_more B (.slice la i lc) (lV ts i) x i 26 wr.heap.size (wr.alloc (.cells #[.int .i64 x] 3)) (lV_len ts i).symm (row_kept HI.out.1 (Keeps.alloc None wr _) (fun _ _ f => f)) (by simp; omega) (by omega) (blk_new _ _ _ rfl)
          have HE : Hid (w7.ownsRow B 3 1 (.slice (some ⟨gg, 0, none⟩) (i + 1) cc) (i + 1) (iv (lV ts (i + 1))) ∧ Keeps None w6 w7) := by
            refine ⟨by rw [HX.out]; exact ho, (HI.out.2.andAlloc _).trans hk7 (fun j e hj => ?_)⟩
            have := row_low HI.out.1 e
            have := HB.out
            omega
          clear ho hk7 hm7
          go_wp2_with (at_builtin; refine wpList_append_run rfl (.tmp 86) (.tmp 90) 26 26 rfl rfl rfl hr ?_)
          exact ⟨⟨i + 1, _, _, by go_num, rfl, by omega, HE.out.1, HE.out.2⟩, by simp [intOf]; omega⟩
        · have i2 : ¬ (i : Int) < (N : Int) := by omega
          have hiN : i = N := by omega
          subst hiN
          obtain ⟨zs, hzs⟩ : ∃ zs, zs = lV ts i := ⟨_, rfl⟩
          have e3 : wr.cell? ⟨p, 1, none⟩ = some (.slice sa k sc) := HI.out.2.cell ((blk_cell H5.out.2.1 1).trans rfl) (fun f => f)
          have hzl : zs.length = i := by rw [hzs]; exact lV_len ts i
          have H6 : Hid (SeenE wr sa k L ∧ wr.heap[p]? = some (.cells #[.int .i64 i, .slice sa k sc] 24 (0, 0)) ∧ Keeps None w wr ∧ SeenZ wr la i zs ∧ zs.length = i) :=
            ⟨H5.out.1.more HI.out.2, blk_kept H5.out.2.1 HI.out.2 (fun f => f), H5.out.2.2.trans HI.out.2 (fun _ f _ => f), row_seenZ (by rw [hzs]; exact HI.out.1) (by rw [hzs]; exact lV_ok HT.out.ok i), hzl⟩
          obtain ⟨t, htt⟩ : ∃ t : Nat, grt zs = t := Int.eq_ofNat_of_zero_le (grt_ge zs).1
          have HTT : Hid (grt zs = t) := htt
          clear hzs hzl htt
          go_wp2_with fail
          refine (judge_any i sa k sc L P ⟨hP1, hP2⟩ la lc zs wr H6.out.1 H6.out.2.2.2.1 (dag_check HD.out)).mono ?_
          rintro _ w8 ⟨v, rfl, hj, hk8⟩
          have H7 : Hid (Keeps None w w8 ∧ SeenZ w8 la i zs) := ⟨H6.out.2.2.1.trans hk8 (fun _ f _ => f), H6.out.2.2.2.1.more hk8⟩
          have d5 := hk8.cell e2 (fun f => f)
          clear hk8 e2 e3
          have p0 : ¬ P = 0 := by omega
          have p1 : ¬ (P : Int) = 0 := by omega
          rcases hj with ⟨rfl, hj⟩ | ⟨rfl, hj, hg⟩ | ⟨rfl, hj, hg⟩
          · clear hj
            go_wp2_with fail
            go_ret
            exact ⟨rfl, H7.out.1⟩
          · have hpl := judged_sched HD.out H6.out.2.2.2.2 hP1 hj t S HTT.out HSS.out
            have q1 : ¬ (t : Int) < (S : Int) := by omega
            have q2 : ¬ (t : Int) < ((i : Int) + (P : Int) - 1) / (P : Int) := by
              rw [show (i : Int) + (P : Int) - 1 = ((i + P - 1 : Nat) : Int) by omega, ← Int.natCast_ediv]
              omega
            clear hj hg hpl
            go_wp2_with fail
            refine (length_any la i lc zs w8 H7.out.2 (by omega)).mono ?_
            rintro _ w9 ⟨rfl, hk9⟩
            rw [HTT.out]
            have H8 : Hid (Keeps None w w9) := H7.out.1.trans hk9 (fun _ f _ => f)
            have d6 := hk9.cell d5 (fun f => f)
            clear hk9 d5
            go_wp2_with fail
            go_ret
            exact ⟨by first | rfl | simp, H8.out⟩
          · have hpl := judged_sched HD.out H6.out.2.2.2.2 hP1 hj t S HTT.out HSS.out
            have hpg := judged_gr HD.out H6.out.2.2.2.2 hP1 hj hg t S HTT.out HSS.out
            have q1 : ¬ (t : Int) < (S : Int) := by omega
            have q2 : ¬ (t : Int) < ((i : Int) + (P : Int) - 1) / (P : Int) := by
              rw [show (i : Int) + (P : Int) - 1 = ((i + P - 1 : Nat) : Int) by omega, ← Int.natCast_ediv]
              omega
            have q3 : (t : Int) ≤ (i : Int) := by omega
            have q4 : t ≤ i := hpg.1
            have HP : Hid (S ≤ t ∧ i ≤ P * t ∧ P * t ≤ i + (P - 1) * S) := ⟨hpl.1, hpl.2.1, hpg.2⟩
            clear hj hg hpl hpg
            go_wp2_with fail
            refine (length_any la i lc zs w8 H7.out.2 (by omega)).mono ?_
            rintro _ w9 ⟨rfl, hk9⟩
            rw [HTT.out]
            have H8 : Hid (Keeps None w w9) := H7.out.1.trans hk9 (fun _ f _ => f)
            have d6 := hk9.cell d5 (fun f => f)
            clear hk9 d5
            have hbd : Hid (Calls Try.prog 22 #[.int .i64 i, .int .i64 S, .int .i64 P, .int .i64 t] w9 fun e w' => e = .returned (.bool true) ∧ w' = w9) := by
              refine bounds_any (i : Int) S P t w9 (by omega) (by omega) (by omega) (by omega) (by omega) ?_ ?_
              · have h1 := HP.out.2.1
                rw [← Int.natCast_mul]
                omega
              · have h1 := HP.out.2.2
                have e : (P : Int) - 1 = ((P - 1 : Nat) : Int) := by omega
                rw [e, ← Int.natCast_mul, ← Int.natCast_mul]
                omega
            go_wp2_with fail
            refine hbd.out.mono ?_
            rintro _ wz ⟨rfl, hw⟩
            have hw2 := hw.symm
            subst hw2
            clear hw hbd
            go_wp2_with fail
            go_ret
            exact ⟨by first | rfl | simp, H8.out⟩
end Go.Proofs.Ytkmopcongjifmab
