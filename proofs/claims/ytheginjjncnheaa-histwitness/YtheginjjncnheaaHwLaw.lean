import Derived.Test.YtheginjjncnheaaHwTold
import Derived.Test.YtheginjjncnheaaHwWide
/-! The walk of HistWitness. -/
namespace Go.Proofs.Ytheginjjncnheaa
set_option linter.unusedVariables false
set_option maxRecDepth 20000
set_option linter.unusedSimpArgs false
open Go.RowKit Go.HeapKit

theorem seenT_row {w : World} {base : Nat} {a : Option Addr} {n c : Nat} {l : List (Int × Int)} (hl : n = l.length) (h : w.ownsRow base 26 2 (.slice a n c) n (tdVals l)) : SeenT w a n l := by
  refine ⟨hl, fun h0 => ?_⟩
  rcases h.2 with ⟨_, h1⟩ | ⟨g, cap, cur, e, hb, hg, hnc, hcm, hcs, htk⟩
  · omega
  · injection e with e1 e2 e3
    subst e1
    refine ⟨g, 0, rfl, (Array.getElem?_eq_some_iff.1 hg).1, fun k x hx => ?_⟩
    obtain ⟨t1, t2⟩ := tdVals_at l k x hx
    have hc : ∀ (j : Nat) (u : Value), (tdVals l)[j]? = some u → w.cell? ⟨g, j, none⟩ = some u := fun j u hu => by
      rw [← htk, List.getElem?_take] at hu
      rw [blk_cell hg, ← Array.getElem?_toList]
      split at hu
      · exact hu
      · cases hu
    rw [Nat.zero_add]
    exact ⟨hc _ _ t1, hc _ _ t2⟩
theorem legal_good (a : Option Addr) (n c : Nat) (l : List Cl) (m : Nat) (ao : Option Addr) (no : Nat) (os : List Int) (w : World) (hS : Seen w a n l) (hO : SeenI w ao no os) (hn : n ≤ 40) (hno : no ≤ 160) (hb : badE l m = 0) (h : LegOk l m os) : Calls Try.prog 9 #[.slice a n c, .int .i64 (m : Int), .slice ao no no] w fun e w' => e = .returned (.bool true) ∧ Keeps None w w' := by
  have h1 := legal_ok a n c l m ao no no os w hS hO (by omega) (Nat.le_refl _) (by omega)
  rw [LegOk.legal hb (by rw [show ((m : Int)).toNat = m by omega]; exact h)] at h1
  exact h1
set_option maxHeartbeats 8000000 in
theorem histWitness_walk (a : Option Addr) (n c : Nat) (tl : List (Int × Int)) (most : Int) (b : Option Addr) (m d : Nat) (ws : List (Int × Int × Int)) (pick : Int) (w : World) (hT : SeenT w a n tl) (hW : SeenW w b m ws) (hn : n * 16 ≤ 140737488355328) (hm : m * 24 ≤ 140737488355328) :
    Calls Try.prog 3 #[.slice a n c, .int .i64 most, .slice b m d, .int .i64 pick] w fun e w' => e = .returned (.bool true) ∧ Below w.heap.size w w' := by
  have HS : Hid (SeenT w a n tl ∧ SeenW w b m ws ∧ n = tl.length) := ⟨hT, hW, hT.len⟩
  have HM : Hid _ := lawmod_ok most 12 w (by decide) (by decide)
  clear hT hW
  go_enter Try.func3, Try.ntmps3
  go_upto_block 0 with (go_at_call 5; refine Calls.mono HM.out ?_; rintro _ w1 ⟨rr, rfl, hr0, hr1, hw1⟩; have hw1' := hw1.symm; subst hw1'; clear hw1)
  generalize hMi : 1 + rr = Mi
  obtain ⟨M, rfl⟩ : ∃ M : Nat, Mi = (M : Int) := ⟨Mi.toNat, by omega⟩
  have hM1 : 1 ≤ M := by omega
  have hM2 : M ≤ 12 := by omega
  clear hMi hr0 hr1 HM
  go_cut [9] (fun s9 wx => ∃ (sa : Option Addr) (k sc : Nat) (ts : List (Int × Int)), s9 = .slice sa k sc ∧ k ≤ 40 ∧ ts.length = k ∧ ts.all todoOk = true ∧ SeenT wx sa k ts ∧ Keeps None w wx)
  case first =>
    obtain ⟨n₀, hn₀⟩ : ∃ n₀ : Nat, n₀ = min n 40 := ⟨_, rfl⟩
    have HN : Hid (n₀ = min n 40) := hn₀
    clear hn₀
    go_wp2_with fail
    go_loopg [9, 10] n₀ (fun gk s9 s10 wr => ∃ (k : Nat) (ts : List (Int × Int)), gk + k = min n 40 ∧ s10 = .int .i64 k ∧ ts.length = k ∧ ts.all todoOk = true ∧ wr.ownsRow w.heap.size 26 2 s9 k (tdVals ts) ∧ Keeps None w wr)
    case atStart => exact ⟨0, [], HN.out, rfl, rfl, rfl, row_nil _ _ _ _, Keeps.refl _ _⟩
    case round =>
      clear HN
      obtain ⟨k, ts, hk, rfl, hts, hall, hrow, hkp⟩ := hrel
      obtain ⟨sa, sc, rfl⟩ := row_shape hrow
      have HF : Hid (∃ (sa' : Option Addr) (k' sc' : Nat) (ts : List (Int × Int)), (Value.slice sa k sc) = .slice sa' k' sc' ∧ k' ≤ 40 ∧ ts.length = k' ∧ ts.all todoOk = true ∧ SeenT wr sa' k' ts ∧ Keeps None w wr) := ⟨sa, k, sc, ts, rfl, by omega, hts, hall, seenT_row hts.symm hrow, hkp⟩
      by_cases hkn : k < n
      · have i1 : (k : Int) < (n : Int) := by omega
        by_cases hk40 : k < 40
        · have i2 : (k : Int) < 40 := by omega
          obtain ⟨ba, off, rfl, hb, hc⟩ := (HS.out.1.more hkp).ex (by omega)
          obtain ⟨⟨kd, tv⟩, hx⟩ : ∃ x, tl[k]? = some x := ⟨tl[k]'(by have := HS.out.2.2; omega), by simp⟩
          obtain ⟨y0, y1⟩ := hc k _ hx
          simp only at y0 y1
          have HTM : Hid (∀ rr, 0 ≤ rr → rr < 3 → ∃ g cp w2, (Builtin.append_ #[22, 22] 22 #[.slice sa k sc, .slice (some ⟨wr.heap.size, 0, none⟩) 1 1]).run Try.prog (wr.drew.alloc (.cells #[.int .i64 rr, .int .i64 tv] 26)) = .ok (.slice (some ⟨g, 0, none⟩) (k + 1) cp) w2 ∧ (w2.cell? ⟨ba, off + k * 2, none⟩ = some (.int .i64 kd) ∧ w2.cell? ⟨ba, off + k * 2 + 1, none⟩ = some (.int .i64 tv)) ∧ ∃ ts : List (Int × Int), ts.length = k + 1 ∧ ts.all todoOk = true ∧ w2.ownsRow w.heap.size 26 2 (.slice (some ⟨g, 0, none⟩) (k + 1) cp) (k + 1) (tdVals ts) ∧ Keeps None w w2) := fun rr h0 h1 => by
            have hD : Keeps None wr (wr.drew.alloc (.cells #[.int .i64 rr, .int .i64 tv] 26)) := ((Keeps.refl None wr).andDrew).andAlloc _
            obtain ⟨g, cp, w2, hr, ho, hk2, hm⟩ := todo_more w.heap.size (.slice sa k sc) ts (rr, tv) k 22 wr.heap.size (wr.drew.alloc (.cells #[.int .i64 rr, .int .i64 tv] 26)) hts.symm (row_kept hrow hD (fun _ _ f => f)) (by have := hkp.size; simp; omega) (by omega) (blk_new _ _ _ (by simp))
            have kw2 : Keeps None w w2 := (hkp.trans hD (fun _ f _ => f)).trans hk2 (fun i e hi => by have := row_low hrow e; omega)
            obtain ⟨ba', off', e', _, hc'⟩ := (HS.out.1.more kw2).ex (by omega)
            injection e' with e'
            injection e' with e1 e2
            subst e1 e2
            refine ⟨g, cp, w2, hr, hc' k _ hx, ts ++ [(rr, tv)], by simp [hts], ?_, ho, kw2⟩
            rw [List.all_append, hall]
            simp [todoOk]
            omega
          have HM : Hid (∀ w', Calls Try.prog 5 #[.int .i64 kd, .int .i64 3] w' fun e w'' => ∃ r, e = .returned (.int .i64 r) ∧ 0 ≤ r ∧ r < 3 ∧ w'' = w') := fun w' => lawmod_ok kd 3 w' (by decide) (by decide)
          clear hts hall hrow hkp hb hc hx HF
          go_upto_region 6 with fail
          go_region_held3 (fun w' => w'.cell? ⟨ba, off + k * 2, none⟩ = some (.int .i64 kd) ∧ w'.cell? ⟨ba, off + k * 2 + 1, none⟩ = some (.int .i64 tv)) (first | exact hs2 | go_keep) (first | (go_at_call 5; refine Calls.mono (HM.out _) ?_; rintro _ w5 ⟨rr, rfl, hr0, hr1, hw5⟩; have hw5' := hw5.symm; subst hw5'; clear hw5; obtain ⟨g, cp, w2, hr, hs2, hq⟩ := HTM.out rr hr0 hr1; have HQ : Hid _ := hq; clear hq) | (refine step_append_run rfl (.tmp 36) (.tmp 49) 22 22 rfl (by simp [Act.eval]) (by simp [Act.eval]) hr ?_))
          all_goals go_wp2_with fail
          all_goals (go_roundg (gk - 1); (case measure => omega); (case rel => (obtain ⟨ts2, hz⟩ := HQ.out; exact ⟨k + 1, ts2, by omega, by go_num, hz⟩)))
        · have i2 : ¬ (k : Int) < 40 := by omega
          clear hts hall hrow hkp
          go_wp2_with fail
          go_meet
          exact HF.out
      · have i1 : ¬ (k : Int) < (n : Int) := by omega
        clear hts hall hrow hkp
        go_wp2_with fail
        go_meet
        exact HF.out
  case rest =>
    obtain ⟨sa, k, sc, ts, rfl, hk, hts, hall, hseen, hkp⟩ := hcut
    have herr : errS ts (M : Int) = 0 := errS_none (by omega) (by omega) hall
    have hser := serial_ok sa k sc ts (M : Int) wc hseen (by omega)
    have HSR : Hid (Calls Try.prog 6 #[.slice sa k sc, .int .i64 (M : Int)] wc fun e w' => ∃ (ca : Option Addr) (cc : Nat) (vr : Value), e = .returned (.tuple #[.slice ca k cc, vr, .int .i64 0]) ∧ Seen w' ca k (serS M ts k).1 ∧ Keeps None w w') := hser.mono fun e w' hp => by
      obtain ⟨vc, vr, rfl, ho⟩ := hp
      have hsc : serC ts (M : Int) = (serS M ts k).1 := by
        unfold serC
        rw [if_pos herr, hts, show ((M : Int)).toNat = M by omega]
      have hr := ho.row
      rw [hsc, (serS_length M ts k).1] at hr
      obtain ⟨ca, cc, rfl⟩ := row_shape hr
      exact ⟨ca, cc, vr, by rw [herr], Seen.of_row (serS_length M ts k).1.symm hr, hkp.trans ho.kp (fun _ f _ => f)⟩
    have hwd := serial_wd M ts
    rw [hts] at hwd
    have hown := hwd.own hall (fun i j h => by show (i : Int) < (j : Int); omega)
    have hlen := (serS_length M ts k).1
    have HP : Hid (Wd M ts (fun k => (k : Int)) (serS M ts k).1 ∧ ts.all todoOk = true ∧ ts.length = k ∧ (serS M ts k).1.length = k ∧ badE (serS M ts k).1 (M : Int) = 0 ∧ LegOk (serS M ts k).1 M (idL k)) := by
      refine ⟨hwd, hall, hts, hlen, badE_ok (by omega) hM1 (by omega) (hwd.hist hall), ?_⟩
      rw [hlen] at hown
      exact hown
    obtain ⟨cs, hcs⟩ : ∃ cs, cs = (serS M ts k).1 := ⟨_, rfl⟩
    have HWH : Hid (∀ (q : Nat) (x : Cl) (t : Int × Int), cs[q]? = some x → ts[q]? = some t → (x.who = 0 ∨ x.who = 1) ∧ (t.1 = 2 ↔ x.who ≠ 0) ∧ x.beg = q ∧ x.fin = q) := fun q x t hx ht => by
      have hq := (List.getElem?_eq_some_iff.1 ht).1
      rw [hcs, serS_at M ts k q t (by omega) ht] at hx
      injection hx with hx
      subst hx
      unfold clS
      simp only
      refine ⟨by split <;> simp, ⟨fun e => by rw [if_pos e]; decide, fun e => ?_⟩, trivial, trivial⟩
      split at e
      · assumption
      · exact absurd rfl e
    rw [← hcs] at HSR HP
    clear hts hall hseen hkp herr hser hwd hown hlen hcs
    go_wp2_with fail
    refine Calls.mono HSR.out ?_
    rintro _ w2 ⟨ca, cc, vr, rfl, hse, hk2⟩
    have H2 : Hid (Seen w2 ca k cs ∧ Keeps None w w2) := ⟨hse, hk2⟩
    clear hse hk2 HSR
    have e1 : ((k : Int) != (k : Int)) = false := by simp
    go_wp2_with fail
    refine Calls.mono (order_good ca k cc cs M w2 H2.out.1 hk HP.out.2.2.2.2.1 HP.out.2.2.2.2.2) ?_
    rintro _ w3 ⟨oa, on, os, rfl, hk3, hon, hol, hos, hleg, hfull⟩
    have hon2 : on = k := (hfull (HP.out.1.ended HP.out.2.1)).trans HP.out.2.2.2.1
    subst hon2
    have hid : os = idL on := ext_id hol (own_only (fun q x hx => by
      obtain ⟨t, ht⟩ := HP.out.1.at hx
      obtain ⟨_, _, h3, h4⟩ := HWH.out q x t hx ht
      exact ⟨(HP.out.1.fits HP.out.2.1 hx).2.1, h3, h4⟩) hleg (hol.trans HP.out.2.2.2.1.symm))
    have H3 : Hid (Seen w3 ca on cs ∧ Keeps None w w3 ∧ SeenI w3 oa on (idL on)) := ⟨H2.out.1.more hk3, H2.out.2.trans hk3 (fun _ f _ => f), hid ▸ hos⟩
    clear hk3 hon hol hos hleg hfull hid H2
    go_upto_block 2 with fail
    go_cut [] (fun wx => Keeps None w3 wx)
    case first =>
      go_wp2_with fail
      go_loopw [16] (fun s16 wr => ∃ q : Nat, q ≤ on ∧ s16 = .int .i64 q ∧ Keeps None w3 wr) (fun i _ => on - (intOf i).toNat)
      case atStart => exact ⟨0, Nat.zero_le _, rfl, Keeps.refl _ _⟩
      case round =>
        obtain ⟨q, hq, rfl, hkq⟩ := hrel
        have HKQ : Hid (Keeps None w3 wr) := hkq
        clear hkq
        by_cases hqn : q < on
        · have i1 : (q : Int) < (on : Int) := by omega
          obtain ⟨b0, off, rfl, -, hc⟩ := (H3.out.2.2.more HKQ.out).ex (by omega)
          have y0 := hc q (q : Int) (idL_at hqn)
          have e2 : ((q : Int) != (q : Int)) = false := by simp
          clear hc
          go_wp2_with fail
          go_roundw
          case rel => exact ⟨q + 1, by omega, by go_num, HKQ.out⟩
          case measure => simp [intOf]; omega
        · have i1 : ¬ (q : Int) < (on : Int) := by omega
          go_wp2_with fail
          go_meet
          exact HKQ.out
    case rest =>
      have H3b : Hid (Seen wc ca on cs ∧ Keeps None w wc ∧ SeenI wc oa on (idL on)) := ⟨H3.out.1.more hcut, H3.out.2.1.trans hcut (fun _ f _ => f), H3.out.2.2.more hcut⟩
      clear H3 hcut
      have H3 := H3b
      clear H3b
      go_wp2_with fail
      refine Calls.mono (widened_ok ca on cc cs b m d ws wc H3.out.1 (HS.out.2.1.more H3.out.2.1) hk hm (fun y hy => by
        obtain ⟨q, hq⟩ := List.mem_iff_getElem?.1 hy
        obtain ⟨t, ht⟩ := HP.out.1.at hq
        exact (HWH.out q y t hq ht).1)) ?_
      rintro _ w4 ⟨v4, L4, l4, rfl, hws, hrow, hk4⟩
      have hwd := hws.wd HP.out.1 (fun q x t hx ht => (HWH.out q x t hx ht).2.1)
      have hl4 : l4.length = on := hws.len.trans HP.out.2.2.2.1
      rw [hl4] at hrow
      obtain ⟨la, lc, rfl⟩ := row_shape hrow
      have hmom : ∀ i j : Nat, i < j → (fun k : Nat => 100 * (k : Int) + 50) i < (fun k : Nat => 100 * (k : Int) + 50) j := fun i j h => by simp only; omega
      have hown := hwd.own HP.out.2.1 hmom
      rw [hl4] at hown
      have H4 : Hid (Seen w4 la on l4 ∧ Keeps None w w4 ∧ SeenI w4 oa on (idL on) ∧ Wd M ts (fun k => 100 * (k : Int) + 50) l4 ∧ badE l4 (M : Int) = 0 ∧ LegOk l4 M (idL on) ∧ l4.length = on) := ⟨Seen.of_row hl4.symm hrow, H3.out.2.1.trans hk4 (fun _ f _ => f), H3.out.2.2.more hk4, hwd, badE_ok (by omega) hM1 (by omega) (hwd.hist HP.out.2.1), hown, hl4⟩
      clear hws hrow hk4 hwd hl4 hown H3
      go_wp2_with fail
      refine Calls.mono (order_good la on lc l4 M w4 H4.out.1 hk H4.out.2.2.2.2.1 H4.out.2.2.2.2.2.1) ?_
      rintro _ w5 ⟨pa, pn, ps, rfl, hk5, hpn, hpl, hps, hleg, hfull⟩
      have hpn2 : pn = on := (hfull (H4.out.2.2.2.1.ended HP.out.2.1)).trans H4.out.2.2.2.2.2.2
      subst hpn2
      have H5 : Hid (Seen w5 la pn l4 ∧ Keeps None w w5 ∧ SeenI w5 oa pn (idL pn) ∧ SeenI w5 pa pn ps ∧ LegOk l4 M ps) := ⟨H4.out.1.more hk5, H4.out.2.1.trans hk5 (fun _ f _ => f), H4.out.2.2.1.more hk5, hps, hleg⟩
      clear hk5 hpn hpl hps hleg hfull
      have HL1 : Hid (Calls Try.prog 9 #[.slice la pn lc, .int .i64 (M : Int), .slice pa pn pn] w5 fun e w' => e = .returned (.bool true) ∧ Keeps None w5 w') := legal_good la pn lc l4 M pa pn ps w5 H5.out.1 H5.out.2.2.2.1 hk (by omega) H4.out.2.2.2.2.1 H5.out.2.2.2.2
      have HL2 : Hid (∀ w', Keeps None w5 w' → Calls Try.prog 9 #[.slice la pn lc, .int .i64 (M : Int), .slice oa pn pn] w' fun e w'' => e = .returned (.bool true) ∧ Keeps None w' w'') := fun w' hkk => legal_good la pn lc l4 M oa pn (idL pn) w' (H5.out.1.more hkk) (H5.out.2.2.1.more hkk) hk (by omega) H4.out.2.2.2.2.1 H4.out.2.2.2.2.2.1
      go_upto_region 22 with (first | (go_at_call_of 9 (Value.slice pa pn pn); refine Calls.mono HL1.out ?_; rintro _ w6 ⟨rfl, hk6⟩; have H6 : Hid _ := hk6; clear hk6) | (go_at_call 9; refine Calls.mono (HL2.out _ H6.out) ?_; rintro _ w7 ⟨rfl, hk7⟩; have H7 : Hid _ := hk7; clear hk7))
      have k7 := H5.out.2.1.trans (H6.out.trans H7.out (fun _ f _ => f)) (fun _ f _ => f)
      have hcut := cut_ok la pn lc l4 pick w7 (H5.out.1.more (H6.out.trans H7.out (fun _ f _ => f))) (by omega)
      obtain ⟨os8, hleg8, _⟩ := H4.out.2.2.2.1.cut HP.out.2.1 hmom pick
      have hpl : (cutL pick l4).length ≤ 40 := by have := cutL_length pick l4; have := H4.out.2.2.2.2.2.2; omega
      obtain ⟨pt, hpt⟩ : ∃ pt, pt = cutL pick l4 := ⟨_, rfl⟩
      have hb8 : badE pt (M : Int) = 0 := by rw [hpt]; exact badE_ok hpl hM1 (by omega) (cut_hist (H4.out.2.2.2.1.hist HP.out.2.1))
      rw [← hpt] at hleg8 hpl
      obtain ⟨pk, hpk⟩ : ∃ pk, pk = pt.length := ⟨_, rfl⟩
      have HCT : Hid (Calls Try.prog 10 #[.slice la pn lc, .int .i64 pick] w7 fun e w' => ∃ (ta : Option Addr) (tc : Nat), e = .returned (.slice ta pk tc) ∧ Seen w' ta pk pt ∧ Keeps None w w') := hcut.mono fun e w' hp => by
        obtain ⟨v', rfl, hr, hkk⟩ := hp
        rw [← hpt, ← hpk] at hr
        obtain ⟨ta, tc, rfl⟩ := row_shape hr
        exact ⟨ta, tc, rfl, Seen.of_row hpk hr, k7.trans hkk (fun _ f _ => f)⟩
      have H8 : Hid (badE pt (M : Int) = 0 ∧ LegOk pt M os8) := ⟨hb8, hleg8⟩
      rw [← hpk] at hpl
      clear k7 hcut hleg8 hb8 hpt hpk HL1 HL2 H4 H5 H6 H7 HP HWH HS
      go_wp2_with fail
      refine Calls.mono HCT.out ?_
      rintro _ w8 ⟨ta, tc, rfl, hs8, hk8⟩
      have H9 : Hid (Seen w8 ta pk pt ∧ Keeps None w w8) := ⟨hs8, hk8⟩
      clear hs8 hk8 HCT
      go_wp2_with fail
      refine Calls.mono (order_good ta pk tc pt M w8 H9.out.1 hpl H8.out.1 H8.out.2) ?_
      rintro _ w9 ⟨qa, qn, qs, rfl, hk9, hqn, hql, hqs, hqleg, -⟩
      have HL : Hid (Calls Try.prog 9 #[.slice ta pk tc, .int .i64 (M : Int), .slice qa qn qn] w9 fun e w' => e = .returned (.bool true) ∧ Keeps None w w') := (legal_good ta pk tc pt M qa qn qs w9 (H9.out.1.more hk9) hqs hpl hqn H8.out.1 hqleg).mono fun e w' h => ⟨h.1, (H9.out.2.trans hk9 (fun _ f _ => f)).trans h.2 (fun _ f _ => f)⟩
      clear hk9 hqn hql hqs hqleg H8 H9
      go_wp2_with (go_at_call 9; refine Calls.mono HL.out ?_; rintro _ w10 ⟨rfl, hk10⟩; have H10 : Hid _ := hk10; clear hk10)
      go_ret
      exact ⟨rfl, H10.out.below _ (Nat.le_refl _) (fun _ f => f.elim)⟩
end Go.Proofs.Ytheginjjncnheaa
