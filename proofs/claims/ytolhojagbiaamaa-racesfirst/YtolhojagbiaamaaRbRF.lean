import Derived.Test.YtolhojagbiaamaaRbFL
/-! The document's First. -/
namespace Go.Proofs.Ytolhojagbiaamaa
set_option linter.unusedVariables false
set_option maxRecDepth 20000
set_option linter.unusedSimpArgs false
open Go.RowKit Go.HeapKit

/-- Do two deeds race, if they are parallel? -/
def touB (ka la kb lb : Int) : Bool := (decide (ka ≥ 3) && decide (kb ≥ 3)) && (la == lb) && ((ka == 4) || (kb == 4))
set_option maxHeartbeats 1600000 in
theorem rtouches_ok (w : World) (ka la kb lb : Int) : Calls Try.prog 40 #[.agg #[.int .i64 ka, .int .i64 la], .agg #[.int .i64 kb, .int .i64 lb]] w fun e w' => e = .returned (.bool (touB ka la kb lb)) ∧ Keeps None w w' := by
  have kA := (Keeps.alloc None w (.cells #[.int .i64 ka, .int .i64 la] 51)).andAlloc (.cells #[.int .i64 kb, .int .i64 lb] 51)
  by_cases h1 : ka ≥ 3
  · by_cases h2 : kb ≥ 3
    · by_cases h3 : la = lb
      · subst h3
        by_cases h4 : ka = 4
        · subst h4
          have hv : touB 4 la kb la = true := by unfold touB; simp [h2]
          rw [hv]
          go_enter Try.func40, Try.ntmps40
          go_wp2
          go_ret
          exact ⟨by first | rfl | simp, kA⟩
        · have b4 : (ka == 4) = false := by simp [h4]
          by_cases h5 : kb = 4
          · subst h5
            have hv : touB ka la 4 la = true := by unfold touB; simp [h1]
            rw [hv]
            go_enter Try.func40, Try.ntmps40
            go_wp2
            go_ret
            exact ⟨by first | rfl | simp, kA⟩
          · have b5 : (kb == 4) = false := by simp [h5]
            have hv : touB ka la kb la = false := by unfold touB; simp [b4, b5]
            rw [hv]
            go_enter Try.func40, Try.ntmps40
            go_wp2
            go_ret
            exact ⟨by first | rfl | simp [b5], kA⟩
      · have b3 : (la == lb) = false := by simp [h3]
        have hv : touB ka la kb lb = false := by unfold touB; simp [b3]
        rw [hv]
        go_enter Try.func40, Try.ntmps40
        go_wp2
        go_ret
        exact ⟨by first | rfl | simp [b3], kA⟩
    · have hv : touB ka la kb lb = false := by unfold touB; simp [h2]
      rw [hv]
      go_enter Try.func40, Try.ntmps40
      go_wp2
      go_ret
      exact ⟨by first | rfl | simp, kA⟩
  · have hv : touB ka la kb lb = false := by unfold touB; simp [h1]
    rw [hv]
    go_enter Try.func40, Try.ntmps40
    go_wp2
    go_ret
    exact ⟨by first | rfl | simp, kA⟩
theorem race_tou {l : List Dd} (hf : Fine l) {a n : Nat} (ha : a < l.length) (hn : n < l.length) : RaceW l a n ↔ touB (kdN l n) (lcN l n) (kdN l a) (lcN l a) = true ∧ ¬ Ah l a n := by
  obtain ⟨a1, a2, _⟩ := hf.kind ha
  obtain ⟨n1, n2, _⟩ := hf.kind hn
  unfold RaceW touB
  simp only [Bool.and_eq_true, Bool.or_eq_true, decide_eq_true_eq, beq_iff_eq]
  constructor
  · rintro ⟨h1, h2, h3, h4, h5⟩
    exact ⟨⟨⟨⟨by omega, by omega⟩, h3.symm⟩, by omega⟩, h5⟩
  · rintro ⟨⟨⟨⟨h1, h2⟩, h3⟩, h4⟩, h5⟩
    exact ⟨by omega, by omega, h3.symm, by omega, h5⟩
set_option maxHeartbeats 4000000 in
theorem rfirst_ok (a : Option Addr) (n c : Nat) (l : List Dd) (w : World) (hS : Seen w a n l) :
    Calls Try.prog 24 #[.slice a n c] w fun e w' => e = firV l ∧ Keeps None w w' := by
  have HS : Hid (Seen w a n l) := hS
  have HLen : Hid (n = l.length) := hS.len
  clear hS
  have kA := Keeps.alloc None w (.cells #[.int .i64 0, .int .i64 0, .int .i64 0] 40)
  have bA := heap_alloc_new w (.cells #[.int .i64 0, .int .i64 0, .int .i64 0] 40)
  obtain ⟨wa, hwa⟩ : ∃ wa, wa = w.alloc (.cells #[.int .i64 0, .int .i64 0, .int .i64 0] 40) := ⟨_, rfl⟩
  obtain ⟨s0, hs0⟩ : ∃ s0, s0 = w.heap.size := ⟨_, rfl⟩
  rw [← hwa] at kA bA
  rw [← hs0] at bA
  have HA : Hid (Keeps None w wa ∧ wa.heap[s0]? = some (.cells #[.int .i64 0, .int .i64 0, .int .i64 0] 40 (0, 0))) := ⟨kA, bA⟩
  have HW : Hid (wa = w.alloc (.cells #[.int .i64 0, .int .i64 0, .int .i64 0] 40) ∧ s0 = w.heap.size) := ⟨hwa, hs0⟩
  clear kA bA hwa hs0
  go_enter Try.func24, Try.ntmps24
  go_upto_region 1 with fail
  rw [← HW.out.1, ← HW.out.2]
  go_upto_region 2 with (go_at_call 11; refine Calls.mono (rcheck_raw a n c l wa (HS.out.more HA.out.1)) ?_; rintro _ w1 ⟨rfl, hk1⟩)
  obtain ⟨E, hE⟩ : ∃ E, E = chkE l := ⟨_, rfl⟩
  obtain ⟨A1, hA1⟩ : ∃ A1, A1 = chkA l := ⟨_, rfl⟩
  rw [← hE, ← hA1]
  have b2 := heap_alloc_new w1 (.cells #[.int .i64 E, .int .i64 A1] 26)
  have k2 := hk1.andAlloc (.cells #[.int .i64 E, .int .i64 A1] 26)
  obtain ⟨w2, hw2⟩ : ∃ w2, w2 = w1.alloc (.cells #[.int .i64 E, .int .i64 A1] 26) := ⟨_, rfl⟩
  obtain ⟨B, hB⟩ : ∃ B, B = w1.heap.size := ⟨_, rfl⟩
  rw [← hw2] at b2 k2
  rw [← hB] at b2
  rw [← hw2, ← hB]
  have g0 : w2.cell? ⟨B, 0, none⟩ = some (.int .i64 E) := cell_of_heap b2 0
  have bs := blk_kept HA.out.2 k2 (fun f => f)
  have HK : Hid (Keeps None w w2 ∧ w2.heap[s0]? = some (.cells #[.int .i64 0, .int .i64 0, .int .i64 0] 40 (0, 0)) ∧ s0 = w.heap.size) := ⟨HA.out.1.trans k2 (fun _ f _ => f), bs, HW.out.2⟩
  have HE : Hid (chkE l = E) := hE.symm
  have hne0 : ¬ B = s0 := ne_of_types b2 bs (by decide)
  clear b2 k2 hw2 hB hE hA1 hk1 bs HA HW
  by_cases hE0 : E = 0
  · subst hE0
    obtain ⟨hn, hf⟩ := chk_fine HE.out
    have hn2 : n ≤ 4096 := by rw [HLen.out]; exact hn
    have HP : Hid _ := before_ok a n c l w2 (HS.out.more HK.out.1) hf hn2
    have HF : Hid (Fine l) := hf
    clear hn hf
    have key : ∀ (x y z : Int) (w3 : World), Keeps None w2 w3 → (((w3.setCell ⟨s0, 0, none⟩ (.int .i64 x)).setCell ⟨s0, 1, none⟩ (.int .i64 y)).setCell ⟨s0, 2, none⟩ (.int .i64 z)).heap[s0]? = some (.cells #[.int .i64 x, .int .i64 y, .int .i64 z] 40 (0, 0)) ∧ Keeps None w (((w3.setCell ⟨s0, 0, none⟩ (.int .i64 x)).setCell ⟨s0, 1, none⟩ (.int .i64 y)).setCell ⟨s0, 2, none⟩ (.int .i64 z)) := fun x y z w3 hk => by
      obtain ⟨g1, g2⟩ := set_race (x' := x) (y' := y) (z' := z) (blk_kept HK.out.2.1 hk (fun f => f))
      exact ⟨g1, (HK.out.1.trans hk (fun _ f _ => f)).trans g2 (fun i e hi => by have := HK.out.2.2; omega)⟩
    have HKey : Hid _ := key
    clear key
    go_upto_region 5 with (go_at_call 36; refine Calls.mono HP.out ?_; rintro _ w3 ⟨G, R, M, rfl, hB, hSy, hk3⟩)
    have HT : Hid (BfM w3 w2.heap.size n n G R M ∧ Says l n n M ∧ Keeps None w2 w3) := ⟨hB, hSy, hk3⟩
    clear hB hSy hk3 HP g0 hne0
    go_wp2_with fail
    go_loopw [7, 8, 9] (fun s7 _ _ wr => ∃ p : Nat, p ≤ n ∧ s7 = .int .i64 p ∧ (∀ k, k < p → rcB l k = false) ∧ Keeps None w3 wr) (fun s7 _ _ _ => n - (intOf s7).toNat)
    case atStart => exact ⟨0, Nat.zero_le _, rfl, fun k hk => by omega, Keeps.refl _ _⟩
    case round =>
      obtain ⟨p, hp, rfl, hno, hkr⟩ := hrel
      by_cases hpn : p < n
      · have i1 : (p : Int) < (n : Int) := by omega
        have HN : Hid ((∀ k, k < p → rcB l k = false) ∧ Keeps None w3 wr) := ⟨hno, hkr⟩
        clear hno hkr
        go_wp2_with fail
        go_loopw [8, 9] (fun s8 _ wi => ∃ m : Nat, m ≤ p ∧ s8 = .int .i64 m ∧ (∀ k, k < m → ¬ RaceW l k p) ∧ Keeps None w3 wi) (fun s8 _ _ => p - (intOf s8).toNat)
        case atStart => exact ⟨0, Nat.zero_le _, rfl, fun k hk => by omega, HN.out.2⟩
        case round =>
          obtain ⟨m, hm, rfl, hlow, hkr⟩ := hrel
          generalize wr = W at *
          by_cases hmp : m < p
          · have hkw : Keeps None w W := (HK.out.1.trans HT.out.2.2 (fun _ f _ => f)).trans hkr (fun _ f _ => f)
            have hSW := HS.out.more hkw
            obtain ⟨bb, off, ha, hbb, e0, e1⟩ := seen_deed hSW (n := p) (by omega)
            obtain ⟨bb2, off2, ha2, _, e2, e3⟩ := seen_deed hSW (n := m) (by omega)
            subst ha
            injection ha2 with ha2
            injection ha2 with x1 x2
            subst x1 x2
            have hBW := HT.out.1.more hkr
            have gp : W.cell? ⟨G, p, none⟩ = some (.slice (some ⟨R p, 0, none⟩) n n) := ((cell_of_heap hBW.out p).trans (outB_at (by omega))).trans (by unfold vsB; rw [if_pos (by omega)])
            have rp : W.cell? ⟨R p, m, none⟩ = some (.bool (M p m)) := (cell_of_heap (hBW.row p (by omega)) m).trans (bools_at _ _ (by omega))
            have hr := race_tou HF.out (a := m) (n := p) (by rw [← HLen.out]; omega) (by rw [← HLen.out]; omega)
            have hsy := HT.out.2.1 p (by omega) m (by omega)
            rw [← hsy] at hr
            obtain ⟨ka, hka⟩ : ∃ k, k = kdN l p := ⟨_, rfl⟩
            obtain ⟨la, hla⟩ : ∃ k, k = lcN l p := ⟨_, rfl⟩
            obtain ⟨kb, hkb⟩ : ∃ k, k = kdN l m := ⟨_, rfl⟩
            obtain ⟨lb, hlb⟩ : ∃ k, k = lcN l m := ⟨_, rfl⟩
            rw [← hka] at e0 hr
            rw [← hla] at e1 hr
            rw [← hkb] at e2 hr
            rw [← hlb] at e3 hr
            obtain ⟨tb, htb⟩ : ∃ tb, tb = touB ka la kb lb := ⟨_, rfl⟩
            rw [← htb] at hr
            obtain ⟨mb, hmb⟩ : ∃ mb, mb = M p m := ⟨_, rfl⟩
            rw [← hmb] at rp hr
            have HTc : Hid (∀ wz, Calls Try.prog 40 #[.agg #[.int .i64 ka, .int .i64 la], .agg #[.int .i64 kb, .int .i64 lb]] wz fun e w' => e = .returned (.bool tb) ∧ Keeps None wz w') := fun wz => by rw [htb]; exact rtouches_ok wz ka la kb lb
            have HM : Hid ((∀ k, k < m → ¬ RaceW l k p) ∧ Keeps None w3 W ∧ (RaceW l m p ↔ tb = true ∧ ¬ mb = true) ∧ la = lcN l p) := ⟨hlow, hkr, hr, hla⟩
            clear hkw hSW hbb hBW hr hsy hka hla hkb hlb htb hmb hlow hkr
            have i2 : (m : Int) < (n : Int) := by omega
            have i3 : (m : Int) < (p : Int) := by omega
            go_upto_region 11 with fail
            go_cut [9] (fun s9 wx => s9 = .bool tb ∧ Keeps None W wx)
            case first =>
              go_region_held3 (fun w' => w'.cell? ⟨bb, off + p * 2, none⟩ = some (.int .i64 ka) ∧ w'.cell? ⟨bb, off + p * 2 + 1, none⟩ = some (.int .i64 la) ∧ w'.cell? ⟨bb, off + m * 2, none⟩ = some (.int .i64 kb) ∧ w'.cell? ⟨bb, off + m * 2 + 1, none⟩ = some (.int .i64 lb)) (first | exact ⟨q0, q1, q2, q3⟩ | go_keep) (first | (go_at_call 40; refine Calls.mono (HTc.out _) ?_; rintro _ w5 ⟨rfl, hk5⟩; have j5 : Keeps None W w5 := (Keeps.drew None W).trans hk5 (fun _ f _ => f); have q0 := j5.cell e0 (fun f => f); have q1 := j5.cell e1 (fun f => f); have q2 := j5.cell e2 (fun f => f); have q3 := j5.cell e3 (fun f => f); have HJ : Hid _ := j5; clear hk5 j5))
              all_goals (go_wp2_with fail; go_meet)
              all_goals exact ⟨rfl, HJ.out⟩
            case rest =>
            obtain ⟨rfl, hk5⟩ := hcut
            have gp' := hk5.cell gp (fun f => f)
            have rp' := hk5.cell rp (fun f => f)
            have e1' := hk5.cell e1 (fun f => f)
            have HK5 : Hid (Keeps None w3 wc) := HM.out.2.1.trans hk5 (fun _ f _ => f)
            clear hk5 gp rp e0 e1 e2 e3
            have bs := blk_kept (blk_kept HK.out.2.1 HT.out.2.2 (fun f => f)) HK5.out (fun f => f)
            have c0 : wc.cell? ⟨s0, 0, none⟩ = some (.int .i64 0) := cell_of_heap bs 0
            have c1 : wc.cell? ⟨s0, 1, none⟩ = some (.int .i64 0) := cell_of_heap bs 1
            have c2 : wc.cell? ⟨s0, 2, none⟩ = some (.int .i64 0) := cell_of_heap bs 2
            have f0 := blk_free bs 0
            have f1 := blk_free bs 1
            have f2 := blk_free bs 2
            clear bs
            have HG : Hid (¬ RaceW l m p → ∃ m' : Nat, m' ≤ p ∧ Value.int .i64 ((m : Int) + 1) = .int .i64 m' ∧ (∀ k, k < m' → ¬ RaceW l k p) ∧ Keeps None w3 wc) := fun h => ⟨m + 1, by omega, by simp, fun k hk => by
              by_cases e : k = m
              · subst e; exact h
              · exact HM.out.1 k (by omega), HK5.out⟩
            cases tb with
            | false =>
              go_wp2_with fail
              go_roundw
              case rel => exact HG.out (fun h => by have := (HM.out.2.2.1.1 h).1; cases this)
              case measure => simp [intOf]; omega
            | true =>
              cases mb with
              | true =>
                go_wp2_with fail
                go_roundw
                case rel => exact HG.out (fun h => (HM.out.2.2.1.1 h).2 rfl)
                case measure => simp [intOf]; omega
              | false =>
                have HZ : Hid _ := HKey.out (p : Int) (m : Int) la wc (HT.out.2.2.trans HK5.out (fun _ f _ => f))
                have HV : Hid _ := firV_some (l := l) (n := p) (m := m) HE.out ⟨by rw [← HLen.out]; exact hpn, HN.out.1, hmp, HM.out.2.2.1.2 ⟨rfl, by simp⟩, HM.out.1⟩
                rw [← HM.out.2.2.2] at HV
                go_wp2_with fail
                refine fin_out rfl rfl rfl rfl HZ.out.1 ⟨HV.out.symm, HZ.out.2⟩
          · obtain rfl : m = p := by omega
            have i3 : ¬ (m : Int) < (m : Int) := by omega
            have HR : Hid (∃ p' : Nat, p' ≤ n ∧ Value.int .i64 ((m : Int) + 1) = .int .i64 p' ∧ (∀ k, k < p' → rcB l k = false) ∧ Keeps None w3 W) := ⟨m + 1, by omega, by simp, fun k hk => by
              by_cases e : k = m
              · subst e
                cases hb : rcB l k with
                | false => rfl
                | true =>
                  obtain ⟨q, hq, hqr⟩ := (rcB_iff l k).1 hb
                  exact (hlow q hq hqr).elim
              · exact HN.out.1 k (by omega), hkr⟩
            clear hlow hkr
            go_wp2_with fail
            go_roundw
            case rel => exact HR.out
            case measure => simp [intOf]; omega
      · obtain rfl : p = n := by omega
        have i1 : ¬ (p : Int) < (p : Int) := by omega
        have HZ : Hid _ := HKey.out 0 0 0 wr (HT.out.2.2.trans hkr (fun _ f _ => f))
        have HV : Hid _ := firV_none (l := l) HE.out (fst_none (by rw [← HLen.out]; exact hno))
        have bs := blk_kept (blk_kept HK.out.2.1 HT.out.2.2 (fun f => f)) hkr (fun f => f)
        have c0 : wr.cell? ⟨s0, 0, none⟩ = some (.int .i64 0) := cell_of_heap bs 0
        have c1 : wr.cell? ⟨s0, 1, none⟩ = some (.int .i64 0) := cell_of_heap bs 1
        have c2 : wr.cell? ⟨s0, 2, none⟩ = some (.int .i64 0) := cell_of_heap bs 2
        have f0 := blk_free bs 0
        have f1 := blk_free bs 1
        have f2 := blk_free bs 2
        clear bs hno hkr
        go_wp2_with fail
        refine fin_out rfl rfl rfl rfl HZ.out.1 ⟨HV.out.symm, HZ.out.2⟩
  · have HV : Hid _ := firV_none HE.out (fst_bad (fun h => hE0 (HE.out.symm.trans h)))
    obtain ⟨g1, g2⟩ := set_race (x' := 0) (y' := 0) (z' := 0) HK.out.2.1
    have c0 : w2.cell? ⟨s0, 0, none⟩ = some (.int .i64 0) := cell_of_heap HK.out.2.1 0
    have c1 : w2.cell? ⟨s0, 1, none⟩ = some (.int .i64 0) := cell_of_heap HK.out.2.1 1
    have c2 : w2.cell? ⟨s0, 2, none⟩ = some (.int .i64 0) := cell_of_heap HK.out.2.1 2
    have f0 := blk_free HK.out.2.1 0
    have f1 := blk_free HK.out.2.1 1
    have f2 := blk_free HK.out.2.1 2
    have k2 := HK.out.1.trans g2 (fun i e hi => by have := HK.out.2.2; omega)
    have HZ : Hid _ := And.intro g1 k2
    have d0 := g2.cell g0 (fun e => hne0 e)
    have hne1 : ¬ s0 = B := fun e => hne0 e.symm
    clear g1 g2 k2
    go_upto_region 3 with fail
    go_region
    all_goals go_wp2_with fail
    all_goals refine fin_out rfl rfl rfl rfl (blk_kept HZ.out.1 (Keeps.drew None _) (fun f => f)) ⟨HV.out.symm, HZ.out.2.andDrew⟩
end Go.Proofs.Ytolhojagbiaamaa
