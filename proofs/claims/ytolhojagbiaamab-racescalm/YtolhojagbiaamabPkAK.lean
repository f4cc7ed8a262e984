import Derived.Test.YtolhojagbiaamabPkAJ
import Derived.RangeFuncNested
import Derived.RangeFuncBound
import Derived.RangeFuncCalls
import Derived.RangeFuncLeaves
import Derived.OwnWalkIn
import Derived.TacticsInMore
import Derived.LoopNIn
import Derived.LoopIn
import Derived.WalkMore
/-! The sweep: a read or a write; a place is set racy. -/
namespace Go.Proofs.Ytolhojagbiaamab
set_option linter.unusedVariables false
set_option maxRecDepth 20000
set_option linter.unusedSimpArgs false
open Go.RowKit Go.HeapKit

open Classical in
/-- Does a deed have a race with an earlier one? -/
noncomputable def rcB (ds : List Dd) (n : Nat) : Bool := decide (∃ a, a < n ∧ RaceW ds a n)
theorem rcB_iff (ds : List Dd) (n : Nat) : rcB ds n = true ↔ ∃ a, a < n ∧ RaceW ds a n := by unfold rcB; simp
theorem fnd_none : ∀ (M : List (Int × Pl)) (k : Int) (i : Nat), fnd M k i = none ↔ k ∉ M.map Prod.fst
  | [], k, i => by simp [fnd]
  | (k', v) :: M, k, i => by
    unfold fnd
    by_cases e : k = k'
    · simp [e]
    · rw [if_neg e, fnd_none M k (i + 1)]
      simp [e]
theorem put_keys (M : List (Int × Pl)) (k : Int) (v : Pl) : (k ∈ M.map Prod.fst ∧ (putP M k v).map Prod.fst = M.map Prod.fst) ∨ (k ∉ M.map Prod.fst ∧ (putP M k v).map Prod.fst = M.map Prod.fst ++ [k]) := by
  unfold putP
  cases hf : fnd M k 0 with
  | none => exact .inr ⟨(fnd_none M k 0).1 hf, by simp⟩
  | some p =>
    obtain ⟨i, v0⟩ := p
    obtain ⟨h1, h2, h3⟩ := fnd_le M k 0 i v0 hf
    simp at h2 h3
    refine .inl ⟨?_, ?_⟩
    · apply Classical.byContradiction
      intro hn
      rw [(fnd_none M k 0).2 hn] at hf
      cases hf
    · rw [List.map_set]
      apply List.ext_getElem?
      intro j
      rw [List.getElem?_set]
      split
      · rename_i e
        subst e
        have := List.getElem?_eq_some_iff.1 h3
        obtain ⟨q1, q2⟩ := this
        simp [h2, h3, q2]
      · rfl
theorem put_nd {M : List (Int × Pl)} (k : Int) (v : Pl) (h : (M.map Prod.fst).Nodup) : ((putP M k v).map Prod.fst).Nodup := by
  rcases put_keys M k v with ⟨_, e⟩ | ⟨hn, e⟩
  · rw [e]; exact h
  · rw [e, List.nodup_append]
    exact ⟨h, by simp, fun a ha b hb => by simp at hb; subst hb; exact fun e => hn (e ▸ ha)⟩
theorem put_len (M : List (Int × Pl)) (k : Int) (v : Pl) : (putP M k v).length ≤ M.length + 1 ∧ (k ∈ M.map Prod.fst → (putP M k v).length = M.length) := by
  have e0 : (putP M k v).length = ((putP M k v).map Prod.fst).length := by simp
  rcases put_keys M k v with ⟨hm, e⟩ | ⟨hn, e⟩
  · rw [e0, e]; simp
  · rw [e0, e]; exact ⟨by simp, fun h => (hn h).elim⟩
theorem put_mem (M : List (Int × Pl)) (k x : Int) (v : Pl) (h : x ∈ M.map Prod.fst ∨ x = k) : x ∈ (putP M k v).map Prod.fst := by
  rcases put_keys M k v with ⟨hm, e⟩ | ⟨hn, e⟩
  · rw [e]; rcases h with h | h; exact h; subst h; exact hm
  · rw [e]; rcases h with h | h; simp only [List.mem_append]; exact .inl h; subst h; simp
section
variable {w0 w w' : World} {base S mb : Nat} {dv : Value} {ds : List Dd} {n m : Nat} {rc : Int → Bool}
theorem SwS.touch (h : SwS w0 w base S mb dv ds n (n + 1) rc) (hN : Now ds n) (hn : n < 4096) (hk : kdN ds n = 3 ∨ kdN ds n = 4) : Calls Try.prog 51 #[.pointer (some ⟨S, 0, none⟩), .int .i64 (doer ds n : Nat), .agg #[.int .i64 (kdN ds n), .int .i64 (lcN ds n)]] w fun e w' => e = .returned (.bool (rcB ds n)) ∧ SwS w0 w' base S mb dv ds (n + 1) (n + 1) rc ∧ Keeps (Fp w base) w w' := by
  obtain ⟨U, M, A, gu, cu, gm, cm, gl, cl, ga, ca, vd, rt, d, PM, h1, h2, h3, h4, h5, h6, h7⟩ := h.ex
  obtain ⟨t, r, hb, hid, hdo⟩ := hN.top
  have hc := hN.cnt
  have hlt : ∀ L, (lookP PM L).w < cntB ds n ∧ (lookP PM L).r < cntB ds n := fun L => by
    constructor
    · rcases h6.wh L with e | ⟨a, a1, a2, a3, a4⟩
      · have := hN.bin.pos; omega
      · rw [← a4]; exact hN.bin.doers a a1
    · rcases h6.rh L with e | ⟨a, a1, a2, a3, a4⟩
      · have := hN.bin.pos; omega
      · rw [← a4]; exact hN.bin.doers a a1
  have hT : doer ds n < cntB ds n := by
    rw [hdo]
    have h3' := h3
    rw [hb] at h3'
    exact h3'.lt _ (mem_all_P (b := t) (by simp) hid)
  have hlate : ∀ x, x < cntB ds n → (M.getD (rt x) false = true ↔ Late (bgN ds n) x) := fun x hx => h3.r.late (hN.all x hx)
  have hboth : ∀ x, x < cntB ds n → bothT M rt x (doer ds n) = bothV (bgN ds n) x (doer ds n) := fun x hx => by
    unfold bothT bothV
    by_cases e : Late (bgN ds n) x
    · rw [if_pos ((hlate x hx).2 e), if_pos e]
    · rw [if_neg (fun e2 => e ((hlate x hx).1 e2)), if_neg e]
  have hrace : raceT M rt PM (kdN ds n) (lcN ds n) = rcB ds n := by
    rw [Bool.eq_iff_iff, rcB_iff]
    unfold raceT
    rcases hk with e | e
    · rw [if_neg (by omega), hlate _ (hlt _).1]
      exact race_read hN.inv hN.bin h6 hN.ne e
    · rw [if_pos e, Bool.or_eq_true, hlate _ (hlt _).1, hlate _ (hlt _).2]
      exact race_write hN.inv hN.bin h6 hN.ne e
  refine (touch_ok w base S gu cu gm cm gl cl ga ca (doer ds n) mb U (actN ds n) (dnN ds (n + 1)) M A vd dv rt d PM (kdN ds n) (lcN ds n) h1 h5 h2 (by omega) (by rw [h4]; exact (hlt _).1) (by rw [h4]; exact (hlt _).2) (by omega) hk h.b3 h.b2).mono ?_
  rintro e w' ⟨rfl, ⟨U', g1, g2, g3⟩, g4, g5⟩
  have hbn : bgN ds (n + 1) = bgN ds n := bg_same hk (by rw [hb]; simp)
  have hcn : cntB ds (n + 1) = cntB ds n := by
    show (if kdN ds n = 0 then _ else _) = _
    rw [if_neg (by omega)]
  have hact : actN ds (n + 1) = actN ds n := by unfold actN; rw [hbn]
  have hB := h3
  rw [← hbn, ← hcn] at hB
  have hpl : PlOk ds (putP PM (lcN ds n) (newP M rt PM (kdN ds n) (lcN ds n) (doer ds n))) (n + 1) rc := by
    refine ⟨put_nd _ _ h7.nd, by have := (put_len PM (lcN ds n) (newP M rt PM (kdN ds n) (lcN ds n) (doer ds n))).1; have := h7.len; omega, fun L => ?_, fun a ha hka => ?_⟩
    · rw [look_put]
      by_cases e : L = lcN ds n
      · rw [if_pos e, ← h7.rc L, e]
        unfold newP
        split <;> rfl
      · rw [if_neg e]; exact h7.rc L
    · apply put_mem
      by_cases e : a = n
      · subst e; exact .inr rfl
      · exact .inl (h7.tch a (by omega) hka)
  have hstd : Std ds (n + 1) (fun L => (lookP (putP PM (lcN ds n) (newP M rt PM (kdN ds n) (lcN ds n) (doer ds n))) L).w) (fun L => (lookP (putP PM (lcN ds n) (newP M rt PM (kdN ds n) (lcN ds n) (doer ds n))) L).r) := by
    rcases hk with e | e
    · have h8 := h6.read hN.bin hN.ne e
      have e1 : (fun L => (lookP (putP PM (lcN ds n) (newP M rt PM (kdN ds n) (lcN ds n) (doer ds n))) L).w) = fun L => (lookP PM L).w := by
        funext L
        rw [look_put]
        by_cases eL : L = lcN ds n
        · rw [if_pos eL, eL]; unfold newP; rw [if_neg (by omega)]
        · rw [if_neg eL]
      have e2 : (fun L => (lookP (putP PM (lcN ds n) (newP M rt PM (kdN ds n) (lcN ds n) (doer ds n))) L).r) = updZ (fun L => (lookP PM L).r) (lcN ds n) (bothV (bgN ds n) (lookP PM (lcN ds n)).r (doer ds n)) := by
        funext L
        rw [look_put]
        unfold updZ
        by_cases eL : L = lcN ds n
        · rw [if_pos eL, if_pos eL]; unfold newP; rw [if_neg (by omega)]; exact hboth _ (hlt _).2
        · rw [if_neg eL, if_neg eL]
      rw [e1, e2]
      exact h8
    · have h8 := h6.write hN.bin hN.ne e
      have e1 : (fun L => (lookP (putP PM (lcN ds n) (newP M rt PM (kdN ds n) (lcN ds n) (doer ds n))) L).r) = fun L => (lookP PM L).r := by
        funext L
        rw [look_put]
        by_cases eL : L = lcN ds n
        · rw [if_pos eL, eL]; unfold newP; rw [if_pos (by omega)]
        · rw [if_neg eL]
      have e2 : (fun L => (lookP (putP PM (lcN ds n) (newP M rt PM (kdN ds n) (lcN ds n) (doer ds n))) L).w) = updZ (fun L => (lookP PM L).w) (lcN ds n) (bothV (bgN ds n) (lookP PM (lcN ds n)).w (doer ds n)) := by
        funext L
        rw [look_put]
        unfold updZ
        by_cases eL : L = lcN ds n
        · rw [if_pos eL, if_pos eL]; unfold newP; rw [if_pos (by omega)]; exact hboth _ (hlt _).1
        · rw [if_neg eL, if_neg eL]
      rw [e1, e2]
      exact h8
  exact ⟨by rw [hrace], ⟨⟨U', M, A, gu, cu, gm, cm, gl, cl, ga, ca, vd, rt, d, _, by rw [hact]; exact g1, g2, hB, by rw [g3, h4, hcn], g4, hstd, hpl⟩, h.kp.trans (Fp.low g5) (fun i e _ => e), h.b1, h.b2, Nat.le_trans h.b3 g5.size⟩, g5⟩
end
end Go.Proofs.Ytolhojagbiaamab
/-! The sweep goes through the deeds, and tells those that have races with earlier ones. -/
namespace Go.Proofs.Ytolhojagbiaamab
set_option linter.unusedVariables false
set_option maxRecDepth 20000
set_option linter.unusedSimpArgs false
open Go.RowKit Go.HeapKit

theorem doer_same {ds : List Dd} {n : Nat} (hN : Now ds n) (hk : ¬ kdN ds n = 0 ∧ ¬ kdN ds n = 1) : doer ds (n + 1) = doer ds n := by
  obtain ⟨t, r, hb, _, hdo⟩ := hN.top
  have hb' : bgN ds (n + 1) = stepB (kdN ds n) (cntB ds n) (bgN ds n) := rfl
  rw [hdo]
  unfold doer
  rw [hb', hb]
  by_cases k2 : kdN ds n = 2
  · rw [k2, sb2]; rfl
  · rw [sb3 _ _ _ _ hk.1 hk.2 k2]; rfl
theorem not_rcB {ds : List Dd} {n : Nat} (hk : ¬ kdN ds n = 3 ∧ ¬ kdN ds n = 4) : rcB ds n = false := by
  cases h : rcB ds n with
  | false => rfl
  | true =>
    obtain ⟨a, _, _, h3, _⟩ := (rcB_iff ds n).1 h
    rcases h3 with e | e
    · exact (hk.1 e).elim
    · exact (hk.2 e).elim
theorem seen_deed {w : World} {a : Option Addr} {N : Nat} {ds : List Dd} (h : Seen w a N ds) {n : Nat} (hn : n < N) : ∃ b off, a = some ⟨b, off, none⟩ ∧ b < w.heap.size ∧ w.cell? ⟨b, off + n * 2, none⟩ = some (.int .i64 (kdN ds n)) ∧ w.cell? ⟨b, off + n * 2 + 1, none⟩ = some (.int .i64 (lcN ds n)) := by
  obtain ⟨b, off, x, h1, h2, h3, h4⟩ := h.elem hn
  refine ⟨b, off, h1, h2, ?_, ?_⟩
  · unfold kdN; rw [getD_of h3]; exact h4.c0
  · unfold lcN; rw [getD_of h3]; exact h4.c1
attribute [local go_sem] Oper.semAt_some
set_option maxHeartbeats 4000000 in
theorem seconds_ok (l mm : Nat) (w0 w : World) (base S mb : Nat) (a : Option Addr) (N cN : Nat) (ds : List Dd) (rc0 : Int → Bool) (hF : Fine ds) (hlen : N = ds.length) (hN : N ≤ 4096) (hs : ∀ W, Keeps (fun i => base ≤ i) w0 W → Seen W a N ds)
    (B : World → Prop) (Jx : Nat → World → Prop) (Rc : Nat → (Int → Bool) → Prop) (hno : ∀ n rc, n < N → Rc n rc → rcB ds n = false → Rc (n + 1) rc)
    (hY : ∀ n rc W, n < N → Rc n rc → rcB ds n = true → SwS w0 W base S mb (.slice a N cN) ds (n + 1) (n + 1) rc → B W → YieldAt Fence.wide mm Try.prog l #[.int .i64 n] W fun e W' =>
      (e = .returned (.bool true) ∧ (∃ rc', Rc (n + 1) rc' ∧ SwS w0 W' base S mb (.slice a N cN) ds (n + 1) (n + 1) rc') ∧ B W') ∨ (e = .returned (.bool false) ∧ Jx n W'))
    (hB : ∀ W W', Keeps (Fp W base) W W' → B W → B W') (h : SwS w0 w base S mb (.slice a N cN) ds 0 0 rc0) (hR : Rc 0 rc0) (hBw : B w) :
    Calls Try.prog 38 #[.pointer (some ⟨S, 0, none⟩), .func (.yield l) #[] #[]] w fun e W' => (∃ v, e = .returned v) ∧ ((∃ rc, Rc N rc ∧ SwS w0 W' base S mb (.slice a N cN) ds N N rc ∧ B W') ∨ ∃ n, n < N ∧ Jx n W') := by
  have HH : Hid (SwS w0 w base S mb (.slice a N cN) ds 0 0 rc0 ∧ Rc 0 rc0 ∧ B w) := ⟨h, hR, hBw⟩
  have HP : Hid (Fine ds ∧ N = ds.length ∧ ∀ W, Keeps (fun i => base ≤ i) w0 W → Seen W a N ds) := ⟨hF, hlen, hs⟩
  have HNo : Hid (∀ n rc, n < N → Rc n rc → rcB ds n = false → Rc (n + 1) rc) := hno
  have HY : Hid (∀ n rc W, n < N → Rc n rc → rcB ds n = true → SwS w0 W base S mb (.slice a N cN) ds (n + 1) (n + 1) rc → B W → YieldAt Fence.wide mm Try.prog l #[.int .i64 n] W fun e W' =>
      (e = .returned (.bool true) ∧ (∃ rc', Rc (n + 1) rc' ∧ SwS w0 W' base S mb (.slice a N cN) ds (n + 1) (n + 1) rc') ∧ B W') ∨ (e = .returned (.bool false) ∧ Jx n W')) := hY
  have HB : Hid (∀ W W', Keeps (Fp W base) W W' → B W → B W') := hB
  obtain ⟨n₀, hn₀⟩ : ∃ n₀ : Nat, n₀ = N := ⟨_, rfl⟩
  have HN0 : Hid (n₀ = N) := hn₀
  clear h hR hBw hF hlen hs hno hY hB hn₀
  go_enter Try.func38, Try.ntmps38
  go_wp2_with fail
  go_step3
  go_wp2_with fail
  go_step3
  go_wp2_with fail
  go_loopg [4, 5, 6, 7] n₀ (fun gk s4 _ _ _ wr => ∃ (n : Nat) (rc : Int → Bool), gk + n = N ∧ s4 = .int .i64 n ∧ Rc n rc ∧ SwS w0 wr base S mb (.slice a N cN) ds n n rc ∧ B wr)
  case atStart => exact ⟨0, rc0, HN0.out, rfl, HH.out.2.1, HH.out.1, HH.out.2.2⟩
  case round =>
    clear HH HN0
    obtain ⟨n0, rc, hgk, rfl, hR, hS, hBr⟩ := hrel
    have hNow := HP.out.1.now n0 (by rw [← HP.out.2.1]; omega)
    obtain ⟨ga, q, ca, c4, c4q, hq, c0⟩ := hS.top hNow (by omega)
    generalize wr = W0 at *
    have HS : Hid (Rc n0 rc ∧ SwS w0 W0 base S mb (.slice a N cN) ds n0 n0 rc ∧ B W0) := ⟨hR, hS, hBr⟩
    clear hR hS hBr hNow
    by_cases hlt : n0 < N
    · have i1 : (n0 : Int) < (N : Int) := by omega
      have i2 : IntKind.i64.wrap (((q + 1 : Nat) : Int) - 1) = (q : Int) := by rw [IntWalk.i64_left]; unfold wrap64; omega
      have i3 : (q : Int) < ((q + 1 : Nat) : Int) := by omega
      go_upto_region 2 with fail
      obtain ⟨t, ht⟩ : ∃ t : Nat, t = doer ds n0 := ⟨_, rfl⟩
      rw [← ht] at c4q
      have HT : Hid (doer ds n0 = t) := ht.symm
      clear ht
      go_cut [5] (fun s5 wx => s5 = .int .i64 (t : Nat) ∧ wx = W0.drew)
      case first =>
        go_region
        all_goals (go_wp2_with fail; go_meet)
        all_goals exact ⟨rfl, rfl⟩
      case rest =>
      obtain ⟨rfl, hwc⟩ := hcut
      have HS1 : Hid (Rc n0 rc ∧ SwS w0 wc base S mb (.slice a N cN) ds n0 n0 rc ∧ B wc) := by rw [hwc]; exact ⟨HS.out.1, HS.out.2.1.more (Keeps.drew None _), HB.out _ _ (Keeps.drew _ _) HS.out.2.2⟩
      clear hwc HS c4 c4q c0 i2 i3
      obtain ⟨n₁, hn₁⟩ : ∃ n₁ : Nat, n₁ = gk := ⟨_, rfl⟩
      have HN1 : Hid (n₁ = gk) := hn₁
      clear hn₁
      go_wp2_with fail
      go_loopg [4, 6, 7] n₁ (fun gj s4 _ _ wr => ∃ (n : Nat) (rc : Int → Bool), gj + n = N ∧ n0 ≤ n ∧ s4 = .int .i64 n ∧ Hid (doer ds n = t) ∧ Rc n rc ∧ SwS w0 wr base S mb (.slice a N cN) ds n n rc ∧ B wr)
      case atStart => exact ⟨n0, rc, by rw [HN1.out]; exact hgk, Nat.le_refl _, rfl, HT.out, HS1.out⟩
      case round =>
        clear HS1 HN1 HT
        obtain ⟨n, rc, hgj, hn0, rfl, HT, hR, hS, hBr⟩ := hrel
        have hNow := HP.out.1.now n (by rw [← HP.out.2.1]; omega)
        obtain ⟨ga, q, ca, c4, c4q, hq, c0⟩ := hS.top hNow (by omega)
        clear c4 c4q hq
        generalize wr = W0 at *
        by_cases hlt2 : n < N
        · obtain ⟨vd, g, c, w1, c5, hr, x1, x2, hS1, hk1⟩ := hS.doers (by omega)
          rw [HT.out] at hr
          have hB1 : B (w1.setCell ⟨S, 5, none⟩ (.slice (some ⟨g, 0, none⟩) (n + 1) c)) := HB.out _ _ hk1 hBr
          obtain ⟨W1, hW1⟩ : ∃ W1, W1 = w1.setCell ⟨S, 5, none⟩ (.slice (some ⟨g, 0, none⟩) (n + 1) c) := ⟨_, rfl⟩
          have HW1 : Hid (W1 = w1.setCell ⟨S, 5, none⟩ (.slice (some ⟨g, 0, none⟩) (n + 1) c)) := hW1
          rw [← hW1] at hS1 hB1 hk1
          have HS1 : Hid (Rc n rc ∧ SwS w0 W1 base S mb (.slice a N cN) ds n (n + 1) rc ∧ B W1 ∧ Now ds n) := ⟨hR, hS1, hB1, hNow⟩
          obtain ⟨vs, vc, hvd⟩ : ∃ vs vc, vd = .slice vs n vc := by
            obtain ⟨U, M, A, gu, cu, gm, cm, gl, cl, ga', ca', vd', rt, d, PM, h1, _⟩ := hS.ex
            obtain ⟨a', c', e, _⟩ := h1.rd.shape
            have h5 := h1.b5
            rw [c5] at h5
            injection h5 with h5
            exact ⟨a', c', by rw [h5, e, natZ_lenB, dnN_len]⟩
          subst hvd
          have i1 : (n : Int) < (N : Int) := by omega
          clear hR hS hBr hS1 hB1 hk1 hW1 hNow
          go_upto_region 7 with (at_builtin; refine wpList_append_run rfl (.tmp 41) (.tmp 43) 35 35 rfl rfl rfl hr ?_)
          rw [← HW1.out]
          clear hr x1 x2 c5 c0 HW1
          obtain ⟨bb, off, rfl, hbb, e0, e1⟩ := seen_deed (HP.out.2.2 W1 HS1.out.2.1.kp) hlt2
          obtain ⟨ga, q, ca, c4, c4q, hq, c0⟩ := HS1.out.2.1.top HS1.out.2.2.2 (by omega)
          clear c4 c4q hq hbb
          obtain ⟨kd, hkd⟩ : ∃ kd, kd = kdN ds n := ⟨_, rfl⟩
          obtain ⟨lc, hlc⟩ : ∃ lc, lc = lcN ds n := ⟨_, rfl⟩
          rw [← hkd] at e0
          rw [← hlc] at e1
          have HK : Hid (kd = kdN ds n ∧ lc = lcN ds n) := ⟨hkd, hlc⟩
          clear hkd hlc
          go_upto_region 8 with fail
          have kA := Keeps.alloc None W1 (.cells #[.int .i64 kd, .int .i64 lc] 26)
          have bX := heap_alloc_new W1 (.cells #[.int .i64 kd, .int .i64 lc] 26)
          have hS2 := HS1.out.2.1.more kA
          have hB2 := HB.out _ _ (kA.mono (T := Fp W1 base) (fun _ f _ => f.elim)) HS1.out.2.2.1
          obtain ⟨W2, hW2⟩ : ∃ W2, W2 = W1.alloc (.cells #[.int .i64 kd, .int .i64 lc] 26) := ⟨_, rfl⟩
          obtain ⟨X, hX⟩ : ∃ X, X = W1.heap.size := ⟨_, rfl⟩
          rw [← hW2] at bX hS2 hB2 ⊢
          rw [← hX] at bX ⊢
          have HS2 : Hid (Rc n rc ∧ SwS w0 W2 base S mb (.slice (some ⟨bb, off, none⟩) N cN) ds n (n + 1) rc ∧ B W2 ∧ Now ds n) := ⟨HS1.out.1, hS2, hB2, HS1.out.2.2.2⟩
          have z0 : W2.cell? ⟨X, 0, none⟩ = some (.int .i64 kd) := cell_of_heap bX 0
          have z1 : W2.cell? ⟨X, 1, none⟩ = some (.int .i64 lc) := cell_of_heap bX 1
          obtain ⟨r1, r2, r3⟩ := HP.out.1.kind (n := n) (by rw [← HP.out.2.1]; exact hlt2)
          rw [← HK.out.1] at r1 r2 r3
          clear hS2 hB2 hW2 hX kA HS1 e0 e1 c0 i1 bX
          rcases (by omega : kd = 0 ∨ kd = 1 ∨ kd = 2 ∨ kd = 3 ∨ kd = 4) with rfl | rfl | rfl | hk34
          · obtain ⟨ga, ca, q, hq, hq2, c4, hbeg⟩ := HS2.out.2.1.spawn HS2.out.2.2.2 (by omega) HK.out.1.symm
            obtain ⟨T, hT⟩ : ∃ T : Nat, T = cntB ds n := ⟨_, rfl⟩
            rw [← hT] at hbeg
            have HBg : Hid _ := hbeg
            have HQ : Hid (q ≤ 4097 ∧ q = (actN ds n).length ∧ T = cntB ds n) := ⟨hq, hq2, hT⟩
            clear hbeg hT hq2
            go_upto_region 11 with fail
            go_cut [] (fun wx => SwS w0 wx base S mb (.slice (some ⟨bb, off, none⟩) N cN) ds (n + 1) (n + 1) rc ∧ B wx)
            case first =>
              refine wp_region_held_drew (S := (fun _ => True)) (by kernel_rfl) ?_ (fun hHeld => ?_)
              · (try dsimp only); try trivial
              refine wpAnyH_take (i := 0) (oi := { dst := some 68, op := Op.move (Operand.tmp 0), type := 68, pos := "sweep.go:71", after := #[], guard := none }) (v := ?_) rfl (by kernel_rfl) (by kernel_rfl) (by kernel_rfl) (fun _ _ _ h => h) (Or.inl ⟨by rfl, ?_⟩) (by assumption) ?_
              rotate_left
              · (intro wz hSw; (try dsimp only at hSw); go_simp; try with_reducible rfl)
              simp only [Act.put, List.setIfInBounds_toArray, List.set_cons_zero, List.set_cons_succ]
              refine wpAnyH_take (i := 1) (oi := { dst := some 69, op := Op.move (Operand.tmp 0), type := 68, pos := "sweep.go:71", after := #[], guard := none }) (v := ?_) rfl (by kernel_rfl) (by kernel_rfl) (by kernel_rfl) (fun _ _ _ h => h) (Or.inl ⟨by rfl, ?_⟩) (by assumption) ?_
              rotate_left
              · (intro wz hSw; (try dsimp only at hSw); go_simp; try with_reducible rfl)
              simp only [Act.put, List.setIfInBounds_toArray, List.set_cons_zero, List.set_cons_succ]
              refine wpAnyH_take (i := 2) (oi := { dst := some 70, op := Op.nilCheck (Operand.tmp 69), type := 0, pos := "sweep.go:71", after := #[{ on := 1, ground := Ground.data }], guard := none }) (v := ?_) rfl (by kernel_rfl) (by kernel_rfl) (by kernel_rfl) (fun _ _ _ h => h) (Or.inl ⟨by rfl, ?_⟩) (by assumption) ?_
              rotate_left
              · (intro wz hSw; (try dsimp only at hSw); go_simp; try with_reducible rfl)
              simp only [Act.put, List.setIfInBounds_toArray, List.set_cons_zero, List.set_cons_succ]
              refine wpAnyH_take (i := 3) (oi := { dst := some 71, op := Op.fieldAddr 77 (Operand.tmp 70) 2, type := 0, pos := "sweep.go:71", after := #[{ on := 2, ground := Ground.data }], guard := none }) (v := ?_) rfl (by kernel_rfl) (by kernel_rfl) (by kernel_rfl) (fun _ _ _ h => h) (Or.inl ⟨by rfl, ?_⟩) (by assumption) ?_
              rotate_left
              · (intro wz hSw; (try dsimp only at hSw); go_simp; try with_reducible rfl)
              simp only [Act.put, List.setIfInBounds_toArray, List.set_cons_zero, List.set_cons_succ]
              refine wpAnyH_take (i := 5) (oi := { dst := some 73, op := Op.move (Operand.tmp 0), type := 68, pos := "sweep.go:71", after := #[], guard := none }) (v := ?_) rfl (by kernel_rfl) (by kernel_rfl) (by kernel_rfl) (fun _ _ _ h => h) (Or.inl ⟨by rfl, ?_⟩) (by assumption) ?_
              rotate_left
              · (intro wz hSw; (try dsimp only at hSw); go_simp; try with_reducible rfl)
              simp only [Act.put, List.setIfInBounds_toArray, List.set_cons_zero, List.set_cons_succ]
              refine wpAnyH_take (i := 6) (oi := { dst := some 74, op := Op.nilCheck (Operand.tmp 73), type := 0, pos := "sweep.go:71", after := #[{ on := 5, ground := Ground.data }], guard := none }) (v := ?_) rfl (by kernel_rfl) (by kernel_rfl) (by kernel_rfl) (fun _ _ _ h => h) (Or.inl ⟨by rfl, ?_⟩) (by assumption) ?_
              rotate_left
              · (intro wz hSw; (try dsimp only at hSw); go_simp; try with_reducible rfl)
              simp only [Act.put, List.setIfInBounds_toArray, List.set_cons_zero, List.set_cons_succ]
              refine wpAnyH_take (i := 7) (oi := { dst := some 75, op := Op.fieldAddr 77 (Operand.tmp 74) 1, type := 0, pos := "sweep.go:71", after := #[{ on := 6, ground := Ground.data }], guard := none }) (v := ?_) rfl (by kernel_rfl) (by kernel_rfl) (by kernel_rfl) (fun _ _ _ h => h) (Or.inl ⟨by rfl, ?_⟩) (by assumption) ?_
              rotate_left
              · (intro wz hSw; (try dsimp only at hSw); go_simp; try with_reducible rfl)
              simp only [Act.put, List.setIfInBounds_toArray, List.set_cons_zero, List.set_cons_succ]
              refine wpAnyH_ready (rs := [4, 8]) (by kernel_rfl) (by simp) ?_
              refine AllReadyH.cons (o := { dst := some 72, op := Op.load 35 (Operand.tmp 71), type := 35, pos := "sweep.go:71", after := #[{ on := 3, ground := Ground.data }], guard := none }) rfl (fun K hK => ?_) ?_
              · go_simp
                refine hK.out _ _ ?_ (fun hHeld2 => ?_)
                · (try dsimp only); try trivial
                clear hK K
                try simp only [Act.put, List.setIfInBounds_toArray, List.set_cons_zero, List.set_cons_succ]
                refine wpAnyH_ready (rs := [8]) (by kernel_rfl) (by simp) ?_
                refine AllReadyH.cons (o := { dst := some 76, op := Op.call { callee := Callee.value (Operand.func 48), args := #[Operand.tmp 75], argTypes := #[74] }, type := 3, pos := "sweep.go:71", after := #[{ on := 7, ground := Ground.data }], guard := none }) rfl (fun K hK => ?_) ?_
                · go_simp
                  refine (HBg.out _ (Keeps.drew None _)).mono ?_
                  rintro _ w3 ⟨rfl, q4, hSp, hk3⟩
                  obtain ⟨g2, c2, w4, hr2, y1, y2, hS4, hk4⟩ := hSp.app HS2.out.2.2.2 HK.out.1.symm HQ.out.1 HQ.out.2.1
                  rw [← HQ.out.2.2] at hr2
                  have HF : Hid (SwS w0 (w4.setCell ⟨S, 4, none⟩ (.slice (some ⟨g2, 0, none⟩) (q + 1) c2)) base S mb (.slice (some ⟨bb, off, none⟩) N cN) ds (n + 1) (n + 1) rc ∧ B (w4.setCell ⟨S, 4, none⟩ (.slice (some ⟨g2, 0, none⟩) (q + 1) c2))) := ⟨hS4, HB.out _ _ hk4 (HB.out _ _ hk3 HS2.out.2.2.1)⟩
                  have q4' := (Keeps.alloc None w3 (.cells #[.int .i64 (T : Int)] 3)).cell q4 (fun f => f)
                  clear hSp hk3 hS4 hk4
                  refine hK.out _ _ ?_ (fun hHeld2 => ?_)
                  · (try dsimp only); try trivial
                  clear hK K
                  try simp only [Act.put, List.setIfInBounds_toArray, List.set_cons_zero, List.set_cons_succ]
                  refine wpAnyH_ready (rs := [9]) (by kernel_rfl) (by simp) ?_
                  refine AllReadyH.cons (o := { dst := some 77, op := Op.buildSlice 35 1 #[(0, Operand.tmp 76)], type := 35, pos := "sweep.go:71", after := #[{ on := 8, ground := Ground.data }], guard := none }) rfl (fun K hK => ?_) ?_
                  · go_simp
                    refine hK.out _ _ ?_ (fun hHeld2 => ?_)
                    · (try dsimp only); try trivial
                    clear hK K
                    try simp only [Act.put, List.setIfInBounds_toArray, List.set_cons_zero, List.set_cons_succ]
                    refine wpAnyH_ready (rs := [10]) (by kernel_rfl) (by simp) ?_
                    refine AllReadyH.cons (o := { dst := some 78, op := Op.call { callee := Callee.builtin Builtin.append, args := #[Operand.tmp 72, Operand.tmp 77], argTypes := #[35, 35] }, type := 35, pos := "sweep.go:71", after := #[{ on := 4, ground := Ground.data }, { on := 9, ground := Ground.data }, { on := 8, ground := Ground.chain }], guard := none }) rfl (fun K hK => ?_) ?_
                    · refine step_append_run rfl (.tmp 72) (.tmp 77) 35 35 rfl (by simp [Act.eval]) (by simp [Act.eval]) hr2 ?_
                      refine hK.out _ _ ?_ (fun hHeld2 => ?_)
                      · (try dsimp only); try trivial
                      clear hK K
                      try simp only [Act.put, List.setIfInBounds_toArray, List.set_cons_zero, List.set_cons_succ]
                      refine wpAnyH_take (i := 11) (oi := { dst := some 79, op := Op.nilCheck (Operand.tmp 68), type := 0, pos := "sweep.go:71", after := #[{ on := 0, ground := Ground.data }, { on := 0, ground := Ground.phase }, { on := 1, ground := Ground.phase }, { on := 2, ground := Ground.phase }, { on := 3, ground := Ground.phase }, { on := 4, ground := Ground.phase }, { on := 5, ground := Ground.phase }, { on := 6, ground := Ground.phase }, { on := 7, ground := Ground.phase }, { on := 8, ground := Ground.phase }, { on := 9, ground := Ground.phase }, { on := 10, ground := Ground.phase }], guard := none }) (v := ?_) rfl (by kernel_rfl) (by kernel_rfl) (by kernel_rfl) (fun _ _ _ h => h) (Or.inl ⟨by rfl, ?_⟩) (by assumption) ?_
                      rotate_left
                      · (intro wz hSw; (try dsimp only at hSw); go_simp; try with_reducible rfl)
                      simp only [Act.put, List.setIfInBounds_toArray, List.set_cons_zero, List.set_cons_succ]
                      refine wpAnyH_take (i := 12) (oi := { dst := some 80, op := Op.fieldAddr 77 (Operand.tmp 79) 2, type := 0, pos := "sweep.go:71", after := #[{ on := 11, ground := Ground.data }, { on := 0, ground := Ground.phase }, { on := 1, ground := Ground.phase }, { on := 2, ground := Ground.phase }, { on := 3, ground := Ground.phase }, { on := 4, ground := Ground.phase }, { on := 5, ground := Ground.phase }, { on := 6, ground := Ground.phase }, { on := 7, ground := Ground.phase }, { on := 8, ground := Ground.phase }, { on := 9, ground := Ground.phase }, { on := 10, ground := Ground.phase }], guard := none }) (v := ?_) rfl (by kernel_rfl) (by kernel_rfl) (by kernel_rfl) (fun _ _ _ h => h) (Or.inl ⟨by rfl, ?_⟩) (by assumption) ?_
                      rotate_left
                      · (intro wz hSw; (try dsimp only at hSw); go_simp; try with_reducible rfl)
                      simp only [Act.put, List.setIfInBounds_toArray, List.set_cons_zero, List.set_cons_succ]
                      refine wpAnyH_ready (rs := [13]) (by kernel_rfl) (by simp) ?_
                      refine AllReadyH.cons (o := { dst := none, op := Op.store 35 (Operand.tmp 80) (Operand.tmp 78), type := 0, pos := "sweep.go:71", after := #[{ on := 12, ground := Ground.data }, { on := 10, ground := Ground.data }, { on := 10, ground := Ground.chain }, { on := 0, ground := Ground.phase }, { on := 1, ground := Ground.phase }, { on := 2, ground := Ground.phase }, { on := 3, ground := Ground.phase }, { on := 4, ground := Ground.phase }, { on := 5, ground := Ground.phase }, { on := 6, ground := Ground.phase }, { on := 7, ground := Ground.phase }, { on := 8, ground := Ground.phase }, { on := 9, ground := Ground.phase }, { on := 10, ground := Ground.phase }], guard := none }) rfl (fun K hK => ?_) ?_
                      · go_simp
                        refine hK.out _ _ ?_ (fun hHeld2 => ?_)
                        · (try dsimp only); try trivial
                        clear hK K
                        try simp only [Act.put, List.setIfInBounds_toArray, List.set_cons_zero, List.set_cons_succ]
                        refine wpAnyH_done (by kernel_rfl) ?_ _
                        go_wp2_with fail
                        go_meet
                        exact HF.out
                      exact AllReadyH.nil
                    exact AllReadyH.nil
                  exact AllReadyH.nil
                exact AllReadyH.nil
              refine AllReadyH.cons (o := { dst := some 76, op := Op.call { callee := Callee.value (Operand.func 48), args := #[Operand.tmp 75], argTypes := #[74] }, type := 3, pos := "sweep.go:71", after := #[{ on := 7, ground := Ground.data }], guard := none }) rfl (fun K hK => ?_) ?_
              · go_simp
                refine (HBg.out _ (Keeps.drew None _)).mono ?_
                rintro _ w3 ⟨rfl, q4, hSp, hk3⟩
                obtain ⟨g2, c2, w4, hr2, y1, y2, hS4, hk4⟩ := hSp.app HS2.out.2.2.2 HK.out.1.symm HQ.out.1 HQ.out.2.1
                rw [← HQ.out.2.2] at hr2
                have HF : Hid (SwS w0 (w4.setCell ⟨S, 4, none⟩ (.slice (some ⟨g2, 0, none⟩) (q + 1) c2)) base S mb (.slice (some ⟨bb, off, none⟩) N cN) ds (n + 1) (n + 1) rc ∧ B (w4.setCell ⟨S, 4, none⟩ (.slice (some ⟨g2, 0, none⟩) (q + 1) c2))) := ⟨hS4, HB.out _ _ hk4 (HB.out _ _ hk3 HS2.out.2.2.1)⟩
                have q4' := (Keeps.alloc None w3 (.cells #[.int .i64 (T : Int)] 3)).cell q4 (fun f => f)
                clear hSp hk3 hS4 hk4
                refine hK.out _ _ ?_ (fun hHeld2 => ?_)
                · (try dsimp only); try trivial
                clear hK K
                try simp only [Act.put, List.setIfInBounds_toArray, List.set_cons_zero, List.set_cons_succ]
                refine wpAnyH_ready (rs := [4, 9]) (by kernel_rfl) (by simp) ?_
                refine AllReadyH.cons (o := { dst := some 72, op := Op.load 35 (Operand.tmp 71), type := 35, pos := "sweep.go:71", after := #[{ on := 3, ground := Ground.data }], guard := none }) rfl (fun K hK => ?_) ?_
                · go_simp
                  refine hK.out _ _ ?_ (fun hHeld2 => ?_)
                  · (try dsimp only); try trivial
                  clear hK K
                  try simp only [Act.put, List.setIfInBounds_toArray, List.set_cons_zero, List.set_cons_succ]
                  refine wpAnyH_ready (rs := [9]) (by kernel_rfl) (by simp) ?_
                  refine AllReadyH.cons (o := { dst := some 77, op := Op.buildSlice 35 1 #[(0, Operand.tmp 76)], type := 35, pos := "sweep.go:71", after := #[{ on := 8, ground := Ground.data }], guard := none }) rfl (fun K hK => ?_) ?_
                  · go_simp
                    refine hK.out _ _ ?_ (fun hHeld2 => ?_)
                    · (try dsimp only); try trivial
                    clear hK K
                    try simp only [Act.put, List.setIfInBounds_toArray, List.set_cons_zero, List.set_cons_succ]
                    refine wpAnyH_ready (rs := [10]) (by kernel_rfl) (by simp) ?_
                    refine AllReadyH.cons (o := { dst := some 78, op := Op.call { callee := Callee.builtin Builtin.append, args := #[Operand.tmp 72, Operand.tmp 77], argTypes := #[35, 35] }, type := 35, pos := "sweep.go:71", after := #[{ on := 4, ground := Ground.data }, { on := 9, ground := Ground.data }, { on := 8, ground := Ground.chain }], guard := none }) rfl (fun K hK => ?_) ?_
                    · refine step_append_run rfl (.tmp 72) (.tmp 77) 35 35 rfl (by simp [Act.eval]) (by simp [Act.eval]) hr2 ?_
                      refine hK.out _ _ ?_ (fun hHeld2 => ?_)
                      · (try dsimp only); try trivial
                      clear hK K
                      try simp only [Act.put, List.setIfInBounds_toArray, List.set_cons_zero, List.set_cons_succ]
                      refine wpAnyH_take (i := 11) (oi := { dst := some 79, op := Op.nilCheck (Operand.tmp 68), type := 0, pos := "sweep.go:71", after := #[{ on := 0, ground := Ground.data }, { on := 0, ground := Ground.phase }, { on := 1, ground := Ground.phase }, { on := 2, ground := Ground.phase }, { on := 3, ground := Ground.phase }, { on := 4, ground := Ground.phase }, { on := 5, ground := Ground.phase }, { on := 6, ground := Ground.phase }, { on := 7, ground := Ground.phase }, { on := 8, ground := Ground.phase }, { on := 9, ground := Ground.phase }, { on := 10, ground := Ground.phase }], guard := none }) (v := ?_) rfl (by kernel_rfl) (by kernel_rfl) (by kernel_rfl) (fun _ _ _ h => h) (Or.inl ⟨by rfl, ?_⟩) (by assumption) ?_
                      rotate_left
                      · (intro wz hSw; (try dsimp only at hSw); go_simp; try with_reducible rfl)
                      simp only [Act.put, List.setIfInBounds_toArray, List.set_cons_zero, List.set_cons_succ]
                      refine wpAnyH_take (i := 12) (oi := { dst := some 80, op := Op.fieldAddr 77 (Operand.tmp 79) 2, type := 0, pos := "sweep.go:71", after := #[{ on := 11, ground := Ground.data }, { on := 0, ground := Ground.phase }, { on := 1, ground := Ground.phase }, { on := 2, ground := Ground.phase }, { on := 3, ground := Ground.phase }, { on := 4, ground := Ground.phase }, { on := 5, ground := Ground.phase }, { on := 6, ground := Ground.phase }, { on := 7, ground := Ground.phase }, { on := 8, ground := Ground.phase }, { on := 9, ground := Ground.phase }, { on := 10, ground := Ground.phase }], guard := none }) (v := ?_) rfl (by kernel_rfl) (by kernel_rfl) (by kernel_rfl) (fun _ _ _ h => h) (Or.inl ⟨by rfl, ?_⟩) (by assumption) ?_
                      rotate_left
                      · (intro wz hSw; (try dsimp only at hSw); go_simp; try with_reducible rfl)
                      simp only [Act.put, List.setIfInBounds_toArray, List.set_cons_zero, List.set_cons_succ]
                      refine wpAnyH_ready (rs := [13]) (by kernel_rfl) (by simp) ?_
                      refine AllReadyH.cons (o := { dst := none, op := Op.store 35 (Operand.tmp 80) (Operand.tmp 78), type := 0, pos := "sweep.go:71", after := #[{ on := 12, ground := Ground.data }, { on := 10, ground := Ground.data }, { on := 10, ground := Ground.chain }, { on := 0, ground := Ground.phase }, { on := 1, ground := Ground.phase }, { on := 2, ground := Ground.phase }, { on := 3, ground := Ground.phase }, { on := 4, ground := Ground.phase }, { on := 5, ground := Ground.phase }, { on := 6, ground := Ground.phase }, { on := 7, ground := Ground.phase }, { on := 8, ground := Ground.phase }, { on := 9, ground := Ground.phase }, { on := 10, ground := Ground.phase }], guard := none }) rfl (fun K hK => ?_) ?_
                      · go_simp
                        refine hK.out _ _ ?_ (fun hHeld2 => ?_)
                        · (try dsimp only); try trivial
                        clear hK K
                        try simp only [Act.put, List.setIfInBounds_toArray, List.set_cons_zero, List.set_cons_succ]
                        refine wpAnyH_done (by kernel_rfl) ?_ _
                        go_wp2_with fail
                        go_meet
                        exact HF.out
                      exact AllReadyH.nil
                    exact AllReadyH.nil
                  exact AllReadyH.nil
                refine AllReadyH.cons (o := { dst := some 77, op := Op.buildSlice 35 1 #[(0, Operand.tmp 76)], type := 35, pos := "sweep.go:71", after := #[{ on := 8, ground := Ground.data }], guard := none }) rfl (fun K hK => ?_) ?_
                · go_simp
                  refine hK.out _ _ ?_ (fun hHeld2 => ?_)
                  · (try dsimp only); try trivial
                  clear hK K
                  try simp only [Act.put, List.setIfInBounds_toArray, List.set_cons_zero, List.set_cons_succ]
                  refine wpAnyH_ready (rs := [4]) (by kernel_rfl) (by simp) ?_
                  refine AllReadyH.cons (o := { dst := some 72, op := Op.load 35 (Operand.tmp 71), type := 35, pos := "sweep.go:71", after := #[{ on := 3, ground := Ground.data }], guard := none }) rfl (fun K hK => ?_) ?_
                  · go_simp
                    refine hK.out _ _ ?_ (fun hHeld2 => ?_)
                    · (try dsimp only); try trivial
                    clear hK K
                    try simp only [Act.put, List.setIfInBounds_toArray, List.set_cons_zero, List.set_cons_succ]
                    refine wpAnyH_ready (rs := [10]) (by kernel_rfl) (by simp) ?_
                    refine AllReadyH.cons (o := { dst := some 78, op := Op.call { callee := Callee.builtin Builtin.append, args := #[Operand.tmp 72, Operand.tmp 77], argTypes := #[35, 35] }, type := 35, pos := "sweep.go:71", after := #[{ on := 4, ground := Ground.data }, { on := 9, ground := Ground.data }, { on := 8, ground := Ground.chain }], guard := none }) rfl (fun K hK => ?_) ?_
                    · refine step_append_run rfl (.tmp 72) (.tmp 77) 35 35 rfl (by simp [Act.eval]) (by simp [Act.eval]) hr2 ?_
                      refine hK.out _ _ ?_ (fun hHeld2 => ?_)
                      · (try dsimp only); try trivial
                      clear hK K
                      try simp only [Act.put, List.setIfInBounds_toArray, List.set_cons_zero, List.set_cons_succ]
                      refine wpAnyH_take (i := 11) (oi := { dst := some 79, op := Op.nilCheck (Operand.tmp 68), type := 0, pos := "sweep.go:71", after := #[{ on := 0, ground := Ground.data }, { on := 0, ground := Ground.phase }, { on := 1, ground := Ground.phase }, { on := 2, ground := Ground.phase }, { on := 3, ground := Ground.phase }, { on := 4, ground := Ground.phase }, { on := 5, ground := Ground.phase }, { on := 6, ground := Ground.phase }, { on := 7, ground := Ground.phase }, { on := 8, ground := Ground.phase }, { on := 9, ground := Ground.phase }, { on := 10, ground := Ground.phase }], guard := none }) (v := ?_) rfl (by kernel_rfl) (by kernel_rfl) (by kernel_rfl) (fun _ _ _ h => h) (Or.inl ⟨by rfl, ?_⟩) (by assumption) ?_
                      rotate_left
                      · (intro wz hSw; (try dsimp only at hSw); go_simp; try with_reducible rfl)
                      simp only [Act.put, List.setIfInBounds_toArray, List.set_cons_zero, List.set_cons_succ]
                      refine wpAnyH_take (i := 12) (oi := { dst := some 80, op := Op.fieldAddr 77 (Operand.tmp 79) 2, type := 0, pos := "sweep.go:71", after := #[{ on := 11, ground := Ground.data }, { on := 0, ground := Ground.phase }, { on := 1, ground := Ground.phase }, { on := 2, ground := Ground.phase }, { on := 3, ground := Ground.phase }, { on := 4, ground := Ground.phase }, { on := 5, ground := Ground.phase }, { on := 6, ground := Ground.phase }, { on := 7, ground := Ground.phase }, { on := 8, ground := Ground.phase }, { on := 9, ground := Ground.phase }, { on := 10, ground := Ground.phase }], guard := none }) (v := ?_) rfl (by kernel_rfl) (by kernel_rfl) (by kernel_rfl) (fun _ _ _ h => h) (Or.inl ⟨by rfl, ?_⟩) (by assumption) ?_
                      rotate_left
                      · (intro wz hSw; (try dsimp only at hSw); go_simp; try with_reducible rfl)
                      simp only [Act.put, List.setIfInBounds_toArray, List.set_cons_zero, List.set_cons_succ]
                      refine wpAnyH_ready (rs := [13]) (by kernel_rfl) (by simp) ?_
                      refine AllReadyH.cons (o := { dst := none, op := Op.store 35 (Operand.tmp 80) (Operand.tmp 78), type := 0, pos := "sweep.go:71", after := #[{ on := 12, ground := Ground.data }, { on := 10, ground := Ground.data }, { on := 10, ground := Ground.chain }, { on := 0, ground := Ground.phase }, { on := 1, ground := Ground.phase }, { on := 2, ground := Ground.phase }, { on := 3, ground := Ground.phase }, { on := 4, ground := Ground.phase }, { on := 5, ground := Ground.phase }, { on := 6, ground := Ground.phase }, { on := 7, ground := Ground.phase }, { on := 8, ground := Ground.phase }, { on := 9, ground := Ground.phase }, { on := 10, ground := Ground.phase }], guard := none }) rfl (fun K hK => ?_) ?_
                      · go_simp
                        refine hK.out _ _ ?_ (fun hHeld2 => ?_)
                        · (try dsimp only); try trivial
                        clear hK K
                        try simp only [Act.put, List.setIfInBounds_toArray, List.set_cons_zero, List.set_cons_succ]
                        refine wpAnyH_done (by kernel_rfl) ?_ _
                        go_wp2_with fail
                        go_meet
                        exact HF.out
                      exact AllReadyH.nil
                    exact AllReadyH.nil
                  exact AllReadyH.nil
                exact AllReadyH.nil
              exact AllReadyH.nil
            case rest =>
            have HF : Hid (Rc (n + 1) rc ∧ _) := ⟨HNo.out n rc hlt2 HS2.out.1 (not_rcB ⟨by rw [← HK.out.1]; omega, by rw [← HK.out.1]; omega⟩), hcut⟩
            clear hcut HBg c4
            go_wp2_with fail
            go_roundg (N - (n + 1))
            case measure => omega
            case rel => exact ⟨n + 1, rc, by omega, by go_num, HF.out⟩
          · have hret := HS2.out.2.1.ret HS2.out.2.2.2 (by omega) HK.out.1.symm (r3 rfl)
            rw [HT.out] at hret
            have HRet : Hid _ := hret
            clear hret
            go_wp2_with (go_at_call 49; refine Calls.mono HRet.out ?_; rintro _ w3 ⟨rfl, hS3, hk3⟩; have HF : Hid (Rc (n + 1) rc ∧ SwS w0 w3 base S mb (.slice (some ⟨bb, off, none⟩) N cN) ds (n + 1) (n + 1) rc ∧ B w3) := ⟨HNo.out n rc hlt2 HS2.out.1 (not_rcB ⟨by rw [← HK.out.1]; omega, by rw [← HK.out.1]; omega⟩), hS3, HB.out _ _ hk3 HS2.out.2.2.1⟩; clear hS3 hk3)
            go_roundg (N - (n + 1))
            case measure => omega
            case rel => exact ⟨n + 1, rc, by omega, by go_num, HF.out⟩
          · have hw := HS2.out.2.1.sync HS2.out.2.2.2 (by omega) HK.out.1.symm
            rw [HT.out] at hw
            have HWt : Hid _ := hw
            have HD : Hid (doer ds (n + 1) = t) := (doer_same HS2.out.2.2.2 ⟨by rw [← HK.out.1]; omega, by rw [← HK.out.1]; omega⟩).trans HT.out
            clear hw
            go_wp2_with (go_at_call 50; refine Calls.mono HWt.out ?_; rintro _ w3 ⟨rfl, hS3, hk3⟩; have HF : Hid (Rc (n + 1) rc ∧ SwS w0 w3 base S mb (.slice (some ⟨bb, off, none⟩) N cN) ds (n + 1) (n + 1) rc ∧ B w3) := ⟨HNo.out n rc hlt2 HS2.out.1 (not_rcB ⟨by rw [← HK.out.1]; omega, by rw [← HK.out.1]; omega⟩), hS3, HB.out _ _ hk3 HS2.out.2.2.1⟩; clear hS3 hk3)
            go_roundg (gk - 1)
            case measure => omega
            case rel => exact ⟨n + 1, rc, by omega, by omega, by go_num, HD.out, HF.out⟩
          · have htc := HS2.out.2.1.touch HS2.out.2.2.2 (by omega) (by rw [← HK.out.1]; exact hk34)
            rw [HT.out, ← HK.out.1, ← HK.out.2] at htc
            have HD : Hid (doer ds (n + 1) = t) := (doer_same HS2.out.2.2.2 ⟨by rw [← HK.out.1]; omega, by rw [← HK.out.1]; omega⟩).trans HT.out
            have j0 : (kd == 0) = false := by simp; omega
            have j1 : (kd == 1) = false := by simp; omega
            have j2 : (kd == 2) = false := by simp; omega
            cases hrc : rcB ds n with
            | false =>
              rw [hrc] at htc
              have HTc : Hid _ := htc
              have HR : Hid (rcB ds n = false) := hrc
              clear htc hrc
              go_wp2_with (go_at_call 51; refine Calls.mono HTc.out ?_; rintro _ w3 ⟨rfl, hS3, hk3⟩; have HF : Hid (Rc (n + 1) rc ∧ SwS w0 w3 base S mb (.slice (some ⟨bb, off, none⟩) N cN) ds (n + 1) (n + 1) rc ∧ B w3) := ⟨HNo.out n rc hlt2 HS2.out.1 HR.out, hS3, HB.out _ _ hk3 HS2.out.2.2.1⟩; clear hS3 hk3)
              go_roundg (gk - 1)
              case measure => omega
              case rel => exact ⟨n + 1, rc, by omega, by omega, by go_num, HD.out, HF.out⟩
            | true =>
              rw [hrc] at htc
              have HTc : Hid _ := htc
              have HR : Hid (rcB ds n = true) := hrc
              clear htc hrc
              go_upto_region 9 with fail
              go_cut [65] (fun s65 wx => (s65 = .bool false ∧ ∃ rc', Rc (n + 1) rc' ∧ SwS w0 wx base S mb (.slice (some ⟨bb, off, none⟩) N cN) ds (n + 1) (n + 1) rc' ∧ B wx) ∨ (s65 = .bool true ∧ Jx n wx))
              case first =>
                refine (wpIn_wide (n := mm + 1)).1 ?_
                have HTi : Hid _ := (callsIn_wide (n := mm)).2 HTc.out
                gi_wp2_with (refine ⟨trivial, ?_⟩; gi_at_call 51; refine CallsIn.mono HTi.out ?_; rintro _ w3 ⟨rfl, hS3, hk3⟩; obtain ⟨fn, tmps, assign, body, hy, hR⟩ := HY.out n rc w3 hlt2 HS2.out.1 HR.out hS3 (HB.out _ _ hk3 HS2.out.2.2.1); clear hS3 hk3)
                refine hR.mono ?_
                rintro e W3 (⟨rfl, ⟨rc', hR', hS'⟩, hB'⟩ | ⟨rfl, hJ'⟩)
                · have HF : Hid _ := And.intro hR' (And.intro hS' hB')
                  clear hR' hS' hB'
                  gi_wp2_with fail
                  go_meet
                  exact .inl ⟨rfl, rc', HF.out⟩
                · have HF : Hid _ := hJ'
                  clear hJ'
                  gi_wp2_with fail
                  go_meet
                  exact .inr ⟨rfl, HF.out⟩
              case rest =>
              rcases hcut with ⟨rfl, rc', hF⟩ | ⟨rfl, hJ⟩
              · have HF : Hid _ := hF
                clear hF
                go_wp2_with fail
                go_roundg (gk - 1)
                case measure => omega
                case rel => exact ⟨n + 1, rc', by omega, by omega, by go_num, HD.out, HF.out⟩
              · have HJ : Hid _ := hJ
                clear hJ
                go_wp2_with fail
                refine bodyPost_ret (results_none rfl _ _ _) rfl ?_
                exact ⟨⟨_, rfl⟩, .inr ⟨n, hlt2, HJ.out⟩⟩
        · obtain rfl : n = N := by omega
          have i1 : ¬ (n : Int) < (n : Int) := by omega
          have HR : Hid (Rc n rc ∧ SwS w0 W0 base S mb (.slice a n cN) ds n n rc ∧ B W0) := ⟨hR, hS, hBr⟩
          clear hR hS hBr hNow
          go_wp2_with fail
          go_roundg 0
          case measure => omega
          case rel => exact ⟨n, rc, by omega, rfl, HR.out⟩
    · obtain rfl : n0 = N := by omega
      have i1 : ¬ (n0 : Int) < (n0 : Int) := by omega
      clear c4 c4q
      go_wp2_with fail
      first | (rw [Exit.noGoto_ret]; go_ret) | go_end0 | go_ret
      exact ⟨⟨_, rfl⟩, .inl ⟨rc, HS.out⟩⟩
end Go.Proofs.Ytolhojagbiaamab
/-! A range over the sweep: the iterator's state lies in memory that the body changes too. -/
namespace Go.Proofs.Ytolhojagbiaamab
set_option linter.unusedVariables false
set_option maxRecDepth 20000
set_option linter.unusedSimpArgs false
open Go.RowKit Go.HeapKit

/-- The book-keeping is kept. -/
def BkK (W W' : World) : Prop := ∀ (i : Nat) (o : Obj), W.heap[i]? = some o → bookO o = true → W'.heap[i]? = some o
theorem BkK.of_fp {W W' : World} {base : Nat} (h : Keeps (Fp W base) W W') : BkK W W' := fun i o hi ho => Fp.book h hi ho
theorem BkK.trans {X Y Z : World} (h : BkK X Y) (k : BkK Y Z) : BkK X Z := fun i o hi ho => k i o (h i o hi ho) ho
theorem BkK.refl (W : World) : BkK W W := fun _ _ h _ => h
theorem BkK.of_keeps {W W' : World} {T : Nat → Prop} (h : Keeps T W W') (hT : ∀ i, T i → ¬ Bk W i) : BkK W W' := fun i o hi ho => (h.block i (blk_lt hi) (fun t => hT i t ⟨o, hi, ho⟩)).trans hi
theorem keeps_putObj (W : World) (l : Nat) (o : Obj) : Keeps (· = l) W (W.putObj l o) := ⟨rfl, rfl, rfl, by simp [World.putObj], fun i hi hne => by
  show (W.heap.setIfInBounds l o)[i]? = W.heap[i]?
  rw [Array.getElem?_setIfInBounds_ne (fun e => hne e.symm)]⟩
section
variable {w0 W : World} {base S mb : Nat} {dv : Value} {ds : List Dd} {n m : Nat} {rc : Int → Bool} {l : Nat} {r r' : Loop}
theorem SwS.put (h : SwS w0 W base S mb dv ds n m rc) (hb : base ≤ l) (hl : W.heap[l]? = some (.loop r)) : SwS w0 (W.putObj l (.loop r')) base S mb dv ds n m rc := by
  obtain ⟨U, M, A, gu, cu, gm, cm, gl, cl, ga, ca, vd, rt, d, PM, h1, h2, h3, h4, h5, h6, h7⟩ := h.ex
  have hk := keeps_putObj W l (.loop r')
  have hne : ∀ (b : Nat) (c : Array Value) (ty : TypeId) (f : Nat × Nat), W.heap[b]? = some (.cells c ty f) → ¬ b = l := fun b c ty f hb e => by
    rw [e, hl] at hb
    cases hb
  obtain ⟨_, hu⟩ := h1.sets.ublk
  obtain ⟨_, hll⟩ := h1.sets.lblk
  obtain ⟨_, hmm⟩ := h1.sets.mblk
  obtain ⟨_, ha⟩ := own_block h1.ra (g := ga) rfl
  obtain ⟨_, _, hSb, _⟩ := h1.sets.blk
  have hS := hne S _ _ _ hSb
  have hm : ¬ mb = l := fun e => by
    obtain ⟨es, cl', hm, _⟩ := h5
    rw [e, hl] at hm
    cases hm
  refine ⟨⟨U, M, A, gu, cu, gm, cm, gl, cl, ga, ca, vd, rt, d, PM, ⟨h1.sets.kept hk hS (hne _ _ _ _ hu) (hne _ _ _ _ hmm) (hne _ _ _ _ hll), hk.cell h1.b0 hS, hk.cell h1.b4 hS, hk.cell h1.b5 hS, hk.cell h1.b6 hS, h1.ra.kept hk (fun g e => by simp [Value.ownBlock] at e; subst e; exact hne _ _ _ _ ha), h1.rd.kept hk (fun g e => by obtain ⟨_, hd⟩ := own_block h1.rd e; exact hne _ _ _ _ hd), h1.n1, h1.n2, h1.n3, h1.n4, h1.n5⟩, h2, h3, h4, h5.kept hk hm, h6, h7⟩, h.kp.trans hk (fun i e _ => by omega), h.b1, h.b2, Nat.le_trans h.b3 hk.size⟩
end
/-- How the body of a round may be left. -/
def roundQ (I J : World → Prop) (W : World) : Exit → Act → World → Prop
  | .normal, _, W' => BkK W W' ∧ I W'
  | .ret, _, W' => BkK W W' ∧ J W'
  | .exit _, _, _ => False
  | .goto _, _, _ => False
  | .panic _, _, _ => False
  | .outgrown, _, _ => False
theorem range_state {P : Program} {n : Nat} {g : Operand} {p0 : Tmp} {assign body : Code} {Q : Exit → Act → World → Prop} {a : Act} {w : World} (h1 : 1 ≤ n) {gf : Nat} {rv : Value} (hg : a.eval g = .func (.func gf) #[rv] #[]) (eg : ∀ args w, (callFunc gf args).run P w = .ok (.enter gf args) w)
    (Y I J : Nat → World → Prop) (Fin : World → Prop) (base : Nat)
    (pY : ∀ x W l r r', w.heap.size ≤ l → W.heap[l]? = some (.loop r) → Y x W → Y x (W.putObj l (.loop r'))) (pI : ∀ x W l r r', w.heap.size ≤ l → W.heap[l]? = some (.loop r) → I x W → I x (W.putObj l (.loop r'))) (pJ : ∀ x W l r r', w.heap.size ≤ l → W.heap[l]? = some (.loop r) → J x W → J x (W.putObj l (.loop r'))) (pF : ∀ W l r r', w.heap.size ≤ l → W.heap[l]? = some (.loop r) → Fin W → Fin (W.putObj l (.loop r')))
    (hit : ∀ (l : Nat) (B : World → Prop) (Jz : Nat → World → Prop) (W : World), Keeps None w W → (∀ W W', Keeps (Fp W base) W W' → B W → B W') → (∀ x W, Y x W → B W → YieldAt Fence.wide (n - 1 - 1) P l #[.int .i64 x] W fun e W' => (e = .returned (.bool true) ∧ I x W' ∧ B W') ∨ (e = .returned (.bool false) ∧ Jz x W')) → B W →
      CallsIn Fence.wide (n - 1) P gf #[rv, .func (.yield l) #[] #[]] W fun e W' => (∃ v, e = .returned v) ∧ ((Fin W' ∧ B W') ∨ ∃ x, Jz x W'))
    (a₁ : Nat → Act)
    (hassign : ∀ (l x : Nat) (W : World) (K : Act → World → Prop), K (a₁ x) W → assign.wpIn (Fence.wide.inRound l) (n - 1 - 1) P (Exit.then K (fun _ _ _ => False)) { tmps := a.tmps.setIfInBounds p0 (.int .i64 x), defers := [] } W)
    (hbody : ∀ (l x : Nat) (W : World), Y x W → body.wpIn (Fence.wide.inRound l) (n - 1 - 1) P (roundQ (I x) (J x) W) (a₁ x) W)
    (hdone : ∀ (D : Nat) (W : World), w.heap.size ≤ D → Fin W → W.heap[D]? = some (.deferred (some [])) → Q .normal { a with defers := { target := .collected D, args := #[] } :: a.defers } W)
    (hstop : ∀ (D x : Nat) (W : World), w.heap.size ≤ D → J x W → W.heap[D]? = some (.deferred (some [])) → Code.ret.wpIn Fence.wide n P Q { a with defers := { target := .collected D, args := #[] } :: a.defers } W) :
    (Code.rangeFunc g #[p0] assign body).wpIn Fence.wide n P Q a w := by
  refine wpIn_rangeFunc ?_
  intro fn hfn
  obtain ⟨rec, hrec⟩ : ∃ rec : LoopState → Option Code → Loop, rec = fun st pe => { state := st, pending := pe, fn, tmps := a.tmps, params := #[p0], assign, body, defers := w.heap.size } := ⟨_, rfl⟩
  obtain ⟨W1, hW1⟩ : ∃ W1, (w.alloc (.deferred (some []))).alloc (.loop (rec .ready none)) = W1 := ⟨_, rfl⟩
  have hL1 : W1.heap[w.heap.size + 1]? = some (.loop (rec .ready none)) := by
    rw [← hW1]; have := World.alloc_heap_new (w.alloc (.deferred (some []))) (.loop (rec .ready none)); rwa [World.size_alloc] at this
  have hK1 : W1.heap[w.heap.size]? = some (.deferred (some [])) := by
    rw [← hW1]; exact (Below.heap_alloc _ _ _ (by simp)).trans (World.alloc_heap_new w _)
  have hk1 : Keeps None w W1 := by rw [← hW1]; exact (Keeps.alloc None w _).trans (Keeps.alloc None _ _) (fun _ f _ => f)
  refine ⟨w.heap.size + 1, [{ target := .collected w.heap.size, args := #[] }], W1, { target := .fn (.func gf) #[], args := #[rv, .func (.yield (w.heap.size + 1)) #[] #[]] }, W1, gf,
    #[rv, .func (.yield (w.heap.size + 1)) #[] #[]], W1, ?_, ?_, ?_, ?_, fun _ => h1, ?_⟩
  · rw [← hW1, hrec]; exact run_enterLoop_outer _ _ _ _ _
  · simp only [resolve, hg]
    simp [go_sem]
  · intro f' hf'; trivial
  · simp [invoke, go_sem, eg]
  · refine (hit (w.heap.size + 1)
      (fun W => W.heap[w.heap.size + 1]? = some (.loop (rec .ready none)) ∧ W.heap[w.heap.size]? = some (.deferred (some [])))
      (fun x W => J x W ∧ W.heap[w.heap.size + 1]? = some (.loop (rec .done (some .ret))) ∧ W.heap[w.heap.size]? = some (.deferred (some [])))
      W1 hk1 (fun W W' hk hB => ⟨Fp.book hk hB.1 rfl, Fp.book hk hB.2 rfl⟩) ?_ ⟨hL1, hK1⟩).mono ?_
    · rintro x W hi ⟨hl, hk⟩
      have hlt : w.heap.size + 1 < W.heap.size := (Array.getElem?_eq_some_iff.1 hl).1
      have hy := run_yield (P := P) (args := #[.int .i64 x]) hl (by rw [hrec]; rfl)
      rw [hrec] at hy
      refine ⟨fn, _, assign, body, hy, roundIn_of_wpIn hfn ?_⟩
      have ez : (#[p0].zip #[Value.int .i64 (x : Int)]).foldl (fun t (p, v) => t.setIfInBounds p v) a.tmps = a.tmps.setIfInBounds p0 (.int .i64 x) := by simp
      simp only [ez]
      refine hassign _ x W _ ?_
      refine ⟨_, run_beginRound hl (by rw [hrec]), ?_⟩
      have hl2 : (W.putObj (w.heap.size + 1) (.loop { rec .ready none with state := .busy })).heap[w.heap.size + 1]? = some (.loop { rec .ready none with state := .busy }) := World.putObj_heap_same hlt
      have hk2 : (W.putObj (w.heap.size + 1) (.loop { rec .ready none with state := .busy })).heap[w.heap.size]? = some (.deferred (some [])) := (World.putObj_heap_other (by omega)).trans hk
      refine wpIn_mono (hbody _ x _ (pY x W _ _ _ (by omega) hl hi)) ?_
      have fin : ∀ (jump : Option Code) (W3 : World), BkK (W.putObj (w.heap.size + 1) (.loop { rec .ready none with state := .busy })) W3 →
          (Instr.endRound (w.heap.size + 1) jump).run P W3 = .ok (.bool jump.isNone) (W3.putObj (w.heap.size + 1) (.loop (rec (if jump.isNone then .ready else .done) jump))) ∧
          W3.heap[w.heap.size + 1]? = some (.loop { rec .ready none with state := .busy }) ∧
          (W3.putObj (w.heap.size + 1) (.loop (rec (if jump.isNone then .ready else .done) jump))).heap[w.heap.size + 1]? = some (.loop (rec (if jump.isNone then .ready else .done) jump)) ∧
          (W3.putObj (w.heap.size + 1) (.loop (rec (if jump.isNone then .ready else .done) jump))).heap[w.heap.size]? = some (.deferred (some [])) := fun jump W3 hk3 => by
        have hl3 := hk3 _ _ hl2 rfl
        have := run_endRound (P := P) jump hl3
        rw [hrec] at this ⊢
        exact ⟨this, by rw [hrec] at hl3; exact hl3, World.putObj_heap_same (Array.getElem?_eq_some_iff.1 hl3).1, (World.putObj_heap_other (by omega)).trans (hk3 _ _ hk2 rfl)⟩
      rintro e a3 W3 hp
      cases e with
      | normal =>
        obtain ⟨hk3, hi3⟩ := hp
        obtain ⟨hr, hl3, hl4, hk4⟩ := fin none W3 hk3
        exact ⟨_, _, hr, .inl ⟨rfl, pI x W3 _ _ _ (by omega) hl3 hi3, hl4, hk4⟩⟩
      | ret =>
        obtain ⟨hk3, hi3⟩ := hp
        obtain ⟨hr, hl3, hl4, hk4⟩ := fin (some .ret) W3 hk3
        exact ⟨_, _, hr, .inr ⟨rfl, pJ x W3 _ _ _ (by omega) hl3 hi3, hl4, hk4⟩⟩
      | exit id => exact hp.elim
      | goto t => exact hp.elim
      | panic ch => exact hp.elim
      | outgrown => exact hp.elim
    · rintro e W2 ⟨⟨v, rfl⟩, (⟨hi, hl, hk⟩ | ⟨x, hi, hl, hk⟩)⟩
      · exact ⟨none, _, by have := run_endLoop (P := P) hl (by rw [hrec]; simp); rw [hrec] at this; exact this, hdone _ _ (Nat.le_refl _) (pF _ _ _ _ (by omega) hl hi) ((World.putObj_heap_other (by omega)).trans hk)⟩
      · exact ⟨some .ret, _, by have := run_endLoop (P := P) hl (by rw [hrec]; simp); rw [hrec] at this; exact this, hstop _ x _ (Nat.le_refl _) (pJ _ _ _ _ _ (by omega) hl hi) ((World.putObj_heap_other (by omega)).trans hk)⟩
end Go.Proofs.Ytolhojagbiaamab
