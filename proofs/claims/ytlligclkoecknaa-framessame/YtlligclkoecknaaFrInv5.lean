import Derived.Test.YtlligclkoecknaaFrInv4
/-! A pick of a play keeps what holds: the children, the holder. -/
namespace Go.Proofs.Ytlligclkoecknaa
open Go.RowKit Go.HeapKit Go.IntWalk

section
variable {l : List Nat} {n r k : Nat} {S : Pl}
/-- What comes of a child's pick. -/
inductive KidTo (l : List Nat) (r k : Nat) (pre : List Actr) (l1 : List Kd) (x : Kd) (l2 : List Kd) (t : Int) (J : Nat) (S S' : Pl) : Prop
  | on (y : Kd) (B : Ar) (mk sl : Nat → Int) (u : Acc) (hy : (3 - y.ph) + 1 = 3 - x.ph) (e : S' = { S with A := B, alive := pre ++ (l1 ++ y :: l2).map (Kd.act l r) }) (hm : MemP B (frs l) t (J : Nat) mk sl) (hk : KF l r k (l1 ++ y :: l2) mk sl) (hl : B.log = S.A.log ++ [u]) (hs : Sc S.holders B.log (-1))
  | off (B : Ar) (mk sl : Nat → Int) (u : Acc) (h2 : x.ph = 2) (hJ : J ≠ 1) (e : S' = { S with A := B, alive := pre ++ (l1 ++ l2).map (Kd.act l r) }) (hm : MemP B (frs l) t ((J - 1 : Nat) : Int) mk sl) (hk : KF l r k (l1 ++ l2) mk sl) (hl : B.log = S.A.log ++ [u]) (hs : Sc S.holders B.log (-1))
  | last (B : Ar) (mk sl : Nat → Int) (u : Acc) (f : OpF) (v : Int) (h2 : x.ph = 2) (hJ : J = 1) (e : S' = { S with A := B, alive := pre ++ l1.map (Kd.act l r) ++ ⟨x.num, finO (frs l) x.j 2 v, f⟩ :: l2.map (Kd.act l r) }) (hm : MemP B (frs l) t 0 mk sl) (hk : KF l r k (l1 ++ l2) mk sl) (hl : B.log = S.A.log ++ [u]) (hs : Sc S.holders B.log x.num)

theorem kid_pick (hb : Bs l n S) (hr : r < l.length) (hkl : k ≤ l.getD r 0) {pre : List Actr} {l1 l2 : List Kd} {x : Kd} {t : Int} {J : Nat} {mk sl : Nat → Int}
    (hal : S.alive = pre ++ (l1 ++ x :: l2).map (Kd.act l r)) (hm : MemP S.A (frs l) t (J : Nat) mk sl) (hk : KF l r k (l1 ++ x :: l2) mk sl) (hJ : 1 ≤ J ∧ J ≤ 20) (hsc : Sc S.holders S.A.log (-1)) :
    (S.alive.getD (pre.length + l1.length) default).op.Fit ∧ ((S.went (pre.length + l1.length)).1.ans.1 ≠ 13 ∧ (S.went (pre.length + l1.length)).1.ans.1 ≠ 11 ∧ (S.went (pre.length + l1.length)).1.ans.1 ≠ 15) ∧
      KidTo l r k pre l1 x l2 t J S (S.pick (pre.length + l1.length)) := by
  have hF := hb.ok.frs_le
  have hF1 : 1 ≤ frs l := by unfold frs; omega
  have h8 := hb.ok.few r
  have hmem := hk.mem
  have hbs := base_succ hr
  have hble := base_le l (r + 1)
  have hj8 : x.j < 8 := by omega
  have hcF : baseR l r + x.j < frs l := by omega
  have hal' : S.alive = (pre ++ l1.map (Kd.act l r)) ++ x.act l r :: l2.map (Kd.act l r) := by rw [hal]; simp
  have hi : pre.length + l1.length = (pre ++ l1.map (Kd.act l r)).length := by simp
  rw [hi]
  have ha : S.alive.getD (pre ++ l1.map (Kd.act l r)).length default = x.act l r := by rw [hal']; exact at_mid _ _ _
  have hset : ∀ y, S.alive.set (pre ++ l1.map (Kd.act l r)).length y = (pre ++ l1.map (Kd.act l r)) ++ y :: l2.map (Kd.act l r) := fun y => by rw [hal']; exact set_mid _ _ _ _
  have hnum : (x.act l r).num = x.num := rfl
  rcases (show x.ph = 0 ∨ x.ph = 1 ∨ x.ph = 2 by omega) with h0 | h0 | h0
  · have ho : (x.act l r).op = startO (frs l) (baseR l r + x.j) := by simp [Kd.act, h0]
    have hz : mk (baseR l r + x.j) = 0 := by
      rcases hk.bit _ hcF with e | e
      · exact e
      · exact absurd rfl (((hk.mark _ hcF).1 e).2 x (by simp) h0)
    have hs := stp_start (hm.who (x.act l r).num) _ hcF (by omega) hz
    rw [← ho] at hs
    have hmB := ((hm.who x.num).put2 _ hcF 1).note ⟨0, 3, ((2 + 10 * (baseR l r + x.j) : Nat) : Int), 1, 1, true⟩
    have hlg := log_put S.A x.num (2 + 10 * (baseR l r + x.j)) 1 ⟨0, 3, ((2 + 10 * (baseR l r + x.j) : Nat) : Int), 1, 1, true⟩ hm.on
    rw [hnum] at hs
    generalize (({ S.A with actor := x.num } : Ar).put (2 + 10 * (baseR l r + x.j)) 1).noted ⟨0, 3, ((2 + 10 * (baseR l r + x.j) : Nat) : Int), 1, 1, true⟩ = B at hs hmB hlg
    obtain ⟨hw, hp⟩ := pick_of ha hs (ans_ended 14 1 (by decide))
    refine ⟨by rw [ha, ho]; exact fit_of (frs l) hF1 (by omega) rfl rfl ⟨by simp only [startO]; omega, by simp only [startO]; omega⟩ ⟨by simp [startO], by simp [startO]⟩ ⟨by simp [startO], by simp [startO]⟩ ⟨by simp [startO], by simp [startO]⟩, by rw [hw, ans_ended 14 1 (by decide)]; simp, ?_⟩
    refine .on ⟨x.j, 1, x.num⟩ B _ sl _ (by show 3 - 1 + 1 = 3 - x.ph; omega) ?_ hmB (hk.start h0) hlg (sc_ok hlg (hsc.away (u := x.num) (by omega) rfl (by simp; omega)))
    rw [hp, after_14, if_neg (by rw [hnum]; omega)]
    simp only [Pl.put, hset]
    simp [Kd.act]
  · have ho : (x.act l r).op = finO (frs l) x.j 0 ((100 * r + x.j : Nat) : Int) := by simp [Kd.act, h0]
    have hs := stp_store (hm.who (x.act l r).num) x.j ((100 * r + x.j : Nat) : Int) hj8
    rw [← ho] at hs
    have hmB := ((hm.who x.num).put3 x.j hj8 ((100 * r + x.j : Nat) : Int)).note ⟨0, 1, ((3 + x.j : Nat) : Int), ((100 * r + x.j : Nat) : Int), 0, true⟩
    have hlg := log_put S.A x.num (3 + x.j) ((100 * r + x.j : Nat) : Int) ⟨0, 1, ((3 + x.j : Nat) : Int), ((100 * r + x.j : Nat) : Int), 0, true⟩ hm.on
    rw [hnum] at hs
    generalize (({ S.A with actor := x.num } : Ar).put (3 + x.j) ((100 * r + x.j : Nat) : Int)).noted ⟨0, 1, ((3 + x.j : Nat) : Int), ((100 * r + x.j : Nat) : Int), 0, true⟩ = B at hs hmB hlg
    have hrun : (finO (frs l) x.j 1 ((100 * r + x.j : Nat) : Int)).ans = (0, 0) := ans_run (by simp only [finO]; omega) rfl
    obtain ⟨hw, hp⟩ := pick_of ha hs hrun
    refine ⟨by rw [ha, ho]; exact fit_of (frs l) hF1 (by omega) rfl rfl ⟨by simp [finO], by simp only [finO]; omega⟩ ⟨by simp [finO], by simp only [finO]; omega⟩ ⟨by simp [finO], by simp [finO]⟩ ⟨by simp [finO], by simp [finO]⟩, by rw [hw, hrun]; simp, ?_⟩
    refine .on ⟨x.j, 2, x.num⟩ B mk _ _ (by show 3 - 2 + 1 = 3 - x.ph; omega) ?_ hmB (hk.store h0) hlg (sc_ok hlg (hsc.away (u := x.num) (by omega) rfl (by simp; omega)))
    rw [hp, after_0, hset]
    simp [Kd.act]
  · have ho : (x.act l r).op = finO (frs l) x.j 1 ((100 * r + x.j : Nat) : Int) := by simp [Kd.act, h0]
    have hs := stp_leave (hm.who (x.act l r).num) x.j ((100 * r + x.j : Nat) : Int) (by omega) (by omega)
    rw [← ho] at hs
    have hmB := ((hm.who x.num).put1 ((J : Int) - 1)).note ⟨0, 3, ((1 : Nat) : Int), -1, (J : Int) - 1, true⟩
    have hlg := log_put S.A x.num 1 ((J : Int) - 1) ⟨0, 3, ((1 : Nat) : Int), -1, (J : Int) - 1, true⟩ hm.on
    rw [hnum] at hs
    generalize (({ S.A with actor := x.num } : Ar).put 1 ((J : Int) - 1)).noted ⟨0, 3, ((1 : Nat) : Int), -1, (J : Int) - 1, true⟩ = B at hs hmB hlg
    have hft : (S.alive.getD (pre ++ l1.map (Kd.act l r)).length default).op.Fit := by rw [ha, ho]; exact fit_of (frs l) hF1 (by omega) rfl rfl ⟨by simp [finO], by simp only [finO]; omega⟩ ⟨by simp [finO], by simp only [finO]; omega⟩ ⟨by simp [finO], by simp [finO]⟩ ⟨by simp [finO], by simp [finO]⟩
    have hsc2 := hsc.add (u := x.num) (x := ⟨x.num, 3, ((1 : Nat) : Int), -1, (J : Int) - 1, true⟩) rfl (by simp) rfl (by simp only; omega)
    by_cases hJ1 : J = 1
    · rw [if_pos (by omega)] at hs
      have hrun : (finO (frs l) x.j 2 ((100 * r + x.j : Nat) : Int)).ans = (0, 0) := ans_run (by simp only [finO]; omega) rfl
      obtain ⟨hw, hp⟩ := pick_of ha hs hrun
      refine ⟨hft, by rw [hw, hrun]; simp, .last B mk sl _ (x.act l r).fin ((100 * r + x.j : Nat) : Int) h0 hJ1 ?_ ?_ (hk.leave h0) hlg (sc_ok hlg ?_)⟩
      · rw [hp, after_0, hset]
        rfl
      · rw [hJ1] at hmB; exact hmB
      · rw [if_pos (by simp only; omega)] at hsc2
        exact hsc2
    · rw [if_neg (by omega)] at hs
      obtain ⟨hw, hp⟩ := pick_of ha hs (ans_ended 10 _ (by decide))
      refine ⟨hft, by rw [hw, ans_ended 10 _ (by decide)]; simp, .off B mk sl _ h0 hJ1 ?_ ?_ (hk.leave h0) hlg (sc_ok hlg ?_)⟩
      · rw [hp, after_10, hset, del_mid]
        simp
      · rw [show ((J - 1 : Nat) : Int) = (J : Int) - 1 by omega]; exact hmB
      · rw [if_neg (by simp only; omega)] at hsc2
        exact hsc2

/-- A pick while the holder waits. -/
theorem step_qu {ks : List Kd} (hb : Bs l (n + 1) S) (h : Qu l r ks (n + 1) S) (i : Nat) (hi : i < S.alive.length) : Safe S i ∧ Inv l n (S.pick i) := by
  have hlt := h.lt
  have h8 := hb.ok.few r
  have hbd := hb.bds (by rw [h.rd]; omega) (by rw [h.fo]; omega)
  obtain ⟨mk, sl, hm, hk⟩ := h.mem
  have hik : i < ks.length := by rw [h.al] at hi; simpa using hi
  obtain ⟨l1, x, l2, rfl, rfl⟩ : ∃ l1 x l2, ks = l1 ++ x :: l2 ∧ i = l1.length := ⟨ks.take i, ks[i], ks.drop (i + 1), by simp, by simp; omega⟩
  have hfew := h.few
  obtain ⟨h1, h2, h3⟩ := kid_pick (pre := []) hb hlt (Nat.le_refl _) (by simpa using h.al) hm hk ⟨by simp; omega, by omega⟩ h.sc
  simp only [List.length_nil, Nat.zero_add] at h1 h2 h3
  refine ⟨⟨h1, by rw [h.rd, round_len hb]; omega, fun e => by rcases e with e | e; exact absurd e h2.1; exact absurd e h2.2.1, fun e => absurd e h2.2.2, hbd⟩, ?_⟩
  have hn := h.hn
  rw [rem_split] at hn
  have hlen : (l1 ++ x :: l2).length = l1.length + 1 + l2.length := by simp; omega
  rw [hlen] at hfew
  cases h3 with
  | on y B mk' sl' u hy e hm' hk' hl hs =>
    rw [e]
    refine ⟨⟨hb.ok, hb.fr, hb.rd, lg_ok hb.lg hl, hb.bn, hb.bm⟩, .qu r (l1 ++ y :: l2) ⟨hlt, h.rd, h.fo, h.dn, h.ho, h.re, by simp, by simp; omega, by simp only [List.length_append, List.length_cons]; omega, ⟨mk', sl', ?_, hk'⟩, hs, ?_⟩⟩
    · rw [show (l1 ++ y :: l2).length = (l1 ++ x :: l2).length by simp]; exact hm'
    · rw [rem_split]; omega
  | off B mk' sl' u h20 hJ e hm' hk' hl hs =>
    rw [e]
    refine ⟨⟨hb.ok, hb.fr, hb.rd, lg_ok hb.lg hl, hb.bn, hb.bm⟩, .qu r (l1 ++ l2) ⟨hlt, h.rd, h.fo, h.dn, h.ho, h.re, by simp, ?_, ?_, ⟨mk', sl', ?_, hk'⟩, hs, ?_⟩⟩
    · simp only [List.length_append]; omega
    · simp only [List.length_append]; omega
    · rw [show (l1 ++ l2).length = (l1 ++ x :: l2).length - 1 by simp only [List.length_append, List.length_cons]; omega]; exact hm'
    · rw [rem_app]; omega
  | last B mk' sl' u f v h20 hJ e hm' hk' hl hs =>
    rw [hlen] at hJ
    obtain rfl : l1 = [] := List.eq_nil_of_length_eq_zero (by omega)
    obtain rfl : l2 = [] := List.eq_nil_of_length_eq_zero (by simp only [List.length_nil] at hJ; omega)
    rw [e]
    have hm1 := hk.mem
    refine ⟨⟨hb.ok, hb.fr, hb.rd, lg_ok hb.lg hl, hb.bn, hb.bm⟩, .bk r ⟨x.num, finO (frs l) x.j 2 v, f⟩ ⟨hlt, h.rd, h.fo, h.dn, h.ho, h.re, by simp, by show 0 ≤ x.num; omega, .inr ⟨x.j, v, by omega, rfl⟩, ⟨mk', sl', hm', hk'⟩, hs, ?_⟩⟩
    have e0 : rem ([] : List Kd) = 0 := rfl
    rw [e0] at hn
    omega

/-- A pick in a round. -/
theorem step_wk {fk : Bool} {ks : List Kd} {u : Int} {fin : OpF} (hb : Bs l (n + 1) S) (h : Wk l r k fk ks u fin (n + 1) S) (i : Nat) (hi : i < S.alive.length) : Safe S i ∧ Inv l n (S.pick i) := by
  have hlt := h.lt
  have h8 := hb.ok.few r
  have hF := hb.ok.frs_le
  have hF1 : 1 ≤ frs l := by unfold frs; omega
  have hkl := h.hk
  have hbs := base_succ hlt
  have hble := base_le l (r + 1)
  have hbp := base_pos l r
  have hbd := hb.bds (by rw [h.rd]; omega) (by rw [h.fo]; omega)
  obtain ⟨mk, sl, hm, hk⟩ := h.mem
  have hfew := h.few
  have hn := h.hn
  cases i with
  | succ i =>
    have hik : i < ks.length := by rw [h.al] at hi; simpa using hi
    obtain ⟨l1, x, l2, rfl, rfl⟩ : ∃ l1 x l2, ks = l1 ++ x :: l2 ∧ i = l1.length := ⟨ks.take i, ks[i], ks.drop (i + 1), by simp, by simp; omega⟩
    obtain ⟨h1, h2, h3⟩ := kid_pick (pre := [_]) hb hlt hkl (by rw [h.al]; rfl) hm hk ⟨by omega, by omega⟩ h.sc
    simp only [List.length_singleton] at h1 h2 h3
    rw [Nat.add_comm l1.length 1]
    refine ⟨⟨h1, by rw [h.rd, round_len hb]; omega, fun e => by rcases e with e | e; exact absurd e h2.1; exact absurd e h2.2.1, fun e => absurd e h2.2.2, hbd⟩, ?_⟩
    rw [rem_split] at hn
    have hlen : (l1 ++ x :: l2).length = l1.length + 1 + l2.length := by simp; omega
    rw [hlen] at hfew
    cases h3 with
    | on y B mk' sl' v hy e hm' hk' hl hs =>
      rw [e]
      refine ⟨⟨hb.ok, hb.fr, hb.rd, lg_ok hb.lg hl, hb.bn, hb.bm⟩, .wk r k fk (l1 ++ y :: l2) u fin ⟨hlt, h.rd, h.fo, h.dn, h.ho, h.re, h.hu, hkl, h.hf, by simp, ⟨mk', sl', ?_, hk'⟩, hs, ?_, ?_⟩⟩
      · rw [show (l1 ++ y :: l2).length = (l1 ++ x :: l2).length by simp]; exact hm'
      · rw [rem_split]; omega
      · simp only [List.length_append, List.length_cons]; omega
    | off B mk' sl' v h20 hJ e hm' hk' hl hs =>
      rw [e]
      refine ⟨⟨hb.ok, hb.fr, hb.rd, lg_ok hb.lg hl, hb.bn, hb.bm⟩, .wk r k fk (l1 ++ l2) u fin ⟨hlt, h.rd, h.fo, h.dn, h.ho, h.re, h.hu, hkl, h.hf, by simp, ⟨mk', sl', ?_, hk'⟩, hs, ?_, ?_⟩⟩
      · rw [show 1 + (l1 ++ l2).length = 1 + (l1 ++ x :: l2).length - 1 by simp; omega]; exact hm'
      · rw [rem_app]; omega
      · simp only [List.length_append]; omega
    | last B mk' sl' v f v' h20 hJ e hm' hk' hl hs =>
      rw [hlen] at hJ
      omega
  | zero =>
    cases fk with
    | true =>
      obtain ⟨hkk, hch⟩ := h.hf rfl
      have ha : S.alive.getD 0 default = ⟨u, forkO (frs l), fin⟩ := by rw [h.al]; rfl
      have hs := stp_fork (hm.who u) (by omega) (by omega)
      have hmB := ((hm.who u).put1 (((1 + ks.length : Nat) : Int) + 1)).note ⟨0, 3, ((1 : Nat) : Int), 1, ((1 + ks.length : Nat) : Int) + 1, true⟩
      have hlg := log_put S.A u 1 (((1 + ks.length : Nat) : Int) + 1) ⟨0, 3, ((1 : Nat) : Int), 1, ((1 + ks.length : Nat) : Int) + 1, true⟩ hm.on
      generalize (({ S.A with actor := u } : Ar).put 1 (((1 + ks.length : Nat) : Int) + 1)).noted ⟨0, 3, ((1 : Nat) : Int), 1, ((1 + ks.length : Nat) : Int) + 1, true⟩ = B at hs hmB hlg
      obtain ⟨hw, hp⟩ := pick_of ha hs (ans_ended 9 _ (by decide))
      refine ⟨⟨by rw [ha]; exact fit_of (frs l) hF1 (by omega) rfl rfl ⟨by simp [forkO], by simp [forkO]; omega⟩ ⟨by simp [forkO], by simp [forkO]⟩ ⟨by simp [forkO], by simp [forkO]⟩ ⟨by simp [forkO], by simp [forkO]⟩, by rw [h.rd, round_len hb]; omega, by rw [hw, ans_ended 9 _ (by decide)]; simp, by rw [hw, ans_ended 9 _ (by decide)]; simp, hbd⟩, ?_⟩
      rw [hp, after_9]
      have e1 : OpF.beg 4 0 S.frames S.child 0 0 = startO (frs l) (baseR l r + k) := by rw [hch]; exact beg_start hb _ (by omega)
      have e2 : OpF.beg 2 0 S.frames 0 S.forked (100 * S.round + S.forked : Nat) = finO (frs l) k 0 ((100 * r + k : Nat) : Int) := by rw [h.fo, h.rd]; exact beg_fin hb k _ (by omega)
      have e3 : ∀ (al : List Actr), ({ S with A := B, alive := al, forked := S.forked + 1 } : Pl).nextFork = ({ S with A := B, alive := al, forked := S.forked + 1 }, if k + 1 < l.getD r 0 then allocO (frs l) else syncO (frs l) 0) := by
        intro al
        unfold Pl.nextFork
        simp only
        rw [if_neg (by rw [h.rd, round_len hb]; omega), h.fo, h.rd, round_at hb]
        split
        · rw [if_pos (by omega), beg_alloc hb]
        · rw [if_neg (by omega), beg_sync hb]
      simp only [e1, e2, e3]
      refine ⟨⟨hb.ok, hb.fr, hb.rd, lg_ok hb.lg hlg, ?_, ?_⟩, .wk r (k + 1) false (ks ++ [⟨k, 0, S.born⟩]) u fin ⟨hlt, h.rd, ?_, h.dn, h.ho, h.re, h.hu, by omega, by simp, ?_, ⟨mk, sl, ?_, hk.fork _ (by have := hb.bn; omega)⟩, ?_, ?_, ?_⟩⟩
      · show 1 ≤ S.born + 1; omega
      · have := hb.bm; show S.born + 1 ≤ baseR l S.round + (S.forked + 1); omega
      · show S.forked + 1 = k + 1; rw [h.fo]
      · simp [Pl.join, Pl.put, h.al, Kd.act]
      · have e4 : (baseR l r + (k + 1) + if false = true then 1 else 0) = (baseR l r + k + if true = true then 1 else 0) := by simp; omega
        have e5 : ((1 + (ks ++ [(⟨k, 0, S.born⟩ : Kd)]).length : Nat) : Int) = ((1 + ks.length : Nat) : Int) + 1 := by simp; omega
        rw [e4, e5]; exact hmB
      · refine sc_ok (H := S.holders) hlg ?_
        have := h.sc.add (u := u) (x := ⟨u, 3, ((1 : Nat) : Int), 1, ((1 + ks.length : Nat) : Int) + 1, true⟩) rfl (by simp) rfl (by simp only; omega)
        rw [if_neg (by simp only; omega)] at this
        exact this
      · have e6 : rem [(⟨k, 0, S.born⟩ : Kd)] = 3 := rfl
        rw [rem_app, e6]
        simp only [Bool.false_eq_true, if_false, if_true] at hn ⊢
        omega
      · simp; omega
    | false =>
      by_cases hkk : k < l.getD r 0
      · have ha : S.alive.getD 0 default = ⟨u, allocO (frs l), fin⟩ := by rw [h.al]; simp only [Bool.false_eq_true, if_false, if_pos hkk]; rfl
        have hm0 : MemP S.A (frs l) ((baseR l r + k : Nat) : Int) ((1 + ks.length : Nat) : Int) mk sl := by simpa using hm
        have hs := stp_alloc (hm0.who u) (by omega) (by omega) (by omega)
        have hmB := ((hm0.who u).put0 (((baseR l r + k : Nat) : Int) + 1)).note ⟨0, 3, ((0 : Nat) : Int), 1, ((baseR l r + k : Nat) : Int) + 1, true⟩
        have hlg := log_put S.A u 0 (((baseR l r + k : Nat) : Int) + 1) ⟨0, 3, ((0 : Nat) : Int), 1, ((baseR l r + k : Nat) : Int) + 1, true⟩ hm.on
        generalize (({ S.A with actor := u } : Ar).put 0 (((baseR l r + k : Nat) : Int) + 1)).noted ⟨0, 3, ((0 : Nat) : Int), 1, ((baseR l r + k : Nat) : Int) + 1, true⟩ = B at hs hmB hlg
        obtain ⟨hw, hp⟩ := pick_of ha hs (ans_ended 4 _ (by decide))
        refine ⟨⟨by rw [ha]; exact fit_of (frs l) hF1 (by omega) rfl rfl ⟨by simp [allocO], by simp [allocO]; omega⟩ ⟨by simp [allocO], by simp [allocO]⟩ ⟨by simp [allocO], by simp [allocO]⟩ ⟨by simp [allocO], by simp [allocO]⟩, by rw [h.rd, round_len hb]; omega, by rw [hw, ans_ended 4 _ (by decide)]; simp, by rw [hw, ans_ended 4 _ (by decide)]; simp, hbd⟩, ?_⟩
        rw [hp, after_4]
        unfold Pl.taken
        rw [if_neg (by omega)]
        have hBf := beg_fork hb
        refine ⟨⟨hb.ok, hb.fr, hb.rd, lg_ok hb.lg hlg, hb.bn, hb.bm⟩, .wk r k true ks u fin ⟨hlt, h.rd, h.fo, h.dn, h.ho, h.re, h.hu, hkl, fun _ => ⟨hkk, rfl⟩, ?_, ⟨mk, sl, ?_, hk⟩, sc_ok hlg (h.sc.away (u := u) h.hu rfl (by simp)), ?_, hfew⟩⟩
        · simp [Pl.put, h.al, hBf]
        · rw [show ((baseR l r + k + (if true = true then 1 else 0) : Nat) : Int) = ((baseR l r + k : Nat) : Int) + 1 by simp]; exact hmB
        · simp only [Bool.false_eq_true, if_false, if_true] at hn ⊢; omega
      · have hke : k = l.getD r 0 := by omega
        subst hke
        have ha : S.alive.getD 0 default = ⟨u, syncO (frs l) 0, fin⟩ := by rw [h.al]; simp only [Bool.false_eq_true, if_false, if_neg hkk]; rfl
        have hm0 : MemP S.A (frs l) ((baseR l r + l.getD r 0 : Nat) : Int) ((1 + ks.length : Nat) : Int) mk sl := by simpa using hm
        have hs := stp_sync (hm0.who u) (by omega) (by omega)
        have hmB := ((hm0.who u).put1 (((1 + ks.length : Nat) : Int) - 1)).note ⟨0, 3, ((1 : Nat) : Int), -1, ((1 + ks.length : Nat) : Int) - 1, true⟩
        have hlg := log_put S.A u 1 (((1 + ks.length : Nat) : Int) - 1) ⟨0, 3, ((1 : Nat) : Int), -1, ((1 + ks.length : Nat) : Int) - 1, true⟩ hm.on
        have hsc2 := h.sc.add (u := u) (x := ⟨u, 3, ((1 : Nat) : Int), -1, ((1 + ks.length : Nat) : Int) - 1, true⟩) rfl (by simp) rfl (by simp only; omega)
        generalize (({ S.A with actor := u } : Ar).put 1 (((1 + ks.length : Nat) : Int) - 1)).noted ⟨0, 3, ((1 : Nat) : Int), -1, ((1 + ks.length : Nat) : Int) - 1, true⟩ = B at hs hmB hlg
        have hft : (S.alive.getD 0 default).op.Fit := by rw [ha]; exact fit_of (frs l) hF1 (by omega) rfl rfl ⟨by simp [syncO], by simp [syncO]; omega⟩ ⟨by simp [syncO], by simp [syncO]⟩ ⟨by simp [syncO], by simp [syncO]⟩ ⟨by simp [syncO], by simp [syncO]⟩
        have hn2 : n + 1 = l.getD r 0 + 2 + rem ks + toGo l (r + 1) := by
          simp only [Bool.false_eq_true, if_false] at hn
          omega
        by_cases h0 : ks.length = 0
        · obtain rfl : ks = [] := List.eq_nil_of_length_eq_zero h0
          rw [if_pos (by simp)] at hs
          have hrun : (syncO (frs l) 1).ans = (0, 0) := ans_run (by simp only [syncO]; omega) rfl
          obtain ⟨hw, hp⟩ := pick_of ha hs hrun
          refine ⟨⟨hft, by rw [h.rd, round_len hb]; omega, by rw [hw, hrun]; simp, by rw [hw, hrun]; simp, hbd⟩, ?_⟩
          rw [hp, after_0]
          rw [if_pos (by simp)] at hsc2
          have e0 : rem ([] : List Kd) = 0 := rfl
          rw [e0] at hn2
          refine ⟨⟨hb.ok, hb.fr, hb.rd, lg_ok hb.lg hlg, hb.bn, hb.bm⟩, .bk r ⟨u, syncO (frs l) 1, fin⟩ ⟨hlt, h.rd, h.fo, h.dn, h.ho, h.re, by simp [h.al], h.hu, .inl rfl, ⟨mk, sl, by simpa using hmB, hk⟩, sc_ok hlg hsc2, by omega⟩⟩
        · rw [if_neg (by omega)] at hs
          obtain ⟨hw, hp⟩ := pick_of ha hs (ans_ended 12 _ (by decide))
          refine ⟨⟨hft, by rw [h.rd, round_len hb]; omega, by rw [hw, ans_ended 12 _ (by decide)]; simp, by rw [hw, ans_ended 12 _ (by decide)]; simp, hbd⟩, ?_⟩
          rw [hp, after_12]
          rw [if_neg (by simp only; omega)] at hsc2
          refine ⟨⟨hb.ok, hb.fr, hb.rd, lg_ok hb.lg hlg, hb.bn, hb.bm⟩, .qu r ks ⟨hlt, h.rd, h.fo, h.dn, h.ho, h.re, by simp [h.al], by omega, hfew, ⟨mk, sl, ?_, hk⟩, sc_ok hlg hsc2, by omega⟩⟩
          rw [show ((ks.length : Nat) : Int) = ((1 + ks.length : Nat) : Int) - 1 by omega]; exact hmB

theorem Inv.step (h : Inv l (n + 1) S) (i : Nat) (hi : i < S.alive.length) : Safe S i ∧ Inv l n (S.pick i) := by
  obtain ⟨hb, hm⟩ := h
  cases hm with
  | st z h =>
    obtain rfl : i = 0 := by rw [h.al] at hi; simp at hi; exact hi
    exact step_st hb h
  | wk r k fk ks u fin h => exact step_wk hb h i hi
  | qu r ks h => exact step_qu hb h i hi
  | bk r a h =>
    obtain rfl : i = 0 := by rw [h.al] at hi; simp at hi; exact hi
    exact step_bk hb h
  | ft r j a h =>
    obtain rfl : i = 0 := by rw [h.al] at hi; simp at hi; exact hi
    exact step_ft hb h
  | dn h => exact absurd h.hn (by omega)
end
end Go.Proofs.Ytlligclkoecknaa
