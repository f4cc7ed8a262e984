import Derived.Test.YtlligclkoecknaaFrInv3
/-! A pick of a play keeps what holds. -/
namespace Go.Proofs.Ytlligclkoecknaa
open Go.RowKit Go.HeapKit Go.IntWalk

theorem at_mid {α : Type} [Inhabited α] (q b : List α) (x : α) : (q ++ x :: b).getD q.length default = x := by simp [List.getD_eq_getElem?_getD]
theorem set_mid {α : Type} (q b : List α) (x y : α) : (q ++ x :: b).set q.length y = q ++ y :: b := by simp
theorem del_mid {α : Type} (q b : List α) (x : α) : (q ++ x :: b).eraseIdx q.length = q ++ b := by
  induction q with
  | nil => rfl
  | cons c q ih => simpa using ih
theorem log_put (A : Ar) (u : Int) (k : Nat) (v : Int) (x : Acc) (h : A.on = true) : ((({ A with actor := u } : Ar).put k v).noted x).log = A.log ++ [{ x with who := u }] := log_noted _ _ h
theorem log_who (A : Ar) (u : Int) (x : Acc) (h : A.on = true) : (({ A with actor := u } : Ar).noted x).log = A.log ++ [{ x with who := u }] := log_noted _ _ h

/-- What a pick asks for, so that nothing goes wrong. -/
structure Safe (S : Pl) (i : Nat) : Prop where
  ft : (S.alive.getD i default).op.Fit
  rd : S.round ≤ S.rounds.length
  bk : (S.went i).1.ans.1 = 13 ∨ (S.went i).1.ans.1 = 11 → S.round < S.rounds.length ∧ S.reads.length = S.round
  fe : (S.went i).1.ans.1 = 15 → S.round < S.rounds.length ∧ S.round < S.reads.length
  bd : S.born ≤ 600 ∧ S.round ≤ 64 ∧ S.forked ≤ 8 ∧ S.A.log.length < 1000000

section
variable {l : List Nat} {n r : Nat} {S : Pl}
theorem toGo_le (h : Rounds l) : toGo l 0 ≤ 3200 := by
  have h1 : ∀ (l : List Nat), (∀ x ∈ l, x ≤ 8) → (l.map (fun n => 6 * n + 2)).sum ≤ 50 * l.length := by
    intro l hl
    induction l with
    | nil => simp
    | cons x l ih =>
      have := ih (fun n hn => hl n (List.mem_cons_of_mem _ hn))
      have := hl x (by simp)
      simp only [List.map_cons, List.sum_cons, List.length_cons]
      omega
  have h2 := h1 l (fun n hn => by
    obtain ⟨i, hi, rfl⟩ := List.getElem_of_mem hn
    have := h.few i
    rw [List.getD_eq_getElem?_getD, List.getElem?_eq_getElem hi] at this
    simpa using this)
  have := h.len
  unfold toGo
  simp only [List.drop_zero]
  omega
theorem Bs.bds (hb : Bs l n S) (hr : S.round ≤ l.length) (hf : S.forked ≤ 8) : S.born ≤ 600 ∧ S.round ≤ 64 ∧ S.forked ≤ 8 ∧ S.A.log.length < 1000000 := by
  have h1 := hb.ok.frs_le
  have h2 := base_le l S.round
  have h3 := hb.bm
  have h4 := hb.ok.len
  have h5 := toGo_le hb.ok
  have h6 := hb.lg
  omega
theorem fit_of {o : OpF} (F : Nat) (h1 : 1 ≤ F) (h2 : F ≤ 4096) (hb : o.base = 0) (hf : o.frames = F) (hr : 0 ≤ o.frame ∧ o.frame < F) (hs : 0 ≤ o.slot ∧ o.slot < 8) (hk : 0 ≤ o.kind ∧ o.kind ≤ 5) (hm : 0 ≤ o.made ∧ o.made ≤ 2) : o.Fit := by
  refine ⟨fun _ => .inr ⟨?_, hk.1, hk.2, hm.1, hm.2⟩⟩
  unfold FitO FitT
  omega

theorem lg_ok {B : Ar} {x : Acc} {L : List Acc} {m : Nat} (hb : L.length + (n + 1) = m) (h : B.log = L ++ [x]) : B.log.length + n = m := by
  rw [h]
  simp only [List.length_append, List.length_singleton]
  omega
theorem sc_ok {B : Ar} {H : List Int} {L : List Acc} {u : Int} (h : B.log = L) (hs : Sc H L u) : Sc H B.log u := by rw [h]; exact hs
/-- A pick of the parent's beginning. -/
theorem step_st {z : Bool} (hb : Bs l (n + 1) S) (h : St l z (n + 1) S) : Safe S 0 ∧ Inv l n (S.pick 0) := by
  have hF := hb.ok.frs_le
  have hF1 : 1 ≤ frs l := by unfold frs; omega
  have ha : S.alive.getD 0 default = ⟨0, if z then allocO (frs l) else startO (frs l) 0, OpF.zero⟩ := by rw [h.al]; rfl
  obtain ⟨mk, sl, hm, hz⟩ := h.mem
  have hsf : (S.alive.getD 0 default).op.Fit := by
    rw [ha]
    cases z
    · exact fit_of (frs l) hF1 (by omega) rfl rfl ⟨by simp [startO], by simp [startO]; omega⟩ ⟨by simp [startO], by simp [startO]⟩ ⟨by simp [startO], by simp [startO]⟩ ⟨by simp [startO], by simp [startO]⟩
    · exact fit_of (frs l) hF1 (by omega) rfl rfl ⟨by simp [allocO], by simp [allocO]; omega⟩ ⟨by simp [allocO], by simp [allocO]⟩ ⟨by simp [allocO], by simp [allocO]⟩ ⟨by simp [allocO], by simp [allocO]⟩
  have hbd := hb.bds (by rw [h.rd]; omega) (by rw [h.fo]; omega)
  cases z with
  | true =>
    simp only [if_true] at ha hm
    have hs := stp_alloc (hm.who 0) (by omega) (by omega) (by omega)
    have hmB := ((hm.who 0).put0 (0 + 1)).note ⟨0, 3, ((0 : Nat) : Int), 1, 0 + 1, true⟩
    have hlg := log_put S.A 0 0 (0 + 1) ⟨0, 3, ((0 : Nat) : Int), 1, 0 + 1, true⟩ hm.on
    generalize (({ S.A with actor := 0 } : Ar).put 0 (0 + 1)).noted ⟨0, 3, ((0 : Nat) : Int), 1, 0 + 1, true⟩ = B at hs hmB hlg
    obtain ⟨hw, hp⟩ := pick_of ha hs (ans_ended 4 0 (by decide))
    refine ⟨⟨hsf, by rw [h.rd]; omega, by rw [hw, ans_ended 4 0 (by decide)]; simp, by rw [hw, ans_ended 4 0 (by decide)]; simp, hbd⟩, ?_⟩
    rw [hp, after_4]
    unfold Pl.taken
    rw [if_pos rfl]
    have hB := beg_start hb 0 (by omega)
    refine ⟨⟨hb.ok, hb.fr, hb.rd, lg_ok hb.lg hlg, hb.bn, hb.bm⟩, .st false ⟨h.rd, h.fo, h.dn, h.ho, h.re, ?_, ⟨mk, sl, hmB, hz⟩, ?_, ?_⟩⟩
    · simp only [Pl.put, h.al, List.set_cons_zero]
      rw [← hB]
      rfl
    · exact sc_ok hlg (h.sc.away (u := 0) (by omega) rfl (by simp))
    · have := h.hn
      simp at this ⊢
      omega
  | false =>
    simp only [Bool.false_eq_true, if_false] at ha hm
    have hs := stp_start (hm.who 0) 0 (by omega) (by omega) (hz 0 (by omega))
    have hmB := ((hm.who 0).put2 0 (by omega) 1).note ⟨0, 3, ((2 + 10 * 0 : Nat) : Int), 1, 1, true⟩
    have hlg := log_put S.A 0 (2 + 10 * 0) 1 ⟨0, 3, ((2 + 10 * 0 : Nat) : Int), 1, 1, true⟩ hm.on
    generalize (({ S.A with actor := 0 } : Ar).put (2 + 10 * 0) 1).noted ⟨0, 3, ((2 + 10 * 0 : Nat) : Int), 1, 1, true⟩ = B at hs hmB hlg
    obtain ⟨hw, hp⟩ := pick_of ha hs (ans_ended 14 1 (by decide))
    refine ⟨⟨hsf, by rw [h.rd]; omega, by rw [hw, ans_ended 14 1 (by decide)]; simp, by rw [hw, ans_ended 14 1 (by decide)]; simp, hbd⟩, ?_⟩
    rw [hp, after_14]
    rw [if_pos rfl]
    have hn : n = toGo l 0 := by have := h.hn; simp at this; omega
    subst hn
    refine begins (r := 0) (S := { S with A := B, alive := S.alive.set 0 ⟨0, OpF.ended 14 1, OpF.zero⟩ }) ⟨hb.ok, hb.fr, hb.rd, lg_ok hb.lg hlg, hb.bn, hb.bm⟩ ⟨Nat.zero_le _, h.rd, h.fo, h.dn, by show S.holders.length = 0; rw [h.ho]; rfl, by show S.reads = _; rw [h.re]; rfl, ⟨upd mk 0 1, sl, hmB, ?_⟩, ?_⟩ (by simp [h.al]) (by simp)
    · refine ⟨by simp, by simp, fun f hf => ?_, fun f hf => ?_, by simp⟩
      · unfold upd; split
        · exact .inr rfl
        · exact .inl (hz f hf)
      · unfold upd
        have := hz f hf
        have e : baseR l 0 = 1 := by simp [baseR]
        rw [e]
        by_cases e2 : f = 0
        · simp [e2]
        · rw [if_neg e2]
          simp
          omega
    · exact sc_ok hlg (h.sc.away (u := 0) (by omega) rfl (by simp))

/-- A pick of the one that puts the 1 back. -/
theorem step_bk {a : Actr} (hb : Bs l (n + 1) S) (h : Bk l r a (n + 1) S) : Safe S 0 ∧ Inv l n (S.pick 0) := by
  have hF := hb.ok.frs_le
  have hF1 : 1 ≤ frs l := by unfold frs; omega
  have h8 := hb.ok.few r
  have hlt := h.lt
  have ha : S.alive.getD 0 default = a := by rw [h.al]; rfl
  obtain ⟨mk, sl, hm, hk⟩ := h.mem
  have hbd := hb.bds (by rw [h.rd]; omega) (by rw [h.fo]; omega)
  have hlg := log_put S.A a.num 1 1 ⟨0, 1, ((1 : Nat) : Int), 1, 0, true⟩ hm.on
  have hn : n = l.getD r 0 - 0 + toGo l (r + 1) := by have := h.hn; omega
  have hmB := ((hm.who a.num).put1 1).note ⟨0, 1, ((1 : Nat) : Int), 1, 0, true⟩
  have hst : (a.op = syncO (frs l) 1 → a.op.step { S.A with actor := a.num } = (OpF.ended 13 0, (({ S.A with actor := a.num } : Ar).put 1 1).noted ⟨0, 1, ((1 : Nat) : Int), 1, 0, true⟩)) ∧ ∀ j v, a.op = finO (frs l) j 2 v → a.op.step { S.A with actor := a.num } = (OpF.ended 11 0, (({ S.A with actor := a.num } : Ar).put 1 1).noted ⟨0, 1, ((1 : Nat) : Int), 1, 0, true⟩) :=
    ⟨fun ho => by rw [ho]; exact stp_back (hm.who _), fun j v ho => by rw [ho]; exact stp_last (hm.who _) j v⟩
  generalize (({ S.A with actor := a.num } : Ar).put 1 1).noted ⟨0, 1, ((1 : Nat) : Int), 1, 0, true⟩ = B at hmB hlg hst
  have key : ∀ c, (c = 13 ∨ c = 11) → a.op.step { S.A with actor := a.num } = (OpF.ended c 0, B) → a.op.Fit → Safe S 0 ∧ Inv l n (S.pick 0) := by
    intro c hc hs hft
    have hc0 : c ≠ 0 := by omega
    obtain ⟨hw, hp⟩ := pick_of ha hs (ans_ended c 0 hc0)
    refine ⟨⟨by rw [ha]; exact hft, by rw [h.rd, round_len hb]; omega, fun _ => ⟨by rw [h.rd, round_len hb]; exact hlt, by rw [h.re, full_length, h.rd]⟩, by rw [hw, ans_ended c 0 hc0]; simp; omega, hbd⟩, ?_⟩
    have e : S.pick 0 = Pl.put 0 { a with op := OpF.ended c 0 } ({ S with A := B, alive := S.alive.set 0 { a with op := OpF.ended c 0 }, holders := S.holders ++ [a.num], reads := S.reads ++ [[]] } : Pl).nextFetch := by
      rw [hp]
      rcases hc with rfl | rfl
      · rw [after_13]
      · rw [after_11]
    rw [e, hn]
    rw [hn] at hb
    exact fetches (r := r) (j := 0) (S := { S with A := B, alive := S.alive.set 0 { a with op := OpF.ended c 0 }, holders := S.holders ++ [a.num], reads := S.reads ++ [[]] }) ⟨hb.ok, hb.fr, hb.rd, lg_ok hb.lg hlg, hb.bn, hb.bm⟩ ⟨hlt, h.rd, h.fo, h.dn, by simp [h.ho], by show S.reads ++ [[]] = _; rw [h.re]; rfl, Nat.zero_le _, ⟨mk, sl, hmB, hk⟩, sc_ok hlg (h.sc.back rfl (by simp) rfl rfl)⟩ (by simp [h.al]) h.hu
  rcases h.op with ho | ⟨j, v, hj, ho⟩
  · exact key 13 (.inl rfl) (hst.1 ho) (by rw [ho]; exact fit_of (frs l) hF1 (by omega) rfl rfl ⟨by simp [syncO], by simp [syncO]; omega⟩ ⟨by simp [syncO], by simp [syncO]⟩ ⟨by simp [syncO], by simp [syncO]⟩ ⟨by simp [syncO], by simp [syncO]⟩)
  · exact key 11 (.inr rfl) (hst.2 j v ho) (by rw [ho]; exact fit_of (frs l) hF1 (by omega) rfl rfl ⟨by simp [finO], by simp [finO]; omega⟩ ⟨by simp [finO], by simp [finO]; omega⟩ ⟨by simp [finO], by simp [finO]⟩ ⟨by simp [finO], by simp [finO]⟩)

/-- A pick of the one that fetches. -/
theorem step_ft {j : Nat} {a : Actr} (hb : Bs l (n + 1) S) (h : Ft l r j a (n + 1) S) : Safe S 0 ∧ Inv l n (S.pick 0) := by
  have hF := hb.ok.frs_le
  have hF1 : 1 ≤ frs l := by unfold frs; omega
  have h8 := hb.ok.few r
  have hlt := h.b.lt
  have hj := h.lt
  have ha : S.alive.getD 0 default = a := by rw [h.al]; rfl
  obtain ⟨mk, sl, hm, hk⟩ := h.b.mem
  have hbd := hb.bds (by rw [h.b.rd]; omega) (by rw [h.b.fo]; omega)
  have hsl : sl j = ((100 * r + j : Nat) : Int) := (hk.sl j hj).resolve_left (by simp)
  have hs : a.op.step { S.A with actor := a.num } = (OpF.ended 15 (sl j), ({ S.A with actor := a.num } : Ar).noted ⟨0, 0, ((3 + j : Nat) : Int), sl j, 0, true⟩) := by rw [h.op]; exact stp_fetch (hm.who _) j (by omega)
  have hlg := log_who S.A a.num ⟨0, 0, ((3 + j : Nat) : Int), sl j, 0, true⟩ hm.on
  have hmB := (hm.who a.num).note ⟨0, 0, ((3 + j : Nat) : Int), sl j, 0, true⟩
  generalize ({ S.A with actor := a.num } : Ar).noted ⟨0, 0, ((3 + j : Nat) : Int), sl j, 0, true⟩ = B at hmB hlg hs
  obtain ⟨hw, hp⟩ := pick_of ha hs (ans_ended 15 (sl j) (by decide))
  have hrl : S.reads.length = r + 1 := by rw [h.b.re]; simp [full_length]
  refine ⟨⟨by rw [ha, h.op]; exact fit_of (frs l) hF1 (by omega) rfl rfl ⟨by simp [fetchO], by simp [fetchO]; omega⟩ ⟨by simp [fetchO], by simp [fetchO]; omega⟩ ⟨by simp [fetchO], by simp [fetchO]⟩ ⟨by simp [fetchO], by simp [fetchO]⟩, by rw [h.b.rd, round_len hb]; omega, by rw [hw, ans_ended 15 (sl j) (by decide)]; simp, fun _ => ⟨by rw [h.b.rd, round_len hb]; exact hlt, by rw [hrl, h.b.rd]; omega⟩, hbd⟩, ?_⟩
  rw [hp, after_15]
  have hn : n = l.getD r 0 - (j + 1) + toGo l (r + 1) := by have := h.hn; omega
  rw [hn] at hb ⊢
  refine fetches (r := r) (j := j + 1) (S := { S with A := B, alive := S.alive.set 0 { a with op := OpF.ended 15 (sl j) }, reads := S.reads.set S.round (S.reads.getD S.round [] ++ [sl j]) }) ⟨hb.ok, hb.fr, hb.rd, lg_ok hb.lg hlg, hb.bn, hb.bm⟩ ⟨hlt, h.b.rd, h.b.fo, h.b.dn, h.b.ho, ?_, by omega, ⟨mk, sl, hmB, hk⟩, sc_ok hlg (h.b.sc.away (u := a.num) h.hu rfl (by simp; omega))⟩ (by simp [h.al]) h.hu
  · show S.reads.set S.round (S.reads.getD S.round [] ++ [sl j]) = _
    have e1 : (full l r).length = r := full_length l r
    rw [h.b.re, h.b.rd, hsl, vals100_succ]
    conv => lhs; arg 2; rw [← e1]
    rw [set_mid]
    congr 2
    conv => lhs; lhs; arg 2; rw [← e1]
    simp [List.getD_eq_getElem?_getD]
end
end Go.Proofs.Ytlligclkoecknaa
