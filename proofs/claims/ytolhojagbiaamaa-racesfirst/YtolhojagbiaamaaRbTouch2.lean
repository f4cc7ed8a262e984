import Derived.Test.YtolhojagbiaamaaRbStep
/-! The sweep: a read or a write; a place is set racy. -/
namespace Go.Proofs.Ytolhojagbiaamaa
set_option linter.unusedVariables false
set_option maxRecDepth 20000
set_option linter.unusedSimpArgs false
open Go.RowKit Go.HeapKit

open Classical in
/-- Does a deed have a race with an earlier one? -/
noncomputable def rcB (ds : List Dd) (n : Nat) : Bool := decide (∃ a, a < n ∧ RaceW ds a n)
theorem rcB_iff (ds : List Dd) (n : Nat) : rcB ds n = true ↔ ∃ a, a < n ∧ RaceW ds a n := by unfold rcB; simp
theorem fnd_none : ∀ (M : List (Int × Pl)) (k : Int) (i : Nat), fnd M k i = none ↔ k ∉ M.map Prod.fst
  | [], k, i => by simp [fnd]
  | (k', v) :: M, k, i => by
    unfold fnd
    by_cases e : k = k'
    · simp [e]
    · rw [if_neg e, fnd_none M k (i + 1)]
      simp [e]
theorem put_keys (M : List (Int × Pl)) (k : Int) (v : Pl) : (k ∈ M.map Prod.fst ∧ (putP M k v).map Prod.fst = M.map Prod.fst) ∨ (k ∉ M.map Prod.fst ∧ (putP M k v).map Prod.fst = M.map Prod.fst ++ [k]) := by
  unfold putP
  cases hf : fnd M k 0 with
  | none => exact .inr ⟨(fnd_none M k 0).1 hf, by simp⟩
  | some p =>
    obtain ⟨i, v0⟩ := p
    obtain ⟨h1, h2, h3⟩ := fnd_le M k 0 i v0 hf
    simp at h2 h3
    refine .inl ⟨?_, ?_⟩
    · apply Classical.byContradiction
      intro hn
      rw [(fnd_none M k 0).2 hn] at hf
      cases hf
    · rw [List.map_set]
      apply List.ext_getElem?
      intro j
      rw [List.getElem?_set]
      split
      · rename_i e
        subst e
        have := List.getElem?_eq_some_iff.1 h3
        obtain ⟨q1, q2⟩ := this
        simp [h2, h3, q2]
      · rfl
theorem put_nd {M : List (Int × Pl)} (k : Int) (v : Pl) (h : (M.map Prod.fst).Nodup) : ((putP M k v).map Prod.fst).Nodup := by
  rcases put_keys M k v with ⟨_, e⟩ | ⟨hn, e⟩
  · rw [e]; exact h
  · rw [e, List.nodup_append]
    exact ⟨h, by simp, fun a ha b hb => by simp at hb; subst hb; exact fun e => hn (e ▸ ha)⟩
theorem put_len (M : List (Int × Pl)) (k : Int) (v : Pl) : (putP M k v).length ≤ M.length + 1 ∧ (k ∈ M.map Prod.fst → (putP M k v).length = M.length) := by
  have e0 : (putP M k v).length = ((putP M k v).map Prod.fst).length := by simp
  rcases put_keys M k v with ⟨hm, e⟩ | ⟨hn, e⟩
  · rw [e0, e]; simp
  · rw [e0, e]; exact ⟨by simp, fun h => (hn h).elim⟩
theorem put_mem (M : List (Int × Pl)) (k x : Int) (v : Pl) (h : x ∈ M.map Prod.fst ∨ x = k) : x ∈ (putP M k v).map Prod.fst := by
  rcases put_keys M k v with ⟨hm, e⟩ | ⟨hn, e⟩
  · rw [e]; rcases h with h | h; exact h; subst h; exact hm
  · rw [e]; rcases h with h | h; simp only [List.mem_append]; exact .inl h; subst h; simp
section
variable {w0 w w' : World} {base S mb : Nat} {dv : Value} {ds : List Dd} {n m : Nat} {rc : Int → Bool}
theorem SwS.touch (h : SwS w0 w base S mb dv ds n (n + 1) rc) (hN : Now ds n) (hn : n < 4096) (hk : kdN ds n = 3 ∨ kdN ds n = 4) : Calls Try.prog 56 #[.pointer (some ⟨S, 0, none⟩), .int .i64 (doer ds n : Nat), .agg #[.int .i64 (kdN ds n), .int .i64 (lcN ds n)]] w fun e w' => e = .returned (.bool (rcB ds n)) ∧ SwS w0 w' base S mb dv ds (n + 1) (n + 1) rc ∧ Keeps (Fp w base) w w' := by
  obtain ⟨U, M, A, gu, cu, gm, cm, gl, cl, ga, ca, vd, rt, d, PM, h1, h2, h3, h4, h5, h6, h7⟩ := h.ex
  obtain ⟨t, r, hb, hid, hdo⟩ := hN.top
  have hc := hN.cnt
  have hlt : ∀ L, (lookP PM L).w < cntB ds n ∧ (lookP PM L).r < cntB ds n := fun L => by
    constructor
    · rcases h6.wh L with e | ⟨a, a1, a2, a3, a4⟩
      · have := hN.bin.pos; omega
      · rw [← a4]; exact hN.bin.doers a a1
    · rcases h6.rh L with e | ⟨a, a1, a2, a3, a4⟩
      · have := hN.bin.pos; omega
      · rw [← a4]; exact hN.bin.doers a a1
  have hT : doer ds n < cntB ds n := by
    rw [hdo]
    have h3' := h3
    rw [hb] at h3'
    exact h3'.lt _ (mem_all_P (b := t) (by simp) hid)
  have hlate : ∀ x, x < cntB ds n → (M.getD (rt x) false = true ↔ Late (bgN ds n) x) := fun x hx => h3.r.late (hN.all x hx)
  have hboth : ∀ x, x < cntB ds n → bothT M rt x (doer ds n) = bothV (bgN ds n) x (doer ds n) := fun x hx => by
    unfold bothT bothV
    by_cases e : Late (bgN ds n) x
    · rw [if_pos ((hlate x hx).2 e), if_pos e]
    · rw [if_neg (fun e2 => e ((hlate x hx).1 e2)), if_neg e]
  have hrace : raceT M rt PM (kdN ds n) (lcN ds n) = rcB ds n := by
    rw [Bool.eq_iff_iff, rcB_iff]
    unfold raceT
    rcases hk with e | e
    · rw [if_neg (by omega), hlate _ (hlt _).1]
      exact race_read hN.inv hN.bin h6 hN.ne e
    · rw [if_pos e, Bool.or_eq_true, hlate _ (hlt _).1, hlate _ (hlt _).2]
      exact race_write hN.inv hN.bin h6 hN.ne e
  refine (touch_ok w base S gu cu gm cm gl cl ga ca (doer ds n) mb U (actN ds n) (dnN ds (n + 1)) M A vd dv rt d PM (kdN ds n) (lcN ds n) h1 h5 h2 (by omega) (by rw [h4]; exact (hlt _).1) (by rw [h4]; exact (hlt _).2) (by omega) hk h.b3 h.b2).mono ?_
  rintro e w' ⟨rfl, ⟨U', g1, g2, g3⟩, g4, g5⟩
  have hbn : bgN ds (n + 1) = bgN ds n := bg_same hk (by rw [hb]; simp)
  have hcn : cntB ds (n + 1) = cntB ds n := by
    show (if kdN ds n = 0 then _ else _) = _
    rw [if_neg (by omega)]
  have hact : actN ds (n + 1) = actN ds n := by unfold actN; rw [hbn]
  have hB := h3
  rw [← hbn, ← hcn] at hB
  have hpl : PlOk ds (putP PM (lcN ds n) (newP M rt PM (kdN ds n) (lcN ds n) (doer ds n))) (n + 1) rc := by
    refine ⟨put_nd _ _ h7.nd, by have := (put_len PM (lcN ds n) (newP M rt PM (kdN ds n) (lcN ds n) (doer ds n))).1; have := h7.len; omega, fun L => ?_, fun a ha hka => ?_⟩
    · rw [look_put]
      by_cases e : L = lcN ds n
      · rw [if_pos e, ← h7.rc L, e]
        unfold newP
        split <;> rfl
      · rw [if_neg e]; exact h7.rc L
    · apply put_mem
      by_cases e : a = n
      · subst e; exact .inr rfl
      · exact .inl (h7.tch a (by omega) hka)
  have hstd : Std ds (n + 1) (fun L => (lookP (putP PM (lcN ds n) (newP M rt PM (kdN ds n) (lcN ds n) (doer ds n))) L).w) (fun L => (lookP (putP PM (lcN ds n) (newP M rt PM (kdN ds n) (lcN ds n) (doer ds n))) L).r) := by
    rcases hk with e | e
    · have h8 := h6.read hN.bin hN.ne e
      have e1 : (fun L => (lookP (putP PM (lcN ds n) (newP M rt PM (kdN ds n) (lcN ds n) (doer ds n))) L).w) = fun L => (lookP PM L).w := by
        funext L
        rw [look_put]
        by_cases eL : L = lcN ds n
        · rw [if_pos eL, eL]; unfold newP; rw [if_neg (by omega)]
        · rw [if_neg eL]
      have e2 : (fun L => (lookP (putP PM (lcN ds n) (newP M rt PM (kdN ds n) (lcN ds n) (doer ds n))) L).r) = updZ (fun L => (lookP PM L).r) (lcN ds n) (bothV (bgN ds n) (lookP PM (lcN ds n)).r (doer ds n)) := by
        funext L
        rw [look_put]
        unfold updZ
        by_cases eL : L = lcN ds n
        · rw [if_pos eL, if_pos eL]; unfold newP; rw [if_neg (by omega)]; exact hboth _ (hlt _).2
        · rw [if_neg eL, if_neg eL]
      rw [e1, e2]
      exact h8
    · have h8 := h6.write hN.bin hN.ne e
      have e1 : (fun L => (lookP (putP PM (lcN ds n) (newP M rt PM (kdN ds n) (lcN ds n) (doer ds n))) L).r) = fun L => (lookP PM L).r := by
        funext L
        rw [look_put]
        by_cases eL : L = lcN ds n
        · rw [if_pos eL, eL]; unfold newP; rw [if_pos (by omega)]
        · rw [if_neg eL]
      have e2 : (fun L => (lookP (putP PM (lcN ds n) (newP M rt PM (kdN ds n) (lcN ds n) (doer ds n))) L).w) = updZ (fun L => (lookP PM L).w) (lcN ds n) (bothV (bgN ds n) (lookP PM (lcN ds n)).w (doer ds n)) := by
        funext L
        rw [look_put]
        unfold updZ
        by_cases eL : L = lcN ds n
        · rw [if_pos eL, if_pos eL]; unfold newP; rw [if_pos (by omega)]; exact hboth _ (hlt _).1
        · rw [if_neg eL, if_neg eL]
      rw [e1, e2]
      exact h8
  exact ⟨by rw [hrace], ⟨⟨U', M, A, gu, cu, gm, cm, gl, cl, ga, ca, vd, rt, d, _, by rw [hact]; exact g1, g2, hB, by rw [g3, h4, hcn], g4, hstd, hpl⟩, h.kp.trans (Fp.low g5) (fun i e _ => e), h.b1, h.b2, Nat.le_trans h.b3 g5.size⟩, g5⟩
end
end Go.Proofs.Ytolhojagbiaamaa
