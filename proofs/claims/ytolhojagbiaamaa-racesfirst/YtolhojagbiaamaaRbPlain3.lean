import Derived.Test.YtolhojagbiaamaaRbPlain2
/-! One writer and one reader of a place stand for all. -/
namespace Go.Proofs.Ytolhojagbiaamaa
set_option linter.unusedVariables false
set_option maxRecDepth 20000
set_option linter.unusedSimpArgs false

def kdN (ds : List Dd) (a : Nat) : Int := (ds.getD a ⟨3, 0⟩).k
def lcN (ds : List Dd) (a : Nat) : Int := (ds.getD a ⟨3, 0⟩).loc
theorem inP_bot : ∀ (A : List Bg) (e : Bg) (x : Nat), x ∈ e.P → inP (A ++ [e]) 0 x
  | [], e, x, h => .inl ⟨rfl, h⟩
  | t :: A, e, x, h => .inr (inP_bot A e x h)
theorem not_late_root {ds : List Dd} {n : Nat} (h : BInv ds n) : ¬ Late (bgN ds n) 0 := by
  rintro ⟨k, hk⟩
  obtain ⟨A, e, hA, he⟩ := h.bot
  have hp := inP_bot A e 0 he
  rw [← hA] at hp
  exact not_both h.nd hp hk
/-- Which deeds are parallel to a read or a write. -/
theorem par_late {ds : List Dd} {n : Nat} (hI : Inv ds n) (h : BInv ds n) (hst : stN ds n ≠ []) (h1 : ¬ kdN ds n = 1) (h2 : ¬ kdN ds n = 2) {a : Nat} (ha : a < n) : (¬ Ah ds a n ↔ Late (bgN ds n) (doer ds a)) := by
  cases hs : stN ds n with
  | nil => exact (hst hs).elim
  | cons t r =>
    have hg := hI.good
    rw [hs] at hg
    have hA := next_ah hs hg a
    have hL := Prs.late h.prs a ha
    unfold Late
    rw [hL, hs]
    have hC : Ah ds a n ↔ a ∈ Cof (t :: r) := by
      rw [hA]
      constructor
      · rintro (h | ⟨h | h, _⟩)
        · exact h
        · exact (h1 h).elim
        · exact (h2 h).elim
      · exact .inl
    rw [hC]
    have hin : a ∈ Cof (t :: r) ++ Oof (t :: r) := by
      have := (hI.all a).2 ha
      rw [hs] at this
      exact this
    have hnd : (Cof (t :: r) ++ Oof (t :: r)).Nodup := by
      have := hI.nd
      rw [hs] at this
      exact this
    constructor
    · intro hn
      rcases List.mem_append.1 hin with h | h
      · exact (hn h).elim
      · exact h
    · intro ho hc
      exact (List.nodup_append.1 hnd).2.2 a hc a ho rfl
/-- Who stands for the writers and the readers of each place, behind the first n deeds. -/
structure Std (ds : List Dd) (n : Nat) (wr rd : Int → Nat) : Prop where
  w : ∀ a, a < n → kdN ds a = 4 → Dom (bgN ds n) (doer ds a) (wr (lcN ds a))
  r : ∀ a, a < n → kdN ds a = 3 → Dom (bgN ds n) (doer ds a) (rd (lcN ds a))
  wh : ∀ L, wr L = 0 ∨ ∃ a, a < n ∧ kdN ds a = 4 ∧ lcN ds a = L ∧ doer ds a = wr L
  rh : ∀ L, rd L = 0 ∨ ∃ a, a < n ∧ kdN ds a = 3 ∧ lcN ds a = L ∧ doer ds a = rd L
theorem std_zero (ds : List Dd) : Std ds 0 (fun _ => 0) (fun _ => 0) := ⟨fun a ha => by omega, fun a ha => by omega, fun L => .inl rfl, fun L => .inl rfl⟩
/-- A spawn, a return or a sync. -/
theorem Std.other {ds : List Dd} {n : Nat} {wr rd : Int → Nat} (h : Std ds n wr rd) (hb : BInv ds n) (hst : stN ds n ≠ []) (hk1 : kdN ds n = 1 → 2 ≤ (stN ds n).length) (hk : ¬ kdN ds n = 3 ∧ ¬ kdN ds n = 4) : Std ds (n + 1) wr rd := by
  have hstep : ∀ x y, x < cntB ds n → Dom (bgN ds n) x y → Dom (bgN ds (n + 1)) x y := by
    intro x y hx hd
    have hb' : bgN ds (n + 1) = stepB (kdN ds n) (cntB ds n) (bgN ds n) := rfl
    cases hbg : bgN ds n with
    | nil => obtain ⟨A, e, hA, _⟩ := hb.bot; rw [hbg] at hA; simp at hA
    | cons b bs =>
      rw [hbg] at hb' hd
      by_cases k0 : kdN ds n = 0
      · rw [k0, sb0] at hb'; rw [hb']; exact hd.spawn (by omega)
      · by_cases k1 : kdN ds n = 1
        · have hl := Prs.len hb.prs
          have h2 := hk1 k1
          rw [hbg] at hl
          obtain ⟨u, br, rfl⟩ : ∃ u br, bs = u :: br := by
            cases bs with
            | nil => simp at hl; omega
            | cons u br => exact ⟨u, br, rfl⟩
          rw [k1, sb1] at hb'; rw [hb']; exact hd.ret
        · by_cases k2 : kdN ds n = 2
          · rw [k2, sb2] at hb'; rw [hb']; exact hd.sync
          · rw [sb3 _ _ _ _ k0 k1 k2] at hb'; rw [hb']; exact hd
  refine ⟨fun a ha hka => ?_, fun a ha hka => ?_, fun L => ?_, fun L => ?_⟩
  · have hne : a ≠ n := fun e => by subst e; exact hk.2 hka
    exact hstep _ _ (hb.doers a (by omega)) (h.w a (by omega) hka)
  · have hne : a ≠ n := fun e => by subst e; exact hk.1 hka
    exact hstep _ _ (hb.doers a (by omega)) (h.r a (by omega) hka)
  · rcases h.wh L with h | ⟨a, h1, h2⟩
    · exact .inl h
    · exact .inr ⟨a, by omega, h2⟩
  · rcases h.rh L with h | ⟨a, h1, h2⟩
    · exact .inl h
    · exact .inr ⟨a, by omega, h2⟩
/-- Who stands for both. -/
theorem dom_both {S : List Bg} {t : Bg} {r : List Bg} (hS : S = t :: r) (hid : t.id ∈ t.P) (hnd : (allB S).Nodup) {y : Nat} :
    (Late S y → Dom S t.id y) ∧ Dom S t.id t.id ∧ (¬ Late S y → ∀ x, Dom S x y → Dom S x t.id) := by
  subst hS
  have hin : inP (t :: r) r.length t.id := .inl ⟨rfl, hid⟩
  refine ⟨fun hy => ⟨fun k hk => (not_both hnd hin hk).elim, fun k _ => .inl hy⟩, ⟨fun k hk => (not_both hnd hin hk).elim, fun k hk => .inr ⟨r.length, ?_, hin⟩⟩, fun hy x hd => ⟨fun k hk => (hy (hd.late ⟨k, hk⟩)).elim, fun k hk => ?_⟩⟩
  · have := inP_lt hk; simp at this; omega
  · rcases hd.p k hk with h | ⟨j, h1, h2⟩
    · exact (hy h).elim
    · have := inP_lt h2
      exact .inr ⟨r.length, by simp at this; omega, hin⟩
open Classical in
/-- The place's writer behind one more. -/
noncomputable def bothV (S : List Bg) (y d : Nat) : Nat := if Late S y then y else d
theorem bg_same {ds : List Dd} {n : Nat} (h : kdN ds n = 3 ∨ kdN ds n = 4) (hne : bgN ds n ≠ []) : bgN ds (n + 1) = bgN ds n := by
  have hb' : bgN ds (n + 1) = stepB (kdN ds n) (cntB ds n) (bgN ds n) := rfl
  rw [hb']
  cases hbg : bgN ds n with
  | nil => exact (hne hbg).elim
  | cons b bs => exact sb3 _ _ _ _ (by omega) (by omega) (by omega)
theorem bg_top {ds : List Dd} {n : Nat} (h : BInv ds n) (hst : stN ds n ≠ []) : ∃ t r, bgN ds n = t :: r ∧ t.id ∈ t.P ∧ doer ds n = t.id := by
  cases hbg : bgN ds n with
  | nil => obtain ⟨A, e, hA, _⟩ := h.bot; rw [hbg] at hA; simp at hA
  | cons b bs =>
    have hp := h.prs
    rw [hbg] at hp
    cases hs : stN ds n with
    | nil => exact (hst hs).elim
    | cons t r =>
      rw [hs] at hp
      exact ⟨b, bs, rfl, hp.1, by unfold doer; rw [hbg]; rfl⟩
def updZ (f : Int → Nat) (L : Int) (v : Nat) : Int → Nat := fun x => if x = L then v else f x
theorem updZ_eq (f : Int → Nat) (L : Int) (v : Nat) : updZ f L v L = v := by unfold updZ; rw [if_pos rfl]
theorem updZ_ne {f : Int → Nat} {L x : Int} {v : Nat} (h : x ≠ L) : updZ f L v x = f x := by unfold updZ; rw [if_neg h]
theorem Std.write {ds : List Dd} {n : Nat} {wr rd : Int → Nat} (h : Std ds n wr rd) (hb : BInv ds n) (hst : stN ds n ≠ []) (hk : kdN ds n = 4) :
    Std ds (n + 1) (updZ wr (lcN ds n) (bothV (bgN ds n) (wr (lcN ds n)) (doer ds n))) rd := by
  obtain ⟨t, r, hbg, hid, hdo⟩ := bg_top hb hst
  have hsame := bg_same (.inr hk) (by rw [hbg]; simp)
  obtain ⟨d1, d2, d3⟩ := dom_both (y := wr (lcN ds n)) hbg hid hb.nd
  have hbv : (Late (bgN ds n) (wr (lcN ds n)) ∧ bothV (bgN ds n) (wr (lcN ds n)) (doer ds n) = wr (lcN ds n)) ∨ (¬ Late (bgN ds n) (wr (lcN ds n)) ∧ bothV (bgN ds n) (wr (lcN ds n)) (doer ds n) = t.id) := by
    unfold bothV
    by_cases hl : Late (bgN ds n) (wr (lcN ds n))
    · left; exact ⟨hl, by rw [if_pos hl]⟩
    · right; exact ⟨hl, by rw [if_neg hl]; exact hdo⟩
  refine ⟨fun a ha hka => ?_, fun a ha hka => ?_, fun L => ?_, fun L => ?_⟩
  · rw [hsame]
    by_cases ea : a = n
    · subst ea
      rw [updZ_eq, hdo]
      rcases hbv with ⟨hl, e⟩ | ⟨hl, e⟩
      · rw [hdo] at e; rw [e]; exact d1 hl
      · rw [hdo] at e; rw [e]; exact d2
    · by_cases eL : lcN ds a = lcN ds n
      · rw [eL, updZ_eq]
        have hold := h.w a (by omega) hka
        rw [eL] at hold
        rcases hbv with ⟨hl, e⟩ | ⟨hl, e⟩
        · rw [e]; exact hold
        · rw [e]; exact d3 hl _ hold
      · rw [updZ_ne eL]
        exact h.w a (by omega) hka
  · rw [hsame]
    exact h.r a (by have : a ≠ n := fun e => by subst e; omega
                    omega) hka
  · by_cases eL : L = lcN ds n
    · subst eL
      rw [updZ_eq]
      rcases hbv with ⟨hl, e⟩ | ⟨hl, e⟩
      · rw [e]
        rcases h.wh (lcN ds n) with h | ⟨a, h1, h2⟩
        · exact .inl h
        · exact .inr ⟨a, by omega, h2⟩
      · rw [e]
        exact .inr ⟨n, by omega, hk, rfl, hdo⟩
    · rw [updZ_ne eL]
      rcases h.wh L with h | ⟨a, h1, h2⟩
      · exact .inl h
      · exact .inr ⟨a, by omega, h2⟩
  · rcases h.rh L with h | ⟨a, h1, h2⟩
    · exact .inl h
    · exact .inr ⟨a, by omega, h2⟩
theorem Std.read {ds : List Dd} {n : Nat} {wr rd : Int → Nat} (h : Std ds n wr rd) (hb : BInv ds n) (hst : stN ds n ≠ []) (hk : kdN ds n = 3) :
    Std ds (n + 1) wr (updZ rd (lcN ds n) (bothV (bgN ds n) (rd (lcN ds n)) (doer ds n))) := by
  obtain ⟨t, r, hbg, hid, hdo⟩ := bg_top hb hst
  have hsame := bg_same (.inl hk) (by rw [hbg]; simp)
  obtain ⟨d1, d2, d3⟩ := dom_both (y := rd (lcN ds n)) hbg hid hb.nd
  have hbv : (Late (bgN ds n) (rd (lcN ds n)) ∧ bothV (bgN ds n) (rd (lcN ds n)) (doer ds n) = rd (lcN ds n)) ∨ (¬ Late (bgN ds n) (rd (lcN ds n)) ∧ bothV (bgN ds n) (rd (lcN ds n)) (doer ds n) = t.id) := by
    unfold bothV
    by_cases hl : Late (bgN ds n) (rd (lcN ds n))
    · left; exact ⟨hl, by rw [if_pos hl]⟩
    · right; exact ⟨hl, by rw [if_neg hl]; exact hdo⟩
  refine ⟨fun a ha hka => ?_, fun a ha hka => ?_, fun L => ?_, fun L => ?_⟩
  · rw [hsame]
    exact h.w a (by have : a ≠ n := fun e => by subst e; omega
                    omega) hka
  · rw [hsame]
    by_cases ea : a = n
    · subst ea
      rw [updZ_eq, hdo]
      rcases hbv with ⟨hl, e⟩ | ⟨hl, e⟩
      · rw [hdo] at e; rw [e]; exact d1 hl
      · rw [hdo] at e; rw [e]; exact d2
    · by_cases eL : lcN ds a = lcN ds n
      · rw [eL, updZ_eq]
        have hold := h.r a (by omega) hka
        rw [eL] at hold
        rcases hbv with ⟨hl, e⟩ | ⟨hl, e⟩
        · rw [e]; exact hold
        · rw [e]; exact d3 hl _ hold
      · rw [updZ_ne eL]
        exact h.r a (by omega) hka
  · rcases h.wh L with h | ⟨a, h1, h2⟩
    · exact .inl h
    · exact .inr ⟨a, by omega, h2⟩
  · by_cases eL : L = lcN ds n
    · subst eL
      rw [updZ_eq]
      rcases hbv with ⟨hl, e⟩ | ⟨hl, e⟩
      · rw [e]
        rcases h.rh (lcN ds n) with h | ⟨a, h1, h2⟩
        · exact .inl h
        · exact .inr ⟨a, by omega, h2⟩
      · rw [e]
        exact .inr ⟨n, by omega, hk, rfl, hdo⟩
    · rw [updZ_ne eL]
      rcases h.rh L with h | ⟨a, h1, h2⟩
      · exact .inl h
      · exact .inr ⟨a, by omega, h2⟩
/-- A race of a deed with an earlier one. -/
def RaceW (ds : List Dd) (a n : Nat) : Prop := (kdN ds a = 3 ∨ kdN ds a = 4) ∧ (kdN ds n = 3 ∨ kdN ds n = 4) ∧ lcN ds a = lcN ds n ∧ (kdN ds a = 4 ∨ kdN ds n = 4) ∧ ¬ Ah ds a n
theorem race_read {ds : List Dd} {n : Nat} {wr rd : Int → Nat} (hI : Inv ds n) (hb : BInv ds n) (h : Std ds n wr rd) (hst : stN ds n ≠ []) (hk : kdN ds n = 3) : Late (bgN ds n) (wr (lcN ds n)) ↔ ∃ a, a < n ∧ RaceW ds a n := by
  have hpar := fun a (ha : a < n) => par_late hI hb hst (by omega) (by omega) ha
  constructor
  · intro hl
    rcases h.wh (lcN ds n) with h0 | ⟨a, h1, h2, h3, h4⟩
    · rw [h0] at hl; exact (not_late_root hb hl).elim
    · refine ⟨a, h1, .inr h2, .inl hk, h3, .inl h2, ?_⟩
      rw [hpar a h1, h4]
      exact hl
  · rintro ⟨a, ha, h1, _, h3, h4, h5⟩
    have hk4 : kdN ds a = 4 := by rcases h4 with h4 | h4 <;> omega
    have hd := h.w a ha hk4
    rw [h3] at hd
    exact hd.late ((hpar a ha).1 h5)
theorem race_write {ds : List Dd} {n : Nat} {wr rd : Int → Nat} (hI : Inv ds n) (hb : BInv ds n) (h : Std ds n wr rd) (hst : stN ds n ≠ []) (hk : kdN ds n = 4) : (Late (bgN ds n) (wr (lcN ds n)) ∨ Late (bgN ds n) (rd (lcN ds n))) ↔ ∃ a, a < n ∧ RaceW ds a n := by
  have hpar := fun a (ha : a < n) => par_late hI hb hst (by omega) (by omega) ha
  constructor
  · rintro (hl | hl)
    · rcases h.wh (lcN ds n) with h0 | ⟨a, h1, h2, h3, h4⟩
      · rw [h0] at hl; exact (not_late_root hb hl).elim
      · refine ⟨a, h1, .inr h2, .inr hk, h3, .inl h2, ?_⟩
        rw [hpar a h1, h4]
        exact hl
    · rcases h.rh (lcN ds n) with h0 | ⟨a, h1, h2, h3, h4⟩
      · rw [h0] at hl; exact (not_late_root hb hl).elim
      · refine ⟨a, h1, .inl h2, .inr hk, h3, .inr hk, ?_⟩
        rw [hpar a h1, h4]
        exact hl
  · rintro ⟨a, ha, h1, _, h3, h4, h5⟩
    rcases h1 with h1 | h1
    · have hd := h.r a ha h1
      rw [h3] at hd
      exact .inr (hd.late ((hpar a ha).1 h5))
    · have hd := h.w a ha h1
      rw [h3] at hd
      exact .inl (hd.late ((hpar a ha).1 h5))
end Go.Proofs.Ytolhojagbiaamaa
