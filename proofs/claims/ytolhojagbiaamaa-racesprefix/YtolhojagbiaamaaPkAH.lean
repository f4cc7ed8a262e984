import Derived.Test.YtolhojagbiaamaaPkAG
/-! One writer and one reader of a place stand for all. -/
namespace Go.Proofs.Ytolhojagbiaamaa
set_option linter.unusedVariables false
set_option maxRecDepth 20000
set_option linter.unusedSimpArgs false

def kdN (ds : List Dd) (a : Nat) : Int := (ds.getD a ⟨3, 0⟩).k
def lcN (ds : List Dd) (a : Nat) : Int := (ds.getD a ⟨3, 0⟩).loc
theorem inP_bot : ∀ (A : List Bg) (e : Bg) (x : Nat), x ∈ e.P → inP (A ++ [e]) 0 x
  | [], e, x, h => .inl ⟨rfl, h⟩
  | t :: A, e, x, h => .inr (inP_bot A e x h)
theorem not_late_root {ds : List Dd} {n : Nat} (h : BInv ds n) : ¬ Late (bgN ds n) 0 := by
  rintro ⟨k, hk⟩
  obtain ⟨A, e, hA, he⟩ := h.bot
  have hp := inP_bot A e 0 he
  rw [← hA] at hp
  exact not_both h.nd hp hk
/-- Which deeds are parallel to a read or a write. -/
theorem par_late {ds : List Dd} {n : Nat} (hI : Inv ds n) (h : BInv ds n) (hst : stN ds n ≠ []) (h1 : ¬ kdN ds n = 1) (h2 : ¬ kdN ds n = 2) {a : Nat} (ha : a < n) : (¬ Ah ds a n ↔ Late (bgN ds n) (doer ds a)) := by
  cases hs : stN ds n with
  | nil => exact (hst hs).elim
  | cons t r =>
    have hg := hI.good
    rw [hs] at hg
    have hA := next_ah hs hg a
    have hL := Prs.late h.prs a ha
    unfold Late
    rw [hL, hs]
    have hC : Ah ds a n ↔ a ∈ Cof (t :: r) := by
      rw [hA]
      constructor
      · rintro (h | ⟨h | h, _⟩)
        · exact h
        · exact (h1 h).elim
        · exact (h2 h).elim
      · exact .inl
    rw [hC]
    have hin : a ∈ Cof (t :: r) ++ Oof (t :: r) := by
      have := (hI.all a).2 ha
      rw [hs] at this
      exact this
    have hnd : (Cof (t :: r) ++ Oof (t :: r)).Nodup := by
      have := hI.nd
      rw [hs] at this
      exact this
    constructor
    · intro hn
      rcases List.mem_append.1 hin with h | h
      · exact (hn h).elim
      · exact h
    · intro ho hc
      exact (List.nodup_append.1 hnd).2.2 a hc a ho rfl
/-- Who stands for the writers and the readers of each place, behind the first n deeds. -/
structure Std (ds : List Dd) (n : Nat) (wr rd : Int → Nat) : Prop where
  w : ∀ a, a < n → kdN ds a = 4 → Dom (bgN ds n) (doer ds a) (wr (lcN ds a))
  r : ∀ a, a < n → kdN ds a = 3 → Dom (bgN ds n) (doer ds a) (rd (lcN ds a))
  wh : ∀ L, wr L = 0 ∨ ∃ a, a < n ∧ kdN ds a = 4 ∧ lcN ds a = L ∧ doer ds a = wr L
  rh : ∀ L, rd L = 0 ∨ ∃ a, a < n ∧ kdN ds a = 3 ∧ lcN ds a = L ∧ doer ds a = rd L
theorem std_zero (ds : List Dd) : Std ds 0 (fun _ => 0) (fun _ => 0) := ⟨fun a ha => by omega, fun a ha => by omega, fun L => .inl rfl, fun L => .inl rfl⟩
/-- A spawn, a return or a sync. -/
theorem Std.other {ds : List Dd} {n : Nat} {wr rd : Int → Nat} (h : Std ds n wr rd) (hb : BInv ds n) (hst : stN ds n ≠ []) (hk1 : kdN ds n = 1 → 2 ≤ (stN ds n).length) (hk : ¬ kdN ds n = 3 ∧ ¬ kdN ds n = 4) : Std ds (n + 1) wr rd := by
  have hstep : ∀ x y, x < cntB ds n → Dom (bgN ds n) x y → Dom (bgN ds (n + 1)) x y := by
    intro x y hx hd
    have hb' : bgN ds (n + 1) = stepB (kdN ds n) (cntB ds n) (bgN ds n) := rfl
    cases hbg : bgN ds n with
    | nil => obtain ⟨A, e, hA, _⟩ := hb.bot; rw [hbg] at hA; simp at hA
    | cons b bs =>
      rw [hbg] at hb' hd
      by_cases k0 : kdN ds n = 0
      · rw [k0, sb0] at hb'; rw [hb']; exact hd.spawn (by omega)
      · by_cases k1 : kdN ds n = 1
        · have hl := Prs.len hb.prs
          have h2 := hk1 k1
          rw [hbg] at hl
          obtain ⟨u, br, rfl⟩ : ∃ u br, bs = u :: br := by
            cases bs with
            | nil => simp at hl; omega
            | cons u br => exact ⟨u, br, rfl⟩
          rw [k1, sb1] at hb'; rw [hb']; exact hd.ret
        · by_cases k2 : kdN ds n = 2
          · rw [k2, sb2] at hb'; rw [hb']; exact hd.sync
          · rw [sb3 _ _ _ _ k0 k1 k2] at hb'; rw [hb']; exact hd
  refine ⟨fun a ha hka => ?_, fun a ha hka => ?_, fun L => ?_, fun L => ?_⟩
  · have hne : a ≠ n := fun e => by subst e; exact hk.2 hka
    exact hstep _ _ (hb.doers a (by omega)) (h.w a (by omega) hka)
  · have hne : a ≠ n := fun e => by subst e; exact hk.1 hka
    exact hstep _ _ (hb.doers a (by omega)) (h.r a (by omega) hka)
  · rcases h.wh L with h | ⟨a, h1, h2⟩
    · exact .inl h
    · exact .inr ⟨a, by omega, h2⟩
  · rcases h.rh L with h | ⟨a, h1, h2⟩
    · exact .inl h
    · exact .inr ⟨a, by omega, h2⟩
/-- Who stands for both. -/
theorem dom_both {S : List Bg} {t : Bg} {r : List Bg} (hS : S = t :: r) (hid : t.id ∈ t.P) (hnd : (allB S).Nodup) {y : Nat} :
    (Late S y → Dom S t.id y) ∧ Dom S t.id t.id ∧ (¬ Late S y → ∀ x, Dom S x y → Dom S x t.id) := by
  subst hS
  have hin : inP (t :: r) r.length t.id := .inl ⟨rfl, hid⟩
  refine ⟨fun hy => ⟨fun k hk => (not_both hnd hin hk).elim, fun k _ => .inl hy⟩, ⟨fun k hk => (not_both hnd hin hk).elim, fun k hk => .inr ⟨r.length, ?_, hin⟩⟩, fun hy x hd => ⟨fun k hk => (hy (hd.late ⟨k, hk⟩)).elim, fun k hk => ?_⟩⟩
  · have := inP_lt hk; simp at this; omega
  · rcases hd.p k hk with h | ⟨j, h1, h2⟩
    · exact (hy h).elim
    · have := inP_lt h2
      exact .inr ⟨r.length, by simp at this; omega, hin⟩
open Classical in
/-- The place's writer behind one more. -/
noncomputable def bothV (S : List Bg) (y d : Nat) : Nat := if Late S y then y else d
theorem bg_same {ds : List Dd} {n : Nat} (h : kdN ds n = 3 ∨ kdN ds n = 4) (hne : bgN ds n ≠ []) : bgN ds (n + 1) = bgN ds n := by
  have hb' : bgN ds (n + 1) = stepB (kdN ds n) (cntB ds n) (bgN ds n) := rfl
  rw [hb']
  cases hbg : bgN ds n with
  | nil => exact (hne hbg).elim
  | cons b bs => exact sb3 _ _ _ _ (by omega) (by omega) (by omega)
theorem bg_top {ds : List Dd} {n : Nat} (h : BInv ds n) (hst : stN ds n ≠ []) : ∃ t r, bgN ds n = t :: r ∧ t.id ∈ t.P ∧ doer ds n = t.id := by
  cases hbg : bgN ds n with
  | nil => obtain ⟨A, e, hA, _⟩ := h.bot; rw [hbg] at hA; simp at hA
  | cons b bs =>
    have hp := h.prs
    rw [hbg] at hp
    cases hs : stN ds n with
    | nil => exact (hst hs).elim
    | cons t r =>
      rw [hs] at hp
      exact ⟨b, bs, rfl, hp.1, by unfold doer; rw [hbg]; rfl⟩
def updZ (f : Int → Nat) (L : Int) (v : Nat) : Int → Nat := fun x => if x = L then v else f x
theorem updZ_eq (f : Int → Nat) (L : Int) (v : Nat) : updZ f L v L = v := by unfold updZ; rw [if_pos rfl]
theorem updZ_ne {f : Int → Nat} {L x : Int} {v : Nat} (h : x ≠ L) : updZ f L v x = f x := by unfold updZ; rw [if_neg h]
theorem Std.write {ds : List Dd} {n : Nat} {wr rd : Int → Nat} (h : Std ds n wr rd) (hb : BInv ds n) (hst : stN ds n ≠ []) (hk : kdN ds n = 4) :
    Std ds (n + 1) (updZ wr (lcN ds n) (bothV (bgN ds n) (wr (lcN ds n)) (doer ds n))) rd := by
  obtain ⟨t, r, hbg, hid, hdo⟩ := bg_top hb hst
  have hsame := bg_same (.inr hk) (by rw [hbg]; simp)
  obtain ⟨d1, d2, d3⟩ := dom_both (y := wr (lcN ds n)) hbg hid hb.nd
  have hbv : (Late (bgN ds n) (wr (lcN ds n)) ∧ bothV (bgN ds n) (wr (lcN ds n)) (doer ds n) = wr (lcN ds n)) ∨ (¬ Late (bgN ds n) (wr (lcN ds n)) ∧ bothV (bgN ds n) (wr (lcN ds n)) (doer ds n) = t.id) := by
    unfold bothV
    by_cases hl : Late (bgN ds n) (wr (lcN ds n))
    · left; exact ⟨hl, by rw [if_pos hl]⟩
    · right; exact ⟨hl, by rw [if_neg hl]; exact hdo⟩
  refine ⟨fun a ha hka => ?_, fun a ha hka => ?_, fun L => ?_, fun L => ?_⟩
  · rw [hsame]
    by_cases ea : a = n
    · subst ea
      rw [updZ_eq, hdo]
      rcases hbv with ⟨hl, e⟩ | ⟨hl, e⟩
      · rw [hdo] at e; rw [e]; exact d1 hl
      · rw [hdo] at e; rw [e]; exact d2
    · by_cases eL : lcN ds a = lcN ds n
      · rw [eL, updZ_eq]
        have hold := h.w a (by omega) hka
        rw [eL] at hold
        rcases hbv with ⟨hl, e⟩ | ⟨hl, e⟩
        · rw [e]; exact hold
        · rw [e]; exact d3 hl _ hold
      · rw [updZ_ne eL]
        exact h.w a (by omega) hka
  · rw [hsame]
    exact h.r a (by have : a ≠ n := fun e => by subst e; omega
                    omega) hka
  · by_cases eL : L = lcN ds n
    · subst eL
      rw [updZ_eq]
      rcases hbv with ⟨hl, e⟩ | ⟨hl, e⟩
      · rw [e]
        rcases h.wh (lcN ds n) with h | ⟨a, h1, h2⟩
        · exact .inl h
        · exact .inr ⟨a, by omega, h2⟩
      · rw [e]
        exact .inr ⟨n, by omega, hk, rfl, hdo⟩
    · rw [updZ_ne eL]
      rcases h.wh L with h | ⟨a, h1, h2⟩
      · exact .inl h
      · exact .inr ⟨a, by omega, h2⟩
  · rcases h.rh L with h | ⟨a, h1, h2⟩
    · exact .inl h
    · exact .inr ⟨a, by omega, h2⟩
theorem Std.read {ds : List Dd} {n : Nat} {wr rd : Int → Nat} (h : Std ds n wr rd) (hb : BInv ds n) (hst : stN ds n ≠ []) (hk : kdN ds n = 3) :
    Std ds (n + 1) wr (updZ rd (lcN ds n) (bothV (bgN ds n) (rd (lcN ds n)) (doer ds n))) := by
  obtain ⟨t, r, hbg, hid, hdo⟩ := bg_top hb hst
  have hsame := bg_same (.inl hk) (by rw [hbg]; simp)
  obtain ⟨d1, d2, d3⟩ := dom_both (y := rd (lcN ds n)) hbg hid hb.nd
  have hbv : (Late (bgN ds n) (rd (lcN ds n)) ∧ bothV (bgN ds n) (rd (lcN ds n)) (doer ds n) = rd (lcN ds n)) ∨ (¬ Late (bgN ds n) (rd (lcN ds n)) ∧ bothV (bgN ds n) (rd (lcN ds n)) (doer ds n) = t.id) := by
    unfold bothV
    by_cases hl : Late (bgN ds n) (rd (lcN ds n))
    · left; exact ⟨hl, by rw [if_pos hl]⟩
    · right; exact ⟨hl, by rw [if_neg hl]; exact hdo⟩
  refine ⟨fun a ha hka => ?_, fun a ha hka => ?_, fun L => ?_, fun L => ?_⟩
  · rw [hsame]
    exact h.w a (by have : a ≠ n := fun e => by subst e; omega
                    omega) hka
  · rw [hsame]
    by_cases ea : a = n
    · subst ea
      rw [updZ_eq, hdo]
      rcases hbv with ⟨hl, e⟩ | ⟨hl, e⟩
      · rw [hdo] at e; rw [e]; exact d1 hl
      · rw [hdo] at e; rw [e]; exact d2
    · by_cases eL : lcN ds a = lcN ds n
      · rw [eL, updZ_eq]
        have hold := h.r a (by omega) hka
        rw [eL] at hold
        rcases hbv with ⟨hl, e⟩ | ⟨hl, e⟩
        · rw [e]; exact hold
        · rw [e]; exact d3 hl _ hold
      · rw [updZ_ne eL]
        exact h.r a (by omega) hka
  · rcases h.wh L with h | ⟨a, h1, h2⟩
    · exact .inl h
    · exact .inr ⟨a, by omega, h2⟩
  · by_cases eL : L = lcN ds n
    · subst eL
      rw [updZ_eq]
      rcases hbv with ⟨hl, e⟩ | ⟨hl, e⟩
      · rw [e]
        rcases h.rh (lcN ds n) with h | ⟨a, h1, h2⟩
        · exact .inl h
        · exact .inr ⟨a, by omega, h2⟩
      · rw [e]
        exact .inr ⟨n, by omega, hk, rfl, hdo⟩
    · rw [updZ_ne eL]
      rcases h.rh L with h | ⟨a, h1, h2⟩
      · exact .inl h
      · exact .inr ⟨a, by omega, h2⟩
/-- A race of a deed with an earlier one. -/
def RaceW (ds : List Dd) (a n : Nat) : Prop := (kdN ds a = 3 ∨ kdN ds a = 4) ∧ (kdN ds n = 3 ∨ kdN ds n = 4) ∧ lcN ds a = lcN ds n ∧ (kdN ds a = 4 ∨ kdN ds n = 4) ∧ ¬ Ah ds a n
theorem race_read {ds : List Dd} {n : Nat} {wr rd : Int → Nat} (hI : Inv ds n) (hb : BInv ds n) (h : Std ds n wr rd) (hst : stN ds n ≠ []) (hk : kdN ds n = 3) : Late (bgN ds n) (wr (lcN ds n)) ↔ ∃ a, a < n ∧ RaceW ds a n := by
  have hpar := fun a (ha : a < n) => par_late hI hb hst (by omega) (by omega) ha
  constructor
  · intro hl
    rcases h.wh (lcN ds n) with h0 | ⟨a, h1, h2, h3, h4⟩
    · rw [h0] at hl; exact (not_late_root hb hl).elim
    · refine ⟨a, h1, .inr h2, .inl hk, h3, .inl h2, ?_⟩
      rw [hpar a h1, h4]
      exact hl
  · rintro ⟨a, ha, h1, _, h3, h4, h5⟩
    have hk4 : kdN ds a = 4 := by rcases h4 with h4 | h4 <;> omega
    have hd := h.w a ha hk4
    rw [h3] at hd
    exact hd.late ((hpar a ha).1 h5)
theorem race_write {ds : List Dd} {n : Nat} {wr rd : Int → Nat} (hI : Inv ds n) (hb : BInv ds n) (h : Std ds n wr rd) (hst : stN ds n ≠ []) (hk : kdN ds n = 4) : (Late (bgN ds n) (wr (lcN ds n)) ∨ Late (bgN ds n) (rd (lcN ds n))) ↔ ∃ a, a < n ∧ RaceW ds a n := by
  have hpar := fun a (ha : a < n) => par_late hI hb hst (by omega) (by omega) ha
  constructor
  · rintro (hl | hl)
    · rcases h.wh (lcN ds n) with h0 | ⟨a, h1, h2, h3, h4⟩
      · rw [h0] at hl; exact (not_late_root hb hl).elim
      · refine ⟨a, h1, .inr h2, .inr hk, h3, .inl h2, ?_⟩
        rw [hpar a h1, h4]
        exact hl
    · rcases h.rh (lcN ds n) with h0 | ⟨a, h1, h2, h3, h4⟩
      · rw [h0] at hl; exact (not_late_root hb hl).elim
      · refine ⟨a, h1, .inl h2, .inr hk, h3, .inr hk, ?_⟩
        rw [hpar a h1, h4]
        exact hl
  · rintro ⟨a, ha, h1, _, h3, h4, h5⟩
    rcases h1 with h1 | h1
    · have hd := h.r a ha h1
      rw [h3] at hd
      exact .inr (hd.late ((hpar a ha).1 h5))
    · have hd := h.w a ha h1
      rw [h3] at hd
      exact .inl (hd.late ((hpar a ha).1 h5))
end Go.Proofs.Ytolhojagbiaamaa
/-! Sets of tasks in memory: root, parallel. -/
namespace Go.Proofs.Ytolhojagbiaamaa
set_option linter.unusedVariables false
set_option maxRecDepth 20000
set_option linter.unusedSimpArgs false
open Go.RowKit Go.HeapKit

/-- Ways up to a root. -/
structure Fo (U : List Nat) (rt d : Nat → Nat) : Prop where
  up : ∀ x, x < U.length → U.getD x 0 < U.length
  fix : ∀ x, x < U.length → U.getD x 0 = x → rt x = x
  mv : ∀ x, x < U.length → U.getD x 0 ≠ x → d (U.getD x 0) < d x ∧ rt (U.getD x 0) = rt x
  root : ∀ x, x < U.length → rt x < U.length ∧ U.getD (rt x) 0 = rt x
theorem getD_set (U : List Nat) (x v y : Nat) (hx : x < U.length) : (U.set x v).getD y 0 = if y = x then v else U.getD y 0 := by
  rw [List.getD_eq_getElem?_getD, List.getD_eq_getElem?_getD, List.getElem?_set]
  by_cases h : y = x
  · subst h; simp [hx]
  · rw [if_neg (fun e => h e.symm), if_neg h]
/-- A way is made shorter. -/
theorem Fo.half {U : List Nat} {rt d : Nat → Nat} (h : Fo U rt d) {x : Nat} (hx : x < U.length) (hne : U.getD x 0 ≠ x) : Fo (U.set x (U.getD (U.getD x 0) 0)) rt d ∧ d (U.getD (U.getD x 0) 0) < d x ∧ rt (U.getD (U.getD x 0) 0) = rt x := by
  obtain ⟨m1, m2⟩ := h.mv x hx hne
  have hy := h.up x hx
  have hz : d (U.getD (U.getD x 0) 0) ≤ d (U.getD x 0) ∧ rt (U.getD (U.getD x 0) 0) = rt (U.getD x 0) := by
    by_cases e : U.getD (U.getD x 0) 0 = U.getD x 0
    · rw [e]; exact ⟨Nat.le_refl _, rfl⟩
    · obtain ⟨a1, a2⟩ := h.mv _ hy e
      exact ⟨by omega, a2⟩
  have hd : d (U.getD (U.getD x 0) 0) < d x := by omega
  have hr : rt (U.getD (U.getD x 0) 0) = rt x := hz.2.trans m2
  refine ⟨⟨?_, ?_, ?_, ?_⟩, hd, hr⟩
  · intro y hy'
    rw [List.length_set] at hy' ⊢
    rw [getD_set _ _ _ _ hx]
    split
    · exact h.up _ (h.up x hx)
    · exact h.up y hy'
  · intro y hy' e
    rw [List.length_set] at hy'
    rw [getD_set _ _ _ _ hx] at e
    split at e
    · rename_i h1
      subst h1
      rw [e] at hd
      omega
    · exact h.fix y hy' e
  · intro y hy' e
    rw [List.length_set] at hy'
    rw [getD_set _ _ _ _ hx] at e ⊢
    split
    · rename_i h1; subst h1; exact ⟨hd, hr⟩
    · rename_i h1; rw [if_neg h1] at e; exact h.mv y hy' e
  · intro y hy'
    rw [List.length_set] at hy' ⊢
    obtain ⟨r1, r2⟩ := h.root y hy'
    refine ⟨r1, ?_⟩
    rw [getD_set _ _ _ _ hx]
    split
    · rename_i h1
      exfalso
      rw [h1] at r2
      exact hne r2
    · exact r2
theorem natZ_lenB (L : List Nat) : (natZ L).length = L.length := by simp [natZ]
/-- Bools of the call's own. -/
def bvs (l : List Bool) : List Value := l.map Value.bool
/-- The sets in memory, at a place of a block. -/
structure SetM (w : World) (base S o : Nat) (U : List Nat) (M : List Bool) (A : List Int) (gu cu gm cm gl cl : Nat) : Prop where
  c0 : w.cell? ⟨S, o, none⟩ = some (.slice (some ⟨gu, 0, none⟩) U.length cu)
  c1 : w.cell? ⟨S, o + 1, none⟩ = some (.slice (some ⟨gm, 0, none⟩) U.length cm)
  c2 : w.cell? ⟨S, o + 2, none⟩ = some (.slice (some ⟨gl, 0, none⟩) U.length cl)
  ru : RowZ w base (.slice (some ⟨gu, 0, none⟩) U.length cu) (natZ U)
  rm : w.ownsRow base 4 1 (.slice (some ⟨gm, 0, none⟩) U.length cm) U.length (bvs M)
  rl : RowZ w base (.slice (some ⟨gl, 0, none⟩) U.length cl) A
  lm : M.length = U.length
  la : A.length = U.length
  ne : gu ≠ gl
  blk : ∃ c t, w.heap[S]? = some (.cells c t (0, 0)) ∧ t ≠ 3 ∧ t ≠ 4
section
variable {w w' : World} {base S o gu cu gm cm gl cl : Nat} {U : List Nat} {M : List Bool} {A : List Int}
theorem SetM.ublk (h : SetM w base S o U M A gu cu gm cm gl cl) : ∃ cur, w.heap[gu]? = some (.cells cur 3 (0, 0)) := own_block h.ru rfl
theorem SetM.lblk (h : SetM w base S o U M A gu cu gm cm gl cl) : ∃ cur, w.heap[gl]? = some (.cells cur 3 (0, 0)) := own_block h.rl rfl
theorem SetM.mblk (h : SetM w base S o U M A gu cu gm cm gl cl) : ∃ cur, w.heap[gm]? = some (.cells cur 4 (0, 0)) := own_block h.rm rfl
theorem ne_of_types {w : World} {p q : Nat} {c c' : Array Value} {t t' : TypeId} {f f' : Nat × Nat} (hp : w.heap[p]? = some (.cells c t f)) (hq : w.heap[q]? = some (.cells c' t' f')) (ht : t ≠ t') : p ≠ q := by
  intro e
  subst e
  rw [hp] at hq
  injection hq with hq
  injection hq with _ hq
  exact ht hq
theorem SetM.neS (h : SetM w base S o U M A gu cu gm cm gl cl) : S ≠ gu ∧ S ≠ gm ∧ S ≠ gl ∧ gm ≠ gu ∧ gm ≠ gl := by
  obtain ⟨c, t, h1, h2, h3⟩ := h.blk
  obtain ⟨_, hu⟩ := h.ublk
  obtain ⟨_, hl⟩ := h.lblk
  obtain ⟨_, hm⟩ := h.mblk
  exact ⟨ne_of_types h1 hu h2, ne_of_types h1 hm h3, ne_of_types h1 hl h2, ne_of_types hm hu (by decide), ne_of_types hm hl (by decide)⟩
theorem SetM.kept {P : Nat → Prop} (h : SetM w base S o U M A gu cu gm cm gl cl) (hk : Keeps P w w') (h0 : ¬ P S) (h1 : ¬ P gu) (h2 : ¬ P gm) (h3 : ¬ P gl) : SetM w' base S o U M A gu cu gm cm gl cl := by
  obtain ⟨c, t, b1, b2, b3⟩ := h.blk
  exact ⟨hk.cell h.c0 h0, hk.cell h.c1 h0, hk.cell h.c2 h0, h.ru.kept hk (fun g e => by simp [Value.ownBlock] at e; subst e; exact h1), row_kept h.rm hk (fun g e => by simp [Value.ownBlock] at e; subst e; exact h2), h.rl.kept hk (fun g e => by simp [Value.ownBlock] at e; subst e; exact h3), h.lm, h.la, h.ne, c, t, blk_kept b1 hk h0, b2, b3⟩
theorem SetM.more (h : SetM w base S o U M A gu cu gm cm gl cl) (hk : Keeps None w w') : SetM w' base S o U M A gu cu gm cm gl cl := h.kept hk (fun f => f) (fun f => f) (fun f => f) (fun f => f)
theorem SetM.uat (h : SetM w base S o U M A gu cu gm cm gl cl) {x : Nat} (hx : x < U.length) : w.cell? ⟨gu, x, none⟩ = some (.int .i64 (U.getD x 0 : Nat)) ∧ w.frozen? ⟨gu, x, none⟩ = false := by
  have hr := h.ru
  rw [← natZ_lenB U] at hr
  obtain ⟨h1, h2, _⟩ := RowZ.at (k := x) (x := ((U.getD x 0 : Nat) : Int)) hr (by simp [natZ, List.getD_eq_getElem?_getD, hx])
  exact ⟨h1, h2⟩
/-- One of the ways up is another one. -/
theorem SetM.putU (h : SetM w base S o U M A gu cu gm cm gl cl) (x v : Nat) : SetM (w.setCell ⟨gu, x, none⟩ (.int .i64 v)) base S o (U.set x v) M A gu cu gm cm gl cl ∧ Keeps (· = gu) w (w.setCell ⟨gu, x, none⟩ (.int .i64 v)) := by
  have hk : Keeps (· = gu) w (w.setCell ⟨gu, x, none⟩ (.int .i64 v)) := keeps_one (Keeps.refl _ _) _
  obtain ⟨n1, n2, n3, n4, n5⟩ := h.neS
  obtain ⟨c, t, b1, b2, b3⟩ := h.blk
  have hr := h.ru
  rw [← natZ_lenB U] at hr
  have hp := RowZ.put (k := x) hr (v : Int)
  have e : (natZ U).set x (v : Int) = natZ (U.set x v) := by simp [natZ, List.map_set]
  rw [e, natZ_lenB] at hp
  refine ⟨⟨?_, ?_, ?_, ?_, ?_, ?_, by rw [List.length_set]; exact h.lm, by rw [List.length_set]; exact h.la, h.ne, c, t, blk_kept b1 hk n1, b2, b3⟩, hk⟩
  · rw [List.length_set]; exact hk.cell h.c0 n1
  · rw [List.length_set]; exact hk.cell h.c1 n1
  · rw [List.length_set]; exact hk.cell h.c2 n1
  · rw [List.length_set]; exact hp
  · rw [List.length_set]; exact row_kept h.rm hk (fun g e => by simp [Value.ownBlock] at e; subst e; exact n4)
  · rw [List.length_set]; exact h.rl.kept hk (fun g e => by simp [Value.ownBlock] at e; subst e; exact fun e => h.ne e.symm)
end
set_option maxHeartbeats 1600000 in
theorem root_ok (w : World) (base S o gu cu gm cm gl cl t : Nat) (U : List Nat) (M : List Bool) (A : List Int) (rt d : Nat → Nat) (h : SetM w base S o U M A gu cu gm cm gl cl) (hF : Fo U rt d) (ht : t < U.length) (hn : U.length ≤ 5000) :
    Calls Try.prog 64 #[.pointer (some ⟨S, o, none⟩), .int .i64 t] w fun e w' => e = .returned (.int .i64 (rt t : Nat)) ∧ (∃ U', SetM w' base S o U' M A gu cu gm cm gl cl ∧ Fo U' rt d ∧ U'.length = U.length) ∧ Keeps (· = gu) w w' := by
  have H0 : Hid (SetM w base S o U M A gu cu gm cm gl cl ∧ Fo U rt d) := ⟨h, hF⟩
  obtain ⟨T, hT⟩ : ∃ T, T = U.length := ⟨_, rfl⟩
  have HT : Hid (T = U.length) := hT
  rw [← hT] at ht hn
  clear h hF hT
  go_enter Try.func64, Try.ntmps64
  go_wp2_with fail
  go_loopw [1] (fun s1 wr => ∃ (x : Nat) (U' : List Nat), x < T ∧ s1 = .int .i64 x ∧ SetM wr base S o U' M A gu cu gm cm gl cl ∧ Fo U' rt d ∧ U'.length = T ∧ rt x = rt t ∧ Keeps (· = gu) w wr) (fun s1 _ => d (intOf s1).toNat)
  case atStart => exact ⟨t, U, ht, rfl, H0.out.1, H0.out.2, HT.out.symm, rfl, Keeps.refl _ _⟩
  case round =>
    clear H0
    obtain ⟨x, U', hx, rfl, hM, hF, hl, hrt, hkp⟩ := hrel
    have hxU : x < U'.length := by omega
    have c0 := hM.c0
    rw [hl] at c0
    obtain ⟨y, hy⟩ : ∃ y, y = U'.getD x 0 := ⟨_, rfl⟩
    obtain ⟨uy, uf⟩ := hM.uat hxU
    rw [← hy] at uy
    have hyT : y < T := by rw [hy, ← hl]; exact hF.up x hxU
    have i1 : (x : Int) < (T : Int) := by omega
    by_cases hyx : y = x
    · have HN : Hid (rt t = x ∧ (∃ U', SetM wr base S o U' M A gu cu gm cm gl cl ∧ Fo U' rt d ∧ U'.length = T) ∧ Keeps (· = gu) w wr) := ⟨by rw [← hrt]; exact hF.fix x hxU (by rw [← hy]; exact hyx), ⟨U', hM, hF, hl⟩, hkp⟩
      subst hyx
      clear hM hF hl hrt hkp hy
      go_wp2
      go_ret
      refine ⟨by rw [HN.out.1]; rfl, ?_, HN.out.2.2⟩
      obtain ⟨U2, a1, a2, a3⟩ := HN.out.2.1
      exact ⟨U2, a1, a2, a3.trans HT.out⟩
    · obtain ⟨z, hz⟩ : ∃ z, z = U'.getD y 0 := ⟨_, rfl⟩
      obtain ⟨uz, _⟩ := hM.uat (x := y) (by omega)
      rw [← hz] at uz
      obtain ⟨f1, f2, f3⟩ := hF.half hxU (by rw [← hy]; exact hyx)
      rw [← hy, ← hz] at f1 f2 f3
      have hzT : z < T := by rw [hz, ← hl]; exact hF.up y (by omega)
      obtain ⟨hM2, hk2⟩ := hM.putU x z
      have i2 : (y : Int) < (T : Int) := by omega
      have i3 : ¬ (y : Int) = (x : Int) := by omega
      have HN : Hid (SetM ((wr.setCell ⟨gu, x, none⟩ (.int .i64 z)).drew) base S o (U'.set x z) M A gu cu gm cm gl cl ∧ Fo (U'.set x z) rt d ∧ (U'.set x z).length = T ∧ rt z = rt t ∧ Keeps (· = gu) w ((wr.setCell ⟨gu, x, none⟩ (.int .i64 z)).drew) ∧ d z < d x) := ⟨hM2.more (Keeps.drew None _), f1, by rw [List.length_set]; exact hl, f3.trans hrt, (hkp.trans hk2 (fun _ e _ => e)).andDrew, f2⟩
      have u2 : (wr.setCell ⟨gu, x, none⟩ (.int .i64 z)).drew.cell? ⟨gu, x, none⟩ = some (.int .i64 z) := by
        have := ((hM2.more (Keeps.drew None _)).uat (x := x) (by rw [List.length_set]; omega)).1
        rw [getD_set _ _ _ _ hxU, if_pos rfl] at this
        exact this
      have c2 : (wr.setCell ⟨gu, x, none⟩ (.int .i64 z)).drew.cell? ⟨S, o, none⟩ = some (.slice (some ⟨gu, 0, none⟩) T cu) := by
        have := (hM2.more (Keeps.drew None _)).c0
        rw [List.length_set, hl] at this
        exact this
      clear hM hF hl hrt hkp hy hz f1 f2 f3 hM2 hk2 hxU hyx
      go_wp2_with fail
      go_cut [1] (fun s1 wx => s1 = .int .i64 x ∧ wx = (wr.setCell ⟨gu, x, none⟩ (.int .i64 z)).drew)
      case first =>
        go_region
        go_wp2_with fail
        go_meet
        exact ⟨rfl, rfl⟩
      case rest =>
      obtain ⟨rfl, hwc⟩ := hcut
      have hwc' := hwc.symm
      subst hwc'
      obtain ⟨W, hW⟩ : ∃ W, W = (wr.setCell ⟨gu, x, none⟩ (.int .i64 z)).drew := ⟨_, rfl⟩
      rw [← hW] at u2 c2 HN ⊢
      clear hW uy uf uz c0
      go_wp2
      go_roundw
      case rel => exact ⟨z, U'.set x z, hzT, rfl, HN.out.1, HN.out.2.1, HN.out.2.2.1, HN.out.2.2.2.1, HN.out.2.2.2.2.1⟩
      case measure => simp [intOf]; exact HN.out.2.2.2.2.2
end Go.Proofs.Ytolhojagbiaamaa
/-! Sets of tasks in memory: parallel, join, wait. -/
namespace Go.Proofs.Ytolhojagbiaamaa
set_option linter.unusedVariables false
set_option maxRecDepth 20000
set_option linter.unusedSimpArgs false
open Go.RowKit Go.HeapKit

section
variable {w w' : World} {base S o gu cu gm cm gl cl : Nat} {U : List Nat} {M : List Bool} {A : List Int}
theorem SetM.mat (h : SetM w base S o U M A gu cu gm cm gl cl) {x : Nat} (hx : x < U.length) : w.cell? ⟨gm, x, none⟩ = some (.bool (M.getD x false)) ∧ w.frozen? ⟨gm, x, none⟩ = false := by
  rcases h.rm.2 with ⟨h0, _⟩ | ⟨g', cap, cur, hv, hbg, hg, hnc, hcm, hcs, htake⟩
  · cases h0
  · injection hv with e1 e2 e3
    injection e1 with e1
    injection e1 with e1
    subst e1 e3
    have hv : (bvs M)[x]? = some (.bool (M.getD x false)) := by
      have : x < M.length := by rw [h.lm]; exact hx
      simp [bvs, List.getD_eq_getElem?_getD, this]
    refine ⟨?_, blk_free hg x⟩
    rw [blk_cell hg]
    rw [← htake, List.getElem?_take] at hv
    split at hv
    · simpa using hv
    · cases hv
theorem SetM.lat (h : SetM w base S o U M A gu cu gm cm gl cl) {x : Nat} (hx : x < U.length) : w.cell? ⟨gl, x, none⟩ = some (.int .i64 (A.getD x 0)) ∧ w.frozen? ⟨gl, x, none⟩ = false := by
  have hr := h.rl
  rw [← h.la] at hr
  obtain ⟨h1, h2, _⟩ := RowZ.at (k := x) (x := A.getD x 0) hr (by have : x < A.length := by rw [h.la]; exact hx
                                                                  simp [List.getD_eq_getElem?_getD, this])
  exact ⟨h1, h2⟩
theorem SetM.putA (h : SetM w base S o U M A gu cu gm cm gl cl) (x : Nat) (v : Int) : SetM (w.setCell ⟨gl, x, none⟩ (.int .i64 v)) base S o U M (A.set x v) gu cu gm cm gl cl ∧ Keeps (· = gl) w (w.setCell ⟨gl, x, none⟩ (.int .i64 v)) := by
  have hk : Keeps (· = gl) w (w.setCell ⟨gl, x, none⟩ (.int .i64 v)) := keeps_one (Keeps.refl _ _) _
  obtain ⟨n1, n2, n3, n4, n5⟩ := h.neS
  obtain ⟨c, t, b1, b2, b3⟩ := h.blk
  have hr := h.rl
  rw [← h.la] at hr
  have hp := RowZ.put (k := x) hr v
  rw [h.la] at hp
  exact ⟨⟨hk.cell h.c0 n3, hk.cell h.c1 n3, hk.cell h.c2 n3, h.ru.kept hk (fun g e => by simp [Value.ownBlock] at e; subst e; exact h.ne), row_kept h.rm hk (fun g e => by simp [Value.ownBlock] at e; subst e; exact n5), hp, h.lm, by rw [List.length_set]; exact h.la, h.ne, c, t, blk_kept b1 hk n3, b2, b3⟩, hk⟩
theorem SetM.putM (h : SetM w base S o U M A gu cu gm cm gl cl) (x : Nat) (v : Bool) : SetM (w.setCell ⟨gm, x, none⟩ (.bool v)) base S o U (M.set x v) A gu cu gm cm gl cl ∧ Keeps (· = gm) w (w.setCell ⟨gm, x, none⟩ (.bool v)) := by
  have hk : Keeps (· = gm) w (w.setCell ⟨gm, x, none⟩ (.bool v)) := keeps_one (Keeps.refl _ _) _
  obtain ⟨n1, n2, n3, n4, n5⟩ := h.neS
  obtain ⟨c, t, b1, b2, b3⟩ := h.blk
  have hp := row_set h.rm x (.bool v)
  have e : (bvs M).set x (.bool v) = bvs (M.set x v) := by simp [bvs, List.map_set]
  rw [e] at hp
  exact ⟨⟨hk.cell h.c0 n2, hk.cell h.c1 n2, hk.cell h.c2 n2, h.ru.kept hk (fun g e => by simp [Value.ownBlock] at e; subst e; exact fun e => n4 e.symm), hp, h.rl.kept hk (fun g e => by simp [Value.ownBlock] at e; subst e; exact fun e => n5 e.symm), by rw [List.length_set]; exact h.lm, h.la, h.ne, c, t, blk_kept b1 hk n2, b2, b3⟩, hk⟩
end
set_option maxHeartbeats 1600000 in
theorem isPar_ok (w : World) (base S o gu cu gm cm gl cl t : Nat) (U : List Nat) (M : List Bool) (A : List Int) (rt d : Nat → Nat) (h : SetM w base S o U M A gu cu gm cm gl cl) (hF : Fo U rt d) (ht : t < U.length) (hn : U.length ≤ 5000) :
    Calls Try.prog 58 #[.pointer (some ⟨S, o, none⟩), .int .i64 t] w fun e w' => e = .returned (.bool (M.getD (rt t) false)) ∧ (∃ U', SetM w' base S o U' M A gu cu gm cm gl cl ∧ Fo U' rt d ∧ U'.length = U.length) ∧ Keeps (· = gu) w w' := by
  obtain ⟨T, hT⟩ : ∃ T, T = U.length := ⟨_, rfl⟩
  have HT : Hid (T = U.length ∧ rt t < T) := ⟨hT, by rw [hT]; exact (hF.root t ht).1⟩
  have c1 := h.c1
  rw [← hT] at c1
  have hS : S ≠ gu := h.neS.1
  have HC : Hid (∀ w1, Keeps None w w1 → Calls Try.prog 64 #[.pointer (some ⟨S, o, none⟩), .int .i64 t] w1 fun e w' => e = .returned (.int .i64 (rt t : Nat)) ∧ w'.cell? ⟨S, o + 1, none⟩ = some (.slice (some ⟨gm, 0, none⟩) T cm) ∧ w'.cell? ⟨gm, rt t, none⟩ = some (.bool (M.getD (rt t) false)) ∧ Hid ((∃ U', SetM w' base S o U' M A gu cu gm cm gl cl ∧ Fo U' rt d ∧ U'.length = U.length) ∧ Keeps (· = gu) w w')) := fun w1 hk => (root_ok w1 base S o gu cu gm cm gl cl t U M A rt d (h.more hk) hF ht hn).mono fun e w' hp => by
    obtain ⟨h1, ⟨U', h2, h3, h4⟩, h5⟩ := hp
    have hc := h2.c1
    rw [h4, ← hT] at hc
    exact ⟨h1, hc, (h2.mat (by rw [h4]; exact (hF.root t ht).1)).1, ⟨⟨U', h2, h3, h4⟩, (hk.mono (fun _ f _ => f.elim)).trans h5 (fun _ e _ => e)⟩⟩
  have m1 := (h.mat (hF.root t ht).1).1
  obtain ⟨R, hR⟩ : ∃ R, R = rt t := ⟨_, rfl⟩
  rw [← hR] at HC HT m1 ⊢
  have i1 : (R : Int) < (T : Int) := by have := HT.out.2; omega
  clear h hF ht hn hT hR
  go_enter Try.func58, Try.ntmps58
  go_wp2_with fail
  go_cut [4] (fun s4 wx => s4 = .bool (M.getD R false) ∧ (∃ U', SetM wx base S o U' M A gu cu gm cm gl cl ∧ Fo U' rt d ∧ U'.length = U.length) ∧ Keeps (· = gu) w wx)
  case first =>
    go_region_held3 (fun w' => w'.cell? ⟨S, o + 1, none⟩ = some (.slice (some ⟨gm, 0, none⟩) T cm) ∧ w'.cell? ⟨gm, R, none⟩ = some (.bool (M.getD R false))) (first | exact ⟨q1, q2⟩ | go_keep) (first | (go_at_call 64; refine Calls.mono (HC.out _ (Keeps.drew None _)) ?_; rintro _ w2 ⟨rfl, q1, q2, q3⟩))
    all_goals (go_wp2_with fail; go_meet)
    all_goals exact ⟨rfl, q3.out⟩
  case rest =>
  obtain ⟨rfl, hq⟩ := hcut
  have HQ : Hid _ := hq
  clear hq
  go_wp2
  go_ret
  exact ⟨rfl, HQ.out⟩
/-- Two sets are one. -/
theorem Fo.join {U : List Nat} {rt d : Nat → Nat} (h : Fo U rt d) {f s : Nat} (hf : f < U.length) (hs : s < U.length) (hne : rt f ≠ rt s) :
    Fo (U.set (rt s) (rt f)) (fun x => if rt x = rt s then rt f else rt x) (fun x => d x + (if rt x = rt s then d (rt f) + 1 else 0)) := by
  obtain ⟨f1, f2⟩ := h.root f hf
  obtain ⟨s1, s2⟩ := h.root s hs
  have rf : rt (rt f) = rt f := h.fix _ f1 f2
  have rs : rt (rt s) = rt s := h.fix _ s1 s2
  refine ⟨?_, ?_, ?_, ?_⟩
  · intro x hx
    rw [List.length_set] at hx ⊢
    rw [getD_set _ _ _ _ s1]
    split
    · exact f1
    · exact h.up x hx
  · intro x hx e
    rw [List.length_set] at hx
    rw [getD_set _ _ _ _ s1] at e
    split at e
    · rename_i h1
      subst h1
      exact (hne e).elim
    · rename_i h1
      have hr := h.fix x hx e
      have hn2 : rt x ≠ rt s := fun e2 => h1 (by rw [← e2]; exact hr.symm)
      simp only [if_neg hn2]
      exact hr
  · intro x hx e
    rw [List.length_set] at hx
    rw [getD_set _ _ _ _ s1] at e ⊢
    split
    · rename_i h1
      subst h1
      simp only [rs, rf, if_true, if_neg hne]
      exact ⟨by omega, trivial⟩
    · rename_i h1
      rw [if_neg h1] at e
      obtain ⟨m1, m2⟩ := h.mv x hx e
      simp only [m2]
      exact ⟨by omega, trivial⟩
  · intro x hx
    rw [List.length_set] at hx ⊢
    obtain ⟨r1, r2⟩ := h.root x hx
    by_cases e : rt x = rt s
    · simp only [if_pos e]
      refine ⟨f1, ?_⟩
      rw [getD_set _ _ _ _ s1, if_neg hne]
      exact f2
    · simp only [if_neg e]
      refine ⟨r1, ?_⟩
      rw [getD_set _ _ _ _ s1, if_neg e]
      exact r2
def joinR (rt : Nat → Nat) (f s : Nat) : Nat → Nat := fun x => if rt x = rt s then rt f else rt x
set_option maxHeartbeats 1600000 in
theorem join_ok (w : World) (base S o gu cu gm cm gl cl f s : Nat) (U : List Nat) (M : List Bool) (A : List Int) (rt d : Nat → Nat) (h : SetM w base S o U M A gu cu gm cm gl cl) (hF : Fo U rt d) (hf : f < U.length) (hs : s < U.length) (hne : rt f ≠ rt s) (hn : U.length ≤ 5000) :
    Calls Try.prog 62 #[.pointer (some ⟨S, o, none⟩), .int .i64 f, .int .i64 s] w fun e w' => e = .returned (.tuple #[]) ∧ (∃ U' d', SetM w' base S o U' M A gu cu gm cm gl cl ∧ Fo U' (joinR rt f s) d' ∧ U'.length = U.length) ∧ Keeps (· = gu) w w' := by
  obtain ⟨T, hT⟩ : ∃ T, T = U.length := ⟨_, rfl⟩
  have c0 := h.c0
  rw [← hT] at c0
  have step : ∀ (x : Nat) (w1 : World) (U1 : List Nat), x < T → SetM w1 base S o U1 M A gu cu gm cm gl cl → Fo U1 rt d → U1.length = T → Keeps (· = gu) w w1 → Calls Try.prog 64 #[.pointer (some ⟨S, o, none⟩), .int .i64 x] w1 fun e w' => e = .returned (.int .i64 (rt x : Nat)) ∧ w'.cell? ⟨S, o, none⟩ = some (.slice (some ⟨gu, 0, none⟩) T cu) ∧ Hid ((∃ U', SetM w' base S o U' M A gu cu gm cm gl cl ∧ Fo U' rt d ∧ U'.length = T) ∧ Keeps (· = gu) w w') := fun x w1 U1 hx h1 h2 h3 h4 => (root_ok w1 base S o gu cu gm cm gl cl x U1 M A rt d h1 h2 (by omega) (by omega)).mono fun e w' hp => by
    obtain ⟨p1, ⟨U', p2, p3, p4⟩, p5⟩ := hp
    have hc := p2.c0
    rw [p4, h3] at hc
    exact ⟨p1, hc, ⟨⟨U', p2, p3, p4.trans h3⟩, h4.trans p5 (fun _ e _ => e)⟩⟩
  have HST : Hid _ := step
  have H0 : Hid (SetM w base S o U M A gu cu gm cm gl cl ∧ Fo U rt d ∧ U.length = T ∧ f < T ∧ s < T ∧ rt f ≠ rt s ∧ rt s < T ∧ rt f < T) := ⟨h, hF, hT.symm, by omega, by omega, hne, by rw [hT]; exact (hF.root s hs).1, by rw [hT]; exact (hF.root f hf).1⟩
  have i1 : ((rt s : Nat) : Int) < (T : Int) := by have := H0.out.2.2.2.2.2.2.1; omega
  have HSG : Hid (S ≠ gu) := h.neS.1
  clear h hF hf hs hne hn hT step
  go_enter Try.func62, Try.ntmps62
  have HG : Hid (∀ w2, ((∃ U', SetM w2 base S o U' M A gu cu gm cm gl cl ∧ Fo U' rt d ∧ U'.length = T) ∧ Keeps (· = gu) w w2) → w2.cell? ⟨gu, rt s, none⟩ ≠ none ∧ w2.frozen? ⟨gu, rt s, none⟩ = false ∧ (∃ U' d', SetM (w2.setCell ⟨gu, rt s, none⟩ (.int .i64 (rt f : Nat))) base S o U' M A gu cu gm cm gl cl ∧ Fo U' (joinR rt f s) d' ∧ U'.length = U.length) ∧ Keeps (· = gu) w (w2.setCell ⟨gu, rt s, none⟩ (.int .i64 (rt f : Nat)))) := by
    rintro w2 ⟨⟨U', p2, p3, p4⟩, p5⟩
    obtain ⟨a1, a2, a3, a4, a5, a6, a7, a8⟩ := H0.out
    obtain ⟨u1, u2⟩ := p2.uat (x := rt s) (by omega)
    obtain ⟨m1, m2⟩ := p2.putU (rt s) (rt f)
    refine ⟨by rw [u1]; simp, u2, ⟨_, _, m1, p3.join (by omega) (by omega) a6, by rw [List.length_set, p4, a3]⟩, p5.trans m2 (fun _ e _ => e)⟩
  have TK : Hid True := trivial
  go_region_held3 (fun w' => w'.cell? ⟨S, o, none⟩ = some (.slice (some ⟨gu, 0, none⟩) T cu)) (first | exact q6 | exact q4 | exact q1 | go_keep) (first
    | (go_at_call 64; have tk := TK.out; clear TK tk; refine Calls.mono (HST.out s _ U H0.out.2.2.2.2.1 (H0.out.1.more (Keeps.drew None _)) H0.out.2.1 H0.out.2.2.1 ((Keeps.refl _ _).andDrew)) ?_; rintro _ w2 ⟨rfl, q1, q2⟩; obtain ⟨⟨U2, v1, v2, v3⟩, v4⟩ := q2.out; have V1 : Hid _ := v1; have V2 : Hid _ := v2; have V3 : Hid _ := v3; have V4 : Hid _ := v4; clear v1 v2 v3 v4)
    | (go_at_call 64; refine Calls.mono (HST.out f _ U2 H0.out.2.2.2.1 V1.out V2.out V3.out V4.out) ?_; rintro _ w3 ⟨rfl, q4, q5⟩; obtain ⟨g1, g2, g3, g4⟩ := HG.out w3 q5.out; obtain ⟨gv, hgv⟩ := Option.ne_none_iff_exists'.1 g1; have HG3 : Hid _ := g3; have HG4 : Hid _ := g4; have q6 := (keeps_one (Keeps.refl (· = gu) w3) (o := rt s) (.int .i64 (rt f : Nat))).cell q4 HSG.out; clear g3 g4 g1))
  all_goals (go_wp2_with fail; go_end0)
  all_goals exact ⟨rfl, HG3.out, HG4.out⟩
end Go.Proofs.Ytolhojagbiaamaa
/-! Sets of tasks in memory: wait. -/
namespace Go.Proofs.Ytolhojagbiaamaa
set_option linter.unusedVariables false
set_option maxRecDepth 20000
set_option linter.unusedSimpArgs false
open Go.RowKit Go.HeapKit

set_option maxHeartbeats 1600000 in
theorem wait_none (w : World) (base S o gu cu gm cm gl cl t : Nat) (U : List Nat) (M : List Bool) (A : List Int) (h : SetM w base S o U M A gu cu gm cm gl cl) (ht : t < U.length) (hA : A.getD t 0 = -1) (hn : U.length ≤ 5000) :
    Calls Try.prog 55 #[.pointer (some ⟨S, o, none⟩), .int .i64 t] w fun e w' => e = .returned (.tuple #[]) ∧ w' = w := by
  obtain ⟨T, hT⟩ : ∃ T, T = U.length := ⟨_, rfl⟩
  have c2 := h.c2
  have l1 := (h.lat ht).1
  rw [← hT] at c2 ht
  rw [hA] at l1
  have i1 : (t : Int) < (T : Int) := by omega
  clear h hA hn hT
  go_enter Try.func55, Try.ntmps55
  go_wp2
  go_end0
  exact ⟨rfl, rfl⟩
set_option maxHeartbeats 1600000 in
theorem wait_some (w : World) (base S o gu cu gm cm gl cl t e0 : Nat) (U : List Nat) (M : List Bool) (A : List Int) (rt d : Nat → Nat) (h : SetM w base S o U M A gu cu gm cm gl cl) (hF : Fo U rt d) (ht : t < U.length) (he : e0 < U.length) (hA : A.getD t 0 = (e0 : Int)) (hne : rt t ≠ rt e0) (hn : U.length ≤ 5000) :
    Calls Try.prog 55 #[.pointer (some ⟨S, o, none⟩), .int .i64 t] w fun e w' => e = .returned (.tuple #[]) ∧ (∃ U' d', SetM w' base S o U' M (A.set t (-1)) gu cu gm cm gl cl ∧ Fo U' (joinR rt t e0) d' ∧ U'.length = U.length) ∧ Keeps (fun i => i = gu ∨ i = gl) w w' := by
  obtain ⟨T, hT⟩ : ∃ T, T = U.length := ⟨_, rfl⟩
  have c2 := h.c2
  have l1 := (h.lat ht).1
  rw [← hT] at c2
  rw [hA] at l1
  have HC : Hid _ := join_ok w base S o gu cu gm cm gl cl t e0 U M A rt d h hF ht he hne hn
  rw [← hT] at ht he hn
  have i1 : (t : Int) < (T : Int) := by omega
  have i2 : ¬ (e0 : Int) = -1 := by omega
  have HT : Hid (T = U.length) := hT
  clear h hF hA hT hne
  go_enter Try.func55, Try.ntmps55
  go_upto_region 3 with (go_at_call 62; refine Calls.mono HC.out ?_; rintro _ w1 ⟨rfl, ⟨U1, d1, hM1, hF1, hl1⟩, hk1⟩)
  have c3 := hM1.c2
  rw [hl1, ← HT.out] at c3
  obtain ⟨l3, f3⟩ := hM1.lat (x := t) (by rw [hl1, ← HT.out]; exact ht)
  obtain ⟨hM2, hk2⟩ := hM1.putA t (-1)
  have HN : Hid ((∃ U' d', SetM (w1.setCell ⟨gl, t, none⟩ (.int .i64 (-1))) base S o U' M (A.set t (-1)) gu cu gm cm gl cl ∧ Fo U' (joinR rt t e0) d' ∧ U'.length = U.length) ∧ Keeps (fun i => i = gu ∨ i = gl) w (w1.setCell ⟨gl, t, none⟩ (.int .i64 (-1)))) := ⟨⟨U1, d1, hM2, hF1, hl1⟩, (hk1.mono (fun i e _ => .inl e)).trans hk2 (fun i e _ => .inr e)⟩
  clear hM1 hF1 hl1 hk1 hM2 hk2
  go_wp2
  go_end0
  exact ⟨rfl, HN.out⟩
/-- The sets hold the bags. -/
structure BagR (B : List Bg) (rt : Nat → Nat) (M : List Bool) (A : List Int) (T : Nat) : Prop where
  p : ∀ b ∈ B, ∀ x ∈ b.P, rt x = rt b.id ∧ M.getD (rt x) false = false
  o : ∀ b ∈ B, ∀ x ∈ b.O, ∃ e : Nat, A.getD b.id 0 = (e : Int) ∧ e ∈ b.O ∧ rt x = rt e ∧ M.getD (rt x) false = true
  none : ∀ b ∈ B, b.O = [] → A.getD b.id 0 = -1
  apart : ∀ x y, x ∈ allB B → y ∈ allB B → rt x = rt y → ∃ b ∈ B, (x ∈ b.P ∧ y ∈ b.P) ∨ (x ∈ b.O ∧ y ∈ b.O)
theorem inO_ex : ∀ {S : List Bg} {k x : Nat}, inO S k x → ∃ b ∈ S, x ∈ b.O
  | [], _, _, h => h.elim
  | t :: r, k, x, h => by
    rcases h with ⟨_, h⟩ | h
    · exact ⟨t, by simp, h⟩
    · obtain ⟨b, hb, hx⟩ := inO_ex h
      exact ⟨b, by simp [hb], hx⟩
theorem ex_inO : ∀ {S : List Bg} {x : Nat}, (∃ b ∈ S, x ∈ b.O) → ∃ k, inO S k x
  | [], _, ⟨b, hb, _⟩ => by simp at hb
  | t :: r, x, ⟨b, hb, hx⟩ => by
    rcases List.mem_cons.1 hb with rfl | hb
    · exact ⟨_, .inl ⟨rfl, hx⟩⟩
    · obtain ⟨k, hk⟩ := ex_inO ⟨b, hb, hx⟩
      exact ⟨k, .inr hk⟩
/-- What parallel tells. -/
theorem BagR.late {B : List Bg} {rt : Nat → Nat} {M : List Bool} {A : List Int} {T : Nat} (h : BagR B rt M A T) {x : Nat} (hx : x ∈ allB B) : M.getD (rt x) false = true ↔ Late B x := by
  constructor
  · intro hm
    have : ∀ {S : List Bg}, x ∈ allB S → ∃ b ∈ S, x ∈ b.P ∨ x ∈ b.O := by
      intro S
      induction S with
      | nil => intro h; simp [allB] at h
      | cons t r ih =>
        intro h
        rw [allB_cons, List.mem_append, List.mem_append] at h
        rcases h with h | h
        · exact ⟨t, by simp, h⟩
        · obtain ⟨b, hb, h2⟩ := ih h
          exact ⟨b, by simp [hb], h2⟩
    obtain ⟨b, hb, h2 | h2⟩ := this hx
    · have := (h.p b hb x h2).2
      rw [this] at hm
      cases hm
    · exact ex_inO ⟨b, hb, h2⟩
  · rintro ⟨k, hk⟩
    obtain ⟨b, hb, hx⟩ := inO_ex hk
    obtain ⟨e, _, _, _, h4⟩ := h.o b hb x hx
    exact h4
end Go.Proofs.Ytolhojagbiaamaa
/-! Sets of tasks in memory: end. -/
namespace Go.Proofs.Ytolhojagbiaamaa
set_option linter.unusedVariables false
set_option maxRecDepth 20000
set_option linter.unusedSimpArgs false
open Go.RowKit Go.HeapKit

/-- The roots behind a wait. -/
def waitR (rt : Nat → Nat) (A : List Int) (t : Nat) : Nat → Nat := if A.getD t 0 = -1 then rt else joinR rt t (A.getD t 0).toNat
/-- The roots behind an end. -/
def endR (r1 : Nat → Nat) (A : List Int) (p t : Nat) : Nat → Nat := if A.getD p 0 = -1 then r1 else joinR r1 (A.getD p 0).toNat t
/-- What a task has to wait for is a task of another set. -/
def LateOk (rt : Nat → Nat) (A : List Int) (t T : Nat) : Prop := A.getD t 0 = -1 ∨ ∃ e : Nat, A.getD t 0 = (e : Int) ∧ e < T ∧ rt t ≠ rt e
theorem set_sameZ (A : List Int) (t : Nat) (h : A.getD t 0 = -1) (ht : t < A.length) : A.set t (-1) = A := by
  apply List.ext_getElem?
  intro j
  rw [List.getElem?_set]
  split
  · rename_i e
    subst e
    rw [List.getD_eq_getElem?_getD] at h
    simp [ht] at h ⊢
    exact h.symm
  · rfl
theorem wait_ok (w : World) (base S o gu cu gm cm gl cl t : Nat) (U : List Nat) (M : List Bool) (A : List Int) (rt d : Nat → Nat) (h : SetM w base S o U M A gu cu gm cm gl cl) (hF : Fo U rt d) (ht : t < U.length) (hL : LateOk rt A t U.length) (hn : U.length ≤ 5000) :
    Calls Try.prog 55 #[.pointer (some ⟨S, o, none⟩), .int .i64 t] w fun e w' => e = .returned (.tuple #[]) ∧ (∃ U' d', SetM w' base S o U' M (A.set t (-1)) gu cu gm cm gl cl ∧ Fo U' (waitR rt A t) d' ∧ U'.length = U.length) ∧ Keeps (fun i => i = gu ∨ i = gl) w w' := by
  rcases hL with hA | ⟨e0, hA, he, hne⟩
  · refine (wait_none w base S o gu cu gm cm gl cl t U M A h ht hA hn).mono ?_
    rintro e w' ⟨rfl, rfl⟩
    refine ⟨rfl, ⟨U, d, ?_, ?_, rfl⟩, Keeps.refl _ _⟩
    · rw [set_sameZ A t hA (by rw [h.la]; exact ht)]; exact h
    · unfold waitR; rw [if_pos hA]; exact hF
  · refine (wait_some w base S o gu cu gm cm gl cl t e0 U M A rt d h hF ht he hA hne hn).mono ?_
    rintro e w' ⟨rfl, ⟨U', d', h1, h2, h3⟩, h4⟩
    refine ⟨rfl, ⟨U', d', h1, ?_, h3⟩, h4⟩
    unfold waitR
    rw [if_neg (by rw [hA]; omega), hA]
    simpa using h2
set_option maxHeartbeats 3200000 in
theorem end_ok (w : World) (base S o gu cu gm cm gl cl t p : Nat) (U : List Nat) (M : List Bool) (A : List Int) (rt d : Nat → Nat) (h : SetM w base S o U M A gu cu gm cm gl cl) (hF : Fo U rt d) (ht : t < U.length) (hp : p < U.length) (htp : t ≠ p) (hL : LateOk rt A t U.length)
    (hL2 : A.getD p 0 = -1 ∨ ∃ e : Nat, A.getD p 0 = (e : Int) ∧ e < U.length ∧ waitR rt A t e ≠ waitR rt A t t) (hn : U.length ≤ 5000) :
    Calls Try.prog 61 #[.pointer (some ⟨S, o, none⟩), .int .i64 t, .int .i64 p] w fun e w' => e = .returned (.tuple #[]) ∧
      (∃ U' d', SetM w' base S o U' (M.set (waitR rt A t t) true) ((A.set t (-1)).set p (t : Int)) gu cu gm cm gl cl ∧ Fo U' (endR (waitR rt A t) A p t) d' ∧ U'.length = U.length) ∧ Keeps (fun i => i = gu ∨ i = gl ∨ i = gm) w w' := by
  obtain ⟨T, hT⟩ : ∃ T, T = U.length := ⟨_, rfl⟩
  have HC : Hid _ := wait_ok w base S o gu cu gm cm gl cl t U M A rt d h hF ht hL hn
  have H0 : Hid (T = U.length ∧ t < T ∧ p < T ∧ T ≤ 5000 ∧ (A.set t (-1)).getD p 0 = A.getD p 0 ∧ A.length = T ∧ S ≠ gu ∧ S ≠ gm ∧ S ≠ gl ∧ gm ≠ gu ∧ gm ≠ gl) := by
    obtain ⟨n1, n2, n3, n4, n5⟩ := h.neS
    refine ⟨hT, by omega, by omega, by omega, ?_, by rw [hT]; exact h.la, n1, n2, n3, n4, n5⟩
    rw [List.getD_eq_getElem?_getD, List.getD_eq_getElem?_getD, List.getElem?_set_ne htp]
  obtain ⟨r1, hr1⟩ : ∃ r1, r1 = waitR rt A t := ⟨_, rfl⟩
  have HL2 : Hid (A.getD p 0 = -1 ∨ ∃ e : Nat, A.getD p 0 = (e : Int) ∧ e < T ∧ r1 e ≠ r1 t) := by rw [hr1, hT]; exact hL2
  rw [← hr1] at HC ⊢
  obtain ⟨A1, hA1⟩ : ∃ A1, A1 = A.set t (-1) := ⟨_, rfl⟩
  rw [← hA1] at HC H0 ⊢
  clear h hF ht hp htp hL hL2 hn hr1 hT hA1
  go_enter Try.func61, Try.ntmps61
  go_wp2_with fail
  refine Calls.mono HC.out ?_
  rintro _ w1 ⟨rfl, ⟨U1, d1, hM1, hF1, hl1⟩, hk1⟩
  have hl1' : U1.length = T := by rw [hl1]; exact H0.out.1.symm
  have htT := H0.out.2.1
  have hpT := H0.out.2.2.1
  have h5 := H0.out.2.2.2.1
  have hrt : r1 t < T := by rw [← hl1']; exact (hF1.root t (by omega)).1
  have c1 := hM1.c1
  rw [hl1'] at c1
  have mr := hM1.mat (x := r1 t) (by omega)
  have HRt : Hid (∀ w2, Keeps None w1 w2 → Calls Try.prog 64 #[.pointer (some ⟨S, o, none⟩), .int .i64 t] w2 fun e w' => e = .returned (.int .i64 (r1 t : Nat)) ∧ w'.cell? ⟨S, o + 1, none⟩ = some (.slice (some ⟨gm, 0, none⟩) T cm) ∧ (∃ b, w'.cell? ⟨gm, r1 t, none⟩ = some (.bool b)) ∧ w'.frozen? ⟨gm, r1 t, none⟩ = false ∧ (w'.setCell ⟨gm, r1 t, none⟩ (.bool true)).cell? ⟨S, o + 1, none⟩ = some (.slice (some ⟨gm, 0, none⟩) T cm) ∧ Hid ((∃ U' d', SetM (w'.setCell ⟨gm, r1 t, none⟩ (.bool true)) base S o U' (M.set (r1 t) true) A1 gu cu gm cm gl cl ∧ Fo U' r1 d' ∧ U'.length = T) ∧ Keeps (fun i => i = gu ∨ i = gl ∨ i = gm) w (w'.setCell ⟨gm, r1 t, none⟩ (.bool true)))) := fun w2 hk => (root_ok w2 base S o gu cu gm cm gl cl t U1 M A1 r1 d1 (hM1.more hk) hF1 (by omega) (by omega)).mono fun e w' hp => by
    obtain ⟨q1, ⟨U', q2, q3, q4⟩, q5⟩ := hp
    have hc := q2.c1
    rw [q4, hl1'] at hc
    obtain ⟨a1, a2⟩ := q2.mat (x := r1 t) (by omega)
    obtain ⟨b1, b2⟩ := q2.putM (r1 t) true
    have hc2 := b1.c1
    rw [q4, hl1'] at hc2
    refine ⟨q1, hc, ⟨_, a1⟩, a2, hc2, ⟨U', d1, b1, q3, q4.trans hl1'⟩, ?_⟩
    refine (((hk1.mono (fun i e _ => ?_)).trans hk (fun _ f _ => f.elim)).trans q5 (fun i e _ => .inl e)).trans b2 (fun i e _ => .inr (.inr e))
    rcases e with e | e
    · exact .inl e
    · exact .inr (.inl e)
  have i1 : ((r1 t : Nat) : Int) < (T : Int) := by omega
  clear hM1 hF1 hl1 hk1 hl1' mr HC
  go_wp2_with fail
  go_cut [1] (fun s1 wx => s1 = .int .i64 t ∧ (∃ U' d', SetM wx base S o U' (M.set (r1 t) true) A1 gu cu gm cm gl cl ∧ Fo U' r1 d' ∧ U'.length = T) ∧ Keeps (fun i => i = gu ∨ i = gl ∨ i = gm) w wx)
  case first =>
    go_region_held3 (fun w' => w'.cell? ⟨S, o + 1, none⟩ = some (.slice (some ⟨gm, 0, none⟩) T cm)) (first | exact q4 | exact q1 | go_keep) (first | (go_at_call 64; refine Calls.mono (HRt.out _ (Keeps.drew None _)) ?_; rintro _ w3 ⟨rfl, q1, ⟨qb, q2⟩, q3, q4, q5⟩))
    all_goals (go_wp2_with fail; go_meet)
    all_goals exact ⟨rfl, q5.out⟩
  case rest =>
  obtain ⟨rfl, ⟨U2, d2, hM2, hF2, hl2⟩, hk2⟩ := hcut
  obtain ⟨W2, hW2⟩ : ∃ W2, W2 = wc := ⟨_, rfl⟩
  rw [← hW2] at hM2 hk2 ⊢
  clear hW2 HRt c1
  have c2 := hM2.c2
  rw [hl2] at c2
  obtain ⟨l2, f2⟩ := hM2.lat (x := p) (by omega)
  rw [H0.out.2.2.2.2.1] at l2
  have i2 : (p : Int) < (T : Int) := by omega
  rcases HL2.out with hA | ⟨e0, hA, he, hne⟩
  · rw [hA] at l2
    obtain ⟨hM3, hk3⟩ := hM2.putA p (t : Int)
    have HN : Hid ((∃ U' d', SetM (W2.setCell ⟨gl, p, none⟩ (.int .i64 t)) base S o U' (M.set (r1 t) true) (A1.set p (t : Int)) gu cu gm cm gl cl ∧ Fo U' (endR r1 A p t) d' ∧ U'.length = U.length) ∧ Keeps (fun i => i = gu ∨ i = gl ∨ i = gm) w (W2.setCell ⟨gl, p, none⟩ (.int .i64 t))) := ⟨⟨U2, d2, hM3, by unfold endR; rw [if_pos hA]; exact hF2, by rw [hl2]; exact H0.out.1⟩, hk2.trans hk3 (fun i e _ => .inr (.inl e))⟩
    clear hM2 hF2 hl2 hk2 hM3 hk3 hA
    go_wp2
    go_end0
    exact ⟨rfl, HN.out⟩
  · rw [hA] at l2
    have HJ : Hid _ := join_ok W2 base S o gu cu gm cm gl cl e0 t U2 (M.set (r1 t) true) A1 r1 d2 hM2 hF2 (by omega) (by omega) hne (by omega)
    have HK2 : Hid (Keeps (fun i => i = gu ∨ i = gl ∨ i = gm) w W2 ∧ U2.length = T ∧ A.getD p 0 = (e0 : Int)) := ⟨hk2, hl2, hA⟩
    have i3 : ¬ (e0 : Int) = -1 := by omega
    clear hM2 hF2 hl2 hk2 hA hne
    go_upto_region 5 with (go_at_call 62; refine Calls.mono HJ.out ?_; rintro _ w4 ⟨rfl, ⟨U4, d4, hM4, hF4, hl4⟩, hk4⟩)
    have hl4' : U4.length = T := by rw [hl4]; exact HK2.out.2.1
    have c4 := hM4.c2
    rw [hl4'] at c4
    obtain ⟨l4, f4⟩ := hM4.lat (x := p) (by omega)
    obtain ⟨hM5, hk5⟩ := hM4.putA p (t : Int)
    have HN : Hid ((∃ U' d', SetM (w4.setCell ⟨gl, p, none⟩ (.int .i64 t)) base S o U' (M.set (r1 t) true) (A1.set p (t : Int)) gu cu gm cm gl cl ∧ Fo U' (endR r1 A p t) d' ∧ U'.length = U.length) ∧ Keeps (fun i => i = gu ∨ i = gl ∨ i = gm) w (w4.setCell ⟨gl, p, none⟩ (.int .i64 t))) := by
      refine ⟨⟨U4, d4, hM5, ?_, by rw [hl4']; exact H0.out.1⟩, (HK2.out.1.trans hk4 (fun i e _ => .inl e)).trans hk5 (fun i e _ => .inr (.inl e))⟩
      unfold endR
      rw [if_neg (by rw [HK2.out.2.2]; omega), HK2.out.2.2]
      simpa using hF4
    clear hM4 hF4 hl4 hk4 hl4' hM5 hk5
    go_wp2
    go_end0
    exact ⟨rfl, HN.out⟩
end Go.Proofs.Ytolhojagbiaamaa
