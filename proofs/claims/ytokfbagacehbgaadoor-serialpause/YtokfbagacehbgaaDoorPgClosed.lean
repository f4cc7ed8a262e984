import Derived.Test.YtokfbagacehbgaaDoorPgSearch
/-! The search, plainly: what is met is closed under the steps. -/
namespace Go.Proofs.YtokfbagacehbgaaDoor
set_option linter.unusedVariables false
set_option maxRecDepth 20000

theorem code_parts {al : Bool} {fs : List Fn} {f : Fn} (h : codeFault al fs f = none) : (∀ (j : Nat) i, f.code[j]? = some i → fitsV al fs f i = true) ∧ runsOut f = false := by
  unfold codeFault at h
  split at h
  · cases h
  · rename_i h1
    refine ⟨fun j i hi => ?_, ?_⟩
    · have := firstAt_all _ f.code 0 h1 j i hi
      by_cases hv : fitsV al fs f i = true
      · exact hv
      · simp [hv] at this
    · cases hr : runsOut f
      · rfl
      · rw [hr] at h; cases h
theorem fits_kind {al : Bool} {fs : List Fn} {f : Fn} {i : Ins} (h : fitsV al fs f i = true) : 0 ≤ i.kind ∧ i.kind < 10 := by
  simp only [fitsV, Bool.and_eq_true] at h
  exact (belowV_iff _ _).1 h.1.1
theorem fits_ways {al : Bool} {fs : List Fn} {f : Fn} {i : Ins} (h : fitsV al fs f i = true) : allowsV al fs f (fA i.kind.toNat) i.a i = true ∧ allowsV al fs f (fB i.kind.toNat) i.b i = true ∧ allowsV al fs f (fC i.kind.toNat) i.c i = true := by
  simp only [fitsV, Bool.and_eq_true] at h
  exact ⟨h.2.1.1, h.2.1.2, h.2.2⟩
theorem good_of {al : Bool} {fs : List Fn} {f : Fn} (hs : shapeV f = true) (h : codeFault al fs f = none) : Good f := by
  obtain ⟨hf, hr⟩ := code_parts h
  have hsh : 1 ≤ f.code.length ∧ f.code.length ≤ 512 := by
    simp only [shapeV, Bool.and_eq_true, decide_eq_true_eq] at hs
    omega
  refine ⟨hsh.1, hsh.2, fun j i hi => fits_kind (hf j i hi), fun j i hi a ha => ?_⟩
  have hj := (List.getElem?_eq_some_iff.1 hi).1
  obtain ⟨w1, w2, w3⟩ := fits_ways (hf j i hi)
  simp only [exitsV, List.mem_append] at ha
  rcases ha with (ha | ha) | ha
  · split at ha
    · rename_i hn
      simp at ha
      subst ha
      have : j ≠ f.code.length - 1 := by
        rintro rfl
        unfold runsOut at hr
        rw [hi] at hr
        simp only at hr
        rw [hn] at hr
        cases hr
      omega
    · cases ha
  · split at ha
    · rename_i hn
      simp at ha
      subst ha
      rw [hn] at w1
      simp [allowsV, belowV] at w1
      exact w1
    · cases ha
  · split at ha
    · rename_i hn
      simp at ha
      subst ha
      rw [hn] at w2
      simp [allowsV, belowV] at w2
      exact w2
    · cases ha

theorem ptIx_inj {n : Nat} {p q : Pt} (hp : PtOk n p) (hq : PtOk n q) (h : ptIx p = ptIx q) : p = q := by
  obtain ⟨p1, p2⟩ := p
  obtain ⟨q1, q2⟩ := q
  obtain ⟨h1, h2, h3⟩ := hp
  obtain ⟨k1, k2, k3⟩ := hq
  unfold ptIx at h
  simp only at *
  have : p1 = q1 := by omega
  have : p2 = q2 := by omega
  simp_all
theorem met_set {n : Nat} {fr : List Pt} {p q here : Pt} (hp : PtOk n p) (hq : PtOk n q) (hl : fr.length = n * 5) (hh : here.2 ≠ 0) : metV (fr.set (ptIx p) here) q = true ↔ q = p ∨ metV fr q = true := by
  have hlt := ptIx_lt hp
  by_cases e : ptIx p = ptIx q
  · have := ptIx_inj hp hq e
    subst this
    simp [metV, List.getD, hl, hlt, hh]
  · have : q ≠ p := fun h => e (by rw [h])
    have e2 : (fr.set (ptIx p) here).getD (ptIx q) (0, 0) = fr.getD (ptIx q) (0, 0) := by rw [List.getD_eq_getElem?_getD, List.getElem?_set_ne e, ← List.getD_eq_getElem?_getD]
    unfold metV
    rw [e2]
    exact ⟨.inr, fun h => h.resolve_left this⟩

/-- What a visit does: nothing is forgotten, all is met, what is new lies in the queue. -/
structure Visited (n : Nat) (st : Int) (L : List Int) (fr op fr' op' : List Pt) : Prop where
  mono : ∀ p, PtOk n p → metV fr p = true → metV fr' p = true
  all : ∀ a ∈ L, metV fr' (a, st) = true
  new : ∀ p, PtOk n p → metV fr' p = true → metV fr p = true ∨ p ∈ op'
  old : ∀ p ∈ op, p ∈ op'
  qmet : (∀ p ∈ op, metV fr p = true) → ∀ p ∈ op', metV fr' p = true
theorem visit_closed (n : Nat) (goal here : Pt) (st : Int) (hst : st = 1 ∨ st = 2 ∨ st = 4) (hh : here.2 ≠ 0) : ∀ (L : List Int) (fr op : List Pt), (∀ a ∈ L, 0 ≤ a ∧ a < n) → Seeks n fr op →
    (visit goal here st L fr op).2.2 = false → Visited n st L fr op (visit goal here st L fr op).1 (visit goal here st L fr op).2.1
  | [], fr, op, _, h, _ => ⟨fun _ _ m => m, fun _ h => (by cases h), fun _ _ m => .inl m, fun _ m => m, fun q => q⟩
  | a :: r, fr, op, hL, h, hb => by
    have ha := hL a (List.mem_cons_self ..)
    have hp : PtOk n (a, st) := ⟨ha.1, ha.2, hst⟩
    have hr : ∀ b ∈ r, 0 ≤ b ∧ b < n := fun b hb => hL b (List.mem_cons_of_mem _ hb)
    unfold visit at hb ⊢
    split at hb
    · rename_i hm
      rw [if_pos hm]
      have ih := visit_closed n goal here st hst hh r fr op hr h hb
      refine ⟨ih.mono, fun b hb => ?_, ih.new, ih.old, ih.qmet⟩
      rcases List.mem_cons.1 hb with rfl | hb
      · exact ih.mono _ hp hm
      · exact ih.all b hb
    · rename_i hm
      rw [if_neg hm]
      split at hb
      · cases hb
      · rename_i hg
        rw [if_neg hg]
        have h2 : Seeks n (fr.set (ptIx (a, st)) here) (op ++ [(a, st)]) := ⟨by simpa using h.len, fun p hp' => by
          rcases List.mem_append.1 hp' with hq | hq
          · exact h.op p hq
          · simp at hq; subst hq; exact hp⟩
        have ih := visit_closed n goal here st hst hh r _ _ hr h2 hb
        refine ⟨fun p ok m => ih.mono p ok ((met_set hp ok h.len hh).2 (.inr m)), fun b hb => ?_, fun p ok m => ?_, fun p m => ih.old p (List.mem_append_left _ m), fun q => ih.qmet fun p m => ?_⟩
        · rcases List.mem_cons.1 hb with rfl | hb
          · exact ih.mono _ hp ((met_set hp hp h.len hh).2 (.inl rfl))
          · exact ih.all b hb
        · rcases ih.new p ok m with m | m
          · rcases (met_set hp ok h.len hh).1 m with rfl | m
            · exact .inr (ih.old _ (by simp))
            · exact .inl m
          · exact .inr m
        · rcases List.mem_append.1 m with m | m
          · exact (met_set hp (h.op p m) h.len hh).2 (.inr (q p m))
          · simp at m; subst m; exact (met_set hp hp h.len hh).2 (.inl rfl)

/-- Of every point that is met and not waiting, all that follows is met. -/
def ClosedBut (f : Fn) (slot : Int) (fr op : List Pt) : Prop := ∀ p i, PtOk f.code.length p → metV fr p = true → p ∉ op → f.code[p.1.toNat]? = some i → ∀ a ∈ exitsV p.1 i, metV fr (a, afterV i slot p.2) = true
theorem visit_free (n : Nat) (here : Pt) (st : Int) (hst : st = 1 ∨ st = 2 ∨ st = 4) : ∀ (L : List Int) (fr op : List Pt), (visit (0, 0) here st L fr op).2.2 = false
  | [], _, _ => rfl
  | a :: r, fr, op => by
    unfold visit
    have hne : ¬ (a, st) = ((0 : Int), (0 : Int)) := by simp; omega
    split
    · exact visit_free n here st hst r fr op
    · first
        | exact visit_free n here st hst r _ _
        | (rw [if_neg hne]; exact visit_free n here st hst r _ _)
theorem run_closed (f : Fn) (slot : Int) (hG : Good f) : ∀ (k : Nat) (fr op : List Pt), Seeks f.code.length fr op → (∀ p ∈ op, metV fr p = true) → 2 * blanks fr + op.length ≤ k → ClosedBut f slot fr op →
    ClosedBut f slot (runS f slot (0, 0) k fr op) [] ∧ (∀ p, PtOk f.code.length p → metV fr p = true → metV (runS f slot (0, 0) k fr op) p = true) ∧ (runS f slot (0, 0) k fr op).length = f.code.length * 5
  | 0, fr, op, hS, hq, hk, hC => by
    have : op = [] := List.eq_nil_of_length_eq_zero (by omega)
    subst this
    exact ⟨hC, fun _ _ m => m, hS.len⟩
  | k + 1, fr, [], hS, hq, hk, hC => ⟨hC, fun _ _ m => m, hS.len⟩
  | k + 1, fr, h :: t, hS, hq, hk, hC => by
    have hok := hS.op h (List.mem_cons_self ..)
    obtain ⟨i, hi⟩ : ∃ i, f.code[h.1.toNat]? = some i := ⟨f.code[h.1.toNat]'(by have := hok.a0; have := hok.a1; omega), by simp⟩
    have hst := after_st i slot h.2 hok.st
    have h0 : h.2 ≠ 0 := by have := hok.st; omega
    have hw : ∀ a ∈ exitsV h.1 i, 0 ≤ a ∧ a < f.code.length := fun a ha => hG.ways h.1.toNat i hi a (by rw [Int.toNat_of_nonneg hok.a0]; exact ha)
    have hS' : Seeks f.code.length fr t := ⟨hS.len, fun p hp => hS.op p (List.mem_cons_of_mem _ hp)⟩
    have hfr := visit_free f.code.length h _ hst (exitsV h.1 i) fr t
    have v1 := visit_ok f.code.length (0, 0) h _ hst h0 (exitsV h.1 i) fr t hw hS'
    have v2 := visit_closed f.code.length (0, 0) h _ hst h0 (exitsV h.1 i) fr t hw hS' hfr
    unfold runS
    rw [hi]
    simp only
    generalize visit (0, 0) h (afterV i slot h.2) (exitsV h.1 i) fr t = V at hfr v1 v2
    obtain ⟨fr', op', b⟩ := V
    simp only at hfr v1 v2
    subst hfr
    simp only
    have hC' : ClosedBut f slot fr' op' := by
      intro p j ok m hn hj a ha
      rcases v2.new p ok m with m | m
      · by_cases e : p = h
        · subst e
          rw [hi] at hj
          obtain rfl := Option.some.inj hj
          exact v2.all a ha
        · have ok' := hG.ways p.1.toNat j hj a (by rw [Int.toNat_of_nonneg ok.a0]; exact ha)
          exact v2.mono _ ⟨ok'.1, ok'.2, after_st j slot p.2 ok.st⟩ (hC p j ok m (fun hm => by
            rcases List.mem_cons.1 hm with hm | hm
            · exact e hm
            · exact hn (v2.old p hm)) hj a ha)
      · exact absurd m hn
    have ih := run_closed f slot hG k fr' op' v1.1 (v2.qmet (fun p hp => hq p (List.mem_cons_of_mem _ hp))) (by simp only [List.length_cons] at hk; omega) hC'
    exact ⟨ih.1, fun p ok m => ih.2.1 p ok (v2.mono p ok m), ih.2.2⟩
theorem fr0_len (n : Nat) : (fr0 n).length = n * 5 := by simp [fr0]
theorem fr0_met {n : Nat} {p : Pt} (hn : 1 ≤ n) (hp : PtOk n p) : metV (fr0 n) p = true ↔ p = (0, 1) := by
  have h1 : PtOk n (0, 1) := ⟨by simp, by simp; omega, .inl rfl⟩
  have := met_set (fr := List.replicate (n * 5) (0, 0)) (here := (0, 1)) h1 hp (by simp) (by simp)
  unfold fr0
  rw [show (1 : Nat) = ptIx (0, 1) from rfl, this]
  have h0 : metV (List.replicate (n * 5) (0, 0)) p = false := by
    unfold metV
    rw [List.getD_eq_getElem?_getD, List.getElem?_replicate]
    split <;> simp
  simp [h0]
/-- The whole search: the start is met, and what is met is closed. -/
theorem search_closed {f : Fn} (hG : Good f) (slot : Int) : ClosedBut f slot (searchV f slot (0, 0)) [] ∧ metV (searchV f slot (0, 0)) (0, 1) = true ∧ (searchV f slot (0, 0)).length = f.code.length * 5 := by
  have n1 := hG.n1
  have h1 : PtOk f.code.length (0, 1) := ⟨by simp, by simp; omega, .inl rfl⟩
  have hb := blanks_le (fr0 f.code.length)
  have hl := fr0_len f.code.length
  have := run_closed f slot hG (f.code.length * 10 + 2) (fr0 f.code.length) [(0, 1)] ⟨hl, fun p hp => by simp at hp; subst hp; exact h1⟩ (fun p hp => by simp at hp; subst hp; exact (fr0_met n1 h1).2 rfl)
    (by simp only [List.length_cons, List.length_nil]; omega) (fun p i ok m hn => by exact absurd ((fr0_met n1 ok).1 m) (by simpa using hn))
  exact ⟨this.1, this.2.1 _ h1 ((fr0_met n1 h1).2 rfl), this.2.2⟩
end Go.Proofs.YtokfbagacehbgaaDoor
