import Derived.Test.YtokfbagacehbgaaDoorSwValid
/-! A sync ahead of each function: it is valid as before. -/
namespace Go.Proofs.YtokfbagacehbgaaDoor
set_option linter.unusedVariables false
set_option maxRecDepth 20000
open Go.RowKit Go.PlainOps

theorem visit_least (n : Nat) (goal here : Pt) (st : Int) (hst : st = 1 ∨ st = 2 ∨ st = 4) (hh : here.2 ≠ 0) (P : Pt → Prop) : ∀ (L : List Int) (fr op : List Pt), (∀ a ∈ L, 0 ≤ a ∧ a < n) → (∀ a ∈ L, P (a, st)) → Seeks n fr op → (∀ p, PtOk n p → metV fr p = true → P p) → (∀ p ∈ op, P p) →
    (∀ p, PtOk n p → metV (visit goal here st L fr op).1 p = true → P p) ∧ ∀ p ∈ (visit goal here st L fr op).2.1, P p
  | [], fr, op, _, _, _, h1, h2 => ⟨h1, h2⟩
  | a :: r, fr, op, hL, hP, h, h1, h2 => by
    have ha := hL a (List.mem_cons_self ..)
    have hp : PtOk n (a, st) := ⟨ha.1, ha.2, hst⟩
    have hr : ∀ b ∈ r, 0 ≤ b ∧ b < n := fun b hb => hL b (List.mem_cons_of_mem _ hb)
    have hPr : ∀ b ∈ r, P (b, st) := fun b hb => hP b (List.mem_cons_of_mem _ hb)
    have hPa := hP a (List.mem_cons_self ..)
    have hset : ∀ p, PtOk n p → metV (fr.set (ptIx (a, st)) here) p = true → P p := fun p ok m => by
      rcases (met_set hp ok h.len hh).1 m with rfl | m
      · exact hPa
      · exact h1 p ok m
    unfold visit
    split
    · exact visit_least n goal here st hst hh P r fr op hr hPr h h1 h2
    · split
      · exact ⟨hset, h2⟩
      · have hS2 : Seeks n (fr.set (ptIx (a, st)) here) (op ++ [(a, st)]) := ⟨by simpa using h.len, fun p hp' => by
          rcases List.mem_append.1 hp' with hq | hq
          · exact h.op p hq
          · simp at hq; subst hq; exact hp⟩
        exact visit_least n goal here st hst hh P r _ _ hr hPr hS2 hset (fun p hp' => by
          rcases List.mem_append.1 hp' with hq | hq
          · exact h2 p hq
          · simp at hq; subst hq; exact hPa)
theorem run_least (f : Fn) (slot : Int) (hG : Good f) (P : Pt → Prop) (hP : ∀ p i, PtOk f.code.length p → P p → f.code[p.1.toNat]? = some i → ∀ a ∈ exitsV p.1 i, P (a, afterV i slot p.2)) : ∀ (k : Nat) (fr op : List Pt), Seeks f.code.length fr op → (∀ p, PtOk f.code.length p → metV fr p = true → P p) → (∀ p ∈ op, P p) →
    ∀ p, PtOk f.code.length p → metV (runS f slot (0, 0) k fr op) p = true → P p
  | 0, fr, op, hS, h1, h2 => h1
  | k + 1, fr, [], hS, h1, h2 => h1
  | k + 1, fr, h :: t, hS, h1, h2 => by
    have hok := hS.op h (List.mem_cons_self ..)
    have hSt : Seeks f.code.length fr t := ⟨hS.len, fun p hp => hS.op p (List.mem_cons_of_mem _ hp)⟩
    have h2t : ∀ p ∈ t, P p := fun p hp => h2 p (List.mem_cons_of_mem _ hp)
    have e0 : ((h.1.toNat : Nat) : Int) = h.1 := by have := hok.a0; omega
    simp only [runS]
    cases hi : f.code[h.1.toNat]? with
    | none => exact h1
    | some i =>
      simp only
      have hst := after_st i slot h.2 hok.st
      have hh : h.2 ≠ 0 := by have := hok.st; omega
      have hw : ∀ a ∈ exitsV h.1 i, 0 ≤ a ∧ a < f.code.length := by
        have := hG.ways h.1.toNat i hi
        rw [e0] at this
        exact this
      have hv := visit_least f.code.length (0, 0) h (afterV i slot h.2) hst hh P (exitsV h.1 i) fr t hw (hP h i hok (h2 h (List.mem_cons_self ..)) hi) hSt h1 h2t
      have hs := (visit_ok f.code.length (0, 0) h (afterV i slot h.2) hst hh (exitsV h.1 i) fr t hw hSt).1
      split
      · rename_i fr' op' he
        rw [he] at hv
        exact hv.1
      · rename_i fr' op' he
        rw [he] at hv hs
        exact run_least f slot hG P hP k fr' op' hs hv.1 hv.2
theorem search_least {f : Fn} (hG : Good f) (slot : Int) (P : Pt → Prop) (h0 : P (0, 1)) (hP : ∀ p i, PtOk f.code.length p → P p → f.code[p.1.toNat]? = some i → ∀ a ∈ exitsV p.1 i, P (a, afterV i slot p.2)) (p : Pt) (hp : PtOk f.code.length p) (hm : metV (searchV f slot (0, 0)) p = true) : P p := by
  have hn := hG.n1
  have hok : PtOk f.code.length (0, 1) := ⟨Int.le_refl _, by show (0 : Int) < _; omega, .inl rfl⟩
  refine run_least f slot hG P hP _ _ _ ⟨fr0_len _, fun q hq => by simp at hq; subst hq; exact hok⟩ (fun q hq m => ?_) (fun q hq => by simp at hq; subst hq; exact h0) p hp hm
  rw [(fr0_met hn hq).1 m]
  exact h0
/-! ### The longer code -/
def syncI : Ins := ⟨6, 0, 0, 0, 0⟩
def shI (i : Ins) : Ins := if i.kind = 3 then { i with a := i.a + 1 } else if i.kind = 4 then { i with b := i.b + 1 } else i
def fnP (f : Fn) : Fn := { f with code := syncI :: f.code.map shI }
def pauseL (l : List Fn) : List Fn := l.map fnP
theorem shI_kind (i : Ins) : (shI i).kind = i.kind := by unfold shI; split; rfl; split <;> rfl
theorem shI_c (i : Ins) : (shI i).c = i.c := by unfold shI; split; rfl; split <;> rfl
theorem shI_k (i : Ins) : (shI i).k = i.k := by unfold shI; split; rfl; split <;> rfl
theorem shI_a {i : Ins} (h : i.kind ≠ 3) : (shI i).a = i.a := by unfold shI; rw [if_neg h]; split <;> rfl
theorem shI_b {i : Ins} (h : i.kind ≠ 4) : (shI i).b = i.b := by
  unfold shI
  by_cases h3 : i.kind = 3
  · rw [if_pos h3]
  · rw [if_neg h3, if_neg h]
theorem shI_a3 {i : Ins} (h : i.kind = 3) : (shI i).a = i.a + 1 := by unfold shI; rw [if_pos h]
theorem shI_b4 {i : Ins} (h : i.kind = 4) : (shI i).b = i.b + 1 := by unfold shI; rw [if_neg (by omega), if_pos h]
theorem par_pause (l : List Fn) (b : Int) : parV (pauseL l) b = parV l b := by
  unfold parV pauseL
  rw [List.getElem?_map]
  cases l[b.toNat]? <;> rfl
theorem pause_len (l : List Fn) : (pauseL l).length = l.length := by simp [pauseL]
theorem fits_pause {l : List Fn} {f : Fn} {i : Ins} (h : fitsV false l f i = true) : fitsV false (pauseL l) (fnP f) (shI i) = true := by
  have hk := fits_kind h
  have hl : (fnP f).code.length = f.code.length + 1 := by simp [fnP]
  have hr : (fnP f).regs = f.regs := rfl
  have hs : (fnP f).slots = f.slots := rfl
  unfold fitsV at h ⊢
  rcases kinds hk.1 hk.2 with e | e | e | e | e | e | e | e | e | e
  all_goals
    first
      | (have e3 : (shI i).a = i.a := shI_a (by omega))
      | (have e3 : (shI i).a = i.a + 1 := shI_a3 e)
    first
      | (have e4 : (shI i).b = i.b := shI_b (by omega))
      | (have e4 : (shI i).b = i.b + 1 := shI_b4 e)
    simp only [shI_kind, shI_c, shI_k, e3, e4, e] at h ⊢
    simp [fA, fB, fC, fK, allowsV, belowV, holdsV, hr, hs, hl, pause_len, e4, par_pause] at h ⊢
    try omega
theorem exits_pause (at_ : Int) (i : Ins) : exitsV (at_ + 1) (shI i) = (exitsV at_ i).map (· + 1) := by
  unfold exitsV
  rw [shI_kind]
  by_cases h3 : i.kind = 3
  · rw [shI_a3 h3, shI_b (by omega), h3]
    simp [fN, fA, fB]
  · by_cases h4 : i.kind = 4
    · rw [shI_b4 h4, shI_a h3, h4]
      simp [fN, fA, fB]
    · rw [shI_a h3, shI_b h4]
      have hA : fA i.kind.toNat = 3 → False := fun e => by
        by_cases hk : i.kind.toNat < 10
        · have : i.kind.toNat = 3 := by
            have hall : ∀ k, k < 10 → fA k = 3 → k = 3 := by decide
            exact hall _ hk e
          omega
        · unfold fA at e
          rw [List.getD_eq_getElem?_getD, List.getElem?_eq_none (by simp; omega)] at e
          simp at e
      have hB : fB i.kind.toNat = 3 → False := fun e => by
        by_cases hk : i.kind.toNat < 10
        · have : i.kind.toNat = 4 := by
            have hall : ∀ k, k < 10 → fB k = 3 → k = 4 := by decide
            exact hall _ hk e
          omega
        · unfold fB at e
          rw [List.getD_eq_getElem?_getD, List.getElem?_eq_none (by simp; omega)] at e
          simp at e
      rw [if_neg hA, if_neg hB]
      split <;> simp
theorem after_pause (i : Ins) (slot st : Int) : afterV (shI i) slot st = afterV i slot st := by
  unfold afterV
  rw [shI_kind]
  by_cases h : i.kind = 3
  · rw [shI_a3 h, h]; simp
  · rw [shI_a h]
theorem code_pause {l : List Fn} {f : Fn} (h : Valid l f) (hlen : f.code.length < 512) : shapeV (fnP f) = true ∧ codeFault false (pauseL l) (fnP f) = none := by
  have hl : (fnP f).code.length = f.code.length + 1 := by simp [fnP]
  constructor
  · have := h.shape
    unfold shapeV at this ⊢
    rw [hl]
    simp only [Bool.and_eq_true, decide_eq_true_eq] at this ⊢
    have e1 : (fnP f).params = f.params := rfl
    have e2 : (fnP f).regs = f.regs := rfl
    have e3 : (fnP f).slots = f.slots := rfl
    rw [e1, e2, e3]
    omega
  · have hc := h.code
    obtain ⟨h1, h2⟩ := code_parts hc
    unfold codeFault
    rw [firstAt_none]
    · simp only
      have hro : runsOut (fnP f) = false := by
        have hn := (valid_bounds h).2.2.2.1
        unfold runsOut at h2 ⊢
        rw [hl]
        obtain ⟨m, hm⟩ : ∃ m, f.code.length = m + 1 := ⟨f.code.length - 1, by omega⟩
        rw [hm] at h2 ⊢
        simp only [Nat.add_sub_cancel] at h2 ⊢
        simp only [fnP, List.getElem?_cons_succ, List.getElem?_map]
        cases hi : f.code[m]? with
        | none => rw [hi] at h2; simp
        | some i => rw [hi] at h2; simp only [Option.map_some, shI_kind]; exact h2
      rw [hro]
      rfl
    · intro j y hy
      cases j with
      | zero =>
        simp [fnP] at hy
        subst hy
        rfl
      | succ j =>
        simp only [fnP, List.getElem?_cons_succ, List.getElem?_map, Option.map_eq_some_iff] at hy
        obtain ⟨i, hi, rfl⟩ := hy
        rw [if_pos (fits_pause (h1 j i hi))]
theorem valid_pause {l : List Fn} {f : Fn} (h : Valid l f) (hlen : f.code.length < 512) : Valid (pauseL l) (fnP f) := by
  obtain ⟨h1, h2⟩ := code_pause h hlen
  refine ⟨h1, h2, ?_⟩
  have hG := good_of h.shape h.code
  have hG2 := good_of h1 h2
  have hl : (fnP f).code.length = f.code.length + 1 := by simp [fnP]
  have hmet : ∀ (slot : Int) (k : Nat) (st : Int), k < f.code.length → (st = 1 ∨ st = 2 ∨ st = 4) → metV (searchV (fnP f) slot (0, 0)) ((k : Int) + 1, st) = true → metV (searchV f slot (0, 0)) ((k : Int), st) = true := by
    intro slot k st hk hst hm
    obtain ⟨hcl, hm0, _⟩ := search_closed hG slot
    have := search_least hG2 slot (fun p => p = (0, 1) ∨ (1 ≤ p.1 ∧ metV (searchV f slot (0, 0)) (p.1 - 1, p.2) = true)) (.inl rfl) (fun p i hok hp hi a ha => ?_) ((k : Int) + 1, st) ⟨by show (0 : Int) ≤ _; omega, by rw [hl]; show (k : Int) + 1 < _; omega, hst⟩ hm
    · rcases this with e | ⟨_, e⟩
      · have e1 := congrArg Prod.fst e
        simp at e1
        omega
      · simpa using e
    · rcases hp with rfl | ⟨hp1, hp2⟩
      · simp [fnP] at hi
        subst hi
        have ha' : a = 1 := by simpa [exitsV, syncI, fN, fA, fB] using ha
        subst ha'
        right
        refine ⟨Int.le_refl _, ?_⟩
        simp [afterV, syncI]
        exact hm0
      · have hok1 := hok.a1
        rw [hl] at hok1
        obtain ⟨q, hq⟩ : ∃ q : Nat, p.1 = (q : Int) + 1 := ⟨(p.1 - 1).toNat, by omega⟩
        have hqt : p.1.toNat = q + 1 := by omega
        rw [hqt] at hi
        simp only [fnP, List.getElem?_cons_succ, List.getElem?_map, Option.map_eq_some_iff] at hi
        obtain ⟨i0, hi0, rfl⟩ := hi
        rw [hq, exits_pause] at ha
        obtain ⟨a0, ha0, rfl⟩ := List.mem_map.1 ha
        have hw := hG.ways q i0 hi0 a0 ha0
        right
        refine ⟨by show (1 : Int) ≤ a0 + 1; omega, ?_⟩
        have e1 : p.1 - 1 = (q : Int) := by omega
        rw [e1] at hp2
        have hokq : PtOk f.code.length ((q : Int), p.2) := ⟨by show (0 : Int) ≤ _; omega, by show (q : Int) < _; omega, hok.st⟩
        have := hcl ((q : Int), p.2) i0 hokq hp2 (by simp) (by simpa using hi0) a0 ha0
        show metV _ (a0 + 1 - 1, afterV (shI i0) slot p.2) = true
        rw [after_pause, show a0 + 1 - 1 = a0 by omega]
        exact this
  have hb := fun slot => search_bare hG slot (0, 0)
  have hb2 := fun slot => search_bare hG2 slot (0, 0)
  have hs : (fnP f).slots = f.slots := rfl
  unfold slotFault
  simp only [Option.map_eq_none_iff]
  rw [firstAt_none]
  intro j y hy
  rw [Nat.zero_add]
  have hz : misuseV y (rowV (fnP f) j) = 0 := by
    cases j with
    | zero =>
      simp [fnP] at hy
      subst hy
      rfl
    | succ j =>
      simp only [fnP, List.getElem?_cons_succ, List.getElem?_map, Option.map_eq_some_iff] at hy
      obtain ⟨i, hi, rfl⟩ := hy
      have hjl := (List.getElem?_eq_some_iff.1 hi).1
      have hold := slot_ok h.slot j i hi
      have so := step_ok h hi
      have hsl := (valid_bounds h).2.2.1
      have h2 : ∀ s : Nat, (s : Int) < f.slots → has2 (sumAt (searchV (fnP f) s (0, 0)) (j + 1)) = true → has2 (sumAt (searchV f s (0, 0)) j) = true := fun s hs' hh => by
        rw [sum_has2 (hb2 s) (j + 1) (by omega)] at hh
        rw [sum_has2 (hb s) j hjl]
        exact hmet s j 2 hjl (.inr (.inl rfl)) hh
      have hfit := fits_ways ((code_parts h.code).1 j i hi)
      unfold misuseV at hold ⊢
      rw [shI_kind]
      by_cases h5 : i.kind = 5
      · rw [if_pos h5] at hold ⊢
        rw [shI_a (by omega)]
        have ha : 0 ≤ i.a ∧ i.a < f.slots := by
          have := hfit.1
          rw [h5] at this
          simpa [allowsV, fA, belowV] using this
        obtain ⟨s, hsa⟩ := Int.eq_ofNat_of_zero_le ha.1
        have e : i.a.toNat = s := by omega
        rw [e] at hold ⊢
        rw [row_get j s (by omega)] at hold
        rw [row_get (j + 1) s (by rw [hs]; omega)]
        by_cases hx : has2 (sumAt (searchV (fnP f) s (0, 0)) (j + 1)) = true
        · rw [h2 s (by omega) hx] at hold
          simp at hold
        · rw [if_neg hx]
      · rw [if_neg h5] at hold ⊢
        by_cases h7 : i.kind = 7
        · rw [if_pos h7] at hold ⊢
          rw [shI_b (by omega)]
          have ha : 0 ≤ i.b ∧ i.b < f.slots := by
            have := hfit.2.1
            rw [h7] at this
            simpa [allowsV, fB, belowV] using this
          obtain ⟨s, hsa⟩ := Int.eq_ofNat_of_zero_le ha.1
          have e : i.b.toNat = s := by omega
          rw [e] at hold ⊢
          rw [row_get j s (by omega)] at hold
          rw [row_get (j + 1) s (by rw [hs]; omega)]
          by_cases hx : hasLess (sumAt (searchV (fnP f) s (0, 0)) (j + 1)) = true
          · exfalso
            rw [sum_less (hb2 s) (j + 1) (by omega), Bool.or_eq_true] at hx
            have : hasLess (sumAt (searchV f s (0, 0)) j) = true := by
              rw [sum_less (hb s) j hjl, Bool.or_eq_true]
              rcases hx with hx | hx
              · exact .inl (hmet s j 1 hjl (.inl rfl) hx)
              · exact .inr (hmet s j 2 hjl (.inr (.inl rfl)) hx)
            rw [this] at hold
            simp at hold
          · rw [if_neg hx]
        · rw [if_neg h7] at hold ⊢
          by_cases h9 : i.kind = 9
          · rw [if_pos h9] at hold ⊢
            by_cases hx : (rowV (fnP f) (j + 1)).any has2 = true
            · exfalso
              obtain ⟨v, hv, hv2⟩ := List.any_eq_true.1 hx
              unfold rowV at hv
              obtain ⟨s, hsm, rfl⟩ := List.mem_map.1 hv
              have hsr := List.mem_range.1 hsm
              rw [hs] at hsr
              have : (rowV f j).any has2 = true := List.any_eq_true.2 ⟨_, List.mem_map.2 ⟨s, List.mem_range.2 hsr, rfl⟩, h2 s (by omega) hv2⟩
              rw [this] at hold
              simp at hold
            · rw [if_neg hx]
          · rw [if_neg h9]
  rw [if_pos hz]
theorem check_pause {l : List Fn} (h : checkV l = (0, 0, 0)) (hlen : ∀ f ∈ l, f.code.length < 512) : checkV (pauseL l) = (0, 0, 0) := by
  obtain ⟨h1, h2, h3⟩ := check_valid h
  refine valid_check (by rw [pause_len]; omega) fun f hf => ?_
  obtain ⟨g, hg, rfl⟩ := List.mem_map.1 hf
  exact valid_pause (h3 g hg) (hlen g hg)
end Go.Proofs.YtokfbagacehbgaaDoor
