import Derived.Test.YtbdpdojeaahpjaaGreatDoorPkBI
import Derived.Test.YtbdpdojeaahpjaaGreatDoorPkAV
/-! A sync ahead of each function: it is valid as before. -/
namespace Go.Proofs.YtbdpdojeaahpjaaGreatDoor
set_option linter.unusedVariables false
set_option maxRecDepth 20000
open Go.RowKit Go.PlainOps

theorem visit_least (n : Nat) (goal here : Pt) (st : Int) (hst : st = 1 ∨ st = 2 ∨ st = 4) (hh : here.2 ≠ 0) (P : Pt → Prop) : ∀ (L : List Int) (fr op : List Pt), (∀ a ∈ L, 0 ≤ a ∧ a < n) → (∀ a ∈ L, P (a, st)) → Seeks n fr op → (∀ p, PtOk n p → metV fr p = true → P p) → (∀ p ∈ op, P p) →
    (∀ p, PtOk n p → metV (visit goal here st L fr op).1 p = true → P p) ∧ ∀ p ∈ (visit goal here st L fr op).2.1, P p
  | [], fr, op, _, _, _, h1, h2 => ⟨h1, h2⟩
  | a :: r, fr, op, hL, hP, h, h1, h2 => by
    have ha := hL a (List.mem_cons_self ..)
    have hp : PtOk n (a, st) := ⟨ha.1, ha.2, hst⟩
    have hr : ∀ b ∈ r, 0 ≤ b ∧ b < n := fun b hb => hL b (List.mem_cons_of_mem _ hb)
    have hPr : ∀ b ∈ r, P (b, st) := fun b hb => hP b (List.mem_cons_of_mem _ hb)
    have hPa := hP a (List.mem_cons_self ..)
    have hset : ∀ p, PtOk n p → metV (fr.set (ptIx (a, st)) here) p = true → P p := fun p ok m => by
      rcases (met_set hp ok h.len hh).1 m with rfl | m
      · exact hPa
      · exact h1 p ok m
    unfold visit
    split
    · exact visit_least n goal here st hst hh P r fr op hr hPr h h1 h2
    · split
      · exact ⟨hset, h2⟩
      · have hS2 : Seeks n (fr.set (ptIx (a, st)) here) (op ++ [(a, st)]) := ⟨by simpa using h.len, fun p hp' => by
          rcases List.mem_append.1 hp' with hq | hq
          · exact h.op p hq
          · simp at hq; subst hq; exact hp⟩
        exact visit_least n goal here st hst hh P r _ _ hr hPr hS2 hset (fun p hp' => by
          rcases List.mem_append.1 hp' with hq | hq
          · exact h2 p hq
          · simp at hq; subst hq; exact hPa)
theorem run_least (f : Fn) (slot : Int) (hG : Good f) (P : Pt → Prop) (hP : ∀ p i, PtOk f.code.length p → P p → f.code[p.1.toNat]? = some i → ∀ a ∈ exitsV p.1 i, P (a, afterV i slot p.2)) : ∀ (k : Nat) (fr op : List Pt), Seeks f.code.length fr op → (∀ p, PtOk f.code.length p → metV fr p = true → P p) → (∀ p ∈ op, P p) →
    ∀ p, PtOk f.code.length p → metV (runS f slot (0, 0) k fr op) p = true → P p
  | 0, fr, op, hS, h1, h2 => h1
  | k + 1, fr, [], hS, h1, h2 => h1
  | k + 1, fr, h :: t, hS, h1, h2 => by
    have hok := hS.op h (List.mem_cons_self ..)
    have hSt : Seeks f.code.length fr t := ⟨hS.len, fun p hp => hS.op p (List.mem_cons_of_mem _ hp)⟩
    have h2t : ∀ p ∈ t, P p := fun p hp => h2 p (List.mem_cons_of_mem _ hp)
    have e0 : ((h.1.toNat : Nat) : Int) = h.1 := by have := hok.a0; omega
    simp only [runS]
    cases hi : f.code[h.1.toNat]? with
    | none => exact h1
    | some i =>
      simp only
      have hst := after_st i slot h.2 hok.st
      have hh : h.2 ≠ 0 := by have := hok.st; omega
      have hw : ∀ a ∈ exitsV h.1 i, 0 ≤ a ∧ a < f.code.length := by
        have := hG.ways h.1.toNat i hi
        rw [e0] at this
        exact this
      have hv := visit_least f.code.length (0, 0) h (afterV i slot h.2) hst hh P (exitsV h.1 i) fr t hw (hP h i hok (h2 h (List.mem_cons_self ..)) hi) hSt h1 h2t
      have hs := (visit_ok f.code.length (0, 0) h (afterV i slot h.2) hst hh (exitsV h.1 i) fr t hw hSt).1
      split
      · rename_i fr' op' he
        rw [he] at hv
        exact hv.1
      · rename_i fr' op' he
        rw [he] at hv hs
        exact run_least f slot hG P hP k fr' op' hs hv.1 hv.2
theorem search_least {f : Fn} (hG : Good f) (slot : Int) (P : Pt → Prop) (h0 : P (0, 1)) (hP : ∀ p i, PtOk f.code.length p → P p → f.code[p.1.toNat]? = some i → ∀ a ∈ exitsV p.1 i, P (a, afterV i slot p.2)) (p : Pt) (hp : PtOk f.code.length p) (hm : metV (searchV f slot (0, 0)) p = true) : P p := by
  have hn := hG.n1
  have hok : PtOk f.code.length (0, 1) := ⟨Int.le_refl _, by show (0 : Int) < _; omega, .inl rfl⟩
  refine run_least f slot hG P hP _ _ _ ⟨fr0_len _, fun q hq => by simp at hq; subst hq; exact hok⟩ (fun q hq m => ?_) (fun q hq => by simp at hq; subst hq; exact h0) p hp hm
  rw [(fr0_met hn hq).1 m]
  exact h0
/-! ### The longer code -/
def syncI : Ins := ⟨6, 0, 0, 0, 0⟩
def shI (i : Ins) : Ins := if i.kind = 3 then { i with a := i.a + 1 } else if i.kind = 4 then { i with b := i.b + 1 } else i
def fnP (f : Fn) : Fn := { f with code := syncI :: f.code.map shI }
def pauseL (l : List Fn) : List Fn := l.map fnP
theorem shI_kind (i : Ins) : (shI i).kind = i.kind := by unfold shI; split; rfl; split <;> rfl
theorem shI_c (i : Ins) : (shI i).c = i.c := by unfold shI; split; rfl; split <;> rfl
theorem shI_k (i : Ins) : (shI i).k = i.k := by unfold shI; split; rfl; split <;> rfl
theorem shI_a {i : Ins} (h : i.kind ≠ 3) : (shI i).a = i.a := by unfold shI; rw [if_neg h]; split <;> rfl
theorem shI_b {i : Ins} (h : i.kind ≠ 4) : (shI i).b = i.b := by
  unfold shI
  by_cases h3 : i.kind = 3
  · rw [if_pos h3]
  · rw [if_neg h3, if_neg h]
theorem shI_a3 {i : Ins} (h : i.kind = 3) : (shI i).a = i.a + 1 := by unfold shI; rw [if_pos h]
theorem shI_b4 {i : Ins} (h : i.kind = 4) : (shI i).b = i.b + 1 := by unfold shI; rw [if_neg (by omega), if_pos h]
theorem par_pause (l : List Fn) (b : Int) : parV (pauseL l) b = parV l b := by
  unfold parV pauseL
  rw [List.getElem?_map]
  cases l[b.toNat]? <;> rfl
theorem pause_len (l : List Fn) : (pauseL l).length = l.length := by simp [pauseL]
theorem fits_pause {l : List Fn} {f : Fn} {i : Ins} (h : fitsV false l f i = true) : fitsV false (pauseL l) (fnP f) (shI i) = true := by
  have hk := fits_kind h
  have hl : (fnP f).code.length = f.code.length + 1 := by simp [fnP]
  have hr : (fnP f).regs = f.regs := rfl
  have hs : (fnP f).slots = f.slots := rfl
  unfold fitsV at h ⊢
  rcases kinds hk.1 hk.2 with e | e | e | e | e | e | e | e | e | e
  all_goals
    first
      | (have e3 : (shI i).a = i.a := shI_a (by omega))
      | (have e3 : (shI i).a = i.a + 1 := shI_a3 e)
    first
      | (have e4 : (shI i).b = i.b := shI_b (by omega))
      | (have e4 : (shI i).b = i.b + 1 := shI_b4 e)
    simp only [shI_kind, shI_c, shI_k, e3, e4, e] at h ⊢
    simp [fA, fB, fC, fK, allowsV, belowV, holdsV, hr, hs, hl, pause_len, e4, par_pause] at h ⊢
    try omega
theorem exits_pause (at_ : Int) (i : Ins) : exitsV (at_ + 1) (shI i) = (exitsV at_ i).map (· + 1) := by
  unfold exitsV
  rw [shI_kind]
  by_cases h3 : i.kind = 3
  · rw [shI_a3 h3, shI_b (by omega), h3]
    simp [fN, fA, fB]
  · by_cases h4 : i.kind = 4
    · rw [shI_b4 h4, shI_a h3, h4]
      simp [fN, fA, fB]
    · rw [shI_a h3, shI_b h4]
      have hA : fA i.kind.toNat = 3 → False := fun e => by
        by_cases hk : i.kind.toNat < 10
        · have : i.kind.toNat = 3 := by
            have hall : ∀ k, k < 10 → fA k = 3 → k = 3 := by decide
            exact hall _ hk e
          omega
        · unfold fA at e
          rw [List.getD_eq_getElem?_getD, List.getElem?_eq_none (by simp; omega)] at e
          simp at e
      have hB : fB i.kind.toNat = 3 → False := fun e => by
        by_cases hk : i.kind.toNat < 10
        · have : i.kind.toNat = 4 := by
            have hall : ∀ k, k < 10 → fB k = 3 → k = 4 := by decide
            exact hall _ hk e
          omega
        · unfold fB at e
          rw [List.getD_eq_getElem?_getD, List.getElem?_eq_none (by simp; omega)] at e
          simp at e
      rw [if_neg hA, if_neg hB]
      split <;> simp
theorem after_pause (i : Ins) (slot st : Int) : afterV (shI i) slot st = afterV i slot st := by
  unfold afterV
  rw [shI_kind]
  by_cases h : i.kind = 3
  · rw [shI_a3 h, h]; simp
  · rw [shI_a h]
theorem code_pause {l : List Fn} {f : Fn} (h : Valid l f) (hlen : f.code.length < 512) : shapeV (fnP f) = true ∧ codeFault false (pauseL l) (fnP f) = none := by
  have hl : (fnP f).code.length = f.code.length + 1 := by simp [fnP]
  constructor
  · have := h.shape
    unfold shapeV at this ⊢
    rw [hl]
    simp only [Bool.and_eq_true, decide_eq_true_eq] at this ⊢
    have e1 : (fnP f).params = f.params := rfl
    have e2 : (fnP f).regs = f.regs := rfl
    have e3 : (fnP f).slots = f.slots := rfl
    rw [e1, e2, e3]
    omega
  · have hc := h.code
    obtain ⟨h1, h2⟩ := code_parts hc
    unfold codeFault
    rw [firstAt_none]
    · simp only
      have hro : runsOut (fnP f) = false := by
        have hn := (valid_bounds h).2.2.2.1
        unfold runsOut at h2 ⊢
        rw [hl]
        obtain ⟨m, hm⟩ : ∃ m, f.code.length = m + 1 := ⟨f.code.length - 1, by omega⟩
        rw [hm] at h2 ⊢
        simp only [Nat.add_sub_cancel] at h2 ⊢
        simp only [fnP, List.getElem?_cons_succ, List.getElem?_map]
        cases hi : f.code[m]? with
        | none => rw [hi] at h2; simp
        | some i => rw [hi] at h2; simp only [Option.map_some, shI_kind]; exact h2
      rw [hro]
      rfl
    · intro j y hy
      cases j with
      | zero =>
        simp [fnP] at hy
        subst hy
        rfl
      | succ j =>
        simp only [fnP, List.getElem?_cons_succ, List.getElem?_map, Option.map_eq_some_iff] at hy
        obtain ⟨i, hi, rfl⟩ := hy
        rw [if_pos (fits_pause (h1 j i hi))]
theorem valid_pause {l : List Fn} {f : Fn} (h : Valid l f) (hlen : f.code.length < 512) : Valid (pauseL l) (fnP f) := by
  obtain ⟨h1, h2⟩ := code_pause h hlen
  refine ⟨h1, h2, ?_⟩
  have hG := good_of h.shape h.code
  have hG2 := good_of h1 h2
  have hl : (fnP f).code.length = f.code.length + 1 := by simp [fnP]
  have hmet : ∀ (slot : Int) (k : Nat) (st : Int), k < f.code.length → (st = 1 ∨ st = 2 ∨ st = 4) → metV (searchV (fnP f) slot (0, 0)) ((k : Int) + 1, st) = true → metV (searchV f slot (0, 0)) ((k : Int), st) = true := by
    intro slot k st hk hst hm
    obtain ⟨hcl, hm0, _⟩ := search_closed hG slot
    have := search_least hG2 slot (fun p => p = (0, 1) ∨ (1 ≤ p.1 ∧ metV (searchV f slot (0, 0)) (p.1 - 1, p.2) = true)) (.inl rfl) (fun p i hok hp hi a ha => ?_) ((k : Int) + 1, st) ⟨by show (0 : Int) ≤ _; omega, by rw [hl]; show (k : Int) + 1 < _; omega, hst⟩ hm
    · rcases this with e | ⟨_, e⟩
      · have e1 := congrArg Prod.fst e
        simp at e1
        omega
      · simpa using e
    · rcases hp with rfl | ⟨hp1, hp2⟩
      · simp [fnP] at hi
        subst hi
        have ha' : a = 1 := by simpa [exitsV, syncI, fN, fA, fB] using ha
        subst ha'
        right
        refine ⟨Int.le_refl _, ?_⟩
        simp [afterV, syncI]
        exact hm0
      · have hok1 := hok.a1
        rw [hl] at hok1
        obtain ⟨q, hq⟩ : ∃ q : Nat, p.1 = (q : Int) + 1 := ⟨(p.1 - 1).toNat, by omega⟩
        have hqt : p.1.toNat = q + 1 := by omega
        rw [hqt] at hi
        simp only [fnP, List.getElem?_cons_succ, List.getElem?_map, Option.map_eq_some_iff] at hi
        obtain ⟨i0, hi0, rfl⟩ := hi
        rw [hq, exits_pause] at ha
        obtain ⟨a0, ha0, rfl⟩ := List.mem_map.1 ha
        have hw := hG.ways q i0 hi0 a0 ha0
        right
        refine ⟨by show (1 : Int) ≤ a0 + 1; omega, ?_⟩
        have e1 : p.1 - 1 = (q : Int) := by omega
        rw [e1] at hp2
        have hokq : PtOk f.code.length ((q : Int), p.2) := ⟨by show (0 : Int) ≤ _; omega, by show (q : Int) < _; omega, hok.st⟩
        have := hcl ((q : Int), p.2) i0 hokq hp2 (by simp) (by simpa using hi0) a0 ha0
        show metV _ (a0 + 1 - 1, afterV (shI i0) slot p.2) = true
        rw [after_pause, show a0 + 1 - 1 = a0 by omega]
        exact this
  have hb := fun slot => search_bare hG slot (0, 0)
  have hb2 := fun slot => search_bare hG2 slot (0, 0)
  have hs : (fnP f).slots = f.slots := rfl
  unfold slotFault
  simp only [Option.map_eq_none_iff]
  rw [firstAt_none]
  intro j y hy
  rw [Nat.zero_add]
  have hz : misuseV y (rowV (fnP f) j) = 0 := by
    cases j with
    | zero =>
      simp [fnP] at hy
      subst hy
      rfl
    | succ j =>
      simp only [fnP, List.getElem?_cons_succ, List.getElem?_map, Option.map_eq_some_iff] at hy
      obtain ⟨i, hi, rfl⟩ := hy
      have hjl := (List.getElem?_eq_some_iff.1 hi).1
      have hold := slot_ok h.slot j i hi
      have so := step_ok h hi
      have hsl := (valid_bounds h).2.2.1
      have h2 : ∀ s : Nat, (s : Int) < f.slots → has2 (sumAt (searchV (fnP f) s (0, 0)) (j + 1)) = true → has2 (sumAt (searchV f s (0, 0)) j) = true := fun s hs' hh => by
        rw [sum_has2 (hb2 s) (j + 1) (by omega)] at hh
        rw [sum_has2 (hb s) j hjl]
        exact hmet s j 2 hjl (.inr (.inl rfl)) hh
      have hfit := fits_ways ((code_parts h.code).1 j i hi)
      unfold misuseV at hold ⊢
      rw [shI_kind]
      by_cases h5 : i.kind = 5
      · rw [if_pos h5] at hold ⊢
        rw [shI_a (by omega)]
        have ha : 0 ≤ i.a ∧ i.a < f.slots := by
          have := hfit.1
          rw [h5] at this
          simpa [allowsV, fA, belowV] using this
        obtain ⟨s, hsa⟩ := Int.eq_ofNat_of_zero_le ha.1
        have e : i.a.toNat = s := by omega
        rw [e] at hold ⊢
        rw [row_get j s (by omega)] at hold
        rw [row_get (j + 1) s (by rw [hs]; omega)]
        by_cases hx : has2 (sumAt (searchV (fnP f) s (0, 0)) (j + 1)) = true
        · rw [h2 s (by omega) hx] at hold
          simp at hold
        · rw [if_neg hx]
      · rw [if_neg h5] at hold ⊢
        by_cases h7 : i.kind = 7
        · rw [if_pos h7] at hold ⊢
          rw [shI_b (by omega)]
          have ha : 0 ≤ i.b ∧ i.b < f.slots := by
            have := hfit.2.1
            rw [h7] at this
            simpa [allowsV, fB, belowV] using this
          obtain ⟨s, hsa⟩ := Int.eq_ofNat_of_zero_le ha.1
          have e : i.b.toNat = s := by omega
          rw [e] at hold ⊢
          rw [row_get j s (by omega)] at hold
          rw [row_get (j + 1) s (by rw [hs]; omega)]
          by_cases hx : hasLess (sumAt (searchV (fnP f) s (0, 0)) (j + 1)) = true
          · exfalso
            rw [sum_less (hb2 s) (j + 1) (by omega), Bool.or_eq_true] at hx
            have : hasLess (sumAt (searchV f s (0, 0)) j) = true := by
              rw [sum_less (hb s) j hjl, Bool.or_eq_true]
              rcases hx with hx | hx
              · exact .inl (hmet s j 1 hjl (.inl rfl) hx)
              · exact .inr (hmet s j 2 hjl (.inr (.inl rfl)) hx)
            rw [this] at hold
            simp at hold
          · rw [if_neg hx]
        · rw [if_neg h7] at hold ⊢
          by_cases h9 : i.kind = 9
          · rw [if_pos h9] at hold ⊢
            by_cases hx : (rowV (fnP f) (j + 1)).any has2 = true
            · exfalso
              obtain ⟨v, hv, hv2⟩ := List.any_eq_true.1 hx
              unfold rowV at hv
              obtain ⟨s, hsm, rfl⟩ := List.mem_map.1 hv
              have hsr := List.mem_range.1 hsm
              rw [hs] at hsr
              have : (rowV f j).any has2 = true := List.any_eq_true.2 ⟨_, List.mem_map.2 ⟨s, List.mem_range.2 hsr, rfl⟩, h2 s (by omega) hv2⟩
              rw [this] at hold
              simp at hold
            · rw [if_neg hx]
          · rw [if_neg h9]
  rw [if_pos hz]
theorem check_pause {l : List Fn} (h : checkV l = (0, 0, 0)) (hlen : ∀ f ∈ l, f.code.length < 512) : checkV (pauseL l) = (0, 0, 0) := by
  obtain ⟨h1, h2, h3⟩ := check_valid h
  refine valid_check (by rw [pause_len]; omega) fun f hf => ?_
  obtain ⟨g, hg, rfl⟩ := List.mem_map.1 hf
  exact valid_pause (h3 g hg) (hlen g hg)
end Go.Proofs.YtbdpdojeaahpjaaGreatDoor
/-! The sizes of a run that ends, plainly. -/
namespace Go.Proofs.YtbdpdojeaahpjaaGreatDoor
set_option linter.unusedVariables false
set_option maxRecDepth 20000
open Go.RowKit Go.PlainOps

structure Sizes (s : Rn) (t : Tk) (sp : Int) (s' : Rn) : Prop where
  work : s'.fuel + s'.tasks + 1 ≤ s.fuel + s.tasks
  tasks : s.tasks ≤ s'.tasks
  depth : s.depth ≤ s'.depth
  few : s'.depth + s.tasks ≤ s.depth + s'.tasks
  more : s.tasks < s'.tasks → t.depth + 1 ≤ s'.depth
  span : t.span + 1 ≤ sp
  due : t.due ≤ sp
  deep : s'.depth ≤ imax s.depth (t.depth + sp - 1)
  alone : s'.tasks = s.tasks → t.due ≤ t.span → sp + s'.fuel = t.span + s.fuel
theorem along_next {fs : List Fn} {f : Fn} {at_ : Nat} {sl : List Int} {i : Ins} (hV : Valid fs f) (h : Along f (at_ : Int) sl) (hi : f.code[at_]? = some i) (turn : Bool) (h9 : i.kind ≠ 9) : Along f (stepAt i at_ turn) (stepSl i sl) := along_step hV h (by simpa using hi) turn h9
theorem loop_sizes {fs : List Fn} (hA : AllV fs) (L : Bool) : ∀ (g : Nat) (s : Rn) (t : Tk) (at_ : Nat) (f : Fn) (sl : List Int), s.In L → t.In fs s.fuel → fs[t.node.func.toNat]? = some f → Along f (at_ : Int) sl → ((1 : Int) ∈ sl ∨ t.due ≤ t.span) → t.depth ≤ s.depth →
    ∀ v sp s', loopV fs L g s t at_ = .done v sp s' → Sizes s t sp s'
  | 0, s, t, at_, f, sl, hs, ht, hf, hal, hpd, hdp, v, sp, s', h => by simp [loopV] at h
  | g + 1, s, t, at_, f, sl, hs, ht, hf, hal, hpd, hdp, v, sp, s', h => by
    have h0 : s.fuel ≠ 0 := fun h0 => by rw [loop_out h0] at h; cases h
    obtain ⟨m, hm⟩ : ∃ m, s.fuel = m + 1 := ⟨s.fuel - 1, by omega⟩
    have hpf : (payS s).fuel = m := by simp [payS, hm]
    have hpt : (payS s).tasks = s.tasks := rfl
    have hpd' : (payS s).depth = s.depth := rfl
    have hcf : codeOf fs t.node.func = f.code := code_of f hf
    have hV := hA.all f (List.mem_of_getElem? hf)
    have hok := hA.ok f (List.mem_of_getElem? hf)
    have hatl : at_ < f.code.length := by have := hal.a1; omega
    obtain ⟨i, hi⟩ : ∃ i, f.code[at_]? = some i := ⟨f.code[at_]'hatl, by simp⟩
    have hic : (codeOf fs t.node.func)[at_]? = some i := by rw [hcf]; exact hi
    have so := step_ok hV hi
    have hik := (hok.code i (List.mem_of_getElem? hi)).k
    have ht' := ht
    rw [hm] at ht'
    have tsp := ht.span
    have tdu := ht.due
    have hcases : i.kind = 3 ∨ i.kind = 4 ∨ i.kind = 5 ∨ i.kind = 6 ∨ i.kind = 9 ∨ (i.kind = 0 ∨ i.kind = 1 ∨ i.kind = 2 ∨ i.kind = 7 ∨ i.kind = 8) := by have := so.kind; omega
    have psp : (payT t).span = t.span + 1 := rfl
    have pdu : (payT t).due = t.due := rfl
    have pdp : (payT t).depth = t.depth := rfl
    have low : ∀ {t1 : Tk}, t1.span = t.span + 1 → t1.due = t.due → t1.depth = t.depth → Sizes (payS s) t1 sp s' → Sizes s t sp s' := by
      intro t1 e1 e2 e3 z
      obtain ⟨z1, z2, z3, z4, z5, z6, z7, z8, z9⟩ := z
      refine ⟨by omega, by omega, by omega, by omega, fun h => by have := z5 (by omega); omega, by omega, by omega, by rw [hpd', e3] at z8; exact z8, fun h1 h2 => ?_⟩
      have := z9 (by omega) (by omega)
      omega
    rcases hcases with hk | hk | hk | hk | hk | hk
    · rw [loop_jump h0 hic hk] at h
      have hn := along_next hV hal hi false (by omega)
      have e1 : stepAt i (at_ : Int) false = ((i.a.toNat : Nat) : Int) := by unfold stepAt; rw [if_pos hk]; have := (so.jump hk).1; omega
      have e2 : stepSl i sl = sl := by unfold stepSl; rw [if_neg (by omega), if_neg (by omega)]
      rw [e1, e2] at hn
      exact low (t1 := payT t) rfl rfl rfl (loop_sizes hA L g (payS s) (payT t) _ f sl hs.pay (by rw [hpf]; exact ht'.pay) hf hn (by rcases hpd with h | h; exact .inl h; exact .inr (by rw [psp, pdu]; omega)) hdp v sp s' h)
    · rw [loop_branch h0 hic hk] at h
      have e2 : stepSl i sl = sl := by unfold stepSl; rw [if_neg (by omega), if_neg (by omega)]
      have hn : Along f (((if t.regs.getD i.a.toNat 0 = 0 then at_ + 1 else i.b.toNat : Nat)) : Int) sl := by
        by_cases hx : t.regs.getD i.a.toNat 0 = 0
        · rw [if_pos hx]
          have hn := along_next hV hal hi false (by omega)
          rw [e2] at hn
          have e1 : stepAt i (at_ : Int) false = ((at_ + 1 : Nat) : Int) := by unfold stepAt; rw [if_neg (by omega), if_neg (by simp)]; omega
          rw [e1] at hn
          exact hn
        · rw [if_neg hx]
          have hn := along_next hV hal hi true (by omega)
          rw [e2] at hn
          have e1 : stepAt i (at_ : Int) true = ((i.b.toNat : Nat) : Int) := by unfold stepAt; rw [if_neg (by omega), if_pos ⟨hk, rfl⟩]; have := (so.branch hk).1; omega
          rw [e1] at hn
          exact hn
      exact low (t1 := payT t) rfl rfl rfl (loop_sizes hA L g (payS s) (payT t) _ f sl hs.pay (by rw [hpf]; exact ht'.pay) hf hn (by rcases hpd with h | h; exact .inl h; exact .inr (by rw [psp, pdu]; omega)) hdp v sp s' h)
    · rw [loop_spawn h0 hic hk] at h
      have hBg := child_begins hs ht h0 so hk
      cases hp : playV fs L g (payS s) (childV fs (payT t) i) with
      | gave e' => rw [hp] at h; cases h
      | done v1 sp1 s2 =>
        rw [hp] at h
        obtain ⟨d1, d2, d3, d4, d5, d6⟩ := child_done hA hBg rfl hp
        unfold playV at hp
        have hd : ¬ 4096 < (childV fs (payT t) i).depth := fun hd => by rw [if_pos hd] at hp; cases hp
        rw [if_neg hd] at hp
        have hti := hBg.tin hd
        obtain ⟨f2, hf2, _, _, hV2, _⟩ := hA.fn hti.func
        have hG2 := good_of hV2.shape hV2.code
        have cdp : (enterT (payS s) (childV fs (payT t) i)).depth = t.depth + 1 := rfl
        have cs1 : (enterS L (payS s) (childV fs (payT t) i)).depth = imax s.depth (t.depth + 1) := rfl
        have cs2 : (enterS L (payS s) (childV fs (payT t) i)).tasks = s.tasks + 1 := rfl
        have cs3 : (enterS L (payS s) (childV fs (payT t) i)).fuel = m := hpf
        have cs4 : (enterT (payS s) (childV fs (payT t) i)).span = 0 := rfl
        have cs5 : (enterT (payS s) (childV fs (payT t) i)).due = 0 := rfl
        have lm := le_imax s.depth (t.depth + 1)
        have zc := loop_sizes hA L g _ _ 0 f2 (List.replicate 8 0) (hBg.sin hd) hti hf2 (by simpa using along_start hG2 (valid_bounds hV2).2.2.1.1) (.inr (by rw [cs4, cs5]; omega)) (by rw [cdp, cs1]; omega) v1 sp1 s2 hp
        obtain ⟨c1, c2, c3, c4, c5, c6, c7, c8, c9⟩ := zc
        rw [cs2, cs3] at c1
        rw [cs2] at c2 c4 c5
        rw [cs1] at c3 c4 c8
        rw [cs4] at c6
        rw [cdp] at c8
        have hn := along_next hV hal hi false (by omega)
        have e1 : stepAt i (at_ : Int) false = ((at_ + 1 : Nat) : Int) := by unfold stepAt; rw [if_neg (by omega), if_neg (by simp)]; omega
        have e2 : stepSl i sl = sl.set i.a.toNat 1 := by unfold stepSl; rw [if_pos hk]
        rw [e1, e2] at hn
        have hmem : (1 : Int) ∈ sl.set i.a.toNat 1 := by
          have hl := hal.len
          have := (so.slot hk)
          exact List.mem_of_getElem? (i := i.a.toNat) (by rw [List.getElem?_set_self (by omega)])
        have gs1 : (gotT (spawnT (payT t)) i.a.toNat v1 sp1).span = t.span + 1 := rfl
        have gs2 : (gotT (spawnT (payT t)) i.a.toNat v1 sp1).due = imax t.due (t.span + 1 + sp1) := rfl
        have gs3 : (gotT (spawnT (payT t)) i.a.toNat v1 sp1).depth = t.depth := rfl
        have zr := loop_sizes hA L g s2 (gotT (spawnT (payT t)) i.a.toNat v1 sp1) (at_ + 1) f _ d5 (ht'.got d1 d2 (by omega)) hf hn (.inl hmem) (by rw [gs3]; omega) v sp s' h
        obtain ⟨r1, r2, r3, r4, r5, r6, r7, r8, r9⟩ := zr
        rw [gs1] at r6
        rw [gs2] at r7
        rw [gs3] at r5 r8
        have li := le_imax t.due (t.span + 1 + sp1)
        have ix : imax s.depth (t.depth + 1) ≤ s.depth + 1 := imax_le (by omega) (by omega)
        have hfin := le_imax s.depth (t.depth + sp - 1)
        have b1 : imax (imax s.depth (t.depth + 1)) (t.depth + 1 + sp1 - 1) ≤ imax s.depth (t.depth + sp - 1) := imax_le (imax_le (by omega) (by omega)) (by omega)
        exact ⟨by omega, by omega, by omega, by omega, fun _ => by omega, by omega, by omega, Int.le_trans r8 (imax_le (by omega) (by omega)), fun hh _ => by omega⟩
    · rw [loop_sync h0 hic hk] at h
      have hn := along_next hV hal hi false (by omega)
      have e1 : stepAt i (at_ : Int) false = ((at_ + 1 : Nat) : Int) := by unfold stepAt; rw [if_neg (by omega), if_neg (by simp)]; omega
      rw [e1] at hn
      have ws : (waitT (payT t)).span = imax (t.span + 1) (t.due + 1) := rfl
      have wd : (waitT (payT t)).due = t.due := rfl
      have wp : (waitT (payT t)).depth = t.depth := rfl
      have li := le_imax (t.span + 1) (t.due + 1)
      have z := loop_sizes hA L g (payS s) (waitT (payT t)) _ f _ hs.pay (by rw [hpf]; exact ht'.wait) hf hn (.inr (by rw [ws, wd]; omega)) hdp v sp s' h
      obtain ⟨z1, z2, z3, z4, z5, z6, z7, z8, z9⟩ := z
      rw [ws] at z6 z9
      rw [wd] at z7 z9
      rw [wp] at z5 z8
      refine ⟨by omega, by omega, by omega, by omega, fun h => z5 (by omega), by omega, by omega, by rw [hpd'] at z8; exact z8, fun h1 h2 => ?_⟩
      have e : imax (t.span + 1) (t.due + 1) = t.span + 1 := if_neg (by omega)
      rw [e] at z9
      have := z9 (by omega) (by omega)
      omega
    · rw [loop_ret h0 hic hk] at h
      injection h with h1 h2 h3
      have hcl := along_clean hV hal (by simpa using hi)
      have hnp : (1 : Int) ∉ sl := by
        unfold cleanV at hcl
        rw [if_neg (by omega), if_neg (by omega), if_pos hk, List.all_eq_true] at hcl
        intro hm1
        have := hcl 1 hm1
        simp at this
      have hdue : t.due ≤ t.span := by rcases hpd with h | h; exact absurd h hnp; exact h
      have k1 : s'.fuel = m := by rw [← h3]; exact hpf
      have k2 : s'.tasks = s.tasks := by rw [← h3]; rfl
      have k3 : s'.depth = s.depth := by rw [← h3]; rfl
      have := le_imax s.depth (t.depth + sp - 1)
      exact ⟨by omega, by omega, by omega, by omega, fun h => by omega, by omega, by omega, by omega, fun _ _ => by omega⟩
    · rw [loop_comp h0 hic hk] at h
      have en : (computeT (payT t) i).node = (payT t).node ∧ (computeT (payT t) i).span = (payT t).span ∧ (computeT (payT t) i).due = (payT t).due ∧ (computeT (payT t) i).depth = (payT t).depth := by
        unfold computeT setR
        repeat' split
        all_goals exact ⟨rfl, rfl, rfl, rfl⟩
      have hn := along_next hV hal hi false (by omega)
      have e1 : stepAt i (at_ : Int) false = ((at_ + 1 : Nat) : Int) := by unfold stepAt; rw [if_neg (by omega), if_neg (by simp)]; omega
      have e2 : stepSl i sl = sl := by unfold stepSl; rw [if_neg (by omega), if_neg (by omega)]
      rw [e1, e2] at hn
      exact low (by rw [en.2.1]; rfl) (by rw [en.2.2.1]; rfl) (by rw [en.2.2.2]; rfl) (loop_sizes hA L g (payS s) (computeT (payT t) i) _ f sl hs.pay (by rw [hpf]; exact ht'.pay.compute i hik) (by rw [en.1]; exact hf) hn (by rcases hpd with h | h; exact .inl h; exact .inr (by rw [en.2.1, en.2.2.1, psp, pdu]; omega)) (by rw [en.2.2.2]; exact hdp) v sp s' h)
/-- The sizes of a run that ends. -/
theorem eval_sizes {fs : List Fn} {zs : List Int} {fuel : Int} (hok : ∀ f ∈ fs, f.Ok) (hz : ∀ x ∈ zs, okI x) (h : (evalV fs zs fuel).2 = 0) :
    let v := (evalV fs zs fuel).1
    1 ≤ v.depth ∧ v.depth ≤ v.tasks ∧ v.tasks ≤ v.work ∧ v.work ≤ fuel ∧ v.depth ≤ v.span ∧ v.span ≤ v.work ∧ (v.tasks = 1 ↔ v.depth = 1) ∧ (v.tasks ≤ 1 → v.span = v.work) ∧ fuel ≤ 4194304 ∧ 0 ≤ fuel ∧ v.depth ≤ 4096 := by
  have hr0 : refusedV fs zs fuel = 0 := by
    by_cases h1 : refusedV fs zs fuel = 0
    · exact h1
    · unfold evalV at h
      rw [if_pos h1] at h
      exact absurd h h1
  obtain ⟨hcz, hpz, hf0, hf1⟩ := refused_zero hr0
  have hA := allV_of hcz hok
  obtain ⟨F, rfl⟩ := Int.eq_ofNat_of_zero_le hf0
  have hBg := root_begins hA false hz F (by omega)
  have hev : evalV fs zs (F : Int) = (match runV fs false zs F with
    | .gave e => (zeroVal, e)
    | .done v sp s => (⟨v, (F : Int) - s.fuel, s.tasks, s.depth, sp⟩, 0)) := by
    unfold evalV
    rw [if_neg (by simpa using hr0)]
    rfl
  cases hq : runV fs false zs F with
  | gave e =>
    rw [hq] at hev
    rw [hev] at h
    exact absurd h (gave_ne hA hBg hq)
  | done v sp s =>
    rw [hq] at hev
    rw [hev]
    obtain ⟨d1, d2, d3, d4, d5, d6⟩ := child_done hA hBg rfl hq
    unfold runV playV at hq
    have hd : ¬ 4096 < (rootT zs).depth := by simp [rootT]
    rw [if_neg hd] at hq
    have hti := hBg.tin hd
    obtain ⟨f, hf, _, _, hV, _⟩ := hA.fn hti.func
    have hG := good_of hV.shape hV.code
    have z := loop_sizes hA false (F + 1) _ _ 0 f (List.replicate 8 0) (hBg.sin hd) hti hf (by simpa using along_start hG (valid_bounds hV).2.2.1.1) (.inr (by show (0 : Int) ≤ 0; omega)) (by show (1 : Int) ≤ imax 0 1; decide) v sp s hq
    obtain ⟨z1, z2, z3, z4, z5, z6, z7, z8, z9⟩ := z
    have k1 : (enterS false (startS F) (rootT zs)).tasks = 1 := rfl
    have k2 : (enterS false (startS F) (rootT zs)).fuel = F := rfl
    have k3 : (enterS false (startS F) (rootT zs)).depth = 1 := rfl
    have k4 : (enterT (startS F) (rootT zs)).span = 0 := rfl
    have k5 : (enterT (startS F) (rootT zs)).due = 0 := rfl
    have k6 : (enterT (startS F) (rootT zs)).depth = 1 := rfl
    have k7 : (startS F).fuel = F := rfl
    rw [k1, k2] at z1
    rw [k1] at z2 z4 z5 z9
    rw [k3] at z3 z4 z8
    rw [k4] at z6 z9
    rw [k5] at z9
    rw [k6] at z5 z8
    rw [k2] at z9
    rw [k7] at d3 d4
    have l8 : imax (1 : Int) (1 + sp - 1) ≤ sp := imax_le (by omega) (by omega)
    have d5d := d5.depth
    show 1 ≤ s.depth ∧ s.depth ≤ (s.tasks : Int) ∧ (s.tasks : Int) ≤ (F : Int) - s.fuel ∧ (F : Int) - s.fuel ≤ F ∧ s.depth ≤ sp ∧ sp ≤ (F : Int) - s.fuel ∧ ((s.tasks : Int) = 1 ↔ s.depth = 1) ∧ ((s.tasks : Int) ≤ 1 → sp = (F : Int) - s.fuel) ∧ (F : Int) ≤ 4194304 ∧ (0 : Int) ≤ F ∧ s.depth ≤ 4096
    refine ⟨by omega, by omega, by omega, by omega, by omega, by omega, ⟨fun e => by omega, fun e => ?_⟩, fun e => ?_, by omega, by omega, by omega⟩
    · by_cases ht : 1 < s.tasks
      · have := z5 ht
        omega
      · omega
    · have := z9 (by omega) (by omega)
      omega
theorem eval_not {fs : List Fn} {zs : List Int} {fuel : Int} (h : (evalV fs zs fuel).2 ≠ 0) : (evalV fs zs fuel).1 = zeroVal := by
  unfold evalV at h ⊢
  by_cases h1 : refusedV fs zs fuel ≠ 0
  · rw [if_pos h1]
  · rw [if_neg h1] at h ⊢
    cases hq : runV fs false zs fuel.toNat with
    | gave e => rfl
    | done v sp s => rw [hq] at h; exact absurd rfl h
end Go.Proofs.YtbdpdojeaahpjaaGreatDoor
/-! Fuel changes nothing but whether there is an answer, plainly. -/
namespace Go.Proofs.YtbdpdojeaahpjaaGreatDoor
set_option linter.unusedVariables false
set_option maxRecDepth 20000
open Go.RowKit Go.PlainOps

def Rn.at (s : Rn) (F : Nat) : Rn := { s with fuel := F }
section
variable {fs : List Fn} (hA : AllV fs) (L : Bool)
include hA
/-- What ends, ends with any fuel that suffices, and alike. -/
theorem loop_shift : ∀ (g : Nat) (s : Rn) (t : Tk) (at_ : Nat), s.In L → t.In fs s.fuel → at_ < (codeOf fs t.node.func).length → ∀ v sp s', loopV fs L g s t at_ = .done v sp s' →
    ∀ (g2 F : Nat), F < g2 → s.fuel - s'.fuel ≤ F → loopV fs L g2 (s.at F) t at_ = .done v sp (s'.at (F - (s.fuel - s'.fuel)))
  | 0, s, t, at_, hs, ht, hat, v, sp, s', h, g2, F, hg, hF => by simp [loopV] at h
  | g + 1, s, t, at_, hs, ht, hat, v, sp, s', h, g2, F, hg, hF => by
    have h0 : s.fuel ≠ 0 := fun h0 => by rw [loop_out h0] at h; cases h
    obtain ⟨m, hm⟩ : ∃ m, s.fuel = m + 1 := ⟨s.fuel - 1, by omega⟩
    have hpf : (payS s).fuel = m := by simp [payS, hm]
    obtain ⟨f, hf, _, hcf, hV, hok⟩ := hA.fn ht.func
    have hat' := hat
    rw [hcf] at hat'
    obtain ⟨i, hi⟩ : ∃ i, f.code[at_]? = some i := ⟨f.code[at_]'hat', by simp⟩
    have hic : (codeOf fs t.node.func)[at_]? = some i := by rw [hcf]; exact hi
    have so := step_ok hV hi
    have hik := (hok.code i (List.mem_of_getElem? hi)).k
    have ht' := ht
    rw [hm] at ht'
    have hd := loop_in hA L (g + 1) s t at_ hs ht hat v sp s' h
    have hfu := hd.fuel
    have hnl : i.kind ≠ 3 → i.kind ≠ 9 → at_ + 1 < (codeOf fs t.node.func).length := fun h3 h9 => by rw [hcf]; exact so.next h3 h9
    obtain ⟨g3, rfl⟩ : ∃ g3, g2 = g3 + 1 := ⟨g2 - 1, by omega⟩
    have hcases : i.kind = 3 ∨ i.kind = 4 ∨ i.kind = 5 ∨ i.kind = 6 ∨ i.kind = 9 ∨ (i.kind = 0 ∨ i.kind = 1 ∨ i.kind = 2 ∨ i.kind = 7 ∨ i.kind = 8) := by have := so.kind; omega
    -- the fuel that is asked is at least one
    have key : ∀ {t1 : Tk} {at1 : Nat}, t1.In fs m → at1 < (codeOf fs t1.node.func).length → loopV fs L g (payS s) t1 at1 = .done v sp s' → s'.fuel ≤ m ∧ (1 ≤ F → loopV fs L g3 ((payS s).at (F - 1)) t1 at1 = .done v sp (s'.at (F - (s.fuel - s'.fuel)))) := by
      intro t1 at1 hti hat1 h1
      have hd1 := (loop_in hA L g (payS s) t1 at1 hs.pay (by rw [hpf]; exact hti) hat1 v sp s' h1).fuel
      rw [hpf] at hd1
      refine ⟨hd1, fun hF1 => ?_⟩
      have := loop_shift g (payS s) t1 at1 hs.pay (by rw [hpf]; exact hti) hat1 v sp s' h1 g3 (F - 1) (by omega) (by rw [hpf]; omega)
      rw [this, hpf]
      congr 2
      omega
    have hpa : ∀ F, payS (s.at F) = (payS s).at (F - 1) := fun F => rfl
    have hfa : ∀ F, 1 ≤ F → (s.at F).fuel ≠ 0 := fun F hF => by show ¬ F = 0; omega
    rcases hcases with hk | hk | hk | hk | hk | hk
    · rw [loop_jump h0 hic hk] at h
      obtain ⟨k1, k2⟩ := key ht'.pay (by show _ < (codeOf fs t.node.func).length; rw [hcf]; have := so.jump hk; omega) h
      rw [loop_jump (hfa F (by omega)) hic hk, hpa]
      exact k2 (by omega)
    · rw [loop_branch h0 hic hk] at h
      obtain ⟨k1, k2⟩ := key ht'.pay (by show _ < (codeOf fs t.node.func).length; have := hnl (by omega) (by omega); rw [hcf] at this ⊢; have := so.branch hk; split <;> omega) h
      rw [loop_branch (hfa F (by omega)) hic hk, hpa]
      exact k2 (by omega)
    · rw [loop_spawn h0 hic hk] at h
      have hBg := child_begins hs ht h0 so hk
      cases hp : playV fs L g (payS s) (childV fs (payT t) i) with
      | gave e' => rw [hp] at h; cases h
      | done v1 sp1 s2 =>
        rw [hp] at h
        obtain ⟨d1, d2, d3, d4, d5, d6⟩ := child_done hA hBg rfl hp
        rw [hpf] at d3 d4
        have hti2 := ht'.got (a := i.a.toNat) d1 d2 d3
        have hat2 : at_ + 1 < (codeOf fs (gotT (spawnT (payT t)) i.a.toNat v1 sp1).node.func).length := hnl (by omega) (by omega)
        have hd2 := (loop_in hA L g s2 _ (at_ + 1) d5 hti2 hat2 v sp s' h).fuel
        unfold playV at hp
        have hdp : ¬ 4096 < (childV fs (payT t) i).depth := fun hd => by rw [if_pos hd] at hp; cases hp
        rw [if_neg hdp] at hp
        have htic := hBg.tin hdp
        obtain ⟨f2, _, _, hc2, hV2, _⟩ := hA.fn htic.func
        have cs3 : (enterS L (payS s) (childV fs (payT t) i)).fuel = m := hpf
        have c1 := loop_shift g _ _ 0 (hBg.sin hdp) htic (by rw [hc2]; have := (valid_bounds hV2).2.2.2; omega) v1 sp1 s2 hp g3 (F - 1) (by omega) (by rw [cs3]; omega)
        rw [cs3] at c1
        have r1 := loop_shift g s2 (gotT (spawnT (payT t)) i.a.toNat v1 sp1) (at_ + 1) d5 hti2 hat2 v sp s' h g3 (F - 1 - (m - s2.fuel)) (by omega) (by omega)
        rw [loop_spawn (hfa F (by omega)) hic hk, hpa]
        have e1 : playV fs L g3 ((payS s).at (F - 1)) (childV fs (payT t) i) = .done v1 sp1 (s2.at (F - 1 - (m - s2.fuel))) := by
          unfold playV
          rw [if_neg hdp]
          exact c1
        rw [e1]
        show loopV fs L g3 (s2.at (F - 1 - (m - s2.fuel))) _ _ = _
        rw [r1]
        congr 2
        omega
    · rw [loop_sync h0 hic hk] at h
      obtain ⟨k1, k2⟩ := key ht'.wait (by show _ < (codeOf fs t.node.func).length; exact hnl (by omega) (by omega)) h
      rw [loop_sync (hfa F (by omega)) hic hk, hpa]
      exact k2 (by omega)
    · rw [loop_ret h0 hic hk] at h
      injection h with h1 h2 h3
      have k1 : s'.fuel = m := by rw [← h3]; exact hpf
      rw [loop_ret (hfa F (by omega)) hic hk, hpa]
      have e : leaveS L ((payS s).at (F - 1)) (endT (payT t) (t.regs.getD i.a.toNat 0)) = s'.at (F - (s.fuel - s'.fuel)) := by
        rw [show F - (s.fuel - s'.fuel) = F - 1 by omega, ← h3]
        rfl
      rw [e, h1, h2]
    · rw [loop_comp h0 hic hk] at h
      have en : (computeT (payT t) i).node = (payT t).node := by
        unfold computeT setR
        repeat' split
        all_goals rfl
      obtain ⟨k1, k2⟩ := key (ht'.pay.compute i hik) (by rw [en]; show _ < (codeOf fs t.node.func).length; exact hnl (by omega) (by omega)) h
      rw [loop_comp (hfa F (by omega)) hic hk, hpa]
      exact k2 (by omega)
/-- What is too deep stays so with more fuel. -/
theorem loop_deep : ∀ (g : Nat) (s : Rn) (t : Tk) (at_ : Nat), s.In L → t.In fs s.fuel → at_ < (codeOf fs t.node.func).length → loopV fs L g s t at_ = .gave 63 →
    ∀ (g2 F : Nat), F < g2 → s.fuel ≤ F → loopV fs L g2 (s.at F) t at_ = .gave 63
  | 0, s, t, at_, hs, ht, hat, h, g2, F, hg, hF => by simp [loopV] at h
  | g + 1, s, t, at_, hs, ht, hat, h, g2, F, hg, hF => by
    have h0 : s.fuel ≠ 0 := fun h0 => by rw [loop_out h0] at h; cases h
    obtain ⟨m, hm⟩ : ∃ m, s.fuel = m + 1 := ⟨s.fuel - 1, by omega⟩
    have hpf : (payS s).fuel = m := by simp [payS, hm]
    obtain ⟨f, hf, _, hcf, hV, hok⟩ := hA.fn ht.func
    have hat' := hat
    rw [hcf] at hat'
    obtain ⟨i, hi⟩ : ∃ i, f.code[at_]? = some i := ⟨f.code[at_]'hat', by simp⟩
    have hic : (codeOf fs t.node.func)[at_]? = some i := by rw [hcf]; exact hi
    have so := step_ok hV hi
    have hik := (hok.code i (List.mem_of_getElem? hi)).k
    have ht' := ht
    rw [hm] at ht'
    have hnl : i.kind ≠ 3 → i.kind ≠ 9 → at_ + 1 < (codeOf fs t.node.func).length := fun h3 h9 => by rw [hcf]; exact so.next h3 h9
    obtain ⟨g3, rfl⟩ : ∃ g3, g2 = g3 + 1 := ⟨g2 - 1, by omega⟩
    have hcases : i.kind = 3 ∨ i.kind = 4 ∨ i.kind = 5 ∨ i.kind = 6 ∨ i.kind = 9 ∨ (i.kind = 0 ∨ i.kind = 1 ∨ i.kind = 2 ∨ i.kind = 7 ∨ i.kind = 8) := by have := so.kind; omega
    have hpa : ∀ F, payS (s.at F) = (payS s).at (F - 1) := fun F => rfl
    have hfa : (s.at F).fuel ≠ 0 := by show ¬ F = 0; omega
    have key : ∀ {t1 : Tk} {at1 : Nat}, t1.In fs m → at1 < (codeOf fs t1.node.func).length → loopV fs L g (payS s) t1 at1 = .gave 63 → loopV fs L g3 ((payS s).at (F - 1)) t1 at1 = .gave 63 := by
      intro t1 at1 hti hat1 h1
      exact loop_deep g (payS s) t1 at1 hs.pay (by rw [hpf]; exact hti) hat1 h1 g3 (F - 1) (by omega) (by rw [hpf]; omega)
    rcases hcases with hk | hk | hk | hk | hk | hk
    · rw [loop_jump h0 hic hk] at h
      rw [loop_jump hfa hic hk, hpa]
      exact key ht'.pay (by show _ < (codeOf fs t.node.func).length; rw [hcf]; have := so.jump hk; omega) h
    · rw [loop_branch h0 hic hk] at h
      rw [loop_branch hfa hic hk, hpa]
      exact key ht'.pay (by show _ < (codeOf fs t.node.func).length; have := hnl (by omega) (by omega); rw [hcf] at this ⊢; have := so.branch hk; split <;> omega) h
    · rw [loop_spawn h0 hic hk] at h
      rw [loop_spawn hfa hic hk, hpa]
      have hBg := child_begins hs ht h0 so hk
      cases hp : playV fs L g (payS s) (childV fs (payT t) i) with
      | gave e' =>
        rw [hp] at h
        injection h with h
        subst h
        have e1 : playV fs L g3 ((payS s).at (F - 1)) (childV fs (payT t) i) = .gave 63 := by
          unfold playV at hp ⊢
          by_cases hdp : 4096 < (childV fs (payT t) i).depth
          · rw [if_pos hdp]
          · rw [if_neg hdp] at hp ⊢
            have htic := hBg.tin hdp
            obtain ⟨f2, _, _, hc2, hV2, _⟩ := hA.fn htic.func
            have cs3 : (enterS L (payS s) (childV fs (payT t) i)).fuel = m := hpf
            exact loop_deep g _ _ 0 (hBg.sin hdp) htic (by rw [hc2]; have := (valid_bounds hV2).2.2.2; omega) hp g3 (F - 1) (by omega) (by rw [cs3]; omega)
        rw [e1]
      | done v1 sp1 s2 =>
        rw [hp] at h
        obtain ⟨d1, d2, d3, d4, d5, d6⟩ := child_done hA hBg rfl hp
        rw [hpf] at d3 d4
        have hti2 := ht'.got (a := i.a.toNat) d1 d2 d3
        have hat2 : at_ + 1 < (codeOf fs (gotT (spawnT (payT t)) i.a.toNat v1 sp1).node.func).length := hnl (by omega) (by omega)
        unfold playV at hp
        have hdp : ¬ 4096 < (childV fs (payT t) i).depth := fun hd => by rw [if_pos hd] at hp; cases hp
        rw [if_neg hdp] at hp
        have htic := hBg.tin hdp
        obtain ⟨f2, _, _, hc2, hV2, _⟩ := hA.fn htic.func
        have cs3 : (enterS L (payS s) (childV fs (payT t) i)).fuel = m := hpf
        have c1 := loop_shift hA L g _ _ 0 (hBg.sin hdp) htic (by rw [hc2]; have := (valid_bounds hV2).2.2.2; omega) v1 sp1 s2 hp g3 (F - 1) (by omega) (by rw [cs3]; omega)
        rw [cs3] at c1
        have e1 : playV fs L g3 ((payS s).at (F - 1)) (childV fs (payT t) i) = .done v1 sp1 (s2.at (F - 1 - (m - s2.fuel))) := by
          unfold playV
          rw [if_neg hdp]
          exact c1
        rw [e1]
        exact loop_deep g s2 (gotT (spawnT (payT t)) i.a.toNat v1 sp1) (at_ + 1) d5 hti2 hat2 h g3 _ (by omega) (by omega)
    · rw [loop_sync h0 hic hk] at h
      rw [loop_sync hfa hic hk, hpa]
      exact key ht'.wait (by show _ < (codeOf fs t.node.func).length; exact hnl (by omega) (by omega)) h
    · rw [loop_ret h0 hic hk] at h
      cases h
    · rw [loop_comp h0 hic hk] at h
      rw [loop_comp hfa hic hk, hpa]
      have en : (computeT (payT t) i).node = (payT t).node := by
        unfold computeT setR
        repeat' split
        all_goals rfl
      exact key (ht'.pay.compute i hik) (by rw [en]; show _ < (codeOf fs t.node.func).length; exact hnl (by omega) (by omega)) h
end
/-- The root, with other fuel. -/
theorem run_shift {fs : List Fn} (hA : AllV fs) {zs : List Int} (hz : ∀ x ∈ zs, okI x) {F : Nat} (hF : F ≤ 4194304) {v sp : Int} {s : Rn} (h : runV fs false zs F = .done v sp s) (F2 : Nat) (h2 : F - s.fuel ≤ F2) : runV fs false zs F2 = .done v sp (s.at (F2 - (F - s.fuel))) := by
  have hBg := root_begins hA false hz F hF
  unfold runV playV at h ⊢
  have hd : ¬ 4096 < (rootT zs).depth := by simp [rootT]
  rw [if_neg hd] at h ⊢
  have hti := hBg.tin hd
  obtain ⟨f, hf, _, hc, hV, _⟩ := hA.fn hti.func
  exact loop_shift hA false (F + 1) _ _ 0 (hBg.sin hd) hti (by rw [hc]; have := (valid_bounds hV).2.2.2; omega) v sp s h (F2 + 1) F2 (by omega) h2
theorem run_deep {fs : List Fn} (hA : AllV fs) {zs : List Int} (hz : ∀ x ∈ zs, okI x) {F : Nat} (hF : F ≤ 4194304) (h : runV fs false zs F = .gave 63) (F2 : Nat) (h2 : F ≤ F2) : runV fs false zs F2 = .gave 63 := by
  have hBg := root_begins hA false hz F hF
  unfold runV playV at h ⊢
  have hd : ¬ 4096 < (rootT zs).depth := by simp [rootT]
  rw [if_neg hd] at h ⊢
  have hti := hBg.tin hd
  obtain ⟨f, hf, _, hc, hV, _⟩ := hA.fn hti.func
  exact loop_deep hA false (F + 1) _ _ 0 (hBg.sin hd) hti (by rw [hc]; have := (valid_bounds hV).2.2.2; omega) h (F2 + 1) F2 (by omega) h2
theorem run_gave {fs : List Fn} (hA : AllV fs) {zs : List Int} (hz : ∀ x ∈ zs, okI x) {F : Nat} (hF : F ≤ 4194304) {e : Int} (h : runV fs false zs F = .gave e) : e = 62 ∨ e = 63 := by
  have hBg := root_begins hA false hz F hF
  unfold runV playV at h
  have hd : ¬ 4096 < (rootT zs).depth := by simp [rootT]
  rw [if_neg hd] at h
  have hti := hBg.tin hd
  obtain ⟨f, hf, _, hc, hV, _⟩ := hA.fn hti.func
  exact loop_gave hA false (F + 1) _ _ 0 (hBg.sin hd) hti (by rw [hc]; have := (valid_bounds hV).2.2.2; omega) e h
end Go.Proofs.YtbdpdojeaahpjaaGreatDoor
