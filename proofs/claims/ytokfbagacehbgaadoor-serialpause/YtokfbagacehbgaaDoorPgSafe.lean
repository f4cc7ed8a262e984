import Derived.Test.YtokfbagacehbgaaDoorPgClosed
/-! Verified code does not go wrong, plainly. -/
namespace Go.Proofs.YtokfbagacehbgaaDoor
set_option linter.unusedVariables false
set_option maxRecDepth 20000

/-- No point has the state 0 or 3. -/
def Bare (n : Nat) (fr : List Pt) : Prop := ∀ a s, a < n → (s = 0 ∨ s = 3) → (fr.getD (a * 5 + s) (0, 0)).2 = 0
theorem Bare.set {n : Nat} {fr : List Pt} {p here : Pt} (h : Bare n fr) (hp : PtOk n p) : Bare n (fr.set (ptIx p) here) := by
  intro a s ha hs
  have : ptIx p ≠ a * 5 + s := by
    obtain ⟨h1, h2, h3⟩ := hp
    unfold ptIx
    omega
  rw [List.getD_eq_getElem?_getD, List.getElem?_set_ne this, ← List.getD_eq_getElem?_getD]
  exact h a s ha hs
theorem visit_bare (n : Nat) (goal here : Pt) (st : Int) (hst : st = 1 ∨ st = 2 ∨ st = 4) : ∀ (L : List Int) (fr op : List Pt), (∀ a ∈ L, 0 ≤ a ∧ a < n) → Bare n fr → Bare n (visit goal here st L fr op).1
  | [], fr, op, _, h => h
  | a :: r, fr, op, hL, h => by
    have ha := hL a (List.mem_cons_self ..)
    have hp : PtOk n (a, st) := ⟨ha.1, ha.2, hst⟩
    have hr : ∀ b ∈ r, 0 ≤ b ∧ b < n := fun b hb => hL b (List.mem_cons_of_mem _ hb)
    unfold visit
    split
    · exact visit_bare n goal here st hst r fr op hr h
    · split
      · exact h.set hp
      · exact visit_bare n goal here st hst r _ _ hr (h.set hp)
theorem run_bare (f : Fn) (slot : Int) (goal : Pt) (hG : Good f) : ∀ (k : Nat) (fr op : List Pt), Seeks f.code.length fr op → Bare f.code.length fr → Bare f.code.length (runS f slot goal k fr op)
  | 0, fr, op, hS, h => h
  | k + 1, fr, [], hS, h => h
  | k + 1, fr, p :: t, hS, hB => by
    have hok := hS.op p (List.mem_cons_self ..)
    obtain ⟨i, hi⟩ : ∃ i, f.code[p.1.toNat]? = some i := ⟨f.code[p.1.toNat]'(by have := hok.a0; have := hok.a1; omega), by simp⟩
    have hst := after_st i slot p.2 hok.st
    have h0 : p.2 ≠ 0 := by have := hok.st; omega
    have hw : ∀ a ∈ exitsV p.1 i, 0 ≤ a ∧ a < f.code.length := fun a ha => hG.ways p.1.toNat i hi a (by rw [Int.toNat_of_nonneg hok.a0]; exact ha)
    have hS' : Seeks f.code.length fr t := ⟨hS.len, fun q hq => hS.op q (List.mem_cons_of_mem _ hq)⟩
    have v1 := visit_ok f.code.length goal p _ hst h0 (exitsV p.1 i) fr t hw hS'
    have v2 := visit_bare f.code.length goal p _ hst (exitsV p.1 i) fr t hw hB
    unfold runS
    rw [hi]
    simp only
    generalize visit goal p (afterV i slot p.2) (exitsV p.1 i) fr t = V at v1 v2
    obtain ⟨fr', op', b⟩ := V
    cases b
    · exact run_bare f slot goal hG k fr' op' v1.1 v2
    · exact v2
theorem fr0_bare (n : Nat) (hn : 1 ≤ n) : Bare n (fr0 n) := by
  unfold fr0
  refine Bare.set (p := (0, 1)) ?_ ⟨by simp, by simp; omega, .inl rfl⟩
  intro a s ha hs
  rw [List.getD_eq_getElem?_getD, List.getElem?_replicate]
  split <;> simp
theorem search_bare {f : Fn} (hG : Good f) (slot : Int) (goal : Pt) : Bare f.code.length (searchV f slot goal) := by
  have n1 := hG.n1
  exact run_bare f slot goal hG _ _ _ ⟨fr0_len _, fun p hp => by simp at hp; subst hp; exact ⟨by simp, by simp; omega, .inl rfl⟩⟩ (fr0_bare _ n1)
theorem sum_at {n : Nat} {fr : List Pt} (h : Bare n fr) (a : Nat) (ha : a < n) : sumAt fr a = (if metV fr (a, 1) then 1 else 0) + (if metV fr (a, 2) then 2 else 0) + (if metV fr (a, 4) then 4 else 0) := by
  have h0 := h a 0 ha (.inl rfl)
  have h3 := h a 3 ha (.inr rfl)
  unfold sumAt
  rw [show List.range 5 = [0, 1, 2, 3, 4] from rfl]
  simp only [List.foldl_cons, List.foldl_nil]
  rw [h0, h3]
  have e1 : metV fr (a, 1) = decide ((fr.getD (a * 5 + 1) (0, 0)).2 ≠ 0) := by simp [metV, ptIx]
  have e2 : metV fr (a, 2) = decide ((fr.getD (a * 5 + 2) (0, 0)).2 ≠ 0) := by simp [metV, ptIx]
  have e4 : metV fr (a, 4) = decide ((fr.getD (a * 5 + 4) (0, 0)).2 ≠ 0) := by simp [metV, ptIx]
  rw [e1, e2, e4]
  generalize (fr.getD (a * 5 + 1) (0, 0)).2 = x
  generalize (fr.getD (a * 5 + 2) (0, 0)).2 = y
  generalize (fr.getD (a * 5 + 4) (0, 0)).2 = z
  by_cases hx : x = 0 <;> by_cases hy : y = 0 <;> by_cases hz : z = 0 <;> simp [hx, hy, hz]
theorem sum_has2 {n : Nat} {fr : List Pt} (h : Bare n fr) (a : Nat) (ha : a < n) : has2 (sumAt fr a) = metV fr (a, 2) := by
  rw [sum_at h a ha]
  cases metV fr (a, 1) <;> cases metV fr (a, 2) <;> cases metV fr (a, 4) <;> rfl
theorem sum_less {n : Nat} {fr : List Pt} (h : Bare n fr) (a : Nat) (ha : a < n) : hasLess (sumAt fr a) = (metV fr (a, 1) || metV fr (a, 2)) := by
  rw [sum_at h a ha]
  cases metV fr (a, 1) <;> cases metV fr (a, 2) <;> cases metV fr (a, 4) <;> rfl

/-- What a walk knows: where it is, what its slots are (0 empty, 1 pending, 2 full). -/
def bitV (s : Int) : Int := if s = 0 then 1 else if s = 1 then 2 else 4
structure Along (f : Fn) (at_ : Int) (sl : List Int) : Prop where
  len : sl.length = 8
  a0 : 0 ≤ at_
  a1 : at_ < f.code.length
  met : ∀ s : Nat, (s : Int) < f.slots → metV (searchV f s (0, 0)) (at_, bitV (sl.getD s 0)) = true
  off : ∀ s : Nat, f.slots ≤ s → sl.getD s 0 = 0
  is3 : ∀ x ∈ sl, x = 0 ∨ x = 1 ∨ x = 2
structure Valid (fs : List Fn) (f : Fn) : Prop where
  shape : shapeV f = true
  code : codeFault false fs f = none
  slot : slotFault f = none
theorem check_valid {fs : List Fn} (h : checkV fs = (0, 0, 0)) : 1 ≤ fs.length ∧ fs.length ≤ 32 ∧ ∀ f ∈ fs, Valid fs f := by
  unfold checkV at h
  split at h
  · simp at h
  · rename_i hl
    split at h
    · simp at h
    · rename_i h1
      split at h
      · rename_i r hr
        obtain ⟨k, x, _, _, hg, _⟩ := firstAt_was _ _ _ _ hr
        unfold codeFault at hg
        split at hg
        · have := (Option.some.inj hg)
          rw [← this] at h
          simp at h
        · split at hg
          · have := (Option.some.inj hg)
            rw [← this] at h
            simp at h
          · cases hg
      · rename_i h2
        split at h
        · rename_i r hr
          obtain ⟨k, x, _, _, hg, _⟩ := firstAt_was _ _ _ _ hr
          unfold slotFault at hg
          simp only [Option.map_eq_some_iff] at hg
          obtain ⟨q, hq, e⟩ := hg
          obtain ⟨k2, y, _, _, hg2, _⟩ := firstAt_was _ _ _ _ hq
          split at hg2
          · cases hg2
          · rename_i hne
            have := Option.some.inj hg2
            rw [← e] at h
            simp at h
            rw [← this] at h
            exact absurd h.1 hne
        · rename_i h3
          refine ⟨by omega, by omega, fun f hf => ?_⟩
          obtain ⟨k, hk, rfl⟩ := List.mem_iff_getElem.1 hf
          have e : fs[k]? = some fs[k] := by simp
          refine ⟨?_, firstAt_all _ _ _ h2 k _ e, firstAt_all _ _ _ h3 k _ e⟩
          have := firstAt_all _ _ _ h1 k _ e
          by_cases hv : shapeV fs[k] = true
          · exact hv
          · simp [hv] at this
theorem slot_ok {f : Fn} (h : slotFault f = none) (k : Nat) (i : Ins) (hi : f.code[k]? = some i) : misuseV i (rowV f k) = 0 := by
  unfold slotFault at h
  simp only [Option.map_eq_none_iff] at h
  have := firstAt_all _ _ _ h k i hi
  simp only [Nat.zero_add] at this
  by_cases hv : misuseV i (rowV f k) = 0
  · exact hv
  · simp [hv] at this
theorem row_at {f : Fn} (k s : Nat) (hs : (s : Int) < f.slots) : (rowV f k)[s]? = some (sumAt (searchV f s (0, 0)) k) := by
  unfold rowV
  rw [List.getElem?_map, List.getElem?_range (by omega)]
  rfl
theorem row_get {f : Fn} (k s : Nat) (hs : (s : Int) < f.slots) : (rowV f k).getD s 0 = sumAt (searchV f s (0, 0)) k := by
  rw [List.getD_eq_getElem?_getD, row_at k s hs]; rfl

/-- The statement's 'clean'. -/
def cleanV (i : Ins) (sl : List Int) : Bool :=
  if i.kind = 5 then decide (sl.getD i.a.toNat 0 ≠ 1) else if i.kind = 7 then decide (sl.getD i.b.toNat 0 = 2) else if i.kind = 9 then sl.all (fun x => decide (x ≠ 1)) else true
/-- The statement's 'steps'. -/
def syncV (sl : List Int) : List Int := sl.map (fun x => if x = 1 then 2 else x)
def stepSl (i : Ins) (sl : List Int) : List Int := if i.kind = 5 then sl.set i.a.toNat 1 else if i.kind = 6 then syncV sl else sl
def stepAt (i : Ins) (at_ : Int) (turn : Bool) : Int := if i.kind = 3 then i.a else if i.kind = 4 ∧ turn then i.b else at_ + 1

theorem along_start {f : Fn} (hG : Good f) (h0 : 0 ≤ f.slots) : Along f 0 (List.replicate 8 0) := by
  have := hG.n1
  refine ⟨by simp, by omega, by omega, fun s hs => ?_, fun s hs => ?_, fun x hx => ?_⟩
  · have e : (List.replicate 8 (0 : Int)).getD s 0 = 0 := by
      rw [List.getD_eq_getElem?_getD, List.getElem?_replicate]; split <;> rfl
    rw [e]
    exact (search_closed hG s).2.1
  · rw [List.getD_eq_getElem?_getD, List.getElem?_replicate]; split <;> rfl
  · left; exact List.eq_of_mem_replicate hx
theorem kinds {i : Ins} (h0 : 0 ≤ i.kind) (h1 : i.kind < 10) : i.kind = 0 ∨ i.kind = 1 ∨ i.kind = 2 ∨ i.kind = 3 ∨ i.kind = 4 ∨ i.kind = 5 ∨ i.kind = 6 ∨ i.kind = 7 ∨ i.kind = 8 ∨ i.kind = 9 := by omega
theorem bit_st (x : Int) : bitV x = 1 ∨ bitV x = 2 ∨ bitV x = 4 := by
  unfold bitV; split; · simp
  split <;> simp
theorem along_clean {fs : List Fn} {f : Fn} {at_ : Int} {sl : List Int} {i : Ins} (hV : Valid fs f) (h : Along f at_ sl) (hi : f.code[at_.toNat]? = some i) : cleanV i sl = true := by
  have hG := good_of hV.shape hV.code
  have hf := (code_parts hV.code).1 _ _ hi
  have hm := slot_ok hV.slot _ _ hi
  obtain ⟨w1, w2, w3⟩ := fits_ways hf
  have hk := fits_kind hf
  have hlt : at_.toNat < f.code.length := by have := h.a0; have := h.a1; omega
  have hat : ((at_.toNat : Nat) : Int) = at_ := Int.toNat_of_nonneg h.a0
  unfold cleanV
  split
  · rename_i h5
    rw [h5] at w1
    have w1' : belowV i.a f.slots = true := w1
    obtain ⟨b0, b1⟩ := (belowV_iff _ _).1 w1'
    simp only [misuseV, h5, if_true] at hm
    rw [row_get _ i.a.toNat (by omega), sum_has2 (search_bare hG _ _) _ hlt, hat] at hm
    have hmet := h.met i.a.toNat (by omega)
    simp only [decide_eq_true_eq]
    intro e
    rw [e] at hmet
    have : bitV 1 = 2 := rfl
    rw [this] at hmet
    rw [hmet] at hm
    simp at hm
  · split
    · rename_i h7
      rw [h7] at w2
      have w2' : belowV i.b f.slots = true := w2
      obtain ⟨b0, b1⟩ := (belowV_iff _ _).1 w2'
      simp only [misuseV, h7, if_true] at hm
      rw [row_get _ i.b.toNat (by omega), sum_less (search_bare hG _ _) _ hlt, hat] at hm
      have hmet := h.met i.b.toNat (by omega)
      simp only [decide_eq_true_eq]
      have hx : sl.getD i.b.toNat 0 = 0 ∨ sl.getD i.b.toNat 0 = 1 ∨ sl.getD i.b.toNat 0 = 2 := by
        rw [List.getD_eq_getElem?_getD]
        cases hq : sl[i.b.toNat]? with
        | none => simp
        | some x => exact h.is3 x (List.mem_of_getElem? hq)
      rcases hx with hx | hx | hx
      · rw [hx] at hmet
        have : bitV 0 = 1 := rfl
        rw [this] at hmet
        rw [hmet] at hm
        simp at hm
      · rw [hx] at hmet
        have : bitV 1 = 2 := rfl
        rw [this] at hmet
        rw [hmet] at hm
        simp at hm
      · exact hx
    · split
      · rename_i h9
        simp only [misuseV, h9] at hm
        simp at hm
        rw [List.all_eq_true]
        intro x hx
        simp only [decide_eq_true_eq]
        rintro rfl
        obtain ⟨s, hs, e⟩ := List.mem_iff_getElem.1 hx
        have e2 : sl.getD s 0 = 1 := by rw [List.getD_eq_getElem?_getD, List.getElem?_eq_getElem hs, e]; rfl
        by_cases hsl : (s : Int) < f.slots
        · have hmet := h.met s hsl
          rw [e2] at hmet
          have : bitV 1 = 2 := rfl
          rw [this] at hmet
          have hr := hm _ (List.mem_of_getElem? (row_at at_.toNat s hsl))
          rw [sum_has2 (search_bare hG _ _) _ hlt, hat, hmet] at hr
          cases hr
        · have := h.off s (by omega)
          omega
      · rfl
/-- A step that does not end the walk. -/
theorem along_step {fs : List Fn} {f : Fn} {at_ : Int} {sl : List Int} {i : Ins} (hV : Valid fs f) (h : Along f at_ sl) (hi : f.code[at_.toNat]? = some i) (turn : Bool) (h9 : i.kind ≠ 9) : Along f (stepAt i at_ turn) (stepSl i sl) := by
  have hG := good_of hV.shape hV.code
  have hf := (code_parts hV.code).1 _ _ hi
  obtain ⟨w1, w2, w3⟩ := fits_ways hf
  have hk := fits_kind hf
  have hat : ((at_.toNat : Nat) : Int) = at_ := Int.toNat_of_nonneg h.a0
  have hmem : stepAt i at_ turn ∈ exitsV at_ i := by
    unfold stepAt exitsV
    rcases kinds hk.1 hk.2 with e | e | e | e | e | e | e | e | e | e
    all_goals first
      | exact absurd e h9
      | (cases turn <;> (rw [e]; simp [fN, fA, fB]); done)
      | skip
  have hw := hG.ways _ _ hi _ (by rw [hat]; exact hmem)
  have hsh : 0 ≤ f.slots ∧ f.slots ≤ 8 := by
    have := hV.shape
    simp only [shapeV, Bool.and_eq_true, decide_eq_true_eq] at this
    omega
  refine ⟨?_, hw.1, hw.2, fun s hs => ?_, fun s hs => ?_, fun x hx => ?_⟩
  · unfold stepSl
    split
    · simp [h.len]
    · split
      · simp [syncV, h.len]
      · exact h.len
  · have hc := (search_closed hG s).1 (at_, bitV (sl.getD s 0)) i ⟨h.a0, h.a1, bit_st _⟩ (h.met s hs) (by simp) hi _ hmem
    have e : afterV i s (bitV (sl.getD s 0)) = bitV ((stepSl i sl).getD s 0) := by
      have hslen : s < sl.length := by rw [h.len]; omega
      unfold afterV stepSl
      by_cases h5 : i.kind = 5
      · rw [if_pos h5]
        rw [h5] at w1
        have w1' : belowV i.a f.slots = true := w1
        obtain ⟨b0, b1⟩ := (belowV_iff _ _).1 w1'
        by_cases ha : i.a = s
        · rw [if_pos ⟨h5, ha⟩, ha]
          simp [hslen, bitV]
        · rw [if_neg (fun q => ha q.2), if_neg (by omega)]
          have : (sl.set i.a.toNat 1).getD s 0 = sl.getD s 0 := by rw [List.getD_eq_getElem?_getD, List.getElem?_set_ne (by omega), ← List.getD_eq_getElem?_getD]
          rw [this]
      · rw [if_neg h5, if_neg (fun q => h5 q.1)]
        by_cases h6 : i.kind = 6
        · rw [if_pos h6]
          have e1 : (syncV sl).getD s 0 = (if sl.getD s 0 = 1 then 2 else sl.getD s 0) := by
            unfold syncV
            simp [List.getD_eq_getElem?_getD, List.getElem?_eq_getElem hslen]
          rw [e1]
          have hx : sl.getD s 0 = 0 ∨ sl.getD s 0 = 1 ∨ sl.getD s 0 = 2 := by
            rw [List.getD_eq_getElem?_getD, List.getElem?_eq_getElem hslen]
            exact h.is3 _ (List.getElem_mem _)
          rcases hx with hx | hx | hx <;> rw [hx] <;> simp [h6, bitV]
        · rw [if_neg h6, if_neg (fun q => h6 q.1)]
    rw [← e]
    exact hc
  · unfold stepSl
    split
    · rename_i h5
      rw [h5] at w1
      have w1' : belowV i.a f.slots = true := w1
      obtain ⟨b0, b1⟩ := (belowV_iff _ _).1 w1'
      rw [List.getD_eq_getElem?_getD, List.getElem?_set_ne (by omega), ← List.getD_eq_getElem?_getD]
      exact h.off s hs
    · split
      · have := h.off s hs
        unfold syncV
        rw [List.getD_eq_getElem?_getD] at this ⊢
        rw [List.getElem?_map]
        cases hq : sl[s]? with
        | none => rfl
        | some x => rw [hq] at this; simp at this; simp [this]
      · exact h.off s hs
  · unfold stepSl at hx
    split at hx
    · rcases List.mem_or_eq_of_mem_set hx with hx | rfl
      · exact h.is3 x hx
      · simp
    · split at hx
      · unfold syncV at hx
        obtain ⟨y, hy, rfl⟩ := List.mem_map.1 hx
        have := h.is3 y hy
        split <;> omega
      · exact h.is3 x hx
end Go.Proofs.YtokfbagacehbgaaDoor
