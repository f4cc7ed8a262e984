import Derived.Test.YtoehkjfdaolcnaaDoorPkAB
import Derived.WalkKit
import Derived.Laws.Entries
import Derived.Test.YtoehkjfdaolcnaaDoorPkAA
import Derived.WalkSmall
/-! Verified code does not go wrong, plainly. -/
namespace Go.Proofs.YtoehkjfdaolcnaaDoor
set_option linter.unusedVariables false
set_option maxRecDepth 20000

/-- No point has the state 0 or 3. -/
def Bare (n : Nat) (fr : List Pt) : Prop := ∀ a s, a < n → (s = 0 ∨ s = 3) → (fr.getD (a * 5 + s) (0, 0)).2 = 0
theorem Bare.set {n : Nat} {fr : List Pt} {p here : Pt} (h : Bare n fr) (hp : PtOk n p) : Bare n (fr.set (ptIx p) here) := by
  intro a s ha hs
  have : ptIx p ≠ a * 5 + s := by
    obtain ⟨h1, h2, h3⟩ := hp
    unfold ptIx
    omega
  rw [List.getD_eq_getElem?_getD, List.getElem?_set_ne this, ← List.getD_eq_getElem?_getD]
  exact h a s ha hs
theorem visit_bare (n : Nat) (goal here : Pt) (st : Int) (hst : st = 1 ∨ st = 2 ∨ st = 4) : ∀ (L : List Int) (fr op : List Pt), (∀ a ∈ L, 0 ≤ a ∧ a < n) → Bare n fr → Bare n (visit goal here st L fr op).1
  | [], fr, op, _, h => h
  | a :: r, fr, op, hL, h => by
    have ha := hL a (List.mem_cons_self ..)
    have hp : PtOk n (a, st) := ⟨ha.1, ha.2, hst⟩
    have hr : ∀ b ∈ r, 0 ≤ b ∧ b < n := fun b hb => hL b (List.mem_cons_of_mem _ hb)
    unfold visit
    split
    · exact visit_bare n goal here st hst r fr op hr h
    · split
      · exact h.set hp
      · exact visit_bare n goal here st hst r _ _ hr (h.set hp)
theorem run_bare (f : Fn) (slot : Int) (goal : Pt) (hG : Good f) : ∀ (k : Nat) (fr op : List Pt), Seeks f.code.length fr op → Bare f.code.length fr → Bare f.code.length (runS f slot goal k fr op)
  | 0, fr, op, hS, h => h
  | k + 1, fr, [], hS, h => h
  | k + 1, fr, p :: t, hS, hB => by
    have hok := hS.op p (List.mem_cons_self ..)
    obtain ⟨i, hi⟩ : ∃ i, f.code[p.1.toNat]? = some i := ⟨f.code[p.1.toNat]'(by have := hok.a0; have := hok.a1; omega), by simp⟩
    have hst := after_st i slot p.2 hok.st
    have h0 : p.2 ≠ 0 := by have := hok.st; omega
    have hw : ∀ a ∈ exitsV p.1 i, 0 ≤ a ∧ a < f.code.length := fun a ha => hG.ways p.1.toNat i hi a (by rw [Int.toNat_of_nonneg hok.a0]; exact ha)
    have hS' : Seeks f.code.length fr t := ⟨hS.len, fun q hq => hS.op q (List.mem_cons_of_mem _ hq)⟩
    have v1 := visit_ok f.code.length goal p _ hst h0 (exitsV p.1 i) fr t hw hS'
    have v2 := visit_bare f.code.length goal p _ hst (exitsV p.1 i) fr t hw hB
    unfold runS
    rw [hi]
    simp only
    generalize visit goal p (afterV i slot p.2) (exitsV p.1 i) fr t = V at v1 v2
    obtain ⟨fr', op', b⟩ := V
    cases b
    · exact run_bare f slot goal hG k fr' op' v1.1 v2
    · exact v2
theorem fr0_bare (n : Nat) (hn : 1 ≤ n) : Bare n (fr0 n) := by
  unfold fr0
  refine Bare.set (p := (0, 1)) ?_ ⟨by simp, by simp; omega, .inl rfl⟩
  intro a s ha hs
  rw [List.getD_eq_getElem?_getD, List.getElem?_replicate]
  split <;> simp
theorem search_bare {f : Fn} (hG : Good f) (slot : Int) (goal : Pt) : Bare f.code.length (searchV f slot goal) := by
  have n1 := hG.n1
  exact run_bare f slot goal hG _ _ _ ⟨fr0_len _, fun p hp => by simp at hp; subst hp; exact ⟨by simp, by simp; omega, .inl rfl⟩⟩ (fr0_bare _ n1)
theorem sum_at {n : Nat} {fr : List Pt} (h : Bare n fr) (a : Nat) (ha : a < n) : sumAt fr a = (if metV fr (a, 1) then 1 else 0) + (if metV fr (a, 2) then 2 else 0) + (if metV fr (a, 4) then 4 else 0) := by
  have h0 := h a 0 ha (.inl rfl)
  have h3 := h a 3 ha (.inr rfl)
  unfold sumAt
  rw [show List.range 5 = [0, 1, 2, 3, 4] from rfl]
  simp only [List.foldl_cons, List.foldl_nil]
  rw [h0, h3]
  have e1 : metV fr (a, 1) = decide ((fr.getD (a * 5 + 1) (0, 0)).2 ≠ 0) := by simp [metV, ptIx]
  have e2 : metV fr (a, 2) = decide ((fr.getD (a * 5 + 2) (0, 0)).2 ≠ 0) := by simp [metV, ptIx]
  have e4 : metV fr (a, 4) = decide ((fr.getD (a * 5 + 4) (0, 0)).2 ≠ 0) := by simp [metV, ptIx]
  rw [e1, e2, e4]
  generalize (fr.getD (a * 5 + 1) (0, 0)).2 = x
  generalize (fr.getD (a * 5 + 2) (0, 0)).2 = y
  generalize (fr.getD (a * 5 + 4) (0, 0)).2 = z
  by_cases hx : x = 0 <;> by_cases hy : y = 0 <;> by_cases hz : z = 0 <;> simp [hx, hy, hz]
theorem sum_has2 {n : Nat} {fr : List Pt} (h : Bare n fr) (a : Nat) (ha : a < n) : has2 (sumAt fr a) = metV fr (a, 2) := by
  rw [sum_at h a ha]
  cases metV fr (a, 1) <;> cases metV fr (a, 2) <;> cases metV fr (a, 4) <;> rfl
theorem sum_less {n : Nat} {fr : List Pt} (h : Bare n fr) (a : Nat) (ha : a < n) : hasLess (sumAt fr a) = (metV fr (a, 1) || metV fr (a, 2)) := by
  rw [sum_at h a ha]
  cases metV fr (a, 1) <;> cases metV fr (a, 2) <;> cases metV fr (a, 4) <;> rfl

/-- What a walk knows: where it is, what its slots are (0 empty, 1 pending, 2 full). -/
def bitV (s : Int) : Int := if s = 0 then 1 else if s = 1 then 2 else 4
structure Along (f : Fn) (at_ : Int) (sl : List Int) : Prop where
  len : sl.length = 8
  a0 : 0 ≤ at_
  a1 : at_ < f.code.length
  met : ∀ s : Nat, (s : Int) < f.slots → metV (searchV f s (0, 0)) (at_, bitV (sl.getD s 0)) = true
  off : ∀ s : Nat, f.slots ≤ s → sl.getD s 0 = 0
  is3 : ∀ x ∈ sl, x = 0 ∨ x = 1 ∨ x = 2
structure Valid (fs : List Fn) (f : Fn) : Prop where
  shape : shapeV f = true
  code : codeFault false fs f = none
  slot : slotFault f = none
theorem check_valid {fs : List Fn} (h : checkV fs = (0, 0, 0)) : 1 ≤ fs.length ∧ fs.length ≤ 32 ∧ ∀ f ∈ fs, Valid fs f := by
  unfold checkV at h
  split at h
  · simp at h
  · rename_i hl
    split at h
    · simp at h
    · rename_i h1
      split at h
      · rename_i r hr
        obtain ⟨k, x, _, _, hg, _⟩ := firstAt_was _ _ _ _ hr
        unfold codeFault at hg
        split at hg
        · have := (Option.some.inj hg)
          rw [← this] at h
          simp at h
        · split at hg
          · have := (Option.some.inj hg)
            rw [← this] at h
            simp at h
          · cases hg
      · rename_i h2
        split at h
        · rename_i r hr
          obtain ⟨k, x, _, _, hg, _⟩ := firstAt_was _ _ _ _ hr
          unfold slotFault at hg
          simp only [Option.map_eq_some_iff] at hg
          obtain ⟨q, hq, e⟩ := hg
          obtain ⟨k2, y, _, _, hg2, _⟩ := firstAt_was _ _ _ _ hq
          split at hg2
          · cases hg2
          · rename_i hne
            have := Option.some.inj hg2
            rw [← e] at h
            simp at h
            rw [← this] at h
            exact absurd h.1 hne
        · rename_i h3
          refine ⟨by omega, by omega, fun f hf => ?_⟩
          obtain ⟨k, hk, rfl⟩ := List.mem_iff_getElem.1 hf
          have e : fs[k]? = some fs[k] := by simp
          refine ⟨?_, firstAt_all _ _ _ h2 k _ e, firstAt_all _ _ _ h3 k _ e⟩
          have := firstAt_all _ _ _ h1 k _ e
          by_cases hv : shapeV fs[k] = true
          · exact hv
          · simp [hv] at this
theorem slot_ok {f : Fn} (h : slotFault f = none) (k : Nat) (i : Ins) (hi : f.code[k]? = some i) : misuseV i (rowV f k) = 0 := by
  unfold slotFault at h
  simp only [Option.map_eq_none_iff] at h
  have := firstAt_all _ _ _ h k i hi
  simp only [Nat.zero_add] at this
  by_cases hv : misuseV i (rowV f k) = 0
  · exact hv
  · simp [hv] at this
theorem row_at {f : Fn} (k s : Nat) (hs : (s : Int) < f.slots) : (rowV f k)[s]? = some (sumAt (searchV f s (0, 0)) k) := by
  unfold rowV
  rw [List.getElem?_map, List.getElem?_range (by omega)]
  rfl
theorem row_get {f : Fn} (k s : Nat) (hs : (s : Int) < f.slots) : (rowV f k).getD s 0 = sumAt (searchV f s (0, 0)) k := by
  rw [List.getD_eq_getElem?_getD, row_at k s hs]; rfl

/-- The statement's 'clean'. -/
def cleanV (i : Ins) (sl : List Int) : Bool :=
  if i.kind = 5 then decide (sl.getD i.a.toNat 0 ≠ 1) else if i.kind = 7 then decide (sl.getD i.b.toNat 0 = 2) else if i.kind = 9 then sl.all (fun x => decide (x ≠ 1)) else true
/-- The statement's 'steps'. -/
def syncV (sl : List Int) : List Int := sl.map (fun x => if x = 1 then 2 else x)
def stepSl (i : Ins) (sl : List Int) : List Int := if i.kind = 5 then sl.set i.a.toNat 1 else if i.kind = 6 then syncV sl else sl
def stepAt (i : Ins) (at_ : Int) (turn : Bool) : Int := if i.kind = 3 then i.a else if i.kind = 4 ∧ turn then i.b else at_ + 1

theorem along_start {f : Fn} (hG : Good f) (h0 : 0 ≤ f.slots) : Along f 0 (List.replicate 8 0) := by
  have := hG.n1
  refine ⟨by simp, by omega, by omega, fun s hs => ?_, fun s hs => ?_, fun x hx => ?_⟩
  · have e : (List.replicate 8 (0 : Int)).getD s 0 = 0 := by
      rw [List.getD_eq_getElem?_getD, List.getElem?_replicate]; split <;> rfl
    rw [e]
    exact (search_closed hG s).2.1
  · rw [List.getD_eq_getElem?_getD, List.getElem?_replicate]; split <;> rfl
  · left; exact List.eq_of_mem_replicate hx
theorem kinds {i : Ins} (h0 : 0 ≤ i.kind) (h1 : i.kind < 10) : i.kind = 0 ∨ i.kind = 1 ∨ i.kind = 2 ∨ i.kind = 3 ∨ i.kind = 4 ∨ i.kind = 5 ∨ i.kind = 6 ∨ i.kind = 7 ∨ i.kind = 8 ∨ i.kind = 9 := by omega
theorem bit_st (x : Int) : bitV x = 1 ∨ bitV x = 2 ∨ bitV x = 4 := by
  unfold bitV; split; · simp
  split <;> simp
theorem along_clean {fs : List Fn} {f : Fn} {at_ : Int} {sl : List Int} {i : Ins} (hV : Valid fs f) (h : Along f at_ sl) (hi : f.code[at_.toNat]? = some i) : cleanV i sl = true := by
  have hG := good_of hV.shape hV.code
  have hf := (code_parts hV.code).1 _ _ hi
  have hm := slot_ok hV.slot _ _ hi
  obtain ⟨w1, w2, w3⟩ := fits_ways hf
  have hk := fits_kind hf
  have hlt : at_.toNat < f.code.length := by have := h.a0; have := h.a1; omega
  have hat : ((at_.toNat : Nat) : Int) = at_ := Int.toNat_of_nonneg h.a0
  unfold cleanV
  split
  · rename_i h5
    rw [h5] at w1
    have w1' : belowV i.a f.slots = true := w1
    obtain ⟨b0, b1⟩ := (belowV_iff _ _).1 w1'
    simp only [misuseV, h5, if_true] at hm
    rw [row_get _ i.a.toNat (by omega), sum_has2 (search_bare hG _ _) _ hlt, hat] at hm
    have hmet := h.met i.a.toNat (by omega)
    simp only [decide_eq_true_eq]
    intro e
    rw [e] at hmet
    have : bitV 1 = 2 := rfl
    rw [this] at hmet
    rw [hmet] at hm
    simp at hm
  · split
    · rename_i h7
      rw [h7] at w2
      have w2' : belowV i.b f.slots = true := w2
      obtain ⟨b0, b1⟩ := (belowV_iff _ _).1 w2'
      simp only [misuseV, h7, if_true] at hm
      rw [row_get _ i.b.toNat (by omega), sum_less (search_bare hG _ _) _ hlt, hat] at hm
      have hmet := h.met i.b.toNat (by omega)
      simp only [decide_eq_true_eq]
      have hx : sl.getD i.b.toNat 0 = 0 ∨ sl.getD i.b.toNat 0 = 1 ∨ sl.getD i.b.toNat 0 = 2 := by
        rw [List.getD_eq_getElem?_getD]
        cases hq : sl[i.b.toNat]? with
        | none => simp
        | some x => exact h.is3 x (List.mem_of_getElem? hq)
      rcases hx with hx | hx | hx
      · rw [hx] at hmet
        have : bitV 0 = 1 := rfl
        rw [this] at hmet
        rw [hmet] at hm
        simp at hm
      · rw [hx] at hmet
        have : bitV 1 = 2 := rfl
        rw [this] at hmet
        rw [hmet] at hm
        simp at hm
      · exact hx
    · split
      · rename_i h9
        simp only [misuseV, h9] at hm
        simp at hm
        rw [List.all_eq_true]
        intro x hx
        simp only [decide_eq_true_eq]
        rintro rfl
        obtain ⟨s, hs, e⟩ := List.mem_iff_getElem.1 hx
        have e2 : sl.getD s 0 = 1 := by rw [List.getD_eq_getElem?_getD, List.getElem?_eq_getElem hs, e]; rfl
        by_cases hsl : (s : Int) < f.slots
        · have hmet := h.met s hsl
          rw [e2] at hmet
          have : bitV 1 = 2 := rfl
          rw [this] at hmet
          have hr := hm _ (List.mem_of_getElem? (row_at at_.toNat s hsl))
          rw [sum_has2 (search_bare hG _ _) _ hlt, hat, hmet] at hr
          cases hr
        · have := h.off s (by omega)
          omega
      · rfl
/-- A step that does not end the walk. -/
theorem along_step {fs : List Fn} {f : Fn} {at_ : Int} {sl : List Int} {i : Ins} (hV : Valid fs f) (h : Along f at_ sl) (hi : f.code[at_.toNat]? = some i) (turn : Bool) (h9 : i.kind ≠ 9) : Along f (stepAt i at_ turn) (stepSl i sl) := by
  have hG := good_of hV.shape hV.code
  have hf := (code_parts hV.code).1 _ _ hi
  obtain ⟨w1, w2, w3⟩ := fits_ways hf
  have hk := fits_kind hf
  have hat : ((at_.toNat : Nat) : Int) = at_ := Int.toNat_of_nonneg h.a0
  have hmem : stepAt i at_ turn ∈ exitsV at_ i := by
    unfold stepAt exitsV
    rcases kinds hk.1 hk.2 with e | e | e | e | e | e | e | e | e | e
    all_goals first
      | exact absurd e h9
      | (cases turn <;> (rw [e]; simp [fN, fA, fB]); done)
      | skip
  have hw := hG.ways _ _ hi _ (by rw [hat]; exact hmem)
  have hsh : 0 ≤ f.slots ∧ f.slots ≤ 8 := by
    have := hV.shape
    simp only [shapeV, Bool.and_eq_true, decide_eq_true_eq] at this
    omega
  refine ⟨?_, hw.1, hw.2, fun s hs => ?_, fun s hs => ?_, fun x hx => ?_⟩
  · unfold stepSl
    split
    · simp [h.len]
    · split
      · simp [syncV, h.len]
      · exact h.len
  · have hc := (search_closed hG s).1 (at_, bitV (sl.getD s 0)) i ⟨h.a0, h.a1, bit_st _⟩ (h.met s hs) (by simp) hi _ hmem
    have e : afterV i s (bitV (sl.getD s 0)) = bitV ((stepSl i sl).getD s 0) := by
      have hslen : s < sl.length := by rw [h.len]; omega
      unfold afterV stepSl
      by_cases h5 : i.kind = 5
      · rw [if_pos h5]
        rw [h5] at w1
        have w1' : belowV i.a f.slots = true := w1
        obtain ⟨b0, b1⟩ := (belowV_iff _ _).1 w1'
        by_cases ha : i.a = s
        · rw [if_pos ⟨h5, ha⟩, ha]
          simp [hslen, bitV]
        · rw [if_neg (fun q => ha q.2), if_neg (by omega)]
          have : (sl.set i.a.toNat 1).getD s 0 = sl.getD s 0 := by rw [List.getD_eq_getElem?_getD, List.getElem?_set_ne (by omega), ← List.getD_eq_getElem?_getD]
          rw [this]
      · rw [if_neg h5, if_neg (fun q => h5 q.1)]
        by_cases h6 : i.kind = 6
        · rw [if_pos h6]
          have e1 : (syncV sl).getD s 0 = (if sl.getD s 0 = 1 then 2 else sl.getD s 0) := by
            unfold syncV
            simp [List.getD_eq_getElem?_getD, List.getElem?_eq_getElem hslen]
          rw [e1]
          have hx : sl.getD s 0 = 0 ∨ sl.getD s 0 = 1 ∨ sl.getD s 0 = 2 := by
            rw [List.getD_eq_getElem?_getD, List.getElem?_eq_getElem hslen]
            exact h.is3 _ (List.getElem_mem _)
          rcases hx with hx | hx | hx <;> rw [hx] <;> simp [h6, bitV]
        · rw [if_neg h6, if_neg (fun q => h6 q.1)]
    rw [← e]
    exact hc
  · unfold stepSl
    split
    · rename_i h5
      rw [h5] at w1
      have w1' : belowV i.a f.slots = true := w1
      obtain ⟨b0, b1⟩ := (belowV_iff _ _).1 w1'
      rw [List.getD_eq_getElem?_getD, List.getElem?_set_ne (by omega), ← List.getD_eq_getElem?_getD]
      exact h.off s hs
    · split
      · have := h.off s hs
        unfold syncV
        rw [List.getD_eq_getElem?_getD] at this ⊢
        rw [List.getElem?_map]
        cases hq : sl[s]? with
        | none => rfl
        | some x => rw [hq] at this; simp at this; simp [this]
      · exact h.off s hs
  · unfold stepSl at hx
    split at hx
    · rcases List.mem_or_eq_of_mem_set hx with hx | rfl
      · exact h.is3 x hx
      · simp
    · split at hx
      · unfold syncV at hx
        obtain ⟨y, hy, rfl⟩ := List.mem_map.1 hx
        have := h.is3 y hy
        split <;> omega
      · exact h.is3 x hx
end Go.Proofs.YtoehkjfdaolcnaaDoor
/-! Sets of registers as numbers of sixteen bits. -/
namespace Go.Proofs.YtoehkjfdaolcnaaDoor
set_option linter.unusedVariables false
set_option maxRecDepth 20000

structure Bs (X : Nat) (S : Nat → Bool) : Prop where
  lt : X < 65536
  bit : ∀ r, r < 16 → X.testBit r = S r
def onlyS (r : Nat) (k : Nat) : Bool := decide (k = r)
def orS (S T : Nat → Bool) (k : Nat) : Bool := S k || T k
def andS (S T : Nat → Bool) (k : Nat) : Bool := S k && T k
def notS (S T : Nat → Bool) (k : Nat) : Bool := S k && !T k
theorem u16_nat {X : Nat} (h : X < 65536) : (BitVec.ofInt 16 (X : Int)).toNat = X := by
  rw [BitVec.ofInt_natCast, BitVec.toNat_ofNat]
  exact Nat.mod_eq_of_lt (by omega)
theorem u16_wrap {X : Nat} (h : X < 65536) : IntKind.u16.wrap (X : Int) = (X : Int) := by
  simp [IntKind.wrap, IntKind.bits, IntKind.signed]
  omega
theorem bs_or {X Y : Nat} {S T : Nat → Bool} (h : Bs X S) (h' : Bs Y T) : ∃ Z : Nat, bits .or .u16 (X : Int) (Y : Int) = (Z : Int) ∧ Bs Z (orS S T) := by
  have hx : X ||| Y < 2 ^ 16 := Nat.or_lt_two_pow (by have := h.lt; omega) (by have := h'.lt; omega)
  refine ⟨X ||| Y, ?_, by omega, fun r hr => ?_⟩
  · show IntKind.u16.wrap ((BitVec.ofInt 16 (X : Int) ||| BitVec.ofInt 16 (Y : Int)).toNat : Int) = _
    rw [BitVec.toNat_or, u16_nat h.lt, u16_nat h'.lt]
    exact u16_wrap (by omega)
  · rw [Nat.testBit_or, h.bit r hr, h'.bit r hr]; rfl
theorem bs_and {X Y : Nat} {S T : Nat → Bool} (h : Bs X S) (h' : Bs Y T) : ∃ Z : Nat, bits .and .u16 (X : Int) (Y : Int) = (Z : Int) ∧ Bs Z (andS S T) := by
  have hx : X &&& Y < 2 ^ 16 := Nat.and_lt_two_pow _ (by have := h'.lt; omega)
  refine ⟨X &&& Y, ?_, by omega, fun r hr => ?_⟩
  · show IntKind.u16.wrap ((BitVec.ofInt 16 (X : Int) &&& BitVec.ofInt 16 (Y : Int)).toNat : Int) = _
    rw [BitVec.toNat_and, u16_nat h.lt, u16_nat h'.lt]
    exact u16_wrap (by omega)
  · rw [Nat.testBit_and, h.bit r hr, h'.bit r hr]; rfl
theorem bs_not {X Y : Nat} {S T : Nat → Bool} (h : Bs X S) (h' : Bs Y T) : ∃ Z : Nat, bits .andNot .u16 (X : Int) (Y : Int) = (Z : Int) ∧ Bs Z (notS S T) := by
  have hx := (BitVec.ofInt 16 (X : Int) &&& ~~~BitVec.ofInt 16 (Y : Int)).isLt
  refine ⟨(BitVec.ofInt 16 (X : Int) &&& ~~~BitVec.ofInt 16 (Y : Int)).toNat, ?_, by omega, fun r hr => ?_⟩
  · show IntKind.u16.wrap ((BitVec.ofInt 16 (X : Int) &&& ~~~BitVec.ofInt 16 (Y : Int)).toNat : Int) = _
    exact u16_wrap (by omega)
  · rw [BitVec.testBit_toNat, BitVec.getLsbD_and, BitVec.getLsbD_not, ← BitVec.testBit_toNat, ← BitVec.testBit_toNat, u16_nat h.lt, u16_nat h'.lt, h.bit r hr, h'.bit r hr]
    simp [hr, notS]
theorem bs_zero {X : Nat} {S : Nat → Bool} (h : Bs X S) : X = 0 ↔ ∀ r, r < 16 → S r = false := by
  constructor
  · rintro rfl r hr
    rw [← h.bit r hr]
    exact Nat.zero_testBit r
  · intro h1
    refine Nat.eq_of_testBit_eq fun r => ?_
    rw [Nat.zero_testBit]
    by_cases hr : r < 16
    · rw [h.bit r hr, h1 r hr]
    · exact Nat.testBit_lt_two_pow (Nat.lt_of_lt_of_le h.lt (show 2 ^ 16 ≤ 2 ^ r from Nat.pow_le_pow_right (by decide) (by omega)))
theorem bs_only {r : Nat} (hr : r < 16) : ∃ Z : Nat, IntKind.u16.wrap (1 * 2 ^ r : Int) = (Z : Int) ∧ Bs Z (onlyS r) := by
  have hx : 2 ^ r < 2 ^ 16 := Nat.pow_lt_pow_right (by decide) hr
  refine ⟨2 ^ r, ?_, by omega, fun k hk => ?_⟩
  · have e : (1 * 2 ^ r : Int) = ((2 ^ r : Nat) : Int) := by simp
    rw [e]
    exact u16_wrap (by omega)
  · rw [Nat.testBit_two_pow]
    unfold onlyS
    by_cases e : r = k
    · subst e; simp
    · simp [e, Ne.symm e]
theorem bs_eq {X Y : Nat} {S : Nat → Bool} (h : Bs X S) (h' : Bs Y S) : X = Y := by
  refine Nat.eq_of_testBit_eq fun r => ?_
  by_cases hr : r < 16
  · rw [h.bit r hr, h'.bit r hr]
  · have hp : 2 ^ 16 ≤ 2 ^ r := Nat.pow_le_pow_right (by decide) (by omega)
    rw [Nat.testBit_lt_two_pow (Nat.lt_of_lt_of_le h.lt hp), Nat.testBit_lt_two_pow (Nat.lt_of_lt_of_le h'.lt hp)]
theorem bs_none : Bs 0 (fun _ => false) := ⟨by decide, fun r _ => Nat.zero_testBit r⟩
theorem Bs.congr {X : Nat} {S T : Nat → Bool} (h : Bs X S) (e : ∀ r, r < 16 → S r = T r) : Bs X T := ⟨h.lt, fun r hr => (h.bit r hr).trans (e r hr)⟩
end Go.Proofs.YtoehkjfdaolcnaaDoor
/-! Which registers are live, which places are reached, which instructions are loose: plainly. -/
namespace Go.Proofs.YtoehkjfdaolcnaaDoor
set_option linter.unusedVariables false
set_option maxRecDepth 20000
set_option linter.unusedSimpArgs false

def rdV (fs : List Fn) (i : Ins) (r : Int) : Bool := if i.kind = 1 then decide (i.b = r) else if i.kind = 2 then decide (i.b = r ∨ i.c = r) else if i.kind = 4 ∨ i.kind = 9 then decide (i.a = r) else if i.kind = 5 then decide (i.c ≤ r ∧ r < i.c + parV fs i.b) else false
def wrV (i : Ins) : Int := if i.kind = 0 ∨ i.kind = 1 ∨ i.kind = 2 ∨ i.kind = 7 ∨ i.kind = 8 then i.a else -1
/-- From a place on the register is read ahead of every write. -/
inductive Lv (fs : List Fn) (code : List Ins) (r : Nat) : Nat → Prop
  | here {k : Nat} {i : Ins} : code[k]? = some i → rdV fs i r = true → Lv fs code r k
  | more {k k' : Nat} {i : Ins} : code[k]? = some i → wrV i ≠ (r : Int) → (k' : Int) ∈ exitsV k i → Lv fs code r k' → Lv fs code r k
/-- Live behind a place. -/
def Bh (fs : List Fn) (code : List Ins) (r k : Nat) : Prop := ∃ (i : Ins) (k' : Nat), code[k]? = some i ∧ (k' : Int) ∈ exitsV k i ∧ Lv fs code r k'
/-- Reached. -/
inductive Rc (code : List Ins) : Nat → Prop
  | zero : Rc code 0
  | more {k k' : Nat} {i : Ins} : Rc code k → code[k]? = some i → (k' : Int) ∈ exitsV k i → Rc code k'
/-! ### The program's search backwards -/
/-- What is live ahead of a place, by what is live behind it. -/
def ahd (fs : List Fn) (i : Ins) (S : Nat → Bool) (r : Nat) : Bool := rdV fs i r || (S r && !decide (wrV i = (r : Int)))
structure LvIn (fs : List Fn) (code : List Ins) (B : Nat → Nat → Bool) (op : List Nat) : Prop where
  sound : ∀ e r, e < code.length → r < 16 → B e r = true → Bh fs code r e
  closed : ∀ (k e : Nat) (i j : Ins), code[k]? = some i → code[e]? = some j → (k : Int) ∈ exitsV e j → k ∉ op → ∀ r, r < 16 → ahd fs i (B k) r = true → B e r = true
theorem ahd_lv {fs : List Fn} {code : List Ins} {B : Nat → Nat → Bool} {op : List Nat} (h : LvIn fs code B op) {k : Nat} {i : Ins} (hi : code[k]? = some i) {r : Nat} (hr : r < 16) (ha : ahd fs i (B k) r = true) : Lv fs code r k := by
  unfold ahd at ha
  rw [Bool.or_eq_true, Bool.and_eq_true] at ha
  rcases ha with ha | ⟨h1, h2⟩
  · exact .here hi ha
  · obtain ⟨i', k', hi', hk', hl⟩ := h.sound k r (List.getElem?_eq_some_iff.1 hi).1 hr h1
    rw [hi] at hi'
    injection hi' with hi'
    subst hi'
    exact .more hi (by simpa using h2) hk' hl
theorem LvIn.full {fs : List Fn} {code : List Ins} {B : Nat → Nat → Bool} (h : LvIn fs code B []) {r : Nat} (hr : r < 16) : ∀ {k : Nat}, Lv fs code r k → ∀ i, code[k]? = some i → ahd fs i (B k) r = true := by
  intro k hl
  induction hl with
  | @here k i hi hrd =>
    intro i' hi'
    rw [hi] at hi'
    injection hi' with hi'
    subst hi'
    unfold ahd
    rw [hrd]
    rfl
  | @more k k' i hi hw hk' hl ih =>
    intro i' hi'
    rw [hi] at hi'
    injection hi' with hi'
    subst hi'
    have hkl : ∃ i2, code[k']? = some i2 := by
      cases hl with
      | here h1 _ => exact ⟨_, h1⟩
      | more h1 _ _ _ => exact ⟨_, h1⟩
    obtain ⟨i2, hi2⟩ := hkl
    have := h.closed k' k i2 i hi2 hi hk' (by simp) r hr (ih i2 hi2)
    unfold ahd
    rw [this]
    simp [hw]
theorem LvIn.exact {fs : List Fn} {code : List Ins} {B : Nat → Nat → Bool} (h : LvIn fs code B []) {e r : Nat} (he : e < code.length) (hr : r < 16) : B e r = true ↔ Bh fs code r e := by
  refine ⟨h.sound e r he hr, fun ⟨i, k, hi, hk, hl⟩ => ?_⟩
  have hkl : ∃ i2, code[k]? = some i2 := by
    cases hl with
    | here h1 _ => exact ⟨_, h1⟩
    | more h1 _ _ _ => exact ⟨_, h1⟩
  obtain ⟨i2, hi2⟩ := hkl
  exact h.closed k e i2 i hi2 hi hk (by simp) r hr (h.full hr hl i2 hi2)
end Go.Proofs.YtoehkjfdaolcnaaDoor
/-! The search backwards, step by step; the searches forwards. -/
namespace Go.Proofs.YtoehkjfdaolcnaaDoor
set_option linter.unusedVariables false
set_option maxRecDepth 20000
set_option linter.unusedSimpArgs false

/-- Those that go on at a place. -/
def cmr (code : List Ins) (k : Nat) : Nat → List Int
  | 0 => []
  | n + 1 => cmr code k n ++ (match code[n]? with | some i => ((exitsV n i).filter (fun z => decide (z = (k : Int)))).map (fun _ => (n : Int)) | none => [])
theorem cmr_mem {code : List Ins} {k : Nat} : ∀ {n : Nat} {z : Int}, z ∈ cmr code k n ↔ ∃ (e : Nat) (j : Ins), z = e ∧ e < n ∧ code[e]? = some j ∧ (k : Int) ∈ exitsV e j
  | 0, z => by simp [cmr]
  | n + 1, z => by
    simp only [cmr, List.mem_append]
    rw [cmr_mem]
    constructor
    · rintro (⟨e, j, h1, h2, h3, h4⟩ | h)
      · exact ⟨e, j, h1, by omega, h3, h4⟩
      · cases hn : code[n]? with
        | none => rw [hn] at h; cases h
        | some i =>
          rw [hn] at h
          simp only [List.mem_map, List.mem_filter, decide_eq_true_iff] at h
          obtain ⟨y, ⟨h1, h2⟩, h3⟩ := h
          exact ⟨n, i, h3.symm, by omega, hn, by rw [← h2]; exact h1⟩
    · rintro ⟨e, j, h1, h2, h3, h4⟩
      by_cases en : e = n
      · subst en
        right
        rw [h3]
        simp only [List.mem_map, List.mem_filter, decide_eq_true_iff]
        exact ⟨_, ⟨h4, rfl⟩, h1.symm⟩
      · exact .inl ⟨e, j, h1, by omega, h3, h4⟩
section
variable {fs : List Fn} {code : List Ins} {k : Nat} {i : Ins} {A : Nat → Bool} {fr : List Int} {B B' : Nat → Nat → Bool} {op : List Nat}
/-- While those that come to a place are looked at. -/
structure LvMid (fs : List Fn) (code : List Ins) (k : Nat) (i : Ins) (A : Nat → Bool) (fr : List Int) (B : Nat → Nat → Bool) (op : List Nat) : Prop where
  sound : ∀ e r, e < code.length → r < 16 → B e r = true → Bh fs code r e
  closed : ∀ (k2 e : Nat) (i2 j : Ins), k2 ≠ k → code[k2]? = some i2 → code[e]? = some j → (k2 : Int) ∈ exitsV e j → k2 ∉ op → ∀ r, r < 16 → ahd fs i2 (B k2) r = true → B e r = true
  own : ∀ r, r < 16 → A r = true → Lv fs code r k
  done : ∀ (e : Nat), (e : Int) ∈ fr → ∀ r, r < 16 → A r = true → B e r = true
  same : k ∈ op ∨ ∀ r, r < 16 → ahd fs i (B k) r = A r
theorem LvMid.start (h : LvIn fs code B (op ++ [k])) (hi : code[k]? = some i) (hA : ∀ r, r < 16 → A r = ahd fs i (B k) r) : LvMid fs code k i A [] B op := by
  refine ⟨h.sound, fun k2 e i2 j h1 h2 h3 h4 h5 => h.closed k2 e i2 j h2 h3 h4 (by simp [h1, h5]), fun r hr ha => ahd_lv h hi hr (by rw [← hA r hr]; exact ha), fun e he => (by cases he), .inr fun r hr => (hA r hr).symm⟩
theorem LvMid.skip (h : LvMid fs code k i A fr B op) {e : Nat} (hs : ∀ r, r < 16 → A r = true → B e r = true) : LvMid fs code k i A (fr ++ [(e : Int)]) B op :=
  ⟨h.sound, h.closed, h.own, fun e' he' => by
    rcases List.mem_append.1 he' with h1 | h1
    · exact h.done e' h1
    · rw [List.mem_singleton] at h1
      have : e' = e := by omega
      subst this
      exact hs, h.same⟩
theorem LvMid.put (h : LvMid fs code k i A fr B op) {e : Nat} {j : Ins} (hj : code[e]? = some j) (hk : (k : Int) ∈ exitsV e j) (h1 : ∀ e2 r, e2 ≠ e → B' e2 r = B e2 r) (h2 : ∀ r, r < 16 → B' e r = (B e r || A r)) : LvMid fs code k i A (fr ++ [(e : Int)]) B' (op ++ [e]) := by
  have mono : ∀ e2 r, r < 16 → B e2 r = true → B' e2 r = true := fun e2 r hr hb => by
    by_cases e' : e2 = e
    · subst e'
      rw [h2 r hr, hb]
      rfl
    · rw [h1 e2 r e', hb]
  refine ⟨fun e2 r he2 hr hb => ?_, fun k2 e2 i2 j2 a1 a2 a3 a4 a5 r hr ha => ?_, h.own, fun e2 he2 r hr ha => ?_, ?_⟩
  · by_cases e' : e2 = e
    · subst e'
      rw [h2 r hr, Bool.or_eq_true] at hb
      rcases hb with hb | hb
      · exact h.sound e2 r he2 hr hb
      · exact ⟨j, k, hj, hk, h.own r hr hb⟩
    · rw [h1 e2 r e'] at hb
      exact h.sound e2 r he2 hr hb
  · have a6 : k2 ≠ e ∧ k2 ∉ op := ⟨fun e' => a5 (by simp [e']), fun e' => a5 (List.mem_append_left _ e')⟩
    refine mono e2 r hr (h.closed k2 e2 i2 j2 a1 a2 a3 a4 a6.2 r hr ?_)
    unfold ahd at ha ⊢
    rw [h1 k2 r a6.1] at ha
    exact ha
  · rcases List.mem_append.1 he2 with h3 | h3
    · exact mono e2 r hr (h.done e2 h3 r hr ha)
    · rw [List.mem_singleton] at h3
      have : e2 = e := by omega
      subst this
      rw [h2 r hr, ha]
      simp
  · by_cases e' : k = e
    · subst e'
      exact .inl (by simp)
    · rcases h.same with h3 | h3
      · exact .inl (List.mem_append_left _ h3)
      · refine .inr fun r hr => ?_
        rw [← h3 r hr]
        unfold ahd
        rw [h1 k r e']
theorem LvMid.stop {n : Nat} (h : LvMid fs code k i A (cmr code k n) B op) (hn : n = code.length) (hi : code[k]? = some i) : LvIn fs code B op := by
  refine ⟨h.sound, fun k2 e i2 j a1 a2 a3 a4 r hr ha => ?_⟩
  by_cases e' : k2 = k
  · subst e'
    rw [hi] at a1
    injection a1 with a1
    subst a1
    refine h.done e (cmr_mem.2 ⟨e, j, rfl, by have := (List.getElem?_eq_some_iff.1 a2).1; omega, a2, a3⟩) r hr ?_
    rcases h.same with h3 | h3
    · exact absurd h3 a4
    · rw [← h3 r hr]
      exact ha
  · exact h.closed k2 e i2 j e' a1 a2 a3 a4 r hr ha
end
/-! ### How many bits are not set -/
def unB (n : Nat) (B : Nat → Nat → Bool) : Nat := (List.range (n * 16)).countP (fun t => !B (t / 16) (t % 16))
theorem cntP_less {p q : Nat → Bool} (h : ∀ x, q x = true → p x = true) {e : Nat} (hp : p e = true) (hq : q e = false) : ∀ {l : List Nat}, e ∈ l → l.countP q < l.countP p
  | [], he => by cases he
  | x :: l, he => by
    have hle : l.countP q ≤ l.countP p := List.countP_mono_left (fun y _ hy => h y hy)
    rw [List.countP_cons, List.countP_cons]
    by_cases ex : x = e
    · subst ex
      rw [hp, hq]
      simp
      omega
    · have h1 := cntP_less h hp hq (l := l) (by rcases List.mem_cons.1 he with h2 | h2; exact absurd h2.symm ex; exact h2)
      by_cases hqx : q x = true
      · rw [hqx, h x hqx]
        simp
        omega
      · simp [hqx]
        split <;> omega
theorem unB_less {n : Nat} {B B' : Nat → Nat → Bool} (h : ∀ e r, r < 16 → B e r = true → B' e r = true) {e r : Nat} (he : e < n) (hr : r < 16) (h1 : B e r = false) (h2 : B' e r = true) : unB n B' < unB n B := by
  have e1 : (e * 16 + r) / 16 = e := by omega
  have e2 : (e * 16 + r) % 16 = r := by omega
  refine cntP_less (e := e * 16 + r) (fun t ht => ?_) (by rw [e1, e2, h1]; rfl) (by rw [e1, e2, h2]; rfl) (List.mem_range.2 (by omega))
  simp only [Bool.not_eq_true'] at ht ⊢
  cases hb : B (t / 16) (t % 16) with
  | false => rfl
  | true => rw [h _ _ (Nat.mod_lt _ (by decide)) hb] at ht; cases ht
theorem unB_le (n : Nat) (B : Nat → Nat → Bool) : unB n B ≤ n * 16 := by
  have := List.countP_le_length (p := fun t => !B (t / 16) (t % 16)) (l := List.range (n * 16))
  rw [List.length_range] at this
  exact this
/-! ### The searches forwards -/
/-- A search from places on: what is seen, what is to be looked at; 'Q' says of a place that the search goes on behind it. -/
structure Fw (code : List Ins) (Q : Nat → Bool) (P : Nat → Prop) (seen : Nat → Bool) (work : List Int) : Prop where
  ok : ∀ z ∈ work, ∃ k : Nat, z = k ∧ k < code.length ∧ P k
  was : ∀ k, seen k = true → k < code.length ∧ P k
  on : ∀ (k k' : Nat) (i : Ins), seen k = true → Q k = true → code[k]? = some i → (k' : Int) ∈ exitsV k i → seen k' = true ∨ (k' : Int) ∈ work
end Go.Proofs.YtoehkjfdaolcnaaDoor
/-! The sizes of functions; the small tests. -/
namespace Go.Proofs.YtoehkjfdaolcnaaDoor
set_option linter.unusedVariables false
set_option maxRecDepth 20000
open Go.RowKit Go.HeapKit

theorem giveUp_any (e n a : Int) (w : World) : Calls Tryd.prog 71 #[.int .i64 e, .int .i64 n, .int .i64 a] w fun x w' => x = .panicked (thrown e n a) ∧ w' = w := by
  go_enter Tryd.func71, Tryd.ntmps71
  go_wp2
  exact ⟨rfl, rfl, rfl⟩
theorem below_any (x n : Int) (w : World) : Calls Tryd.prog 79 #[.int .i64 x, .int .i64 n] w fun e w' => e = .returned (.bool (belowV x n)) ∧ w' = w := by
  go_enter Tryd.func79, Tryd.ntmps79
  go_wp2
  · go_ret
    refine ⟨?_, rfl⟩
    simp [belowV, *]
  · go_ret
    refine ⟨?_, rfl⟩
    simp [belowV]
    omega
def shapeE (f : Fn) (number : Int) : Ending := if shapeV f then .returned (.tuple #[]) else .panicked (thrown 51 number 0)
theorem shape_any (number : Int) (f : Fn) (ca : Option Addr) (cc : Nat) (w : World) :
    Calls Tryd.prog 72 #[.int .i64 number, fnV f ca cc] w fun e w' => e = shapeE f number ∧ Keeps None w w' := by
  unfold fnV
  go_enter Tryd.func72, Tryd.ntmps72
  go_wp2_with (go_at_call 71; refine (giveUp_any _ _ _ _).mono ?_; rintro e w' ⟨rfl, rfl⟩)
  all_goals first
    | (refine ⟨rfl, ?_, (Keeps.refl _ _).andAlloc _⟩; unfold shapeE; rw [if_neg]; simp only [shapeV, Bool.and_eq_true, decide_eq_true_eq]; omega)
    | (go_end0; refine ⟨?_, (Keeps.refl _ _).andAlloc _⟩; unfold shapeE; rw [if_pos]; simp only [shapeV, Bool.and_eq_true, decide_eq_true_eq]; omega)
end Go.Proofs.YtoehkjfdaolcnaaDoor
