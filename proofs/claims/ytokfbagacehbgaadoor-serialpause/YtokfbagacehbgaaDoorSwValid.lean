import Derived.Test.YtokfbagacehbgaaDoorSrStrip
/-! Two functions of a program change places: it is valid as before. -/
namespace Go.Proofs.YtokfbagacehbgaaDoor
set_option linter.unusedVariables false
set_option maxRecDepth 20000
open Go.RowKit Go.PlainOps

def sig (F k : Nat) : Nat := if k = 0 then F else if k = F then 0 else k
def rho (F : Nat) (b : Int) : Int := if b = 0 then (F : Int) else if b = (F : Int) then 0 else b
def insR (F : Nat) (i : Ins) : Ins := if i.kind = 5 then { i with b := rho F i.b } else i
def fnR (F : Nat) (f : Fn) : Fn := { f with code := f.code.map (insR F) }
def swapP (l : List Fn) (F : Nat) : List Fn := match l[0]?, l[F]? with
  | some x, some y => (l.set 0 y).set F x
  | _, _ => l
def swapL (l : List Fn) (F : Nat) : List Fn := (swapP l F).map (fnR F)
theorem sig_sig (F k : Nat) : sig F (sig F k) = k := by
  unfold sig
  by_cases h0 : k = 0
  · subst h0
    by_cases hF : F = 0
    · simp [hF]
    · simp [hF]
  · by_cases h1 : k = F
    · subst h1; simp [h0]
    · simp [h0, h1]
theorem swapP_len (l : List Fn) (F : Nat) : (swapP l F).length = l.length := by unfold swapP; split <;> simp
theorem swapL_len (l : List Fn) (F : Nat) : (swapL l F).length = l.length := by rw [swapL, List.length_map, swapP_len]
theorem swapP_at {l : List Fn} {F : Nat} (hF : F < l.length) (k : Nat) : (swapP l F)[k]? = l[sig F k]? := by
  have h0 : l[0]? = some (l[0]'(by omega)) := List.getElem?_eq_getElem _
  have h1 : l[F]? = some (l[F]'hF) := List.getElem?_eq_getElem _
  unfold swapP
  rw [h0, h1]
  simp only
  unfold sig
  by_cases hkF : F = k
  · subst hkF
    rw [List.getElem?_set_self (by simpa using hF)]
    by_cases hF0 : F = 0
    · subst hF0; rw [if_pos rfl, h1]
    · rw [if_neg hF0, if_pos rfl, h0]
  · rw [List.getElem?_set_ne hkF]
    by_cases hk0 : k = 0
    · subst hk0
      rw [List.getElem?_set_self (by omega), if_pos rfl, h1]
    · rw [List.getElem?_set_ne (by omega), if_neg hk0, if_neg (by omega)]
theorem swapL_at {l : List Fn} {F : Nat} (hF : F < l.length) (k : Nat) : (swapL l F)[k]? = (l[sig F k]?).map (fnR F) := by
  rw [swapL, List.getElem?_map, swapP_at hF]
theorem rho_nat {F : Nat} {b : Int} (hb : 0 ≤ b) : (rho F b).toNat = sig F b.toNat ∧ 0 ≤ rho F b := by
  obtain ⟨k, rfl⟩ := Int.eq_ofNat_of_zero_le hb
  unfold rho sig
  by_cases h0 : k = 0
  · subst h0; simp
  · by_cases h1 : k = F
    · subst h1
      rw [if_neg (by omega), if_pos rfl]
      simp [h0]
    · rw [if_neg (by omega), if_neg (by omega)]
      simp [h0, h1]
theorem rho_lt {F : Nat} {b : Int} {n : Nat} (hF : F < n) (hb : 0 ≤ b ∧ b < (n : Int)) : 0 ≤ rho F b ∧ rho F b < (n : Int) := by
  unfold rho
  repeat' split
  all_goals omega
theorem par_swap {l : List Fn} {F : Nat} (hF : F < l.length) {b : Int} (hb : 0 ≤ b) : parV (swapL l F) (rho F b) = parV l b := by
  unfold parV
  rw [(rho_nat hb).1, swapL_at hF, sig_sig]
  cases l[b.toNat]? <;> rfl
theorem code_swap {l : List Fn} {F : Nat} (hF : F < l.length) {f : Int} (hf : 0 ≤ f) : codeOf (swapL l F) (rho F f) = (codeOf l f).map (insR F) := by
  unfold codeOf
  rw [(rho_nat hf).1, swapL_at hF, sig_sig]
  cases l[f.toNat]? <;> rfl
theorem insR_kind (F : Nat) (i : Ins) : (insR F i).kind = i.kind := by unfold insR; split <;> rfl
theorem insR_a (F : Nat) (i : Ins) : (insR F i).a = i.a := by unfold insR; split <;> rfl
theorem insR_c (F : Nat) (i : Ins) : (insR F i).c = i.c := by unfold insR; split <;> rfl
theorem insR_k (F : Nat) (i : Ins) : (insR F i).k = i.k := by unfold insR; split <;> rfl
theorem insR_b {F : Nat} {i : Ins} (h : i.kind ≠ 5) : (insR F i).b = i.b := by unfold insR; rw [if_neg h]
theorem insR_b5 {F : Nat} {i : Ins} (h : i.kind = 5) : (insR F i).b = rho F i.b := by unfold insR; rw [if_pos h]
/-! ### The search does not see it -/
theorem after_swap (F : Nat) (i : Ins) (slot st : Int) : afterV (insR F i) slot st = afterV i slot st := by unfold afterV; rw [insR_kind, insR_a]
theorem exits_swap (F : Nat) (at_ : Int) (i : Ins) : exitsV at_ (insR F i) = exitsV at_ i := by
  unfold exitsV
  rw [insR_kind, insR_a]
  by_cases h : i.kind = 5
  · rw [h]; rfl
  · rw [insR_b h]
theorem run_swap (F : Nat) (f : Fn) (slot : Int) (goal : Pt) : ∀ (k : Nat) (fr op : List Pt), runS (fnR F f) slot goal k fr op = runS f slot goal k fr op
  | 0, _, _ => by cases ‹List Pt› <;> rfl
  | k + 1, fr, [] => rfl
  | k + 1, fr, h :: t => by
    simp only [runS, fnR, List.getElem?_map]
    cases f.code[h.1.toNat]? with
    | none => rfl
    | some i =>
      simp only [Option.map_some, after_swap, exits_swap]
      split
      · rfl
      · exact run_swap F f slot goal k _ _
theorem search_swap (F : Nat) (f : Fn) (slot : Int) (goal : Pt) : searchV (fnR F f) slot goal = searchV f slot goal := by
  unfold searchV
  rw [run_swap]
  simp [fnR]
theorem row_swap (F : Nat) (f : Fn) (n : Nat) : rowV (fnR F f) n = rowV f n := by
  unfold rowV
  simp only [search_swap]
  rfl
theorem misuse_swap (F : Nat) (i : Ins) (row : List Int) : misuseV (insR F i) row = misuseV i row := by
  unfold misuseV
  rw [insR_kind, insR_a]
  by_cases h : i.kind = 5
  · rw [if_pos h, if_pos h]
  · rw [insR_b h]
theorem fits_swap {l : List Fn} {F : Nat} (hF : F < l.length) {f : Fn} {i : Ins} (h : fitsV false l f i = true) : fitsV false (swapL l F) (fnR F f) (insR F i) = true := by
  have hk := fits_kind h
  have hl : (fnR F f).code.length = f.code.length := by simp [fnR]
  have hr : (fnR F f).regs = f.regs := rfl
  have hs : (fnR F f).slots = f.slots := rfl
  unfold fitsV at h ⊢
  by_cases h5 : i.kind = 5
  · simp only [insR_kind, insR_a, insR_c, insR_k, insR_b5 h5, h5] at h ⊢
    simp [fA, fB, fC, fK, allowsV, belowV, holdsV, hr, hs] at h ⊢
    obtain ⟨h1, h2⟩ := h
    have hb : 0 ≤ i.b ∧ i.b < (l.length : Int) := by omega
    have hb2 := rho_lt hF hb
    rw [insR_b5 h5, par_swap hF hb.1, swapL_len]
    refine ⟨⟨h1.1, by omega⟩, h2⟩
  · have e : insR F i = i := by unfold insR; rw [if_neg h5]
    rw [e]
    have ha : ∀ what x, what ≠ 4 → what ≠ 5 → allowsV false (swapL l F) (fnR F f) what x i = allowsV false l f what x i := fun what x h4 h5' => by
      unfold allowsV
      rw [hr, hs, hl]
      simp [h4, h5']
    have hkk : i.kind = 0 ∨ i.kind = 1 ∨ i.kind = 2 ∨ i.kind = 3 ∨ i.kind = 4 ∨ i.kind = 6 ∨ i.kind = 7 ∨ i.kind = 8 ∨ i.kind = 9 := by omega
    have hne : ∀ n : Nat, n = 0 ∨ n = 1 ∨ n = 2 ∨ n = 3 ∨ n = 4 ∨ n = 6 ∨ n = 7 ∨ n = 8 ∨ n = 9 → fA n ≠ 4 ∧ fA n ≠ 5 ∧ fB n ≠ 4 ∧ fB n ≠ 5 ∧ fC n ≠ 4 ∧ fC n ≠ 5 := by
      rintro n (rfl | rfl | rfl | rfl | rfl | rfl | rfl | rfl | rfl) <;> decide
    obtain ⟨n1, n2, n3, n4, n5, n6⟩ := hne i.kind.toNat (by omega)
    rw [ha _ _ n1 n2, ha _ _ n3 n4, ha _ _ n5 n6]
    exact h
theorem valid_swap {l : List Fn} {F : Nat} (hF : F < l.length) {f : Fn} (h : Valid l f) : Valid (swapL l F) (fnR F f) := by
  have hlen : (fnR F f).code.length = f.code.length := by simp [fnR]
  refine ⟨?_, ?_, ?_⟩
  · have := h.shape
    unfold shapeV at this ⊢
    rw [hlen]
    exact this
  · have hc := h.code
    unfold codeFault at hc ⊢
    split at hc
    · cases hc
    · rename_i h1
      have h2 := firstAt_all _ _ _ h1
      rw [firstAt_none]
      · simp only
        have hro : runsOut (fnR F f) = runsOut f := by
          unfold runsOut
          rw [hlen]
          simp only [fnR, List.getElem?_map]
          cases f.code[f.code.length - 1]? with
          | none => rfl
          | some i => simp only [Option.map_some, insR_kind]
        rw [hro]
        split at hc
        · cases hc
        · rename_i h3
          rw [if_neg h3]
      · intro j y hy
        simp only [fnR, List.getElem?_map, Option.map_eq_some_iff] at hy
        obtain ⟨i, hi, rfl⟩ := hy
        have h4 := h2 j i hi
        split at h4
        · rename_i h5
          rw [if_pos (fits_swap hF h5)]
        · cases h4
  · have hc := h.slot
    unfold slotFault at hc ⊢
    simp only [Option.map_eq_none_iff] at hc ⊢
    have h2 := firstAt_all _ _ _ hc
    rw [firstAt_none]
    intro j y hy
    simp only [fnR, List.getElem?_map, Option.map_eq_some_iff] at hy
    obtain ⟨i, hi, rfl⟩ := hy
    have h4 := h2 j i hi
    rw [misuse_swap, row_swap]
    exact h4
theorem valid_check {l : List Fn} (h0 : 1 ≤ l.length ∧ l.length ≤ 32) (h : ∀ f ∈ l, Valid l f) : checkV l = (0, 0, 0) := by
  unfold checkV
  rw [if_neg (by omega), firstAt_none]
  · simp only
    rw [firstAt_none]
    · simp only
      rw [firstAt_none]
      intro j y hy
      exact (h y (List.mem_of_getElem? hy)).slot
    · intro j y hy
      exact (h y (List.mem_of_getElem? hy)).code
  · intro j y hy
    rw [if_pos (h y (List.mem_of_getElem? hy)).shape]
theorem check_swap {l : List Fn} {F : Nat} (hF : F < l.length) (h : checkV l = (0, 0, 0)) : checkV (swapL l F) = (0, 0, 0) := by
  obtain ⟨h1, h2, h3⟩ := check_valid h
  refine valid_check (by rw [swapL_len]; omega) fun f hf => ?_
  obtain ⟨j, hj, e⟩ := List.getElem_of_mem hf
  have h4 : (swapL l F)[j]? = some f := by rw [List.getElem?_eq_getElem hj, e]
  rw [swapL_at hF, Option.map_eq_some_iff] at h4
  obtain ⟨g, hg, rfl⟩ := h4
  exact valid_swap hF (h3 g (List.mem_of_getElem? hg))
theorem ok_swap {l : List Fn} {F : Nat} (hF : F < l.length) (hl : l.length ≤ 32) (h : ∀ f ∈ l, f.Ok) : ∀ f ∈ swapL l F, f.Ok := fun f hf => by
  obtain ⟨j, hj, e⟩ := List.getElem_of_mem hf
  have h4 : (swapL l F)[j]? = some f := by rw [List.getElem?_eq_getElem hj, e]
  rw [swapL_at hF, Option.map_eq_some_iff] at h4
  obtain ⟨g, hg, rfl⟩ := h4
  have hG := h g (List.mem_of_getElem? hg)
  refine ⟨hG.params, hG.regs, hG.slots, fun i hi => ?_⟩
  simp only [fnR, List.mem_map] at hi
  obtain ⟨i0, hi0, rfl⟩ := hi
  have hI := hG.code i0 hi0
  by_cases h5 : i0.kind = 5
  · refine ⟨by rw [insR_kind]; exact hI.kind, by rw [insR_a]; exact hI.a, ?_, by rw [insR_c]; exact hI.c, by rw [insR_k]; exact hI.k⟩
    rw [insR_b5 h5]
    have := hI.b
    unfold rho okI at *
    repeat' split
    all_goals omega
  · rw [show insR F i0 = i0 by unfold insR; rw [if_neg h5]]
    exact hI
end Go.Proofs.YtokfbagacehbgaaDoor
