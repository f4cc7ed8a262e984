import Derived.Test.YtafgkehmmfmloaaDoorPkAN
import Derived.Test.YtafgkehmmfmloaaDoorPkAC
import Derived.Test.YtafgkehmmfmloaaDoorPkBB
import Derived.Test.YtafgkehmmfmloaaDoorPkAX
import Derived.Test.YtafgkehmmfmloaaDoorProg
import Derived.WalkKit
import Derived.WalkSpells
import Derived.WalkLawsBesides
import Derived.Test.YtafgkehmmfmloaaDoorPkAD
import Derived.Test.YtafgkehmmfmloaaDoorPkBA
import Derived.Deep.QuietTactic
import Derived.BigQuiet
/-! The programs that parlib makes are valid where their base is. -/
namespace Go.Proofs.YtafgkehmmfmloaaDoor
set_option linter.unusedVariables false
set_option maxRecDepth 20000
open Go.RowKit Go.PlainOps

def madeP (l : List Fn) (e r : Fn) : List Fn := e :: r :: l.map shF
theorem madeP_len (l : List Fn) (e r : Fn) : (madeP l e r).length = l.length + 2 := by simp [madeP]
theorem madeP_at (l : List Fn) (e r : Fn) (k : Nat) : (madeP l e r)[k + 2]? = (l[k]?).map shF := by simp [madeP]
theorem shI_kind (i : Ins) : (shI i).kind = i.kind := by unfold shI; split <;> rfl
theorem shI_a (i : Ins) : (shI i).a = i.a := by unfold shI; split <;> rfl
theorem shI_c (i : Ins) : (shI i).c = i.c := by unfold shI; split <;> rfl
theorem shI_k (i : Ins) : (shI i).k = i.k := by unfold shI; split <;> rfl
theorem shI_b {i : Ins} (h : i.kind ≠ 5) : (shI i).b = i.b := by unfold shI; rw [if_neg h]
theorem shI_b5 {i : Ins} (h : i.kind = 5) : (shI i).b = i.b + 2 := by unfold shI; rw [if_pos h]
theorem shI_same {i : Ins} (h : i.kind ≠ 5) : shI i = i := by unfold shI; rw [if_neg h]
theorem par_made {l : List Fn} {e r : Fn} {b : Int} (hb : 0 ≤ b) : parV (madeP l e r) (b + 2) = parV l b := by
  unfold parV
  rw [show (b + 2).toNat = b.toNat + 2 by omega, madeP_at]
  cases l[b.toNat]? <;> rfl
theorem code_made {l : List Fn} {e r : Fn} {b : Int} (hb : 0 ≤ b) : codeOf (madeP l e r) (b + 2) = (codeOf l b).map shI := by
  unfold codeOf
  rw [show (b + 2).toNat = b.toNat + 2 by omega, madeP_at]
  cases l[b.toNat]? <;> rfl
theorem after_sh (i : Ins) (slot st : Int) : afterV (shI i) slot st = afterV i slot st := by unfold afterV; rw [shI_kind, shI_a]
theorem exits_sh (at_ : Int) (i : Ins) : exitsV at_ (shI i) = exitsV at_ i := by
  unfold exitsV
  rw [shI_kind, shI_a]
  by_cases h : i.kind = 5
  · rw [h]; rfl
  · rw [shI_b h]
theorem run_sh (f : Fn) (slot : Int) (goal : Pt) : ∀ (k : Nat) (fr op : List Pt), runS (shF f) slot goal k fr op = runS f slot goal k fr op
  | 0, _, _ => by cases ‹List Pt› <;> rfl
  | k + 1, fr, [] => rfl
  | k + 1, fr, h :: t => by
    simp only [runS, shF, List.getElem?_map]
    cases f.code[h.1.toNat]? with
    | none => rfl
    | some i =>
      simp only [Option.map_some, after_sh, exits_sh]
      split
      · rfl
      · exact run_sh f slot goal k _ _
theorem search_sh (f : Fn) (slot : Int) (goal : Pt) : searchV (shF f) slot goal = searchV f slot goal := by
  unfold searchV
  rw [run_sh]
  simp [shF]
theorem row_sh (f : Fn) (n : Nat) : rowV (shF f) n = rowV f n := by
  unfold rowV
  simp only [search_sh]
  rfl
theorem misuse_sh (i : Ins) (row : List Int) : misuseV (shI i) row = misuseV i row := by
  unfold misuseV
  rw [shI_kind, shI_a]
  by_cases h : i.kind = 5
  · rw [if_pos h, if_pos h]
  · rw [shI_b h]
theorem fits_sh {l : List Fn} {e r f : Fn} {i : Ins} (h : fitsV false l f i = true) : fitsV false (madeP l e r) (shF f) (shI i) = true := by
  have hk := fits_kind h
  have hl : (shF f).code.length = f.code.length := by simp [shF]
  have hr : (shF f).regs = f.regs := rfl
  have hs : (shF f).slots = f.slots := rfl
  unfold fitsV at h ⊢
  by_cases h5 : i.kind = 5
  · simp only [shI_kind, shI_a, shI_c, shI_k, shI_b5 h5, h5] at h ⊢
    simp [fA, fB, fC, fK, allowsV, belowV, holdsV, hr, hs] at h ⊢
    obtain ⟨h1, h2⟩ := h
    have hb : 0 ≤ i.b ∧ i.b < (l.length : Int) := by omega
    rw [shI_b5 h5, par_made hb.1, madeP_len]
    refine ⟨⟨h1.1, by omega⟩, h2⟩
  · rw [shI_same h5]
    have ha : ∀ what x, what ≠ 4 → what ≠ 5 → allowsV false (madeP l e r) (shF f) what x i = allowsV false l f what x i := fun what x h4 h5' => by
      unfold allowsV
      rw [hr, hs, hl]
      simp [h4, h5']
    have hkk : i.kind = 0 ∨ i.kind = 1 ∨ i.kind = 2 ∨ i.kind = 3 ∨ i.kind = 4 ∨ i.kind = 6 ∨ i.kind = 7 ∨ i.kind = 8 ∨ i.kind = 9 := by omega
    have hne : ∀ n : Nat, n = 0 ∨ n = 1 ∨ n = 2 ∨ n = 3 ∨ n = 4 ∨ n = 6 ∨ n = 7 ∨ n = 8 ∨ n = 9 → fA n ≠ 4 ∧ fA n ≠ 5 ∧ fB n ≠ 4 ∧ fB n ≠ 5 ∧ fC n ≠ 4 ∧ fC n ≠ 5 := by
      rintro n (rfl | rfl | rfl | rfl | rfl | rfl | rfl | rfl | rfl) <;> decide
    obtain ⟨n1, n2, n3, n4, n5, n6⟩ := hne i.kind.toNat (by omega)
    rw [ha _ _ n1 n2, ha _ _ n3 n4, ha _ _ n5 n6]
    exact h
theorem valid_sh {l : List Fn} {e r f : Fn} (h : Valid l f) : Valid (madeP l e r) (shF f) := by
  have hlen : (shF f).code.length = f.code.length := by simp [shF]
  refine ⟨?_, ?_, ?_⟩
  · have := h.shape
    unfold shapeV at this ⊢
    rw [hlen]
    exact this
  · have hc := h.code
    unfold codeFault at hc ⊢
    split at hc
    · cases hc
    · rename_i h1
      have h2 := firstAt_all _ _ _ h1
      rw [firstAt_none]
      · simp only
        have hro : runsOut (shF f) = runsOut f := by
          unfold runsOut
          rw [hlen]
          simp only [shF, List.getElem?_map]
          cases f.code[f.code.length - 1]? with
          | none => rfl
          | some i => simp only [Option.map_some, shI_kind]
        rw [hro]
        split at hc
        · cases hc
        · rename_i h3
          rw [if_neg h3]
      · intro j y hy
        simp only [shF, List.getElem?_map, Option.map_eq_some_iff] at hy
        obtain ⟨i, hi, rfl⟩ := hy
        have h4 := h2 j i hi
        split at h4
        · rename_i h5
          rw [if_pos (fits_sh h5)]
        · cases h4
  · have hc := h.slot
    unfold slotFault at hc ⊢
    simp only [Option.map_eq_none_iff] at hc ⊢
    have h2 := firstAt_all _ _ _ hc
    rw [firstAt_none]
    intro j y hy
    simp only [shF, List.getElem?_map, Option.map_eq_some_iff] at hy
    obtain ⟨i, hi, rfl⟩ := hy
    have h4 := h2 j i hi
    rw [misuse_sh, row_sh]
    exact h4
theorem valid_chk {l : List Fn} (h0 : 1 ≤ l.length ∧ l.length ≤ 32) (h : ∀ f ∈ l, Valid l f) : checkV l = (0, 0, 0) := by
  unfold checkV
  rw [if_neg (by omega), firstAt_none]
  · simp only
    rw [firstAt_none]
    · simp only
      rw [firstAt_none]
      intro j y hy
      exact (h y (List.mem_of_getElem? hy)).slot
    · intro j y hy
      exact (h y (List.mem_of_getElem? hy)).code
  · intro j y hy
    rw [if_pos (h y (List.mem_of_getElem? hy)).shape]
theorem check_made {l : List Fn} {e r : Fn} (h : checkV l = (0, 0, 0)) (hl : l.length ≤ 28) (he : Valid (madeP l e r) e) (hr : Valid (madeP l e r) r) : checkV (madeP l e r) = (0, 0, 0) := by
  obtain ⟨h1, h2, h3⟩ := check_valid h
  refine valid_chk (by rw [madeP_len]; omega) fun f hf => ?_
  unfold madeP at hf
  rcases List.mem_cons.1 hf with rfl | hf
  · exact he
  · rcases List.mem_cons.1 hf with rfl | hf
    · exact hr
    · obtain ⟨g, hg, rfl⟩ := List.mem_map.1 hf
      exact valid_sh (h3 g hg)
/-- A code that fits, told instruction by instruction. -/
theorem code_fits {fs : List Fn} {f : Fn} (h : ∀ i ∈ f.code, fitsV false fs f i = true) (hr : runsOut f = false) : codeFault false fs f = none := by
  unfold codeFault
  rw [firstAt_none]
  · simp [hr]
  · intro j y hy
    rw [if_pos (h y (List.mem_of_getElem? hy))]
/-- A spawn fits. -/
theorem spawn_fits {fs : List Fn} {f : Fn} {a b c p : Int} (hb : 0 ≤ b ∧ b < fs.length) (hp : parV fs b = p) (ha : 0 ≤ a ∧ a < f.slots) (hc : 0 ≤ c ∧ p ≤ f.regs - c) : fitsV false fs f ⟨5, a, b, c, 0⟩ = true := by
  unfold fitsV allowsV belowV holdsV
  simp [fA, fB, fC, fK, hp]
  omega
/-- What is no spawn fits, whatever the program. -/
theorem other_fits {fs : List Fn} {f : Fn} {i : Ins} (h5 : i.kind ≠ 5) (h : fitsV true [] f i = true) : fitsV false fs f i = true := by
  have hk := fits_kind h
  unfold fitsV at h ⊢
  have hkk : i.kind = 0 ∨ i.kind = 1 ∨ i.kind = 2 ∨ i.kind = 3 ∨ i.kind = 4 ∨ i.kind = 6 ∨ i.kind = 7 ∨ i.kind = 8 ∨ i.kind = 9 := by omega
  have hne : ∀ n : Nat, n = 0 ∨ n = 1 ∨ n = 2 ∨ n = 3 ∨ n = 4 ∨ n = 6 ∨ n = 7 ∨ n = 8 ∨ n = 9 → fA n ≠ 4 ∧ fA n ≠ 5 ∧ fB n ≠ 4 ∧ fB n ≠ 5 ∧ fC n ≠ 4 ∧ fC n ≠ 5 := by
    rintro n (rfl | rfl | rfl | rfl | rfl | rfl | rfl | rfl | rfl) <;> decide
  obtain ⟨n1, n2, n3, n4, n5, n6⟩ := hne i.kind.toNat (by omega)
  have ha : ∀ what x, what ≠ 4 → what ≠ 5 → allowsV false fs f what x i = allowsV true [] f what x i := fun what x h4 h5' => by
    unfold allowsV
    simp [h4, h5']
  rw [ha _ _ n1 n2, ha _ _ n3 n4, ha _ _ n5 n6]
  exact h
theorem par_one {l : List Fn} {e r : Fn} : parV (madeP l e r) 1 = r.params := rfl
theorem ent_valid (l : List Fn) (u : Int) (r : Fn) (hp : r.params = 3) : Valid (madeP l (entF u) r) (entF u) := by
  refine ⟨by kernel_rfl, code_fits (fun i hi => ?_) (by kernel_rfl), by kernel_rfl⟩
  by_cases h5 : i.kind = 5
  · simp [entF, entC] at hi
    rcases hi with rfl | rfl | rfl | rfl | rfl | rfl | rfl | rfl | rfl | rfl | rfl
    all_goals first | (refine absurd h5 ?_; simp; done) | exact spawn_fits (p := 3) ⟨by omega, by rw [madeP_len]; omega⟩ (by rw [par_one, hp]) (by simp [entF]) (by simp [entF])
  · refine other_fits h5 ?_
    simp [entF, entC] at hi
    rcases hi with rfl | rfl | rfl | rfl | rfl | rfl | rfl | rfl | rfl | rfl | rfl
    all_goals first | rfl | exact absurd rfl h5
theorem forR_valid (l : List Fn) (b : Int) (hb : 0 ≤ b ∧ b < l.length) (hp : parV l b = 1) : Valid (forP l b) (rnF (lfC (b + 2) 0 []) (hvC [])) := by
  refine ⟨by kernel_rfl, code_fits (fun i hi => ?_) (by kernel_rfl), by kernel_rfl⟩
  have hm : forP l b = madeP l (entF 0) (rnF (lfC (b + 2) 0 []) (hvC [])) := rfl
  by_cases h5 : i.kind = 5
  · rw [hm]
    simp [rnF, rnC, choC, lfC, hvC] at hi
    rcases hi with rfl | rfl | rfl | rfl | rfl | rfl | rfl | rfl | rfl | rfl | rfl | rfl | rfl | rfl | rfl | rfl | rfl | rfl | rfl | rfl | rfl
    all_goals first
      | (refine absurd h5 ?_; simp; done)
      | exact spawn_fits (p := 1) ⟨by omega, by rw [madeP_len]; omega⟩ (by rw [par_made hb.1, hp]) (by simp [rnF]) (by simp [rnF])
      | exact spawn_fits (p := 3) ⟨by omega, by rw [madeP_len]; omega⟩ rfl (by simp [rnF]) (by simp [rnF])
  · refine other_fits h5 ?_
    simp [rnF, rnC, choC, lfC, hvC] at hi
    rcases hi with rfl | rfl | rfl | rfl | rfl | rfl | rfl | rfl | rfl | rfl | rfl | rfl | rfl | rfl | rfl | rfl | rfl | rfl | rfl | rfl | rfl
    all_goals first | rfl | exact absurd rfl h5
/-- For's program is valid. -/
theorem for_check {l : List Fn} {b : Int} (h : checkV l = (0, 0, 0)) (hl : l.length ≤ 28) (hb : 0 ≤ b ∧ b < l.length) (hp : parV l b = 1) : checkV (forP l b) = (0, 0, 0) :=
  check_made h hl (ent_valid l 0 _ rfl) (forR_valid l b hb hp)
theorem redR_valid (l : List Fn) (b c u : Int) (hb : 0 ≤ b ∧ b < l.length) (hp : parV l b = 1) (hc : 0 ≤ c ∧ c < l.length) (hp2 : parV l c = 2) : Valid (redP l b c u) (rnF (lfC (b + 2) u (mgC (c + 2) [⟨7, 7, 0, 0, 0⟩])) (hvC (mgC (c + 2) [⟨7, 6, 0, 0, 0⟩, ⟨7, 7, 1, 0, 0⟩]))) := by
  refine ⟨by kernel_rfl, code_fits (fun i hi => ?_) (by kernel_rfl), by kernel_rfl⟩
  have hm : redP l b c u = madeP l (entF u) (rnF (lfC (b + 2) u (mgC (c + 2) [⟨7, 7, 0, 0, 0⟩])) (hvC (mgC (c + 2) [⟨7, 6, 0, 0, 0⟩, ⟨7, 7, 1, 0, 0⟩]))) := rfl
  by_cases h5 : i.kind = 5
  · rw [hm]
    simp [rnF, rnC, choC, lfC, hvC, mgC] at hi
    rcases hi with rfl | rfl | rfl | rfl | rfl | rfl | rfl | rfl | rfl | rfl | rfl | rfl | rfl | rfl | rfl | rfl | rfl | rfl | rfl | rfl | rfl | rfl | rfl | rfl | rfl | rfl | rfl | rfl | rfl | rfl
    all_goals first
      | (refine absurd h5 ?_; simp; done)
      | exact spawn_fits (p := 1) ⟨by omega, by rw [madeP_len]; omega⟩ (by rw [par_made hb.1, hp]) (by simp [rnF]) (by simp [rnF])
      | exact spawn_fits (p := 2) ⟨by omega, by rw [madeP_len]; omega⟩ (by rw [par_made hc.1, hp2]) (by simp [rnF]) (by simp [rnF])
      | exact spawn_fits (p := 3) ⟨by omega, by rw [madeP_len]; omega⟩ rfl (by simp [rnF]) (by simp [rnF])
  · refine other_fits h5 ?_
    simp [rnF, rnC, choC, lfC, hvC, mgC] at hi
    rcases hi with rfl | rfl | rfl | rfl | rfl | rfl | rfl | rfl | rfl | rfl | rfl | rfl | rfl | rfl | rfl | rfl | rfl | rfl | rfl | rfl | rfl | rfl | rfl | rfl | rfl | rfl | rfl | rfl | rfl | rfl
    all_goals first | rfl | exact absurd rfl h5
/-- Reduce's program is valid. -/
theorem red_check {l : List Fn} {b c u : Int} (h : checkV l = (0, 0, 0)) (hl : l.length ≤ 28) (hb : 0 ≤ b ∧ b < l.length) (hp : parV l b = 1) (hc : 0 ≤ c ∧ c < l.length) (hp2 : parV l c = 2) : checkV (redP l b c u) = (0, 0, 0) :=
  check_made h hl (ent_valid l u _ rfl) (redR_valid l b c u hb hp hc hp2)
end Go.Proofs.YtafgkehmmfmloaaDoor
/-! ParlibLeft, plainly. -/
namespace Go.Proofs.YtafgkehmmfmloaaDoor
set_option linter.unusedVariables false
set_option maxRecDepth 20000
open Go.RowKit Go.HeapKit Go.PlainOps

theorem rv_fold2 {B : Int → Int} {op G : Int} {wb wc : Nat} (hu : hasU op = true) (hB : ∀ x, okI x → okI (B x)) {lo : Int} {m W : Nat} {V : Int} (h : RV B (workV op) (unitV op) G wb wc lo m W V) : 0 ≤ lo → lo + m ≤ 1000000 → V = foldV op (listF B lo m) := by
  have hf : ∀ (lo : Int) (m : Nat), 0 ≤ lo → lo + m ≤ 1000000 → Fits (listF B lo m) := fun lo m h0 h1 x hx => by
    unfold listF at hx
    obtain ⟨j, hj, rfl⟩ := List.mem_map.1 hx
    have hj2 := List.mem_range.1 hj
    exact hB _ (by unfold okI; omega)
  induction h with
  | leaf lo m h1 hm => intro _ _; rw [leafF_fold]; rfl
  | half lo m W1 W2 V1 V2 hm r1 r2 i1 i2 =>
    intro h0 h1
    rw [i1 h0 (by omega), i2 (by omega) (by omega), ← foldV_append op hu _ _ (hf _ _ h0 (by omega)) (hf _ _ (by omega) (by omega)), ← listF_add, show m / 2 + (m - m / 2) = m by omega]
theorem cases7 {o : Int} (h : hasU o = true) : o = 0 ∨ o = 2 ∨ o = 5 ∨ o = 6 ∨ o = 7 ∨ o = 10 ∨ o = 11 := by
  unfold hasU at h
  simp only [Bool.or_eq_true, beq_iff_eq] at h
  omega
def leftB (op k o2 : Int) : List Fn := [atF op k, twoF o2]
theorem left_check (op k o2 : Int) (h0 : 0 ≤ op) (h1 : op < 16) (h : hasU o2 = true) : checkV (leftB op k o2) = (0, 0, 0) := by
  rcases cases7 h with rfl | rfl | rfl | rfl | rfl | rfl | rfl <;> rcases cases16 h0 h1 with rfl | rfl | rfl | rfl | rfl | rfl | rfl | rfl | rfl | rfl | rfl | rfl | rfl | rfl | rfl | rfl <;> rfl
theorem left_errs (op k o2 : Int) (h0 : 0 ≤ op) (h1 : op < 16) (h : hasU o2 = true) : baseE (leftB op k o2) = 0 ∧ bodyE (leftB op k o2) ((0 : Nat) : Int) = 0 ∧ combE (leftB op k o2) ((1 : Nat) : Int) = 0 ∧ redE (leftB op k o2) 0 1 = 0 := by
  have hb : baseE (leftB op k o2) = 0 := by
    unfold baseE
    rw [left_check op k o2 h0 h1 h]
    rfl
  refine ⟨hb, rfl, rfl, ?_⟩
  unfold redE
  rw [hb]
  rfl
theorem left_codes (op k o2 u : Int) : codeOf (redP (leftB op k o2) 0 1 u) 0 = entC u ∧ codeOf (redP (leftB op k o2) 0 1 u) 1 = RdC 2 3 u ∧ codeOf (redP (leftB op k o2) 0 1 u) 2 = (atF op k).code ∧ codeOf (redP (leftB op k o2) 0 1 u) 3 = (twoF o2).code ∧ parV (redP (leftB op k o2) 0 1 u) 2 = 1 ∧ parV (redP (leftB op k o2) 0 1 u) 3 = 2 ∧ parV (redP (leftB op k o2) 0 1 u) 1 = 3 ∧ parV (redP (leftB op k o2) 0 1 u) 0 = 2 := ⟨rfl, rfl, rfl, rfl, rfl, rfl, rfl, rfl⟩
theorem run_eval {fs : List Fn} {zs : List Int} {F : Nat} {v sp : Int} {s : Rn} (hr : refusedV fs zs (F : Int) = 0) (h : runV fs false zs F = .done v sp s) : evalV fs zs (F : Int) = (⟨v, (F : Int) - s.fuel, s.tasks, s.depth, sp⟩, 0) := by
  unfold evalV
  rw [hr, if_neg (by simp), Int.toNat_natCast, h]
/-- The range of a fold, its work and its value. -/
theorem left_rv (op k o2 gr : Int) (h : hasU o2 = true) (hk : okI k) (n : Nat) (hn : n ≤ 100) (h1 : 1 ≤ n) : ∃ W, RV (fun x => workV op x k) (workV o2) (unitV o2) (maxV gr 1) 3 2 0 n W (foldV o2 (listF (fun x => workV op x k) 0 n)) ∧ W ≤ 4000 := by
  obtain ⟨W, V, hr⟩ := rv_all (fun x => workV op x k) (workV o2) (unitV o2) (maxV gr 1) 3 2 (maxV_ge gr) n n 0 (Nat.le_refl _) h1
  have hv := rv_fold2 h (fun x hx => work_ok _ _ _ hx hk) hr (by omega) (by omega)
  obtain ⟨p1, p2⟩ := rv_pos hr
  subst hv
  exact ⟨W, hr, by omega⟩
theorem left_eval (op k o2 gr : Int) (h0 : 0 ≤ op) (h1 : op < 16) (h : hasU o2 = true) (hk : okI k) (n : Nat) (hn : n ≤ 100) : ∃ W T d sp : Int, evalV (redP (leftB op k o2) 0 1 (unitV o2)) [(n : Int), gr] 100000 = (⟨foldV o2 (listF (fun x => workV op x k) 0 n), W, T, d, sp⟩, 0) := by
  obtain ⟨q0, q1, q2, q3, q4, q5, q6, q7⟩ := left_codes op k o2 (unitV o2)
  have hrf := unrefused (zs := [(n : Int), gr]) (F := 100000) (red_check (b := 0) (c := 1) (u := unitV o2) (left_check op k o2 h0 h1 h) (by simp [leftB]) (by simp [leftB]) rfl (by simp [leftB]) rfl) (by rw [q7]; rfl) (by omega)
  by_cases hz : n = 0
  · subst hz
    obtain ⟨sp, s2, e, ef⟩ := red_none (fs := redP (leftB op k o2) 0 1 (unitV o2)) (u := unitV o2) q0 ((0 : Nat) : Int) gr (by omega) 99995
    have he := run_eval hrf e
    exact ⟨_, _, _, _, he⟩
  · obtain ⟨W, hr, hW⟩ := left_rv op k o2 gr h hk n hn (by omega)
    obtain ⟨sp, s2, e, ef⟩ := red_some (at_call q2) (two_call q3) q0 q1 q4 q5 q6 gr (by omega) hr (100000 - W - 11)
    rw [show 100000 - W - 11 + W + 11 = 100000 by omega] at e
    have he := run_eval hrf e
    exact ⟨_, _, _, _, he⟩
end Go.Proofs.YtafgkehmmfmloaaDoor
/-! ParlibLeft: the law's own small functions; the numbers of Reduce's program fit. -/
namespace Go.Proofs.YtafgkehmmfmloaaDoor
set_option linter.unusedVariables false
set_option maxRecDepth 20000
set_option linter.unusedSimpArgs false
open Go.RowKit Go.HeapKit Go.PlainOps

theorem redP_ok (l : List Fn) (hl : ∀ f ∈ l, f.Ok) (hs : ∀ f ∈ l, ∀ i ∈ f.code, i.kind = 5 → 0 ≤ i.b ∧ i.b ≤ 1000) (b c u : Int) (hb : 0 ≤ b ∧ b ≤ 100) (hc : 0 ≤ c ∧ c ≤ 100) (hu : okI u) : ∀ f ∈ redP l b c u, f.Ok := by
  have hu1 : okI u := hu
  unfold okI at hu
  intro f hf
  unfold redP at hf
  rcases List.mem_cons.1 hf with rfl | hf
  · refine ⟨by simp [entF, okI], by simp [entF, okI], by simp [entF, okI], fun i hi => ?_⟩
    simp [entF, entC] at hi
    rcases hi with rfl | rfl | rfl | rfl | rfl | rfl | rfl | rfl | rfl | rfl | rfl <;> exact ⟨by simp [okI], by simp [okI], by simp [okI], by simp [okI], by first | exact hu1 | simp [okI]⟩
  · rcases List.mem_cons.1 hf with rfl | hf
    · refine ⟨by simp [rnF, okI], by simp [rnF, okI], by simp [rnF, okI], fun i hi => ?_⟩
      simp only [rnF, rnC, choC, lfC, hvC, mgC, List.mem_append, List.mem_cons, List.not_mem_nil, or_false, List.cons_append, List.nil_append] at hi
      repeat' (rcases hi with hi | hi)
      all_goals (try subst hi)
      all_goals (exact ⟨by simp [okI], by simp [okI], by first | (simp [okI]; done) | (unfold okI; simp; omega), by simp [okI], by first | exact hu1 | (simp [okI]; done)⟩)
    · obtain ⟨g, hg, rfl⟩ := List.mem_map.1 hf
      have h := hl g hg
      refine ⟨h.params, h.regs, h.slots, fun i hi => ?_⟩
      obtain ⟨j, hj, rfl⟩ := List.mem_map.1 hi
      have hj2 := h.code j hj
      unfold shI
      split
      · rename_i h5
        have := hs g hg j hj h5
        exact ⟨hj2.kind, hj2.a, by show okI (j.b + 2); unfold okI; omega, hj2.c, hj2.k⟩
      · exact hj2
def sevenV (i : Nat) : Int := if i = 0 then 0 else if i = 1 then 2 else if i = 2 then 5 else if i = 3 then 6 else if i = 4 then 7 else if i = 5 then 10 else 11
theorem seven_unit (i : Nat) : hasU (sevenV i) = true := by
  unfold sevenV
  repeat' (split; · rfl)
  rfl
set_option maxHeartbeats 2000000 in
theorem seven_any (i : Nat) (w : World) (hi : i < 7) : Calls Tryd.prog 4 #[.int .i64 (i : Int)] w fun e w' => e = .returned (.int .i64 (sevenV i)) ∧ w' = w := by
  have hc : i = 0 ∨ i = 1 ∨ i = 2 ∨ i = 3 ∨ i = 4 ∨ i = 5 ∨ i = 6 := by omega
  rcases hc with rfl | rfl | rfl | rfl | rfl | rfl | rfl
  all_goals (
    clear hi
    go_enter Tryd.func4, Tryd.ntmps4
    go_wp2
    go_ret
    exact ⟨rfl, rfl⟩)
set_option maxHeartbeats 2000000 in
theorem two_any (op : Int) (w : World) : Calls Tryd.prog 7 #[.int .i64 op] w fun e w' => ∃ v, e = .returned (.agg #[.int .i64 2, .int .i64 2, .int .i64 0, v]) ∧ OwnC w' w.heap.size v (twoF op).code ∧ Keeps None w w' := by
  obtain ⟨B, hB⟩ : ∃ B, B = w.heap.size := ⟨_, rfl⟩
  have S0 := field_start w 2 2
  obtain ⟨W0, hW0⟩ : ∃ W0, W0 = (w.alloc (.cells #[.int .i64 0, .int .i64 0, .int .i64 0, .slice none 0 0] 29)).alloc (.cells #[.int .i64 2, .int .i64 2, .int .i64 0, .slice none 0 0] 29) := ⟨_, rfl⟩
  rw [← hW0, ← hB] at S0
  go_enter Tryd.func7, Tryd.ntmps7
  go_upto_region 2 with fail
  rw [← hW0, ← hB]
  clear hW0
  have HB : Hid (B = w.heap.size) := hB
  clear hB
  have d0 : W0.cell? ⟨B + 1, 3, none⟩ = some (.slice none 0 0) := (blk_cell S0.blkF 3).trans rfl
  obtain ⟨a2, c2, V2, hr2, x2, z2, S2⟩ := field_step S0 rfl (by simp) ⟨2, 0, 0, 1, op⟩
  obtain ⟨W2, hW2⟩ : ∃ W, W = V2.setCell ⟨B + 1, 3, none⟩ (.slice a2 (0 + 1) c2) := ⟨_, rfl⟩
  rw [← hW2] at S2
  have d2 : W2.cell? ⟨B + 1, 3, none⟩ = some (.slice a2 1 c2) := (blk_cell S2.blkF 3).trans rfl
  have H2 : Hid _ := S2
  clear S0
  simp only at hr2
  go_upto_region 3 with (at_builtin; refine wpList_append_run rfl (.tmp 6) (.tmp 9) 27 27 rfl rfl rfl hr2 ?_)
  rw [← hW2]
  clear hW2 hr2 d0 x2 z2
  obtain ⟨a3, c3, V3, hr3, x3, z3, S3⟩ := field_step S2 rfl (by simp) ⟨9, 0, 0, 0, 0⟩
  obtain ⟨W3, hW3⟩ : ∃ W, W = V3.setCell ⟨B + 1, 3, none⟩ (.slice a3 (1 + 1) c3) := ⟨_, rfl⟩
  rw [← hW3] at S3
  have d3 : W3.cell? ⟨B + 1, 3, none⟩ = some (.slice a3 2 c3) := (blk_cell S3.blkF 3).trans rfl
  have H3 : Hid _ := S3
  clear S2
  simp only at hr3
  go_upto_region 4 with (at_builtin; refine wpList_append_run rfl (.tmp 13) (.tmp 15) 27 27 rfl rfl rfl hr3 ?_)
  rw [← hW3]
  clear hW3 hr3 d2 x3 z3
  have c0 : W3.cell? ⟨B + 1, 0, none⟩ = some (.int .i64 2) := (blk_cell S3.blkF 0).trans rfl
  have c1 : W3.cell? ⟨B + 1, 1, none⟩ = some (.int .i64 2) := (blk_cell S3.blkF 1).trans rfl
  have c2 : W3.cell? ⟨B + 1, 2, none⟩ = some (.int .i64 0) := (blk_cell S3.blkF 2).trans rfl
  have e0 : W3.cell? ⟨B, 0, none⟩ = some (.int .i64 0) := (blk_cell S3.blkR 0).trans rfl
  have z0 := blk_free S3.blkR 0
  have e1 : W3.cell? ⟨B, 1, none⟩ = some (.int .i64 0) := (blk_cell S3.blkR 1).trans rfl
  have z1 := blk_free S3.blkR 1
  have e2 : W3.cell? ⟨B, 2, none⟩ = some (.int .i64 0) := (blk_cell S3.blkR 2).trans rfl
  have z2 := blk_free S3.blkR 2
  have e3 : W3.cell? ⟨B, 3, none⟩ = some (.slice none 0 0) := (blk_cell S3.blkR 3).trans rfl
  have z3 := blk_free S3.blkR 3
  have HS : Hid _ := S3
  clear S3
  go_wp2
  refine fn_end 2 rfl rfl HS.out.blkR rfl rfl _ _ _ _ (fun w' hw' => ?_)
  refine ⟨_, rfl, HS.out.own.kept hw' (fun g e q => ?_), HS.out.keep.trans hw' (fun i e hi => ?_)⟩
  · subst q
    have := own_type HS.out.own e HS.out.blkR
    exact absurd this (by decide)
  · have e' : i = B := e
    have := HB.out
    omega
end Go.Proofs.YtafgkehmmfmloaaDoor
/-! The contract of ops.Unit. -/
namespace Go.Proofs.YtafgkehmmfmloaaDoor
open Go.RowKit Go.PlainOps

section
set_option maxHeartbeats 400000
theorem unit0 (w : World) : Calls Tryd.prog 9 #[.int .i64 0] w fun e w' => e = .returned (.tuple #[.int .i64 (0), .bool true]) ∧ w' = w := by
  go_enter Tryd.func9, Tryd.ntmps9
  go_wp2
  go_ret2
  exact ⟨rfl, rfl⟩
theorem unit2 (w : World) : Calls Tryd.prog 9 #[.int .i64 2] w fun e w' => e = .returned (.tuple #[.int .i64 (1), .bool true]) ∧ w' = w := by
  go_enter Tryd.func9, Tryd.ntmps9
  go_wp2
  go_ret2
  exact ⟨rfl, rfl⟩
theorem unit5 (w : World) : Calls Tryd.prog 9 #[.int .i64 5] w fun e w' => e = .returned (.tuple #[.int .i64 (-1), .bool true]) ∧ w' = w := by
  go_enter Tryd.func9, Tryd.ntmps9
  go_wp2
  go_ret2
  exact ⟨rfl, rfl⟩
theorem unit6 (w : World) : Calls Tryd.prog 9 #[.int .i64 6] w fun e w' => e = .returned (.tuple #[.int .i64 (0), .bool true]) ∧ w' = w := by
  go_enter Tryd.func9, Tryd.ntmps9
  go_wp2
  go_ret2
  exact ⟨rfl, rfl⟩
theorem unit7 (w : World) : Calls Tryd.prog 9 #[.int .i64 7] w fun e w' => e = .returned (.tuple #[.int .i64 (0), .bool true]) ∧ w' = w := by
  go_enter Tryd.func9, Tryd.ntmps9
  go_wp2
  go_ret2
  exact ⟨rfl, rfl⟩
theorem unit10 (w : World) : Calls Tryd.prog 9 #[.int .i64 10] w fun e w' => e = .returned (.tuple #[.int .i64 (9223372036854775807), .bool true]) ∧ w' = w := by
  go_enter Tryd.func9, Tryd.ntmps9
  go_wp2
  go_ret2
  exact ⟨rfl, rfl⟩
theorem unit11 (w : World) : Calls Tryd.prog 9 #[.int .i64 11] w fun e w' => e = .returned (.tuple #[.int .i64 (-9223372036854775808), .bool true]) ∧ w' = w := by
  go_enter Tryd.func9, Tryd.ntmps9
  go_wp2
  go_ret2
  exact ⟨rfl, rfl⟩
theorem unit_not (op : Int) (w : World) (h : hasU op = false) : Calls Tryd.prog 9 #[.int .i64 op] w fun e w' => e = .returned (.tuple #[.int .i64 0, .bool false]) ∧ w' = w := by
  simp only [hasU, Bool.or_eq_false_iff] at h
  obtain ⟨⟨⟨⟨⟨⟨h0, h2⟩, h5⟩, h6⟩, h7⟩, h10⟩, h11⟩ := h
  go_enter Tryd.func9, Tryd.ntmps9
  go_wp2
  go_ret2
  exact ⟨rfl, rfl⟩
theorem unit_any (op : Int) (w : World) (h : hasU op = true) : Calls Tryd.prog 9 #[.int .i64 op] w fun e w' => e = .returned (.tuple #[.int .i64 (unitV op), .bool true]) ∧ w' = w := by
  have hc : op = 0 ∨ op = 2 ∨ op = 5 ∨ op = 6 ∨ op = 7 ∨ op = 10 ∨ op = 11 := by
    simp only [hasU, Bool.or_eq_true, beq_iff_eq] at h
    omega
  rcases hc with rfl | rfl | rfl | rfl | rfl | rfl | rfl
  · exact unit0 w
  · exact unit2 w
  · exact unit5 w
  · exact unit6 w
  · exact unit7 w
  · exact unit10 w
  · exact unit11 w
end
end Go.Proofs.YtafgkehmmfmloaaDoor
/-! The contracts of foldUnit, Fold, halves, Tree. -/
namespace Go.Proofs.YtafgkehmmfmloaaDoor
open Go.RowKit Go.PlainOps

/-- A list of numbers that lies in memory (a nil one is empty): the value's length is the list's. -/
def Seg (w : World) (a : Option Addr) (cap : Nat) (zs : List Int) : Prop :=
  zs.length ≤ cap ∧ cap ≤ maxLen ∧ (zs = [] ∨ ∃ b off, a = some ⟨b, off, none⟩ ∧ ∀ i, i < zs.length → w.cell? ⟨b, off + i, none⟩ = some (.int .i64 (zs.getD i 0)))

section
set_option maxHeartbeats 400000
theorem foldUnit_ok (op n : Int) (w : World) (h : hasU op = true) (hn : n ≤ 65536) : Calls Tryd.prog 16 #[.int .i64 op, .int .i64 n] w fun e w' => e = .returned (.tuple #[.int .i64 (unitV op), .int .i64 0]) ∧ w' = w := by
  have hi := isOp_hasU h
  have H : Hid (hasU op = true) := h
  clear h
  go_enter Tryd.func16, Tryd.ntmps16
  go_wp2_with (first | (go_at_call 14; refine (isOp_any _ _).mono ?_; rintro e w' ⟨rfl, rfl⟩) | (go_at_call 9; refine (unit_any _ _ H.out).mono ?_; rintro e w' ⟨rfl, rfl⟩))
  go_ret2
  exact ⟨rfl, rfl⟩
theorem foldUnit_long (op n : Int) (w : World) (h : hasU op = true) (hn : 65536 < n) : Calls Tryd.prog 16 #[.int .i64 op, .int .i64 n] w fun e w' => e = .returned (.tuple #[.int .i64 0, .int .i64 2]) ∧ w' = w := by
  have hi := isOp_hasU h
  have H : Hid (hasU op = true) := h
  clear h
  go_enter Tryd.func16, Tryd.ntmps16
  go_wp2_with (first | (go_at_call 14; refine (isOp_any _ _).mono ?_; rintro e w' ⟨rfl, rfl⟩) | (go_at_call 9; refine (unit_any _ _ H.out).mono ?_; rintro e w' ⟨rfl, rfl⟩))
  go_ret2
  exact ⟨rfl, rfl⟩
theorem foldUnit_unit (op n : Int) (w : World) (hi : isOpV op = true) (h : hasU op = false) : Calls Tryd.prog 16 #[.int .i64 op, .int .i64 n] w fun e w' => e = .returned (.tuple #[.int .i64 0, .int .i64 11]) ∧ w' = w := by
  have H : Hid (hasU op = false) := h
  clear h
  go_enter Tryd.func16, Tryd.ntmps16
  go_wp2_with (first | (go_at_call 14; refine (isOp_any _ _).mono ?_; rintro e w' ⟨rfl, rfl⟩) | (go_at_call 9; refine (unit_not _ _ H.out).mono ?_; rintro e w' ⟨rfl, rfl⟩))
  go_ret2
  exact ⟨rfl, rfl⟩
theorem foldUnit_op (op n : Int) (w : World) (hi : isOpV op = false) : Calls Tryd.prog 16 #[.int .i64 op, .int .i64 n] w fun e w' => e = .returned (.tuple #[.int .i64 0, .int .i64 10]) ∧ w' = w := by
  go_enter Tryd.func16, Tryd.ntmps16
  go_wp2_with (first | (go_at_call 14; refine (isOp_any _ _).mono ?_; rintro e w' ⟨rfl, rfl⟩))
  go_ret2
  exact ⟨rfl, rfl⟩
theorem foldErr_ok {op n : Int} (h : foldErr op n = 0) : hasU op = true ∧ n ≤ 65536 := by
  unfold foldErr at h
  split at h
  · omega
  split at h
  · omega
  split at h
  · omega
  · rename_i h1 _; exact ⟨by simpa using h1, by omega⟩
theorem foldUnit_err (op n : Int) (w : World) (h : foldErr op n ≠ 0) : Calls Tryd.prog 16 #[.int .i64 op, .int .i64 n] w fun e w' => e = .returned (.tuple #[.int .i64 0, .int .i64 (foldErr op n)]) ∧ w' = w := by
  unfold foldErr at h ⊢
  split
  · rename_i h1; exact foldUnit_op op n w h1
  · rename_i h1
    split
    · rename_i h2; exact foldUnit_unit op n w (by simpa using h1) h2
    · rename_i h2
      split
      · rename_i h3; exact foldUnit_long op n w (by simpa using h2) h3
      · rename_i h3; rw [if_neg h1, if_neg h2, if_neg h3] at h; exact absurd rfl h

theorem fold_err (op : Int) (a : Option Addr) (n cap : Nat) (w : World) (h : foldErr op n ≠ 0) : Calls Tryd.prog 10 #[.int .i64 op, .slice a n cap] w fun e w' => e = .returned (.tuple #[.int .i64 0, .int .i64 (foldErr op n)]) ∧ w' = w := by
  have hb : (foldErr op n != 0) = true := by rw [bne_iff_ne]; exact h
  have H : Hid (foldErr op n ≠ 0) := h
  clear h
  go_enter Tryd.func10, Tryd.ntmps10
  go_wp2_with (go_at_call 16; refine (foldUnit_err _ _ _ H.out).mono ?_; rintro e w' ⟨rfl, rfl⟩)
  go_ret2
  exact ⟨rfl, rfl⟩
theorem fold_ok (op : Int) (a : Option Addr) (n cap : Nat) (zs : List Int) (w : World) (h : foldErr op n = 0) (hn : zs.length = n) (hs : Seg w a cap zs) : Calls Tryd.prog 10 #[.int .i64 op, .slice a n cap] w fun e w' => e = .returned (.tuple #[.int .i64 (foldV op zs), .int .i64 0]) ∧ w' = w := by
  subst hn
  obtain ⟨hU, hle⟩ := foldErr_ok h
  obtain ⟨hc, hm, hcell⟩ := hs
  unfold maxLen at hm
  have HI : Hid (isOpV op = true) := isOp_hasU hU
  have HU : Hid (hasU op = true) := hU
  clear h hU
  rcases hcell with rfl | ⟨b, off, rfl, hcell⟩
  · have E : Hid (foldV op [] = unitV op) := rfl
    go_enter Tryd.func10, Tryd.ntmps10
    go_wp2_with (go_at_call 16; refine (foldUnit_ok _ _ _ HU.out (by omega)).mono ?_; rintro e w' ⟨rfl, rfl⟩)
    go_loop [6, 22] (fun v i => i = .int .i64 0 ∧ v = .int .i64 (unitV op)) (fun _ _ => 0)
    case atStart => exact ⟨rfl, rfl⟩
    case round =>
      obtain ⟨rfl, rfl⟩ := hrel
      go_wp2
      go_ret2
      exact ⟨by rw [E.out]; rfl, rfl⟩
  · go_enter Tryd.func10, Tryd.ntmps10
    go_wp2_with (go_at_call 16; refine (foldUnit_ok _ _ _ HU.out (by omega)).mono ?_; rintro e w' ⟨rfl, rfl⟩)
    go_loop [6, 22] (fun v i => ∃ k : Nat, k ≤ zs.length ∧ i = .int .i64 k ∧ v = .int .i64 (foldK op zs k)) (fun _ i => zs.length - (intOf i).toNat)
    case atStart => exact ⟨0, by omega, rfl, by rw [foldK_zero]⟩
    case round =>
      obtain ⟨k, hk, rfl, rfl⟩ := hrel
      by_cases hlt : k < zs.length
      · have hck := hcell k hlt
        have E : Hid (workV op (foldK op zs k) (zs.getD k 0) = foldK op zs (k + 1)) := foldK_succ op zs k hlt
        clear hcell
        generalize zs.getD k 0 = z at hck E
        go_wp2_with (go_at_call 15; refine (work_any _ _ _ _ HI.out).mono ?_; rintro e w' ⟨rfl, rfl⟩)
        exact ⟨⟨k + 1, by omega, by go_num, by rw [← E.out]⟩, by simp [intOf]; omega⟩
      · have E : Hid (foldK op zs k = foldV op zs) := foldK_end op zs k (by omega)
        go_wp2
        go_ret2
        exact ⟨by rw [← E.out]; rfl, rfl⟩
end
end Go.Proofs.YtafgkehmmfmloaaDoor
