import Derived.WalkKit
/-! Programs as data, plainly: what package prog answers, told by lists. -/
namespace Go.Proofs.YtokfbagacehbgaaDoor
set_option linter.unusedVariables false
set_option maxRecDepth 20000

structure Ins where
  kind : Int
  a : Int
  b : Int
  c : Int
  k : Int
structure Fn where
  params : Int
  regs : Int
  slots : Int
  code : List Ins

/-- The table by kind. -/
def fA (n : Nat) : Int := [1, 1, 1, 3, 1, 2, 0, 1, 1, 1].getD n 0
def fB (n : Nat) : Int := [0, 1, 1, 0, 3, 4, 0, 2, 0, 0].getD n 0
def fC (n : Nat) : Int := [0, 0, 1, 0, 0, 5, 0, 0, 0, 0].getD n 0
def fK (n : Nat) : Int := [0, 0, 6, 0, 0, 0, 0, 0, 0, 0].getD n 0
def fN (n : Nat) : Bool := [true, true, true, false, true, true, true, true, true, false].getD n false

def belowV (x n : Int) : Bool := decide (0 ≤ x) && decide (x < n)
theorem belowV_iff (x n : Int) : belowV x n = true ↔ 0 ≤ x ∧ x < n := by simp [belowV]
def holdsV (f : Fn) (first n : Int) : Bool := decide (n = 0) || (decide (0 ≤ first) && decide (n ≤ f.regs - first))
def parV (fs : List Fn) (b : Int) : Int := ((fs[b.toNat]?).map Fn.params).getD 0
def allowsV (al : Bool) (fs : List Fn) (f : Fn) (what x : Int) (i : Ins) : Bool :=
  if what = 1 then belowV x f.regs else if what = 2 then belowV x f.slots else if what = 3 then belowV x f.code.length
  else if what = 4 then al || belowV x fs.length else if what = 5 then al || holdsV f x (parV fs i.b) else true
def fitsV (al : Bool) (fs : List Fn) (f : Fn) (i : Ins) : Bool :=
  belowV i.kind 10 && (!(decide (fK i.kind.toNat = 6) && (decide (i.k < 0) || decide (16 ≤ i.k)))) &&
    (allowsV al fs f (fA i.kind.toNat) i.a i && allowsV al fs f (fB i.kind.toNat) i.b i && allowsV al fs f (fC i.kind.toNat) i.c i)
def shapeV (f : Fn) : Bool :=
  decide (0 ≤ f.params) && decide (f.params ≤ 8) && decide (1 ≤ f.regs) && decide (f.params ≤ f.regs) && decide (f.regs ≤ 16) && decide (0 ≤ f.slots) && decide (f.slots ≤ 8) && decide (1 ≤ f.code.length) && decide (f.code.length ≤ 512)

/-- The first of a list that has an answer. -/
def firstAt {α β : Type} (g : Nat → α → Option β) : List α → Nat → Option (Nat × β)
  | [], _ => none
  | x :: l, n => match g n x with
    | some b => some (n, b)
    | none => firstAt g l (n + 1)
theorem firstAt_some {α β : Type} (g : Nat → α → Option β) (l : List α) (n k : Nat) (x : α) (b : β) (hk : l[k]? = some x) (h0 : ∀ j y, j < k → l[j]? = some y → g (n + j) y = none) (hb : g (n + k) x = some b) : firstAt g l n = some (n + k, b) := by
  induction l generalizing n k with
  | nil => simp at hk
  | cons y l ih =>
    cases k with
    | zero => simp at hk; subst hk; simp only [firstAt]; rw [Nat.add_zero] at hb; rw [hb]; rfl
    | succ k =>
      have h1 := h0 0 y (by omega) rfl
      rw [Nat.add_zero] at h1
      simp only [firstAt]
      rw [h1]
      have := ih (n + 1) k (by simpa using hk) (fun j z hj hz => by have := h0 (j + 1) z (by omega) (by simpa using hz); rwa [show n + (j + 1) = n + 1 + j by omega] at this) (by rwa [show n + (k + 1) = n + 1 + k by omega] at hb)
      simp only [this]
      congr 2
      omega
theorem firstAt_none {α β : Type} (g : Nat → α → Option β) (l : List α) (n : Nat) (h0 : ∀ j y, l[j]? = some y → g (n + j) y = none) : firstAt g l n = none := by
  induction l generalizing n with
  | nil => rfl
  | cons y l ih =>
    have h1 := h0 0 y rfl
    rw [Nat.add_zero] at h1
    simp only [firstAt]
    rw [h1]
    exact ih (n + 1) (fun j z hz => by have := h0 (j + 1) z (by simpa using hz); rwa [show n + (j + 1) = n + 1 + j by omega] at this)
theorem firstAt_was {α β : Type} (g : Nat → α → Option β) (l : List α) (n : Nat) (r : Nat × β) (h : firstAt g l n = some r) : ∃ k x, l[k]? = some x ∧ r.1 = n + k ∧ g (n + k) x = some r.2 ∧ ∀ j y, j < k → l[j]? = some y → g (n + j) y = none := by
  induction l generalizing n with
  | nil => cases h
  | cons y l ih =>
    simp only [firstAt] at h
    cases hg : g n y with
    | some b =>
      rw [hg] at h
      obtain rfl := Option.some.inj h
      exact ⟨0, y, rfl, rfl, hg, fun j _ hj => by omega⟩
    | none =>
      rw [hg] at h
      obtain ⟨k, x, h1, h2, h3, h4⟩ := ih (n + 1) h
      refine ⟨k + 1, x, by simpa using h1, by omega, by rwa [show n + (k + 1) = n + 1 + k by omega], ?_⟩
      intro j z hj hz
      cases j with
      | zero => simp at hz; subst hz; exact hg
      | succ j => have := h4 j z (by omega) (by simpa using hz); rwa [show n + (j + 1) = n + 1 + j by omega]
theorem firstAt_all {α β : Type} (g : Nat → α → Option β) (l : List α) (n : Nat) (h : firstAt g l n = none) : ∀ j y, l[j]? = some y → g (n + j) y = none := by
  induction l generalizing n with
  | nil => intro j y hy; simp at hy
  | cons y l ih =>
    simp only [firstAt] at h
    cases hg : g n y with
    | some b => rw [hg] at h; cases h
    | none =>
      rw [hg] at h
      intro j z hz
      cases j with
      | zero => simp at hz; subst hz; exact hg
      | succ j => have := ih (n + 1) h j z (by simpa using hz); rwa [show n + (j + 1) = n + 1 + j by omega]

/-- The last instruction goes on at the next place. -/
def runsOut (f : Fn) : Bool := match f.code[f.code.length - 1]? with
  | some i => fN i.kind.toNat
  | none => false
/-- What is wrong with the code of a function: the error, the place. -/
def codeFault (al : Bool) (fs : List Fn) (f : Fn) : Option (Int × Int) :=
  match firstAt (fun _ i => if fitsV al fs f i then none else some ()) f.code 0 with
  | some r => some (52, r.1)
  | none => if runsOut f then some (53, (f.code.length : Int) - 1) else none
def Sound (f : Fn) : Prop := shapeV f = true ∧ ∀ fs, codeFault true fs f = none

/-! ### The search -/
abbrev Pt := Int × Int
def afterV (i : Ins) (slot st : Int) : Int := if i.kind = 5 ∧ i.a = slot then 2 else if i.kind = 6 ∧ st = 2 then 4 else st
def exitsV (at_ : Int) (i : Ins) : List Int :=
  (if fN i.kind.toNat then [at_ + 1] else []) ++ (if fA i.kind.toNat = 3 then [i.a] else []) ++ (if fB i.kind.toNat = 3 then [i.b] else [])
def ptIx (p : Pt) : Nat := p.1.toNat * 5 + p.2.toNat
def metV (fr : List Pt) (p : Pt) : Bool := decide ((fr.getD (ptIx p) (0, 0)).2 ≠ 0)
def visit (goal here : Pt) (st : Int) : List Int → List Pt → List Pt → List Pt × List Pt × Bool
  | [], fr, op => (fr, op, false)
  | a :: r, fr, op =>
    if metV fr (a, st) then visit goal here st r fr op
    else if (a, st) = goal then (fr.set (ptIx (a, st)) here, op, true)
    else visit goal here st r (fr.set (ptIx (a, st)) here) (op ++ [(a, st)])
def runS (f : Fn) (slot : Int) (goal : Pt) : Nat → List Pt → List Pt → List Pt
  | 0, fr, _ => fr
  | _ + 1, fr, [] => fr
  | k + 1, fr, h :: t => match f.code[h.1.toNat]? with
    | none => fr
    | some i => match visit goal h (afterV i slot h.2) (exitsV h.1 i) fr t with
      | (fr', _, true) => fr'
      | (fr', op', false) => runS f slot goal k fr' op'
def fr0 (n : Nat) : List Pt := (List.replicate (n * 5) (0, 0)).set 1 (0, 1)
def searchV (f : Fn) (slot : Int) (goal : Pt) : List Pt := runS f slot goal (f.code.length * 10 + 2) (fr0 f.code.length) [(0, 1)]
/-- How many points are not met yet. -/
def blanks (fr : List Pt) : Nat := fr.countP (fun p => p.2 == 0)
theorem blanks_le (fr : List Pt) : blanks fr ≤ fr.length := List.countP_le_length ..
theorem blanks_set {fr : List Pt} {k : Nat} {h : Pt} (hk : k < fr.length) (h0 : (fr.getD k (0, 0)).2 = 0) (hh : h.2 ≠ 0) : blanks (fr.set k h) + 1 = blanks fr := by
  unfold blanks
  induction fr generalizing k with
  | nil => simp at hk
  | cons p fr ih =>
    cases k with
    | zero =>
      simp at h0
      simp [h0, hh]
    | succ k =>
      have := ih (k := k) (by simpa using hk) (by simpa using h0)
      simp only [List.set_cons_succ, List.countP_cons]
      omega

/-! ### The states of the slots -/
def sumAt (fr : List Pt) (at_ : Nat) : Int := (List.range 5).foldl (fun s k => if (fr.getD (at_ * 5 + k) (0, 0)).2 ≠ 0 then s + k else s) 0
def rowV (f : Fn) (at_ : Nat) : List Int := (List.range f.slots.toNat).map (fun s : Nat => sumAt (searchV f (s : Int) (0, 0)) at_)
def flowV (f : Fn) : List (List Int) := (List.range f.code.length).map (rowV f)
def has2 (x : Int) : Bool := x == 2 || x == 3 || x == 6 || x == 7
def hasLess (x : Int) : Bool := !(x == 0 || x == 4)
def misuseV (i : Ins) (row : List Int) : Int :=
  if i.kind = 5 then (if has2 (row.getD i.a.toNat 0) then 54 else 0)
  else if i.kind = 7 then (if hasLess (row.getD i.b.toNat 0) then 55 else 0)
  else if i.kind = 9 then (if row.any has2 then 56 else 0) else 0
def slotFault (f : Fn) : Option (Int × Int) :=
  (firstAt (fun n i => if misuseV i (rowV f n) = 0 then none else some (misuseV i (rowV f n))) f.code 0).map (fun r => (r.2, (r.1 : Int)))

/-- What Check answers: the error, the function, the place. -/
def checkV (fs : List Fn) : Int × Int × Int :=
  if fs.length < 1 ∨ 32 < fs.length then (50, 0, 0)
  else match firstAt (fun _ f => if shapeV f then none else some ()) fs 0 with
    | some r => (51, r.1, 0)
    | none => match firstAt (fun _ f => codeFault false fs f) fs 0 with
      | some r => (r.2.1, r.1, r.2.2)
      | none => match firstAt (fun _ f => slotFault f) fs 0 with
        | some r => (r.2.1, r.1, r.2.2)
        | none => (0, 0, 0)
end Go.Proofs.YtokfbagacehbgaaDoor
