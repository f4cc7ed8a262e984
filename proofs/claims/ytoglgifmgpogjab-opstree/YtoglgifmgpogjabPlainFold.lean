import Derived.Test.YtoglgifmgpogjabPlainLaws
/-! Folds, as plain functions. -/
namespace Go.PlainOps
open Go.RowKit

/-- The error of a fold of n elements, or 0. -/
def foldErr (op n : Int) : Int := if isOpV op = false then 10 else if hasU op = false then 11 else if 65536 < n then 2 else 0
def foldK (op : Int) (zs : List Int) (k : Nat) : Int := (zs.take k).foldl (workV op) (unitV op)
def foldV (op : Int) (zs : List Int) : Int := zs.foldl (workV op) (unitV op)
theorem foldK_zero (op : Int) (zs : List Int) : foldK op zs 0 = unitV op := by simp [foldK]
theorem foldK_succ (op : Int) (zs : List Int) (k : Nat) (hk : k < zs.length) : workV op (foldK op zs k) (zs.getD k 0) = foldK op zs (k + 1) := by
  unfold foldK
  rw [List.take_succ_eq_append_getElem hk, List.foldl_append]
  simp [List.getD, List.getElem?_eq_getElem hk]
theorem foldK_end (op : Int) (zs : List Int) (k : Nat) (hk : zs.length ≤ k) : foldK op zs k = foldV op zs := by
  unfold foldK foldV; rw [List.take_of_length_le hk]
/-- The fold by halves, with fuel. -/
def treeN (op : Int) : Nat → List Int → Int
  | 0, _ => 0
  | _, [x] => x
  | f + 1, zs => workV op (treeN op f (zs.take (zs.length / 2))) (treeN op f (zs.drop (zs.length / 2)))
def treeV (op : Int) (zs : List Int) : Int := treeN op zs.length zs
theorem treeN_one (op x : Int) (f : Nat) : treeN op (f + 1) [x] = x := by simp [treeN]
theorem treeN_more (op : Int) (f : Nat) (zs : List Int) (h : 2 ≤ zs.length) : treeN op (f + 1) zs = workV op (treeN op f (zs.take (zs.length / 2))) (treeN op f (zs.drop (zs.length / 2))) := by
  match zs, h with
  | _ :: _ :: _, _ => rw [treeN]; simp
theorem treeN_fuel (op : Int) : ∀ (n : Nat) (zs : List Int), zs.length = n → 1 ≤ n → ∀ f, n ≤ f → treeN op f zs = treeN op n zs := by
  intro n
  induction n using Nat.strongRecOn with
  | ind n ih =>
    intro zs hz h1 f hf
    match n, f, h1, hf with
    | n + 1, f + 1, _, hf =>
      by_cases h2 : zs.length = 1
      · match zs, h2 with
        | [x], _ => rw [treeN_one, treeN_one]
      · rw [treeN_more op f zs (by omega), treeN_more op n zs (by omega)]
        have l1 : (zs.take (zs.length / 2)).length = zs.length / 2 := by rw [List.length_take]; omega
        have l2 : (zs.drop (zs.length / 2)).length = zs.length - zs.length / 2 := by rw [List.length_drop]
        rw [ih _ (by omega) _ l1 (by omega) f (by omega), ih _ (by omega) _ l1 (by omega) n (by omega), ih _ (by omega) _ l2 (by omega) f (by omega), ih _ (by omega) _ l2 (by omega) n (by omega)]
theorem treeV_one (op x : Int) : treeV op [x] = x := by unfold treeV; exact treeN_one op x 0
theorem treeV_more (op : Int) (zs : List Int) (h : 2 ≤ zs.length) : treeV op zs = workV op (treeV op (zs.take (zs.length / 2))) (treeV op (zs.drop (zs.length / 2))) := by
  unfold treeV
  obtain ⟨n, hn⟩ : ∃ n, zs.length = n + 1 := ⟨zs.length - 1, by omega⟩
  have l1 : (zs.take (zs.length / 2)).length = zs.length / 2 := by rw [List.length_take]; omega
  have l2 : (zs.drop (zs.length / 2)).length = zs.length - zs.length / 2 := by rw [List.length_drop]
  conv => lhs; rw [hn]
  rw [treeN_more op n zs h]
  rw [treeN_fuel op _ _ l1 (by omega) n (by omega), treeN_fuel op _ _ l2 (by omega) n (by omega)]
  rw [l1, l2]

/-! Where the operation has a unit, a list may be cut anywhere. -/
def Fits (zs : List Int) : Prop := ∀ x ∈ zs, -9223372036854775808 ≤ x ∧ x ≤ 9223372036854775807
theorem foldl_fits (op : Int) (h : hasU op = true) : ∀ (zs : List Int) (u : Int), Fits zs → (-9223372036854775808 ≤ u ∧ u ≤ 9223372036854775807) → -9223372036854775808 ≤ zs.foldl (workV op) u ∧ zs.foldl (workV op) u ≤ 9223372036854775807
  | [], _, _, hu => hu
  | x :: r, u, hz, hu => foldl_fits op h r _ (fun y hy => hz y (List.mem_cons_of_mem _ hy)) (workV_fits op u x h hu (hz x (List.mem_cons_self ..)))
theorem foldV_fits (op : Int) (h : hasU op = true) (zs : List Int) (hz : Fits zs) : -9223372036854775808 ≤ foldV op zs ∧ foldV op zs ≤ 9223372036854775807 := foldl_fits op h zs _ hz (unitV_fits op)
theorem foldl_out (op : Int) (h : hasU op = true) : ∀ (zs : List Int) (u : Int), Fits zs → (-9223372036854775808 ≤ u ∧ u ≤ 9223372036854775807) → zs.foldl (workV op) u = workV op u (foldV op zs)
  | [], u, _, hu => by rw [List.foldl_nil]; exact (workV_unit' op u h hu.1 hu.2).symm
  | x :: r, u, hz, hu => by
    have hx := hz x (List.mem_cons_self ..)
    have hr : Fits r := fun y hy => hz y (List.mem_cons_of_mem _ hy)
    rw [List.foldl_cons, foldl_out op h r _ hr (workV_fits op u x h hu hx), workV_assoc op u x _ h]
    congr 1
    unfold foldV
    rw [List.foldl_cons, workV_unit op x h hx.1 hx.2]
    exact (foldl_out op h r x hr hx).symm
theorem foldV_append (op : Int) (h : hasU op = true) (xs ys : List Int) (hx : Fits xs) (hy : Fits ys) : foldV op (xs ++ ys) = workV op (foldV op xs) (foldV op ys) := by
  have e : foldV op (xs ++ ys) = ys.foldl (workV op) (foldV op xs) := by unfold foldV; rw [List.foldl_append]
  rw [e]
  exact foldl_out op h ys _ hy (foldV_fits op h xs hx)
theorem Fits.take {zs : List Int} (h : Fits zs) (k : Nat) : Fits (zs.take k) := fun x hx => h x (List.mem_of_mem_take hx)
theorem Fits.drop {zs : List Int} (h : Fits zs) (k : Nat) : Fits (zs.drop k) := fun x hx => h x (List.mem_of_mem_drop hx)
theorem foldV_cut (op : Int) (h : hasU op = true) (zs : List Int) (hz : Fits zs) (k : Nat) : workV op (foldV op (zs.take k)) (foldV op (zs.drop k)) = foldV op zs := by
  rw [← foldV_append op h _ _ (hz.take k) (hz.drop k), List.take_append_drop]
theorem treeV_foldV (op : Int) (h : hasU op = true) : ∀ (n : Nat) (zs : List Int), zs.length = n → 1 ≤ n → Fits zs → treeV op zs = foldV op zs := by
  intro n
  induction n using Nat.strongRecOn with
  | ind n ih =>
    intro zs hz h1 hf
    by_cases h2 : zs.length = 1
    · match zs, h2 with
      | [x], _ =>
        have hx := hf x (List.mem_cons_self ..)
        rw [treeV_one]; unfold foldV
        rw [List.foldl_cons, List.foldl_nil, workV_unit op x h hx.1 hx.2]
    · have l1 : (zs.take (zs.length / 2)).length = zs.length / 2 := by rw [List.length_take]; omega
      have l2 : (zs.drop (zs.length / 2)).length = zs.length - zs.length / 2 := by rw [List.length_drop]
      rw [treeV_more op zs (by omega), ih _ (by omega) _ l1 (by omega) (hf.take _), ih _ (by omega) _ l2 (by omega) (hf.drop _)]
      exact foldV_cut op h zs hf _
end Go.PlainOps
