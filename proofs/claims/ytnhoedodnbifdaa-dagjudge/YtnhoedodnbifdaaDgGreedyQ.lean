import Derived.Test.YtnhoedodnbifdaaDgGreedyP
/-! The two ways to a round: nodes in their order, with a count; and counts of what is left ahead of each. -/
namespace Go.Proofs.Ytnhoedodnbifdaa
set_option linter.unusedVariables false
set_option maxRecDepth 20000

def scn (l : List Ed) (T : Nat → Int) (p i : Nat) : List Nat := ((List.range i).filter (rdy l T)).take p
def scanT (l : List Ed) (T : Nat → Int) (p : Nat) (t : Int) (i j : Nat) : Int := if j ∈ scn l T p i then t else T j
theorem scn_lt {l : List Ed} {T : Nat → Int} {p i j : Nat} (h : j ∈ scn l T p i) : j < i ∧ rdy l T j = true := by
  have := List.mem_filter.1 (List.mem_of_mem_take h)
  exact ⟨List.mem_range.1 this.1, this.2⟩
theorem scn_len (l : List Ed) (T : Nat → Int) (p i : Nat) : (scn l T p i).length ≤ p := by
  unfold scn
  rw [List.length_take]
  omega
theorem scn_le (l : List Ed) (T : Nat → Int) (p i : Nat) : (scn l T p i).length ≤ i := by
  unfold scn
  rw [List.length_take]
  have := List.length_filter_le (rdy l T) (List.range i)
  simp only [List.length_range] at this
  omega
theorem scn_step (l : List Ed) (T : Nat → Int) (p i : Nat) (h : (scn l T p i).length < p) : scn l T p (i + 1) = if rdy l T i = true then scn l T p i ++ [i] else scn l T p i := by
  have hl : ((List.range i).filter (rdy l T)).length < p := by
    unfold scn at h
    rw [List.length_take] at h
    omega
  unfold scn
  rw [List.range_succ, List.filter_append]
  split
  · rename_i hr
    rw [List.filter_cons, if_pos hr, List.filter_nil, List.take_of_length_le (by simp; omega), List.take_of_length_le (by omega)]
  · rename_i hr
    rw [List.filter_cons, if_neg hr, List.filter_nil, List.append_nil]
theorem scn_all (l : List Ed) (T : Nat → Int) (p n : Nat) : scn l T p n = (rds n l T).take p := rfl
theorem scn_full (l : List Ed) (T : Nat → Int) (p i : Nat) (h : (scn l T p i).length = p) : ∀ n, i ≤ n → scn l T p n = scn l T p i := by
  have hl : p ≤ ((List.range i).filter (rdy l T)).length := by
    unfold scn at h
    rw [List.length_take] at h
    omega
  intro n hn
  obtain ⟨d, rfl⟩ := Nat.exists_eq_add_of_le hn
  unfold scn
  rw [List.range_add, List.filter_append, List.take_append_of_le_length hl]
theorem scan_zero (l : List Ed) (T : Nat → Int) (p : Nat) (t : Int) : scanT l T p t 0 = T := by funext j; simp [scanT, scn]
theorem scan_step (l : List Ed) (T : Nat → Int) (p i : Nat) (t : Int) (h : (scn l T p i).length < p) (j : Nat) :
    scanT l T p t (i + 1) j = if rdy l T i = true ∧ j = i then t else scanT l T p t i j := by
  unfold scanT
  rw [scn_step l T p i h]
  by_cases hr : rdy l T i = true
  · rw [if_pos hr]
    by_cases e : j = i
    · subst e; simp [hr]
    · simp [hr, e]
  · rw [if_neg hr]
    simp [hr]
theorem scan_end {l : List Ed} {T : Nat → Int} {p n : Nat} {t : Int} {i : Nat} (hi : i ≤ n) (h : i = n ∨ (scn l T p i).length = p) : scanT l T p t i = stepT n p l t T ∧ (scn l T p i).length = ((rds n l T).take p).length := by
  have e : scn l T p i = (rds n l T).take p := by
    rcases h with rfl | h
    · rfl
    · exact (scn_full l T p i h n hi).symm
  refine ⟨?_, by rw [e]⟩
  funext j
  unfold scanT stepT
  rw [e]
/-- The document's question: are all of these done at times below t? -/
def readyV (T : Nat → Int) (t : Int) (bs : List Int) : Bool := bs.all (fun a => decide (T a.toNat ≠ 0) && decide (T a.toNat < t))
theorem ready_scan {l : List Ed} {T : Nat → Int} {p : Nat} {t : Int} {i : Nat} (hT : ∀ a, 0 ≤ T a ∧ T a < t) : (decide (scanT l T p t i i = 0) && readyV (scanT l T p t i) t (bef l i)) = rdy l T i := by
  have h0 : scanT l T p t i i = T i := by
    unfold scanT
    rw [if_neg (fun h => by have := (scn_lt h).1; omega)]
  rw [h0]
  unfold rdy readyV
  congr 1
  rw [Bool.eq_iff_iff, List.all_eq_true, List.all_eq_true]
  have key : ∀ a : Int, ((decide (scanT l T p t i a.toNat ≠ 0) && decide (scanT l T p t i a.toNat < t)) = true ↔ decide (T a.toNat ≠ 0) = true) := by
    intro a
    have := hT a.toNat
    unfold scanT
    split
    · rename_i h
      have := (rdy_iff.1 (scn_lt h).2).1
      simp [this]
    · simp
      intro _
      omega
  constructor
  · intro h a ha
    exact (key a).1 (h a ha)
  · intro h a ha
    exact (key a).2 (h a ha)

/-- How many edges to a node come from nodes that are not done. -/
def lft (l : List Ed) (T : Nat → Int) (i : Nat) : Nat := ((bef l i).filter (fun a => decide (T a.toNat = 0))).length
theorem rdy_lft {l : List Ed} {T : Nat → Int} {i : Nat} : rdy l T i = true ↔ T i = 0 ∧ lft l T i = 0 := by
  rw [rdy_iff]
  unfold lft
  rw [List.length_eq_zero_iff, List.filter_eq_nil_iff]
  simp
theorem lft_le (l : List Ed) (T : Nat → Int) (i : Nat) : lft l T i ≤ l.length := Nat.le_trans (List.length_filter_le _ _) (bef_len l i)
def setT (T : Nat → Int) (v : Nat) (t : Int) (j : Nat) : Int := if j = v then t else T j
theorem lft_set (l : List Ed) (T : Nat → Int) (v i : Nat) (t : Int) (hp : ∀ e ∈ l, 0 ≤ e.f) (h0 : T v = 0) (ht : t ≠ 0) : lft l (setT T v t) i + (flw l v).count (i : Int) = lft l T i := by
  induction l with
  | nil => rfl
  | cons e l ih =>
    have ih := ih (fun e he => hp e (List.mem_cons_of_mem _ he))
    have he := hp e (List.mem_cons_self ..)
    have b1 : ∀ U : Nat → Int, lft (e :: l) U i = (if e.t = i ∧ U e.f.toNat = 0 then 1 else 0) + lft l U i := by
      intro U
      unfold lft bef
      by_cases a : e.t = (i : Int)
      · by_cases b : U e.f.toNat = 0
        · simp [a, b]; omega
        · simp [a, b]
      · simp [a]
    have b2 : (flw (e :: l) v).count (i : Int) = (if e.f = v ∧ e.t = i then 1 else 0) + (flw l v).count (i : Int) := by
      unfold flw
      by_cases a : e.f = (v : Int)
      · by_cases b : e.t = (i : Int)
        · simp [a, b]; omega
        · simp [a, b]
      · simp [a]
    rw [b1, b1, b2]
    by_cases a : e.f = (v : Int)
    · have a' : e.f.toNat = v := by omega
      have s1 : setT T v t e.f.toNat = t := by simp [setT, a']
      by_cases b : e.t = (i : Int)
      · rw [if_neg (by rw [s1]; intro h; exact ht h.2), if_pos ⟨a, b⟩, if_pos ⟨b, by rw [a']; exact h0⟩]
        omega
      · rw [if_neg (fun h => b h.1), if_neg (fun h => b h.2), if_neg (fun h => b h.1)]
        omega
    · have a' : ¬ e.f.toNat = v := by omega
      have s1 : setT T v t e.f.toNat = T e.f.toNat := by simp [setT, a']
      rw [s1, if_neg (show ¬ (e.f = (v : Int) ∧ e.t = (i : Int)) from fun h => a h.1)]
      omega
/-- Some of the nodes of a round are done. -/
def putT (T : Nat → Int) (Q : List Nat) (t : Int) (j : Nat) : Int := if j ∈ Q then t else T j
theorem put_nil (T : Nat → Int) (t : Int) : putT T [] t = T := by funext j; simp [putT]
theorem put_snoc (T : Nat → Int) (Q : List Nat) (v : Nat) (t : Int) : putT T (Q ++ [v]) t = setT (putT T Q t) v t := by
  funext j
  unfold putT setT
  by_cases e : j = v
  · simp [e]
  · simp [e]
theorem put_all (n p : Nat) (l : List Ed) (T : Nat → Int) (t : Int) : putT T ((rds n l T).take p) t = stepT n p l t T := rfl
end Go.Proofs.Ytnhoedodnbifdaa
