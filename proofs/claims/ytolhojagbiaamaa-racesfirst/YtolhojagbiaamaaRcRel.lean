import Derived.Test.YtolhojagbiaamaaRcSteps
/-! The document's steps, plainly held against the states. -/
namespace Go.Proofs.Ytolhojagbiaamaa
set_option linter.unusedVariables false
set_option maxRecDepth 20000
set_option linter.unusedSimpArgs false

def prO (la b : Int) : Option Nat := if 0 ≤ la then some la.toNat else if 0 ≤ b then some b.toNat else none
/-- The open tasks (root first) are those of the state. -/
def RelO : List Tk → List (Int × Int) → (Nat → List Nat) → Prop
  | [], ts, _ => ts = []
  | t :: r, ts, L => ∃ ts' la b, ts = ts' ++ [(la, b)] ∧ L (2 * ts'.length + 1) = t.Out ∧ prO la b = (Cof (t :: r)).getLast? ∧ RelO r ts' L
theorem RelO.congr {L L' : Nat → List Nat} : ∀ {st : List Tk} {ts : List (Int × Int)}, RelO st ts L → (∀ j, j < ts.length → L' (2 * j + 1) = L (2 * j + 1)) → RelO st ts L'
  | [], ts, h, _ => h
  | t :: r, ts, ⟨ts', la, b, e, h1, h2, h3⟩, hc => by
    subst e
    exact ⟨ts', la, b, rfl, (hc _ (by simp)).trans h1, h2, RelO.congr h3 (fun j hj => hc j (by simp; omega))⟩
theorem RelO.len {L : Nat → List Nat} : ∀ {st : List Tk} {ts : List (Int × Int)}, RelO st ts L → ts.length = st.length
  | [], ts, h => by rw [show ts = [] from h]; rfl
  | t :: r, ts, ⟨ts', la, b, e, h1, h2, h3⟩ => by
    subst e
    have := RelO.len h3
    simp [this]
def outSum : List Tk → Nat
  | [] => 0
  | t :: r => t.Out.length + outSum r
theorem out_step (i : Nat) (k : Int) (st : List Tk) : outSum (stepT i k st) ≤ outSum st + 1 := by
  cases st with
  | nil => simp [stepT, outSum]
  | cons t r =>
    by_cases k0 : k = 0
    · subst k0; rw [st0]; simp [outSum]
    · by_cases k1 : k = 1
      · subst k1
        cases r with
        | nil => simp [stepT, outSum]
        | cons u r' => rw [st1]; simp [outSum]; omega
      · by_cases k2 : k = 2
        · subst k2; rw [st2]; simp [outSum]; omega
        · rw [st3 _ _ _ _ k0 k1 k2]; simp [outSum]
theorem out_le (ds : List Dd) (n : Nat) : outSum (stN ds n) ≤ n := by
  induction n with
  | zero => simp [stN, outSum]
  | succ n ih => have := out_step n ((ds.getD n ⟨3, 0⟩).k) (stN ds n); show outSum (stepT _ _ _) ≤ _; omega
theorem prO_k (k : Nat) (b : Int) : prO k b = some k := by unfold prO; rw [if_pos (by omega)]; simp
theorem prO_b (k : Nat) : prO (-1) k = some k := by unfold prO; rw [if_neg (by omega), if_pos (by omega)]; simp
section
variable {t : Tk} {r : List Tk} {ts : List (Int × Int)} {L : Nat → List Nat} {la b : Int} {k : Nat}
/-- A spawn. -/
theorem rel0 (h : RelO (t :: r) (ts ++ [(la, b)]) L) : RelO (stepT k 0 (t :: r)) (ts ++ [((k : Int), b)] ++ [(-1, (k : Int))]) (updF L (2 * (ts.length + 1) + 1) []) := by
  obtain ⟨ts', la', b', e, h1, h2, h3⟩ := h
  obtain ⟨rfl, e2⟩ := List.append_inj' e rfl
  rw [st0]
  refine ⟨ts ++ [((k : Int), b)], -1, k, rfl, by rw [show (ts ++ [((k : Int), b)]).length = ts.length + 1 by simp, updF_eq], ?_, ts, k, b, rfl, by rw [updF_ne (by omega)]; exact h1, ?_, h3.congr (fun j hj => updF_ne (by omega))⟩
  · rw [prO_b]; simp [Cof]
  · rw [prO_k]; simp [Cof]
/-- A return. -/
theorem rel1 {u : Tk} (h : RelO (t :: u :: r) (ts ++ [(la, b)]) L) : ∃ ts' la' b', ts = ts' ++ [(la', b')] ∧ L (2 * ts'.length + 1) = u.Out ∧ ∀ L' : Nat → List Nat, L' (2 * ts'.length + 1) = u.Out ++ [k] → (∀ j, j < ts'.length → L' (2 * j + 1) = L (2 * j + 1)) → RelO (stepT k 1 (t :: u :: r)) ts L' := by
  obtain ⟨ts0, la0, b0, e, h1, h2, ts', la', b', e', h4, h5, h6⟩ := h
  obtain ⟨rfl, e2⟩ := List.append_inj' e rfl
  subst e'
  refine ⟨ts', la', b', rfl, h4, fun L' g1 g2 => ?_⟩
  rw [st1]
  exact ⟨ts', la', b', rfl, g1, h5, h6.congr g2⟩
/-- A sync. -/
theorem rel2 (h : RelO (t :: r) (ts ++ [(la, b)]) L) : RelO (stepT k 2 (t :: r)) (ts ++ [((k : Int), b)]) (updF L (2 * ts.length + 1) []) := by
  obtain ⟨ts', la', b', e, h1, h2, h3⟩ := h
  obtain ⟨rfl, e2⟩ := List.append_inj' e rfl
  rw [st2]
  refine ⟨ts, k, b, rfl, by rw [updF_eq], ?_, h3.congr (fun j hj => updF_ne (by omega))⟩
  rw [prO_k]; simp [Cof]
theorem rel3 {kd : Int} (h0 : ¬ kd = 0) (h1' : ¬ kd = 1) (h2' : ¬ kd = 2) (h : RelO (t :: r) (ts ++ [(la, b)]) L) : RelO (stepT k kd (t :: r)) (ts ++ [((k : Int), b)]) L := by
  obtain ⟨ts', la', b', e, h1, h2, h3⟩ := h
  obtain ⟨rfl, e2⟩ := List.append_inj' e rfl
  rw [st3 _ _ _ _ h0 h1' h2']
  refine ⟨ts, k, b, rfl, h1, ?_, h3⟩
  rw [prO_k]; simp [Cof]
end
/-- All of it behind the first k deeds. -/
structure RelS (ds : List Dd) (k : Nat) (ts : List (Int × Int)) (L : Nat → List Nat) : Prop where
  done : ∀ j, j < k → L (2 * j) = frmN ds j
  free : ∀ j, k ≤ j → L (2 * j) = []
  rel : RelO (stN ds k) ts L
section
variable {ds : List Dd} {k : Nat} {ts : List (Int × Int)} {L : Nat → List Nat} {t : Tk} {r : List Tk} {x : Dd} {la b : Int}
theorem frm_no (hst : stN ds k = t :: r) (hx : ds[k]? = some x) (hp : prO la b = (Cof (t :: r)).getLast?) (h1 : ¬ x.k = 1) (h2 : ¬ x.k = 2) : frmN ds k = (prO la b).toList := by
  unfold frmN
  rw [hst, getD_of hx, hp, out_cons, if_neg (by rintro (h | h) <;> contradiction), List.append_nil]
theorem frm_wait (hst : stN ds k = t :: r) (hx : ds[k]? = some x) (hp : prO la b = (Cof (t :: r)).getLast?) (h : x.k = 1 ∨ x.k = 2) : frmN ds k = (prO la b).toList ++ t.Out := by
  unfold frmN
  rw [hst, getD_of hx, hp, out_cons, if_pos h]
theorem RelS.next (h : RelS ds k ts L) (hst : stN ds k = t :: r) (hx : ds[k]? = some x) {ts2 : List (Int × Int)} {L2 : Nat → List Nat} (h1 : L2 (2 * k) = frmN ds k) (h2 : ∀ j, j ≠ k → L2 (2 * j) = L (2 * j)) (h3 : RelO (stepT k x.k (t :: r)) ts2 L2) : RelS ds (k + 1) ts2 L2 := by
  refine ⟨fun j hj => ?_, fun j hj => (h2 j (by omega)).trans (h.free j (by omega)), ?_⟩
  · by_cases e : j = k
    · subst e; exact h1
    · exact (h2 j e).trans (h.done j (by omega))
  · show RelO (stepT k ((ds.getD k ⟨3, 0⟩).k) (stN ds k)) ts2 L2
    rw [getD_of hx, hst]
    exact h3
end
end Go.Proofs.Ytolhojagbiaamaa
