import Derived.Test.YtolhojagbiaamaaRcRow
/-! A deed put into the row. -/
namespace Go.Proofs.Ytolhojagbiaamaa
set_option linter.unusedVariables false
set_option maxRecDepth 20000
set_option linter.unusedSimpArgs false
open Go.RowKit Go.HeapKit

def waitB (kd : Int) : Bool := decide (kd = 2) || decide (kd = 1)
/-- Behind which one a deed comes; what its task has still to wait for. -/
def behN (kd : Int) (l : Nat) (o : Option Nat) : Nat := if waitB kd = true then o.getD l else l
def endO (o : Option Nat) : Int := match o with | some e => (e : Int) | none => -1
def leftO (kd : Int) (o : Option Nat) : Option Nat := if waitB kd = true then none else o
theorem endO_ne (e : Nat) : ¬ endO (some e) = -1 := by unfold endO; simp only; omega
theorem last_at (A : List Dd) (x : Dd) : (A ++ [x])[A.length]? = some x := by simp
theorem last_set (A : List Dd) (x y : Dd) : (A ++ [x]).set A.length y = A ++ [y] := by simp
section
variable {w : World} {base R n gN gA cap : Nat} {N : Nat → Int} {A : List Dd} {x : Dd}
theorem RowM.top (h : RowM w base R n N (A ++ [x]) gN gA cap) : C2 w gA (A.length * 2) x ∧ (∀ i, w.frozen? ⟨gA, i, none⟩ = false) ∧ A.length + 1 ≤ cap := by
  obtain ⟨g', e, _, _, h5, h6, h7⟩ := two_elem (k := A.length) (x := x) h.act (last_at A x)
  injection e with e
  injection e with e
  subst e
  exact ⟨h6, h7, by simpa using h5⟩
theorem RowM.putK (h : RowM w base R n N (A ++ [x]) gN gA cap) (v : Int) : RowM (w.setCell ⟨gA, A.length * 2, none⟩ (.int .i64 v)) base R n N (A ++ [⟨v, x.loc⟩]) gN gA cap ∧ Keeps (fun i => base ≤ i) w (w.setCell ⟨gA, A.length * 2, none⟩ (.int .i64 v)) := by
  have hk2 : Keeps (· = gA) w (w.setCell ⟨gA, A.length * 2, none⟩ (.int .i64 v)) := keeps_one (Keeps.refl _ _) _
  have h3 := two_fst h.act (last_at A x) v
  rw [last_set] at h3
  have b := blk_kept h.blk hk2 h.ne2
  exact ⟨⟨by simpa using b, blk_kept h.nums hk2 h.ne3, by simpa using h3, h.lowR, h.lowN⟩, hk2.mono (fun i e _ => by have := h.lowA; omega)⟩
theorem RowM.putL (h : RowM w base R n N (A ++ [x]) gN gA cap) (v : Int) : RowM (w.setCell ⟨gA, A.length * 2 + 1, none⟩ (.int .i64 v)) base R n N (A ++ [⟨x.k, v⟩]) gN gA cap ∧ Keeps (fun i => base ≤ i) w (w.setCell ⟨gA, A.length * 2 + 1, none⟩ (.int .i64 v)) := by
  have hk2 : Keeps (· = gA) w (w.setCell ⟨gA, A.length * 2 + 1, none⟩ (.int .i64 v)) := keeps_one (Keeps.refl _ _) _
  have h3 := two_snd h.act (last_at A x) v
  rw [last_set] at h3
  have b := blk_kept h.blk hk2 h.ne2
  exact ⟨⟨by simpa using b, blk_kept h.nums hk2 h.ne3, by simpa using h3, h.lowR, h.lowN⟩, hk2.mono (fun i e _ => by have := h.lowA; omega)⟩
theorem RowM.putN {acts : List Dd} (h : RowM w base R n N acts gN gA cap) (k : Nat) (v : Int) : RowM (w.setCell ⟨gN, k, none⟩ (.int .i64 v)) base R n (upd N k v) acts gN gA cap ∧ Keeps (fun i => base ≤ i) w (w.setCell ⟨gN, k, none⟩ (.int .i64 v)) := by
  have hk2 : Keeps (· = gN) w (w.setCell ⟨gN, k, none⟩ (.int .i64 v)) := keeps_one (Keeps.refl _ _) _
  refine ⟨⟨blk_kept h.blk hk2 h.ne1, by rw [← nums_set]; exact blk_set h.nums _, row_kept h.act hk2 (fun g e => by simp [Value.ownBlock] at e; subst e; intro e2; exact h.ne3 e2.symm), h.lowR, h.lowN⟩, hk2.mono (fun i e _ => by have := h.lowN; omega)⟩
end
/-- What the tasks are behind a deed. -/
def actsN (kd : Int) (k : Nat) (A : List Dd) (o : Option Nat) : List Dd :=
  if kd = 0 then A ++ [⟨k, endO o⟩, ⟨k, -1⟩]
  else if kd = 1 then A.dropLast ++ [⟨(A.getLastD ⟨0, 0⟩).k, endE (A.getLastD ⟨0, 0⟩) k⟩]
  else A ++ [⟨k, endO (leftO kd o)⟩]
-- WAYS
end Go.Proofs.Ytolhojagbiaamaa
