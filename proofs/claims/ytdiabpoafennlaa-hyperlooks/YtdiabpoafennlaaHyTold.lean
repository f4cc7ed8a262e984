import Derived.Test.YtdiabpoafennlaaHyLooks2
/-! What Play tells, refused or not. -/
namespace Go.Proofs.Ytdiabpoafennlaa
set_option linter.unusedVariables false
set_option maxRecDepth 20000
set_option linter.unusedSimpArgs false
open Go.RowKit Go.HeapKit

def finT (l : List Dd) (st : List Bool) (pk : List Int) : List Int := if refE l st pk = 0 then putsD l else []
def madeT (l : List Dd) (st : List Bool) (pk : List Int) : Nat := if refE l st pk = 0 then (finPS l st pk).vs.length else 0
def mgT (l : List Dd) (st : List Bool) (pk : List Int) : List (Nat × Nat × Nat) := if refE l st pk = 0 then (finPS l st pk).mg else []
def lkT (l : List Dd) (st : List Bool) (pk : List Int) : List (List Int) := if refE l st pk = 0 then (finPS l st pk).lk else []
/-- Merges that can be read. -/
def SeenM (w : World) (a : Option Addr) (mg : List (Nat × Nat × Nat)) : Prop := ∀ k x, mg[k]? = some x → ∃ g, a = some ⟨g, 0, none⟩ ∧ w.cell? ⟨g, k * 3, none⟩ = some (.int .i64 x.1) ∧ w.cell? ⟨g, k * 3 + 1, none⟩ = some (.int .i64 x.2.1) ∧ w.cell? ⟨g, k * 3 + 2, none⟩ = some (.int .i64 x.2.2)
theorem SeenM.more {w w' : World} {a : Option Addr} {mg : List (Nat × Nat × Nat)} (h : SeenM w a mg) (hk : Keeps None w w') : SeenM w' a mg := fun k x hx => by
  obtain ⟨g, e, h0, h1, h2⟩ := h k x hx
  exact ⟨g, e, hk.cell h0 (fun f => f), hk.cell h1 (fun f => f), hk.cell h2 (fun f => f)⟩
theorem mgV_at (mg : List (Nat × Nat × Nat)) (k : Nat) (x : Nat × Nat × Nat) (h : mg[k]? = some x) : (mgV mg)[k * 3]? = some (.int .i64 x.1) ∧ (mgV mg)[k * 3 + 1]? = some (.int .i64 x.2.1) ∧ (mgV mg)[k * 3 + 2]? = some (.int .i64 x.2.2) := by
  induction mg generalizing k with
  | nil => simp at h
  | cons y l ih =>
    have e : mgV (y :: l) = [.int .i64 y.1, .int .i64 y.2.1, .int .i64 y.2.2] ++ mgV l := rfl
    rw [e]
    cases k with
    | zero => simp at h; subst h; exact ⟨rfl, rfl, rfl⟩
    | succ k =>
      have := ih k (by simpa using h)
      rw [List.getElem?_append_right (by simp; omega), List.getElem?_append_right (by simp; omega), List.getElem?_append_right (by simp; omega)]
      refine ⟨?_, ?_, ?_⟩
      · rw [← this.1]; congr 1; simp; omega
      · rw [← this.2.1]; congr 1; simp; omega
      · rw [← this.2.2]; congr 1; simp; omega
theorem Fin.merges {w : World} {B : Nat} {X : PX} {K : Ky → Value} {s : PS} (h : Fin w B X K s) : SeenM w X.ma s.mg := fun k x hx => by
  obtain ⟨h0, h1, h2⟩ := mgV_at s.mg k x hx
  obtain ⟨g, e, _, _, _, c0, _⟩ := own_cellS h.mg h0
  obtain ⟨g1, e1, _, _, _, c1, _⟩ := own_cellS h.mg h1
  obtain ⟨g2, e2, _, _, _, c2, _⟩ := own_cellS h.mg h2
  rw [e] at e1 e2
  injection e1 with e1
  injection e1 with e1
  injection e2 with e2
  injection e2 with e2
  subst e1 e2
  exact ⟨_, e, c0, c1, c2⟩
theorem Play_told (a : Option Addr) (n c : Nat) (l : List Dd) (sa : Option Addr) (m sc : Nat) (st : List Bool) (pa : Option Addr) (k pc : Nat) (pk : List Int) (w : World) (hS : Seen w a n l) (hT : SeenV w sa m (bv' st)) (hP : SeenV w pa k (iv pk)) (hpc : k ≤ pc) :
    Calls Try.prog 16 #[.slice a n c, .slice sa m sc, .slice pa k pc] w fun e w' =>
      ∃ fa fc ma mc la lc, e = .returned (.tuple #[.agg #[.slice fa (finT l st pk).length fc, .int .i64 (madeT l st pk), .slice ma (mgT l st pk).length mc, .slice la (lkT l st pk).length lc], .int .i64 (refE l st pk)]) ∧
        SeenV w' fa (finT l st pk).length (iv (finT l st pk)) ∧ SeenL w' la (lkT l st pk).length (lkT l st pk) ∧ SeenM w' ma (mgT l st pk) ∧ Keeps None w w' := by
  refine (Play_ok a n c l sa m sc st pa k pc pk w hS hT hP hpc).mono ?_
  rintro e w' ⟨hbad, hgood, hk⟩
  unfold finT madeT mgT lkT
  by_cases hE : refE l st pk = 0
  · obtain ⟨B, X, K, h1, -, h2⟩ := hgood hE
    obtain ⟨fa, fc, h3, h4⟩ := h2.final
    rw [if_pos hE, if_pos hE, if_pos hE, if_pos hE, hE]
    rw [h3] at h1
    exact ⟨fa, fc, X.ma, X.mc, X.la, X.lc, h1, h4, h2.looks, h2.merges, hk⟩
  · rw [if_neg hE, if_neg hE, if_neg hE, if_neg hE]
    exact ⟨none, 0, none, 0, none, 0, hbad hE, SeenV.nil _ _, ⟨rfl, fun k x hx => by simp at hx⟩, fun k x hx => by simp at hx, hk⟩
end Go.Proofs.Ytdiabpoafennlaa
