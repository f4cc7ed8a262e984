import Derived.Test.YthignlailbekmaaDoorRtBase
/-! SerialTree: what it writes. -/
namespace Go.Proofs.YthignlailbekmaaDoor
set_option linter.unusedVariables false
set_option maxRecDepth 20000
open Go.RowKit Go.HeapKit Go.PlainOps

def mkN (i : Nat) : Nd := ⟨i, 0, 0, 0, 0, 0, -1⟩
theorem own_put {w : World} {e : TypeId} {z n c g : Nat} {X : List Value} {i : Nat} (y : Value) (h : w.ownsRow 0 e z (.slice (some ⟨g, 0, none⟩) n c) n X) : (w.setCell ⟨g, i, none⟩ y).ownsRow 0 e z (.slice (some ⟨g, 0, none⟩) n c) n (X.set i y) := by
  rcases h.2 with ⟨e1, _⟩ | ⟨g', cap, cur, he, hb0, hg, hnc, hcm, hcs, htk⟩
  · cases e1
  · have he2 := he
    injection he with e1 e2 e3
    injection e1 with e1
    injection e1 with e1
    subst e1
    refine ⟨by rw [List.length_set]; exact h.1, .inr ⟨g, cap, _, he2, hb0, blk_set hg _, hnc, hcm, by simpa using hcs, ?_⟩⟩
    rw [Array.toList_setIfInBounds, List.take_set, htk]
theorem nd_put (M : List Nd) (k : Nat) (x : Nd) (hk : k < M.length) :
    ((((((((ndVals M).set (k * 7) (.int .i64 x.parent)).set (k * 7 + 1) (.int .i64 x.idx)).set (k * 7 + 2) (.int .i64 x.func)).set (k * 7 + 3) (.int .i64 x.work)).set (k * 7 + 4) (.int .i64 x.ped)).set (k * 7 + 5) (.int .i64 x.arg)).set (k * 7 + 6) (.int .i64 x.v)) = ndVals (M.set k x) := by
  induction M generalizing k with
  | nil => simp at hk
  | cons z M ih =>
    cases k with
    | zero => rfl
    | succ k =>
      rw [show (k + 1) * 7 = k * 7 + 7 by omega, show k * 7 + 7 + 1 = k * 7 + 1 + 7 by omega, show k * 7 + 7 + 2 = k * 7 + 2 + 7 by omega, show k * 7 + 7 + 3 = k * 7 + 3 + 7 by omega, show k * 7 + 7 + 4 = k * 7 + 4 + 7 by omega, show k * 7 + 7 + 5 = k * 7 + 5 + 7 by omega, show k * 7 + 7 + 6 = k * 7 + 6 + 7 by omega]
      have e2 : ndVals ((z :: M).set (k + 1) x) = ints z.l ++ ndVals (M.set k x) := rfl
      have e1 : ndVals (z :: M) = .int .i64 z.parent :: .int .i64 z.idx :: .int .i64 z.func :: .int .i64 z.work :: .int .i64 z.ped :: .int .i64 z.arg :: .int .i64 z.v :: ndVals M := rfl
      rw [e2, ← ih k (by simpa using hk), e1]
      rfl
def putNd (w : World) (g k : Nat) (x : Nd) : World := ((((((w.setCell ⟨g, k * 7, none⟩ (.int .i64 x.parent)).setCell ⟨g, k * 7 + 1, none⟩ (.int .i64 x.idx)).setCell ⟨g, k * 7 + 2, none⟩ (.int .i64 x.func)).setCell ⟨g, k * 7 + 3, none⟩ (.int .i64 x.work)).setCell ⟨g, k * 7 + 4, none⟩ (.int .i64 x.ped)).setCell ⟨g, k * 7 + 5, none⟩ (.int .i64 x.arg)).setCell ⟨g, k * 7 + 6, none⟩ (.int .i64 x.v)
theorem putNd_keeps (w : World) (g k : Nat) (x : Nd) : Keeps (· = g) w (putNd w g k x) := by
  unfold putNd
  have s : ∀ (w' : World) (i : Nat) (v : Value), Keeps (· = g) w' (w'.setCell ⟨g, i, none⟩ v) := fun w' i v => Keeps.setCell (S := (· = g)) w' (a := ⟨g, i, none⟩) rfl v
  exact ((((((s _ _ _).trans (s _ _ _) (fun _ f _ => f)).trans (s _ _ _) (fun _ f _ => f)).trans (s _ _ _) (fun _ f _ => f)).trans (s _ _ _) (fun _ f _ => f)).trans (s _ _ _) (fun _ f _ => f)).trans (s _ _ _) (fun _ f _ => f)
theorem C3.put {W wr : World} {Q : Nat} {l : List Fn} {qv : Value} {tq : List At} {bv : Value} {an : Nat} {zs : List Int} {la : Option Addr} {lc : Nat} {mv uv : Value} {N : Nat} {M : List Nd} {Y : List Value} (h : C3 W wr Q l qv tq bv an zs (.slice la N lc) mv uv N (ndVals M) Y) (hM : M.length = N) {k : Nat} (hk : k < N) (x : Nd) :
    ∃ g, la = some ⟨g, 0, none⟩ ∧ (∀ j, wr.frozen? ⟨g, j, none⟩ = false) ∧ (∀ y, M[k]? = some y → ∀ j v, y.l[j]? = some v → wr.cell? ⟨g, k * 7 + j, none⟩ = some (.int .i64 v)) ∧ C3 W (putNd wr g k x) Q l qv tq bv an zs (.slice (some ⟨g, 0, none⟩) N lc) mv uv N (ndVals (M.set k x)) Y := by
  rcases h.bl.lrow.2 with ⟨_, h0⟩ | ⟨g, cap, cur, he, hb0, hg, hnc, hcm, hcs, htk⟩
  · omega
  · injection he with e1 e2 e3
    subst e1
    have hP := putNd_keeps wr g k x
    have hne : ∀ (v : Value), (∀ g', (Value.slice (some ⟨g, 0, none⟩) N lc).ownBlock = some g' → ¬ v.ownBlock = some g') → ∀ g', v.ownBlock = some g' → ¬ g' = g := fun v hv g' e q => hv g rfl (by rw [e, q])
    refine ⟨g, rfl, fun j => blk_free hg j, fun y hy j v hv => ?_, ⟨⟨h.bl.al.node hg (h.bl.llow g rfl) hP, ?_, hP.own h.bl.mrow (hne mv h.bl.dif), h.bl.llow, h.bl.dif⟩, hP.own h.urow (hne uv h.udif), h.udif⟩⟩
    · have h1 := ndVals_at M k y hy j v hv
      rw [← htk, List.getElem?_take] at h1
      rw [blk_cell hg, ← Array.getElem?_toList]
      split at h1
      · exact h1
      · cases h1
    · rw [← nd_put M k x (by omega)]
      unfold putNd
      exact own_put _ (own_put _ (own_put _ (own_put _ (own_put _ (own_put _ (own_put _ h.bl.lrow))))))
end Go.Proofs.YthignlailbekmaaDoor
