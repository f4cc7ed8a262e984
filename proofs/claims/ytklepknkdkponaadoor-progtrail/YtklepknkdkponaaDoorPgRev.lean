import Derived.Test.YtklepknkdkponaaDoorPgTrail
import Derived.Test.YtklepknkdkponaaDoorPgStep
import Derived.WalkMore
import Derived.Shelf.RegionOpenPlain
/-! Numbers in a block, turned round. -/
namespace Go.Proofs.YtklepknkdkponaaDoor
set_option linter.unusedVariables false
set_option maxRecDepth 20000
open Go.RowKit Go.HeapKit

/-- A block that holds numbers. -/
def IsP (w : World) (g n : Nat) (F : Nat → Int) : Prop := ∃ cur, w.heap[g]? = some (.cells cur 3 (0, 0)) ∧ ∀ k, k < n → cur[k]? = some (.int .i64 (F k))
theorem IsP.at {w : World} {g n : Nat} {F : Nat → Int} (h : IsP w g n F) {k : Nat} (hk : k < n) : w.cell? ⟨g, k, none⟩ = some (.int .i64 (F k)) := by
  obtain ⟨cur, hb, hc⟩ := h
  rw [blk_cell hb]
  exact hc k hk
theorem IsP.free {w : World} {g n : Nat} {F : Nat → Int} (h : IsP w g n F) (k : Nat) : w.frozen? ⟨g, k, none⟩ = false := by
  obtain ⟨cur, hb, hc⟩ := h
  exact blk_free hb k
theorem IsP.kept {w w' : World} {S : Nat → Prop} {g n : Nat} {F : Nat → Int} (h : IsP w g n F) (hk : Keeps S w w') (hS : ¬ S g) : IsP w' g n F := by
  obtain ⟨cur, hb, hc⟩ := h
  exact ⟨cur, blk_kept hb hk hS, hc⟩
theorem IsP.set {w : World} {g n : Nat} {F : Nat → Int} (h : IsP w g n F) (k : Nat) (x : Int) (hk : k < n) : IsP (w.setCell ⟨g, k, none⟩ (.int .i64 x)) g n (fun j => if j = k then x else F j) := by
  obtain ⟨cur, hb, hc⟩ := h
  refine ⟨_, blk_set hb _, fun j hj => ?_⟩
  have hkc : k < cur.size := (Array.getElem?_eq_some_iff.1 (hc k hk)).1
  show _ = some (Value.int .i64 (if j = k then x else F j))
  by_cases e : j = k
  · subst e
    simp [hkc]
  · rw [if_neg e]
    simp only [Array.getElem?_setIfInBounds, if_neg (Ne.symm e)]
    exact hc j hj
theorem IsP.congr {w : World} {g n : Nat} {F G : Nat → Int} (h : IsP w g n F) (e : ∀ k, k < n → F k = G k) : IsP w g n G := by
  obtain ⟨cur, hb, hc⟩ := h
  exact ⟨cur, hb, fun k hk => by rw [← e k hk]; exact hc k hk⟩
def revAt (n i : Nat) (F : Nat → Int) (k : Nat) : Int := if k < i ∨ n < k + 1 + i then F (n - 1 - k) else F k
set_option maxHeartbeats 1000000 in
theorem rev_any (g n cap : Nat) (F : Nat → Int) (w : World) (h : IsP w g n F) (h1 : 1 ≤ n) (hn : n ≤ 1536) :
    Calls Tryd.prog 57 #[.slice (some ⟨g, 0, none⟩) n cap] w fun e w' => e = .returned (.tuple #[]) ∧ IsP w' g n (fun k => F (n - 1 - k)) ∧ Keeps (· = g) w w' := by
  have H : Hid (IsP w g n F) := h
  have mixed : Tryd.prog.follows Departure.mixedOrders = true := by kernel_rfl
  clear h
  go_enter Tryd.func57, Tryd.ntmps57
  go_wp2_with fail
  go_loopw [2, 3] (fun s2 s3 wr => ∃ i : Nat, s2 = .int .i64 i ∧ s3 = .int .i64 ((n : Int) - 1 - i) ∧ 2 * i ≤ n ∧ IsP wr g n (revAt n i F) ∧ Keeps (· = g) w wr) (fun _ s3 _ => (intOf s3 + 1).toNat)
  case atStart =>
    exact ⟨0, rfl, by simp, by omega, H.out.congr (fun k hk => by simp [revAt]; omega), Keeps.refl _ _⟩
  case round =>
    obtain ⟨i, rfl, rfl, hi2, hP, hk⟩ := hrel
    by_cases hlt : i + 1 + i < n
    · have i1 : (i : Int) < (n : Int) - 1 - i := by omega
      obtain ⟨j, hj⟩ : ∃ j : Nat, j = n - 1 - i := ⟨_, rfl⟩
      have ej : (n : Int) - 1 - i = j := by omega
      rw [ej] at i1 ⊢
      have c0 := hP.at (k := i) (by omega)
      have c1 := hP.at (k := j) (by omega)
      have z0 := hP.free i
      have z1 := hP.free j
      have i2 : (i : Int) < (n : Int) := by omega
      have i3 : (j : Int) < (n : Int) := by omega
      have i4 : ¬ n = 0 := by omega
      have i5 : ¬ i = j := by omega
      have hq := (hP.set i (revAt n i F j) (by omega)).set j (revAt n i F i) (by omega)
      have hkk := (hk.andSet (x := ⟨g, i, none⟩) (.inl rfl) (.int .i64 (revAt n i F j))).andSet (x := ⟨g, j, none⟩) (.inl rfl) (.int .i64 (revAt n i F i))
      obtain ⟨u, hu⟩ : ∃ u, u = revAt n i F i := ⟨_, rfl⟩
      obtain ⟨v, hv⟩ : ∃ v, v = revAt n i F j := ⟨_, rfl⟩
      rw [← hu] at c0 hq hkk
      rw [← hv] at c1 hq hkk
      have HQ : Hid (IsP ((wr.setCell ⟨g, i, none⟩ (.int .i64 v)).setCell ⟨g, j, none⟩ (.int .i64 u)) g n (fun k => if k = j then u else if k = i then v else revAt n i F k) ∧ Keeps (· = g) w ((wr.setCell ⟨g, i, none⟩ (.int .i64 v)).setCell ⟨g, j, none⟩ (.int .i64 u)) ∧ u = revAt n i F i ∧ v = revAt n i F j ∧ j = n - 1 - i) := ⟨hq, hkk, hu, hv, hj⟩
      clear hq hkk hu hv hj hP hk ej
      go_wp2_with fail
      go_region_o
      all_goals go_wp2_with fail
      all_goals
        have hP := HQ.out.1.kept (Keeps.drew None _) (fun f => f)
        have hk := HQ.out.2.1.andDrew
        obtain ⟨_, _, hu, hv, hj⟩ := HQ.out
        refine ⟨⟨i + 1, by simp, by congr 1; omega, by omega, hP.congr (fun k hk => ?_), hk⟩, by first | (simp [intOf]; done) | (simp [intOf]; omega)⟩
        rw [hu, hv]
        unfold revAt
        by_cases e1 : k = j
        · rw [if_pos e1, if_neg (by omega), if_pos (by omega)]
          congr 1
          omega
        · rw [if_neg e1]
          by_cases e2 : k = i
          · rw [if_pos e2, if_neg (by omega), if_pos (by omega)]
            congr 1
            omega
          · rw [if_neg e2]
            by_cases e3 : k < i ∨ n < k + 1 + i
            · rw [if_pos e3, if_pos (by omega)]
            · rw [if_neg e3, if_neg (by omega)]
    · have i1 : ¬ ((i : Int) < (n : Int) - 1 - i) := by omega
      go_wp2_with fail
      go_end0
      refine ⟨rfl, hP.congr (fun k hk => ?_), hk⟩
      unfold revAt
      by_cases e3 : k < i ∨ n < k + 1 + i
      · rw [if_pos e3]
      · rw [if_neg e3]
        congr 1
        omega
end Go.Proofs.YtklepknkdkponaaDoor
