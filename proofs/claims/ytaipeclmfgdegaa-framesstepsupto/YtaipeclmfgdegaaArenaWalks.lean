import Derived.Test.YtaipeclmfgdegaaNoteWalks
/-! The accesses of an arena. -/
namespace Go.Proofs.Ytaipeclmfgdegaa
open Go.RowKit Go.HeapKit

def Ar.has (A : Ar) (x : Int) : Bool := decide (0 ≤ x) && decide (x < A.cells.length)
def Ar.val (A : Ar) (k : Nat) : Int := A.cells.getD k 0

theorem load_nil (x : Int) (w : World) :
    Calls Try.prog 83 #[.pointer none, .int .i64 x] w fun e w' => e = .returned (.tuple #[.int .i64 0, .int .i64 20]) ∧ w' = w := by
  go_enter Try.func83, Try.ntmps83
  go_wp2
  go_ret2
  exact ⟨rfl, rfl⟩
theorem load_out (p : Nat) (vc vl : Value) (A : Ar) (x : Int) (w : World) (h : IsArena w p vc vl A) (hx : A.has x = false) :
    Calls Try.prog 83 #[.pointer (some ⟨p, 0, none⟩), .int .i64 x] w fun e w' => e = .returned (.tuple #[.int .i64 0, .int .i64 20]) ∧ w' = w := by
  have hx' : (decide (0 ≤ x) && decide (x < A.cells.length)) = false := hx
  go_enter Try.func83, Try.ntmps83
  go_wp2_with (go_at_call 86; refine (has_any p 0 _ x w h.c1).mono ?_; rw [hx']; rintro e w' ⟨rfl, rfl⟩)
  go_ret2
  exact ⟨rfl, rfl⟩
theorem load_in (p : Nat) (vc vl : Value) (A : Ar) (k : Nat) (w : World) (h : IsArena w p vc vl A) (hx : k < A.cells.length) (hlog : A.log.length < 1000000000000) :
    Calls Try.prog 83 #[.pointer (some ⟨p, 0, none⟩), .int .i64 k] w fun e w' => e = .returned (.tuple #[.int .i64 (A.val k), .int .i64 0]) ∧ After w w' p vc vl (A.noted ⟨0, 0, k, A.val k, 0, true⟩) := by
  have hx' : (decide (0 ≤ (k : Int)) && decide ((k : Int) < A.cells.length)) = true := by simp; omega
  have c2 := h.c2
  obtain ⟨g, cap, rfl, hcap, hgp, hv, hf⟩ := h.at k hx
  change w.cell? ⟨g, k, none⟩ = some (.int .i64 (A.val k)) at hv
  go_enter Try.func83, Try.ntmps83
  go_wp2_with (first
    | (go_at_call 86; refine (has_any p 0 _ k _ h.c1).mono ?_; rw [hx']; rintro e w' ⟨rfl, rfl⟩)
    | (go_at_call 34; refine (note_any p _ vl A 0 0 k (A.val k) 0 true _ h hlog).mono ?_; rintro e w1 ⟨rfl, hA⟩))
  go_ret2
  exact ⟨rfl, hA⟩

theorem store_nil (x v : Int) (w : World) :
    Calls Try.prog 85 #[.pointer none, .int .i64 x, .int .i64 v] w fun e w' => e = .returned (.int .i64 20) ∧ w' = w := by
  go_enter Try.func85, Try.ntmps85
  go_wp2
  go_ret
  exact ⟨rfl, rfl⟩
theorem store_out (p : Nat) (vc vl : Value) (A : Ar) (x v : Int) (w : World) (h : IsArena w p vc vl A) (hx : A.has x = false) :
    Calls Try.prog 85 #[.pointer (some ⟨p, 0, none⟩), .int .i64 x, .int .i64 v] w fun e w' => e = .returned (.int .i64 20) ∧ w' = w := by
  have hx' : (decide (0 ≤ x) && decide (x < A.cells.length)) = false := hx
  go_enter Try.func85, Try.ntmps85
  go_wp2_with (go_at_call 86; refine (has_any p 0 _ x w h.c1).mono ?_; rw [hx']; rintro e w' ⟨rfl, rfl⟩)
  go_ret
  exact ⟨rfl, rfl⟩
theorem Keeps.put {w : World} {p g n cap k : Nat} {vl : Value} (v : Value) : Keeps (Foot p (.slice (some ⟨g, 0, none⟩) n cap) vl) w (w.setCell ⟨g, k, none⟩ v) :=
  Keeps.setCell w (a := ⟨g, k, none⟩) (.inr (.inl rfl)) v
theorem store_in (p : Nat) (vc vl : Value) (A : Ar) (k : Nat) (v : Int) (w : World) (h : IsArena w p vc vl A) (hx : k < A.cells.length) (hlog : A.log.length < 1000000000000) :
    Calls Try.prog 85 #[.pointer (some ⟨p, 0, none⟩), .int .i64 k, .int .i64 v] w fun e w' => e = .returned (.int .i64 0) ∧ After w w' p vc vl ((A.put k v).noted ⟨0, 1, k, v, 0, true⟩) := by
  have hx' : (decide (0 ≤ (k : Int)) && decide ((k : Int) < A.cells.length)) = true := by simp; omega
  have c2 := h.c2
  obtain ⟨g, cap, rfl, hcap, hgp, hv, hf⟩ := h.at k hx
  have h2 := h.put k rfl v
  go_enter Try.func85, Try.ntmps85
  go_wp2_with (first
    | (go_at_call 86; refine (has_any p 0 _ k _ h.c1).mono ?_; rw [hx']; rintro e w' ⟨rfl, rfl⟩)
    | (go_at_call 34; refine (note_any p _ vl _ 0 1 k v 0 true _ h2 hlog).mono ?_; rintro e w1 ⟨rfl, hA⟩))
  go_ret
  exact ⟨rfl, After.trans (Keeps.put _) (.refl _ _) (.refl _ _) hA⟩

theorem add_nil (x v : Int) (w : World) :
    Calls Try.prog 82 #[.pointer none, .int .i64 x, .int .i64 v] w fun e w' => e = .returned (.tuple #[.int .i64 0, .int .i64 20]) ∧ w' = w := by
  go_enter Try.func82, Try.ntmps82
  go_wp2
  go_ret2
  exact ⟨rfl, rfl⟩
theorem add_out (p : Nat) (vc vl : Value) (A : Ar) (x v : Int) (w : World) (h : IsArena w p vc vl A) (hx : A.has x = false) :
    Calls Try.prog 82 #[.pointer (some ⟨p, 0, none⟩), .int .i64 x, .int .i64 v] w fun e w' => e = .returned (.tuple #[.int .i64 0, .int .i64 20]) ∧ w' = w := by
  have hx' : (decide (0 ≤ x) && decide (x < A.cells.length)) = false := hx
  go_enter Try.func82, Try.ntmps82
  go_wp2_with (go_at_call 86; refine (has_any p 0 _ x w h.c1).mono ?_; rw [hx']; rintro e w' ⟨rfl, rfl⟩)
  go_ret2
  exact ⟨rfl, rfl⟩
theorem add_in (p : Nat) (vc vl : Value) (A : Ar) (k : Nat) (v : Int) (w : World) (h : IsArena w p vc vl A) (hx : k < A.cells.length) (hlog : A.log.length < 1000000000000) :
    Calls Try.prog 82 #[.pointer (some ⟨p, 0, none⟩), .int .i64 k, .int .i64 v] w fun e w' => e = .returned (.tuple #[.int .i64 (wrap64 (A.val k + v)), .int .i64 0]) ∧
      After w w' p vc vl ((A.put k (wrap64 (A.val k + v))).noted ⟨0, 3, k, v, wrap64 (A.val k + v), true⟩) := by
  have hx' : (decide (0 ≤ (k : Int)) && decide ((k : Int) < A.cells.length)) = true := by simp; omega
  have c2 := h.c2
  obtain ⟨g, cap, rfl, hcap, hgp, hv, hf⟩ := h.at k hx
  change w.cell? ⟨g, k, none⟩ = some (.int .i64 (A.val k)) at hv
  have h2 := h.put k rfl (wrap64 (A.val k + v))
  have d2 := h2.c2
  have hv2 : (w.setCell ⟨g, k, none⟩ (.int .i64 (wrap64 (A.val k + v)))).cell? ⟨g, k, none⟩ = some (.int .i64 (wrap64 (A.val k + v))) := World.cell?_setCell_same w ⟨g, k, none⟩ _ hv
  go_enter Try.func82, Try.ntmps82
  go_wp2_with (first
    | (go_at_call 86; refine (has_any p 0 _ k _ h.c1).mono ?_; rw [hx']; rintro e w' ⟨rfl, rfl⟩)
    | (go_at_call 34; refine (note_any p _ vl _ 0 3 k v _ true _ h2 hlog).mono ?_; rintro e w1 ⟨rfl, hA⟩))
  go_ret2
  exact ⟨rfl, After.trans (Keeps.put _) (.refl _ _) (.refl _ _) hA⟩
end Go.Proofs.Ytaipeclmfgdegaa
