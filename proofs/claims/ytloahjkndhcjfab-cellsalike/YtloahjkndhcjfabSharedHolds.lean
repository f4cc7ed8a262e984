import Derived.Test.YtloahjkndhcjfabSharedDid
import Derived.Test.YtloahjkndhcjfabRefDoIn
/-! New of the document, the act of a move, 'holds'. -/
namespace Go.Proofs.Ytloahjkndhcjfab
open Go.RowKit Go.HeapKit

def fine (n : Int) : Bool := decide (0 ≤ n) && decide (n ≤ 1048576)
def szOf (n : Int) : Nat := if fine n then n.toNat else 0
def errOf (n : Int) : Int := if fine n then 0 else 3

theorem rnew_any (n : Int) (w : World) : Calls Try.prog 10 #[.int .i64 n] w fun e w' => e = .returned (.tuple #[.pointer (some ⟨w.heap.size, 0, none⟩), .int .i64 (errOf n)]) ∧
    IsRef w' w.heap.size (.slice none 0 0) (.slice none 0 0) (Ar.new (szOf n)) ∧ Keeps None w w' := by
  by_cases h0 : n < 0
  · have e1 : fine n = false := by simp [fine]; omega
    go_enter Try.func10, Try.ntmps10
    go_wp2
    go_ret2
    exact ⟨by simp [errOf, e1], ⟨by simpa [szOf, e1, Ar.new] using new_at w _ _ rfl, World.ownsRow_nil _ _ _ _, World.ownsRow_nil _ _ _ _, by simp [szOf, e1, Ar.new]⟩, (Keeps.refl _ _).andAlloc _⟩
  by_cases h1 : 1048576 < n
  · have e1 : fine n = false := by simp [fine]; omega
    go_enter Try.func10, Try.ntmps10
    go_wp2
    go_ret2
    exact ⟨by simp [errOf, e1], ⟨by simpa [szOf, e1, Ar.new] using new_at w _ _ rfl, World.ownsRow_nil _ _ _ _, World.ownsRow_nil _ _ _ _, by simp [szOf, e1, Ar.new]⟩, (Keeps.refl _ _).andAlloc _⟩
  · have e1 : fine n = true := by simp [fine]; omega
    obtain ⟨k, rfl⟩ : ∃ k : Nat, n = k := ⟨n.toNat, by omega⟩
    go_enter Try.func10, Try.ntmps10
    go_wp2
    go_ret2
    exact ⟨by simp [errOf, e1], ⟨by simpa [szOf, e1, Ar.new] using new_at w _ _ rfl, World.ownsRow_nil _ _ _ _, World.ownsRow_nil _ _ _ _, by simp [szOf, e1, Ar.new]; omega⟩, (Keeps.refl _ _).andAlloc _⟩

/-- A new Shared, or none. -/
theorem shnew_any (n : Int) (w : World) : Calls Try.prog 11 #[.int .i64 n] w fun e w' => ∃ sv F, e = .returned (.tuple #[sv, .int .i64 (errOf n)]) ∧
    IsSh w' sv F (Ar.new (szOf n)) ∧ Keeps None w w' ∧ (∀ k, F k → w.heap.size ≤ k) ∧ ((fine n = false ∧ sv = .pointer none) ∨ (fine n = true ∧ ∃ p, sv = .pointer (some ⟨p, 0, none⟩))) := by
  cases e1 : fine n with
  | false =>
    refine (snew_bad n w e1).mono ?_
    rintro e w' ⟨rfl, rfl⟩
    exact ⟨.pointer none, fun _ => False, by simp [errOf, e1], ⟨.inl ⟨rfl, by simp [szOf, e1], fun _ f => f⟩⟩, Keeps.refl _ _, fun _ f => f.elim, .inl ⟨rfl, rfl⟩⟩
  | true =>
    obtain ⟨k, rfl⟩ : ∃ k : Nat, n = k := ⟨n.toNat, by simp [fine] at e1; omega⟩
    refine (snew_ok k w (by simp [fine] at e1; omega)).mono ?_
    rintro e w' ⟨rfl, hS, hk⟩
    refine ⟨_, SFoot (w.heap.size + 1) (.slice (some ⟨w.heap.size, 0, none⟩) k k), by simp [errOf, e1], ⟨.inr ⟨_, _, rfl, by simpa [szOf, e1] using hS, fun _ => Iff.rfl⟩⟩, hk, ?_, .inr ⟨rfl, _, rfl⟩⟩
    rintro i (rfl | e)
    · omega
    · simp [Value.ownBlock] at e; omega

theorem act_any (s k x a b : Int) (w : World) : Calls Try.prog 15 #[.agg #[.int .i64 s, .int .i64 k, .int .i64 x, .int .i64 a, .int .i64 b]] w fun e w' =>
    e = .returned (.agg #[.int .i64 0, .int .i64 k, .int .i64 x, .int .i64 a, .int .i64 b]) ∧ Keeps None w w' := by
  go_enter Try.func15, Try.ntmps15
  go_wp2
  refine bodyPost_ret (results_row (q := 2) (ty := 40) rfl rfl (run_loadVar_row _ (w.heap.size + 1) 40 40 _ _ _ (new_at _ _ _ (by simp)) Try.underlying40 rfl (by kernel_rfl))) rfl ?_
  exact ⟨rfl, ((Keeps.refl _ _).andAlloc _).andAlloc _⟩
theorem mod2 (x : Int) (w : World) : Calls Try.prog 12 #[.int .i64 x, .int .i64 2] w fun e w' => e = .returned (.int .i64 (x % 2)) ∧ w' = w := mod_any x 2 (by decide) (by decide) w

theorem sh_load_in (sv : Value) (F : Nat → Prop) (A : Ar) (k : Nat) (w : World) (h : IsSh w sv F A) (hk : k < A.cells.length) :
    Calls Try.prog 38 #[sv, .int .i64 k] w fun e w' => e = .returned (.tuple #[.int .i64 (A.val k), .int .i64 0]) ∧ w' = w := by
  rcases h.ex with ⟨rfl, rfl, _⟩ | ⟨p, vs, rfl, hs, hF⟩
  · simp [Ar.new] at hk
  · exact sload_in p vs A k w hs hk
theorem sh_load_out (sv : Value) (F : Nat → Prop) (A : Ar) (x : Int) (w : World) (h : IsSh w sv F A) (hk : A.has x = false) :
    Calls Try.prog 38 #[sv, .int .i64 x] w fun e w' => e = .returned (.tuple #[.int .i64 0, .int .i64 20]) ∧ w' = w := by
  rcases h.ex with ⟨rfl, rfl, _⟩ | ⟨p, vs, rfl, hs, hF⟩
  · exact sload_nil x w
  · exact sload_out p vs A x w hs hk

theorem holds_any (sv vh : Value) (F : Nat → Prop) (A : Ar) (w : World) (h : IsSh w sv F A) (ho : w.ownsRow 0 2 1 vh A.cells.length (A.cells.map (Value.int .i64))) (hsmall : A.cells.length ≤ 1048576) :
    Calls Try.prog 18 #[sv, vh] w fun e w' => e = .returned (.bool true) ∧ w' = w := by
  have HH : Hid (IsSh w sv F A) := h
  have HO : Hid (w.ownsRow 0 2 1 vh A.cells.length (A.cells.map (Value.int .i64))) := ho
  obtain ⟨ao, cap, rfl⟩ := own_shape ho
  clear h ho
  go_enter Try.func18, Try.ntmps18
  go_wp2_with fail
  go_loopw [5, 6, 7] (fun i _ _ wr => ∃ k : Nat, k ≤ A.cells.length ∧ i = .int .i64 k ∧ wr = w) (fun i _ _ _ => A.cells.length - (intOf i).toNat)
  case atStart => exact ⟨0, Nat.zero_le _, rfl, rfl⟩
  case round =>
    obtain ⟨k, hk, rfl, rfl⟩ := hrel
    by_cases hkn : k < A.cells.length
    · obtain ⟨g, rfl, hc⟩ : ∃ g, ao = some ⟨g, 0, none⟩ ∧ wr.cell? ⟨g, k, none⟩ = some (.int .i64 (A.val k)) := by
        rcases HO.out.2 with ⟨_, h0⟩ | ⟨g, cap', cur, he, _, hg, _, _, _, ht⟩
        · omega
        · injection he with e1 e2 e3
          subst e1
          refine ⟨g, rfl, ?_⟩
          have hu := HO.out.cells (g := g) rfl k (.int .i64 (A.val k)) (by simp [Ar.val, List.getD, hkn])
          rwa [show (⟨g, 0, none⟩ : Addr).add k = ⟨g, k, none⟩ by unfold Addr.add; split <;> simp_all] at hu
      have hl := sh_load_in sv F A k wr HH.out hkn
      have i1 : (k : Int) < (A.cells.length : Int) := by omega
      go_wp2_with (go_at_call 38; refine hl.mono ?_; rintro e w' ⟨rfl, rfl⟩)
      go_roundw
      case rel => exact ⟨k + 1, by omega, by go_num, by first | rfl | trivial⟩
      case measure => simp [intOf]; omega
    · obtain rfl : k = A.cells.length := by omega
      have hl := sh_load_out sv F A A.cells.length wr HH.out (by simp [Ar.has])
      have hm := shmark_any sv F A wr HH.out
      go_wp2_with (first
        | (go_at_call 38; refine hl.mono ?_; rintro e w' ⟨rfl, rfl⟩)
        | (go_at_call 17; refine hm.mono ?_; rintro e w' ⟨rfl, rfl⟩))
      go_ret
      exact ⟨by simp, by first | rfl | trivial⟩
end Go.Proofs.Ytloahjkndhcjfab
