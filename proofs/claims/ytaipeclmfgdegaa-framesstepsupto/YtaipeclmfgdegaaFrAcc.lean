import Derived.Test.YtaipeclmfgdegaaDqBase
import Derived.Test.YtaipeclmfgdegaaFrOp
/-! Accesses of an arena with all that it may touch; the law's own remainder; where the cells of a table lie. -/
namespace Go.Proofs.Ytaipeclmfgdegaa
open Go.RowKit Go.HeapKit Go.IntWalk

theorem arf_load (p : Nat) (F : Nat → Prop) (A : Ar) (x : Int) (w : World) (h : ArF w p F A) (hlog : A.log.length < 1000000000000) :
    Calls Try.prog 83 #[.pointer (some ⟨p, 0, none⟩), .int .i64 x] w fun e w' => e = .returned (.tuple #[.int .i64 (A.did 0 x 0 0).1.v, .int .i64 (A.did 0 x 0 0).1.err]) ∧ AA w w' p F (A.did 0 x 0 0).2 := by
  obtain ⟨vc, vl, h, rfl⟩ := h
  refine (load_did p vc vl A x 0 0 w h hlog).mono ?_
  rintro e w' ⟨rfl, hA⟩
  exact ⟨rfl, AA.of hA⟩
theorem arf_put (p : Nat) (F : Nat → Prop) (A : Ar) (x v : Int) (w : World) (h : ArF w p F A) (hlog : A.log.length < 1000000000000) :
    Calls Try.prog 85 #[.pointer (some ⟨p, 0, none⟩), .int .i64 x, .int .i64 v] w fun e w' => e = .returned (.int .i64 (A.did 1 x v 0).1.err) ∧ AA w w' p F (A.did 1 x v 0).2 := by
  obtain ⟨vc, vl, h, rfl⟩ := h
  refine (store_did p vc vl A x v 0 w h hlog).mono ?_
  rintro e w' ⟨rfl, hA⟩
  exact ⟨rfl, AA.of hA⟩
theorem arf_add (p : Nat) (F : Nat → Prop) (A : Ar) (x v : Int) (w : World) (h : ArF w p F A) (hlog : A.log.length < 1000000000000) :
    Calls Try.prog 82 #[.pointer (some ⟨p, 0, none⟩), .int .i64 x, .int .i64 v] w fun e w' => e = .returned (.tuple #[.int .i64 (A.did 3 x v 0).1.v, .int .i64 (A.did 3 x v 0).1.err]) ∧ AA w w' p F (A.did 3 x v 0).2 := by
  obtain ⟨vc, vl, h, rfl⟩ := h
  refine (add_did p vc vl A x v 0 w h hlog).mono ?_
  rintro e w' ⟨rfl, hA⟩
  exact ⟨rfl, AA.of hA⟩
theorem arf_more (p : Nat) (F : Nat → Prop) (A : Ar) (n : Int) (w : World) (h : ArF w p F A) (hlog : A.log.length < 1000000000000) :
    Calls Try.prog 20 #[.pointer (some ⟨p, 0, none⟩), .int .i64 n] w fun e w' => e = .returned (.tuple #[.int .i64 (A.did 4 0 n 0).1.v, .int .i64 (A.did 4 0 n 0).1.err]) ∧ AA w w' p F (A.did 4 0 n 0).2 := by
  obtain ⟨vc, vl, h, rfl⟩ := h
  refine (reserve_did p vc vl A 4 0 n 0 (by simp [Other]) w h hlog).mono ?_
  rintro e w' ⟨rfl, hA⟩
  exact ⟨rfl, AA.of hA⟩
theorem meth8_load (p : Nat) (w : World) : (method 241 26 (.pointer (some ⟨p, 0, none⟩)) "Load").run Try.prog w = .ok (83, .pointer (some ⟨p, 0, none⟩)) w := by kernel_rfl
theorem meth8_store (p : Nat) (w : World) : (method 241 26 (.pointer (some ⟨p, 0, none⟩)) "Store").run Try.prog w = .ok (85, .pointer (some ⟨p, 0, none⟩)) w := by kernel_rfl
theorem meth8_add (p : Nat) (w : World) : (method 241 26 (.pointer (some ⟨p, 0, none⟩)) "Add").run Try.prog w = .ok (82, .pointer (some ⟨p, 0, none⟩)) w := by kernel_rfl
theorem meth8_reserve (p : Nat) (w : World) : (method 241 26 (.pointer (some ⟨p, 0, none⟩)) "Reserve").run Try.prog w = .ok (20, .pointer (some ⟨p, 0, none⟩)) w := by kernel_rfl
theorem nil8_load (p : Nat) (w : World) : (nilAhead 241 26 (.pointer (some ⟨p, 0, none⟩)) "Load").run Try.prog w = .ok (some false) w := by kernel_rfl
theorem nil8_store (p : Nat) (w : World) : (nilAhead 241 26 (.pointer (some ⟨p, 0, none⟩)) "Store").run Try.prog w = .ok (some false) w := by kernel_rfl
theorem nil8_add (p : Nat) (w : World) : (nilAhead 241 26 (.pointer (some ⟨p, 0, none⟩)) "Add").run Try.prog w = .ok (some false) w := by kernel_rfl
theorem nil8_reserve (p : Nat) (w : World) : (nilAhead 241 26 (.pointer (some ⟨p, 0, none⟩)) "Reserve").run Try.prog w = .ok (some false) w := by kernel_rfl

theorem next_any (b f : Int) (w : World) : Calls Try.prog 57 #[.agg #[.int .i64 b, .int .i64 f]] w fun e w' => e = .returned (.int .i64 b) ∧ Keeps None w w' := by
  go_enter Try.func57, Try.ntmps57
  go_wp2
  go_ret
  exact ⟨rfl, Keeps.alloc None w _⟩
theorem beginAt_any (b f fr : Int) (w : World) : Calls Try.prog 53 #[.agg #[.int .i64 b, .int .i64 f], .int .i64 fr] w fun e w' => e = .returned (.int .i64 (beginAt b fr)) ∧ Keeps None w w' := by
  go_enter Try.func53, Try.ntmps53
  go_wp2
  go_ret
  exact ⟨by simp [beginAt], Keeps.alloc None w _⟩
theorem joinAt_any (b f fr : Int) (w : World) : Calls Try.prog 29 #[.agg #[.int .i64 b, .int .i64 f], .int .i64 fr] w fun e w' => e = .returned (.int .i64 (joinAt b fr)) ∧ Keeps None w w' := by
  have hb := beginAt_any b f fr
  unfold joinAt
  generalize beginAt b fr = x at hb ⊢
  go_enter Try.func29, Try.ntmps29
  go_wp2_with fail
  refine (hb _).mono ?_
  rintro e w2 ⟨rfl, hk2⟩
  go_wp2_with fail
  go_ret
  exact ⟨by simp, (Keeps.alloc None w _).trans hk2 (fun _ f _ => f)⟩
theorem markAt_any (b f fr : Int) (w : World) : Calls Try.prog 62 #[.agg #[.int .i64 b, .int .i64 f], .int .i64 fr] w fun e w' => e = .returned (.int .i64 (markAt b fr)) ∧ Keeps None w w' := by
  have hb := beginAt_any b f fr
  unfold markAt
  generalize beginAt b fr = x at hb ⊢
  go_enter Try.func62, Try.ntmps62
  go_wp2_with fail
  refine (hb _).mono ?_
  rintro e w2 ⟨rfl, hk2⟩
  go_wp2_with fail
  go_ret
  exact ⟨by simp, (Keeps.alloc None w _).trans hk2 (fun _ f _ => f)⟩
theorem slotAt_any (b f fr s : Int) (w : World) : Calls Try.prog 59 #[.agg #[.int .i64 b, .int .i64 f], .int .i64 fr, .int .i64 s] w fun e w' => e = .returned (.int .i64 (slotAt b fr s)) ∧ Keeps None w w' := by
  have hb := beginAt_any b f fr
  unfold slotAt
  generalize beginAt b fr = x at hb ⊢
  go_enter Try.func59, Try.ntmps59
  go_wp2_with fail
  refine (hb _).mono ?_
  rintro e w2 ⟨rfl, hk2⟩
  go_wp2_with fail
  go_ret
  exact ⟨by simp, (Keeps.alloc None w _).trans hk2 (fun _ f _ => f)⟩
theorem framesFit_any (f : Int) (w : World) : Calls Try.prog 28 #[.int .i64 f] w fun e w' => e = .returned (.bool (decide (1 ≤ f ∧ f ≤ 4096))) ∧ w' = w := by
  by_cases h1 : 1 ≤ f <;> by_cases h2 : f ≤ 4096
  all_goals
    go_enter Try.func28, Try.ntmps28
    go_wp2
    go_ret
    exact ⟨by simp [h1, h2], rfl⟩
end Go.Proofs.Ytaipeclmfgdegaa
