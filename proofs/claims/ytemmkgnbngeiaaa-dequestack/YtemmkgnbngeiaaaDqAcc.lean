import Derived.Test.YtemmkgnbngeiaaaDqOp
/-! An access of an arena by the machine, whatever the address. -/
namespace Go.Proofs.Ytemmkgnbngeiaaa
open Go.RowKit Go.HeapKit Go.IntWalk

theorem arf_load (p : Nat) (F : Nat → Prop) (A : Ar) (x : Int) (w : World) (h : ArF w p F A) (hlog : A.log.length < 1000000000000) :
    Calls Try.prog 91 #[.pointer (some ⟨p, 0, none⟩), .int .i64 x] w fun e w' => e = .returned (.tuple #[.int .i64 (A.did 0 x 0 0).1.v, .int .i64 (A.did 0 x 0 0).1.err]) ∧ AA w w' p F (A.did 0 x 0 0).2 := by
  obtain ⟨vc, vl, h, rfl⟩ := h
  refine (load_did p vc vl A x 0 0 w h hlog).mono ?_
  rintro e w' ⟨rfl, hA⟩
  exact ⟨rfl, AA.of hA⟩
theorem arf_put (p : Nat) (F : Nat → Prop) (A : Ar) (x v : Int) (w : World) (h : ArF w p F A) (hlog : A.log.length < 1000000000000) :
    Calls Try.prog 35 #[.pointer (some ⟨p, 0, none⟩), .int .i64 x, .int .i64 v] w fun e w' => e = .returned (.int .i64 (A.did 1 x v 0).1.err) ∧ AA w w' p F (A.did 1 x v 0).2 := by
  obtain ⟨vc, vl, h, rfl⟩ := h
  refine (store_did p vc vl A x v 0 w h hlog).mono ?_
  rintro e w' ⟨rfl, hA⟩
  exact ⟨rfl, AA.of hA⟩
theorem arf_cas (p : Nat) (F : Nat → Prop) (A : Ar) (x o v : Int) (w : World) (h : ArF w p F A) (hlog : A.log.length < 1000000000000) :
    Calls Try.prog 90 #[.pointer (some ⟨p, 0, none⟩), .int .i64 x, .int .i64 o, .int .i64 v] w fun e w' => e = .returned (.tuple #[.bool (A.did 2 x o v).1.ok, .int .i64 (A.did 2 x o v).1.err]) ∧ AA w w' p F (A.did 2 x o v).2 := by
  obtain ⟨vc, vl, h, rfl⟩ := h
  refine (cas_did p vc vl A x o v w h hlog).mono ?_
  rintro e w' ⟨rfl, hA⟩
  exact ⟨rfl, AA.of hA⟩
theorem arf_more (p : Nat) (F : Nat → Prop) (A : Ar) (n : Int) (w : World) (h : ArF w p F A) (hlog : A.log.length < 1000000000000) :
    Calls Try.prog 34 #[.pointer (some ⟨p, 0, none⟩), .int .i64 n] w fun e w' => e = .returned (.tuple #[.int .i64 (A.did 4 0 n 0).1.v, .int .i64 (A.did 4 0 n 0).1.err]) ∧ AA w w' p F (A.did 4 0 n 0).2 := by
  obtain ⟨vc, vl, h, rfl⟩ := h
  refine (reserve_did p vc vl A 4 0 n 0 (by simp [Other]) w h hlog).mono ?_
  rintro e w' ⟨rfl, hA⟩
  exact ⟨rfl, AA.of hA⟩
theorem meth3_load (p : Nat) (w : World) : (method 259 24 (.pointer (some ⟨p, 0, none⟩)) "Load").run Try.prog w = .ok (91, .pointer (some ⟨p, 0, none⟩)) w := by kernel_rfl
theorem meth3_cas (p : Nat) (w : World) : (method 259 24 (.pointer (some ⟨p, 0, none⟩)) "CAS").run Try.prog w = .ok (90, .pointer (some ⟨p, 0, none⟩)) w := by kernel_rfl
theorem nil3_load (p : Nat) (w : World) : (nilAhead 259 24 (.pointer (some ⟨p, 0, none⟩)) "Load").run Try.prog w = .ok (some false) w := by kernel_rfl
theorem nil3_cas (p : Nat) (w : World) : (nilAhead 259 24 (.pointer (some ⟨p, 0, none⟩)) "CAS").run Try.prog w = .ok (some false) w := by kernel_rfl
end Go.Proofs.Ytemmkgnbngeiaaa
