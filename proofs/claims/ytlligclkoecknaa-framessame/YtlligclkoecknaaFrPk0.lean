import Derived.Test.YtlligclkoecknaaFrPickH
/-! A pick: the walk. -/
namespace Go.Proofs.Ytlligclkoecknaa
open Go.RowKit Go.HeapKit Go.IntWalk

def PlayAt (w0 w : World) (P p : Nat) (ao : Option Addr) (cap : Nat) (S : Pl) : Prop := ∃ F va vh vd rs, IsPlay w0 w P p F ao cap va vh vd rs S
theorem arf_who (p : Nat) (F : Nat → Prop) (A : Ar) (u : Int) (w : World) (h : ArF w p F A) :
    Calls Try.prog 49 #[.pointer (some ⟨p, 0, none⟩), .int .i64 u] w fun e w' => e = .returned (.tuple #[]) ∧ AA w w' p F { A with actor := u } := by
  obtain ⟨vc, vl, h, rfl⟩ := h
  refine (who_any p vc vl A u w h).mono ?_
  rintro e w' ⟨rfl, h', hk⟩
  exact ⟨rfl, _, ⟨vc, vl, h', rfl⟩, hk, fun k f => .inl f⟩
end Go.Proofs.Ytlligclkoecknaa
