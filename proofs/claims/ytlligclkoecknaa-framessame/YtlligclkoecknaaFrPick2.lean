import Derived.Test.YtlligclkoecknaaFrPkA
import Derived.Test.YtlligclkoecknaaFrPkB
import Derived.Test.YtlligclkoecknaaFrPkC
import Derived.Test.YtlligclkoecknaaFrPkD
import Derived.Test.YtlligclkoecknaaFrPkE
import Derived.Test.YtlligclkoecknaaFrPkF
import Derived.Test.YtlligclkoecknaaFrPkG
import Derived.Test.YtlligclkoecknaaFrPkH
/-! A pick: the walk. -/
namespace Go.Proofs.Ytlligclkoecknaa
open Go.RowKit Go.HeapKit Go.IntWalk

theorem pick_any (w0 w : World) (P p : Nat) (ao : Option Addr) (cap : Nat) (S : Pl) (i : Nat) (h : PlayAt w0 w P p ao cap S) (hi : i < S.alive.length) (hsafe : Safe S i) (hsm : S.rounds.length ≤ 64) (hsl : Small S) :
    Calls Try.prog 37 #[.pointer (some ⟨P, 0, none⟩), .int .i64 i] w fun e w' => e = .returned (.tuple #[]) ∧ PlayAt w0 w' P p ao cap (S.pick i) := by
  by_cases c4 : (S.went i).1.ans.1 = 4
  · exact pick_c4 w0 w P p ao cap S i h hi hsafe hsm hsl c4
  by_cases c14 : (S.went i).1.ans.1 = 14
  · exact pick_c14 w0 w P p ao cap S i h hi hsafe hsm hsl c14
  by_cases c12 : (S.went i).1.ans.1 = 12 ∨ (S.went i).1.ans.1 = 10
  · exact pick_c12 w0 w P p ao cap S i h hi hsafe hsm hsl c12
  by_cases c13 : (S.went i).1.ans.1 = 13
  · exact pick_c13 w0 w P p ao cap S i h hi hsafe hsm hsl c13
  by_cases c11 : (S.went i).1.ans.1 = 11
  · exact pick_c11 w0 w P p ao cap S i h hi hsafe hsm hsl c11
  by_cases c15 : (S.went i).1.ans.1 = 15
  · exact pick_c15 w0 w P p ao cap S i h hi hsafe hsm hsl c15
  by_cases c9 : (S.went i).1.ans.1 = 9
  · exact pick_c9 w0 w P p ao cap S i h hi hsafe hsm hsl c9
  · exact pick_els w0 w P p ao cap S i h hi hsafe hsm hsl ⟨c4, c14, c12, c13, c11, c15, c9⟩
end Go.Proofs.Ytlligclkoecknaa
