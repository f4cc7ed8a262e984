import Derived.Test.YtpjmakbbakmhoaaWalk00
import Derived.Test.YtpjmakbbakmhoaaWalk01
import Derived.Test.YtpjmakbbakmhoaaWalk10
import Derived.Test.YtpjmakbbakmhoaaWalk11
/-! 'walk', whatever the sizes. -/
namespace Go.Proofs.Ytpjmakbbakmhoaa
open Go.RowKit Go.HeapKit

theorem walk_any (n0 n1 : Int) (ao : Option Addr) (len cap : Nat) (M : Nat → Nat → Int) (one : Bool) (w : World) (hM : Fives w ao len M) (hlen : len ≤ 1048576) :
    Calls Try.prog 8 #[.int .i64 n0, .int .i64 n1, .slice ao len cap, .bool one, .bool false] w fun e w' => e = .returned (.bool true) ∧ Below w.heap.size w w' := by
  cases g0 : fineW n0 <;> cases g1 : fineW n1
  · exact walk_00 n0 n1 ao len cap M one w hM hlen g0 g1
  · exact walk_01 n0 n1 ao len cap M one w hM hlen g0 g1
  · exact walk_10 n0 n1 ao len cap M one w hM hlen g0 g1
  · exact walk_11 n0 n1 ao len cap M one w hM hlen g0 g1
theorem moves_walk (n0 : Int) (ao : Option Addr) (len cap : Nat) (M : Nat → Nat → Int) (w : World) (hM : Fives w ao len M) (hlen : len ≤ 1048576) :
    Calls Try.prog 3 #[.int .i64 n0, .slice ao len cap] w fun e w' => e = .returned (.bool true) ∧ Below w.heap.size w w' := by
  have h := walk_any n0 0 ao len cap M true w hM hlen
  go_enter Try.func3, Try.ntmps3
  go_wp2_with fail
  refine h.mono ?_
  rintro e w' ⟨rfl, hb⟩
  have HB : Hid _ := hb
  clear hb h
  go_wp2_with fail
  go_ret
  exact ⟨rfl, HB.out⟩
theorem turns_walk (n0 n1 : Int) (ao : Option Addr) (len cap : Nat) (M : Nat → Nat → Int) (w : World) (hM : Fives w ao len M) (hlen : len ≤ 1048576) :
    Calls Try.prog 4 #[.int .i64 n0, .int .i64 n1, .slice ao len cap] w fun e w' => e = .returned (.bool true) ∧ Below w.heap.size w w' := by
  have h := walk_any n0 n1 ao len cap M false w hM hlen
  go_enter Try.func4, Try.ntmps4
  go_wp2_with fail
  refine h.mono ?_
  rintro e w' ⟨rfl, hb⟩
  have HB : Hid _ := hb
  clear hb h
  go_wp2_with fail
  go_ret
  exact ⟨rfl, HB.out⟩
end Go.Proofs.Ytpjmakbbakmhoaa
