import Derived.Test.YtpjmakbbakmhoaaPlaysDo
/-! Any move. -/
namespace Go.Proofs.Ytpjmakbbakmhoaa
open Go.RowKit Go.HeapKit

theorem plays_any (av : Value) (r pb : Nat) (F G H : Nat → Prop) (A : Ar) (nN nA : Nat) (s k x a b : Int) (w : World) (hp : Pr w av r F G A) (hb : Bk w pb H nN nA) (hN : nN ≤ 2097152) (hA : nA ≤ 2097152) (hl : A.log.length ≤ 2097152) :
    Calls Try.prog 27 #[av, .pointer (some ⟨r, 0, none⟩), .agg #[.int .i64 s, .int .i64 k, .int .i64 x, .int .i64 a, .int .i64 b], .pointer (some ⟨pb, 0, none⟩)] w fun e w' => e = .returned (.bool true) ∧ PlaysPost w w' av r pb F G H A nN nA := by
  by_cases h : 0 ≤ k ∧ k ≤ 4
  · exact plays_do av r pb F G H A nN nA s k x a b h.1 h.2 w hp hb hl
  by_cases k5 : k = 5
  · subst k5; exact plays_watch av r pb F G H A nN nA s x a b w hp hb
  by_cases k6 : k = 6
  · subst k6; exact plays_who av r pb F G H A nN nA s x a b w hp hb
  by_cases k7 : k = 7
  · subst k7; exact plays_size av r pb F G H A nN nA s x a b w hp hb
  by_cases k8 : k = 8
  · subst k8; exact plays_mark av r pb F G H A nN nA s x a b w hp hb
  by_cases k9 : k = 9
  · subst k9; exact plays_cells av r pb F G H A nN nA s x a b w hp hb hN
  by_cases k10 : k = 10
  · subst k10; exact plays_log av r pb F G H A nN nA s x a b w hp hb hA hl
  exact plays_other av r pb F G H A nN nA s k x a b h (by simpa using k5) (by simpa using k6) (by simpa using k7) (by simpa using k8) (by simpa using k9) (by simpa using k10) w hp hb
end Go.Proofs.Ytpjmakbbakmhoaa
