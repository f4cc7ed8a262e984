import Derived.Test.YtolhojagbiaamaaRbBegin
/-! The sweep: who stands for both. -/
namespace Go.Proofs.Ytolhojagbiaamaa
set_option linter.unusedVariables false
set_option maxRecDepth 20000
set_option linter.unusedSimpArgs false
open Go.RowKit Go.HeapKit

theorem SetV.toM {w : World} {base S o gu cu gm cm gl cl : Nat} {U : List Nat} {M : List Bool} {A : List Int} (h : SetV w base S o (natZ U) M A (.slice (some ⟨gu, 0, none⟩) U.length cu) (.slice (some ⟨gm, 0, none⟩) U.length cm) (.slice (some ⟨gl, 0, none⟩) U.length cl)) (h1 : M.length = U.length) (h2 : A.length = U.length) : SetM w base S o U M A gu cu gm cm gl cl :=
  ⟨h.c0, h.c1, h.c2, h.ru, by have := h.rm; unfold RowB at this; rw [h1] at this; exact this, h.rl, h1, h2, fun e => h.ne gu rfl (by rw [e]; rfl), h.blk⟩
theorem SetM.toV {w : World} {base S o gu cu gm cm gl cl : Nat} {U : List Nat} {M : List Bool} {A : List Int} (h : SetM w base S o U M A gu cu gm cm gl cl) : SetV w base S o (natZ U) M A (.slice (some ⟨gu, 0, none⟩) U.length cu) (.slice (some ⟨gm, 0, none⟩) U.length cm) (.slice (some ⟨gl, 0, none⟩) U.length cl) :=
  ⟨h.c0, h.c1, h.c2, h.ru, by unfold RowB; rw [h.lm]; exact h.rm, h.rl, fun b e1 e2 => by simp [Value.ownBlock] at e1 e2; exact h.ne (by omega), h.blk⟩
theorem natZ_more (U : List Nat) (x : Nat) : natZ U ++ [(x : Int)] = natZ (U ++ [x]) := by simp [natZ]
def bothT (M : List Bool) (rt : Nat → Nat) (e c : Nat) : Nat := if M.getD (rt e) false = true then e else c
set_option maxHeartbeats 1600000 in
theorem forBoth_ok (w : World) (base S gu cu gm cm gl cl t p : Nat) (U : List Nat) (M : List Bool) (A : List Int) (rt d : Nat → Nat) (h : SetM w base S 1 U M A gu cu gm cm gl cl) (hF : Fo U rt d) (ht : t < U.length) (hn : U.length ≤ 5000) :
    Calls Try.prog 63 #[.pointer (some ⟨S, 0, none⟩), .int .i64 t, .int .i64 p] w fun e w' => e = .returned (.int .i64 (bothT M rt t p : Nat)) ∧ (∃ U', SetM w' base S 1 U' M A gu cu gm cm gl cl ∧ Fo U' rt d ∧ U'.length = U.length) ∧ Keeps (· = gu) w w' := by
  have HC : Hid _ := isPar_ok w base S 1 gu cu gm cm gl cl t U M A rt d h hF ht hn
  clear h hF ht hn
  cases hb : M.getD (rt t) false with
  | true =>
    have HB : Hid (bothT M rt t p = t) := by show bothT M rt t p = t; unfold bothT; rw [if_pos hb]
    rw [hb] at HC
    clear hb
    go_enter Try.func63, Try.ntmps63
    go_wp2_with (go_at_call 58; refine Calls.mono HC.out ?_; rintro _ w1 ⟨rfl, hq, hk⟩)
    go_ret
    exact ⟨by rw [HB.out]; rfl, hq, hk⟩
  | false =>
    have HB : Hid (bothT M rt t p = p) := by show bothT M rt t p = p; unfold bothT; rw [if_neg (by rw [hb]; simp)]
    rw [hb] at HC
    clear hb
    go_enter Try.func63, Try.ntmps63
    go_wp2_with (go_at_call 58; refine Calls.mono HC.out ?_; rintro _ w1 ⟨rfl, hq, hk⟩)
    go_ret
    exact ⟨by rw [HB.out]; rfl, hq, hk⟩
end Go.Proofs.Ytolhojagbiaamaa
