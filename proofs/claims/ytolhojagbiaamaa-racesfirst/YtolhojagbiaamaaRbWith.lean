import Derived.Test.YtolhojagbiaamaaRbTouch2
/-! Has the deed that was gone through last a race with an earlier one? -/
namespace Go.Proofs.Ytolhojagbiaamaa
set_option linter.unusedVariables false
set_option maxRecDepth 20000
set_option linter.unusedSimpArgs false
open Go.RowKit Go.HeapKit

section
variable {w0 w w' : World} {base S mb : Nat} {dv : Value} {ds : List Dd} {n m : Nat} {rc : Int → Bool}
/-- Whether a task's work is parallel to what comes next. -/
theorem SwS.par (h : SwS w0 w base S mb dv ds n m rc) (hN : Now ds n) (hn : n ≤ 4096) {x : Nat} (hx : x < cntB ds n) : ∃ b : Bool, (b = true ↔ Late (bgN ds n) x) ∧ ∀ w2, Keeps None w w2 → Calls Try.prog 58 #[.pointer (some ⟨S, 1, none⟩), .int .i64 x] w2 fun e w' => e = .returned (.bool b) ∧ SwS w0 w' base S mb dv ds n m rc ∧ Keeps (Fp w base) w w' := by
  obtain ⟨U, M, A, gu, cu, gm, cm, gl, cl, ga, ca, vd, rt, d, PM, h1, h2, h3, h4, h5, h6, h7⟩ := h.ex
  have hc := hN.cnt
  refine ⟨M.getD (rt x) false, h3.r.late (hN.all x hx), fun w2 hk2 => ?_⟩
  have h1' := h1.more hk2
  refine (isPar_ok w2 base S 1 gu cu gm cm gl cl x U M A rt d h1'.sets h2 (by omega) (by omega)).mono ?_
  rintro e w' ⟨rfl, ⟨U2, g1, g2, g3⟩, g4⟩
  have g4' := g4.mono (T := F6 S gu gl gm ga vd) (fun i e _ => .inr (.inl e))
  have hfp : Keeps (Fp w base) w w' := Fp.trans (hk2.mono (fun _ f _ => f.elim)) g4' (fun i e _ => ⟨(h1'.f6 h.b1 i e).1, (h1'.f6 h.b1 i e).2.1⟩)
  exact ⟨rfl, ⟨⟨U2, M, A, gu, cu, gm, cm, gl, cl, ga, ca, vd, rt, d, PM, h1'.sets' (g4.mono (fun i e _ => .inl e)) g1, g2, h3, g3.trans h4, h1'.pl6 h.b1 g4' (h5.more hk2), h6, h7⟩, h.kp.trans (Fp.low hfp) (fun i e _ => e), h.b1, h.b2, Nat.le_trans h.b3 hfp.size⟩, hfp⟩
/-- Whose a deed is. -/
theorem SwS.doerAt (h : SwS w0 w base S mb dv ds n m rc) {a : Nat} (ha : a < m) : ∃ g c, w.cell? ⟨S, 5, none⟩ = some (.slice (some ⟨g, 0, none⟩) m c) ∧ w.cell? ⟨g, a, none⟩ = some (.int .i64 (doer ds a : Nat)) ∧ w.cell? ⟨S, 0, none⟩ = some dv := by
  obtain ⟨U, M, A, gu, cu, gm, cm, gl, cl, ga, ca, vd, rt, d, PM, h1, _⟩ := h.ex
  obtain ⟨a0, c, e, hg⟩ := h1.rd.shape
  rw [natZ_lenB, dnN_len] at e hg
  obtain ⟨g, rfl⟩ := hg (by omega)
  have hr := h1.rd
  subst e
  have hr' : RowZ w base (.slice (some ⟨g, 0, none⟩) (natZ (dnN ds m)).length c) (natZ (dnN ds m)) := by rw [natZ_lenB, dnN_len]; exact hr
  refine ⟨g, c, h1.b5, (hr'.at (k := a) (x := ((doer ds a : Nat) : Int)) ?_).1, h1.b0⟩
  simp [natZ, dnN, ha]
end
theorem touches_ok (w : World) (k loc : Int) : Calls Try.prog 57 #[.agg #[.int .i64 k, .int .i64 loc]] w fun e w' => e = .returned (.bool (k == 3 || k == 4)) ∧ Keeps None w w' := by
  have kA := Keeps.alloc None w (.cells #[.int .i64 k, .int .i64 loc] 51)
  by_cases h3 : k = 3
  · subst h3
    go_enter Try.func57, Try.ntmps57
    go_wp2
    go_ret
    exact ⟨rfl, kA⟩
  · have b3 : (k == 3) = false := by simp [h3]
    rw [b3]
    by_cases h4 : k = 4
    · subst h4
      go_enter Try.func57, Try.ntmps57
      go_wp2
      go_ret
      exact ⟨rfl, kA⟩
    · have b4 : (k == 4) = false := by simp [h4]
      rw [b4]
      go_enter Try.func57, Try.ntmps57
      go_wp2
      go_ret
      exact ⟨rfl, kA⟩
end Go.Proofs.Ytolhojagbiaamaa
