import Derived.Test.YtpjmakbbakmhoaaTwoStart
import Derived.Test.YtpjmakbbakmhoaaPlayWalks
/-! Two pairs and the book: over what makes new memory alone; what they end with. -/
namespace Go.Proofs.Ytpjmakbbakmhoaa
open Go.RowKit Go.HeapKit

theorem Two.quiet {w w' : World} {b0 : Nat} {av0 av1 : Value} {r0 r1 pb k : Nat} (h : Two w b0 av0 av1 r0 r1 pb k) (hk : Keeps None w w') : Two w' b0 av0 av1 r0 r1 pb k := by
  obtain ⟨F0, G0, F1, G1, H, A0, A1, nN, nA, h0, h1, hb, ho, hB, l0, l1, l2, l3⟩ := h
  exact ⟨F0, G0, F1, G1, H, A0, A1, nN, nA, h0.kept hk (fun _ _ f => f), h1.kept hk (fun _ _ f => f), hb.kept hk (fun _ _ f => f), ho, hB, l0, l1, l2, l3⟩
theorem Two.next {w w' w'' : World} {b0 : Nat} {av0 av1 : Value} {r0 r1 pb k : Nat} {o : Obj} (hK : Keeps (fun i => b0 ≤ i) w w') (hk : Keeps (fun i => b0 ≤ i) (w'.alloc o) w'') (h : Two w'' b0 av0 av1 r0 r1 pb k) : Two w'' b0 av0 av1 r0 r1 pb k ∧ Keeps (fun i => b0 ≤ i) w w'' :=
  ⟨h, (hK.trans (Keeps.alloc (fun i => b0 ≤ i) w' o) (fun _ f _ => f)).trans hk (fun _ f _ => f)⟩
/-- Both arenas are there: what the last comparison reads. -/
structure EndS (p0 p1 r0 r1 : Nat) (F0 F1 : Nat → Prop) (A0 A1 : Ar) (v0 l0 v1 l1 : Value) (wb w : World) : Prop where
  kp : Keeps (fun i => wb.heap.size ≤ i) wb w
  a0 : IsAr w (.pointer (some ⟨p0, 0, none⟩)) F0 A0
  a1 : IsAr w (.pointer (some ⟨p1, 0, none⟩)) F1 A1
  q0 : IsRef w r0 v0 l0 A0
  q1 : IsRef w r1 v1 l1 A1
  z0 : A0.log.length ≤ 1000000000000
  z1 : A1.log.length ≤ 1000000000000
section
variable {p0 p1 r0 r1 : Nat} {F0 F1 : Nat → Prop} {A0 A1 : Ar} {v0 l0 v1 l1 : Value} {wb w w' : World}
theorem EndS.kept (h : EndS p0 p1 r0 r1 F0 F1 A0 A1 v0 l0 v1 l1 wb w) (hk : Keeps None w w') : EndS p0 p1 r0 r1 F0 F1 A0 A1 v0 l0 v1 l1 wb w' :=
  ⟨h.kp.trans hk (fun _ f _ => f.elim), h.a0.kept hk (fun _ _ f => f), h.a1.kept hk (fun _ _ f => f), h.q0.kept hk (fun _ _ f => f), h.q1.kept hk (fun _ _ f => f), h.z0, h.z1⟩
theorem EndS.below (h : EndS p0 p1 r0 r1 F0 F1 A0 A1 v0 l0 v1 l1 wb w) : Below wb.heap.size wb w := h.kp.below _ (Nat.le_refl _) (fun _ f => f)
theorem EndS.swap (h : EndS p0 p1 r0 r1 F0 F1 A0 A1 v0 l0 v1 l1 wb w) : EndS p1 p0 r1 r0 F1 F0 A1 A0 v1 l1 v0 l0 wb w := ⟨h.kp, h.a1, h.a0, h.q1, h.q0, h.z1, h.z0⟩
theorem EndS.all (h : EndS p0 p1 r0 r1 F0 F1 A0 A1 v0 l0 v1 l1 wb w) :
    w.cell? ⟨r0, 1, none⟩ = some v0 ∧ w.cell? ⟨r0, 4, none⟩ = some l0 ∧ w.cell? ⟨r1, 1, none⟩ = some v1 ∧ w.cell? ⟨r1, 4, none⟩ = some l1 ∧ EndS p0 p1 r0 r1 F0 F1 A0 A1 v0 l0 v1 l1 wb w :=
  ⟨h.q0.c1, h.q0.c4, h.q1.c1, h.q1.c4, h⟩
theorem end_cells (h : EndS p0 p1 r0 r1 F0 F1 A0 A1 v0 l0 v1 l1 wb w) :
    Calls Try.prog 28 #[.pointer (some ⟨p0, 0, none⟩)] w fun e w' => ∃ ao, e = .returned (.slice ao A0.cells.length A0.cells.length) ∧
      w'.ownsRow 0 2 1 (.slice ao A0.cells.length A0.cells.length) A0.cells.length (A0.cells.map (Value.int .i64)) ∧ EndS p0 p1 r0 r1 F0 F1 A0 A1 v0 l0 v1 l1 wb w' := by
  refine (ar_cells _ F0 A0 w h.a0).mono ?_
  rintro e w' ⟨ao, rfl, ho, hk, -⟩
  exact ⟨ao, rfl, ho, h.kept hk⟩
theorem end_log (h : EndS p0 p1 r0 r1 F0 F1 A0 A1 v0 l0 v1 l1 wb w) :
    Calls Try.prog 29 #[.pointer (some ⟨p0, 0, none⟩)] w fun e w' => ∃ ao, e = .returned (.slice ao A0.log.length A0.log.length) ∧
      w'.ownsRow 0 77 6 (.slice ao A0.log.length A0.log.length) A0.log.length (logVals A0.log) ∧ EndS p0 p1 r0 r1 F0 F1 A0 A1 v0 l0 v1 l1 wb w' := by
  refine (ar_log _ F0 A0 w h.a0 h.z0).mono ?_
  rintro e w' ⟨ao, rfl, ho, hk, -⟩
  exact ⟨ao, rfl, ho, h.kept hk⟩
theorem end_same (va : Value) (h : EndS p0 p1 r0 r1 F0 F1 A0 A1 v0 l0 v1 l1 wb w) (ho : w.ownsRow 0 2 1 va A0.cells.length (A0.cells.map (Value.int .i64))) :
    Calls Try.prog 13 #[va, v0] w fun e w' => e = .returned (.bool true) ∧ EndS p0 p1 r0 r1 F0 F1 A0 A1 v0 l0 v1 l1 wb w' := by
  have hf := h.q0.fit
  refine (sameNumbers_same va v0 A0.cells w ho h.q0.cells (by omega)).mono ?_
  rintro e w' ⟨rfl, m, rfl⟩
  exact ⟨rfl, h.kept (Keeps.drewN None w m)⟩
theorem end_same2 (va : Value) (h : EndS p0 p1 r0 r1 F0 F1 A0 A1 v0 l0 v1 l1 wb w) (ho : w.ownsRow 0 77 6 va A0.log.length (logVals A0.log)) :
    Calls Try.prog 14 #[va, l0] w fun e w' => e = .returned (.bool true) ∧ EndS p0 p1 r0 r1 F0 F1 A0 A1 v0 l0 v1 l1 wb w' := by
  refine (sameLog_same va l0 A0.log w ho h.q0.log h.z0).mono ?_
  rintro e w' ⟨rfl, m, rfl⟩
  exact ⟨rfl, h.kept (Keeps.drewN None w m)⟩
end
end Go.Proofs.Ytpjmakbbakmhoaa
