import Derived.Test.YtolhojagbiaamaaRbSet3
/-! Sets of tasks in memory: end. -/
namespace Go.Proofs.Ytolhojagbiaamaa
set_option linter.unusedVariables false
set_option maxRecDepth 20000
set_option linter.unusedSimpArgs false
open Go.RowKit Go.HeapKit

/-- The roots behind a wait. -/
def waitR (rt : Nat → Nat) (A : List Int) (t : Nat) : Nat → Nat := if A.getD t 0 = -1 then rt else joinR rt t (A.getD t 0).toNat
/-- The roots behind an end. -/
def endR (r1 : Nat → Nat) (A : List Int) (p t : Nat) : Nat → Nat := if A.getD p 0 = -1 then r1 else joinR r1 (A.getD p 0).toNat t
/-- What a task has to wait for is a task of another set. -/
def LateOk (rt : Nat → Nat) (A : List Int) (t T : Nat) : Prop := A.getD t 0 = -1 ∨ ∃ e : Nat, A.getD t 0 = (e : Int) ∧ e < T ∧ rt t ≠ rt e
theorem set_sameZ (A : List Int) (t : Nat) (h : A.getD t 0 = -1) (ht : t < A.length) : A.set t (-1) = A := by
  apply List.ext_getElem?
  intro j
  rw [List.getElem?_set]
  split
  · rename_i e
    subst e
    rw [List.getD_eq_getElem?_getD] at h
    simp [ht] at h ⊢
    exact h.symm
  · rfl
theorem wait_ok (w : World) (base S o gu cu gm cm gl cl t : Nat) (U : List Nat) (M : List Bool) (A : List Int) (rt d : Nat → Nat) (h : SetM w base S o U M A gu cu gm cm gl cl) (hF : Fo U rt d) (ht : t < U.length) (hL : LateOk rt A t U.length) (hn : U.length ≤ 5000) :
    Calls Try.prog 55 #[.pointer (some ⟨S, o, none⟩), .int .i64 t] w fun e w' => e = .returned (.tuple #[]) ∧ (∃ U' d', SetM w' base S o U' M (A.set t (-1)) gu cu gm cm gl cl ∧ Fo U' (waitR rt A t) d' ∧ U'.length = U.length) ∧ Keeps (fun i => i = gu ∨ i = gl) w w' := by
  rcases hL with hA | ⟨e0, hA, he, hne⟩
  · refine (wait_none w base S o gu cu gm cm gl cl t U M A h ht hA hn).mono ?_
    rintro e w' ⟨rfl, rfl⟩
    refine ⟨rfl, ⟨U, d, ?_, ?_, rfl⟩, Keeps.refl _ _⟩
    · rw [set_sameZ A t hA (by rw [h.la]; exact ht)]; exact h
    · unfold waitR; rw [if_pos hA]; exact hF
  · refine (wait_some w base S o gu cu gm cm gl cl t e0 U M A rt d h hF ht he hA hne hn).mono ?_
    rintro e w' ⟨rfl, ⟨U', d', h1, h2, h3⟩, h4⟩
    refine ⟨rfl, ⟨U', d', h1, ?_, h3⟩, h4⟩
    unfold waitR
    rw [if_neg (by rw [hA]; omega), hA]
    simpa using h2
set_option maxHeartbeats 3200000 in
theorem end_ok (w : World) (base S o gu cu gm cm gl cl t p : Nat) (U : List Nat) (M : List Bool) (A : List Int) (rt d : Nat → Nat) (h : SetM w base S o U M A gu cu gm cm gl cl) (hF : Fo U rt d) (ht : t < U.length) (hp : p < U.length) (htp : t ≠ p) (hL : LateOk rt A t U.length)
    (hL2 : A.getD p 0 = -1 ∨ ∃ e : Nat, A.getD p 0 = (e : Int) ∧ e < U.length ∧ waitR rt A t e ≠ waitR rt A t t) (hn : U.length ≤ 5000) :
    Calls Try.prog 61 #[.pointer (some ⟨S, o, none⟩), .int .i64 t, .int .i64 p] w fun e w' => e = .returned (.tuple #[]) ∧
      (∃ U' d', SetM w' base S o U' (M.set (waitR rt A t t) true) ((A.set t (-1)).set p (t : Int)) gu cu gm cm gl cl ∧ Fo U' (endR (waitR rt A t) A p t) d' ∧ U'.length = U.length) ∧ Keeps (fun i => i = gu ∨ i = gl ∨ i = gm) w w' := by
  obtain ⟨T, hT⟩ : ∃ T, T = U.length := ⟨_, rfl⟩
  have HC : Hid _ := wait_ok w base S o gu cu gm cm gl cl t U M A rt d h hF ht hL hn
  have H0 : Hid (T = U.length ∧ t < T ∧ p < T ∧ T ≤ 5000 ∧ (A.set t (-1)).getD p 0 = A.getD p 0 ∧ A.length = T ∧ S ≠ gu ∧ S ≠ gm ∧ S ≠ gl ∧ gm ≠ gu ∧ gm ≠ gl) := by
    obtain ⟨n1, n2, n3, n4, n5⟩ := h.neS
    refine ⟨hT, by omega, by omega, by omega, ?_, by rw [hT]; exact h.la, n1, n2, n3, n4, n5⟩
    rw [List.getD_eq_getElem?_getD, List.getD_eq_getElem?_getD, List.getElem?_set_ne htp]
  obtain ⟨r1, hr1⟩ : ∃ r1, r1 = waitR rt A t := ⟨_, rfl⟩
  have HL2 : Hid (A.getD p 0 = -1 ∨ ∃ e : Nat, A.getD p 0 = (e : Int) ∧ e < T ∧ r1 e ≠ r1 t) := by rw [hr1, hT]; exact hL2
  rw [← hr1] at HC ⊢
  obtain ⟨A1, hA1⟩ : ∃ A1, A1 = A.set t (-1) := ⟨_, rfl⟩
  rw [← hA1] at HC H0 ⊢
  clear h hF ht hp htp hL hL2 hn hr1 hT hA1
  go_enter Try.func61, Try.ntmps61
  go_wp2_with fail
  refine Calls.mono HC.out ?_
  rintro _ w1 ⟨rfl, ⟨U1, d1, hM1, hF1, hl1⟩, hk1⟩
  have hl1' : U1.length = T := by rw [hl1]; exact H0.out.1.symm
  have htT := H0.out.2.1
  have hpT := H0.out.2.2.1
  have h5 := H0.out.2.2.2.1
  have hrt : r1 t < T := by rw [← hl1']; exact (hF1.root t (by omega)).1
  have c1 := hM1.c1
  rw [hl1'] at c1
  have mr := hM1.mat (x := r1 t) (by omega)
  have HRt : Hid (∀ w2, Keeps None w1 w2 → Calls Try.prog 64 #[.pointer (some ⟨S, o, none⟩), .int .i64 t] w2 fun e w' => e = .returned (.int .i64 (r1 t : Nat)) ∧ w'.cell? ⟨S, o + 1, none⟩ = some (.slice (some ⟨gm, 0, none⟩) T cm) ∧ (∃ b, w'.cell? ⟨gm, r1 t, none⟩ = some (.bool b)) ∧ w'.frozen? ⟨gm, r1 t, none⟩ = false ∧ (w'.setCell ⟨gm, r1 t, none⟩ (.bool true)).cell? ⟨S, o + 1, none⟩ = some (.slice (some ⟨gm, 0, none⟩) T cm) ∧ Hid ((∃ U' d', SetM (w'.setCell ⟨gm, r1 t, none⟩ (.bool true)) base S o U' (M.set (r1 t) true) A1 gu cu gm cm gl cl ∧ Fo U' r1 d' ∧ U'.length = T) ∧ Keeps (fun i => i = gu ∨ i = gl ∨ i = gm) w (w'.setCell ⟨gm, r1 t, none⟩ (.bool true)))) := fun w2 hk => (root_ok w2 base S o gu cu gm cm gl cl t U1 M A1 r1 d1 (hM1.more hk) hF1 (by omega) (by omega)).mono fun e w' hp => by
    obtain ⟨q1, ⟨U', q2, q3, q4⟩, q5⟩ := hp
    have hc := q2.c1
    rw [q4, hl1'] at hc
    obtain ⟨a1, a2⟩ := q2.mat (x := r1 t) (by omega)
    obtain ⟨b1, b2⟩ := q2.putM (r1 t) true
    have hc2 := b1.c1
    rw [q4, hl1'] at hc2
    refine ⟨q1, hc, ⟨_, a1⟩, a2, hc2, ⟨U', d1, b1, q3, q4.trans hl1'⟩, ?_⟩
    refine (((hk1.mono (fun i e _ => ?_)).trans hk (fun _ f _ => f.elim)).trans q5 (fun i e _ => .inl e)).trans b2 (fun i e _ => .inr (.inr e))
    rcases e with e | e
    · exact .inl e
    · exact .inr (.inl e)
  have i1 : ((r1 t : Nat) : Int) < (T : Int) := by omega
  clear hM1 hF1 hl1 hk1 hl1' mr HC
  go_wp2_with fail
  go_cut [1] (fun s1 wx => s1 = .int .i64 t ∧ (∃ U' d', SetM wx base S o U' (M.set (r1 t) true) A1 gu cu gm cm gl cl ∧ Fo U' r1 d' ∧ U'.length = T) ∧ Keeps (fun i => i = gu ∨ i = gl ∨ i = gm) w wx)
  case first =>
    go_region_held3 (fun w' => w'.cell? ⟨S, o + 1, none⟩ = some (.slice (some ⟨gm, 0, none⟩) T cm)) (first | exact q4 | exact q1 | go_keep) (first | (go_at_call 64; refine Calls.mono (HRt.out _ (Keeps.drew None _)) ?_; rintro _ w3 ⟨rfl, q1, ⟨qb, q2⟩, q3, q4, q5⟩))
    all_goals (go_wp2_with fail; go_meet)
    all_goals exact ⟨rfl, q5.out⟩
  case rest =>
  obtain ⟨rfl, ⟨U2, d2, hM2, hF2, hl2⟩, hk2⟩ := hcut
  obtain ⟨W2, hW2⟩ : ∃ W2, W2 = wc := ⟨_, rfl⟩
  rw [← hW2] at hM2 hk2 ⊢
  clear hW2 HRt c1
  have c2 := hM2.c2
  rw [hl2] at c2
  obtain ⟨l2, f2⟩ := hM2.lat (x := p) (by omega)
  rw [H0.out.2.2.2.2.1] at l2
  have i2 : (p : Int) < (T : Int) := by omega
  rcases HL2.out with hA | ⟨e0, hA, he, hne⟩
  · rw [hA] at l2
    obtain ⟨hM3, hk3⟩ := hM2.putA p (t : Int)
    have HN : Hid ((∃ U' d', SetM (W2.setCell ⟨gl, p, none⟩ (.int .i64 t)) base S o U' (M.set (r1 t) true) (A1.set p (t : Int)) gu cu gm cm gl cl ∧ Fo U' (endR r1 A p t) d' ∧ U'.length = U.length) ∧ Keeps (fun i => i = gu ∨ i = gl ∨ i = gm) w (W2.setCell ⟨gl, p, none⟩ (.int .i64 t))) := ⟨⟨U2, d2, hM3, by unfold endR; rw [if_pos hA]; exact hF2, by rw [hl2]; exact H0.out.1⟩, hk2.trans hk3 (fun i e _ => .inr (.inl e))⟩
    clear hM2 hF2 hl2 hk2 hM3 hk3 hA
    go_wp2
    go_end0
    exact ⟨rfl, HN.out⟩
  · rw [hA] at l2
    have HJ : Hid _ := join_ok W2 base S o gu cu gm cm gl cl e0 t U2 (M.set (r1 t) true) A1 r1 d2 hM2 hF2 (by omega) (by omega) hne (by omega)
    have HK2 : Hid (Keeps (fun i => i = gu ∨ i = gl ∨ i = gm) w W2 ∧ U2.length = T ∧ A.getD p 0 = (e0 : Int)) := ⟨hk2, hl2, hA⟩
    have i3 : ¬ (e0 : Int) = -1 := by omega
    clear hM2 hF2 hl2 hk2 hA hne
    go_upto_region 5 with (go_at_call 62; refine Calls.mono HJ.out ?_; rintro _ w4 ⟨rfl, ⟨U4, d4, hM4, hF4, hl4⟩, hk4⟩)
    have hl4' : U4.length = T := by rw [hl4]; exact HK2.out.2.1
    have c4 := hM4.c2
    rw [hl4'] at c4
    obtain ⟨l4, f4⟩ := hM4.lat (x := p) (by omega)
    obtain ⟨hM5, hk5⟩ := hM4.putA p (t : Int)
    have HN : Hid ((∃ U' d', SetM (w4.setCell ⟨gl, p, none⟩ (.int .i64 t)) base S o U' (M.set (r1 t) true) (A1.set p (t : Int)) gu cu gm cm gl cl ∧ Fo U' (endR r1 A p t) d' ∧ U'.length = U.length) ∧ Keeps (fun i => i = gu ∨ i = gl ∨ i = gm) w (w4.setCell ⟨gl, p, none⟩ (.int .i64 t))) := by
      refine ⟨⟨U4, d4, hM5, ?_, by rw [hl4']; exact H0.out.1⟩, (HK2.out.1.trans hk4 (fun i e _ => .inl e)).trans hk5 (fun i e _ => .inr (.inl e))⟩
      unfold endR
      rw [if_neg (by rw [HK2.out.2.2]; omega), HK2.out.2.2]
      simpa using hF4
    clear hM4 hF4 hl4 hk4 hl4' hM5 hk5
    go_wp2
    go_end0
    exact ⟨rfl, HN.out⟩
end Go.Proofs.Ytolhojagbiaamaa
