import Derived.Test.YtolhojagbiaamabPkAG
/-! Sets of tasks in memory: wait. -/
namespace Go.Proofs.Ytolhojagbiaamab
set_option linter.unusedVariables false
set_option maxRecDepth 20000
set_option linter.unusedSimpArgs false
open Go.RowKit Go.HeapKit

set_option maxHeartbeats 1600000 in
theorem wait_none (w : World) (base S o gu cu gm cm gl cl t : Nat) (U : List Nat) (M : List Bool) (A : List Int) (h : SetM w base S o U M A gu cu gm cm gl cl) (ht : t < U.length) (hA : A.getD t 0 = -1) (hn : U.length ≤ 5000) :
    Calls Try.prog 50 #[.pointer (some ⟨S, o, none⟩), .int .i64 t] w fun e w' => e = .returned (.tuple #[]) ∧ w' = w := by
  obtain ⟨T, hT⟩ : ∃ T, T = U.length := ⟨_, rfl⟩
  have c2 := h.c2
  have l1 := (h.lat ht).1
  rw [← hT] at c2 ht
  rw [hA] at l1
  have i1 : (t : Int) < (T : Int) := by omega
  clear h hA hn hT
  go_enter Try.func50, Try.ntmps50
  go_wp2
  go_end0
  exact ⟨rfl, rfl⟩
set_option maxHeartbeats 1600000 in
theorem wait_some (w : World) (base S o gu cu gm cm gl cl t e0 : Nat) (U : List Nat) (M : List Bool) (A : List Int) (rt d : Nat → Nat) (h : SetM w base S o U M A gu cu gm cm gl cl) (hF : Fo U rt d) (ht : t < U.length) (he : e0 < U.length) (hA : A.getD t 0 = (e0 : Int)) (hne : rt t ≠ rt e0) (hn : U.length ≤ 5000) :
    Calls Try.prog 50 #[.pointer (some ⟨S, o, none⟩), .int .i64 t] w fun e w' => e = .returned (.tuple #[]) ∧ (∃ U' d', SetM w' base S o U' M (A.set t (-1)) gu cu gm cm gl cl ∧ Fo U' (joinR rt t e0) d' ∧ U'.length = U.length) ∧ Keeps (fun i => i = gu ∨ i = gl) w w' := by
  obtain ⟨T, hT⟩ : ∃ T, T = U.length := ⟨_, rfl⟩
  have c2 := h.c2
  have l1 := (h.lat ht).1
  rw [← hT] at c2
  rw [hA] at l1
  have HC : Hid _ := join_ok w base S o gu cu gm cm gl cl t e0 U M A rt d h hF ht he hne hn
  rw [← hT] at ht he hn
  have i1 : (t : Int) < (T : Int) := by omega
  have i2 : ¬ (e0 : Int) = -1 := by omega
  have HT : Hid (T = U.length) := hT
  clear h hF hA hT hne
  go_enter Try.func50, Try.ntmps50
  go_upto_region 3 with (go_at_call 58; refine Calls.mono HC.out ?_; rintro _ w1 ⟨rfl, ⟨U1, d1, hM1, hF1, hl1⟩, hk1⟩)
  have c3 := hM1.c2
  rw [hl1, ← HT.out] at c3
  obtain ⟨l3, f3⟩ := hM1.lat (x := t) (by rw [hl1, ← HT.out]; exact ht)
  obtain ⟨hM2, hk2⟩ := hM1.putA t (-1)
  have HN : Hid ((∃ U' d', SetM (w1.setCell ⟨gl, t, none⟩ (.int .i64 (-1))) base S o U' M (A.set t (-1)) gu cu gm cm gl cl ∧ Fo U' (joinR rt t e0) d' ∧ U'.length = U.length) ∧ Keeps (fun i => i = gu ∨ i = gl) w (w1.setCell ⟨gl, t, none⟩ (.int .i64 (-1)))) := ⟨⟨U1, d1, hM2, hF1, hl1⟩, (hk1.mono (fun i e _ => .inl e)).trans hk2 (fun i e _ => .inr e)⟩
  clear hM1 hF1 hl1 hk1 hM2 hk2
  go_wp2
  go_end0
  exact ⟨rfl, HN.out⟩
/-- The sets hold the bags. -/
structure BagR (B : List Bg) (rt : Nat → Nat) (M : List Bool) (A : List Int) (T : Nat) : Prop where
  p : ∀ b ∈ B, ∀ x ∈ b.P, rt x = rt b.id ∧ M.getD (rt x) false = false
  o : ∀ b ∈ B, ∀ x ∈ b.O, ∃ e : Nat, A.getD b.id 0 = (e : Int) ∧ e ∈ b.O ∧ rt x = rt e ∧ M.getD (rt x) false = true
  none : ∀ b ∈ B, b.O = [] → A.getD b.id 0 = -1
  apart : ∀ x y, x ∈ allB B → y ∈ allB B → rt x = rt y → ∃ b ∈ B, (x ∈ b.P ∧ y ∈ b.P) ∨ (x ∈ b.O ∧ y ∈ b.O)
theorem inO_ex : ∀ {S : List Bg} {k x : Nat}, inO S k x → ∃ b ∈ S, x ∈ b.O
  | [], _, _, h => h.elim
  | t :: r, k, x, h => by
    rcases h with ⟨_, h⟩ | h
    · exact ⟨t, by simp, h⟩
    · obtain ⟨b, hb, hx⟩ := inO_ex h
      exact ⟨b, by simp [hb], hx⟩
theorem ex_inO : ∀ {S : List Bg} {x : Nat}, (∃ b ∈ S, x ∈ b.O) → ∃ k, inO S k x
  | [], _, ⟨b, hb, _⟩ => by simp at hb
  | t :: r, x, ⟨b, hb, hx⟩ => by
    rcases List.mem_cons.1 hb with rfl | hb
    · exact ⟨_, .inl ⟨rfl, hx⟩⟩
    · obtain ⟨k, hk⟩ := ex_inO ⟨b, hb, hx⟩
      exact ⟨k, .inr hk⟩
/-- What parallel tells. -/
theorem BagR.late {B : List Bg} {rt : Nat → Nat} {M : List Bool} {A : List Int} {T : Nat} (h : BagR B rt M A T) {x : Nat} (hx : x ∈ allB B) : M.getD (rt x) false = true ↔ Late B x := by
  constructor
  · intro hm
    have : ∀ {S : List Bg}, x ∈ allB S → ∃ b ∈ S, x ∈ b.P ∨ x ∈ b.O := by
      intro S
      induction S with
      | nil => intro h; simp [allB] at h
      | cons t r ih =>
        intro h
        rw [allB_cons, List.mem_append, List.mem_append] at h
        rcases h with h | h
        · exact ⟨t, by simp, h⟩
        · obtain ⟨b, hb, h2⟩ := ih h
          exact ⟨b, by simp [hb], h2⟩
    obtain ⟨b, hb, h2 | h2⟩ := this hx
    · have := (h.p b hb x h2).2
      rw [this] at hm
      cases hm
    · exact ex_inO ⟨b, hb, h2⟩
  · rintro ⟨k, hk⟩
    obtain ⟨b, hb, hx⟩ := inO_ex hk
    obtain ⟨e, _, _, _, h4⟩ := h.o b hb x hx
    exact h4
end Go.Proofs.Ytolhojagbiaamab
/-! Sets of tasks in memory: end. -/
namespace Go.Proofs.Ytolhojagbiaamab
set_option linter.unusedVariables false
set_option maxRecDepth 20000
set_option linter.unusedSimpArgs false
open Go.RowKit Go.HeapKit

/-- The roots behind a wait. -/
def waitR (rt : Nat → Nat) (A : List Int) (t : Nat) : Nat → Nat := if A.getD t 0 = -1 then rt else joinR rt t (A.getD t 0).toNat
/-- The roots behind an end. -/
def endR (r1 : Nat → Nat) (A : List Int) (p t : Nat) : Nat → Nat := if A.getD p 0 = -1 then r1 else joinR r1 (A.getD p 0).toNat t
/-- What a task has to wait for is a task of another set. -/
def LateOk (rt : Nat → Nat) (A : List Int) (t T : Nat) : Prop := A.getD t 0 = -1 ∨ ∃ e : Nat, A.getD t 0 = (e : Int) ∧ e < T ∧ rt t ≠ rt e
theorem set_sameZ (A : List Int) (t : Nat) (h : A.getD t 0 = -1) (ht : t < A.length) : A.set t (-1) = A := by
  apply List.ext_getElem?
  intro j
  rw [List.getElem?_set]
  split
  · rename_i e
    subst e
    rw [List.getD_eq_getElem?_getD] at h
    simp [ht] at h ⊢
    exact h.symm
  · rfl
theorem wait_ok (w : World) (base S o gu cu gm cm gl cl t : Nat) (U : List Nat) (M : List Bool) (A : List Int) (rt d : Nat → Nat) (h : SetM w base S o U M A gu cu gm cm gl cl) (hF : Fo U rt d) (ht : t < U.length) (hL : LateOk rt A t U.length) (hn : U.length ≤ 5000) :
    Calls Try.prog 50 #[.pointer (some ⟨S, o, none⟩), .int .i64 t] w fun e w' => e = .returned (.tuple #[]) ∧ (∃ U' d', SetM w' base S o U' M (A.set t (-1)) gu cu gm cm gl cl ∧ Fo U' (waitR rt A t) d' ∧ U'.length = U.length) ∧ Keeps (fun i => i = gu ∨ i = gl) w w' := by
  rcases hL with hA | ⟨e0, hA, he, hne⟩
  · refine (wait_none w base S o gu cu gm cm gl cl t U M A h ht hA hn).mono ?_
    rintro e w' ⟨rfl, rfl⟩
    refine ⟨rfl, ⟨U, d, ?_, ?_, rfl⟩, Keeps.refl _ _⟩
    · rw [set_sameZ A t hA (by rw [h.la]; exact ht)]; exact h
    · unfold waitR; rw [if_pos hA]; exact hF
  · refine (wait_some w base S o gu cu gm cm gl cl t e0 U M A rt d h hF ht he hA hne hn).mono ?_
    rintro e w' ⟨rfl, ⟨U', d', h1, h2, h3⟩, h4⟩
    refine ⟨rfl, ⟨U', d', h1, ?_, h3⟩, h4⟩
    unfold waitR
    rw [if_neg (by rw [hA]; omega), hA]
    simpa using h2
set_option maxHeartbeats 3200000 in
theorem end_ok (w : World) (base S o gu cu gm cm gl cl t p : Nat) (U : List Nat) (M : List Bool) (A : List Int) (rt d : Nat → Nat) (h : SetM w base S o U M A gu cu gm cm gl cl) (hF : Fo U rt d) (ht : t < U.length) (hp : p < U.length) (htp : t ≠ p) (hL : LateOk rt A t U.length)
    (hL2 : A.getD p 0 = -1 ∨ ∃ e : Nat, A.getD p 0 = (e : Int) ∧ e < U.length ∧ waitR rt A t e ≠ waitR rt A t t) (hn : U.length ≤ 5000) :
    Calls Try.prog 57 #[.pointer (some ⟨S, o, none⟩), .int .i64 t, .int .i64 p] w fun e w' => e = .returned (.tuple #[]) ∧
      (∃ U' d', SetM w' base S o U' (M.set (waitR rt A t t) true) ((A.set t (-1)).set p (t : Int)) gu cu gm cm gl cl ∧ Fo U' (endR (waitR rt A t) A p t) d' ∧ U'.length = U.length) ∧ Keeps (fun i => i = gu ∨ i = gl ∨ i = gm) w w' := by
  obtain ⟨T, hT⟩ : ∃ T, T = U.length := ⟨_, rfl⟩
  have HC : Hid _ := wait_ok w base S o gu cu gm cm gl cl t U M A rt d h hF ht hL hn
  have H0 : Hid (T = U.length ∧ t < T ∧ p < T ∧ T ≤ 5000 ∧ (A.set t (-1)).getD p 0 = A.getD p 0 ∧ A.length = T ∧ S ≠ gu ∧ S ≠ gm ∧ S ≠ gl ∧ gm ≠ gu ∧ gm ≠ gl) := by
    obtain ⟨n1, n2, n3, n4, n5⟩ := h.neS
    refine ⟨hT, by omega, by omega, by omega, ?_, by rw [hT]; exact h.la, n1, n2, n3, n4, n5⟩
    rw [List.getD_eq_getElem?_getD, List.getD_eq_getElem?_getD, List.getElem?_set_ne htp]
  obtain ⟨r1, hr1⟩ : ∃ r1, r1 = waitR rt A t := ⟨_, rfl⟩
  have HL2 : Hid (A.getD p 0 = -1 ∨ ∃ e : Nat, A.getD p 0 = (e : Int) ∧ e < T ∧ r1 e ≠ r1 t) := by rw [hr1, hT]; exact hL2
  rw [← hr1] at HC ⊢
  obtain ⟨A1, hA1⟩ : ∃ A1, A1 = A.set t (-1) := ⟨_, rfl⟩
  rw [← hA1] at HC H0 ⊢
  clear h hF ht hp htp hL hL2 hn hr1 hT hA1
  go_enter Try.func57, Try.ntmps57
  go_wp2_with fail
  refine Calls.mono HC.out ?_
  rintro _ w1 ⟨rfl, ⟨U1, d1, hM1, hF1, hl1⟩, hk1⟩
  have hl1' : U1.length = T := by rw [hl1]; exact H0.out.1.symm
  have htT := H0.out.2.1
  have hpT := H0.out.2.2.1
  have h5 := H0.out.2.2.2.1
  have hrt : r1 t < T := by rw [← hl1']; exact (hF1.root t (by omega)).1
  have c1 := hM1.c1
  rw [hl1'] at c1
  have mr := hM1.mat (x := r1 t) (by omega)
  have HRt : Hid (∀ w2, Keeps None w1 w2 → Calls Try.prog 71 #[.pointer (some ⟨S, o, none⟩), .int .i64 t] w2 fun e w' => e = .returned (.int .i64 (r1 t : Nat)) ∧ w'.cell? ⟨S, o + 1, none⟩ = some (.slice (some ⟨gm, 0, none⟩) T cm) ∧ (∃ b, w'.cell? ⟨gm, r1 t, none⟩ = some (.bool b)) ∧ w'.frozen? ⟨gm, r1 t, none⟩ = false ∧ (w'.setCell ⟨gm, r1 t, none⟩ (.bool true)).cell? ⟨S, o + 1, none⟩ = some (.slice (some ⟨gm, 0, none⟩) T cm) ∧ Hid ((∃ U' d', SetM (w'.setCell ⟨gm, r1 t, none⟩ (.bool true)) base S o U' (M.set (r1 t) true) A1 gu cu gm cm gl cl ∧ Fo U' r1 d' ∧ U'.length = T) ∧ Keeps (fun i => i = gu ∨ i = gl ∨ i = gm) w (w'.setCell ⟨gm, r1 t, none⟩ (.bool true)))) := fun w2 hk => (root_ok w2 base S o gu cu gm cm gl cl t U1 M A1 r1 d1 (hM1.more hk) hF1 (by omega) (by omega)).mono fun e w' hp => by
    obtain ⟨q1, ⟨U', q2, q3, q4⟩, q5⟩ := hp
    have hc := q2.c1
    rw [q4, hl1'] at hc
    obtain ⟨a1, a2⟩ := q2.mat (x := r1 t) (by omega)
    obtain ⟨b1, b2⟩ := q2.putM (r1 t) true
    have hc2 := b1.c1
    rw [q4, hl1'] at hc2
    refine ⟨q1, hc, ⟨_, a1⟩, a2, hc2, ⟨U', d1, b1, q3, q4.trans hl1'⟩, ?_⟩
    refine (((hk1.mono (fun i e _ => ?_)).trans hk (fun _ f _ => f.elim)).trans q5 (fun i e _ => .inl e)).trans b2 (fun i e _ => .inr (.inr e))
    rcases e with e | e
    · exact .inl e
    · exact .inr (.inl e)
  have i1 : ((r1 t : Nat) : Int) < (T : Int) := by omega
  clear hM1 hF1 hl1 hk1 hl1' mr HC
  go_wp2_with fail
  go_cut [1] (fun s1 wx => s1 = .int .i64 t ∧ (∃ U' d', SetM wx base S o U' (M.set (r1 t) true) A1 gu cu gm cm gl cl ∧ Fo U' r1 d' ∧ U'.length = T) ∧ Keeps (fun i => i = gu ∨ i = gl ∨ i = gm) w wx)
  case first =>
    go_region_held3 (fun w' => w'.cell? ⟨S, o + 1, none⟩ = some (.slice (some ⟨gm, 0, none⟩) T cm)) (first | exact q4 | exact q1 | go_keep) (first | (go_at_call 71; refine Calls.mono (HRt.out _ (Keeps.drew None _)) ?_; rintro _ w3 ⟨rfl, q1, ⟨qb, q2⟩, q3, q4, q5⟩))
    all_goals (go_wp2_with fail; go_meet)
    all_goals exact ⟨rfl, q5.out⟩
  case rest =>
  obtain ⟨rfl, ⟨U2, d2, hM2, hF2, hl2⟩, hk2⟩ := hcut
  obtain ⟨W2, hW2⟩ : ∃ W2, W2 = wc := ⟨_, rfl⟩
  rw [← hW2] at hM2 hk2 ⊢
  clear hW2 HRt c1
  have c2 := hM2.c2
  rw [hl2] at c2
  obtain ⟨l2, f2⟩ := hM2.lat (x := p) (by omega)
  rw [H0.out.2.2.2.2.1] at l2
  have i2 : (p : Int) < (T : Int) := by omega
  rcases HL2.out with hA | ⟨e0, hA, he, hne⟩
  · rw [hA] at l2
    obtain ⟨hM3, hk3⟩ := hM2.putA p (t : Int)
    have HN : Hid ((∃ U' d', SetM (W2.setCell ⟨gl, p, none⟩ (.int .i64 t)) base S o U' (M.set (r1 t) true) (A1.set p (t : Int)) gu cu gm cm gl cl ∧ Fo U' (endR r1 A p t) d' ∧ U'.length = U.length) ∧ Keeps (fun i => i = gu ∨ i = gl ∨ i = gm) w (W2.setCell ⟨gl, p, none⟩ (.int .i64 t))) := ⟨⟨U2, d2, hM3, by unfold endR; rw [if_pos hA]; exact hF2, by rw [hl2]; exact H0.out.1⟩, hk2.trans hk3 (fun i e _ => .inr (.inl e))⟩
    clear hM2 hF2 hl2 hk2 hM3 hk3 hA
    go_wp2
    go_end0
    exact ⟨rfl, HN.out⟩
  · rw [hA] at l2
    have HJ : Hid _ := join_ok W2 base S o gu cu gm cm gl cl e0 t U2 (M.set (r1 t) true) A1 r1 d2 hM2 hF2 (by omega) (by omega) hne (by omega)
    have HK2 : Hid (Keeps (fun i => i = gu ∨ i = gl ∨ i = gm) w W2 ∧ U2.length = T ∧ A.getD p 0 = (e0 : Int)) := ⟨hk2, hl2, hA⟩
    have i3 : ¬ (e0 : Int) = -1 := by omega
    clear hM2 hF2 hl2 hk2 hA hne
    go_upto_region 5 with (go_at_call 58; refine Calls.mono HJ.out ?_; rintro _ w4 ⟨rfl, ⟨U4, d4, hM4, hF4, hl4⟩, hk4⟩)
    have hl4' : U4.length = T := by rw [hl4]; exact HK2.out.2.1
    have c4 := hM4.c2
    rw [hl4'] at c4
    obtain ⟨l4, f4⟩ := hM4.lat (x := p) (by omega)
    obtain ⟨hM5, hk5⟩ := hM4.putA p (t : Int)
    have HN : Hid ((∃ U' d', SetM (w4.setCell ⟨gl, p, none⟩ (.int .i64 t)) base S o U' (M.set (r1 t) true) (A1.set p (t : Int)) gu cu gm cm gl cl ∧ Fo U' (endR r1 A p t) d' ∧ U'.length = U.length) ∧ Keeps (fun i => i = gu ∨ i = gl ∨ i = gm) w (w4.setCell ⟨gl, p, none⟩ (.int .i64 t))) := by
      refine ⟨⟨U4, d4, hM5, ?_, by rw [hl4']; exact H0.out.1⟩, (HK2.out.1.trans hk4 (fun i e _ => .inl e)).trans hk5 (fun i e _ => .inr (.inl e))⟩
      unfold endR
      rw [if_neg (by rw [HK2.out.2.2]; omega), HK2.out.2.2]
      simpa using hF4
    clear hM4 hF4 hl4 hk4 hl4' hM5 hk5
    go_wp2
    go_end0
    exact ⟨rfl, HN.out⟩
end Go.Proofs.Ytolhojagbiaamab
/-! The sets hold the bags, behind each kind of deed. -/
namespace Go.Proofs.Ytolhojagbiaamab
set_option linter.unusedVariables false
set_option maxRecDepth 20000
set_option linter.unusedSimpArgs false

theorem mem_all_P {B : List Bg} {b : Bg} {x : Nat} (hb : b ∈ B) (hx : x ∈ b.P) : x ∈ allB B := by
  induction B with
  | nil => simp at hb
  | cons t r ih =>
    rw [allB_cons]
    rcases List.mem_cons.1 hb with rfl | hb
    · simp [hx]
    · simp [ih hb]
theorem mem_all_O {B : List Bg} {b : Bg} {x : Nat} (hb : b ∈ B) (hx : x ∈ b.O) : x ∈ allB B := by
  induction B with
  | nil => simp at hb
  | cons t r ih =>
    rw [allB_cons]
    rcases List.mem_cons.1 hb with rfl | hb
    · simp [hx]
    · simp [ih hb]
/-- The top's tasks are none of the others'. -/
theorem top_apart {t : Bg} {r : List Bg} (hnd : (allB (t :: r)).Nodup) : (∀ x, x ∈ t.P → x ∉ t.O) ∧ (∀ x, x ∈ t.P ∨ x ∈ t.O → x ∉ allB r) ∧ (allB r).Nodup := by
  rw [allB_cons, List.nodup_append] at hnd
  obtain ⟨n1, n2, n3⟩ := hnd
  rw [List.nodup_append] at n1
  refine ⟨fun x h1 h2 => n1.2.2 x h1 x h2 rfl, fun x h1 h2 => n3 x ?_ x h2 rfl, n2⟩
  rcases h1 with h1 | h1 <;> simp [h1]
theorem getD_setZ (A : List Int) (x y : Nat) (v : Int) (hx : x < A.length) : (A.set x v).getD y 0 = if y = x then v else A.getD y 0 := by
  rw [List.getD_eq_getElem?_getD, List.getD_eq_getElem?_getD, List.getElem?_set]
  by_cases h : y = x
  · subst h; simp [hx]
  · rw [if_neg (fun e => h e.symm), if_neg h]
theorem getD_setB (M : List Bool) (x y : Nat) (v : Bool) (hx : x < M.length) : (M.set x v).getD y false = if y = x then v else M.getD y false := by
  rw [List.getD_eq_getElem?_getD, List.getD_eq_getElem?_getD, List.getElem?_set]
  by_cases h : y = x
  · subst h; simp [hx]
  · rw [if_neg (fun e => h e.symm), if_neg h]
/-- What else is known of the bags and the sets. -/
structure BagI (B : List Bg) (rt : Nat → Nat) (M : List Bool) (A : List Int) (T : Nat) : Prop where
  r : BagR B rt M A T
  ids : ∀ b ∈ B, b.id ∈ b.P
  nd : (allB B).Nodup
  lt : ∀ x ∈ allB B, x < T
  rlt : ∀ x, x < T → rt x < T
  lm : M.length = T
  la : A.length = T
theorem late_ok {t : Bg} {r : List Bg} {rt : Nat → Nat} {M : List Bool} {A : List Int} {T : Nat} (h : BagI (t :: r) rt M A T) : LateOk rt A t.id T ∧ (A.getD t.id 0 = -1 → t.O = []) ∧ (∀ e : Nat, A.getD t.id 0 = (e : Int) → e ∈ t.O ∧ rt t.id ≠ rt e ∧ ∀ x ∈ t.O, rt x = rt e) := by
  have hid := h.ids t (by simp)
  have hO : A.getD t.id 0 = -1 → t.O = [] := by
    intro hA
    cases hO : t.O with
    | nil => rfl
    | cons x xs =>
      obtain ⟨e, h1, _⟩ := h.r.o t (by simp) x (by rw [hO]; simp)
      rw [hA] at h1
      omega
  have hE : ∀ e : Nat, A.getD t.id 0 = (e : Int) → e ∈ t.O ∧ rt t.id ≠ rt e ∧ ∀ x ∈ t.O, rt x = rt e := by
    intro e hA
    have hne : t.O ≠ [] := fun hn => by
      have := h.r.none t (by simp) hn
      omega
    obtain ⟨x, xs, hx⟩ := List.exists_cons_of_ne_nil hne
    obtain ⟨e', h1, h2, _⟩ := h.r.o t (by simp) x (by rw [hx]; simp)
    have he : e' = e := by omega
    subst he
    refine ⟨h2, fun heq => ?_, fun y hy => ?_⟩
    · have hm := (h.r.p t (by simp) t.id hid).2
      obtain ⟨_, _, _, _, hm2⟩ := h.r.o t (by simp) e' h2
      rw [heq, hm2] at hm
      cases hm
    · obtain ⟨e2, g1, g2, g3, _⟩ := h.r.o t (by simp) y hy
      have : e2 = e' := by omega
      rw [this] at g3
      exact g3
  refine ⟨?_, hO, hE⟩
  by_cases hA : A.getD t.id 0 = -1
  · exact .inl hA
  · right
    have hne : t.O ≠ [] := fun hn => hA (h.r.none t (by simp) hn)
    obtain ⟨x, xs, hx⟩ := List.exists_cons_of_ne_nil hne
    obtain ⟨e, h1, h2, _⟩ := h.r.o t (by simp) x (by rw [hx]; simp)
    exact ⟨e, h1, h.lt e (mem_all_O (b := t) (by simp) h2), (hE e h1).2.1⟩
/-- Roots of different bags are different. -/
theorem root_ne {t : Bg} {r : List Bg} {rt : Nat → Nat} {M : List Bool} {A : List Int} {T : Nat} (h : BagI (t :: r) rt M A T) {x y : Nat} (hx : x ∈ t.P ∨ x ∈ t.O) (hy : y ∈ allB r) : rt x ≠ rt y := by
  intro e
  obtain ⟨a1, a2, a3⟩ := top_apart h.nd
  have hxa : x ∈ allB (t :: r) := by rw [allB_cons]; rcases hx with hx | hx <;> simp [hx]
  have hya : y ∈ allB (t :: r) := by rw [allB_cons]; simp [hy]
  obtain ⟨b, hb, hh⟩ := h.r.apart x y hxa hya e
  rcases List.mem_cons.1 hb with rfl | hb
  · rcases hh with ⟨_, hh⟩ | ⟨_, hh⟩
    · exact a2 y (.inl hh) hy
    · exact a2 y (.inr hh) hy
  · rcases hh with ⟨hh, _⟩ | ⟨hh, _⟩
    · exact a2 x hx (mem_all_P hb hh)
    · exact a2 x hx (mem_all_O hb hh)
/-- A sync. -/
theorem BagI.sync {t : Bg} {r : List Bg} {rt : Nat → Nat} {M : List Bool} {A : List Int} {T : Nat} (h : BagI (t :: r) rt M A T) : BagI (⟨t.id, t.P ++ t.O, []⟩ :: r) (waitR rt A t.id) M (A.set t.id (-1)) T := by
  have hid := h.ids t (by simp)
  have hidT : t.id < T := h.lt _ (mem_all_P (b := t) (by simp) hid)
  obtain ⟨_, l2, l3⟩ := late_ok h
  obtain ⟨a1, a2, a3⟩ := top_apart h.nd
  have hall : allB (⟨t.id, t.P ++ t.O, []⟩ :: r) = allB (t :: r) := by simp [allB]
  have hidr : ∀ b ∈ r, b.id ≠ t.id := fun b hb e => a2 t.id (.inl hid) (mem_all_P hb (by rw [← e]; exact h.ids b (by simp [hb])))
  -- the roots behind the wait
  have hw : (∀ x ∈ t.P, waitR rt A t.id x = rt t.id) ∧ (∀ x ∈ t.O, waitR rt A t.id x = rt t.id) ∧ (∀ x ∈ allB r, waitR rt A t.id x = rt x) ∧ (∀ x, x < T → waitR rt A t.id x < T) ∧ ∀ x y, x ∈ allB r → (y ∈ t.P ∨ y ∈ t.O) → waitR rt A t.id x ≠ waitR rt A t.id y := by
    by_cases hA : A.getD t.id 0 = -1
    · have e : waitR rt A t.id = rt := by unfold waitR; rw [if_pos hA]
      have hO := l2 hA
      rw [e]
      exact ⟨fun x hx => (h.r.p t (by simp) x hx).1, fun x hx => by rw [hO] at hx; simp at hx, fun x _ => rfl, h.rlt, fun x y hx hy e => root_ne h hy hx e.symm⟩
    · obtain ⟨e0, h1⟩ : ∃ e0 : Nat, A.getD t.id 0 = (e0 : Int) := by
        rcases (late_ok h).1 with h1 | ⟨e0, h1, _⟩
        · exact (hA h1).elim
        · exact ⟨e0, h1⟩
      obtain ⟨g1, g2, g3⟩ := l3 e0 h1
      have e : waitR rt A t.id = joinR rt t.id e0 := by unfold waitR; rw [if_neg hA, h1]; rfl
      rw [e]
      have p1 : ∀ x ∈ t.P, joinR rt t.id e0 x = rt t.id := fun x hx => by
        unfold joinR
        rw [(h.r.p t (by simp) x hx).1, if_neg g2]
      have p2 : ∀ x ∈ t.O, joinR rt t.id e0 x = rt t.id := fun x hx => by
        unfold joinR
        rw [if_pos (g3 x hx)]
      have p3 : ∀ x ∈ allB r, joinR rt t.id e0 x = rt x := fun x hx => by
        unfold joinR
        rw [if_neg (fun e => root_ne h (.inr g1) hx e.symm)]
      refine ⟨p1, p2, p3, fun x hx => ?_, fun x y hx hy heq => ?_⟩
      · unfold joinR
        split
        · exact h.rlt _ hidT
        · exact h.rlt x hx
      · rw [p3 x hx] at heq
        have : joinR rt t.id e0 y = rt t.id := by rcases hy with hy | hy; exact p1 y hy; exact p2 y hy
        rw [this] at heq
        exact root_ne h (.inl hid) hx heq.symm
  obtain ⟨w1, w2, w3, w4, w5⟩ := hw
  have wid : waitR rt A t.id t.id = rt t.id := w1 _ hid
  have hget : ∀ b ∈ r, (A.set t.id (-1)).getD b.id 0 = A.getD b.id 0 := fun b hb => by rw [getD_setZ _ _ _ _ (by rw [h.la]; exact hidT), if_neg (hidr b hb)]
  refine ⟨⟨?_, ?_, ?_, ?_⟩, ?_, by rw [hall]; exact h.nd, by rw [hall]; exact h.lt, w4, h.lm, by rw [List.length_set]; exact h.la⟩
  · intro b hb x hx
    rcases List.mem_cons.1 hb with rfl | hb
    · have hx' : waitR rt A t.id x = rt t.id := by
        rcases List.mem_append.1 hx with hx | hx
        · exact w1 x hx
        · exact w2 x hx
      simp only
      rw [hx', wid]
      exact ⟨rfl, (h.r.p t (by simp) t.id hid).2⟩
    · have hb' : b ∈ t :: r := by simp [hb]
      rw [w3 x (mem_all_P hb hx), w3 b.id (mem_all_P hb (h.ids b hb'))]
      exact h.r.p b hb' x hx
  · intro b hb x hx
    rcases List.mem_cons.1 hb with rfl | hb
    · simp at hx
    · have hb' : b ∈ t :: r := by simp [hb]
      obtain ⟨e, g1, g2, g3, g4⟩ := h.r.o b hb' x hx
      exact ⟨e, by rw [hget b hb]; exact g1, g2, by rw [w3 x (mem_all_O hb hx), w3 e (mem_all_O hb g2)]; exact g3, by rw [w3 x (mem_all_O hb hx)]; exact g4⟩
  · intro b hb hO
    rcases List.mem_cons.1 hb with rfl | hb
    · simp only
      rw [getD_setZ _ _ _ _ (by rw [h.la]; exact hidT), if_pos rfl]
    · rw [hget b hb]
      exact h.r.none b (by simp [hb]) hO
  · intro x y hx hy heq
    rw [hall, allB_cons, List.mem_append, List.mem_append] at hx hy
    rcases hx with hx | hx
    · rcases hy with hy | hy
      · refine ⟨_, List.mem_cons_self .., .inl ⟨List.mem_append.2 hx, List.mem_append.2 hy⟩⟩
      · exact (w5 y x hy hx heq.symm).elim
    · rcases hy with hy | hy
      · exact (w5 x y hx hy heq).elim
      · rw [w3 x hx, w3 y hy] at heq
        obtain ⟨b, hb, hh⟩ := h.r.apart x y (by rw [allB_cons]; simp [hx]) (by rw [allB_cons]; simp [hy]) heq
        rcases List.mem_cons.1 hb with rfl | hb
        · exfalso
          rcases hh with ⟨hh, _⟩ | ⟨hh, _⟩
          · exact a2 x (.inl hh) hx
          · exact a2 x (.inr hh) hx
        · exact ⟨b, by simp [hb], hh⟩
  · intro b hb
    rcases List.mem_cons.1 hb with rfl | hb
    · exact List.mem_append.2 (.inl hid)
    · exact h.ids b (by simp [hb])
/-- What all of a bag's tasks come to. -/
theorem uO_root {t u : Bg} {r : List Bg} {rt : Nat → Nat} {M : List Bool} {A : List Int} {T : Nat} (h : BagI (t :: u :: r) rt M A T) : (A.getD u.id 0 = -1 → u.O = []) ∧ (∀ e : Nat, A.getD u.id 0 = (e : Int) → e ∈ u.O ∧ ∀ x ∈ u.O, rt x = rt e) ∧ (A.getD u.id 0 = -1 ∨ ∃ e : Nat, A.getD u.id 0 = (e : Int)) := by
  refine ⟨?_, ?_, ?_⟩
  · intro hA
    cases hO : u.O with
    | nil => rfl
    | cons x xs =>
      obtain ⟨e, h1, _⟩ := h.r.o u (by simp) x (by rw [hO]; simp)
      rw [hA] at h1
      omega
  · intro e hA
    have hne : u.O ≠ [] := fun hn => by
      have := h.r.none u (by simp) hn
      omega
    obtain ⟨x, xs, hx⟩ := List.exists_cons_of_ne_nil hne
    obtain ⟨e', h1, h2, _⟩ := h.r.o u (by simp) x (by rw [hx]; simp)
    have he : e' = e := by omega
    subst he
    refine ⟨h2, fun y hy => ?_⟩
    obtain ⟨e2, g1, g2, g3, _⟩ := h.r.o u (by simp) y hy
    have : e2 = e' := by omega
    rw [this] at g3
    exact g3
  · by_cases hO : u.O = []
    · exact .inl (h.r.none u (by simp) hO)
    · obtain ⟨x, xs, hx⟩ := List.exists_cons_of_ne_nil hO
      obtain ⟨e, h1, _⟩ := h.r.o u (by simp) x (by rw [hx]; simp)
      exact .inr ⟨e, h1⟩
/-- A return, behind its wait. -/
theorem BagI.ret {t u : Bg} {r : List Bg} {rt : Nat → Nat} {M : List Bool} {A : List Int} {T : Nat} (h : BagI (t :: u :: r) rt M A T) (hO : t.O = []) : BagI (⟨u.id, u.P, t.P ++ u.O⟩ :: r) (endR rt A u.id t.id) (M.set (rt t.id) true) (A.set u.id (t.id : Int)) T := by
  have hid := h.ids t (by simp)
  have hidT : t.id < T := h.lt _ (mem_all_P (b := t) (by simp) hid)
  have uid := h.ids u (by simp)
  have uidT : u.id < T := h.lt _ (mem_all_P (b := u) (by simp) uid)
  obtain ⟨a1, a2, a3⟩ := top_apart h.nd
  obtain ⟨b1, b2, b3⟩ := top_apart a3
  obtain ⟨u1, u2, u3⟩ := uO_root h
  have htP : ∀ x ∈ t.P, rt x = rt t.id := fun x hx => (h.r.p t (by simp) x hx).1
  have hrne : ∀ y, y ∈ allB (u :: r) → rt y ≠ rt t.id := fun y hy e => root_ne h (.inl hid) hy e.symm
  have hsub : ∀ b ∈ r, b ∈ t :: u :: r := fun b hb => by simp [hb]
  have hrid : ∀ b ∈ r, b.id ≠ u.id := fun b hb e => b2 u.id (.inl uid) (mem_all_P hb (by rw [← e]; exact h.ids b (hsub b hb)))
  have hget : ∀ b ∈ r, (A.set u.id (t.id : Int)).getD b.id 0 = A.getD b.id 0 := fun b hb => by rw [getD_setZ _ _ _ _ (by rw [h.la]; exact uidT), if_neg (hrid b hb)]
  have hgu : (A.set u.id (t.id : Int)).getD u.id 0 = (t.id : Int) := by rw [getD_setZ _ _ _ _ (by rw [h.la]; exact uidT), if_pos rfl]
  have hM : ∀ k, (M.set (rt t.id) true).getD k false = if k = rt t.id then true else M.getD k false := fun k => getD_setB _ _ _ _ (by rw [h.lm]; exact h.rlt _ hidT)
  have hperm : (allB (⟨u.id, u.P, t.P ++ u.O⟩ :: r)).Perm (allB (t :: u :: r)) := by
    rw [allB_cons, allB_cons, allB_cons, hO]
    simp only [List.append_nil]
    have h1 : (u.P ++ (t.P ++ u.O)).Perm (t.P ++ (u.P ++ u.O)) := by
      rw [← List.append_assoc, ← List.append_assoc]
      exact List.Perm.append_right _ List.perm_append_comm
    have h2 := h1.append_right (allB r)
    rwa [List.append_assoc t.P] at h2
  -- the roots behind it: those of the new late bag are one, the others as they were
  have hw : ∃ q : Nat, (∀ x, x ∈ t.P ∨ x ∈ u.O → endR rt A u.id t.id x = q) ∧ (∀ x, x ∈ u.P ∨ x ∈ allB r → endR rt A u.id t.id x = rt x ∧ rt x ≠ q) ∧ (M.set (rt t.id) true).getD q false = true ∧ (∀ x, x < T → endR rt A u.id t.id x < T) := by
    rcases u3 with hA | ⟨e, hA⟩
    · have he : endR rt A u.id t.id = rt := by unfold endR; rw [if_pos hA]
      rw [he]
      refine ⟨rt t.id, fun x hx => ?_, fun x hx => ⟨rfl, hrne x ?_⟩, by rw [hM, if_pos rfl], h.rlt⟩
      · rcases hx with hx | hx
        · exact htP x hx
        · rw [u1 hA] at hx; simp at hx
      · rw [allB_cons]
        rcases hx with hx | hx <;> simp [hx]
    · obtain ⟨g1, g2⟩ := u2 e hA
      have he : endR rt A u.id t.id = joinR rt e t.id := by unfold endR; rw [if_neg (by rw [hA]; omega), hA]; rfl
      rw [he]
      have heall : e ∈ allB (u :: r) := mem_all_O (b := u) (by simp) g1
      have hne : rt e ≠ rt t.id := hrne e heall
      have hj : ∀ x, x ∈ allB (u :: r) → joinR rt e t.id x = rt x := fun x hx => by unfold joinR; rw [if_neg (hrne x hx)]
      refine ⟨rt e, fun x hx => ?_, fun x hx => ?_, ?_, fun x hx => ?_⟩
      · rcases hx with hx | hx
        · unfold joinR; rw [if_pos (htP x hx)]
        · rw [hj x (mem_all_O (b := u) (by simp) hx)]; exact g2 x hx
      · have hxa : x ∈ allB (u :: r) := by
          rw [allB_cons]
          rcases hx with hx | hx <;> simp [hx]
        refine ⟨hj x hxa, fun heq => ?_⟩
        obtain ⟨b, hb, hh⟩ := h.r.apart x e (by rw [allB_cons]; simp [hxa]) (by rw [allB_cons]; simp [heall]) heq
        rcases List.mem_cons.1 hb with rfl | hb
        · rcases hh with ⟨hh, _⟩ | ⟨hh, _⟩
          · exact a2 x (.inl hh) hxa
          · exact a2 x (.inr hh) hxa
        · rcases List.mem_cons.1 hb with rfl | hb
          · rcases hh with ⟨_, hh⟩ | ⟨hh, _⟩
            · exact b1 e hh g1
            · rcases hx with hx | hx
              · exact b1 x hx hh
              · exact b2 x (.inr hh) hx
          · rcases hh with ⟨_, hh⟩ | ⟨_, hh⟩
            · exact b2 e (.inr g1) (mem_all_P hb hh)
            · exact b2 e (.inr g1) (mem_all_O hb hh)
      · rw [hM, if_neg hne]
        obtain ⟨_, _, _, _, g5⟩ := h.r.o u (by simp) e g1
        exact g5
      · unfold joinR
        split
        · exact h.rlt e (h.lt e (by rw [allB_cons]; simp [heall]))
        · exact h.rlt x hx
  obtain ⟨q, w1, w2, w3, w4⟩ := hw
  have hMP : ∀ b, b ∈ u :: r → ∀ x ∈ b.P, (M.set (rt t.id) true).getD (rt x) false = false := fun b hb x hx => by
    rw [hM, if_neg (hrne x (mem_all_P hb hx))]
    exact (h.r.p b (by simp; right; simpa using hb) x hx).2
  refine ⟨⟨?_, ?_, ?_, ?_⟩, ?_, hperm.nodup_iff.2 h.nd, fun x hx => h.lt x (hperm.mem_iff.1 hx), w4, by rw [List.length_set]; exact h.lm, by rw [List.length_set]; exact h.la⟩
  · intro b hb x hx
    rcases List.mem_cons.1 hb with rfl | hb
    · simp only at hx ⊢
      rw [(w2 x (.inl hx)).1, (w2 u.id (.inl uid)).1]
      exact ⟨(h.r.p u (by simp) x hx).1, hMP u (by simp) x hx⟩
    · rw [(w2 x (.inr (mem_all_P hb hx))).1, (w2 b.id (.inr (mem_all_P hb (h.ids b (hsub b hb))))).1]
      exact ⟨(h.r.p b (hsub b hb) x hx).1, hMP b (by simp [hb]) x hx⟩
  · intro b hb x hx
    rcases List.mem_cons.1 hb with rfl | hb
    · simp only at hx ⊢
      refine ⟨t.id, hgu, List.mem_append.2 (.inl hid), ?_, ?_⟩
      · rw [w1 x (List.mem_append.1 hx), w1 t.id (.inl hid)]
      · rw [w1 x (List.mem_append.1 hx)]; exact w3
    · obtain ⟨e, g1, g2, g3, g4⟩ := h.r.o b (hsub b hb) x hx
      refine ⟨e, by rw [hget b hb]; exact g1, g2, ?_, ?_⟩
      · rw [(w2 x (.inr (mem_all_O hb hx))).1, (w2 e (.inr (mem_all_O hb g2))).1]; exact g3
      · rw [(w2 x (.inr (mem_all_O hb hx))).1, hM, if_neg (hrne x (by rw [allB_cons]; simp [mem_all_O hb hx]))]
        exact g4
  · intro b hb hbO
    rcases List.mem_cons.1 hb with rfl | hb
    · simp only at hbO
      have := (List.append_eq_nil_iff.1 hbO).1
      rw [this] at hid
      simp at hid
    · rw [hget b hb]
      exact h.r.none b (hsub b hb) hbO
  · intro x y hx hy heq
    rw [allB_cons] at hx hy
    simp only [List.mem_append] at hx hy
    have side : ∀ z, ((z ∈ u.P ∨ (z ∈ t.P ∨ z ∈ u.O)) ∨ z ∈ allB r) → (z ∈ t.P ∨ z ∈ u.O) ∨ (z ∈ u.P ∨ z ∈ allB r) := by
      rintro z ((h | h) | h)
      · exact .inr (.inl h)
      · exact .inl h
      · exact .inr (.inr h)
    rcases side x hx with hx1 | hx1
    · rcases side y hy with hy1 | hy1
      · exact ⟨_, List.mem_cons_self .., .inr ⟨List.mem_append.2 hx1, List.mem_append.2 hy1⟩⟩
      · rw [w1 x hx1, (w2 y hy1).1] at heq
        exact ((w2 y hy1).2 heq.symm).elim
    · rcases side y hy with hy1 | hy1
      · rw [w1 y hy1, (w2 x hx1).1] at heq
        exact ((w2 x hx1).2 heq).elim
      · rw [(w2 x hx1).1, (w2 y hy1).1] at heq
        have hin : ∀ z, z ∈ u.P ∨ z ∈ allB r → z ∈ allB (u :: r) := fun z hz => by rw [allB_cons]; rcases hz with hz | hz <;> simp [hz]
        obtain ⟨b, hb, hh⟩ := h.r.apart x y (by rw [allB_cons]; simp [hin x hx1]) (by rw [allB_cons]; simp [hin y hy1]) heq
        rcases List.mem_cons.1 hb with rfl | hb
        · exfalso
          rcases hh with ⟨hh, _⟩ | ⟨hh, _⟩
          · exact a2 x (.inl hh) (hin x hx1)
          · exact a2 x (.inr hh) (hin x hx1)
        · rcases List.mem_cons.1 hb with rfl | hb
          · rcases hh with hh | ⟨hh, _⟩
            · exact ⟨_, List.mem_cons_self .., .inl hh⟩
            · exfalso
              rcases hx1 with hx1 | hx1
              · exact b1 x hx1 hh
              · exact b2 x (.inr hh) hx1
          · exact ⟨b, by simp [hb], hh⟩
  · intro b hb
    rcases List.mem_cons.1 hb with rfl | hb
    · exact uid
    · exact h.ids b (hsub b hb)
end Go.Proofs.Ytolhojagbiaamab
/-! The sets hold the bags: the beginning, a spawn. -/
namespace Go.Proofs.Ytolhojagbiaamab
set_option linter.unusedVariables false
set_option maxRecDepth 20000
set_option linter.unusedSimpArgs false

def newR (rt : Nat → Nat) (T : Nat) : Nat → Nat := fun x => if x = T then T else rt x
theorem getD_appB (M : List Bool) (k : Nat) (hk : k < M.length) : (M ++ [false]).getD k false = M.getD k false := by
  rw [List.getD_eq_getElem?_getD, List.getD_eq_getElem?_getD, List.getElem?_append_left hk]
theorem getD_appB2 (M : List Bool) : (M ++ [false]).getD M.length false = false := by
  rw [List.getD_eq_getElem?_getD]
  simp
theorem getD_appZ (A : List Int) (k : Nat) (hk : k < A.length) : (A ++ [-1]).getD k 0 = A.getD k 0 := by
  rw [List.getD_eq_getElem?_getD, List.getD_eq_getElem?_getD, List.getElem?_append_left hk]
theorem getD_appZ2 (A : List Int) : (A ++ [-1]).getD A.length 0 = -1 := by
  rw [List.getD_eq_getElem?_getD]
  simp
theorem BagI.spawn {B : List Bg} {rt : Nat → Nat} {M : List Bool} {A : List Int} {T : Nat} (h : BagI B rt M A T) : BagI (⟨T, [T], []⟩ :: B) (newR rt T) (M ++ [false]) (A ++ [-1]) (T + 1) := by
  have hn : ∀ x ∈ allB B, newR rt T x = rt x := fun x hx => by unfold newR; rw [if_neg (by have := h.lt x hx; omega)]
  have hT : newR rt T T = T := by unfold newR; rw [if_pos rfl]
  have hMk : ∀ x ∈ allB B, (M ++ [false]).getD (rt x) false = M.getD (rt x) false := fun x hx => getD_appB _ _ (by rw [h.lm]; exact h.rlt x (h.lt x hx))
  have hidT : ∀ b ∈ B, b.id < T := fun b hb => h.lt _ (mem_all_P hb (h.ids b hb))
  have hA : ∀ b ∈ B, (A ++ [-1]).getD b.id 0 = A.getD b.id 0 := fun b hb => getD_appZ _ _ (by rw [h.la]; exact hidT b hb)
  have hall : allB (⟨T, [T], []⟩ :: B) = T :: allB B := by simp [allB]
  refine ⟨⟨?_, ?_, ?_, ?_⟩, ?_, ?_, ?_, ?_, by simp [h.lm], by simp [h.la]⟩
  · intro b hb x hx
    rcases List.mem_cons.1 hb with rfl | hb
    · simp only [List.mem_singleton] at hx
      subst hx
      simp only
      rw [hT]
      refine ⟨by first | rfl | trivial, ?_⟩
      have := getD_appB2 M
      rw [h.lm] at this
      exact this
    · rw [hn x (mem_all_P hb hx), hn b.id (mem_all_P hb (h.ids b hb)), hMk x (mem_all_P hb hx)]
      exact h.r.p b hb x hx
  · intro b hb x hx
    rcases List.mem_cons.1 hb with rfl | hb
    · simp at hx
    · obtain ⟨e, g1, g2, g3, g4⟩ := h.r.o b hb x hx
      exact ⟨e, by rw [hA b hb]; exact g1, g2, by rw [hn x (mem_all_O hb hx), hn e (mem_all_O hb g2)]; exact g3, by rw [hn x (mem_all_O hb hx), hMk x (mem_all_O hb hx)]; exact g4⟩
  · intro b hb hO
    rcases List.mem_cons.1 hb with rfl | hb
    · have := getD_appZ2 A
      rw [h.la] at this
      exact this
    · rw [hA b hb]
      exact h.r.none b hb hO
  · intro x y hx hy heq
    rw [hall] at hx hy
    rcases List.mem_cons.1 hx with hx1 | hx1
    · rcases List.mem_cons.1 hy with hy1 | hy1
      · exact ⟨_, List.mem_cons_self .., .inl ⟨by simp [hx1], by simp [hy1]⟩⟩
      · rw [hx1, hT, hn y hy1] at heq
        have := h.rlt y (h.lt y hy1)
        omega
    · rcases List.mem_cons.1 hy with hy1 | hy1
      · rw [hy1, hT, hn x hx1] at heq
        have := h.rlt x (h.lt x hx1)
        omega
      · rw [hn x hx1, hn y hy1] at heq
        obtain ⟨b, hb, hh⟩ := h.r.apart x y hx1 hy1 heq
        exact ⟨b, by simp [hb], hh⟩
  · intro b hb
    rcases List.mem_cons.1 hb with rfl | hb
    · simp
    · exact h.ids b hb
  · rw [hall]
    exact List.nodup_cons.2 ⟨fun hx => by have := h.lt T hx; omega, h.nd⟩
  · rw [hall]
    intro x hx
    rcases List.mem_cons.1 hx with rfl | hx
    · omega
    · have := h.lt x hx; omega
  · intro x hx
    unfold newR
    split
    · omega
    · have := h.rlt x (by omega); omega
theorem bag_zero : BagI [⟨0, [0], []⟩] (fun _ => 0) [false] [-1] 1 := by
  refine ⟨⟨?_, ?_, ?_, ?_⟩, ?_, ?_, ?_, ?_, rfl, rfl⟩
  · intro b hb x hx
    simp at hb
    subst hb
    exact ⟨rfl, rfl⟩
  · intro b hb x hx
    simp at hb
    subst hb
    simp at hx
  · intro b hb _
    simp at hb
    subst hb
    rfl
  · intro x y hx hy _
    simp [allB] at hx hy
    subst hx hy
    exact ⟨_, List.mem_cons_self .., .inl ⟨by simp, by simp⟩⟩
  · intro b hb
    simp at hb
    subst hb
    simp
  · simp [allB]
  · intro x hx
    simp [allB] at hx
    omega
  · intro x hx
    exact hx |> fun _ => by decide
/-- A task more among the ways up. -/
theorem Fo.more {U : List Nat} {rt d : Nat → Nat} (h : Fo U rt d) : Fo (U ++ [U.length]) (newR rt U.length) d := by
  have hlt : ∀ x, x < U.length → (U ++ [U.length]).getD x 0 = U.getD x 0 := fun x hx => by
    rw [List.getD_eq_getElem?_getD, List.getD_eq_getElem?_getD, List.getElem?_append_left hx]
  have hnw : (U ++ [U.length]).getD U.length 0 = U.length := by rw [List.getD_eq_getElem?_getD]; simp
  have hn : ∀ x, x < U.length → newR rt U.length x = rt x := fun x hx => by unfold newR; rw [if_neg (by omega)]
  have hT : newR rt U.length U.length = U.length := by unfold newR; rw [if_pos rfl]
  refine ⟨fun x hx => ?_, fun x hx e => ?_, fun x hx e => ?_, fun x hx => ?_⟩
  · simp at hx ⊢
    by_cases e : x = U.length
    · subst e; rw [List.getD_eq_getElem?_getD] at hnw; rw [hnw]; omega
    · have := h.up x (by omega)
      have h2 := hlt x (by omega)
      rw [List.getD_eq_getElem?_getD] at h2
      rw [h2]; omega
  · simp at hx
    by_cases e2 : x = U.length
    · subst e2; exact hT
    · rw [hlt x (by omega)] at e
      rw [hn x (by omega)]
      exact h.fix x (by omega) e
  · simp at hx
    by_cases e2 : x = U.length
    · subst e2; exact (e hnw).elim
    · rw [hlt x (by omega)] at e ⊢
      obtain ⟨m1, m2⟩ := h.mv x (by omega) e
      refine ⟨m1, ?_⟩
      rw [hn _ (h.up x (by omega)), hn x (by omega)]
      exact m2
  · simp at hx ⊢
    by_cases e2 : x = U.length
    · subst e2
      rw [hT]
      rw [List.getD_eq_getElem?_getD] at hnw
      exact ⟨by omega, hnw⟩
    · obtain ⟨r1, r2⟩ := h.root x (by omega)
      rw [hn x (by omega)]
      have h2 := hlt (rt x) r1
      rw [List.getD_eq_getElem?_getD] at h2
      exact ⟨by omega, by rw [h2]; exact r2⟩
end Go.Proofs.Ytolhojagbiaamab
