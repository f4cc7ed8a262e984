import Derived.Test.YtaipeclmfgdegaaRfAsk
/-! FramesSteps: the law. -/
namespace Go.Proofs.Ytaipeclmfgdegaa
open Go.RowKit Go.HeapKit Go.IntWalk

theorem newT_fit (A : Ar) (m : Nat) (hm : 1 ≤ m ∧ m ≤ 4096) (h : A.cells.length + (1 + 10 * m) ≤ A.size) (hon : A.on = false) (hl : A.log = []) :
    ∃ A2, newT A m = ⟨A.cells.length, m, 0, A2⟩ ∧ A2.on = false ∧ A2.log = [] ∧ A2.size = A.size := by
  unfold newT
  rw [if_pos (by omega), if_pos (by simpa using h)]
  have hr := layF_rest m ((A.more (1 + 10 * m)).noted ⟨0, 4, A.cells.length, ((1 + 10 * m : Nat) : Int), 0, true⟩) A.cells.length
  have h1 : ((A.more (1 + 10 * m)).noted ⟨0, 4, A.cells.length, ((1 + 10 * m : Nat) : Int), 0, true⟩).on = false := by rw [noted_on8]; exact hon
  refine ⟨layF A.cells.length m ((A.more (1 + 10 * m)).noted ⟨0, 4, A.cells.length, ((1 + 10 * m : Nat) : Int), 0, true⟩), by simp, by rw [hr.1]; exact h1, ?_, ?_⟩
  · rw [hr.2.1 h1, noted_off (by exact hon)]; exact hl
  · rw [hr.2.2.1, noted_size]; rfl
/-- The arena with some cells reserved. -/
def aheadA (S a : Nat) : Ar := ((Ar.new S).more a).noted ⟨0, 4, ((0 : Nat) : Int), a, 0, true⟩
theorem ahead_did (S a : Nat) (ha : 0 < a) (hS : a ≤ S) : (Ar.new S).did 4 0 a 0 = (⟨((0 : Nat) : Int), true, 0⟩, aheadA S a) := by
  unfold Ar.did aheadA
  rw [if_neg (by decide), if_neg (by decide), if_neg (by decide), if_neg (by decide), if_neg (by omega), if_neg (by simp [Ar.new]; omega)]
  simp [Ar.new]
theorem ahead_facts (S a : Nat) : (aheadA S a).cells.length = a ∧ (aheadA S a).size = S ∧ (aheadA S a).on = false ∧ (aheadA S a).log = [] := by
  unfold aheadA
  refine ⟨by rw [noted_cells]; simp [Ar.more, Ar.new], by rw [noted_size]; rfl, by rw [noted_on8]; rfl, by rw [noted_off rfl]; rfl⟩
theorem ask_keep {Z : Nat → Prop} {w w' : World} {T g n : Nat} {t0 t1 c0 c1 c2 c3 c4 c5 c6 : Value} (hk : Keeps Z w w') (hT : ¬ Z T) (hg : ¬ Z g)
    (h : w.cell? ⟨T, 0, none⟩ = some t0 ∧ w.cell? ⟨T, 1, none⟩ = some t1 ∧ w.cell? ⟨g, n, none⟩ = some c0 ∧ w.cell? ⟨g, n + 1, none⟩ = some c1 ∧ w.cell? ⟨g, n + 2, none⟩ = some c2 ∧ w.cell? ⟨g, n + 3, none⟩ = some c3 ∧ w.cell? ⟨g, n + 4, none⟩ = some c4 ∧ w.cell? ⟨g, n + 5, none⟩ = some c5 ∧ w.cell? ⟨g, n + 6, none⟩ = some c6) :
    w'.cell? ⟨T, 0, none⟩ = some t0 ∧ w'.cell? ⟨T, 1, none⟩ = some t1 ∧ w'.cell? ⟨g, n, none⟩ = some c0 ∧ w'.cell? ⟨g, n + 1, none⟩ = some c1 ∧ w'.cell? ⟨g, n + 2, none⟩ = some c2 ∧ w'.cell? ⟨g, n + 3, none⟩ = some c3 ∧ w'.cell? ⟨g, n + 4, none⟩ = some c4 ∧ w'.cell? ⟨g, n + 5, none⟩ = some c5 ∧ w'.cell? ⟨g, n + 6, none⟩ = some c6 :=
  ⟨hk.cell h.1 hT, hk.cell h.2.1 hT, hk.cell h.2.2.1 hg, hk.cell h.2.2.2.1 hg, hk.cell h.2.2.2.2.1 hg, hk.cell h.2.2.2.2.2.1 hg, hk.cell h.2.2.2.2.2.2.1 hg, hk.cell h.2.2.2.2.2.2.2.1 hg, hk.cell h.2.2.2.2.2.2.2.2 hg⟩
theorem keep17 {w w' : World} {gO gR k : Nat} {o0 o1 o2 o3 o4 o5 o6 o7 r0 r1 r2 r3 r4 r5 r6 r7 r8 : Int} (hk : Keeps None w w') (h : w.cell? ⟨gO, k * 8, none⟩ = some (.int .i64 o0) ∧ w.cell? ⟨gO, k * 8 + 1, none⟩ = some (.int .i64 o1) ∧ w.cell? ⟨gO, k * 8 + 2, none⟩ = some (.int .i64 o2) ∧ w.cell? ⟨gO, k * 8 + 3, none⟩ = some (.int .i64 o3) ∧ w.cell? ⟨gO, k * 8 + 4, none⟩ = some (.int .i64 o4) ∧ w.cell? ⟨gO, k * 8 + 5, none⟩ = some (.int .i64 o5) ∧ w.cell? ⟨gO, k * 8 + 6, none⟩ = some (.int .i64 o6) ∧ w.cell? ⟨gO, k * 8 + 7, none⟩ = some (.int .i64 o7) ∧ w.cell? ⟨gR, k * 9, none⟩ = some (.int .i64 r0) ∧ w.cell? ⟨gR, k * 9 + 1, none⟩ = some (.int .i64 r1) ∧ w.cell? ⟨gR, k * 9 + 2, none⟩ = some (.int .i64 r2) ∧ w.cell? ⟨gR, k * 9 + 3, none⟩ = some (.int .i64 r3) ∧ w.cell? ⟨gR, k * 9 + 4, none⟩ = some (.int .i64 r4) ∧ w.cell? ⟨gR, k * 9 + 5, none⟩ = some (.int .i64 r5) ∧ w.cell? ⟨gR, k * 9 + 6, none⟩ = some (.int .i64 r6) ∧ w.cell? ⟨gR, k * 9 + 7, none⟩ = some (.int .i64 r7) ∧ w.cell? ⟨gR, k * 9 + 8, none⟩ = some (.int .i64 r8)) : w'.cell? ⟨gO, k * 8, none⟩ = some (.int .i64 o0) ∧ w'.cell? ⟨gO, k * 8 + 1, none⟩ = some (.int .i64 o1) ∧ w'.cell? ⟨gO, k * 8 + 2, none⟩ = some (.int .i64 o2) ∧ w'.cell? ⟨gO, k * 8 + 3, none⟩ = some (.int .i64 o3) ∧ w'.cell? ⟨gO, k * 8 + 4, none⟩ = some (.int .i64 o4) ∧ w'.cell? ⟨gO, k * 8 + 5, none⟩ = some (.int .i64 o5) ∧ w'.cell? ⟨gO, k * 8 + 6, none⟩ = some (.int .i64 o6) ∧ w'.cell? ⟨gO, k * 8 + 7, none⟩ = some (.int .i64 o7) ∧ w'.cell? ⟨gR, k * 9, none⟩ = some (.int .i64 r0) ∧ w'.cell? ⟨gR, k * 9 + 1, none⟩ = some (.int .i64 r1) ∧ w'.cell? ⟨gR, k * 9 + 2, none⟩ = some (.int .i64 r2) ∧ w'.cell? ⟨gR, k * 9 + 3, none⟩ = some (.int .i64 r3) ∧ w'.cell? ⟨gR, k * 9 + 4, none⟩ = some (.int .i64 r4) ∧ w'.cell? ⟨gR, k * 9 + 5, none⟩ = some (.int .i64 r5) ∧ w'.cell? ⟨gR, k * 9 + 6, none⟩ = some (.int .i64 r6) ∧ w'.cell? ⟨gR, k * 9 + 7, none⟩ = some (.int .i64 r7) ∧ w'.cell? ⟨gR, k * 9 + 8, none⟩ = some (.int .i64 r8) :=
  ⟨hk.cell h.1 (fun f => f), hk.cell h.2.1 (fun f => f), hk.cell h.2.2.1 (fun f => f), hk.cell h.2.2.2.1 (fun f => f), hk.cell h.2.2.2.2.1 (fun f => f), hk.cell h.2.2.2.2.2.1 (fun f => f), hk.cell h.2.2.2.2.2.2.1 (fun f => f), hk.cell h.2.2.2.2.2.2.2.1 (fun f => f), hk.cell h.2.2.2.2.2.2.2.2.1 (fun f => f), hk.cell h.2.2.2.2.2.2.2.2.2.1 (fun f => f), hk.cell h.2.2.2.2.2.2.2.2.2.2.1 (fun f => f), hk.cell h.2.2.2.2.2.2.2.2.2.2.2.1 (fun f => f), hk.cell h.2.2.2.2.2.2.2.2.2.2.2.2.1 (fun f => f), hk.cell h.2.2.2.2.2.2.2.2.2.2.2.2.2.1 (fun f => f), hk.cell h.2.2.2.2.2.2.2.2.2.2.2.2.2.2.1 (fun f => f), hk.cell h.2.2.2.2.2.2.2.2.2.2.2.2.2.2.2.1 (fun f => f), hk.cell h.2.2.2.2.2.2.2.2.2.2.2.2.2.2.2.2 (fun f => f)⟩
set_option maxHeartbeats 60000000 in
set_option maxRecDepth 100000 in
theorem framesSteps_walk (ah n : Int) (a0 a1 : Option Addr) (l0 c0 c1 : Nat) (ps : List Int) (w : World) (hk0 : Asks w a0 l0) (hp : Ints w a1 ps) (hl0 : l0 ≤ 1048576) (hps : ps.length ≤ 1048576) :
    Calls Try.prog 4 #[.int .i64 ah, .int .i64 n, .slice a0 l0 c0, .slice a1 ps.length c1] w fun e w' => e = .returned (.bool true) ∧ Keeps None w w' := by
  have hm1 := mod8_any ah 8 (by omega) (by omega)
  have hm2 := mod8_any n 6 (by omega) (by omega)
  obtain ⟨a, ha⟩ : ∃ a : Nat, (a : Int) = ah % (8 : Nat) := ⟨(ah % (8 : Nat)).toNat, by omega⟩
  obtain ⟨m, hm⟩ : ∃ m : Nat, (m : Int) = 1 + n % (6 : Nat) := ⟨(1 + n % (6 : Nat)).toNat, by omega⟩
  have ha7 : a ≤ 7 := by omega
  have hm6 : m ≤ 6 := by omega
  have hm1' : 1 ≤ m := by omega
  rw [← ha] at hm1
  obtain ⟨u, hu⟩ : ∃ u : Int, u = n % (6 : Nat) := ⟨_, rfl⟩
  rw [← hu] at hm2
  have hu0 : 0 ≤ u := by omega
  have hu5 : u ≤ 5 := by omega
  have E1 : Hid (1 + u = (m : Int)) := by show 1 + u = (m : Int); omega
  have hcl := rcells8_any m
  obtain ⟨M, hM⟩ : ∃ M : Nat, M = 1 + 10 * m := ⟨_, rfl⟩
  have ec : cellsV m = (M : Int) := by unfold cellsV; rw [if_pos (by omega)]; omega
  rw [ec] at hcl
  have hMn : M ≤ 61 := by omega
  have HM : Hid _ := hM
  obtain ⟨S, hS⟩ : ∃ S : Nat, (S : Int) = (a : Int) + (M : Int) := ⟨a + M, by omega⟩
  have hrn := fun w => rnew_w S w
  have hfn : fineW S = true := by simp [fineW]; omega
  rw [show errW S = 0 by simp [errW, hfn], show szW S = S by simp [szW, hfn]] at hrn
  have hSn : S ≤ 1048576 := by omega
  have hnw := fun w => newA_new S w hSn
  have HSE : Hid _ := hS
  have HP : Hid _ := hp
  have HA : Hid (Asks w a0 l0) := hk0
  clear ha hm hu ec hM hfn hS hp hk0
  go_enter Try.func4, Try.ntmps4
  go_wp2_with fail
  refine (hm1 _).mono ?_
  rintro e w1 ⟨rfl, hw1⟩
  have hv1 := hw1.symm
  subst hv1
  clear hw1 hm1
  go_wp2_with fail
  refine (hm2 _).mono ?_
  rintro e w1 ⟨rfl, hw1⟩
  have hv1 := hw1.symm
  subst hv1
  clear hw1 hm2
  go_wp2_with fail
  rw [E1.out]
  refine (hcl _).mono ?_
  rintro e w1 ⟨rfl, hw1⟩
  have hv1 := hw1.symm
  subst hv1
  clear hw1 hcl
  go_wp2_with fail
  rw [← HSE.out]
  refine (hrn _).mono ?_
  rintro e w1 ⟨rfl, hR1, hk1⟩
  have HR1 : Hid _ := And.intro hR1 hk1
  clear hR1 hk1 hrn
  go_wp2_with fail
  refine (hnw _).mono ?_
  rintro e w2 ⟨rfl, F, hF, hk2, hf2⟩
  have HF2 : Hid _ := And.intro hF (And.intro hk2 hf2)
  clear hF hk2 hf2
  go_wp2_with fail
  refine (hnw _).mono ?_
  rintro e w3 ⟨rfl, K, hK, hk3, hf3⟩
  have hT : St3 w w3 w1.heap.size w.heap.size w2.heap.size F (Foot w.heap.size (.slice none 0 0) (.slice none 0 0)) K (Ar.new S) (Ar.new S) (Ar.new S) := by
    obtain ⟨hR1, hk1⟩ := HR1.out
    obtain ⟨hF, hk2, hf2⟩ := HF2.out
    have s1 := hk1.size
    have s2 := hk2.size
    have hfo : ∀ k, Foot w.heap.size (.slice none 0 0) (.slice none 0 0) k → k = w.heap.size := by
      rintro k (rfl | e | e)
      · rfl
      · simp [Value.ownBlock] at e
      · simp [Value.ownBlock] at e
    have hlt := hR1.lt
    refine ⟨hF.kept hk3 (fun _ _ f => f), ⟨_, _, (hR1.kept hk2 (fun _ _ f => f)).kept hk3 (fun _ _ f => f), rfl⟩, hK, fun k f g => ?_, fun k f g => ?_, fun k f g => ?_, fun k f => ?_, (hk1.trans hk2 (fun _ f _ => f)).trans hk3 (fun _ f _ => f)⟩
    · have := hf2 k f; have := hfo k g; omega
    · have := hF.lt f; have := hf3 k g; omega
    · have := hfo k f; have := hf3 k g; omega
    · rcases f with f | f | f
      · have := hf2 k f; omega
      · have := hfo k f; omega
      · have := hf3 k f; omega
  generalize w1.heap.size = p at hT ⊢
  generalize w2.heap.size = b at hT ⊢
  generalize w.heap.size = q at hT ⊢
  have HT : Hid _ := hT
  clear hT hK hk3 hf3 HR1 HF2 hnw
  go_upto_if 69 with fail
  go_cut [69] (fun s69 wx => ∃ F G K A1, St3 w wx p q b F G K A1 A1 A1 ∧ A1.cells.length = a ∧ A1.size = S ∧ A1.on = false ∧ A1.log = [])
  case first =>
    as_aux_lemma =>
    by_cases h0 : 0 < a
    · have j1 : (0 : Int) < (a : Int) := by omega
      have hSa : a ≤ S := by have := HSE.out; omega
      have hd := rf_do q _ (Ar.new S) 0 4 0 a 0 w3 HT.out.rf (by simp [Ar.new]) (by omega)
      rw [ahead_did S a h0 hSa] at hd
      simp only [Eff.value] at hd
      have hra := fun wx F (h : ArF wx p F (Ar.new S)) => arf_reserve p F (Ar.new S) a wx h h0 (by simp [Ar.new]; omega) (by simp [Ar.new])
      have hrb := fun wx F (h : ArF wx b F (Ar.new S)) => arf_reserve b F (Ar.new S) a wx h h0 (by simp [Ar.new]; omega) (by simp [Ar.new])
      have ee : ((Ar.new S).more a).noted ⟨0, 4, (Ar.new S).cells.length, a, 0, true⟩ = aheadA S a := rfl
      rw [ee] at hra hrb
      clear ee
      go_wp2_with fail
      refine hd.mono ?_
      rintro e w4 ⟨rfl, hA4⟩
      obtain ⟨G4, h4, -, -⟩ := HT.out.accR hA4
      have hr4 := hra _ _ h4.ar
      have H4 : Hid _ := h4
      clear hd hA4 h4 hra
      go_wp2_with fail
      refine hr4.mono ?_
      rintro e w5 ⟨rfl, hA5⟩
      obtain ⟨F5, h5, -, -⟩ := H4.out.accA hA5
      have hr5 := hrb _ _ h5.br
      have H5 : Hid _ := h5
      clear hr4 hA5 h5 hrb H4
      go_wp2_with fail
      refine hr5.mono ?_
      rintro e w6 ⟨rfl, hA6⟩
      obtain ⟨K6, h6, -, -⟩ := H5.out.accB hA6
      have H6 : Hid _ := h6
      clear hr5 hA6 h6 H5
      go_wp2_with fail
      go_meet
      obtain ⟨f1, f2, f3, f4⟩ := ahead_facts S a
      exact ⟨F5, G4, K6, aheadA S a, H6.out, f1, f2, f3, f4⟩
    · have j1 : ¬ (0 : Int) < (a : Int) := by omega
      have HA0 : Hid (0 = a) := by show 0 = a; omega
      go_wp2_with fail
      go_meet
      exact ⟨F, _, K, Ar.new S, HT.out, by simp [Ar.new]; exact HA0.out, rfl, rfl, rfl⟩
  case rest =>
    obtain ⟨F1, G1, K1, A1, h1, q1, q2, q3, q4⟩ := hcut
    obtain ⟨A2, hA2, on2, lg2, sz2⟩ := newT_fit A1 m (by omega) (by have := HSE.out; have := HM.out; omega) q3 q4
    have hrn := fun wx G (h : RfF wx q G A1) => rfnew_any q G A1 m wx h (by rw [q4]; simp) (by omega)
    have hfa := fun wx F (h : ArF wx p F A1) => fnew_any p F A1 m wx h (by rw [q4]; simp) (by omega)
    have hfb := fun wx F (h : ArF wx b F A1) => fnew_any b F A1 m wx h (by rw [q4]; simp) (by omega)
    rw [hA2, q1] at hrn hfa hfb
    simp only at hrn hfa hfb
    have hsz2 : A2.size = S := by omega
    have hn1 := hrn _ _ h1.rf
    have H1 : Hid _ := h1
    have HQ : Hid _ := And.intro on2 (And.intro lg2 hsz2)
    clear HT h1 q1 q2 q3 q4 hA2 on2 lg2 sz2 hsz2 hrn
    go_wp2_with fail
    refine hn1.mono ?_
    rintro e w4 ⟨rfl, hA4⟩
    obtain ⟨G2, h2, -, -⟩ := H1.out.accR hA4
    have h2' := h2.kept (Keeps.alloc None w4 (.cells #[.int .i64 a, .int .i64 m] 36))
    have hb4 := new_at w4 (.cells #[.int .i64 a, .int .i64 m] 36) _ rfl
    have hx4 : ¬ (F1 w4.heap.size ∨ G2 w4.heap.size ∨ K1 w4.heap.size) := fun f => by have := h2.lt f; omega
    have hn2 := hfa _ _ h2'.ar
    have H2 : Hid _ := And.intro h2' (And.intro hb4 hx4)
    clear hA4 h2 h2' hb4 hx4 hn1 hfa H1
    go_wp2_with fail
    refine hn2.mono ?_
    rintro e w5 ⟨rfl, hA5⟩
    have hL5 : ∃ F3, Lw w (w5.alloc (.cells #[.int .i64 a, .int .i64 m] 39)) p q b w4.heap.size w5.heap.size a m F3 G2 K1 A2 A2 A1 (.slice none 0 0) (.slice none 0 0) [] [] := by
      obtain ⟨h2, hb4, hx4⟩ := H2.out
      obtain ⟨F3, h3, hf3, hk3⟩ := h2.accA hA5
      have hs3 := hk3.size
      have hl4 := (Array.getElem?_eq_some_iff.1 hb4).1
      have hb5 := (hk3.block w4.heap.size hl4 (fun f => hx4 (.inl f))).trans hb4
      refine ⟨F3, h3.kept (Keeps.alloc None w5 _), ((Keeps.alloc None w5 _).block w4.heap.size (by omega) (fun f => f)).trans hb5, new_at w5 _ _ rfl, fun f => ?_, fun f => by have := h3.lt f; omega, World.ownsRow_nil _ _ _ _, World.ownsRow_nil _ _ _ _, fun k e => by simp [Value.ownBlock] at e, fun k e => by simp [Value.ownBlock] at e⟩
      rcases f with f | f
      · rcases hf3 _ f with f | f
        · exact hx4 (.inl f)
        · omega
      · exact hx4 (.inr f)
    obtain ⟨F3, hL5⟩ := hL5
    have hn3 := hfb _ _ hL5.st.br
    have HL5 : Hid _ := hL5
    clear hA5 hL5 hn2 hfb H2
    go_wp2_with fail
    refine hn3.mono ?_
    rintro e w6 ⟨rfl, hA6⟩
    obtain ⟨K6, hL6⟩ := HL5.out.accB hA6
    have hL7 := hL6.kept (Keeps.alloc None w6 (.cells #[.int .i64 a, .int .i64 m] 39))
    obtain ⟨y0, y1⟩ := tab_cells (new_at w6 (.cells #[.int .i64 a, .int .i64 m] 39) _ rfl)
    obtain ⟨y2, y3⟩ := tab_cells hL7.t2
    obtain ⟨y4, y5⟩ := tab_cells hL7.t1
    have hwt := arf_watch p F3 A2 true _ hL7.st.ar
    have HL7 : Hid _ := hL7
    clear hA6 hL6 hL7 hn3 HL5
    go_upto_region 18 with fail
    go_wp2_with fail
    refine hwt.mono ?_
    rintro e w8 ⟨rfl, hA8⟩
    obtain ⟨F8, hL8⟩ := HL7.out.accA hA8
    have hc2 : w8.cell? ⟨q, 2, none⟩ = some (.bool A2.on) ∧ w8.frozen? ⟨q, 2, none⟩ = false := by
      obtain ⟨vc, vl, hR, -⟩ := hL8.st.rf
      exact ⟨hR.c2, hR.free 2⟩
    obtain ⟨c2, f2⟩ := hc2
    have HL8 : Hid _ := hL8
    clear hA8 hL8 hwt HL7 y0 y1 y2 y3 y4 y5
    go_upto_region 19 with fail
    go_cut [129] (fun s129 wx => ∃ F G K B C, Lw w wx p q b w4.heap.size w5.heap.size a m F G K B B C (.slice none 0 0) (.slice none 0 0) [] [] ∧ Twin B C ∧ B.log = [] ∧ B.size = S)
    case first =>
      as_aux_lemma =>
      go_wp2_with fail
      go_meet
      obtain ⟨G9, hL9⟩ := HL8.out.accR (rf_on HL8.out.st.rf)
      exact ⟨F8, G9, K6, { A2 with on := true }, A2, hL9, ⟨rfl, rfl, HQ.out.1, HQ.out.2.1⟩, HQ.out.2.1, HQ.out.2.2⟩
    case rest =>
      obtain ⟨F9, G9, K9, B9, C9, hL9, hTw, hlg9, hsz9⟩ := hcut
      generalize w4.heap.size = T1 at hL9 ⊢
      generalize w5.heap.size = T2 at hL9 ⊢
      have HL9 : Hid _ := hL9
      have HT9 : Hid _ := And.intro hTw (And.intro hlg9 hsz9)
      clear hL9 hTw hlg9 hsz9 HL8 c2 f2 HQ
      go_wp2_with fail
      go_loopw [22, 23, 24] (fun s22 s23 s24 wr => ∃ (k : Nat) (os : List OpF) (rs : List ROp), k ≤ l0 ∧ s24 = .int .i64 k ∧ os.length = k ∧ rs.length = k ∧ Alike os rs ∧ Lw w wr p q b T1 T2 a m F9 G9 K9 B9 B9 C9 s22 s23 os rs) (fun _ _ s24 _ => l0 - (intOf s24).toNat)
      case atStart => exact ⟨0, [], [], Nat.zero_le _, rfl, rfl, rfl, fun i o r h => by simp at h, HL9.out⟩
      case round =>
        obtain ⟨k, os, rs, hk, rfl, ho, hr, hal, hL⟩ := hrel
        obtain ⟨xo, co, hvo⟩ := own_shape hL.ho
        obtain ⟨xr, cr, hvr⟩ := own_shape hL.hr
        rw [ho] at hvo
        rw [hr] at hvr
        subst hvo hvr
        clear HL9
        by_cases hkl : k < l0
        · have i1 : (k : Int) < (l0 : Int) := by omega
          obtain ⟨gA, off, rfl, hcs⟩ := HA.out (by omega)
          obtain ⟨kd, fr, sl, v, xb, xf, od, e0, e1, e2, e3, e4, e5, e6⟩ := hcs k hkl
          obtain ⟨o, hO⟩ : ∃ o, o = begP (kd % 6) (if od then xb else (a : Int)) (if od then xf else (m : Int)) fr sl v := ⟨_, rfl⟩
          have hbg := fun wx => lbegin_any a m kd fr sl v xb xf od wx
          rw [← hO] at hbg
          have hgA : gA < w.heap.size := by
            cases hb : w.heap[gA]? with
            | none => simp [World.cell?, hb] at e0
            | some o => exact (Array.getElem?_eq_some_iff.1 hb).1
          have hS : wr.cell? ⟨T2, 0, none⟩ = some (.int .i64 a) ∧ wr.cell? ⟨T2, 1, none⟩ = some (.int .i64 m) ∧ wr.cell? ⟨gA, off + k * 7, none⟩ = some (.int .i64 kd) ∧ wr.cell? ⟨gA, off + k * 7 + 1, none⟩ = some (.int .i64 fr) ∧ wr.cell? ⟨gA, off + k * 7 + 2, none⟩ = some (.int .i64 sl) ∧ wr.cell? ⟨gA, off + k * 7 + 3, none⟩ = some (.int .i64 v) ∧ wr.cell? ⟨gA, off + k * 7 + 4, none⟩ = some (.bool od) ∧ wr.cell? ⟨gA, off + k * 7 + 5, none⟩ = some (.int .i64 xb) ∧ wr.cell? ⟨gA, off + k * 7 + 6, none⟩ = some (.int .i64 xf) :=
            ⟨(tab_cells hL.t2).1, (tab_cells hL.t2).2, hL.st.kp.cell e0 (fun f => f), hL.st.kp.cell e1 (fun f => f), hL.st.kp.cell e2 (fun f => f), hL.st.kp.cell e3 (fun f => f), hL.st.kp.cell e4 (fun f => f), hL.st.kp.cell e5 (fun f => f), hL.st.kp.cell e6 (fun f => f)⟩
          have HL : Hid _ := hL
          have HS : Hid _ := hS
          have HB : Hid _ := And.intro ho (And.intro hr (And.intro hal hO))
          have HE : Hid _ := And.intro e0 (And.intro e1 (And.intro e2 (And.intro e3 (And.intro e4 (And.intro e5 e6)))))
          obtain ⟨o0, o1, o2, o3, o4, o5, o6, o7⟩ := o
          simp only [OpF.value, OpF.vals] at hbg
          obtain ⟨t0, t1, z0, z1, z2, z3, z4, z5, z6⟩ := hS
          have hnT : ¬ (Value.slice xo k co).ownBlock = some T2 := fun e => absurd (own_type hL.ho e hL.t2) (by decide)
          have hnA : ¬ (Value.slice xo k co).ownBlock = some gA := fun e => by have := (hL.fo gA e).1; omega
          clear hcs e0 e1 e2 e3 e4 e5 e6 hal ho hr hO hL
          go_upto_region 25 with fail
          go_cut [22] (fun s22 wx => Lw w wx p q b T1 T2 a m F9 G9 K9 B9 B9 C9 s22 (.slice xr k cr) (os ++ [⟨o0, o1, o2, o3, o4, o5, o6, o7⟩]) rs)
          case first =>
            refine wp_region_held_drew (S := (fun w' => w'.cell? ⟨T2, 0, none⟩ = some (.int .i64 a) ∧ w'.cell? ⟨T2, 1, none⟩ = some (.int .i64 m) ∧ w'.cell? ⟨gA, off + k * 7, none⟩ = some (.int .i64 kd) ∧ w'.cell? ⟨gA, off + k * 7 + 1, none⟩ = some (.int .i64 fr) ∧ w'.cell? ⟨gA, off + k * 7 + 2, none⟩ = some (.int .i64 sl) ∧ w'.cell? ⟨gA, off + k * 7 + 3, none⟩ = some (.int .i64 v) ∧ w'.cell? ⟨gA, off + k * 7 + 4, none⟩ = some (.bool od) ∧ w'.cell? ⟨gA, off + k * 7 + 5, none⟩ = some (.int .i64 xb) ∧ w'.cell? ⟨gA, off + k * 7 + 6, none⟩ = some (.int .i64 xf))) (by kernel_rfl) ?_ (fun hHeld => ?_)
            · (try dsimp only); (first | with_reducible exact hs5 | with_reducible exact hs6 | with_reducible exact hs7 | go_keep)
            refine wpAnyH_take (i := 0) (oi := { dst := some 136, op := Op.move (Operand.tmp 22), type := 57, pos := "law.go:256", after := #[], guard := none }) (v := ?_) rfl (by kernel_rfl) (by kernel_rfl) (by kernel_rfl) (fun _ _ _ h => h) (Or.inl ⟨by rfl, ?_⟩) (by assumption) ?_
            rotate_left
            · (intro wz hSw; (try dsimp only at hSw); go_simp; try with_reducible rfl)
            simp only [Act.put, List.setIfInBounds_toArray, List.set_cons_zero, List.set_cons_succ]
            refine wpAnyH_take (i := 1) (oi := { dst := some 137, op := Op.load 39 (Operand.tmp 18), type := 39, pos := "law.go:256", after := #[], guard := none }) (v := ?_) rfl (by kernel_rfl) (by kernel_rfl) (by kernel_rfl) (fun _ _ _ h => h) (Or.inl ⟨by rfl, ?_⟩) (by assumption) ?_
            rotate_left
            · (intro wz hSw; (try dsimp only at hSw); go_simp; try with_reducible rfl)
            simp only [Act.put, List.setIfInBounds_toArray, List.set_cons_zero, List.set_cons_succ]
            refine wpAnyH_take (i := 2) (oi := { dst := some 138, op := Op.move (Operand.tmp 2), type := 47, pos := "law.go:256", after := #[], guard := none }) (v := ?_) rfl (by kernel_rfl) (by kernel_rfl) (by kernel_rfl) (fun _ _ _ h => h) (Or.inl ⟨by rfl, ?_⟩) (by assumption) ?_
            rotate_left
            · (intro wz hSw; (try dsimp only at hSw); go_simp; try with_reducible rfl)
            simp only [Act.put, List.setIfInBounds_toArray, List.set_cons_zero, List.set_cons_succ]
            refine wpAnyH_take (i := 3) (oi := { dst := some 139, op := Op.move (Operand.tmp 24), type := 3, pos := "law.go:256", after := #[], guard := none }) (v := ?_) rfl (by kernel_rfl) (by kernel_rfl) (by kernel_rfl) (fun _ _ _ h => h) (Or.inl ⟨by rfl, ?_⟩) (by assumption) ?_
            rotate_left
            · (intro wz hSw; (try dsimp only at hSw); go_simp; try with_reducible rfl)
            simp only [Act.put, List.setIfInBounds_toArray, List.set_cons_zero, List.set_cons_succ]
            refine wpAnyH_take (i := 4) (oi := { dst := some 140, op := Op.indexAddr 47 (Operand.tmp 138) (Operand.tmp 139), type := 0, pos := "law.go:256", after := #[{ on := 2, ground := Ground.data }, { on := 3, ground := Ground.data }], guard := none }) (v := ?_) rfl (by kernel_rfl) (by kernel_rfl) (by kernel_rfl) (fun _ _ _ h => h) (Or.inl ⟨by rfl, ?_⟩) (by assumption) ?_
            rotate_left
            · (intro wz hSw; (try dsimp only at hSw); go_simp; try with_reducible rfl)
            simp only [Act.put, List.setIfInBounds_toArray, List.set_cons_zero, List.set_cons_succ]
            refine wpAnyH_take (i := 5) (oi := { dst := some 141, op := Op.load 66 (Operand.tmp 140), type := 66, pos := "law.go:256", after := #[{ on := 4, ground := Ground.data }], guard := none }) (v := ?_) rfl (by kernel_rfl) (by kernel_rfl) (by kernel_rfl) (fun _ _ _ h => h) (Or.inl ⟨by rfl, ?_⟩) (by assumption) ?_
            rotate_left
            · (intro wz hSw; (try dsimp only at hSw); go_simp; try with_reducible rfl)
            simp only [Act.put, List.setIfInBounds_toArray, List.set_cons_zero, List.set_cons_succ]
            refine wpAnyH_ready (rs := [6]) (by kernel_rfl) (by simp) ?_
            refine AllReadyH.cons (o := { dst := some 142, op := Op.call { callee := Callee.value (Operand.func 21), args := #[Operand.tmp 137, Operand.tmp 141], argTypes := #[39, 66] }, type := 63, pos := "law.go:256", after := #[{ on := 1, ground := Ground.data }, { on := 5, ground := Ground.data }], guard := none }) rfl (fun K hK => ?_) ?_
            · go_simp
              refine (hbg _).mono ?_
              rintro _ w5 ⟨rfl, hk5⟩
              have hL5 := (HL.out.kept (Keeps.drew None _)).kept hk5
              have hs5 := ask_keep hk5 (fun f => f) (fun f => f) (ask_keep (Keeps.drew None wr) (fun f => f) (fun f => f) HS.out)
              have hs6 := ask_keep (Keeps.alloc None w5 (.cells (OpF.mk o0 o1 o2 o3 o4 o5 o6 o7).vals 63)) (fun f => f) (fun f => f) hs5
              have ho6 := (hL5.kept (Keeps.alloc None w5 (.cells (OpF.mk o0 o1 o2 o3 o4 o5 o6 o7).vals 63))).ho
              rw [HB.out.1] at ho6
              obtain ⟨bb, cc, w6, hrun, ho7, hgr, hmv⟩ := op_append (.slice xo k co) os ⟨o0, o1, o2, o3, o4, o5, o6, o7⟩ w5.heap.size 57 _ (by rw [HB.out.1]; exact ho6) (by rw [HB.out.1]; omega) (new_at w5 _ _ rfl)
              rw [HB.out.1] at hrun ho7 hmv
              have hk6 : Keeps (fun i => (Value.slice xo k co).ownBlock = some i) w5 w6 := ((Keeps.refl _ w5).andAlloc _).andGrown hgr (fun k e => .inl e)
              have hs7 := ask_keep hk6 hnT hnA hs5
              have hmv2 : Moved w5 (.slice xo k co) (.slice (some ⟨bb, 0, none⟩) (k + 1) cc) := (by rcases hmv with e | ⟨g', e, hg⟩; exact .inl e; exact .inr ⟨g', e, by simp at hg; omega⟩)
              have hL7 := hL5.ops (os' := os ++ [⟨o0, o1, o2, o3, o4, o5, o6, o7⟩]) hk6 hmv2 (by rw [List.length_append, HB.out.1]; exact ho7)
              simp only [OpF.vals] at hrun hs6
              refine hK.out _ _ ?_ (fun hHeld2 => ?_)
              · (try dsimp only); (first | with_reducible exact hs5 | with_reducible exact hs6 | with_reducible exact hs7 | go_keep)
              clear hK K
              try simp only [Act.put, List.setIfInBounds_toArray, List.set_cons_zero, List.set_cons_succ]
              refine wpAnyH_ready (rs := [7]) (by kernel_rfl) (by simp) ?_
              refine AllReadyH.cons (o := { dst := some 143, op := Op.buildSlice 57 1 #[(0, Operand.tmp 142)], type := 57, pos := "law.go:256", after := #[{ on := 6, ground := Ground.data }], guard := none }) rfl (fun K hK => ?_) ?_
              · go_simp
                refine hK.out _ _ ?_ (fun hHeld2 => ?_)
                · (try dsimp only); (first | with_reducible exact hs5 | with_reducible exact hs6 | with_reducible exact hs7 | go_keep)
                clear hK K
                try simp only [Act.put, List.setIfInBounds_toArray, List.set_cons_zero, List.set_cons_succ]
                refine wpAnyH_ready (rs := [8]) (by kernel_rfl) (by simp) ?_
                refine AllReadyH.cons (o := { dst := some 144, op := Op.call { callee := Callee.builtin Builtin.append, args := #[Operand.tmp 136, Operand.tmp 143], argTypes := #[57, 57] }, type := 57, pos := "law.go:256", after := #[{ on := 0, ground := Ground.data }, { on := 7, ground := Ground.data }, { on := 6, ground := Ground.chain }], guard := none }) rfl (fun K hK => ?_) ?_
                · refine step_append_run rfl (.tmp 136) (.tmp 143) 57 57 rfl (by simp [Act.eval]) (by simp [Act.eval]) hrun ?_
                  refine hK.out _ _ ?_ (fun hHeld2 => ?_)
                  · (try dsimp only); (first | with_reducible exact hs5 | with_reducible exact hs6 | with_reducible exact hs7 | go_keep)
                  clear hK K
                  try simp only [Act.put, List.setIfInBounds_toArray, List.set_cons_zero, List.set_cons_succ]
                  refine wpAnyH_take (i := 9) (oi := { dst := some 22, op := Op.assign (Operand.tmp 144), type := 57, pos := "law.go:256", after := #[{ on := 8, ground := Ground.data }, { on := 8, ground := Ground.chain }, { on := 0, ground := Ground.phase }, { on := 1, ground := Ground.phase }, { on := 2, ground := Ground.phase }, { on := 3, ground := Ground.phase }, { on := 4, ground := Ground.phase }, { on := 5, ground := Ground.phase }, { on := 6, ground := Ground.phase }, { on := 7, ground := Ground.phase }, { on := 8, ground := Ground.phase }], guard := none }) (v := ?_) rfl (by kernel_rfl) (by kernel_rfl) (by kernel_rfl) (fun _ _ _ h => h) (Or.inl ⟨by rfl, ?_⟩) (by assumption) ?_
                  rotate_left
                  · (intro wz hSw; (try dsimp only at hSw); go_simp; try with_reducible rfl)
                  simp only [Act.put, List.setIfInBounds_toArray, List.set_cons_zero, List.set_cons_succ]
                  refine wpAnyH_done (by kernel_rfl) ?_ _
                  go_wp2_with fail
                  go_meet
                  exact hL7
                exact AllReadyH.nil
              exact AllReadyH.nil
            exact AllReadyH.nil
          case rest =>
            have hL1 := hcut
            obtain ⟨xo1, co1, hvo1⟩ := own_shape hL1.ho
            rw [show (os ++ [(OpF.mk o0 o1 o2 o3 o4 o5 o6 o7)]).length = k + 1 by rw [List.length_append, HB.out.1]; rfl] at hvo1
            subst hvo1
            obtain ⟨r, hRr⟩ : ∃ r, r = ROp.beg (kd % 6) (if od then xb else (a : Int)) (if od then xf else (m : Int)) fr sl v := ⟨_, rfl⟩
            have hrg := fun wx => lref_any a m kd fr sl v xb xf od wx
            rw [← hRr] at hrg
            have HRr : Hid _ := hRr
            have hS1 : wc.cell? ⟨T1, 0, none⟩ = some (.int .i64 a) ∧ wc.cell? ⟨T1, 1, none⟩ = some (.int .i64 m) ∧ wc.cell? ⟨gA, off + k * 7, none⟩ = some (.int .i64 kd) ∧ wc.cell? ⟨gA, off + k * 7 + 1, none⟩ = some (.int .i64 fr) ∧ wc.cell? ⟨gA, off + k * 7 + 2, none⟩ = some (.int .i64 sl) ∧ wc.cell? ⟨gA, off + k * 7 + 3, none⟩ = some (.int .i64 v) ∧ wc.cell? ⟨gA, off + k * 7 + 4, none⟩ = some (.bool od) ∧ wc.cell? ⟨gA, off + k * 7 + 5, none⟩ = some (.int .i64 xb) ∧ wc.cell? ⟨gA, off + k * 7 + 6, none⟩ = some (.int .i64 xf) :=
              ⟨(tab_cells hL1.t1).1, (tab_cells hL1.t1).2, hL1.st.kp.cell HE.out.1 (fun f => f), hL1.st.kp.cell HE.out.2.1 (fun f => f), hL1.st.kp.cell HE.out.2.2.1 (fun f => f), hL1.st.kp.cell HE.out.2.2.2.1 (fun f => f), hL1.st.kp.cell HE.out.2.2.2.2.1 (fun f => f), hL1.st.kp.cell HE.out.2.2.2.2.2.1 (fun f => f), hL1.st.kp.cell HE.out.2.2.2.2.2.2 (fun f => f)⟩
            have HL1 : Hid _ := hL1
            have HS1 : Hid _ := hS1
            obtain ⟨r0, r1, r2, r3, r4, r5, r6, r7, r8⟩ := r
            simp only [ROp.value, ROp.vals] at hrg
            have mT : ¬ (Value.slice xr k cr).ownBlock = some T1 := fun e => absurd (own_type hL1.hr e hL1.t1) (by decide)
            have mA : ¬ (Value.slice xr k cr).ownBlock = some gA := fun e => by have := (hL1.fr gA e).1; omega
            clear hRr t0 t1 z0 z1 z2 z3 z4 z5 z6 hcut HL HS hbg hnT hnA
            obtain ⟨t0, t1, z0, z1, z2, z3, z4, z5, z6⟩ := hS1
            clear hL1
            go_upto_region 26 with fail
            go_cut [23] (fun s23 wx => Lw w wx p q b T1 T2 a m F9 G9 K9 B9 B9 C9 (.slice xo1 (k + 1) co1) s23 (os ++ [⟨o0, o1, o2, o3, o4, o5, o6, o7⟩]) (rs ++ [⟨r0, r1, r2, r3, r4, r5, r6, r7, r8⟩]))
            case first =>
              refine wp_region_held_drew (S := (fun w' => w'.cell? ⟨T1, 0, none⟩ = some (.int .i64 a) ∧ w'.cell? ⟨T1, 1, none⟩ = some (.int .i64 m) ∧ w'.cell? ⟨gA, off + k * 7, none⟩ = some (.int .i64 kd) ∧ w'.cell? ⟨gA, off + k * 7 + 1, none⟩ = some (.int .i64 fr) ∧ w'.cell? ⟨gA, off + k * 7 + 2, none⟩ = some (.int .i64 sl) ∧ w'.cell? ⟨gA, off + k * 7 + 3, none⟩ = some (.int .i64 v) ∧ w'.cell? ⟨gA, off + k * 7 + 4, none⟩ = some (.bool od) ∧ w'.cell? ⟨gA, off + k * 7 + 5, none⟩ = some (.int .i64 xb) ∧ w'.cell? ⟨gA, off + k * 7 + 6, none⟩ = some (.int .i64 xf))) (by kernel_rfl) ?_ (fun hHeld => ?_)
              · (try dsimp only); (first | with_reducible exact hs5 | with_reducible exact hs6 | with_reducible exact hs7 | go_keep)
              refine wpAnyH_take (i := 0) (oi := { dst := some 145, op := Op.move (Operand.tmp 23), type := 58, pos := "law.go:257", after := #[], guard := none }) (v := ?_) rfl (by kernel_rfl) (by kernel_rfl) (by kernel_rfl) (fun _ _ _ h => h) (Or.inl ⟨by rfl, ?_⟩) (by assumption) ?_
              rotate_left
              · (intro wz hSw; (try dsimp only at hSw); go_simp; try with_reducible rfl)
              simp only [Act.put, List.setIfInBounds_toArray, List.set_cons_zero, List.set_cons_succ]
              refine wpAnyH_take (i := 1) (oi := { dst := some 146, op := Op.load 36 (Operand.tmp 16), type := 36, pos := "law.go:257", after := #[], guard := none }) (v := ?_) rfl (by kernel_rfl) (by kernel_rfl) (by kernel_rfl) (fun _ _ _ h => h) (Or.inl ⟨by rfl, ?_⟩) (by assumption) ?_
              rotate_left
              · (intro wz hSw; (try dsimp only at hSw); go_simp; try with_reducible rfl)
              simp only [Act.put, List.setIfInBounds_toArray, List.set_cons_zero, List.set_cons_succ]
              refine wpAnyH_take (i := 2) (oi := { dst := some 147, op := Op.move (Operand.tmp 2), type := 47, pos := "law.go:257", after := #[], guard := none }) (v := ?_) rfl (by kernel_rfl) (by kernel_rfl) (by kernel_rfl) (fun _ _ _ h => h) (Or.inl ⟨by rfl, ?_⟩) (by assumption) ?_
              rotate_left
              · (intro wz hSw; (try dsimp only at hSw); go_simp; try with_reducible rfl)
              simp only [Act.put, List.setIfInBounds_toArray, List.set_cons_zero, List.set_cons_succ]
              refine wpAnyH_take (i := 3) (oi := { dst := some 148, op := Op.move (Operand.tmp 24), type := 3, pos := "law.go:257", after := #[], guard := none }) (v := ?_) rfl (by kernel_rfl) (by kernel_rfl) (by kernel_rfl) (fun _ _ _ h => h) (Or.inl ⟨by rfl, ?_⟩) (by assumption) ?_
              rotate_left
              · (intro wz hSw; (try dsimp only at hSw); go_simp; try with_reducible rfl)
              simp only [Act.put, List.setIfInBounds_toArray, List.set_cons_zero, List.set_cons_succ]
              refine wpAnyH_take (i := 4) (oi := { dst := some 149, op := Op.indexAddr 47 (Operand.tmp 147) (Operand.tmp 148), type := 0, pos := "law.go:257", after := #[{ on := 2, ground := Ground.data }, { on := 3, ground := Ground.data }], guard := none }) (v := ?_) rfl (by kernel_rfl) (by kernel_rfl) (by kernel_rfl) (fun _ _ _ h => h) (Or.inl ⟨by rfl, ?_⟩) (by assumption) ?_
              rotate_left
              · (intro wz hSw; (try dsimp only at hSw); go_simp; try with_reducible rfl)
              simp only [Act.put, List.setIfInBounds_toArray, List.set_cons_zero, List.set_cons_succ]
              refine wpAnyH_take (i := 5) (oi := { dst := some 150, op := Op.load 66 (Operand.tmp 149), type := 66, pos := "law.go:257", after := #[{ on := 4, ground := Ground.data }], guard := none }) (v := ?_) rfl (by kernel_rfl) (by kernel_rfl) (by kernel_rfl) (fun _ _ _ h => h) (Or.inl ⟨by rfl, ?_⟩) (by assumption) ?_
              rotate_left
              · (intro wz hSw; (try dsimp only at hSw); go_simp; try with_reducible rfl)
              simp only [Act.put, List.setIfInBounds_toArray, List.set_cons_zero, List.set_cons_succ]
              refine wpAnyH_ready (rs := [6]) (by kernel_rfl) (by simp) ?_
              refine AllReadyH.cons (o := { dst := some 151, op := Op.call { callee := Callee.value (Operand.func 22), args := #[Operand.tmp 146, Operand.tmp 150], argTypes := #[36, 66] }, type := 68, pos := "law.go:257", after := #[{ on := 1, ground := Ground.data }, { on := 5, ground := Ground.data }], guard := none }) rfl (fun K hK => ?_) ?_
              · go_simp
                refine (hrg _).mono ?_
                rintro _ w5 ⟨rfl, hk5⟩
                have hL5 := (HL1.out.kept (Keeps.drew None _)).kept hk5
                have hs5 := ask_keep hk5 (fun f => f) (fun f => f) (ask_keep (Keeps.drew None wc) (fun f => f) (fun f => f) HS1.out)
                have hs6 := ask_keep (Keeps.alloc None w5 (.cells (ROp.mk r0 r1 r2 r3 r4 r5 r6 r7 r8).vals 68)) (fun f => f) (fun f => f) hs5
                have ho6 := (hL5.kept (Keeps.alloc None w5 (.cells (ROp.mk r0 r1 r2 r3 r4 r5 r6 r7 r8).vals 68))).hr
                rw [HB.out.2.1] at ho6
                obtain ⟨bb, cc, w6, hrun, ho7, hgr, hmv⟩ := rop_append (.slice xr k cr) rs ⟨r0, r1, r2, r3, r4, r5, r6, r7, r8⟩ w5.heap.size 58 _ (by rw [HB.out.2.1]; exact ho6) (by rw [HB.out.2.1]; omega) (new_at w5 _ _ rfl)
                rw [HB.out.2.1] at hrun ho7 hmv
                have hk6 : Keeps (fun i => (Value.slice xr k cr).ownBlock = some i) w5 w6 := ((Keeps.refl _ w5).andAlloc _).andGrown hgr (fun k e => .inl e)
                have hs7 := ask_keep hk6 mT mA hs5
                have hmv2 : Moved w5 (.slice xr k cr) (.slice (some ⟨bb, 0, none⟩) (k + 1) cc) := (by rcases hmv with e | ⟨g', e, hg⟩; exact .inl e; exact .inr ⟨g', e, by simp at hg; omega⟩)
                have hL7 := hL5.refs (rs' := rs ++ [⟨r0, r1, r2, r3, r4, r5, r6, r7, r8⟩]) hk6 hmv2 (by rw [List.length_append, HB.out.2.1]; exact ho7)
                simp only [ROp.vals] at hrun hs6
                refine hK.out _ _ ?_ (fun hHeld2 => ?_)
                · (try dsimp only); (first | with_reducible exact hs5 | with_reducible exact hs6 | with_reducible exact hs7 | go_keep)
                clear hK K
                try simp only [Act.put, List.setIfInBounds_toArray, List.set_cons_zero, List.set_cons_succ]
                refine wpAnyH_ready (rs := [7]) (by kernel_rfl) (by simp) ?_
                refine AllReadyH.cons (o := { dst := some 152, op := Op.buildSlice 58 1 #[(0, Operand.tmp 151)], type := 58, pos := "law.go:257", after := #[{ on := 6, ground := Ground.data }], guard := none }) rfl (fun K hK => ?_) ?_
                · go_simp
                  refine hK.out _ _ ?_ (fun hHeld2 => ?_)
                  · (try dsimp only); (first | with_reducible exact hs5 | with_reducible exact hs6 | with_reducible exact hs7 | go_keep)
                  clear hK K
                  try simp only [Act.put, List.setIfInBounds_toArray, List.set_cons_zero, List.set_cons_succ]
                  refine wpAnyH_ready (rs := [8]) (by kernel_rfl) (by simp) ?_
                  refine AllReadyH.cons (o := { dst := some 153, op := Op.call { callee := Callee.builtin Builtin.append, args := #[Operand.tmp 145, Operand.tmp 152], argTypes := #[58, 58] }, type := 58, pos := "law.go:257", after := #[{ on := 0, ground := Ground.data }, { on := 7, ground := Ground.data }, { on := 6, ground := Ground.chain }], guard := none }) rfl (fun K hK => ?_) ?_
                  · refine step_append_run rfl (.tmp 145) (.tmp 152) 58 58 rfl (by simp [Act.eval]) (by simp [Act.eval]) hrun ?_
                    refine hK.out _ _ ?_ (fun hHeld2 => ?_)
                    · (try dsimp only); (first | with_reducible exact hs5 | with_reducible exact hs6 | with_reducible exact hs7 | go_keep)
                    clear hK K
                    try simp only [Act.put, List.setIfInBounds_toArray, List.set_cons_zero, List.set_cons_succ]
                    refine wpAnyH_take (i := 9) (oi := { dst := some 23, op := Op.assign (Operand.tmp 153), type := 58, pos := "law.go:257", after := #[{ on := 8, ground := Ground.data }, { on := 8, ground := Ground.chain }, { on := 0, ground := Ground.phase }, { on := 1, ground := Ground.phase }, { on := 2, ground := Ground.phase }, { on := 3, ground := Ground.phase }, { on := 4, ground := Ground.phase }, { on := 5, ground := Ground.phase }, { on := 6, ground := Ground.phase }, { on := 7, ground := Ground.phase }, { on := 8, ground := Ground.phase }], guard := none }) (v := ?_) rfl (by kernel_rfl) (by kernel_rfl) (by kernel_rfl) (fun _ _ _ h => h) (Or.inl ⟨by rfl, ?_⟩) (by assumption) ?_
                    rotate_left
                    · (intro wz hSw; (try dsimp only at hSw); go_simp; try with_reducible rfl)
                    simp only [Act.put, List.setIfInBounds_toArray, List.set_cons_zero, List.set_cons_succ]
                    refine wpAnyH_done (by kernel_rfl) ?_ _
                    go_wp2_with fail
                    go_meet
                    exact hL7
                  exact AllReadyH.nil
                exact AllReadyH.nil
              exact AllReadyH.nil
            case rest =>
              have hL2 := hcut
              obtain ⟨xr1, cr1, hvr1⟩ := own_shape hL2.hr
              rw [show (rs ++ [(ROp.mk r0 r1 r2 r3 r4 r5 r6 r7 r8)]).length = k + 1 by rw [List.length_append, HB.out.2.1]; rfl] at hvr1
              subst hvr1
              have hO1 : (os ++ [(OpF.mk o0 o1 o2 o3 o4 o5 o6 o7)])[k]? = some (OpF.mk o0 o1 o2 o3 o4 o5 o6 o7) := by rw [List.getElem?_append_right (by rw [HB.out.1]; omega), HB.out.1]; simp
              have hR1 : (rs ++ [(ROp.mk r0 r1 r2 r3 r4 r5 r6 r7 r8)])[k]? = some (ROp.mk r0 r1 r2 r3 r4 r5 r6 r7 r8) := by rw [List.getElem?_append_right (by rw [HB.out.2.1]; omega), HB.out.2.1]; simp
              have hoo := hL2.ho
              have hrr := hL2.hr
              rw [show (os ++ [(OpF.mk o0 o1 o2 o3 o4 o5 o6 o7)]).length = k + 1 by rw [List.length_append, HB.out.1]; rfl] at hoo
              rw [show (rs ++ [(ROp.mk r0 r1 r2 r3 r4 r5 r6 r7 r8)]).length = k + 1 by rw [List.length_append, HB.out.2.1]; rfl] at hrr
              obtain ⟨gO, rfl, hgO⟩ := row_at hoo (by omega)
              obtain ⟨gR, rfl, hgR⟩ := row_at hrr (by omega)
              have hsim : Sim (OpF.mk o0 o1 o2 o3 o4 o5 o6 o7) (ROp.mk r0 r1 r2 r3 r4 r5 r6 r7 r8) ∧ (OpF.mk o0 o1 o2 o3 o4 o5 o6 o7).Fit := by
                rw [HB.out.2.2.2, HRr.out]
                refine ⟨sim_beg _ _ _ _ _ _ (by omega) (by omega), ?_⟩
                unfold begP
                repeat' split
                all_goals exact OpF.fit_beg _ _ _ _ _ _ (by decide) (by decide)
              have han := fun wx => answers_ok (OpF.mk o0 o1 o2 o3 o4 o5 o6 o7) (ROp.mk r0 r1 r2 r3 r4 r5 r6 r7 r8) wx hsim.2 hsim.1.ans
              simp only [OpF.value, OpF.vals, ROp.value, ROp.vals] at han
              have hS2 : wc.cell? ⟨gO, k * 8, none⟩ = some (.int .i64 o0) ∧ wc.cell? ⟨gO, k * 8 + 1, none⟩ = some (.int .i64 o1) ∧ wc.cell? ⟨gO, k * 8 + 2, none⟩ = some (.int .i64 o2) ∧ wc.cell? ⟨gO, k * 8 + 3, none⟩ = some (.int .i64 o3) ∧ wc.cell? ⟨gO, k * 8 + 4, none⟩ = some (.int .i64 o4) ∧ wc.cell? ⟨gO, k * 8 + 5, none⟩ = some (.int .i64 o5) ∧ wc.cell? ⟨gO, k * 8 + 6, none⟩ = some (.int .i64 o6) ∧ wc.cell? ⟨gO, k * 8 + 7, none⟩ = some (.int .i64 o7) ∧ wc.cell? ⟨gR, k * 9, none⟩ = some (.int .i64 r0) ∧ wc.cell? ⟨gR, k * 9 + 1, none⟩ = some (.int .i64 r1) ∧ wc.cell? ⟨gR, k * 9 + 2, none⟩ = some (.int .i64 r2) ∧ wc.cell? ⟨gR, k * 9 + 3, none⟩ = some (.int .i64 r3) ∧ wc.cell? ⟨gR, k * 9 + 4, none⟩ = some (.int .i64 r4) ∧ wc.cell? ⟨gR, k * 9 + 5, none⟩ = some (.int .i64 r5) ∧ wc.cell? ⟨gR, k * 9 + 6, none⟩ = some (.int .i64 r6) ∧ wc.cell? ⟨gR, k * 9 + 7, none⟩ = some (.int .i64 r7) ∧ wc.cell? ⟨gR, k * 9 + 8, none⟩ = some (.int .i64 r8) :=
                ⟨hgO _ _ (rowVals_at opvals_size _ k _ hO1 0 _ rfl), hgO _ _ (rowVals_at opvals_size _ k _ hO1 1 _ rfl), hgO _ _ (rowVals_at opvals_size _ k _ hO1 2 _ rfl), hgO _ _ (rowVals_at opvals_size _ k _ hO1 3 _ rfl), hgO _ _ (rowVals_at opvals_size _ k _ hO1 4 _ rfl), hgO _ _ (rowVals_at opvals_size _ k _ hO1 5 _ rfl), hgO _ _ (rowVals_at opvals_size _ k _ hO1 6 _ rfl), hgO _ _ (rowVals_at opvals_size _ k _ hO1 7 _ rfl), hgR _ _ (rowVals_at ropvals_size _ k _ hR1 0 _ rfl), hgR _ _ (rowVals_at ropvals_size _ k _ hR1 1 _ rfl), hgR _ _ (rowVals_at ropvals_size _ k _ hR1 2 _ rfl), hgR _ _ (rowVals_at ropvals_size _ k _ hR1 3 _ rfl), hgR _ _ (rowVals_at ropvals_size _ k _ hR1 4 _ rfl), hgR _ _ (rowVals_at ropvals_size _ k _ hR1 5 _ rfl), hgR _ _ (rowVals_at ropvals_size _ k _ hR1 6 _ rfl), hgR _ _ (rowVals_at ropvals_size _ k _ hR1 7 _ rfl), hgR _ _ (rowVals_at ropvals_size _ k _ hR1 8 _ rfl)⟩
              have HS2 : Hid _ := hS2
              have HL2 : Hid _ := And.intro hL2 hsim
              clear hoo hrr hgO hgR hL2 hcut hrg HL1 HS1 mT mA t0 t1 z0 z1 z2 z3 z4 z5 z6 hO1 hR1 hsim
              obtain ⟨y0, y1, y2, y3, y4, y5, y6, y7, y8, y9, y10, y11, y12, y13, y14, y15, y16⟩ := hS2
              have i2 : (k : Int) < ((k + 1 : Nat) : Int) := by omega
              have i3 : (k : Int) < (k : Int) + 1 := by omega
              have i4 : (0 : Int) ≤ (k : Int) := by omega
              go_upto_region 27 with fail
              go_cut [163] (fun s163 wx => s163 = .bool false ∧ Keeps None wc wx)
              case first =>
                go_region_held3 (fun w' => w'.cell? ⟨gO, k * 8, none⟩ = some (.int .i64 o0) ∧ w'.cell? ⟨gO, k * 8 + 1, none⟩ = some (.int .i64 o1) ∧ w'.cell? ⟨gO, k * 8 + 2, none⟩ = some (.int .i64 o2) ∧ w'.cell? ⟨gO, k * 8 + 3, none⟩ = some (.int .i64 o3) ∧ w'.cell? ⟨gO, k * 8 + 4, none⟩ = some (.int .i64 o4) ∧ w'.cell? ⟨gO, k * 8 + 5, none⟩ = some (.int .i64 o5) ∧ w'.cell? ⟨gO, k * 8 + 6, none⟩ = some (.int .i64 o6) ∧ w'.cell? ⟨gO, k * 8 + 7, none⟩ = some (.int .i64 o7) ∧ w'.cell? ⟨gR, k * 9, none⟩ = some (.int .i64 r0) ∧ w'.cell? ⟨gR, k * 9 + 1, none⟩ = some (.int .i64 r1) ∧ w'.cell? ⟨gR, k * 9 + 2, none⟩ = some (.int .i64 r2) ∧ w'.cell? ⟨gR, k * 9 + 3, none⟩ = some (.int .i64 r3) ∧ w'.cell? ⟨gR, k * 9 + 4, none⟩ = some (.int .i64 r4) ∧ w'.cell? ⟨gR, k * 9 + 5, none⟩ = some (.int .i64 r5) ∧ w'.cell? ⟨gR, k * 9 + 6, none⟩ = some (.int .i64 r6) ∧ w'.cell? ⟨gR, k * 9 + 7, none⟩ = some (.int .i64 r7) ∧ w'.cell? ⟨gR, k * 9 + 8, none⟩ = some (.int .i64 r8))
                  (first | with_reducible exact hs5 | go_keep)
                  (first | (go_at_call 23; refine (han _).mono ?_; rintro e w5 ⟨rfl, hk5⟩; have hs5 := keep17 hk5 (keep17 (Keeps.drew None wc) HS2.out)))
                all_goals (go_wp2_with fail; go_meet)
                all_goals exact ⟨rfl, (Keeps.drew None wc).trans hk5 (fun _ f _ => f)⟩
              case rest =>
                obtain ⟨rfl, hk7⟩ := hcut
                have HL3 : Hid _ := HL2.out.1.kept hk7
                have HSI : Hid _ := HL2.out.2
                clear hk7 han HS2 HL2 y0 y1 y2 y3 y4 y5 y6 y7 y8 y9 y10 y11 y12 y13 y14 y15 y16
                go_wp2_with fail
                go_roundw
                case rel =>
                  refine ⟨k + 1, _, _, by omega, by go_num, by rw [List.length_append, HB.out.1]; rfl, by rw [List.length_append, HB.out.2.1]; rfl, ?_, HL3.out⟩
                  intro i o r h1 h2
                  by_cases hi : i < k
                  · rw [List.getElem?_append_left (by rw [HB.out.1]; exact hi)] at h1
                    rw [List.getElem?_append_left (by rw [HB.out.2.1]; exact hi)] at h2
                    exact HB.out.2.2.1 i o r h1 h2
                  · rw [List.getElem?_append_right (by rw [HB.out.1]; omega), HB.out.1] at h1
                    rw [List.getElem?_append_right (by rw [HB.out.2.1]; omega), HB.out.2.1] at h2
                    have hz : i - k = 0 := by
                      have := (List.getElem?_eq_some_iff.1 h1).1
                      simp at this
                      omega
                    rw [hz] at h1 h2
                    simp at h1 h2
                    subst h1 h2
                    exact HSI.out
                case measure => simp only [intOf]; omega
        · have i1 : ¬ (k : Int) < (l0 : Int) := by omega
          have hkl2 : k = l0 := by omega
          have H0 : Hid _ := And.intro hL (And.intro hal (And.intro ho hr))
          clear hL hal ho hr
          subst hkl2
          go_wp2_with fail
          go_loopw [25] (fun s25 wr => ∃ (j : Nat) (F G K : Nat → Prop) (B C : Ar) (os : List OpF) (rs : List ROp), j ≤ ps.length ∧ s25 = .int .i64 j ∧ os.length = k ∧ rs.length = k ∧ Alike os rs ∧ Twin B C ∧ B.log.length ≤ j ∧ B.size = S ∧ Lw w wr p q b T1 T2 a m F G K B B C (.slice xo k co) (.slice xr k cr) os rs) (fun s25 _ => ps.length - (intOf s25).toNat)
          case atStart => exact ⟨0, F9, G9, K9, B9, C9, os, rs, Nat.zero_le _, rfl, H0.out.2.2.1, H0.out.2.2.2, H0.out.2.1, HT9.out.1, by rw [HT9.out.2.1]; exact Nat.le_refl _, HT9.out.2.2, H0.out.1⟩
          case round =>
            obtain ⟨j, F, G, K, B, C, os, rs, hj, rfl, ho, hr, hal, htw, hlg, hsz, hL⟩ := hrel
            clear H0
            by_cases hgo : j < ps.length ∧ 0 < k
            · obtain ⟨hjl, hk0⟩ := hgo
              have hoo := hL.ho
              rw [ho] at hoo
              obtain ⟨gO, rfl, -⟩ := row_at hoo hk0
              have hrr := hL.hr
              rw [hr] at hrr
              obtain ⟨gR, rfl, -⟩ := row_at hrr hk0
              clear hoo hrr
              have i1 : (j : Int) < (ps.length : Int) := by omega
              have i2 : (0 : Int) < (k : Int) := by omega
              have j0 : (0 : Int) ≤ (j : Int) := by omega
              obtain ⟨gP, offP, rfl, hgP, hcP⟩ := HP.out (by omega)
              obtain ⟨z, hz⟩ : ∃ z, z = ps.getD j 0 := ⟨_, rfl⟩
              have e0 := hL.st.kp.cell (hcP j hjl) (fun f => f)
              rw [← hz] at e0
              have hmk := fun wx => mod8_any z k hk0 (by omega) wx
              have hu1 := Int.emod_nonneg z (show (k : Int) ≠ 0 by omega)
              have hu2 := Int.emod_lt_of_pos z i2
              obtain ⟨u, hu⟩ : ∃ u : Nat, (u : Int) = z % (k : Nat) := ⟨(z % (k : Nat)).toNat, by omega⟩
              rw [← hu] at hmk hu1 hu2
              have huk : u < k := by omega
              obtain ⟨o, hO⟩ : ∃ o, os[u]? = some o := ⟨os[u]'(by omega), by simp⟩
              obtain ⟨r, hR⟩ : ∃ r, rs[u]? = some r := ⟨rs[u]'(by omega), by simp⟩
              obtain ⟨hsim, hfit⟩ := hal u o r hO hR
              obtain ⟨B1, hB1⟩ : ∃ B1 : Ar, B1 = { B with actor := (u : Int) } := ⟨_, rfl⟩
              have hst := hsim.step B1
              have htws := (htw.act (u : Int)).step o
              rw [← hB1] at htws
              have hlgs := step_log o B1
              have hfs := OpF.fit_step B1 hfit
              have hB3 : B1.log.length ≤ j ∧ B1.size = S := by rw [hB1]; exact ⟨hlg, hsz⟩
              have hwho := arf_who8 p F B u wr hL.st.ar
              rw [← hB1] at hwho
              have hlB : B1.log.length < 1000000000000 := by omega
              have hsa := fun wx F' (h : ArF wx p F' B1) => fstep_any p F' B1 o wx h hlB hfit
              have hsb := fun wx K' (h : ArF wx b K' C) => fstep_any b K' C o wx h (by rw [htw.log]; decide) hfit
              have hsr := fun wx G' (h : RfF wx q G' B1) => rstep_sim q G' B1 o r wx h hlB hsim
              have han0 := fun wx => answers_ok o r wx hfit hsim.ans
              have han1 := fun wx => answers_ok (o.step B1).1 (r.step B1).1 wx hfs hst.1.ans
              rw [htws.1] at hsb
              rw [← hst.2] at hsr
              obtain ⟨y, hy⟩ : ∃ y, y = (o.step B1).1 := ⟨_, rfl⟩
              obtain ⟨s, hs⟩ : ∃ s, s = (r.step B1).1 := ⟨_, rfl⟩
              obtain ⟨B2, hB2⟩ : ∃ B2, B2 = (o.step B1).2 := ⟨_, rfl⟩
              obtain ⟨C2, hC2⟩ : ∃ C2, C2 = (o.step C).2 := ⟨_, rfl⟩
              have hfin : (Sim y s ∧ y.Fit) ∧ Twin B2 C2 ∧ B2.log.length ≤ j + 1 ∧ B2.size = S := by
                rw [hy, hs, hB2, hC2]
                exact ⟨⟨hst.1, hfs⟩, htws.2, by omega, by omega⟩
              rw [← hy, ← hB2] at hsa
              rw [← hy, ← hC2] at hsb
              rw [← hs, ← hB2] at hsr
              rw [← hy, ← hs] at han1
              have HQ : Hid _ := And.intro ho (And.intro hr (And.intro hal (And.intro htw (And.intro hlg hsz))))
              have HO : Hid _ := hO
              have HR : Hid _ := hR
              have HF : Hid _ := hfin
              have HB1 : Hid _ := hB1
              have HL : Hid _ := hL
              clear hy hs hB2 hC2 hst htws hlgs hfs hB3 hlB hsim hfit hfin hB1 hO hR hu hz ho hr hal htw hlg hsz hL hgP hcP HP
              obtain ⟨x0, x1, x2, x3, x4, x5, x6, x7⟩ := o
              obtain ⟨r0, r1, r2, r3, r4, r5, r6, r7, r8⟩ := r
              obtain ⟨y0, y1, y2, y3, y4, y5, y6, y7⟩ := y
              obtain ⟨s0, s1, s2, s3, s4, s5, s6, s7, s8⟩ := s
              simp only [OpF.value, OpF.vals, ROp.value, ROp.vals] at hsa hsb hsr han0 han1
              go_wp2_with fail
              refine (hmk _).mono ?_
              rintro e w1 ⟨rfl, hw1⟩
              have hv1 := hw1.symm
              subst hv1
              clear hw1 hmk
              go_wp2_with fail
              refine hwho.mono ?_
              rintro e w5 ⟨rfl, hA5⟩
              obtain ⟨F5, hL5⟩ := HL.out.accA hA5
              obtain ⟨c3, f3⟩ := rf_cell3 hL5.st.rf
              have HL5 : Hid _ := hL5
              clear hA5 hL5 hwho HL
              go_upto_region 34 with fail
              go_cut [188] (fun s188 wx => ∃ G', Lw w wx p q b T1 T2 a m F5 G' K B1 B1 C (.slice (some ⟨gO, 0, none⟩) k co) (.slice (some ⟨gR, 0, none⟩) k cr) os rs)
              case first =>
                as_aux_lemma =>
                --A
                go_wp2_with fail
                go_meet
                obtain ⟨G6, hL6⟩ := HL5.out.accR (rf_act HL5.out.st.rf (u : Int))
                rw [← HB1.out] at hL6
                exact ⟨G6, hL6⟩
                --Z
              case rest =>
                obtain ⟨G6, hL6⟩ := hcut
                clear HL5 HB1 c3 f3
                have hoo := hL6.ho
                rw [HQ.out.1] at hoo
                obtain ⟨⟨k0, k1, k2, k3, k4, k5, k6, k7⟩, -⟩ := op_at8 hoo hk0 HO.out
                have hLA := hL6.kept (Keeps.alloc None wc (.cells #[.int .i64 x0, .int .i64 x1, .int .i64 x2, .int .i64 x3, .int .i64 x4, .int .i64 x5, .int .i64 x6, .int .i64 x7] 63))
                have hrr := hLA.hr
                rw [HQ.out.2.1] at hrr
                obtain ⟨⟨n0, n1, n2, n3, n4, n5, n6, n7, n8⟩, -⟩ := rop_at8 hrr hk0 HR.out
                have hbX := new_at wc (.cells #[.int .i64 x0, .int .i64 x1, .int .i64 x2, .int .i64 x3, .int .i64 x4, .int .i64 x5, .int .i64 x6, .int .i64 x7] 63) _ rfl
                have HL6 : Hid _ := And.intro hL6 (And.intro hLA hbX)
                clear hL6 hLA hoo hrr hbX
                go_upto_region 37 with fail
                have hLL : Lw w ((wc.alloc (.cells #[.int .i64 x0, .int .i64 x1, .int .i64 x2, .int .i64 x3, .int .i64 x4, .int .i64 x5, .int .i64 x6, .int .i64 x7] 63)).alloc (.cells #[.int .i64 r0, .int .i64 r1, .int .i64 r2, .int .i64 r3, .int .i64 r4, .int .i64 r5, .int .i64 r6, .int .i64 r7, .int .i64 r8] 68)) p q b T1 T2 a m F5 G6 K B1 B1 C (.slice (some ⟨gO, 0, none⟩) k co) (.slice (some ⟨gR, 0, none⟩) k cr) os rs ∧ ((wc.alloc (.cells #[.int .i64 x0, .int .i64 x1, .int .i64 x2, .int .i64 x3, .int .i64 x4, .int .i64 x5, .int .i64 x6, .int .i64 x7] 63)).alloc (.cells #[.int .i64 r0, .int .i64 r1, .int .i64 r2, .int .i64 r3, .int .i64 r4, .int .i64 r5, .int .i64 r6, .int .i64 r7, .int .i64 r8] 68)).heap[wc.heap.size]? = some (.cells #[.int .i64 x0, .int .i64 x1, .int .i64 x2, .int .i64 x3, .int .i64 x4, .int .i64 x5, .int .i64 x6, .int .i64 x7] 63 (0, 0)) ∧ ((wc.alloc (.cells #[.int .i64 x0, .int .i64 x1, .int .i64 x2, .int .i64 x3, .int .i64 x4, .int .i64 x5, .int .i64 x6, .int .i64 x7] 63)).alloc (.cells #[.int .i64 r0, .int .i64 r1, .int .i64 r2, .int .i64 r3, .int .i64 r4, .int .i64 r5, .int .i64 r6, .int .i64 r7, .int .i64 r8] 68)).heap[wc.heap.size + 1]? = some (.cells #[.int .i64 r0, .int .i64 r1, .int .i64 r2, .int .i64 r3, .int .i64 r4, .int .i64 r5, .int .i64 r6, .int .i64 r7, .int .i64 r8] 68 (0, 0)) :=
                  ⟨HL6.out.2.1.kept (Keeps.alloc None _ _), blk8 HL6.out.2.2 (Keeps.alloc None _ _) (fun f => f), new_at _ _ _ (by simp)⟩
                have hNN : (¬ (F5 wc.heap.size ∨ G6 wc.heap.size ∨ K wc.heap.size) ∧ wc.heap.size ≠ gO ∧ wc.heap.size ≠ gR) ∧ (¬ (F5 (wc.heap.size + 1) ∨ G6 (wc.heap.size + 1) ∨ K (wc.heap.size + 1)) ∧ wc.heap.size + 1 ≠ gO ∧ wc.heap.size + 1 ≠ gR) := by
                  have q1 : gO < wc.heap.size := own_lt HL6.out.1.ho rfl
                  have q2 : gR < wc.heap.size := own_lt HL6.out.1.hr rfl
                  exact ⟨⟨fun f => by have := HL6.out.1.st.lt f; omega, by omega, by omega⟩, ⟨fun f => by have := HL6.out.1.st.lt f; omega, by omega, by omega⟩⟩
                generalize ((wc.alloc (.cells #[.int .i64 x0, .int .i64 x1, .int .i64 x2, .int .i64 x3, .int .i64 x4, .int .i64 x5, .int .i64 x6, .int .i64 x7] 63)).alloc (.cells #[.int .i64 r0, .int .i64 r1, .int .i64 r2, .int .i64 r3, .int .i64 r4, .int .i64 r5, .int .i64 r6, .int .i64 r7, .int .i64 r8] 68)) = wL at hLL ⊢
                generalize wc.heap.size = X at hLL hNN ⊢
                generalize X + 1 = Y at hLL hNN ⊢
                have HN : Hid _ := hNN
                have HLL : Hid _ := hLL
                obtain ⟨d0, d1, d2, d3, d4, d5, d6, d7⟩ := op_blk8 hLL.2.1
                clear hLL hNN HL6 k0 k1 k2 k3 k4 k5 k6 k7 n0 n1 n2 n3 n4 n5 n6 n7 n8
                go_cut [203] (fun s203 wx => ∃ F', Lw w wx p q b T1 T2 a m F' G6 K B2 B1 C (.slice (some ⟨gO, 0, none⟩) k co) (.slice (some ⟨gR, 0, none⟩) k cr) (os.set u ⟨y0, y1, y2, y3, y4, y5, y6, y7⟩) rs ∧ wx.heap[X]? = some (.cells #[.int .i64 x0, .int .i64 x1, .int .i64 x2, .int .i64 x3, .int .i64 x4, .int .i64 x5, .int .i64 x6, .int .i64 x7] 63 (0, 0)) ∧ wx.heap[Y]? = some (.cells #[.int .i64 r0, .int .i64 r1, .int .i64 r2, .int .i64 r3, .int .i64 r4, .int .i64 r5, .int .i64 r6, .int .i64 r7, .int .i64 r8] 68 (0, 0)))
                case first =>
                  --B
                  have hst := hsa _ _ HLL.out.1.st.ar
                  go_wp2_with fail
                  refine hst.mono ?_
                  rintro e w7 ⟨rfl, hA7⟩
                  have hk7 : Keeps F5 wL w7 := by obtain ⟨_, _, h, _⟩ := hA7; exact h
                  obtain ⟨F7, hL7⟩ := HLL.out.1.accA hA7
                  have hoo := hL7.ho
                  rw [HQ.out.1] at hoo
                  obtain ⟨⟨k0, k1, k2, k3, k4, k5, k6, k7⟩, ⟨q0, q1, q2, q3, q4, q5, q6, q7⟩⟩ := op_at8 hoo hk0 HO.out
                  have hL8 := hL7.setO (k := u) (g := gO) (c := co) (by rw [HQ.out.1]) (by rw [HQ.out.1]; exact huk) ⟨y0, y1, y2, y3, y4, y5, y6, y7⟩
                  have hX8 := blk8 (blk8 HLL.out.2.1 hk7 (fun f => HN.out.1.1 (.inl f))) (setsFrom_keeps gO (OpF.mk y0 y1 y2 y3 y4 y5 y6 y7).vals.toList (u * 8) w7) (fun e => HN.out.1.2.1 e)
                  have hY8 := blk8 (blk8 HLL.out.2.2 hk7 (fun f => HN.out.2.1 (.inl f))) (setsFrom_keeps gO (OpF.mk y0 y1 y2 y3 y4 y5 y6 y7).vals.toList (u * 8) w7) (fun e => HN.out.2.2.1 e)
                  have hAll := And.intro hL8 (And.intro hX8 hY8)
                  simp only [setsFrom, OpF.vals, Nat.add_assoc, Nat.reduceAdd] at hAll
                  have HL8 : Hid _ := hAll
                  clear hAll
                  clear hst hA7 hk7 hL7 hoo hL8 hX8 hY8 d0 d1 d2 d3 d4 d5 d6 d7
                  go_wp2_with fail
                  go_meet
                  exact ⟨F7, HL8.out⟩
                  --Z
                case rest =>
                  obtain ⟨F7, hL7, hX7, hY7⟩ := hcut
                  clear HLL hsa d0 d1 d2 d3 d4 d5 d6 d7
                  obtain ⟨d0, d1, d2, d3, d4, d5, d6, d7⟩ := op_blk8 hX7
                  have hst := hsb _ _ hL7.st.br
                  have HL7 : Hid _ := And.intro hL7 (And.intro hX7 hY7)
                  clear hL7 hX7 hY7 hsb
                  go_wp2_with fail
                  refine hst.mono ?_
                  rintro e w8 ⟨rfl, hA8⟩
                  have hk8 : Keeps K wc w8 := by obtain ⟨_, _, h, _⟩ := hA8; exact h
                  obtain ⟨K8, hL8⟩ := HL7.out.1.accB hA8
                  have hLZ : Lw w (w8.alloc (.cells #[.int .i64 y0, .int .i64 y1, .int .i64 y2, .int .i64 y3, .int .i64 y4, .int .i64 y5, .int .i64 y6, .int .i64 y7] 63)) p q b T1 T2 a m F7 G6 K8 B2 B1 C2 (.slice (some ⟨gO, 0, none⟩) k co) (.slice (some ⟨gR, 0, none⟩) k cr) (os.set u ⟨y0, y1, y2, y3, y4, y5, y6, y7⟩) rs ∧ (w8.alloc (.cells #[.int .i64 y0, .int .i64 y1, .int .i64 y2, .int .i64 y3, .int .i64 y4, .int .i64 y5, .int .i64 y6, .int .i64 y7] 63)).heap[X]? = some (.cells #[.int .i64 x0, .int .i64 x1, .int .i64 x2, .int .i64 x3, .int .i64 x4, .int .i64 x5, .int .i64 x6, .int .i64 x7] 63 (0, 0)) ∧ (w8.alloc (.cells #[.int .i64 y0, .int .i64 y1, .int .i64 y2, .int .i64 y3, .int .i64 y4, .int .i64 y5, .int .i64 y6, .int .i64 y7] 63)).heap[Y]? = some (.cells #[.int .i64 r0, .int .i64 r1, .int .i64 r2, .int .i64 r3, .int .i64 r4, .int .i64 r5, .int .i64 r6, .int .i64 r7, .int .i64 r8] 68 (0, 0)) ∧ (w8.alloc (.cells #[.int .i64 y0, .int .i64 y1, .int .i64 y2, .int .i64 y3, .int .i64 y4, .int .i64 y5, .int .i64 y6, .int .i64 y7] 63)).heap[w8.heap.size]? = some (.cells #[.int .i64 y0, .int .i64 y1, .int .i64 y2, .int .i64 y3, .int .i64 y4, .int .i64 y5, .int .i64 y6, .int .i64 y7] 63 (0, 0)) :=
                    ⟨hL8.kept (Keeps.alloc None _ _), blk8 (blk8 HL7.out.2.1 hk8 (fun f => HN.out.1.1 (.inr (.inr f)))) (Keeps.alloc None _ _) (fun f => f), blk8 (blk8 HL7.out.2.2 hk8 (fun f => HN.out.2.1 (.inr (.inr f)))) (Keeps.alloc None _ _) (fun f => f), new_at _ _ _ rfl⟩
                  have hNZ : ¬ (F7 w8.heap.size ∨ G6 w8.heap.size ∨ K8 w8.heap.size) ∧ w8.heap.size ≠ gO ∧ w8.heap.size ≠ gR := by
                    have q1 : gO < w8.heap.size := own_lt hL8.ho rfl
                    have q2 : gR < w8.heap.size := own_lt hL8.hr rfl
                    exact ⟨fun f => by have := hL8.st.lt f; omega, by omega, by omega⟩
                  obtain ⟨n0, n1, n2, n3, n4, n5, n6, n7, n8⟩ := rop_blk8 hLZ.2.2.1
                  have HLZ : Hid _ := hLZ
                  have HNZ : Hid _ := hNZ
                  clear hst hA8 hk8 hL8 hLZ hNZ HL7 d0 d1 d2 d3 d4 d5 d6 d7
                  go_upto_region 39 with fail
                  generalize (w8.alloc (.cells #[.int .i64 y0, .int .i64 y1, .int .i64 y2, .int .i64 y3, .int .i64 y4, .int .i64 y5, .int .i64 y6, .int .i64 y7] 63)) = wM at HLZ n0 n1 n2 n3 n4 n5 n6 n7 n8 ⊢
                  generalize w8.heap.size = Z at HLZ HNZ ⊢
                  go_cut [213] (fun s213 wx => ∃ G', Lw w wx p q b T1 T2 a m F7 G' K8 B2 B2 C2 (.slice (some ⟨gO, 0, none⟩) k co) (.slice (some ⟨gR, 0, none⟩) k cr) (os.set u ⟨y0, y1, y2, y3, y4, y5, y6, y7⟩) (rs.set u ⟨s0, s1, s2, s3, s4, s5, s6, s7, s8⟩) ∧ wx.heap[X]? = some (.cells #[.int .i64 x0, .int .i64 x1, .int .i64 x2, .int .i64 x3, .int .i64 x4, .int .i64 x5, .int .i64 x6, .int .i64 x7] 63 (0, 0)) ∧ wx.heap[Y]? = some (.cells #[.int .i64 r0, .int .i64 r1, .int .i64 r2, .int .i64 r3, .int .i64 r4, .int .i64 r5, .int .i64 r6, .int .i64 r7, .int .i64 r8] 68 (0, 0)) ∧ wx.heap[Z]? = some (.cells #[.int .i64 y0, .int .i64 y1, .int .i64 y2, .int .i64 y3, .int .i64 y4, .int .i64 y5, .int .i64 y6, .int .i64 y7] 63 (0, 0)))
                  case first =>
                    --C
                    have hst := hsr _ _ HLZ.out.1.st.rf
                    go_wp2_with fail
                    refine hst.mono ?_
                    rintro e w9 ⟨rfl, hA9⟩
                    have hk9 : Keeps G6 wM w9 := by obtain ⟨_, _, h, _⟩ := hA9; exact h
                    obtain ⟨G9', hL9⟩ := HLZ.out.1.accR hA9
                    have hrr := hL9.hr
                    rw [HQ.out.2.1] at hrr
                    obtain ⟨⟨k0, k1, k2, k3, k4, k5, k6, k7, k8⟩, ⟨q0, q1, q2, q3, q4, q5, q6, q7, q8⟩⟩ := rop_at8 hrr hk0 HR.out
                    have hL10 := hL9.setR (k := u) (g := gR) (c := cr) (by rw [HQ.out.2.1]) (by rw [HQ.out.2.1]; exact huk) ⟨s0, s1, s2, s3, s4, s5, s6, s7, s8⟩
                    have hX10 := blk8 (blk8 HLZ.out.2.1 hk9 (fun f => HN.out.1.1 (.inr (.inl f)))) (setsFrom_keeps gR (ROp.mk s0 s1 s2 s3 s4 s5 s6 s7 s8).vals.toList (u * 9) w9) (fun e => HN.out.1.2.2 e)
                    have hY10 := blk8 (blk8 HLZ.out.2.2.1 hk9 (fun f => HN.out.2.1 (.inr (.inl f)))) (setsFrom_keeps gR (ROp.mk s0 s1 s2 s3 s4 s5 s6 s7 s8).vals.toList (u * 9) w9) (fun e => HN.out.2.2.2 e)
                    have hZ10 := blk8 (blk8 HLZ.out.2.2.2 hk9 (fun f => HNZ.out.1 (.inr (.inl f)))) (setsFrom_keeps gR (ROp.mk s0 s1 s2 s3 s4 s5 s6 s7 s8).vals.toList (u * 9) w9) (fun e => HNZ.out.2.2 e)
                    have hAll := And.intro hL10 (And.intro hX10 (And.intro hY10 hZ10))
                    simp only [setsFrom, ROp.vals, Nat.add_assoc, Nat.reduceAdd] at hAll
                    have HL10 : Hid _ := hAll
                    clear hAll
                    clear hst hA9 hk9 hL9 hrr hL10 hX10 hY10 hZ10 n0 n1 n2 n3 n4 n5 n6 n7 n8
                    go_wp2_with fail
                    go_meet
                    exact ⟨G9', HL10.out⟩
                    --Z
                  case rest =>
                    obtain ⟨G10, hL10, hX10, hY10, hZ10⟩ := hcut
                    clear HLZ HNZ HN hsr n0 n1 n2 n3 n4 n5 n6 n7 n8
                    have hoo := hL10.ho
                    rw [List.length_set, HQ.out.1] at hoo
                    have hrr := hL10.hr
                    rw [List.length_set, HQ.out.2.1] at hrr
                    obtain ⟨⟨k0, k1, k2, k3, k4, k5, k6, k7⟩, -⟩ := op_at8 (u := u) hoo hk0 (List.getElem?_set_self (by rw [HQ.out.1]; exact huk))
                    obtain ⟨⟨n0, n1, n2, n3, n4, n5, n6, n7, n8⟩, -⟩ := rop_at8 (u := u) hrr hk0 (List.getElem?_set_self (by rw [HQ.out.2.1]; exact huk))
                    obtain ⟨d0, d1, d2, d3, d4, d5, d6, d7⟩ := op_blk8 hX10
                    obtain ⟨g0, g1, g2, g3, g4, g5, g6, g7, g8⟩ := rop_blk8 hY10
                    obtain ⟨l0, l1, l2, l3, l4, l5, l6, l7⟩ := op_blk8 hZ10
                    have HS42 : Hid (wc.cell? ⟨gO, u * 8, none⟩ = some (.int .i64 y0) ∧ wc.cell? ⟨gO, u * 8 + 1, none⟩ = some (.int .i64 y1) ∧ wc.cell? ⟨gO, u * 8 + 2, none⟩ = some (.int .i64 y2) ∧ wc.cell? ⟨gO, u * 8 + 3, none⟩ = some (.int .i64 y3) ∧ wc.cell? ⟨gO, u * 8 + 4, none⟩ = some (.int .i64 y4) ∧ wc.cell? ⟨gO, u * 8 + 5, none⟩ = some (.int .i64 y5) ∧ wc.cell? ⟨gO, u * 8 + 6, none⟩ = some (.int .i64 y6) ∧ wc.cell? ⟨gO, u * 8 + 7, none⟩ = some (.int .i64 y7) ∧ wc.cell? ⟨gR, u * 9, none⟩ = some (.int .i64 s0) ∧ wc.cell? ⟨gR, u * 9 + 1, none⟩ = some (.int .i64 s1) ∧ wc.cell? ⟨gR, u * 9 + 2, none⟩ = some (.int .i64 s2) ∧ wc.cell? ⟨gR, u * 9 + 3, none⟩ = some (.int .i64 s3) ∧ wc.cell? ⟨gR, u * 9 + 4, none⟩ = some (.int .i64 s4) ∧ wc.cell? ⟨gR, u * 9 + 5, none⟩ = some (.int .i64 s5) ∧ wc.cell? ⟨gR, u * 9 + 6, none⟩ = some (.int .i64 s6) ∧ wc.cell? ⟨gR, u * 9 + 7, none⟩ = some (.int .i64 s7) ∧ wc.cell? ⟨gR, u * 9 + 8, none⟩ = some (.int .i64 s8) ∧ wc.cell? ⟨Z, 0, none⟩ = some (.int .i64 y0) ∧ wc.cell? ⟨Z, 1, none⟩ = some (.int .i64 y1) ∧ wc.cell? ⟨Z, 2, none⟩ = some (.int .i64 y2) ∧ wc.cell? ⟨Z, 3, none⟩ = some (.int .i64 y3) ∧ wc.cell? ⟨Z, 4, none⟩ = some (.int .i64 y4) ∧ wc.cell? ⟨Z, 5, none⟩ = some (.int .i64 y5) ∧ wc.cell? ⟨Z, 6, none⟩ = some (.int .i64 y6) ∧ wc.cell? ⟨Z, 7, none⟩ = some (.int .i64 y7) ∧ wc.cell? ⟨X, 0, none⟩ = some (.int .i64 x0) ∧ wc.cell? ⟨X, 1, none⟩ = some (.int .i64 x1) ∧ wc.cell? ⟨X, 2, none⟩ = some (.int .i64 x2) ∧ wc.cell? ⟨X, 3, none⟩ = some (.int .i64 x3) ∧ wc.cell? ⟨X, 4, none⟩ = some (.int .i64 x4) ∧ wc.cell? ⟨X, 5, none⟩ = some (.int .i64 x5) ∧ wc.cell? ⟨X, 6, none⟩ = some (.int .i64 x6) ∧ wc.cell? ⟨X, 7, none⟩ = some (.int .i64 x7) ∧ wc.cell? ⟨Y, 0, none⟩ = some (.int .i64 r0) ∧ wc.cell? ⟨Y, 1, none⟩ = some (.int .i64 r1) ∧ wc.cell? ⟨Y, 2, none⟩ = some (.int .i64 r2) ∧ wc.cell? ⟨Y, 3, none⟩ = some (.int .i64 r3) ∧ wc.cell? ⟨Y, 4, none⟩ = some (.int .i64 r4) ∧ wc.cell? ⟨Y, 5, none⟩ = some (.int .i64 r5) ∧ wc.cell? ⟨Y, 6, none⟩ = some (.int .i64 r6) ∧ wc.cell? ⟨Y, 7, none⟩ = some (.int .i64 r7) ∧ wc.cell? ⟨Y, 8, none⟩ = some (.int .i64 r8)) := ⟨k0, k1, k2, k3, k4, k5, k6, k7, n0, n1, n2, n3, n4, n5, n6, n7, n8, l0, l1, l2, l3, l4, l5, l6, l7, d0, d1, d2, d3, d4, d5, d6, d7, g0, g1, g2, g3, g4, g5, g6, g7, g8⟩
                    have HL10 : Hid _ := hL10
                    clear hoo hrr hX10 hY10 hZ10 hL10
                    go_upto_region 40 with fail
                    go_cut [238] (fun s238 wx => s238 = .bool false ∧ Keeps None wc wx)
                    case first =>
                      as_aux_lemma =>
                      --D
                      go_region_held3 (fun w' => w'.cell? ⟨gO, u * 8, none⟩ = some (.int .i64 y0) ∧ w'.cell? ⟨gO, u * 8 + 1, none⟩ = some (.int .i64 y1) ∧ w'.cell? ⟨gO, u * 8 + 2, none⟩ = some (.int .i64 y2) ∧ w'.cell? ⟨gO, u * 8 + 3, none⟩ = some (.int .i64 y3) ∧ w'.cell? ⟨gO, u * 8 + 4, none⟩ = some (.int .i64 y4) ∧ w'.cell? ⟨gO, u * 8 + 5, none⟩ = some (.int .i64 y5) ∧ w'.cell? ⟨gO, u * 8 + 6, none⟩ = some (.int .i64 y6) ∧ w'.cell? ⟨gO, u * 8 + 7, none⟩ = some (.int .i64 y7) ∧ w'.cell? ⟨gR, u * 9, none⟩ = some (.int .i64 s0) ∧ w'.cell? ⟨gR, u * 9 + 1, none⟩ = some (.int .i64 s1) ∧ w'.cell? ⟨gR, u * 9 + 2, none⟩ = some (.int .i64 s2) ∧ w'.cell? ⟨gR, u * 9 + 3, none⟩ = some (.int .i64 s3) ∧ w'.cell? ⟨gR, u * 9 + 4, none⟩ = some (.int .i64 s4) ∧ w'.cell? ⟨gR, u * 9 + 5, none⟩ = some (.int .i64 s5) ∧ w'.cell? ⟨gR, u * 9 + 6, none⟩ = some (.int .i64 s6) ∧ w'.cell? ⟨gR, u * 9 + 7, none⟩ = some (.int .i64 s7) ∧ w'.cell? ⟨gR, u * 9 + 8, none⟩ = some (.int .i64 s8) ∧ w'.cell? ⟨Z, 0, none⟩ = some (.int .i64 y0) ∧ w'.cell? ⟨Z, 1, none⟩ = some (.int .i64 y1) ∧ w'.cell? ⟨Z, 2, none⟩ = some (.int .i64 y2) ∧ w'.cell? ⟨Z, 3, none⟩ = some (.int .i64 y3) ∧ w'.cell? ⟨Z, 4, none⟩ = some (.int .i64 y4) ∧ w'.cell? ⟨Z, 5, none⟩ = some (.int .i64 y5) ∧ w'.cell? ⟨Z, 6, none⟩ = some (.int .i64 y6) ∧ w'.cell? ⟨Z, 7, none⟩ = some (.int .i64 y7) ∧ w'.cell? ⟨X, 0, none⟩ = some (.int .i64 x0) ∧ w'.cell? ⟨X, 1, none⟩ = some (.int .i64 x1) ∧ w'.cell? ⟨X, 2, none⟩ = some (.int .i64 x2) ∧ w'.cell? ⟨X, 3, none⟩ = some (.int .i64 x3) ∧ w'.cell? ⟨X, 4, none⟩ = some (.int .i64 x4) ∧ w'.cell? ⟨X, 5, none⟩ = some (.int .i64 x5) ∧ w'.cell? ⟨X, 6, none⟩ = some (.int .i64 x6) ∧ w'.cell? ⟨X, 7, none⟩ = some (.int .i64 x7) ∧ w'.cell? ⟨Y, 0, none⟩ = some (.int .i64 r0) ∧ w'.cell? ⟨Y, 1, none⟩ = some (.int .i64 r1) ∧ w'.cell? ⟨Y, 2, none⟩ = some (.int .i64 r2) ∧ w'.cell? ⟨Y, 3, none⟩ = some (.int .i64 r3) ∧ w'.cell? ⟨Y, 4, none⟩ = some (.int .i64 r4) ∧ w'.cell? ⟨Y, 5, none⟩ = some (.int .i64 r5) ∧ w'.cell? ⟨Y, 6, none⟩ = some (.int .i64 r6) ∧ w'.cell? ⟨Y, 7, none⟩ = some (.int .i64 r7) ∧ w'.cell? ⟨Y, 8, none⟩ = some (.int .i64 r8))
                        (first | with_reducible exact hs7 | with_reducible exact hs6 | with_reducible exact hs5 | go_keep)
                        (first
                          | (have hz6 := hs6; go_at_call 23; refine (han0 _).mono ?_; rintro e w7 ⟨rfl, hk7⟩; have hs7 := keep42 hk7 hs6)
                          | (have hz5 := hs5; go_at_call 23; refine (han1 _).mono ?_; rintro e w6 ⟨rfl, hk6⟩; have hs6 := keep42 hk6 hs5)
                          | (go_at_call 23; refine (han1 _).mono ?_; rintro e w5 ⟨rfl, hk5⟩; have hs5 := keep42 hk5 (keep42 (Keeps.drew None wc) HS42.out)))
                      all_goals (go_wp2_with fail; go_meet)
                      all_goals exact ⟨rfl, (((Keeps.drew None wc).trans hk5 (fun _ f _ => f)).trans hk6 (fun _ f _ => f)).trans hk7 (fun _ f _ => f)⟩
                      --Z
                    case rest =>
                      obtain ⟨rfl, hk11⟩ := hcut
                      have HL11 : Hid _ := HL10.out.kept hk11
                      clear hk11 HL10 HS42 han0 han1 k0 k1 k2 k3 k4 k5 k6 k7 n0 n1 n2 n3 n4 n5 n6 n7 n8 d0 d1 d2 d3 d4 d5 d6 d7 g0 g1 g2 g3 g4 g5 g6 g7 g8 l0 l1 l2 l3 l4 l5 l6 l7
                      go_wp2_with fail
                      go_roundw
                      case rel => exact ⟨j + 1, F7, G10, K8, B2, C2, os.set u ⟨y0, y1, y2, y3, y4, y5, y6, y7⟩, rs.set u ⟨s0, s1, s2, s3, s4, s5, s6, s7, s8⟩, by omega, by go_num, by rw [List.length_set]; exact HQ.out.1, by rw [List.length_set]; exact HQ.out.2.1, HQ.out.2.2.1.set8 u _ _ HF.out.1, HF.out.2.1, HF.out.2.2.1, HF.out.2.2.2, HL11.out⟩
                      case measure => simp only [intOf]; omega
            · as_aux_lemma =>
              have HE : Hid _ := And.intro hL (And.intro htw (And.intro hlg hsz))
              have hcs : (¬ (j : Int) < (ps.length : Int)) ∨ ((j : Int) < (ps.length : Int) ∧ ¬ (0 : Int) < (k : Int)) := by omega
              clear hL hal htw hlg hsz ho hr hgo
              have hlo := tn_log HE.out.1.st.two (by have := HE.out.2.2.1; omega)
              rcases hcs with i1 | ⟨i1, i2⟩
              all_goals
                go_wp2_with fail
                refine hlo.mono ?_
                rintro e w9 ⟨v9, rfl, o9, k9⟩
                have h9 := HE.out.1.st.kept k9
                have hlr := tn_rlog h9.two (by have := HE.out.2.2.1; omega)
                have H9 : Hid _ := And.intro h9 o9
                clear h9 o9 k9 hlo
                go_wp2_with fail
                refine hlr.mono ?_
                rintro e w10 ⟨v10, rfl, o10, k10⟩
                have h10 := H9.out.1.kept k10
                have hsl := sameLog_same v9 v10 B.log w10 (k10.own H9.out.2 (fun _ _ f => f)) o10 (by have := HE.out.2.2.1; omega)
                have H10 : Hid _ := h10
                clear h10 o10 k10 hlr H9
                go_wp2_with fail
                refine hsl.mono ?_
                rintro e w11 ⟨rfl, m2, rfl⟩
                have h11 := H10.out.kept (Keeps.drewN None w10 m2)
                have hfit : B.cells.length ≤ 1048576 := by obtain ⟨c, l, hA, -⟩ := h11.ar; have := hA.fit; omega
                have hca := tn_cells h11.two
                have H11 : Hid _ := h11
                clear hsl H10 h11
                go_wp2_with fail
                refine hca.mono ?_
                rintro e w12 ⟨v12, rfl, o12, k12⟩
                have h12 := H11.out.kept k12
                have hcr := tn_rcells h12.two
                have H12 : Hid _ := And.intro h12 o12
                clear h12 o12 k12 hca H11
                go_wp2_with fail
                refine hcr.mono ?_
                rintro e w13 ⟨v13, rfl, o13, k13⟩
                have h13 := H12.out.1.kept k13
                have hsm := sameNumbers_same v12 v13 B.cells w13 (k13.own H12.out.2 (fun _ _ f => f)) o13 (by omega)
                have H13 : Hid _ := h13
                clear h13 o13 k13 hcr H12
                go_wp2_with fail
                refine hsm.mono ?_
                rintro e w14 ⟨rfl, m3, rfl⟩
                have h14 := H13.out.kept (Keeps.drewN None w13 m3)
                have hcb := tn_cells h14.two2
                have H14 : Hid _ := h14
                clear hsm H13 h14
                go_wp2_with fail
                refine hcb.mono ?_
                rintro e w15 ⟨v15, rfl, o15, k15⟩
                have h15 := H14.out.kept k15
                have hcr2 := tn_rcells h15.two
                rw [HE.out.2.1.cells] at o15
                have H15 : Hid _ := And.intro h15 o15
                clear h15 o15 k15 hcb H14
                go_wp2_with fail
                refine hcr2.mono ?_
                rintro e w16 ⟨v16, rfl, o16, k16⟩
                have h16 := H15.out.1.kept k16
                have hsm2 := sameNumbers_same v15 v16 B.cells w16 (k16.own H15.out.2 (fun _ _ f => f)) o16 (by omega)
                have H16 : Hid _ := h16
                clear h16 o16 k16 hcr2 H15
                go_wp2_with fail
                refine hsm2.mono ?_
                rintro e w17 ⟨rfl, m4, rfl⟩
                have H17 : Hid _ := H16.out.kept (Keeps.drewN None w16 m4)
                clear hsm2 H16
                go_wp2_with fail
                go_ret
                exact ⟨by simp, H17.out.kp⟩
end Go.Proofs.Ytaipeclmfgdegaa
