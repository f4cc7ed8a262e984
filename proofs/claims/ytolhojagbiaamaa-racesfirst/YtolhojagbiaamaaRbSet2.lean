import Derived.Test.YtolhojagbiaamaaRbSet
/-! Sets of tasks in memory: parallel, join, wait. -/
namespace Go.Proofs.Ytolhojagbiaamaa
set_option linter.unusedVariables false
set_option maxRecDepth 20000
set_option linter.unusedSimpArgs false
open Go.RowKit Go.HeapKit

section
variable {w w' : World} {base S o gu cu gm cm gl cl : Nat} {U : List Nat} {M : List Bool} {A : List Int}
theorem SetM.mat (h : SetM w base S o U M A gu cu gm cm gl cl) {x : Nat} (hx : x < U.length) : w.cell? ⟨gm, x, none⟩ = some (.bool (M.getD x false)) ∧ w.frozen? ⟨gm, x, none⟩ = false := by
  rcases h.rm.2 with ⟨h0, _⟩ | ⟨g', cap, cur, hv, hbg, hg, hnc, hcm, hcs, htake⟩
  · cases h0
  · injection hv with e1 e2 e3
    injection e1 with e1
    injection e1 with e1
    subst e1 e3
    have hv : (bvs M)[x]? = some (.bool (M.getD x false)) := by
      have : x < M.length := by rw [h.lm]; exact hx
      simp [bvs, List.getD_eq_getElem?_getD, this]
    refine ⟨?_, blk_free hg x⟩
    rw [blk_cell hg]
    rw [← htake, List.getElem?_take] at hv
    split at hv
    · simpa using hv
    · cases hv
theorem SetM.lat (h : SetM w base S o U M A gu cu gm cm gl cl) {x : Nat} (hx : x < U.length) : w.cell? ⟨gl, x, none⟩ = some (.int .i64 (A.getD x 0)) ∧ w.frozen? ⟨gl, x, none⟩ = false := by
  have hr := h.rl
  rw [← h.la] at hr
  obtain ⟨h1, h2, _⟩ := RowZ.at (k := x) (x := A.getD x 0) hr (by have : x < A.length := by rw [h.la]; exact hx
                                                                  simp [List.getD_eq_getElem?_getD, this])
  exact ⟨h1, h2⟩
theorem SetM.putA (h : SetM w base S o U M A gu cu gm cm gl cl) (x : Nat) (v : Int) : SetM (w.setCell ⟨gl, x, none⟩ (.int .i64 v)) base S o U M (A.set x v) gu cu gm cm gl cl ∧ Keeps (· = gl) w (w.setCell ⟨gl, x, none⟩ (.int .i64 v)) := by
  have hk : Keeps (· = gl) w (w.setCell ⟨gl, x, none⟩ (.int .i64 v)) := keeps_one (Keeps.refl _ _) _
  obtain ⟨n1, n2, n3, n4, n5⟩ := h.neS
  obtain ⟨c, t, b1, b2, b3⟩ := h.blk
  have hr := h.rl
  rw [← h.la] at hr
  have hp := RowZ.put (k := x) hr v
  rw [h.la] at hp
  exact ⟨⟨hk.cell h.c0 n3, hk.cell h.c1 n3, hk.cell h.c2 n3, h.ru.kept hk (fun g e => by simp [Value.ownBlock] at e; subst e; exact h.ne), row_kept h.rm hk (fun g e => by simp [Value.ownBlock] at e; subst e; exact n5), hp, h.lm, by rw [List.length_set]; exact h.la, h.ne, c, t, blk_kept b1 hk n3, b2, b3⟩, hk⟩
theorem SetM.putM (h : SetM w base S o U M A gu cu gm cm gl cl) (x : Nat) (v : Bool) : SetM (w.setCell ⟨gm, x, none⟩ (.bool v)) base S o U (M.set x v) A gu cu gm cm gl cl ∧ Keeps (· = gm) w (w.setCell ⟨gm, x, none⟩ (.bool v)) := by
  have hk : Keeps (· = gm) w (w.setCell ⟨gm, x, none⟩ (.bool v)) := keeps_one (Keeps.refl _ _) _
  obtain ⟨n1, n2, n3, n4, n5⟩ := h.neS
  obtain ⟨c, t, b1, b2, b3⟩ := h.blk
  have hp := row_set h.rm x (.bool v)
  have e : (bvs M).set x (.bool v) = bvs (M.set x v) := by simp [bvs, List.map_set]
  rw [e] at hp
  exact ⟨⟨hk.cell h.c0 n2, hk.cell h.c1 n2, hk.cell h.c2 n2, h.ru.kept hk (fun g e => by simp [Value.ownBlock] at e; subst e; exact fun e => n4 e.symm), hp, h.rl.kept hk (fun g e => by simp [Value.ownBlock] at e; subst e; exact fun e => n5 e.symm), by rw [List.length_set]; exact h.lm, h.la, h.ne, c, t, blk_kept b1 hk n2, b2, b3⟩, hk⟩
end
set_option maxHeartbeats 1600000 in
theorem isPar_ok (w : World) (base S o gu cu gm cm gl cl t : Nat) (U : List Nat) (M : List Bool) (A : List Int) (rt d : Nat → Nat) (h : SetM w base S o U M A gu cu gm cm gl cl) (hF : Fo U rt d) (ht : t < U.length) (hn : U.length ≤ 5000) :
    Calls Try.prog 58 #[.pointer (some ⟨S, o, none⟩), .int .i64 t] w fun e w' => e = .returned (.bool (M.getD (rt t) false)) ∧ (∃ U', SetM w' base S o U' M A gu cu gm cm gl cl ∧ Fo U' rt d ∧ U'.length = U.length) ∧ Keeps (· = gu) w w' := by
  obtain ⟨T, hT⟩ : ∃ T, T = U.length := ⟨_, rfl⟩
  have HT : Hid (T = U.length ∧ rt t < T) := ⟨hT, by rw [hT]; exact (hF.root t ht).1⟩
  have c1 := h.c1
  rw [← hT] at c1
  have hS : S ≠ gu := h.neS.1
  have HC : Hid (∀ w1, Keeps None w w1 → Calls Try.prog 64 #[.pointer (some ⟨S, o, none⟩), .int .i64 t] w1 fun e w' => e = .returned (.int .i64 (rt t : Nat)) ∧ w'.cell? ⟨S, o + 1, none⟩ = some (.slice (some ⟨gm, 0, none⟩) T cm) ∧ w'.cell? ⟨gm, rt t, none⟩ = some (.bool (M.getD (rt t) false)) ∧ Hid ((∃ U', SetM w' base S o U' M A gu cu gm cm gl cl ∧ Fo U' rt d ∧ U'.length = U.length) ∧ Keeps (· = gu) w w')) := fun w1 hk => (root_ok w1 base S o gu cu gm cm gl cl t U M A rt d (h.more hk) hF ht hn).mono fun e w' hp => by
    obtain ⟨h1, ⟨U', h2, h3, h4⟩, h5⟩ := hp
    have hc := h2.c1
    rw [h4, ← hT] at hc
    exact ⟨h1, hc, (h2.mat (by rw [h4]; exact (hF.root t ht).1)).1, ⟨⟨U', h2, h3, h4⟩, (hk.mono (fun _ f _ => f.elim)).trans h5 (fun _ e _ => e)⟩⟩
  have m1 := (h.mat (hF.root t ht).1).1
  obtain ⟨R, hR⟩ : ∃ R, R = rt t := ⟨_, rfl⟩
  rw [← hR] at HC HT m1 ⊢
  have i1 : (R : Int) < (T : Int) := by have := HT.out.2; omega
  clear h hF ht hn hT hR
  go_enter Try.func58, Try.ntmps58
  go_wp2_with fail
  go_cut [4] (fun s4 wx => s4 = .bool (M.getD R false) ∧ (∃ U', SetM wx base S o U' M A gu cu gm cm gl cl ∧ Fo U' rt d ∧ U'.length = U.length) ∧ Keeps (· = gu) w wx)
  case first =>
    go_region_held3 (fun w' => w'.cell? ⟨S, o + 1, none⟩ = some (.slice (some ⟨gm, 0, none⟩) T cm) ∧ w'.cell? ⟨gm, R, none⟩ = some (.bool (M.getD R false))) (first | exact ⟨q1, q2⟩ | go_keep) (first | (go_at_call 64; refine Calls.mono (HC.out _ (Keeps.drew None _)) ?_; rintro _ w2 ⟨rfl, q1, q2, q3⟩))
    all_goals (go_wp2_with fail; go_meet)
    all_goals exact ⟨rfl, q3.out⟩
  case rest =>
  obtain ⟨rfl, hq⟩ := hcut
  have HQ : Hid _ := hq
  clear hq
  go_wp2
  go_ret
  exact ⟨rfl, HQ.out⟩
/-- Two sets are one. -/
theorem Fo.join {U : List Nat} {rt d : Nat → Nat} (h : Fo U rt d) {f s : Nat} (hf : f < U.length) (hs : s < U.length) (hne : rt f ≠ rt s) :
    Fo (U.set (rt s) (rt f)) (fun x => if rt x = rt s then rt f else rt x) (fun x => d x + (if rt x = rt s then d (rt f) + 1 else 0)) := by
  obtain ⟨f1, f2⟩ := h.root f hf
  obtain ⟨s1, s2⟩ := h.root s hs
  have rf : rt (rt f) = rt f := h.fix _ f1 f2
  have rs : rt (rt s) = rt s := h.fix _ s1 s2
  refine ⟨?_, ?_, ?_, ?_⟩
  · intro x hx
    rw [List.length_set] at hx ⊢
    rw [getD_set _ _ _ _ s1]
    split
    · exact f1
    · exact h.up x hx
  · intro x hx e
    rw [List.length_set] at hx
    rw [getD_set _ _ _ _ s1] at e
    split at e
    · rename_i h1
      subst h1
      exact (hne e).elim
    · rename_i h1
      have hr := h.fix x hx e
      have hn2 : rt x ≠ rt s := fun e2 => h1 (by rw [← e2]; exact hr.symm)
      simp only [if_neg hn2]
      exact hr
  · intro x hx e
    rw [List.length_set] at hx
    rw [getD_set _ _ _ _ s1] at e ⊢
    split
    · rename_i h1
      subst h1
      simp only [rs, rf, if_true, if_neg hne]
      exact ⟨by omega, trivial⟩
    · rename_i h1
      rw [if_neg h1] at e
      obtain ⟨m1, m2⟩ := h.mv x hx e
      simp only [m2]
      exact ⟨by omega, trivial⟩
  · intro x hx
    rw [List.length_set] at hx ⊢
    obtain ⟨r1, r2⟩ := h.root x hx
    by_cases e : rt x = rt s
    · simp only [if_pos e]
      refine ⟨f1, ?_⟩
      rw [getD_set _ _ _ _ s1, if_neg hne]
      exact f2
    · simp only [if_neg e]
      refine ⟨r1, ?_⟩
      rw [getD_set _ _ _ _ s1, if_neg e]
      exact r2
def joinR (rt : Nat → Nat) (f s : Nat) : Nat → Nat := fun x => if rt x = rt s then rt f else rt x
set_option maxHeartbeats 1600000 in
theorem join_ok (w : World) (base S o gu cu gm cm gl cl f s : Nat) (U : List Nat) (M : List Bool) (A : List Int) (rt d : Nat → Nat) (h : SetM w base S o U M A gu cu gm cm gl cl) (hF : Fo U rt d) (hf : f < U.length) (hs : s < U.length) (hne : rt f ≠ rt s) (hn : U.length ≤ 5000) :
    Calls Try.prog 62 #[.pointer (some ⟨S, o, none⟩), .int .i64 f, .int .i64 s] w fun e w' => e = .returned (.tuple #[]) ∧ (∃ U' d', SetM w' base S o U' M A gu cu gm cm gl cl ∧ Fo U' (joinR rt f s) d' ∧ U'.length = U.length) ∧ Keeps (· = gu) w w' := by
  obtain ⟨T, hT⟩ : ∃ T, T = U.length := ⟨_, rfl⟩
  have c0 := h.c0
  rw [← hT] at c0
  have step : ∀ (x : Nat) (w1 : World) (U1 : List Nat), x < T → SetM w1 base S o U1 M A gu cu gm cm gl cl → Fo U1 rt d → U1.length = T → Keeps (· = gu) w w1 → Calls Try.prog 64 #[.pointer (some ⟨S, o, none⟩), .int .i64 x] w1 fun e w' => e = .returned (.int .i64 (rt x : Nat)) ∧ w'.cell? ⟨S, o, none⟩ = some (.slice (some ⟨gu, 0, none⟩) T cu) ∧ Hid ((∃ U', SetM w' base S o U' M A gu cu gm cm gl cl ∧ Fo U' rt d ∧ U'.length = T) ∧ Keeps (· = gu) w w') := fun x w1 U1 hx h1 h2 h3 h4 => (root_ok w1 base S o gu cu gm cm gl cl x U1 M A rt d h1 h2 (by omega) (by omega)).mono fun e w' hp => by
    obtain ⟨p1, ⟨U', p2, p3, p4⟩, p5⟩ := hp
    have hc := p2.c0
    rw [p4, h3] at hc
    exact ⟨p1, hc, ⟨⟨U', p2, p3, p4.trans h3⟩, h4.trans p5 (fun _ e _ => e)⟩⟩
  have HST : Hid _ := step
  have H0 : Hid (SetM w base S o U M A gu cu gm cm gl cl ∧ Fo U rt d ∧ U.length = T ∧ f < T ∧ s < T ∧ rt f ≠ rt s ∧ rt s < T ∧ rt f < T) := ⟨h, hF, hT.symm, by omega, by omega, hne, by rw [hT]; exact (hF.root s hs).1, by rw [hT]; exact (hF.root f hf).1⟩
  have i1 : ((rt s : Nat) : Int) < (T : Int) := by have := H0.out.2.2.2.2.2.2.1; omega
  have HSG : Hid (S ≠ gu) := h.neS.1
  clear h hF hf hs hne hn hT step
  go_enter Try.func62, Try.ntmps62
  have HG : Hid (∀ w2, ((∃ U', SetM w2 base S o U' M A gu cu gm cm gl cl ∧ Fo U' rt d ∧ U'.length = T) ∧ Keeps (· = gu) w w2) → w2.cell? ⟨gu, rt s, none⟩ ≠ none ∧ w2.frozen? ⟨gu, rt s, none⟩ = false ∧ (∃ U' d', SetM (w2.setCell ⟨gu, rt s, none⟩ (.int .i64 (rt f : Nat))) base S o U' M A gu cu gm cm gl cl ∧ Fo U' (joinR rt f s) d' ∧ U'.length = U.length) ∧ Keeps (· = gu) w (w2.setCell ⟨gu, rt s, none⟩ (.int .i64 (rt f : Nat)))) := by
    rintro w2 ⟨⟨U', p2, p3, p4⟩, p5⟩
    obtain ⟨a1, a2, a3, a4, a5, a6, a7, a8⟩ := H0.out
    obtain ⟨u1, u2⟩ := p2.uat (x := rt s) (by omega)
    obtain ⟨m1, m2⟩ := p2.putU (rt s) (rt f)
    refine ⟨by rw [u1]; simp, u2, ⟨_, _, m1, p3.join (by omega) (by omega) a6, by rw [List.length_set, p4, a3]⟩, p5.trans m2 (fun _ e _ => e)⟩
  have TK : Hid True := trivial
  go_region_held3 (fun w' => w'.cell? ⟨S, o, none⟩ = some (.slice (some ⟨gu, 0, none⟩) T cu)) (first | exact q6 | exact q4 | exact q1 | go_keep) (first
    | (go_at_call 64; have tk := TK.out; clear TK tk; refine Calls.mono (HST.out s _ U H0.out.2.2.2.2.1 (H0.out.1.more (Keeps.drew None _)) H0.out.2.1 H0.out.2.2.1 ((Keeps.refl _ _).andDrew)) ?_; rintro _ w2 ⟨rfl, q1, q2⟩; obtain ⟨⟨U2, v1, v2, v3⟩, v4⟩ := q2.out; have V1 : Hid _ := v1; have V2 : Hid _ := v2; have V3 : Hid _ := v3; have V4 : Hid _ := v4; clear v1 v2 v3 v4)
    | (go_at_call 64; refine Calls.mono (HST.out f _ U2 H0.out.2.2.2.1 V1.out V2.out V3.out V4.out) ?_; rintro _ w3 ⟨rfl, q4, q5⟩; obtain ⟨g1, g2, g3, g4⟩ := HG.out w3 q5.out; obtain ⟨gv, hgv⟩ := Option.ne_none_iff_exists'.1 g1; have HG3 : Hid _ := g3; have HG4 : Hid _ := g4; have q6 := (keeps_one (Keeps.refl (· = gu) w3) (o := rt s) (.int .i64 (rt f : Nat))).cell q4 HSG.out; clear g3 g4 g1))
  all_goals (go_wp2_with fail; go_end0)
  all_goals exact ⟨rfl, HG3.out, HG4.out⟩
end Go.Proofs.Ytolhojagbiaamaa
