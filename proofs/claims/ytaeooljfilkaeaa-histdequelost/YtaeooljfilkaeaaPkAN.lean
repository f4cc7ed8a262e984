import Derived.Test.YtaeooljfilkaeaaPkAK
import Derived.Test.YtaeooljfilkaeaaPkAL
import Derived.Test.YtaeooljfilkaeaaPkAM
import Derived.Test.YtaeooljfilkaeaaPkAJ
/-! A pick, walked. -/
namespace Go.Proofs.Ytaeooljfilkaeaa
set_option linter.unusedVariables false
set_option maxRecDepth 20000
set_option linter.unusedSimpArgs false
open Go.RowKit Go.HeapKit Go.IntWalk

theorem darf_who (p : Nat) (F : Nat → Prop) (A : Ar) (u : Int) (w : World) (h : ArF w p F A) :
    Calls Try.prog 48 #[.pointer (some ⟨p, 0, none⟩), .int .i64 u] w fun e w' => e = .returned (.tuple #[]) ∧ AA w w' p F { A with actor := u } := by
  obtain ⟨vc, vl, h, rfl⟩ := h
  refine (who_any p vc vl A u w h).mono ?_
  rintro e w' ⟨rfl, h', hk⟩
  exact ⟨rfl, _, ⟨vc, vl, h', rfl⟩, hk, fun k f => .inl f⟩
theorem dbegin_any (w0 w : World) (P p : Nat) (F : Nat → Prop) (ta : Option Addr) (tc : Nat) (vc : Value) (S S1 : Dpl) (g c n who : Nat) (h : IsDp w0 w P p F ta tc (.slice (some ⟨g, 0, none⟩) S.acts.length c) vc S) (hb : S.begin n who = some S1) (hwl : who < S.acts.length) (hm : 1 ≤ S.most ∧ S.most ≤ 4096) (hlc : S.calls.length < 10000000) :
    Calls Try.prog 47 #[.pointer (some ⟨P, 0, none⟩), .pointer (some ⟨g, who * 14, none⟩), .int .i64 n, .int .i64 who] w fun e w' => e = .returned (.bool true) ∧
      ∃ ta' tc' vc', IsDp w0 w' P p F ta' tc' (.slice (some ⟨g, 0, none⟩) S.acts.length c) vc' S1 := by
  unfold Dpl.begin at hb
  by_cases hw : who = 0
  · subst hw
    rw [if_neg (fun e => e rfl)] at hb
    cases ht : S.todos with
    | nil => rw [ht] at hb; simp at hb
    | cons t ts =>
      rw [ht] at hb
      simp only at hb
      have e14 : 0 * 14 = 0 := rfl
      rw [e14]
      split at hb
      · injection hb with hb
        subst hb
        exact dbegin_push w0 w P p F ta tc vc S g c n t ts h ht ‹_› hwl hm hlc
      · injection hb with hb
        subst hb
        exact dbegin_pop w0 w P p F ta tc vc S g c n t ts h ht ‹_› hwl hm hlc
  · rw [if_pos hw] at hb
    injection hb with hb
    subst hb
    refine (dbegin_steal w0 w P p F ta tc vc S g c n who h (by omega) hwl hm hlc).mono ?_
    rintro e w' ⟨rfl, vc', h'⟩
    exact ⟨rfl, ta, tc, vc', h'⟩
theorem modify_at {l : List Cal} {k : Nat} {y : Cal} (h : l[k]? = some y) (f : Cal → Cal) : l.modify k f = l.set k (f y) := by
  apply List.ext_getElem?
  intro i
  rw [List.getElem?_modify, List.getElem?_set]
  by_cases e : k = i
  · subst e
    obtain ⟨h1, h2⟩ := List.getElem?_eq_some_iff.1 h
    simp [h1, h2]
  · simp [e]
theorem Dpl.goes_eq {S1 : Dpl} {n who k : Nat} {b : Dac} {o : OpS} {B : Ar} {y : Cal} (hb : S1.acts[who]? = some b) (hst : b.op.step { S1.A with actor := who } = (o, B)) (hk : b.call = k) (hy : S1.calls[k]? = some y) :
    S1.goes n who = if o.ans.1 = 0 then { S1 with A := B, acts := S1.acts.set who ⟨o, b.call⟩ } else { S1 with A := B, acts := S1.acts.set who ⟨o, b.call⟩, calls := S1.calls.set k { y with en := n, code := o.ans.1, v := o.ans.2 } } := by
  have hgd : S1.acts.getD who Dac.zero = b := by rw [List.getD_eq_getElem?_getD, hb]; rfl
  unfold Dpl.goes
  simp only [hgd, hst]
  split
  · rfl
  · rw [hk, Int.toNat_natCast, modify_at hy]
set_option maxHeartbeats 8000000 in
set_option maxRecDepth 100000 in
theorem dpick_any (w0 w : World) (P p : Nat) (F : Nat → Prop) (ta : Option Addr) (tc : Nat) (vc : Value) (S S1 : Dpl) (g c n who k : Nat) (a b : Dac) (o : OpS) (B : Ar) (h : IsDp w0 w P p F ta tc (.slice (some ⟨g, 0, none⟩) S.acts.length c) vc S) (ha : S.acts[who]? = some a) (hf : a.op.Fit) (hm : 1 ≤ S.most ∧ S.most ≤ 4096) (hlc : S.calls.length < 10000000)
    (hS1 : (a.op.ans.1 = 0 ∧ S1 = S) ∨ (a.op.ans.1 ≠ 0 ∧ S.begin n who = some S1)) (hb : S1.acts[who]? = some b) (hbf : b.op.Fit) (hlog : S1.A.log.length < 1000000000000) (hst : b.op.step { S1.A with actor := who } = (o, B)) (hof : o.Fit) (hk : b.call = k) (hkl : k < S1.calls.length) (hlen : S1.acts.length = S.acts.length) :
    Calls Try.prog 27 #[.pointer (some ⟨P, 0, none⟩), .int .i64 n, .int .i64 who] w fun e w' => e = .returned (.tuple #[]) ∧
      ∃ F' ta' tc' vc', IsDp w0 w' P p F' ta' tc' (.slice (some ⟨g, 0, none⟩) S.acts.length c) vc' (S1.goes n who) := by
  obtain ⟨y, hy⟩ : ∃ y, S1.calls[k]? = some y := ⟨_, List.getElem?_eq_getElem hkl⟩
  rw [Dpl.goes_eq hb hst hk hy]
  have hwl := (List.getElem?_eq_some_iff.1 ha).1
  have hwl1 : who < S1.acts.length := by omega
  obtain ⟨⟨c0, c1, c2, c3, c4, c5⟩, -⟩ := h.cs
  obtain ⟨⟨k0, k1, k2, k3, k4, k5, k6, k7, k8, k9, k10, k11, k12, k13⟩, -⟩ := act_atD h rfl ha
  have hans := answer_any a.op hf
  have hans2 := answer_any o hof
  have hbeg := fun S1 w' (hx : IsDp w0 w' P p F ta tc (.slice (some ⟨g, 0, none⟩) S.acts.length c) vc S) (hb : S.begin n who = some S1) => dbegin_any w0 w' P p F ta tc vc S S1 g c n who hx hb hwl hm hlc
  have hstep := fun F' w' (hA : ArF w' p F' { S1.A with actor := (who : Int) }) => step_any p F' _ b.op w' hA hlog hbf
  simp only [hst] at hstep
  have hset : ({ S1 with A := B, acts := S1.acts.set who ⟨o, b.call⟩ } : Dpl).acts[who]? = some ⟨o, b.call⟩ := List.getElem?_set_self hwl1
  simp only [OpS.value, OpS.vals] at hans hans2 hstep
  have i1 : (who : Int) < (S.acts.length : Int) := by omega
  have HS : Hid _ := And.intro h (And.intro ha hb)
  have HL : Hid _ := And.intro hlen (And.intro hwl hwl1)
  have HY : Hid _ := And.intro hy (And.intro hk hkl)
  have HSET : Hid _ := hset
  generalize ha1 : a.op.ans = ra at hans hS1
  obtain ⟨r1, r2⟩ := ra
  generalize ho1 : o.ans = ro at hans2 ⊢
  obtain ⟨q1, q2⟩ := ro
  simp only at hans hans2 hS1 ⊢
  obtain ⟨b0, hb0⟩ : ∃ b0 : Bool, b0 = (r1 != 0) := ⟨_, rfl⟩
  have HS1 : Hid _ := And.intro hS1 hb0
  clear ha1 ho1 h ha hb hy hk hkl hset hlen hwl hwl1 hS1 hb0 hst hof hf hbf hm hlc
  obtain ⟨x0, x1, x2, x3, x4, x5, x6, x7, x8, x9, x10, x11, x12⟩ := o
  simp only at hstep hans2
  go_enter Try.func27, Try.ntmps27
  go_wp2_with fail
  refine (hans _).mono ?_
  rintro e w1 ⟨rfl, hk1⟩
  have h1 := HS.out.1.kept hk1
  have H1 : Hid _ := h1
  clear hk1 hans h1 c0 c1 c2 c3 c4 c5 k0 k1 k2 k3 k4 k5 k6 k7 k8 k9 k10 k11 k12 k13
  go_upto_region 2 with fail
  go_cut [35] (fun s35 wx => s35 = .bool false ∧ ∃ ta' tc' vc', IsDp w0 wx P p F ta' tc' (.slice (some ⟨g, 0, none⟩) S.acts.length c) vc' S1)
  case first =>
    rcases HS1.out.1 with ⟨e, e2⟩ | ⟨e, e2⟩
    · have eb : (r1 != 0) = false := by simpa using e
      clear HS1
      go_wp2_with fail
      go_meet
      exact ⟨rfl, ta, tc, vc, e2 ▸ H1.out⟩
    · have eb : (r1 != 0) = true := by simpa using e
      have E2 : Hid _ := e2
      clear e2 HS1 e
      go_wp2_with fail
      refine (hbeg S1 _ H1.out E2.out).mono ?_
      rintro e w2 ⟨rfl, h2⟩
      have H2 : Hid _ := h2
      clear h2
      go_wp2_with fail
      go_meet
      exact ⟨rfl, H2.out⟩
  case rest =>
    obtain ⟨rfl, ta1, tc1, vc1, h2⟩ := hcut
    obtain ⟨wb, hwb⟩ : ∃ wb, wb = wc := ⟨_, rfl⟩
    subst hwb
    have c0 := h2.cs.1.1
    have H2 : Hid _ := h2
    clear h2 hbeg HS1 H1
    go_upto_region 3 with fail
    go_cut [41] (fun s41 wx => ∃ F', IsDp w0 wx P p F' ta1 tc1 (.slice (some ⟨g, 0, none⟩) S.acts.length c) vc1 { S1 with A := { S1.A with actor := (who : Int) } })
    case first =>
      go_wp2_with fail
      refine (darf_who p F S1.A who _ H2.out.ar).mono ?_
      rintro e w3 ⟨rfl, hA3⟩
      obtain ⟨F3, h3⟩ := H2.out.acc hA3
      have H3 : Hid _ := h3
      clear h3 hA3
      go_wp2_with fail
      go_meet
      exact ⟨F3, H3.out⟩
    case rest =>
      obtain ⟨F2, h3⟩ := hcut
      obtain ⟨wd, hwd⟩ : ∃ wd, wd = wc := ⟨_, rfl⟩
      subst hwd
      clear c0 H2
      have c0 := h3.cs.1.1
      obtain ⟨⟨k0, k1, k2, k3, k4, k5, k6, k7, k8, k9, k10, k11, k12, k13⟩, -⟩ := act_atD h3 HL.out.1 HS.out.2.2
      have H3 : Hid _ := h3
      clear h3
      go_upto_region 4 with fail
      go_cut [54] (fun s54 wx => ∃ F', IsDp w0 wx P p F' ta1 tc1 (.slice (some ⟨g, 0, none⟩) S.acts.length c) vc1 { S1 with A := B, acts := S1.acts.set who ⟨⟨x0, x1, x2, x3, x4, x5, x6, x7, x8, x9, x10, x11, x12⟩, b.call⟩ })
      case first =>
        refine wp_region_held_drew (S := (fun w' => w'.cell? ⟨P, 0, none⟩ = some (.pointer (some ⟨p, 0, none⟩)))) (by kernel_rfl) ?_ (fun hHeld => ?_)
        · (try dsimp only); (first | with_reducible exact hs2 | with_reducible exact hs3 | go_keep)
        refine wpAnyH_take (i := 0) (oi := { dst := some 42, op := Op.move (Operand.tmp 6), type := 116, pos := "play.go:69", after := #[], guard := none }) (v := ?_) rfl (by kernel_rfl) (by kernel_rfl) (by kernel_rfl) (fun _ _ _ h => h) (Or.inl ⟨by rfl, ?_⟩) (by assumption) ?_
        rotate_left
        · (intro wz hSw; (try dsimp only at hSw); go_simp; try with_reducible rfl)
        simp only [Act.put, List.setIfInBounds_toArray, List.set_cons_zero, List.set_cons_succ]
        refine wpAnyH_take (i := 1) (oi := { dst := some 43, op := Op.move (Operand.tmp 0), type := 115, pos := "play.go:69", after := #[], guard := none }) (v := ?_) rfl (by kernel_rfl) (by kernel_rfl) (by kernel_rfl) (fun _ _ _ h => h) (Or.inl ⟨by rfl, ?_⟩) (by assumption) ?_
        rotate_left
        · (intro wz hSw; (try dsimp only at hSw); go_simp; try with_reducible rfl)
        simp only [Act.put, List.setIfInBounds_toArray, List.set_cons_zero, List.set_cons_succ]
        refine wpAnyH_take (i := 2) (oi := { dst := some 44, op := Op.nilCheck (Operand.tmp 43), type := 0, pos := "play.go:69", after := #[{ on := 1, ground := Ground.data }], guard := none }) (v := ?_) rfl (by kernel_rfl) (by kernel_rfl) (by kernel_rfl) (fun _ _ _ h => h) (Or.inl ⟨by rfl, ?_⟩) (by assumption) ?_
        rotate_left
        · (intro wz hSw; (try dsimp only at hSw); go_simp; try with_reducible rfl)
        simp only [Act.put, List.setIfInBounds_toArray, List.set_cons_zero, List.set_cons_succ]
        refine wpAnyH_take (i := 3) (oi := { dst := some 45, op := Op.fieldAddr 68 (Operand.tmp 44) 0, type := 0, pos := "play.go:69", after := #[{ on := 2, ground := Ground.data }], guard := none }) (v := ?_) rfl (by kernel_rfl) (by kernel_rfl) (by kernel_rfl) (fun _ _ _ h => h) (Or.inl ⟨by rfl, ?_⟩) (by assumption) ?_
        rotate_left
        · (intro wz hSw; (try dsimp only at hSw); go_simp; try with_reducible rfl)
        simp only [Act.put, List.setIfInBounds_toArray, List.set_cons_zero, List.set_cons_succ]
        refine wpAnyH_take (i := 4) (oi := { dst := some 46, op := Op.load 58 (Operand.tmp 45), type := 58, pos := "play.go:69", after := #[{ on := 3, ground := Ground.data }], guard := none }) (v := ?_) rfl (by kernel_rfl) (by kernel_rfl) (by kernel_rfl) (fun _ _ _ h => h) (Or.inl ⟨by rfl, ?_⟩) (by assumption) ?_
        rotate_left
        · (intro wz hSw; (try dsimp only at hSw); go_simp; try with_reducible rfl)
        simp only [Act.put, List.setIfInBounds_toArray, List.set_cons_zero, List.set_cons_succ]
        refine wpAnyH_take (i := 5) (oi := { dst := some 47, op := Op.makeInterface 58 (Operand.tmp 46), type := 110, pos := "play.go:69", after := #[{ on := 4, ground := Ground.data }], guard := none }) (v := ?_) rfl (by kernel_rfl) (by kernel_rfl) (by kernel_rfl) (fun _ _ _ h => h) (Or.inl ⟨by rfl, ?_⟩) (by assumption) ?_
        rotate_left
        · (intro wz hSw; (try dsimp only at hSw); go_simp; try with_reducible rfl)
        simp only [Act.put, List.setIfInBounds_toArray, List.set_cons_zero, List.set_cons_succ]
        refine wpAnyH_take (i := 6) (oi := { dst := some 48, op := Op.move (Operand.tmp 6), type := 116, pos := "play.go:69", after := #[], guard := none }) (v := ?_) rfl (by kernel_rfl) (by kernel_rfl) (by kernel_rfl) (fun _ _ _ h => h) (Or.inl ⟨by rfl, ?_⟩) (by assumption) ?_
        rotate_left
        · (intro wz hSw; (try dsimp only at hSw); go_simp; try with_reducible rfl)
        simp only [Act.put, List.setIfInBounds_toArray, List.set_cons_zero, List.set_cons_succ]
        refine wpAnyH_take (i := 7) (oi := { dst := some 49, op := Op.nilCheck (Operand.tmp 48), type := 0, pos := "play.go:69", after := #[{ on := 6, ground := Ground.data }], guard := none }) (v := ?_) rfl (by kernel_rfl) (by kernel_rfl) (by kernel_rfl) (fun _ _ _ h => h) (Or.inl ⟨by rfl, ?_⟩) (by assumption) ?_
        rotate_left
        · (intro wz hSw; (try dsimp only at hSw); go_simp; try with_reducible rfl)
        simp only [Act.put, List.setIfInBounds_toArray, List.set_cons_zero, List.set_cons_succ]
        refine wpAnyH_take (i := 8) (oi := { dst := some 50, op := Op.fieldAddr 121 (Operand.tmp 49) 0, type := 0, pos := "play.go:69", after := #[{ on := 7, ground := Ground.data }], guard := none }) (v := ?_) rfl (by kernel_rfl) (by kernel_rfl) (by kernel_rfl) (fun _ _ _ h => h) (Or.inl ⟨by rfl, ?_⟩) (by assumption) ?_
        rotate_left
        · (intro wz hSw; (try dsimp only at hSw); go_simp; try with_reducible rfl)
        simp only [Act.put, List.setIfInBounds_toArray, List.set_cons_zero, List.set_cons_succ]
        refine wpAnyH_ready (rs := [9]) (by kernel_rfl) (by simp) ?_
        refine AllReadyH.cons (o := { dst := some 51, op := Op.load 119 (Operand.tmp 50), type := 119, pos := "play.go:69", after := #[{ on := 8, ground := Ground.data }], guard := none }) rfl (fun K hK => ?_) ?_
        · go_simp
          refine hK.out _ _ ?_ (fun hHeld2 => ?_)
          · (try dsimp only); (first | with_reducible exact hs2 | with_reducible exact hs3 | go_keep)
          clear hK K
          try simp only [Act.put, List.setIfInBounds_toArray, List.set_cons_zero, List.set_cons_succ]
          refine wpAnyH_ready (rs := [10]) (by kernel_rfl) (by simp) ?_
          refine AllReadyH.cons (o := { dst := some 52, op := Op.call { callee := Callee.value (Operand.func 49), args := #[Operand.tmp 47, Operand.tmp 51], argTypes := #[110, 119] }, type := 119, pos := "play.go:69", after := #[{ on := 5, ground := Ground.data }, { on := 9, ground := Ground.data }], guard := none }) rfl (fun K hK => ?_) ?_
          · go_simp
            refine (hstep F2 _ (H3.out.kept (Keeps.drew None _)).ar).mono ?_
            rintro _ w5 ⟨rfl, hA5⟩
            obtain ⟨F5, h5⟩ := (H3.out.kept (Keeps.drew None _)).acc hA5
            have hs2 := h5.cs.1.1
            obtain ⟨⟨j0, j1, j2, j3, j4, j5, j6, j7, j8, j9, j10, j11, j12, j13⟩, ⟨f0, f1, f2, f3, f4, f5, f6, f7, f8, f9, f10, f11, f12, f13⟩⟩ := act_atD h5 HL.out.1 HS.out.2.2
            have h6 := h5.actpart (j := 0) HL.out.1 b HS.out.2.2 (OpS.mk x0 x1 x2 x3 x4 x5 x6 x7 x8 x9 x10 x11 x12).vals.toList (show 13 ≤ 14 by omega) ⟨⟨x0, x1, x2, x3, x4, x5, x6, x7, x8, x9, x10, x11, x12⟩, b.call⟩ rfl
            have hs3 := h6.cs.1.1
            simp only [setsFrom, OpS.vals, Nat.add_zero] at hs3
            have H6 : Hid _ := h6
            clear h5 h6 hA5
            refine hK.out _ _ ?_ (fun hHeld2 => ?_)
            · (try dsimp only); (first | with_reducible exact hs2 | with_reducible exact hs3 | go_keep)
            clear hK K
            try simp only [Act.put, List.setIfInBounds_toArray, List.set_cons_zero, List.set_cons_succ]
            refine wpAnyH_take (i := 11) (oi := { dst := some 53, op := Op.nilCheck (Operand.tmp 42), type := 0, pos := "play.go:69", after := #[{ on := 0, ground := Ground.data }, { on := 0, ground := Ground.phase }, { on := 1, ground := Ground.phase }, { on := 2, ground := Ground.phase }, { on := 3, ground := Ground.phase }, { on := 4, ground := Ground.phase }, { on := 5, ground := Ground.phase }, { on := 6, ground := Ground.phase }, { on := 7, ground := Ground.phase }, { on := 8, ground := Ground.phase }, { on := 9, ground := Ground.phase }, { on := 10, ground := Ground.phase }], guard := none }) (v := ?_) rfl (by kernel_rfl) (by kernel_rfl) (by kernel_rfl) (fun _ _ _ h => h) (Or.inl ⟨by rfl, ?_⟩) (by assumption) ?_
            rotate_left
            · (intro wz hSw; (try dsimp only at hSw); go_simp; try with_reducible rfl)
            simp only [Act.put, List.setIfInBounds_toArray, List.set_cons_zero, List.set_cons_succ]
            refine wpAnyH_take (i := 12) (oi := { dst := some 54, op := Op.fieldAddr 121 (Operand.tmp 53) 0, type := 0, pos := "play.go:69", after := #[{ on := 11, ground := Ground.data }, { on := 0, ground := Ground.phase }, { on := 1, ground := Ground.phase }, { on := 2, ground := Ground.phase }, { on := 3, ground := Ground.phase }, { on := 4, ground := Ground.phase }, { on := 5, ground := Ground.phase }, { on := 6, ground := Ground.phase }, { on := 7, ground := Ground.phase }, { on := 8, ground := Ground.phase }, { on := 9, ground := Ground.phase }, { on := 10, ground := Ground.phase }], guard := none }) (v := ?_) rfl (by kernel_rfl) (by kernel_rfl) (by kernel_rfl) (fun _ _ _ h => h) (Or.inl ⟨by rfl, ?_⟩) (by assumption) ?_
            rotate_left
            · (intro wz hSw; (try dsimp only at hSw); go_simp; try with_reducible rfl)
            simp only [Act.put, List.setIfInBounds_toArray, List.set_cons_zero, List.set_cons_succ]
            refine wpAnyH_ready (rs := [13]) (by kernel_rfl) (by simp) ?_
            refine AllReadyH.cons (o := { dst := none, op := Op.store 119 (Operand.tmp 54) (Operand.tmp 52), type := 0, pos := "play.go:69", after := #[{ on := 12, ground := Ground.data }, { on := 10, ground := Ground.data }, { on := 10, ground := Ground.chain }, { on := 0, ground := Ground.phase }, { on := 1, ground := Ground.phase }, { on := 2, ground := Ground.phase }, { on := 3, ground := Ground.phase }, { on := 4, ground := Ground.phase }, { on := 5, ground := Ground.phase }, { on := 6, ground := Ground.phase }, { on := 7, ground := Ground.phase }, { on := 8, ground := Ground.phase }, { on := 9, ground := Ground.phase }, { on := 10, ground := Ground.phase }], guard := none }) rfl (fun K hK => ?_) ?_
            · go_simp
              refine hK.out _ _ ?_ (fun hHeld2 => ?_)
              · (try dsimp only); (first | with_reducible exact hs2 | with_reducible exact hs3 | go_keep)
              clear hK K
              try simp only [Act.put, List.setIfInBounds_toArray, List.set_cons_zero, List.set_cons_succ]
              refine wpAnyH_done (by kernel_rfl) ?_ _
              go_wp2_with fail
              go_meet
              exact ⟨F5, H6.out⟩
            exact AllReadyH.nil
          exact AllReadyH.nil
        exact AllReadyH.nil
      case rest =>
        obtain ⟨F3, h4⟩ := hcut
        obtain ⟨we, hwe⟩ : ∃ we, we = wc := ⟨_, rfl⟩
        subst hwe
        clear c0 k0 k1 k2 k3 k4 k5 k6 k7 k8 k9 k10 k11 k12 k13 hstep H3
        have hl4 : (S1.acts.set who ⟨⟨x0, x1, x2, x3, x4, x5, x6, x7, x8, x9, x10, x11, x12⟩, b.call⟩).length = S.acts.length := by rw [List.length_set]; exact HL.out.1
        have HL4 : Hid _ := hl4
        obtain ⟨⟨k0, k1, k2, k3, k4, k5, k6, k7, k8, k9, k10, k11, k12, k13⟩, -⟩ := act_atD h4 hl4 HSET.out
        have H4 : Hid _ := h4
        clear h4 hl4
        go_upto_region 5 with fail
        go_cut [9, 10] (fun s9 s10 wx => s9 = .int .i64 q1 ∧ s10 = .int .i64 q2 ∧ IsDp w0 wx P p F3 ta1 tc1 (.slice (some ⟨g, 0, none⟩) S.acts.length c) vc1 { S1 with A := B, acts := S1.acts.set who ⟨⟨x0, x1, x2, x3, x4, x5, x6, x7, x8, x9, x10, x11, x12⟩, b.call⟩ })
        case first =>
          go_wp2_with fail
          refine (hans2 _).mono ?_
          rintro e w5 ⟨rfl, hk5⟩
          have h5 := H4.out.kept hk5
          have H5 : Hid _ := h5
          clear h5 hk5
          go_wp2_with fail
          go_meet
          exact ⟨rfl, rfl, H5.out⟩
        case rest =>
          obtain ⟨rfl, rfl, h6⟩ := hcut
          obtain ⟨wf, hwf⟩ : ∃ wf, wf = wc := ⟨_, rfl⟩
          subst hwf
          clear k0 k1 k2 k3 k4 k5 k6 k7 k8 k9 k10 k11 k12 k13 H4 hans2
          by_cases hq : q1 = 0
          · have bq : (q1 != 0) = false := by simpa using hq
            have HQ : Hid _ := hq
            have H6 : Hid _ := h6
            clear h6 hq
            go_wp2_with fail
            go_end0
            exact ⟨rfl, _, _, _, _, H6.out⟩
          · have bq : (q1 != 0) = true := by simpa using hq
            have HQ : Hid _ := hq
            obtain ⟨xc, cc, hvc⟩ := own_shape h6.ca
            subst hvc
            have hkl := HY.out.2.2
            obtain ⟨gc, hgc, hcc⟩ := rowAtD h6.ca (show 0 < S1.calls.length by omega)
            subst hgc
            have c5 := h6.cs.1.2.2.2.2.2
            have k13 := (act_atD h6 HL4.out HSET.out).1.2.2.2.2.2.2.2.2.2.2.2.2.2
            rw [show (⟨⟨x0, x1, x2, x3, x4, x5, x6, x7, x8, x9, x10, x11, x12⟩, b.call⟩ : Dac).call = (k : Int) from HY.out.2.1] at k13
            have e4 := hcc _ _ (rowVals_at Cal.vals_size _ k _ HY.out.1 4 _ rfl)
            have e5 := hcc _ _ (rowVals_at Cal.vals_size _ k _ HY.out.1 5 _ rfl)
            have e6 := hcc _ _ (rowVals_at Cal.vals_size _ k _ HY.out.1 6 _ rfl)
            have f4 := row_freeD h6.ca (k * 7 + 4)
            have f5 := row_freeD h6.ca (k * 7 + 5)
            have f6 := row_freeD h6.ca (k * 7 + 6)
            have h7 := fun nq => (h6.kept (keeps_drewN4 None wf nq)).calpart (j := 4) rfl y HY.out.1 [.int .i64 n, .int .i64 q1, .int .i64 q2] (show 7 ≤ 7 by omega) { y with en := n, code := q1, v := q2 } rfl
            have H7 : Hid _ := h7
            have i2 : (k : Int) < (S1.calls.length : Int) := by omega
            clear h7 h6 hcc hq
            go_upto_region 7 with fail
            go_quiet (fail)
            go_wp2_with fail
            go_end0
            exact ⟨rfl, _, _, _, _, H7.out _⟩
end Go.Proofs.Ytaeooljfilkaeaa
/-! What is left behind a play. -/
namespace Go.Proofs.Ytaeooljfilkaeaa
set_option linter.unusedVariables false
set_option maxRecDepth 20000
set_option linter.unusedSimpArgs false
open Go.RowKit Go.HeapKit Go.IntWalk Go.PlainOps

def restL (g : Gh) : List Int := (g.V.drop g.top).take (g.bot - g.top).toNat
theorem num_app (v : Value) (l : List Int) (x : Int) (g ty : Nat) (w : World) (h : w.ownsRow 0 2 1 v l.length (l.map (Value.int .i64))) (hlen : l.length < 1000000000)
    (hg : w.heap[g]? = some (.cells #[.int .i64 x] 2 (0, 0))) :
    ∃ b cap w', (Builtin.append_ #[29, 29] ty #[v, .slice (some ⟨g, 0, none⟩) 1 1]).run Try.prog w = .ok (.slice (some ⟨b, 0, none⟩) (l.length + 1) cap) w' ∧
      w'.ownsRow 0 2 1 (.slice (some ⟨b, 0, none⟩) (l.length + 1) cap) (l.length + 1) ((l ++ [x]).map (Value.int .i64)) ∧ w.grownBy w' v.ownBlock ∧ Moved w v (.slice (some ⟨b, 0, none⟩) (l.length + 1) cap) := by
  obtain ⟨i0, hi, hz0, hz1, hz2⟩ := info_parts Try.infoI64
  obtain ⟨v', w', hr, ho, hgr, hm, -⟩ := run_append_moved (P := Try.prog) w 0 29 ty 2 i0 _ 1 8 Try.underlying29 hi hz0 hz1 hz2 rfl (by decide) v l.length _ h
    ⟨g, 0, none⟩ 1 1 [.int .i64 x] rfl (by
      intro j y hy
      rw [show (⟨g, 0, none⟩ : Addr).add j = ⟨g, j, none⟩ by unfold Addr.add; split <;> simp_all, cell_of_block hg]
      simpa using hy) (by
      intro y hy
      simp at hy
      subst hy
      rfl) (by unfold maxLen; omega) (by omega) (Nat.zero_le _)
  rw [List.map_append, List.map_cons, List.map_nil]
  rcases ho.2 with ⟨_, h0⟩ | ⟨b, cap, cur, rfl, _⟩
  · omega
  · exact ⟨b, cap, w', hr, ho, hgr, hm⟩
theorem moved_offD {w : World} {v v' : Value} {k : Nat} (hm : Moved w v v') (hk : v'.ownBlock = some k) : v.ownBlock = some k ∨ w.heap.size ≤ k := by
  rcases hm with e | ⟨g, e, hg⟩
  · exact .inl (e ▸ hk)
  · rw [e] at hk; injection hk with hk; exact .inr (by omega)
set_option maxHeartbeats 4000000 in
set_option maxRecDepth 100000 in
theorem drest_any (w0 w : World) (P p : Nat) (F : Nat → Prop) (ta : Option Addr) (tc : Nat) (va vc : Value) (S : Dpl) (most size : Nat) (g : Gh) (h : IsDp w0 w P p F ta tc va vc S) (hD : DI most size S g) :
    Calls Try.prog 29 #[.pointer (some ⟨P, 0, none⟩)] w fun e w' => ∃ v, e = .returned v ∧ w'.ownsRow 0 2 1 v (restL g).length ((restL g).map (Value.int .i64)) ∧ Keeps None w w' ∧ ∀ k, v.ownBlock = some k → w.heap.size ≤ k := by
  obtain ⟨vq, vl, hA, -⟩ := h.ar
  have hcl := cells_any p vq vl S.A w hA
  obtain ⟨⟨c0, c1, c2, c3, c4, c5⟩, -⟩ := h.cs
  rw [hD.base0] at c1
  have hM := hD.mm
  have gc := hM.all g.cur hM.cin
  have hsz := hM.sz
  have hfit := gc.fit
  have hbv := hM.bv
  have htv := hM.tv
  have l3 := hM.l3
  have hc1 := gc.c1
  have hbig := hM.big
  have hz : ∀ (w1 : World), w1.heap[w.heap.size]? = some (.cells (S.A.cells.map (Value.int .i64)).toArray 2 (0, 0)) → ∀ (i : Nat), i < S.A.cells.length → w1.cell? ⟨w.heap.size, i, none⟩ = some (.int .i64 (S.A.val i)) := fun w1 h1 i hi => by
    rw [cell_of_block h1]
    simp [Ar.val, List.getD, hi]
  have HZ : Hid (∀ (w1 : World), w1.heap[w.heap.size]? = some (.cells (S.A.cells.map (Value.int .i64)).toArray 2 (0, 0)) → w1.cell? ⟨w.heap.size, 0, none⟩ = some (.int .i64 (g.top : Int)) ∧ w1.cell? ⟨w.heap.size, 1, none⟩ = some (.int .i64 g.bot) ∧ w1.cell? ⟨w.heap.size, 2, none⟩ = some (.int .i64 (g.cur.a : Int)) ∧ w1.cell? ⟨w.heap.size, g.cur.a, none⟩ = some (.int .i64 (g.cur.c : Int)) ∧ ∀ (i : Nat), g.top ≤ i → i < g.V.length → w1.cell? ⟨w.heap.size, g.cur.a + 1 + i % g.cur.c, none⟩ = some (.int .i64 (g.V.getD i 0))) := by
    intro w1 h1
    refine ⟨by rw [hz w1 h1 0 (by omega), hM.t], by rw [hz w1 h1 1 (by omega), hM.b], by rw [hz w1 h1 2 (by omega), hM.u], by rw [hz w1 h1 _ (by omega), gc.cap], fun i i1 i2 => ?_⟩
    have := Nat.mod_lt i (show 0 < g.cur.c by omega)
    rw [hz w1 h1 _ (by omega), gc.elem i i1 (by rw [hM.chi]; exact i2)]
  have hpl : ∀ i : Nat, placeV g.cur.a g.cur.c i = ((g.cur.a + 1 + i % g.cur.c : Nat) : Int) := fun i => place_nat g.cur.a g.cur.c i (by omega) hc1
  have HP : Hid _ := hpl
  have HB : Hid (g.cur.a + g.cur.c < S.A.cells.length ∧ 1 ≤ g.cur.c ∧ g.bot ≤ g.V.length ∧ g.top ≤ g.V.length ∧ g.V.length ≤ 1125899906842624 ∧ S.A.cells.length ≤ 1048576 ∧ g.V.length ≤ g.top + g.cur.c) := ⟨hfit, hc1, hbv, htv, hbig, hsz, hM.room⟩
  have i0 : (0 : Int) < (S.A.cells.length : Int) := by omega
  have i1 : (1 : Int) < (S.A.cells.length : Int) := by omega
  have i2 : (2 : Int) < (S.A.cells.length : Int) := by omega
  have i3 : (g.cur.a : Int) < (S.A.cells.length : Int) := by omega
  have hrl : ∀ j : Nat, (g.bot : Int) ≤ (g.top : Int) + j → (g.V.drop g.top).take j = restL g ∨ ¬ ((g.top : Int) + j ≤ g.bot ∨ j = 0) := fun j hj => by
    by_cases e : ((g.top : Int) + j ≤ g.bot ∨ j = 0)
    · left
      unfold restL
      rw [show (g.bot - (g.top : Int)).toNat = j by rcases e with e | e <;> omega]
    · exact .inr e
  have HR : Hid _ := hrl
  clear h hA hz hM gc hD hfit hbv htv l3 hc1 hbig hpl hrl hsz
  generalize hH : w.heap.size = H at hcl HZ
  have HH : Hid _ := hH
  clear hH
  have hbf : ∀ w, Calls Try.prog 45 #[.agg #[.int .i64 0, .int .i64 S.most]] w fun e w' => e = .returned (.int .i64 2) ∧ Keeps None w w' := buf_any 0 S.most (by omega)
  have htp : ∀ w, Calls Try.prog 51 #[.agg #[.int .i64 0, .int .i64 S.most]] w fun e w' => e = .returned (.int .i64 0) ∧ Keeps None w w' := by
    have := top_any 0 S.most
    rw [wr0] at this
    exact this
  have hbt : ∀ w, Calls Try.prog 52 #[.agg #[.int .i64 0, .int .i64 S.most]] w fun e w' => e = .returned (.int .i64 1) ∧ Keeps None w w' := by
    have := bottom_any 0 S.most
    rw [wr1] at this
    exact this
  have hpc := fun i : Int => place_any g.cur.a g.cur.c i (by have := HB.out; omega)
  have HP2 : Hid _ := hpc
  clear hpc
  go_enter Try.func29, Try.ntmps29
  go_wp2_with fail
  refine hcl.mono ?_
  rintro e w1 ⟨rfl, hb1, hk1⟩
  have HK : Hid _ := And.intro hb1 hk1
  have d1 := hk1.cell c1 (fun f => f)
  have d2 := hk1.cell c2 (fun f => f)
  have HC : Hid _ := And.intro d1 d2
  clear hb1 hk1 c0 c1 c2 c3 c4 c5 hcl
  go_wp2_with fail
  refine (hbf _).mono ?_
  rintro e w2 ⟨rfl, hk2⟩
  obtain ⟨z0, z1, z2, z3, -⟩ := HZ.out w2 (blkD HK.out.1 hk2 (fun f => f))
  have e1 := hk2.cell d1 (fun f => f)
  have e2 := hk2.cell d2 (fun f => f)
  have HK2 : Hid _ := hk2
  clear hk2 d1 d2 hbf
  go_wp2_with fail
  refine (htp _).mono ?_
  rintro e w3 ⟨rfl, hk3⟩
  clear z0 z1 z2 z3
  obtain ⟨z0, z1, z2, z3, -⟩ := HZ.out w3 (blkD (blkD HK.out.1 HK2.out (fun f => f)) hk3 (fun f => f))
  have HK3 : Hid _ := HK2.out.trans hk3 (fun _ f _ => f.elim)
  clear hk3 htp e1 e2 HK2
  go_wp2_with fail
  clear z0 z1 z2 z3
  go_loopw [5, 6] (fun s5 s6 wr => ∃ j x y : Nat, ∃ o : Option Addr, ((g.top : Int) + j ≤ g.bot ∨ j = 0) ∧ s5 = .slice o x y ∧ s6 = .int .i64 ((g.top + j : Nat) : Int) ∧ Keeps None w1 wr ∧ wr.ownsRow 0 2 1 (.slice o x y) j (((g.V.drop g.top).take j).map (Value.int .i64)) ∧ ∀ k, (Value.slice o x y).ownBlock = some k → w1.heap.size ≤ k) (fun _ s6 _ => (g.bot - intOf s6).toNat)
  case atStart => exact ⟨0, 0, 0, none, .inr rfl, rfl, by simp, HK3.out, World.ownsRow_nil _ _ _ _, fun j e => by simp [Value.ownBlock] at e⟩
  case round =>
    obtain ⟨j, x, y, o, hj, rfl, rfl, hkw, how, hlo⟩ := hrel
    obtain ⟨i, hi⟩ : ∃ i : Nat, i = g.top + j := ⟨_, rfl⟩
    rw [← hi]
    have d1 := hkw.cell HC.out.1 (fun f => f)
    have d2 := hkw.cell HC.out.2 (fun f => f)
    have HW : Hid _ := And.intro hkw (And.intro how (And.intro hlo (And.intro hj hi)))
    clear hkw how hlo hj hi
    go_wp2_with fail
    refine (hbt _).mono ?_
    rintro e w4 ⟨rfl, hk4⟩
    obtain ⟨z0, z1, z2, z3, z4⟩ := HZ.out w4 (blkD (blkD HK.out.1 HW.out.1 (fun f => f)) hk4 (fun f => f))
    have Z4 : Hid _ := z4
    have HK4 : Hid _ := hk4
    clear hk4 z4 d1 d2
    by_cases hlt : (i : Int) < g.bot
    · have hji := HW.out.2.2.2
      have hjl : ((g.V.drop g.top).take j).length = j := by rw [List.length_take, List.length_drop]; have := HB.out; have := hji.2; omega
      have z5 := Z4.out i (by have := hji.2; omega) (by have := HB.out; omega)
      have hp := HP.out i
      have hpc := HP2.out (i : Int)
      rw [hp] at hpc
      have hKL : ((g.cur.a + 1 + i % g.cur.c : Nat) : Int) < (S.A.cells.length : Int) := by have := HB.out; have := Nat.mod_lt i (show 0 < g.cur.c by omega); omega
      have htk : (g.V.drop g.top).take (j + 1) = (g.V.drop g.top).take j ++ [g.V.getD i 0] := by
        have hl2 : j < (g.V.drop g.top).length := by rw [List.length_drop]; have := HB.out; have := hji.2; omega
        rw [List.take_succ_eq_append_getElem hl2, List.getElem_drop, hji.2, List.getD_eq_getElem?_getD, List.getElem?_eq_getElem (by have := HB.out; have := hji.2; omega)]
        rfl
      have how4 := HK4.out.own HW.out.2.1 (fun _ _ f => f)
      generalize hu : g.V.getD i 0 = u at z5 htk
      generalize g.cur.a + 1 + i % g.cur.c = K at z5 hpc hKL
      have how5 : (w4.alloc (.cells #[.int .i64 u] 2)).ownsRow 0 2 1 (.slice o x y) ((g.V.drop g.top).take j).length (((g.V.drop g.top).take j).map (Value.int .i64)) := by
        rw [hjl]; exact (Keeps.alloc None w4 (.cells #[.int .i64 u] 2)).own how4 (fun _ _ f => f)
      obtain ⟨gn, cn, w5, hr, ho, hgr, hmv⟩ := num_app (.slice o x y) ((g.V.drop g.top).take j) u w4.heap.size 29 _ how5 (by rw [hjl]; have := HB.out; have := hji.1; omega) (new_at w4 _ _ rfl)
      rw [← htk] at ho
      rw [hjl] at hr ho hmv
      have HE : Hid (Keeps None w1 w5 ∧ w5.ownsRow 0 2 1 (.slice (some ⟨gn, 0, none⟩) (j + 1) cn) (j + 1) (((g.V.drop g.top).take (j + 1)).map (Value.int .i64)) ∧ ∀ k, (Value.slice (some ⟨gn, 0, none⟩) (j + 1) cn).ownBlock = some k → w1.heap.size ≤ k) := by
        have hs := HW.out.1.size
        have hs4 := HK4.out.size
        have hs0 := HK.out.2.size
        have hH := HH.out
        refine ⟨(((HW.out.1.trans HK4.out (fun _ f _ => f.elim)).andAlloc _).andGrown hgr (fun k e => .inr ?_)), ho, fun k e => ?_⟩
        · exact HW.out.2.2.1 k e
        · rcases moved_offD hmv e with e | e
          · exact HW.out.2.2.1 k e
          · simp at e; omega
      have j1 : (i : Int) < g.bot := hlt
      have j2 : (i : Int) ≤ 1125899906842624 := by have := HB.out; omega
      have HJ : Hid _ := And.intro hji hlt
      clear hjl htk how4 how5 ho hgr hmv hp hji hu
      go_wp2_with fail
      refine (hpc _).mono ?_
      rintro e w8 ⟨rfl, hw8⟩
      have hv8 := hw8.symm
      subst hv8
      clear hw8 hpc
      go_wp2_with (at_builtin; refine wpList_append_run rfl (.tmp 40) (.tmp 51) 29 29 rfl rfl rfl hr ?_)
      go_roundw
      case rel => exact ⟨j + 1, j + 1, cn, some ⟨gn, 0, none⟩, .inl (by have := HJ.out.1.2; have := HJ.out.2; omega), rfl, by have := HJ.out.1.2; go_num, HE.out⟩
      case measure => simp only [intOf]; have := HJ.out.2; omega
    · have j1 : ¬ (i : Int) < g.bot := hlt
      have HL : Hid _ := hlt
      clear hlt
      go_wp2_with fail
      go_ret
      have hji := HW.out.2.2.2
      have e1 : (g.V.drop g.top).take j = restL g := by
        rcases HR.out j (by have := HL.out; have := hji.2; omega) with e | e
        · exact e
        · exact absurd hji.1 e
      have e2 : (restL g).length = j := by
        rw [← e1, List.length_take, List.length_drop]
        have := HB.out
        have := hji.1
        omega
      have hs0 := HK.out.2.size
      have hH := HH.out
      refine ⟨_, rfl, ?_, (HK.out.2.trans HW.out.1 (fun _ f _ => f.elim)).trans HK4.out (fun _ f _ => f.elim), fun k e => ?_⟩
      · rw [e2, ← e1]
        exact HK4.out.own HW.out.2.1 (fun _ _ f => f)
      · have := HW.out.2.2.1 k e
        omega
end Go.Proofs.Ytaeooljfilkaeaa
/-! A pick of a play that stands; how a play begins. -/
namespace Go.Proofs.Ytaeooljfilkaeaa
set_option linter.unusedVariables false
set_option maxRecDepth 20000
set_option linter.unusedSimpArgs false
open Go.RowKit Go.HeapKit Go.IntWalk Go.PlainOps

set_option maxHeartbeats 8000000 in
set_option maxRecDepth 100000 in
theorem dpick_idle (w0 w : World) (P p : Nat) (F : Nat → Prop) (ta : Option Addr) (tc : Nat) (vc : Value) (S : Dpl) (g c n : Nat) (a : Dac) (h : IsDp w0 w P p F ta tc (.slice (some ⟨g, 0, none⟩) S.acts.length c) vc S) (ha : S.acts[0]? = some a) (hf : a.op.Fit) (hr : a.op.ans.1 ≠ 0) (ht : S.todos = []) :
    Calls Try.prog 27 #[.pointer (some ⟨P, 0, none⟩), .int .i64 n, .int .i64 0] w fun e w' => e = .returned (.tuple #[]) ∧ IsDp w0 w' P p F ta tc (.slice (some ⟨g, 0, none⟩) S.acts.length c) vc S := by
  have hwl := (List.getElem?_eq_some_iff.1 ha).1
  obtain ⟨⟨c0, c1, c2, c3, c4, c5⟩, -⟩ := h.cs
  have hkf := act_atD (i := 0) h rfl ha
  simp only [Nat.zero_mul, Nat.zero_add] at hkf
  obtain ⟨⟨k0, k1, k2, k3, k4, k5, k6, k7, k8, k9, k10, k11, k12, k13⟩, -⟩ := hkf
  have hans := answer_any a.op hf
  simp only [OpS.value, OpS.vals] at hans
  have i1 : (0 : Int) < (S.acts.length : Int) := by omega
  generalize ha1 : a.op.ans = ra at hans hr
  obtain ⟨r1, r2⟩ := ra
  simp only at hans hr
  have eb : (r1 != 0) = true := by simpa using hr
  have HS : Hid _ := And.intro h ht
  clear h ha hf ht ha1 hr hwl
  go_enter Try.func27, Try.ntmps27
  go_wp2_with fail
  refine (hans _).mono ?_
  rintro e w1 ⟨rfl, hk1⟩
  have h1 := HS.out.1.kept hk1
  have hbeg := dbegin_none w0 w1 P p F ta tc (.slice (some ⟨g, 0, none⟩) S.acts.length c) vc S g n 0 h1 HS.out.2
  have H1 : Hid _ := h1
  clear hk1 hans h1 c0 c1 c2 c3 c4 c5 k0 k1 k2 k3 k4 k5 k6 k7 k8 k9 k10 k11 k12 k13
  go_wp2_with fail
  refine hbeg.mono ?_
  rintro e w2 ⟨rfl, hk2⟩
  have H2 : Hid _ := H1.out.kept hk2
  clear hk2 hbeg
  go_wp2_with fail
  refine bodyPost_ret (v := .tuple #[]) (results_none rfl _ _ _) rfl ?_
  exact ⟨rfl, H2.out⟩
theorem dpick_ps {w0 w : World} {P p : Nat} {F : Nat → Prop} {ta : Option Addr} {tc : Nat} {vc : Value} {S : Dpl} {g0 c n who most size th : Nat} {g : Gh} (h : IsDp w0 w P p F ta tc (.slice (some ⟨g0, 0, none⟩) (1 + th) c) vc S) (hp : PS most size th S g n) (hw : who < 1 + th) (hn : n < 1048576) :
    Calls Try.prog 27 #[.pointer (some ⟨P, 0, none⟩), .int .i64 n, .int .i64 who] w fun e w' => e = .returned (.tuple #[]) ∧
      ∃ F' ta' tc' vc', IsDp w0 w' P p F' ta' tc' (.slice (some ⟨g0, 0, none⟩) (1 + th) c) vc' (S.pick n who) := by
  obtain ⟨g', hp', hs⟩ := hp.pick hw hn
  have hl := hp.len
  rw [← hl] at h ⊢
  have hm : 1 ≤ S.most ∧ S.most ≤ 4096 := by rw [hp.di.most0]; have := hp.m1; have := hp.m2; omega
  cases hs with
  | idle e1 e2 e3 e4 e5 =>
    subst e1
    rw [e4]
    obtain ⟨a, ha⟩ : ∃ a, S.acts[0]? = some a := ⟨_, List.getElem?_eq_getElem (by rw [hl]; exact hw)⟩
    refine (dpick_idle w0 w P p F ta tc vc S g0 c n a h ha (hp.di.fit ha) (fun e => e3 a ha ((rn_iff (hp.code 0 a ha)).1 e)) e2).mono ?_
    rintro e w' ⟨rfl, h'⟩
    exact ⟨rfl, F, ta, tc, vc, h'⟩
  | go S1 a b k o B ha hS1 hd hb hrb hst hk hkl hlen hA hS' hev =>
    have hof : o.Fit := by
      have := hp'.di.fit (i := who) (a := ⟨o, b.call⟩) ?_
      · exact this
      · rw [hS']
        have hgb : S1.acts.getD who Dac.zero = b := by rw [List.getD_eq_getElem?_getD, hb]; rfl
        obtain ⟨-, -, -, -, k5⟩ := Dpl.goes_keep S1 n who
        rw [k5, hgb, hst]
        exact List.getElem?_set_self (List.getElem?_eq_some_iff.1 hb).1
    rw [hS']
    exact dpick_any w0 w P p F ta tc vc S S1 g0 c n who k a b o B h ha (hp.di.fit ha) hm (by have := hp.cn; omega) (by
      rcases hS1 with ⟨e1, e2⟩ | ⟨e1, e2⟩
      · exact .inl ⟨(rn_iff (hp.code who a ha)).2 e1, e2⟩
      · exact .inr ⟨fun e => e1 ((rn_iff (hp.code who a ha)).1 e), e2⟩) hb (hd.fit hb) (by rw [hA]; have := hp.ln; omega) hst hof hk hkl hlen
/-- How a play begins. -/
def startA (size f : Nat) : Ar := { (Ar.new size).laid f with on := true }
def startS (size f most th : Nat) (ts : List Tod) : Dpl := ⟨startA size f, 0, most, ts, List.replicate (1 + th) Dac.zero, []⟩
def startG (f : Nat) : Gh := ⟨[], 0, 0, [⟨3, f, 0⟩], ⟨3, f, 0⟩, 0⟩
theorem ps_start (f most th : Nat) (ts : List Tod) (hf : 1 ≤ f) (hm : f ≤ most) (hm2 : most ≤ 4096) : PS most (cellsFrom most f (4 + f)) th (startS (cellsFrom most f (4 + f)) f most th ts) (startG f) 0 := by
  have hd := dq_start f most hf hm hm2
  have hsz := cellsFrom_le most f (4 + f) (by omega) hm
  have hle : cellsFrom most f (4 + f) ≤ 1048576 := by omega
  have hz : ∀ i a, (List.replicate (1 + th) Dac.zero)[i]? = some a → a = Dac.zero := fun i a h => by
    rw [List.getElem?_replicate] at h
    split at h
    · injection h with h; exact h.symm
    · cases h
  have zf : OpS.zero.Fit := ⟨.inl rfl, by simp [OpS.zero], by simp [OpS.zero]⟩
  clear hsz
  have hlog : (startA (cellsFrom most f (4 + f)) f).log = [] := hd.log
  have ht := hd.top; have hb := hd.bot; have hu := hd.buf; have hcap := hd.cap; have hfit := hd.fit; have hroom := hd.room
  have hsize : ((Ar.new (cellsFrom most f (4 + f))).laid f).size = cellsFrom most f (4 + f) := rfl
  rw [hsize] at hroom
  generalize cellsFrom most f (4 + f) = size at *
  have hlen : (startA size f).cells.length = ((Ar.new size).laid f).cells.length := rfl
  have hll : ((Ar.new size).laid f).cells.length ≤ 1048576 := Nat.le_trans (hroom ▸ le_cellsFrom _ _ _) hle
  refine ⟨⟨rfl, rfl, rfl, rfl, ⟨ht, hb, hu, ?_, fun x hx => ?_, by simp [startG], by simp [startG], rfl, Nat.le_refl _, by simp [startG], Nat.zero_le _, hll, hm2, by simp [startG]⟩, fun a ha => ?_, fun i a hi ha => ?_⟩, by simp [startS], fun i a ha => ?_, fun i a ha hr => ?_, Nat.zero_le _, ?_, Nat.zero_le _, by omega, hm2, hle⟩
  · show 3 ≤ ((Ar.new size).laid f).cells.length
    omega
  · obtain rfl : x = ⟨3, f, 0⟩ := by simpa [startG] using hx
    exact ⟨hcap, Nat.le_refl _, hfit, hf, hm, Nat.le_refl _, fun i h1 h2 => absurd h2 (Nat.not_lt_zero i)⟩
  · rw [hz 0 a ha]
    exact .idle (.inl rfl) zf rfl ⟨hroom⟩
  · rw [hz i a ha]
    exact ⟨.inl rfl, zf⟩
  · rw [hz i a ha]
    exact zero_code
  · rw [hz i a ha] at hr
    exact absurd rfl hr.1
  · show (startA size f).log.length ≤ 0
    rw [hlog]; exact Nat.le_refl _
end Go.Proofs.Ytaeooljfilkaeaa
/-! Who has been picked has begun. -/
namespace Go.Proofs.Ytaeooljfilkaeaa
set_option linter.unusedVariables false
set_option maxRecDepth 20000
set_option linter.unusedSimpArgs false
open Go.RowKit Go.HeapKit Go.IntWalk Go.PlainOps

/-- The actor a has begun a call with the pick i. -/
def Has (l : List Cal) (a i : Nat) : Prop := ∃ c ∈ l, c.who = a ∧ c.bg = i
theorem Has.set {l : List Cal} {a i k : Nat} {x y : Cal} (h : Has l a i) (hy : l[k]? = some y) (h1 : x.who = y.who) (h2 : x.bg = y.bg) : Has (l.set k x) a i := by
  obtain ⟨c, hc, e1, e2⟩ := h
  obtain ⟨j, hj, rfl⟩ := List.mem_iff_getElem.1 hc
  by_cases e : j = k
  · subst e
    have hyl := (List.getElem?_eq_some_iff.1 hy).2
    rw [hyl] at e1 e2
    exact ⟨x, List.mem_iff_getElem.2 ⟨j, by simpa using hj, by simp⟩, h1.trans e1, h2.trans e2⟩
  · exact ⟨l[j], List.mem_iff_getElem.2 ⟨j, by simpa using hj, by rw [List.getElem_set_ne (fun q => e q.symm)]⟩, e1, e2⟩
structure BG (th : Nat) (ts : List Tod) (S : Dpl) (ks : List Nat) : Prop where
  no : ∀ a, a < 1 + th → a ∉ ks → S.acts[a]? = some Dac.zero
  td : 0 ∉ ks → S.todos = ts
  yes : ∀ a, a < 1 + th → a ∈ ks → (a ≠ 0 ∨ ts ≠ []) → Has S.calls a (ks.idxOf a)
theorem BG.pick {most size th : Nat} {ts : List Tod} {S S' : Dpl} {g g' : Gh} {ks : List Nat} {who : Nat} (h : BG th ts S ks) (hw : who < 1 + th) (hs : PStep most size ks.length who S S' g g') : BG th ts S' (ks ++ [who]) := by
  have hidx : ∀ a, a ∈ ks → (ks ++ [who]).idxOf a = ks.idxOf a := fun a ha => by rw [List.idxOf_append, if_pos ha]
  cases hs with
  | idle e1 e2 e3 e4 e5 =>
    subst e4 e1
    refine ⟨fun a ha hn => h.no a ha (fun e => hn (by simp [e])), fun hn => absurd (by simp) hn, fun a ha hm hc => ?_⟩
    by_cases hk : a ∈ ks
    · rw [hidx a hk]; exact h.yes a ha hk hc
    · have h0 : a = 0 := by rcases List.mem_append.1 hm with hm | hm; exact absurd hm hk; simpa using hm
      subst h0
      rcases hc with hc | hc
      · exact absurd rfl hc
      · exact absurd ((h.td hk).symm.trans e2) hc
  | go S1 a0 b k o B ha0 hS1 hd hb hrb hst hk hkl hlen hA hS' hev =>
    obtain ⟨y, hy⟩ : ∃ y, S1.calls[k]? = some y := ⟨_, List.getElem?_eq_getElem hkl⟩
    have hc := goes_cal (n := ks.length) hb hst hk hy
    have hgb : S1.acts.getD who Dac.zero = b := by rw [List.getD_eq_getElem?_getD, hb]; rfl
    obtain ⟨-, -, k3, -, k5⟩ := Dpl.goes_keep S1 ks.length who
    have hwl := (List.getElem?_eq_some_iff.1 ha0).1
    -- of S1
    have h1 : (∀ a, a < 1 + th → a ∉ ks ++ [who] → S1.acts[a]? = some Dac.zero) ∧ (0 ∉ ks ++ [who] → S1.todos = ts) ∧ (∀ a, a < 1 + th → a ∈ ks ++ [who] → (a ≠ 0 ∨ ts ≠ []) → Has S1.calls a ((ks ++ [who]).idxOf a)) := by
      rcases hS1 with ⟨hr, rfl⟩ | ⟨hn, hbg⟩
      · have hin : who ∈ ks := Classical.byContradiction fun e => by
          have := h.no who hw e
          rw [this] at ha0
          injection ha0 with ha0
          exact hr.1 (by rw [← ha0]; rfl)
        refine ⟨fun a ha hn => h.no a ha (fun e => hn (by simp [e])), fun hn => h.td (fun e => hn (by simp [e])), fun a ha hm hc => ?_⟩
        have hka : a ∈ ks := by rcases List.mem_append.1 hm with hm | hm; exact hm; (have : a = who := by simpa using hm); exact this ▸ hin
        rw [hidx a hka]; exact h.yes a ha hka hc
      · obtain ⟨x, e1, e2, e3, -⟩ := begin_cal hbg
        obtain ⟨-, -, -, o', e7, -⟩ := Dpl.begin_keep hbg
        refine ⟨fun a ha hn => ?_, fun hn => ?_, fun a ha hm hc => ?_⟩
        · have hne : a ≠ who := fun e => hn (by simp [e])
          rw [e7, List.getElem?_set_ne (fun e => hne e.symm)]
          exact h.no a ha (fun e => hn (by simp [e]))
        · have hw0 : who ≠ 0 := fun e => hn (by simp [e])
          have : S1.todos = S.todos := by
            unfold Dpl.begin at hbg
            rw [if_pos hw0] at hbg
            injection hbg with hbg
            rw [← hbg]
          rw [this]
          exact h.td (fun e => hn (by simp [e]))
        · rw [e1]
          by_cases hka : a ∈ ks
          · rw [hidx a hka]
            obtain ⟨c, hc1, hc2⟩ := h.yes a ha hka hc
            exact ⟨c, List.mem_append_left _ hc1, hc2⟩
          · have haw : a = who := by rcases List.mem_append.1 hm with hm | hm; exact absurd hm hka; simpa using hm
            subst haw
            refine ⟨x, by simp, e2, ?_⟩
            rw [e3, List.idxOf_append, if_neg hka]
            simp
    obtain ⟨p1, p2, p3⟩ := h1
    rw [hS']
    refine ⟨fun a ha hn => ?_, fun hn => by rw [k3]; exact p2 hn, fun a ha hm hcc => ?_⟩
    · have hne : a ≠ who := fun e => hn (by simp [e])
      rw [k5, List.getElem?_set_ne (fun e => hne e.symm)]
      exact p1 a ha hn
    · have := p3 a ha hm hcc
      rw [hc]
      split
      · exact this
      · exact this.set hy rfl rfl
theorem BG.picks {most size th : Nat} {ts : List Tod} {S : Dpl} {g : Gh} {ks : List Nat} (h : BG th ts S ks) (hp : PS most size th S g ks.length) (l : List Nat) (hk : ∀ k ∈ l, k < 1 + th) (hn : ks.length + l.length ≤ 1048576) : BG th ts (S.picks ks.length l) (ks ++ l) := by
  induction l generalizing S g ks with
  | nil => simpa [Dpl.picks] using h
  | cons k l ih =>
    rw [List.length_cons] at hn
    obtain ⟨g', hp', hs⟩ := hp.pick (hk k (by simp)) (by omega)
    have h' := h.pick (hk k (by simp)) hs
    have hl : (ks ++ [k]).length = ks.length + 1 := by simp
    rw [← hl] at hp'
    have := ih h' hp' (fun x hx => hk x (by simp [hx])) (by rw [hl]; omega)
    rw [hl, List.append_assoc] at this
    exact this
theorem idx_le {a : Nat} : ∀ {l : List Nat} {i : Nat}, l[i]? = some a → l.idxOf a ≤ i
  | [], i, h => by simp at h
  | b :: l, 0, h => by simp at h; subst h; simp
  | b :: l, i + 1, h => by
    have := idx_le (l := l) (i := i) (by simpa using h)
    rw [List.idxOf_cons]
    cases b == a <;> simp
    omega
theorem tc_start (size f most th : Nat) (ts : List Tod) : TC th (startS size f most th ts) 0 :=
  ⟨fun i a k c ha hr hk hc => by simp [startS] at hc, fun c hc => by simp [startS] at hc, fun c hc => by simp [startS] at hc, fun c hc => by simp [startS] at hc⟩
theorem bg_start (size f most th : Nat) (ts : List Tod) : BG th ts (startS size f most th ts) [] :=
  ⟨fun a ha _ => by show (List.replicate (1 + th) Dac.zero)[a]? = _; rw [List.getElem?_replicate, if_pos ha], fun _ => rfl, fun a ha hm => by simp at hm⟩
/-- Of a play from its start: who was picked has begun with its first pick. -/
theorem begun_all {f most th : Nat} {ts : List Tod} (hf : 1 ≤ f) (hm : f ≤ most) (hm2 : most ≤ 4096) (ks : List Nat) (hk : ∀ k ∈ ks, k < 1 + th) (hn : ks.length ≤ 1048576) (a i : Nat) (ha : a ≠ 0 ∨ ts ≠ []) (hi : ks[i]? = some a) (hj : ∀ j, j < i → ks[j]? ≠ some a) :
    Has ((startS (cellsFrom most f (4 + f)) f most th ts).picks 0 ks).calls a i := by
  have h := (bg_start (cellsFrom most f (4 + f)) f most th ts).picks (ks := []) (ps_start f most th ts hf hm hm2) ks hk (by simpa using hn)
  rw [List.nil_append] at h
  have hmem := List.mem_of_getElem? hi
  have h2 := h.yes a (hk a hmem) hmem ha
  have hlt := List.idxOf_lt_length_of_mem hmem
  have hix : ks.idxOf a = i := by
    have e1 : ks[ks.idxOf a]? = some a := by rw [List.getElem?_eq_getElem hlt, List.getElem_idxOf]
    have hil := (List.getElem?_eq_some_iff.1 hi).1
    rcases Nat.lt_trichotomy (ks.idxOf a) i with h | h | h
    · exact absurd e1 (hj _ h)
    · exact h
    · have := idx_le hi; omega
  rw [hix] at h2
  exact h2
end Go.Proofs.Ytaeooljfilkaeaa
/-! playFault, where nothing is wrong. -/
namespace Go.Proofs.Ytaeooljfilkaeaa
set_option linter.unusedVariables false
set_option maxRecDepth 20000
set_option linter.unusedSimpArgs false
open Go.RowKit Go.HeapKit Go.IntWalk Go.PlainOps

def TKinds (ts : List Tod) : Prop := ∀ t ∈ ts, t.kind = 0 ∨ t.kind = 1
set_option maxHeartbeats 4000000 in
set_option maxRecDepth 100000 in
theorem dfault_ok (f m th : Nat) (ta pa : Option Addr) (ts : List Tod) (tc np pc : Nat) (w : World) (hc : CapOK f m) (hth : th ≤ 3) (hts : ts.length ≤ 4096) (hnp : np ≤ 1048576) (hk : TKinds ts) (htd : TodoAt w ta ts) :
    Calls Try.prog 22 #[.int .i64 f, .int .i64 m, .slice ta ts.length tc, .int .i64 th, .slice pa np pc] w fun e w' => e = .returned (.int .i64 0) ∧ Keeps None w w' := by
  have hcf := capsFit_ok f m w hc
  have i1 : ¬ (4096 : Int) < (ts.length : Int) := by omega
  have i2 : ¬ (1048576 : Int) < (np : Int) := by omega
  have i3 : ¬ (th : Int) < 0 := by omega
  have i4 : ¬ (3 : Int) < (th : Int) := by omega
  have HT : Hid _ := And.intro htd hk
  clear htd hk hc
  go_enter Try.func22, Try.ntmps22
  go_wp2_with fail
  refine hcf.mono ?_
  rintro e w1 ⟨rfl, hw⟩
  have hw2 := hw.symm
  subst hw2
  clear hw hcf
  go_wp2_with fail
  go_loopw [36] (fun s36 wr => ∃ k : Nat, k ≤ ts.length ∧ s36 = .int .i64 k ∧ Keeps None w wr) (fun s36 _ => ts.length - (intOf s36).toNat)
  case atStart => exact ⟨0, Nat.zero_le _, rfl, Keeps.refl _ _⟩
  case round =>
    obtain ⟨k, hk, rfl, hkw⟩ := hrel
    by_cases hlt : k < ts.length
    · obtain ⟨b, off, rfl, hb, hcs⟩ := HT.out.1 (by omega)
      obtain ⟨t, ht⟩ : ∃ t, ts[k]? = some t := ⟨_, List.getElem?_eq_getElem hlt⟩
      obtain ⟨c0, c1⟩ := hcs k t ht
      have d0 := hkw.cell c0 (fun f => f)
      have d1 := hkw.cell c1 (fun f => f)
      have hkind := HT.out.2 t (List.mem_of_getElem? ht)
      obtain ⟨tk, tv⟩ := t
      simp only at d0 d1 hkind
      have j1 : (k : Int) < (ts.length : Int) := by omega
      have HW : Hid _ := hkw
      have HLT : Hid _ := hlt
      clear hcs c0 c1 hkw ht hlt hb
      rcases hkind with e | e
      · subst e
        go_wp2_with fail
        go_roundw
        case rel => exact ⟨k + 1, HLT.out, by go_num, HW.out.andAlloc _⟩
        case measure => simp only [intOf]; have := HLT.out; omega
      · subst e
        go_wp2_with fail
        go_roundw
        case rel => exact ⟨k + 1, HLT.out, by go_num, HW.out.andAlloc _⟩
        case measure => simp only [intOf]; have := HLT.out; omega
    · have j1 : ¬ (k : Int) < (ts.length : Int) := by omega
      have HW : Hid _ := hkw
      clear hkw hlt
      go_wp2_with fail
      go_ret
      exact ⟨rfl, HW.out⟩
end Go.Proofs.Ytaeooljfilkaeaa
/-! Play, walked. -/
namespace Go.Proofs.Ytaeooljfilkaeaa
set_option linter.unusedVariables false
set_option maxRecDepth 20000
set_option linter.unusedSimpArgs false
open Go.RowKit Go.HeapKit Go.IntWalk Go.PlainOps

theorem Try.infoAct : (Try.prog.info? 121).map (fun i => (i.zero, i.size, i.bytes)) = some (some (.agg #[.int .i64 0, .int .i64 0, .int .i64 0, .int .i64 0, .int .i64 0, .int .i64 0, .int .i64 0, .int .i64 0, .int .i64 0, .int .i64 0, .int .i64 0, .int .i64 0, .int .i64 0, .int .i64 0]), 14, 112) := by kernel_rfl
theorem acts_zero (n : Nat) : rowVals Dac.vals (List.replicate n Dac.zero) = List.replicate (n * 14) (.int .i64 0) := by
  induction n with
  | zero => rfl
  | succ n ih =>
    rw [List.replicate_succ]
    show Dac.zero.vals.toList ++ rowVals Dac.vals (List.replicate n Dac.zero) = _
    rw [ih]
    show List.replicate 14 (Value.int .i64 0) ++ List.replicate (n * 14) (Value.int .i64 0) = _
    rw [List.replicate_append_replicate]
    congr 1
    omega
theorem made_acts (n : Nat) : madeCells (Value.agg #[.int .i64 0, .int .i64 0, .int .i64 0, .int .i64 0, .int .i64 0, .int .i64 0, .int .i64 0, .int .i64 0, .int .i64 0, .int .i64 0, .int .i64 0, .int .i64 0, .int .i64 0, .int .i64 0]).cells (n * 14) = (rowVals Dac.vals (List.replicate n Dac.zero)).toArray := by
  rw [acts_zero]
  apply Array.ext
  · simp [madeCells]
  · intro i h1 h2
    have h10 : (Value.agg #[.int .i64 0, .int .i64 0, .int .i64 0, .int .i64 0, .int .i64 0, .int .i64 0, .int .i64 0, .int .i64 0, .int .i64 0, .int .i64 0, .int .i64 0, .int .i64 0, .int .i64 0, .int .i64 0]).cells = #[.int .i64 0, .int .i64 0, .int .i64 0, .int .i64 0, .int .i64 0, .int .i64 0, .int .i64 0, .int .i64 0, .int .i64 0, .int .i64 0, .int .i64 0, .int .i64 0, .int .i64 0, .int .i64 0] := rfl
    simp only [h10]
    simp only [madeCells, Array.getElem_map, Array.getElem_range, List.getElem_toArray, List.getElem_replicate]
    have hlt : i % 14 < 14 := Nat.mod_lt _ (by omega)
    show #[Value.int .i64 0, .int .i64 0, .int .i64 0, .int .i64 0, .int .i64 0, .int .i64 0, .int .i64 0, .int .i64 0, .int .i64 0, .int .i64 0, .int .i64 0, .int .i64 0, .int .i64 0, .int .i64 0][i % 14]! = _
    generalize i % 14 = q at hlt
    match q, hlt with
    | 0, _ => rfl
    | 1, _ => rfl
    | 2, _ => rfl
    | 3, _ => rfl
    | 4, _ => rfl
    | 5, _ => rfl
    | 6, _ => rfl
    | 7, _ => rfl
    | 8, _ => rfl
    | 9, _ => rfl
    | 10, _ => rfl
    | 11, _ => rfl
    | 12, _ => rfl
    | 13, _ => rfl
theorem step_make_runD {P : Program} {w : World} {ops : Array Oper} {o : Oper} {a : Act} {K : Act → World → Prop} {Q : Exit → Act → World → Prop} {E : Prop}
    (hg : o.guard = none) (l c : Operand) (t : TypeId) (hop : o.op = Op.makeSlice t l c)
    {vl vc v' : Value} {w' : World} (hl : a.eval l = vl) (hc : a.eval c = vc)
    (hr : (Instr.makeSlice t vl vc).run P w = .ok v' w') (hK : K (a.put o.dst v') w') :
    if Region.wanted o (yielded ops a.tmps) = true then Oper.wp P o a w K Q else E := by
  have hw : Region.wanted o (yielded ops a.tmps) = true := by simp [Region.wanted, hg]
  rw [if_pos hw]
  unfold Oper.wp
  simp [execOp, hop, hl, hc, hr, Result.andThen]
  exact hK
theorem acts_make (n : Nat) (w : World) (hn : n ≤ 100) : (Instr.makeSlice 66 (.int .i64 n) (.int .i64 n)).run Try.prog w = .ok (.slice (some ⟨w.heap.size, 0, none⟩) n n) (w.alloc (.cells (rowVals Dac.vals (List.replicate n Dac.zero)).toArray 121)) := by
  obtain ⟨i0, hi, hz0, hz1, hz2⟩ := info_parts Try.infoAct
  obtain ⟨M, hM, _, hr⟩ := run_make_block (P := Try.prog) (w := w) 66 121 i0 _ 14 112 Try.underlying66 hi hz0 hz1 hz2 n (by omega) (by omega)
  rw [hr, hM, made_acts]
/-- What a play hands out. -/
structure DRun (w w' : World) (va vr vl : Value) (S : Dpl) (R : List Int) : Prop where
  ca : w'.ownsRow 0 45 7 va S.calls.length (rowVals Cal.vals S.calls)
  re : w'.ownsRow 0 2 1 vr R.length (R.map (Value.int .i64))
  lo : ∃ g, vl = .slice (some ⟨g, 0, none⟩) S.A.log.length S.A.log.length ∧ w'.heap[g]? = some (.cells (logVals S.A.log).toArray 166 (0, 0)) ∧ w.heap.size ≤ g
  kp : Keeps None w w'
  nc : ∀ k, va.ownBlock = some k → w.heap.size ≤ k
  nr : ∀ k, vr.ownBlock = some k → w.heap.size ≤ k
theorem darf_log (p : Nat) (F : Nat → Prop) (A : Ar) (w : World) (h : ArF w p F A) (hlog : A.log.length ≤ 1000000000000) :
    Calls Try.prog 30 #[.pointer (some ⟨p, 0, none⟩)] w fun e w' => ∃ g, e = .returned (.slice (some ⟨g, 0, none⟩) A.log.length A.log.length) ∧ w.heap.size ≤ g ∧ w'.heap[g]? = some (.cells (logVals A.log).toArray 166 (0, 0)) ∧ Keeps None w w' := by
  obtain ⟨vc, vl, h, rfl⟩ := h
  refine (log_any p vc vl A w h hlog).mono ?_
  rintro e w' ⟨rfl, h2, h3⟩
  exact ⟨_, rfl, Nat.le_refl _, h2, h3⟩
/-- The end of Play. -/
theorem drun_end {Q : Ending → World → Prop} {a : Act} {w1 : World} {g : Nat} {c : Array Value} {t : TypeId} {fn : Func} (hfn : fn.results = #[.cell 10 32, .tmp 11]) (hc : c.size = 3) (hb : w1.heap[g]? = some (.cells c t (0, 0)))
    (ha : a.tmps.getD 10 undef = .pointer (some ⟨g, 0, none⟩)) (hd : a.defers = []) (v0 v1 v2 : Value)
    (hQ : ∀ w', Keeps (· = g) w1 w' → Q (.returned (.tuple #[.agg #[v0, v1, v2], a.tmps.getD 11 undef])) w') :
    bodyPost Try.prog fn Q .ret a (((w1.setCell ⟨g, 0, none⟩ v0).setCell ⟨g, 1, none⟩ v1).setCell ⟨g, 2, none⟩ v2) := by
  obtain ⟨c', h1, h2⟩ := setsFrom_block g t [v0, v1, v2] 0 w1 c hb (by simp [hc])
  have h3 : c' = #[v0, v1, v2] := by
    apply Array.toList_inj.1
    rw [h2, List.drop_of_length_le (by simp [hc])]
    rfl
  rw [h3] at h1
  have hk := setsFrom_keeps g [v0, v1, v2] 0 w1
  have hl := run_loadVar_row (P := Try.prog) _ g t 32 _ _ _ h1 Try.underlying32 rfl (by kernel_rfl)
  have ha' : a.tmps[10]?.getD undef = .pointer (some ⟨g, 0, none⟩) := by simpa using ha
  refine bodyPost_ret (v := .tuple #[.agg #[v0, v1, v2], a.tmps.getD 11 undef]) ?_ hd (hQ _ hk)
  simp only [setsFrom] at hl
  simp [results, hfn, asAddr, ha', hl, Result.andThen]
end Go.Proofs.Ytaeooljfilkaeaa
