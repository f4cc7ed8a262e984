import Derived.Test.YtlligclkoecknaaFrMemP
/-! How the parent goes on: nextFork, nextFetch, taken. -/
namespace Go.Proofs.Ytlligclkoecknaa
open Go.RowKit Go.HeapKit Go.IntWalk

section
variable {w0 w : World} {P p : Nat} {F : Nat → Prop} {ao : Option Addr} {cap : Nat} {va vh vd : Value} {rs : List Value} {S : Pl}
/-- Behind a store into the block for the result. -/
theorem IsPlay.res {wx wy : World} {g : Nat} (h : IsPlay w0 wx P p F ao cap va vh vd rs S) (hk : Keeps (· = g) wx wy) (hg : ∀ k, F k ∨ GPl P va vh vd rs k → k ≠ g) (hw : w0.heap.size ≤ g) : IsPlay w0 wy P p F ao cap va vh vd rs S :=
  ⟨(hk.block P h.lt (fun e => hg P (.inr (.inl rfl)) e)).trans h.blk, h.ar.kept hk (fun k f e => hg k (.inl f) e), hk.own h.al (fun k e e2 => hg k (.inr (.inr (.inl e))) e2), hk.own h.ho (fun k e e2 => hg k (.inr (.inr (.inr (.inl e)))) e2), hk.own h.re (fun k e e2 => hg k (.inr (.inr (.inr (.inr (.inl e))))) e2), h.rl, fun i hi => hk.own (h.row i hi) (fun k e e2 => hg k (.inr (.inr (.inr (.inr (.inr ⟨i, by rw [h.rl]; exact hi, e⟩))))) e2), h.apart, h.off, h.kp.trans hk (fun i e hi => by omega), h.lo, h.ro⟩
theorem IsPlay.low (h : IsPlay w0 w P p F ao cap va vh vd rs S) : ∀ k, F k ∨ GPl P va vh vd rs k → k ≠ w.heap.size := fun k f e => by
  rcases f with f | f
  · have := h.ar.lt f; omega
  · have := h.glt f; omega
end
theorem keepsP {w wx wy : World} {P : Nat} (h : Keeps None w wx) (hk : Keeps (· = w.heap.size) wx wy) : Keeps (· = P) w wy := Keeps.trans (S := (· = P)) (h.mono (fun _ f _ => f.elim)) hk (fun i e hi => by omega)
def zero8V : Array Value := #[.int .i64 0, .int .i64 0, .int .i64 0, .int .i64 0, .int .i64 0, .int .i64 0, .int .i64 0, .int .i64 0]
set_option maxHeartbeats 2000000 in
theorem nextFork_end (w0 w : World) (P p : Nat) (F : Nat → Prop) (ao : Option Addr) (cap : Nat) (va vh vd : Value) (rs : List Value) (S : Pl) (h : IsPlay w0 w P p F ao cap va vh vd rs S) (hr : S.round = S.rounds.length) :
    Calls Try.prog 51 #[.pointer (some ⟨P, 0, none⟩)] w fun e w' => e = .returned OpF.zero.value ∧ IsPlay w0 w' P p F ao cap va vh vd rs { S with done := true } ∧ Keeps (· = P) w w' := by
  have h1 := h.kept (Keeps.alloc None w (.cells #[.int .i64 0, .int .i64 0, .int .i64 0, .int .i64 0, .int .i64 0, .int .i64 0, .int .i64 0, .int .i64 0] 39))
  have c6 := h1.c6
  have c3 := h1.c3
  rw [hr] at c6
  generalize hL : S.rounds.length = L at c6 c3
  have HH : Hid _ := h1
  have HL : Hid _ := h.low
  have hw0 := h.kp.size
  clear h h1 hr hL
  simp only [OpF.value, OpF.vals, OpF.zero]
  go_enter Try.func51, Try.ntmps51
  go_upto_region 1 with fail
  go_cut [3] (fun s3 wx => s3 = .bool true ∧ IsPlay w0 wx P p F ao cap va vh vd rs S ∧ wx.heap[w.heap.size]? = some (.cells #[.int .i64 0, .int .i64 0, .int .i64 0, .int .i64 0, .int .i64 0, .int .i64 0, .int .i64 0, .int .i64 0] 39 (0, 0)) ∧ Keeps None w wx)
  case first =>
    go_quiet (fail)
    all_goals (go_wp2_with fail; go_meet)
    all_goals exact ⟨rfl, HH.out.kept (Keeps.drewM None _ _), ((Keeps.drewM None _ _).block _ (by simp) (fun f => f)).trans (new_at w _ _ rfl), (Keeps.alloc None w _).trans (Keeps.drewM None _ _) (fun _ f _ => f)⟩
  case rest =>
    obtain ⟨rfl, h2, hb2, hk2⟩ := hcut
    have c9 := h2.c9
    have f9 := h2.free 9
    have h3 := h2.set 9 (.bool true) { S with done := true } rfl rfl rfl rfl rfl rfl
    have hne : w.heap.size ≠ P := fun e => (HL.out P (.inr (.inl rfl))) e.symm
    have hb3 : (wc.setCell ⟨P, 9, none⟩ (.bool true)).heap[w.heap.size]? = some (.cells #[.int .i64 0, .int .i64 0, .int .i64 0, .int .i64 0, .int .i64 0, .int .i64 0, .int .i64 0, .int .i64 0] 39 (0, 0)) := ((Keeps.setCell (S := (· = P)) wc (a := ⟨P, 9, none⟩) rfl _).block _ (Array.getElem?_eq_some_iff.1 hb2).1 hne).trans hb2
    obtain ⟨r0, r1, r2, r3, r4, r5, r6, r7⟩ := zero8 hb3
    obtain ⟨s0, s1, s2, s3, s4, s5, s6, s7⟩ := free8 hb3
    have H3 : Hid _ := And.intro h3 (And.intro hb3 (Keeps.trans (S := (· = P)) (hk2.mono (fun _ f _ => f.elim)) (Keeps.setCell (S := (· = P)) wc (a := ⟨P, 9, none⟩) rfl (.bool true)) (fun _ f _ => f)))
    clear h2 h3 hb2 hb3 hk2 c3 c6
    go_wp2_with fail
    exact opf_end1 2 rfl rfl H3.out.2.1 rfl rfl _ _ _ _ _ _ _ _ (fun w' hk => ⟨rfl, H3.out.1.res hk HL.out hw0, H3.out.2.2.trans hk (fun i e hi => by omega)⟩)
set_option maxHeartbeats 2000000 in
theorem nextFork_on (w0 w : World) (P p : Nat) (F : Nat → Prop) (ao : Option Addr) (cap : Nat) (va vh vd : Value) (rs : List Value) (S : Pl) (h : IsPlay w0 w P p F ao cap va vh vd rs S) (hr : S.round < S.rounds.length) (hsm : S.rounds.length ≤ 64) :
    Calls Try.prog 51 #[.pointer (some ⟨P, 0, none⟩)] w fun e w' => e = .returned (if (S.forked : Int) < S.rounds.getD S.round 0 then OpF.beg 0 0 S.frames 0 0 0 else OpF.beg 3 0 S.frames 0 0 0).value ∧ IsPlay w0 w' P p F ao cap va vh vd rs S ∧ Keeps (· = P) w w' := by
  have h1 := h.kept (Keeps.alloc None w (.cells #[.int .i64 0, .int .i64 0, .int .i64 0, .int .i64 0, .int .i64 0, .int .i64 0, .int .i64 0, .int .i64 0] 39))
  obtain ⟨b, off, hao, cr⟩ := h1.round_cell S.round hr
  have c6 := h1.c6
  have c3 := h1.c3
  have HH : Hid _ := h1
  have HL : Hid _ := h.low
  have hw0 := h.kp.size
  have hal := newAlloc_any 0 S.frames
  have hsy := newSync_any 0 S.frames 0
  have i1 : (S.round : Int) < (S.rounds.length : Int) := by omega
  have i2 : ¬ (S.round : Int) = (S.rounds.length : Int) := by omega
  have i3 : (S.rounds.length : Int) ≤ 64 := by omega
  have i4 : ((S.round : Int) == (S.rounds.length : Int)) = false := by simpa using i2
  have FR : Hid (∀ (wx : World), IsPlay w0 wx P p F ao cap va vh vd rs S → wx.cell? ⟨P, 6, none⟩ = some (.int .i64 S.round) ∧ wx.cell? ⟨P, 3, none⟩ = some (.slice ao S.rounds.length cap) ∧ wx.cell? ⟨P, 7, none⟩ = some (.int .i64 S.forked) ∧ wx.cell? ⟨P, 1, none⟩ = some (.int .i64 0) ∧ wx.cell? ⟨P, 2, none⟩ = some (.int .i64 S.frames) ∧ wx.cell? ⟨b, off + S.round, none⟩ = some (.int .i64 (S.rounds.getD S.round 0))) := by
    intro wx hx
    obtain ⟨b', off', e', cr'⟩ := hx.round_cell S.round hr
    rw [hao] at e'
    injection e' with e'
    injection e' with e1 e2
    subst e1 e2
    exact ⟨hx.c6, hx.c3, hx.c7, hx.c1, hx.c2, cr'⟩
  clear cr
  generalize S.rounds.getD S.round 0 = x at FR ⊢
  by_cases hx : (S.forked : Int) < x
  · rw [if_pos hx]
    generalize OpF.beg 0 0 S.frames 0 0 0 = o at hal ⊢
    obtain ⟨m0, m1, m2, m3, m4, m5, m6, m7⟩ := o
    simp only [OpF.value, OpF.vals] at hal ⊢
    clear h h1 hsy
    subst hao
    go_enter Try.func51, Try.ntmps51
    go_upto_region 1 with fail
    go_cut [3] (fun s3 wx => s3 = .bool false ∧ IsPlay w0 wx P p F (some ⟨b, off, none⟩) cap va vh vd rs S ∧ wx.heap[w.heap.size]? = some (.cells #[.int .i64 0, .int .i64 0, .int .i64 0, .int .i64 0, .int .i64 0, .int .i64 0, .int .i64 0, .int .i64 0] 39 (0, 0)) ∧ Keeps None w wx)
    case first =>
      go_quiet (fail)
      all_goals (go_wp2_with fail; go_meet)
      all_goals exact ⟨rfl, HH.out.kept (Keeps.drewM None _ _), ((Keeps.drewM None _ _).block _ (by simp) (fun f => f)).trans (new_at w _ _ rfl), (Keeps.alloc None w _).trans (Keeps.drewM None _ _) (fun _ f _ => f)⟩
    case rest =>
      obtain ⟨rfl, h2, hb2, hk2⟩ := hcut
      obtain ⟨wb, hwb⟩ : ∃ wb, wb = wc := ⟨_, rfl⟩
      subst hwb
      clear c3 c6
      obtain ⟨d6, d3, d7, d1, d2, dr⟩ := FR.out _ h2
      have H2 : Hid _ := And.intro h2 (And.intro hb2 hk2)
      clear h2 hb2 hk2
      go_upto_region 4 with fail
      go_cut [18] (fun s18 wx => s18 = .bool true ∧ IsPlay w0 wx P p F (some ⟨b, off, none⟩) cap va vh vd rs S ∧ wx.heap[w.heap.size]? = some (.cells #[.int .i64 0, .int .i64 0, .int .i64 0, .int .i64 0, .int .i64 0, .int .i64 0, .int .i64 0, .int .i64 0] 39 (0, 0)) ∧ Keeps None w wx)
      case first =>
        go_quiet (fail)
        all_goals (go_wp2_with fail; go_meet)
        all_goals exact ⟨rfl, H2.out.1.kept (Keeps.drewM None _ _), ((Keeps.drewM None _ _).block _ (Array.getElem?_eq_some_iff.1 H2.out.2.1).1 (fun f => f)).trans H2.out.2.1, H2.out.2.2.trans (Keeps.drewM None _ _) (fun _ f _ => f)⟩
      case rest =>
        obtain ⟨rfl, h4, hb4, hk4⟩ := hcut
        clear d6 d3 d7 d1 d2 dr
        obtain ⟨d6, d3, d7, d1, d2, dr⟩ := FR.out _ h4
        have H4 : Hid _ := And.intro h4 (And.intro hb4 hk4)
        clear h4 hb4 hk4 H2
        go_wp2_with fail
        refine (hal _).mono ?_
        rintro e w5 ⟨rfl, hk5⟩
        have hb5 := (hk5.block _ (Array.getElem?_eq_some_iff.1 H4.out.2.1).1 (fun f => f)).trans H4.out.2.1
        obtain ⟨r0, r1, r2, r3, r4, r5, r6, r7⟩ := zero8 hb5
        obtain ⟨s0, s1, s2, s3, s4, s5, s6, s7⟩ := free8 hb5
        have H5 : Hid _ := And.intro (H4.out.1.kept hk5) (And.intro hb5 (H4.out.2.2.trans hk5 (fun _ f _ => f)))
        clear hk5 hb5 H4 d6 d3 d7 d1 d2 dr
        go_wp2_with fail
        exact opf_end1 2 rfl rfl H5.out.2.1 rfl rfl _ _ _ _ _ _ _ _ (fun w' hk => ⟨rfl, H5.out.1.res hk HL.out hw0, keepsP H5.out.2.2 hk⟩)
  · rw [if_neg hx]
    generalize OpF.beg 3 0 S.frames 0 0 0 = o at hsy ⊢
    obtain ⟨m0, m1, m2, m3, m4, m5, m6, m7⟩ := o
    simp only [OpF.value, OpF.vals] at hsy ⊢
    clear h h1 hal
    subst hao
    go_enter Try.func51, Try.ntmps51
    go_upto_region 1 with fail
    go_cut [3] (fun s3 wx => s3 = .bool false ∧ IsPlay w0 wx P p F (some ⟨b, off, none⟩) cap va vh vd rs S ∧ wx.heap[w.heap.size]? = some (.cells #[.int .i64 0, .int .i64 0, .int .i64 0, .int .i64 0, .int .i64 0, .int .i64 0, .int .i64 0, .int .i64 0] 39 (0, 0)) ∧ Keeps None w wx)
    case first =>
      go_quiet (fail)
      all_goals (go_wp2_with fail; go_meet)
      all_goals exact ⟨rfl, HH.out.kept (Keeps.drewM None _ _), ((Keeps.drewM None _ _).block _ (by simp) (fun f => f)).trans (new_at w _ _ rfl), (Keeps.alloc None w _).trans (Keeps.drewM None _ _) (fun _ f _ => f)⟩
    case rest =>
      obtain ⟨rfl, h2, hb2, hk2⟩ := hcut
      obtain ⟨wb, hwb⟩ : ∃ wb, wb = wc := ⟨_, rfl⟩
      subst hwb
      clear c3 c6
      obtain ⟨d6, d3, d7, d1, d2, dr⟩ := FR.out _ h2
      have H2 : Hid _ := And.intro h2 (And.intro hb2 hk2)
      clear h2 hb2 hk2
      go_upto_region 4 with fail
      go_cut [18] (fun s18 wx => s18 = .bool false ∧ IsPlay w0 wx P p F (some ⟨b, off, none⟩) cap va vh vd rs S ∧ wx.heap[w.heap.size]? = some (.cells #[.int .i64 0, .int .i64 0, .int .i64 0, .int .i64 0, .int .i64 0, .int .i64 0, .int .i64 0, .int .i64 0] 39 (0, 0)) ∧ Keeps None w wx)
      case first =>
        go_quiet (fail)
        all_goals (go_wp2_with fail; go_meet)
        all_goals exact ⟨rfl, H2.out.1.kept (Keeps.drewM None _ _), ((Keeps.drewM None _ _).block _ (Array.getElem?_eq_some_iff.1 H2.out.2.1).1 (fun f => f)).trans H2.out.2.1, H2.out.2.2.trans (Keeps.drewM None _ _) (fun _ f _ => f)⟩
      case rest =>
        obtain ⟨rfl, h4, hb4, hk4⟩ := hcut
        clear d6 d3 d7 d1 d2 dr
        obtain ⟨d6, d3, d7, d1, d2, dr⟩ := FR.out _ h4
        have H4 : Hid _ := And.intro h4 (And.intro hb4 hk4)
        clear h4 hb4 hk4 H2
        go_wp2_with fail
        refine (hsy _).mono ?_
        rintro e w5 ⟨rfl, hk5⟩
        have hb5 := (hk5.block _ (Array.getElem?_eq_some_iff.1 H4.out.2.1).1 (fun f => f)).trans H4.out.2.1
        obtain ⟨r0, r1, r2, r3, r4, r5, r6, r7⟩ := zero8 hb5
        obtain ⟨s0, s1, s2, s3, s4, s5, s6, s7⟩ := free8 hb5
        have H5 : Hid _ := And.intro (H4.out.1.kept hk5) (And.intro hb5 (H4.out.2.2.trans hk5 (fun _ f _ => f)))
        clear hk5 hb5 H4 d6 d3 d7 d1 d2 dr
        go_wp2_with fail
        exact opf_end1 2 rfl rfl H5.out.2.1 rfl rfl _ _ _ _ _ _ _ _ (fun w' hk => ⟨rfl, H5.out.1.res hk HL.out hw0, keepsP H5.out.2.2 hk⟩)
set_option maxHeartbeats 2000000 in
theorem taken_any (w0 w : World) (P p : Nat) (F : Nat → Prop) (ao : Option Addr) (cap : Nat) (va vh vd : Value) (rs : List Value) (S : Pl) (v : Int) (h : IsPlay w0 w P p F ao cap va vh vd rs S) :
    Calls Try.prog 50 #[.pointer (some ⟨P, 0, none⟩), .int .i64 v] w fun e w' => e = .returned (S.taken v).2.value ∧ IsPlay w0 w' P p F ao cap va vh vd rs (S.taken v).1 ∧ Keeps (· = P) w w' := by
  have h1 := h.kept (Keeps.alloc None w (.cells #[.int .i64 0, .int .i64 0, .int .i64 0, .int .i64 0, .int .i64 0, .int .i64 0, .int .i64 0, .int .i64 0] 39))
  have hb1 := new_at w (.cells #[.int .i64 0, .int .i64 0, .int .i64 0, .int .i64 0, .int .i64 0, .int .i64 0, .int .i64 0, .int .i64 0] 39) _ rfl
  have HL : Hid _ := h.low
  have hw0 := h.kp.size
  have hst := newStart_any 0 S.frames 0
  have hfk := newFork_any 0 S.frames 0
  unfold Pl.taken
  by_cases hv : v = 0
  · subst hv
    rw [if_pos rfl]
    simp only
    have c1 := h1.c1
    have c2 := h1.c2
    generalize OpF.beg 4 0 S.frames 0 0 0 = o at hst ⊢
    obtain ⟨m0, m1, m2, m3, m4, m5, m6, m7⟩ := o
    simp only [OpF.value, OpF.vals] at hst ⊢
    have H1 : Hid _ := And.intro h1 (And.intro hb1 (Keeps.alloc (· = P) w (.cells #[.int .i64 0, .int .i64 0, .int .i64 0, .int .i64 0, .int .i64 0, .int .i64 0, .int .i64 0, .int .i64 0] 39)))
    clear h h1 hfk hb1
    go_enter Try.func50, Try.ntmps50
    go_wp2_with fail
    refine (hst _).mono ?_
    rintro e w5 ⟨rfl, hk5⟩
    have hb5 := (hk5.block _ (Array.getElem?_eq_some_iff.1 H1.out.2.1).1 (fun f => f)).trans H1.out.2.1
    obtain ⟨r0, r1, r2, r3, r4, r5, r6, r7⟩ := zero8 hb5
    obtain ⟨s0, s1, s2, s3, s4, s5, s6, s7⟩ := free8 hb5
    have H5 : Hid _ := And.intro (H1.out.1.kept hk5) (And.intro hb5 (H1.out.2.2.trans hk5 (fun _ f _ => f.elim)))
    clear hk5 hb5 H1 c1 c2
    go_wp2_with fail
    exact opf_end1 4 rfl rfl H5.out.2.1 rfl rfl _ _ _ _ _ _ _ _ (fun w' hk => ⟨rfl, H5.out.1.res hk HL.out hw0, H5.out.2.2.trans hk (fun i e hi => by omega)⟩)
  · have hv' : (v == 0) = false := by simpa using hv
    rw [if_neg hv]
    simp only
    have hne : w.heap.size ≠ P := fun e => (HL.out P (.inr (.inl rfl))) e.symm
    have c8 := h1.c8
    have f8 := h1.free 8
    have h2 := h1.set 8 (.int .i64 v) { S with child := v } rfl rfl rfl rfl rfl rfl
    have hb2 := ((Keeps.setCell (S := (· = P)) (w.alloc (.cells #[.int .i64 0, .int .i64 0, .int .i64 0, .int .i64 0, .int .i64 0, .int .i64 0, .int .i64 0, .int .i64 0] 39)) (a := ⟨P, 8, none⟩) rfl (.int .i64 v)).block _ (Array.getElem?_eq_some_iff.1 hb1).1 hne).trans hb1
    have c1 := h2.c1
    have c2 := h2.c2
    generalize OpF.beg 1 0 S.frames 0 0 0 = o at hfk ⊢
    obtain ⟨m0, m1, m2, m3, m4, m5, m6, m7⟩ := o
    simp only [OpF.value, OpF.vals] at hfk ⊢
    have H1 : Hid _ := And.intro h2 (And.intro hb2 ((Keeps.alloc (· = P) w (.cells #[.int .i64 0, .int .i64 0, .int .i64 0, .int .i64 0, .int .i64 0, .int .i64 0, .int .i64 0, .int .i64 0] 39)).trans (Keeps.setCell (S := (· = P)) _ (a := ⟨P, 8, none⟩) rfl (.int .i64 v)) (fun _ f _ => f)))
    clear h h1 hst hb1 h2 hb2
    go_enter Try.func50, Try.ntmps50
    go_wp2_with fail
    refine (hfk _).mono ?_
    rintro e w5 ⟨rfl, hk5⟩
    have hb5 := (hk5.block _ (Array.getElem?_eq_some_iff.1 H1.out.2.1).1 (fun f => f)).trans H1.out.2.1
    obtain ⟨r0, r1, r2, r3, r4, r5, r6, r7⟩ := zero8 hb5
    obtain ⟨s0, s1, s2, s3, s4, s5, s6, s7⟩ := free8 hb5
    have H5 : Hid _ := And.intro (H1.out.1.kept hk5) (And.intro hb5 (H1.out.2.2.trans hk5 (fun _ f _ => f.elim)))
    clear hk5 hb5 H1 c1 c2
    go_wp2_with fail
    exact opf_end1 4 rfl rfl H5.out.2.1 rfl rfl _ _ _ _ _ _ _ _ (fun w' hk => ⟨rfl, H5.out.1.res hk HL.out hw0, H5.out.2.2.trans hk (fun i e hi => by omega)⟩)
theorem nextFork_any (w0 w : World) (P p : Nat) (F : Nat → Prop) (ao : Option Addr) (cap : Nat) (va vh vd : Value) (rs : List Value) (S : Pl) (h : IsPlay w0 w P p F ao cap va vh vd rs S) (hr : S.round ≤ S.rounds.length) (hsm : S.rounds.length ≤ 64) :
    Calls Try.prog 51 #[.pointer (some ⟨P, 0, none⟩)] w fun e w' => e = .returned S.nextFork.2.value ∧ IsPlay w0 w' P p F ao cap va vh vd rs S.nextFork.1 ∧ Keeps (· = P) w w' := by
  unfold Pl.nextFork
  by_cases e : S.round = S.rounds.length
  · rw [if_pos e]; exact nextFork_end w0 w P p F ao cap va vh vd rs S h e
  · rw [if_neg e]
    have := nextFork_on w0 w P p F ao cap va vh vd rs S h (by omega) hsm
    by_cases e2 : (S.forked : Int) < S.rounds.getD S.round 0
    · rw [if_pos e2] at this ⊢; exact this
    · rw [if_neg e2] at this ⊢; exact this
end Go.Proofs.Ytlligclkoecknaa
