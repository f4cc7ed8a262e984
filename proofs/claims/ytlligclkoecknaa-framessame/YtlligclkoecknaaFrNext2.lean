import Derived.Test.YtlligclkoecknaaFrNext
/-! nextFetch. -/
namespace Go.Proofs.Ytlligclkoecknaa
open Go.RowKit Go.HeapKit Go.IntWalk

theorem own_slice {w : World} {b s n : Nat} {e : TypeId} {v : Value} {xs : List Value} (h : w.ownsRow b e s v n xs) : ∃ x c, v = .slice x n c := by
  rcases h.2 with ⟨rfl, rfl⟩ | ⟨g, cap, cur, rfl, _⟩
  · exact ⟨none, 0, rfl⟩
  · exact ⟨_, _, rfl⟩
set_option maxHeartbeats 4000000 in
theorem nextFetch_any (w0 w : World) (P p : Nat) (F : Nat → Prop) (ao : Option Addr) (cap : Nat) (va vh vd : Value) (rs : List Value) (S : Pl) (h : IsPlay w0 w P p F ao cap va vh vd rs S) (hr : S.round < S.rounds.length) (hr2 : S.round < S.reads.length) (hsm : S.rounds.length ≤ 64) :
    Calls Try.prog 53 #[.pointer (some ⟨P, 0, none⟩)] w fun e w' => e = .returned S.nextFetch.2.value ∧ IsPlay w0 w' P p F ao cap va vh vd rs S.nextFetch.1 ∧ Keeps (· = P) w w' := by
  have h1 := h.kept (Keeps.alloc None w (.cells #[.int .i64 0, .int .i64 0, .int .i64 0, .int .i64 0, .int .i64 0, .int .i64 0, .int .i64 0, .int .i64 0] 39))
  obtain ⟨b, off, hao, -⟩ := h1.round_cell S.round hr
  obtain ⟨gd, cd, hvd, hcd, cg, -⟩ := h1.read_cell S.round hr2
  obtain ⟨x, c, hx⟩ := own_slice (h1.row S.round hr2)
  rw [hx] at cg
  have c6 := h1.c6
  have c11 := h1.c11
  have HH : Hid _ := h1
  have HL : Hid _ := h.low
  have hw0 := h.kp.size
  have hft := newFetch_any 0 S.frames 0 (S.reads.getD S.round []).length
  have hnf := fun wx hx => nextFork_any w0 wx P p F ao cap va vh vd rs { S with round := S.round + 1, forked := 0 } hx (by show S.round + 1 ≤ S.rounds.length; omega) hsm
  have i1 : (S.round : Int) < (S.rounds.length : Int) := by omega
  have i2 : (S.round : Int) < (S.reads.length : Int) := by omega
  have i3 : (S.rounds.length : Int) ≤ 64 := by omega
  have i5 : (S.round : Int) ≤ 64 := by omega
  have FR : Hid (∀ (wx : World), IsPlay w0 wx P p F ao cap va vh vd rs S → wx.cell? ⟨P, 6, none⟩ = some (.int .i64 S.round) ∧ wx.cell? ⟨P, 3, none⟩ = some (.slice ao S.rounds.length cap) ∧ wx.cell? ⟨P, 7, none⟩ = some (.int .i64 S.forked) ∧ wx.cell? ⟨P, 1, none⟩ = some (.int .i64 0) ∧ wx.cell? ⟨P, 2, none⟩ = some (.int .i64 S.frames) ∧ wx.cell? ⟨b, off + S.round, none⟩ = some (.int .i64 (S.rounds.getD S.round 0))) := by
    intro wx hx
    obtain ⟨b', off', e', cr'⟩ := hx.round_cell S.round hr
    rw [hao] at e'
    injection e' with e'
    injection e' with e1 e2
    subst e1 e2
    exact ⟨hx.c6, hx.c3, hx.c7, hx.c1, hx.c2, cr'⟩
  have EV : Hid (∀ S' : Pl, S' = S → S'.nextFetch = if ((S.reads.getD S.round []).length : Int) < S.rounds.getD S.round 0 then (S, OpF.beg 5 0 S.frames 0 (S.reads.getD S.round []).length 0) else ({ S with round := S.round + 1, forked := 0 } : Pl).nextFork) := fun S' e => by subst e; rfl
  rw [EV.out S rfl]
  clear EV
  generalize (S.reads.getD S.round []).length = n at hft cg ⊢
  generalize S.rounds.getD S.round 0 = y at FR ⊢
  have HV : Hid (vd = .slice (some ⟨gd, 0, none⟩) S.reads.length cd) := hvd
  rw [hvd] at c11
  clear hvd hx h h1
  by_cases hy : (n : Int) < y
  · rw [if_pos hy]
    simp only
    generalize OpF.beg 5 0 S.frames 0 n 0 = o at hft ⊢
    obtain ⟨m0, m1, m2, m3, m4, m5, m6, m7⟩ := o
    simp only [OpF.value, OpF.vals] at hft ⊢
    clear hnf
    subst hao
    go_enter Try.func53, Try.ntmps53
    go_upto_region 1 with fail
    go_cut [3] (fun s3 wx => s3 = .int .i64 n ∧ IsPlay w0 wx P p F (some ⟨b, off, none⟩) cap va vh vd rs S ∧ wx.heap[w.heap.size]? = some (.cells #[.int .i64 0, .int .i64 0, .int .i64 0, .int .i64 0, .int .i64 0, .int .i64 0, .int .i64 0, .int .i64 0] 39 (0, 0)) ∧ Keeps None w wx)
    case first =>
      go_quiet (fail)
      all_goals (go_wp2_with fail; go_meet)
      all_goals exact ⟨rfl, HH.out.kept (Keeps.drewM None _ _), ((Keeps.drewM None _ _).block _ (by simp) (fun f => f)).trans (new_at w _ _ rfl), (Keeps.alloc None w _).trans (Keeps.drewM None _ _) (fun _ f _ => f)⟩
    case rest =>
      obtain ⟨rfl, h2, hb2, hk2⟩ := hcut
      obtain ⟨wb, hwb⟩ : ∃ wb, wb = wc := ⟨_, rfl⟩
      subst hwb
      clear c11 c6 cg
      obtain ⟨d6, d3, d7, d1, d2, dr⟩ := FR.out _ h2
      have H2 : Hid _ := And.intro h2 (And.intro hb2 hk2)
      clear h2 hb2 hk2
      go_upto_region 2 with fail
      go_cut [26] (fun s26 wx => s26 = .bool true ∧ IsPlay w0 wx P p F (some ⟨b, off, none⟩) cap va vh vd rs S ∧ wx.heap[w.heap.size]? = some (.cells #[.int .i64 0, .int .i64 0, .int .i64 0, .int .i64 0, .int .i64 0, .int .i64 0, .int .i64 0, .int .i64 0] 39 (0, 0)) ∧ Keeps None w wx)
      case first =>
        go_quiet (fail)
        all_goals (go_wp2_with fail; go_meet)
        all_goals exact ⟨rfl, H2.out.1.kept (Keeps.drewM None _ _), ((Keeps.drewM None _ _).block _ (Array.getElem?_eq_some_iff.1 H2.out.2.1).1 (fun f => f)).trans H2.out.2.1, H2.out.2.2.trans (Keeps.drewM None _ _) (fun _ f _ => f)⟩
      case rest =>
        obtain ⟨rfl, h4, hb4, hk4⟩ := hcut
        clear d6 d3 d7 d1 d2 dr
        obtain ⟨d6, d3, d7, d1, d2, dr⟩ := FR.out _ h4
        have H4 : Hid _ := And.intro h4 (And.intro hb4 hk4)
        clear h4 hb4 hk4 H2
        go_wp2_with fail
        refine (hft _).mono ?_
        rintro e w5 ⟨rfl, hk5⟩
        have hb5 := (hk5.block _ (Array.getElem?_eq_some_iff.1 H4.out.2.1).1 (fun f => f)).trans H4.out.2.1
        obtain ⟨r0, r1, r2, r3, r4, r5, r6, r7⟩ := zero8 hb5
        obtain ⟨s0, s1, s2, s3, s4, s5, s6, s7⟩ := free8 hb5
        have H5 : Hid _ := And.intro (H4.out.1.kept hk5) (And.intro hb5 (H4.out.2.2.trans hk5 (fun _ f _ => f)))
        clear hk5 hb5 H4 d6 d3 d7 d1 d2 dr
        go_wp2_with fail
        exact opf_end1 2 rfl rfl H5.out.2.1 rfl rfl _ _ _ _ _ _ _ _ (fun w' hk => ⟨rfl, H5.out.1.res hk HL.out hw0, keepsP H5.out.2.2 hk⟩)
  · rw [if_neg hy]
    generalize ({ S with round := S.round + 1, forked := 0 } : Pl).nextFork = o at hnf ⊢
    obtain ⟨S', ⟨m0, m1, m2, m3, m4, m5, m6, m7⟩⟩ := o
    simp only [OpF.value, OpF.vals] at hnf ⊢
    clear hft
    subst hao
    go_enter Try.func53, Try.ntmps53
    go_upto_region 1 with fail
    go_cut [3] (fun s3 wx => s3 = .int .i64 n ∧ IsPlay w0 wx P p F (some ⟨b, off, none⟩) cap va vh vd rs S ∧ wx.heap[w.heap.size]? = some (.cells #[.int .i64 0, .int .i64 0, .int .i64 0, .int .i64 0, .int .i64 0, .int .i64 0, .int .i64 0, .int .i64 0] 39 (0, 0)) ∧ Keeps None w wx)
    case first =>
      go_quiet (fail)
      all_goals (go_wp2_with fail; go_meet)
      all_goals exact ⟨rfl, HH.out.kept (Keeps.drewM None _ _), ((Keeps.drewM None _ _).block _ (by simp) (fun f => f)).trans (new_at w _ _ rfl), (Keeps.alloc None w _).trans (Keeps.drewM None _ _) (fun _ f _ => f)⟩
    case rest =>
      obtain ⟨rfl, h2, hb2, hk2⟩ := hcut
      obtain ⟨wb, hwb⟩ : ∃ wb, wb = wc := ⟨_, rfl⟩
      subst hwb
      clear c11 c6 cg
      obtain ⟨d6, d3, d7, d1, d2, dr⟩ := FR.out _ h2
      have H2 : Hid _ := And.intro h2 (And.intro hb2 hk2)
      clear h2 hb2 hk2
      go_upto_region 2 with fail
      go_cut [26] (fun s26 wx => s26 = .bool false ∧ IsPlay w0 wx P p F (some ⟨b, off, none⟩) cap va vh vd rs S ∧ wx.heap[w.heap.size]? = some (.cells #[.int .i64 0, .int .i64 0, .int .i64 0, .int .i64 0, .int .i64 0, .int .i64 0, .int .i64 0, .int .i64 0] 39 (0, 0)) ∧ Keeps None w wx)
      case first =>
        go_quiet (fail)
        all_goals (go_wp2_with fail; go_meet)
        all_goals exact ⟨rfl, H2.out.1.kept (Keeps.drewM None _ _), ((Keeps.drewM None _ _).block _ (Array.getElem?_eq_some_iff.1 H2.out.2.1).1 (fun f => f)).trans H2.out.2.1, H2.out.2.2.trans (Keeps.drewM None _ _) (fun _ f _ => f)⟩
      case rest =>
        obtain ⟨rfl, h4, hb4, hk4⟩ := hcut
        clear d6 d3 d7 d1 d2 dr
        have c6 := h4.c6
        have f6 := h4.free 6
        have h5 := h4.set 6 (.int .i64 ((S.round : Int) + 1)) { S with round := S.round + 1 } rfl rfl rfl rfl rfl rfl
        have c7 := h5.c7
        have f7 := h5.free 7
        have h6 := h5.set 7 (.int .i64 0) { S with round := S.round + 1, forked := 0 } rfl rfl rfl rfl rfl rfl
        have hne : w.heap.size ≠ P := fun e => (HL.out P (.inr (.inl rfl))) e.symm
        have hb6 : ((wc.setCell ⟨P, 6, none⟩ (.int .i64 ((S.round : Int) + 1))).setCell ⟨P, 7, none⟩ (.int .i64 0)).heap[w.heap.size]? = some (.cells #[.int .i64 0, .int .i64 0, .int .i64 0, .int .i64 0, .int .i64 0, .int .i64 0, .int .i64 0, .int .i64 0] 39 (0, 0)) := (((Keeps.setCell (S := (· = P)) wc (a := ⟨P, 6, none⟩) rfl _).trans (Keeps.setCell (S := (· = P)) _ (a := ⟨P, 7, none⟩) rfl _) (fun _ f _ => f)).block _ (Array.getElem?_eq_some_iff.1 hb4).1 hne).trans hb4
        have hnf6 := hnf _ h6
        have hkP := Keeps.trans (S := (· = P)) (hk4.mono (fun _ f _ => f.elim)) ((Keeps.setCell (S := (· = P)) wc (a := ⟨P, 6, none⟩) rfl (.int .i64 ((S.round : Int) + 1))).trans (Keeps.setCell (S := (· = P)) _ (a := ⟨P, 7, none⟩) rfl (.int .i64 0)) (fun _ f _ => f)) (fun _ f _ => f)
        have H6 : Hid _ := And.intro hb6 (And.intro hkP hne)
        clear h4 hb4 hk4 H2 h5 h6 hb6 hnf hkP hne
        go_wp2_with fail
        refine hnf6.mono ?_
        rintro e w7 ⟨rfl, h7, hk7⟩
        have hb7 := (hk7.block _ (Array.getElem?_eq_some_iff.1 H6.out.1).1 H6.out.2.2).trans H6.out.1
        obtain ⟨r0, r1, r2, r3, r4, r5, r6, r7⟩ := zero8 hb7
        obtain ⟨s0, s1, s2, s3, s4, s5, s6, s7⟩ := free8 hb7
        have H7 : Hid _ := And.intro h7 (And.intro hb7 (H6.out.2.1.trans hk7 (fun _ f _ => f)))
        clear h7 hb7 hk7 H6 hnf6 c6 f6 c7 f7
        go_wp2_with fail
        exact opf_end1 2 rfl rfl H7.out.2.1 rfl rfl _ _ _ _ _ _ _ _ (fun w' hk => ⟨rfl, H7.out.1.res hk HL.out hw0, H7.out.2.2.trans hk (fun i e hi => by omega)⟩)
end Go.Proofs.Ytlligclkoecknaa
