import Derived.Test.YteahlgaaifoabaaDqMem
/-! The document's memory of the deque: Do. -/
namespace Go.Proofs.Yteahlgaaifoabaa
open Go.RowKit Go.HeapKit

theorem _root_.Go.HeapKit.Keeps.drewN (S : Nat → Prop) (w : World) (n : Nat) : Keeps S w (w.drewN n) := ⟨rfl, rfl, rfl, Nat.le_refl _, fun _ _ _ => rfl⟩

/-- One zero more. -/
theorem mem_append (p : Nat) (vc vl : Value) (A : Ar) (w : World) (h : IsMem w p vc vl A) (hfit : A.cells.length < A.size) :
    ∃ g cap w1, (Builtin.append_ #[22, 22] 22 #[vc, .slice (some ⟨w.heap.size, 0, none⟩) 1 1]).run Try.prog (w.alloc (.cells #[.int .i64 0] 2)) = .ok (.slice (some ⟨g, 0, none⟩) (A.cells.length + 1) cap) w1 ∧
      w1.cell? ⟨p, 0, none⟩ = some vc ∧ w1.frozen? ⟨p, 0, none⟩ = false ∧
      IsMem (w1.setCell ⟨p, 0, none⟩ (.slice (some ⟨g, 0, none⟩) (A.cells.length + 1) cap)) p (.slice (some ⟨g, 0, none⟩) (A.cells.length + 1) cap) vl (A.more 1) ∧
      Keeps (Foot p vc vl) w (w1.setCell ⟨p, 0, none⟩ (.slice (some ⟨g, 0, none⟩) (A.cells.length + 1) cap)) ∧ Moved w vc (.slice (some ⟨g, 0, none⟩) (A.cells.length + 1) cap) := by
  obtain ⟨i0, hi, hz0, hz1, hz2⟩ := info_parts Try.infoI64
  have hf := h.fit
  obtain ⟨v', w1, hr, ho, hgr, hm, -⟩ := run_append_moved (P := Try.prog) (w.alloc (.cells #[.int .i64 0] 2)) 0 22 22 2 i0 _ 1 8 Try.underlying22 hi hz0 hz1 hz2 rfl (by decide) vc A.cells.length _ (h.alloc _).cells
    ⟨w.heap.size, 0, none⟩ 1 1 [.int .i64 0] rfl (by
      intro j u hu
      rw [show (⟨w.heap.size, 0, none⟩ : Addr).add j = ⟨w.heap.size, j, none⟩ by unfold Addr.add; split <;> simp_all, cell_of_block (new_at w _ _ rfl)]
      simpa using hu) (by intro u hu; simp at hu; subst hu; rfl) (by unfold maxLen; omega) (by omega) (Nat.zero_le _)
  obtain ⟨g, cap, rfl⟩ : ∃ g cap, v' = .slice (some ⟨g, 0, none⟩) (A.cells.length + 1) cap := by
    rcases ho.2 with ⟨_, h0⟩ | ⟨b, cap, cur, rfl, _⟩
    · omega
    · exact ⟨b, cap, rfl⟩
  have hk1 : Keeps (fun i => vc.ownBlock = some i) w w1 := ((Keeps.refl _ w).andAlloc _).andGrown hgr (fun k e => .inl e)
  refine ⟨g, cap, w1, hr, hk1.cell h.c0 h.ncp, (World.frozen?_of_block (hk1.block p h.lt h.ncp)).trans (h.free 0), h.longer hk1 (fun _ h => h) hfit (by simpa using ho), (hk1.mono (fun _ e _ => .inr (.inl e))).andSet (x := ⟨p, 0, none⟩) (.inl (.inl rfl)) _, ?_⟩
  rcases hm with hm | ⟨g', e, hg⟩
  · exact .inl hm
  · exact .inr ⟨g', e, by simp at hg; omega⟩

theorem more_more (A : Ar) (k : Nat) : (A.more k).more 1 = A.more (k + 1) := by simp [Ar.more, List.replicate_succ']
theorem more_zero (A : Ar) : A.more 0 = A := by simp [Ar.more]


/-- The log, one entry longer. -/
theorem mem_log (p : Nat) (vc vl : Value) (A : Ar) (x : Acc) (X : World) (h : IsMem X p vc vl A) (hlog : A.log.length < 1000000000000) :
    ∃ g cap w1, (Builtin.append_ #[28, 28] 28 #[vl, .slice (some ⟨X.heap.size, 0, none⟩) 1 1]).run Try.prog (X.drew.alloc (.cells #[.int .i64 x.who, .int .i64 x.kind, .int .i64 x.addr, .int .i64 x.a, .int .i64 x.b, .bool x.ok] 95)) = .ok (.slice (some ⟨g, 0, none⟩) (A.log.length + 1) cap) w1 ∧
      w1.cell? ⟨p, 3, none⟩ = some vl ∧ w1.frozen? ⟨p, 3, none⟩ = false ∧
      IsMem (w1.setCell ⟨p, 3, none⟩ (.slice (some ⟨g, 0, none⟩) (A.log.length + 1) cap)) p vc (.slice (some ⟨g, 0, none⟩) (A.log.length + 1) cap) { A with log := A.log ++ [x] } ∧
      Keeps (Foot p vc vl) X w1 ∧ Moved X vl (.slice (some ⟨g, 0, none⟩) (A.log.length + 1) cap) := by
  obtain ⟨g, cap, w1, hr, ho, hgr, hm⟩ := row_append vl A.log x X.heap.size 28 _ (h.drew.alloc _).log hlog (new_at _ _ _ (by simp))
  have hk1 : Keeps (fun i => vl.ownBlock = some i) X w1 := (((Keeps.refl _ X).andDrew).andAlloc _).andGrown hgr (fun k e => .inl e)
  refine ⟨g, cap, w1, hr, hk1.cell h.c3 h.nlp, (World.frozen?_of_block (hk1.block p h.lt h.nlp)).trans (h.free 3), h.logged hk1 (fun _ h => h) ho, hk1.mono (fun _ e _ => .inr (.inr e)), ?_⟩
  rcases hm with hm | ⟨g', e, hg⟩
  · exact .inl hm
  · exact .inr ⟨g', e, by simp at hg; omega⟩
theorem Ar.noted_on (A : Ar) (x : Acc) (h : A.on = true) : A.noted x = { A with log := A.log ++ [{ x with who := A.actor }] } := by simp [Ar.noted, h]
abbrev wanted (w : World) (k x a b c v : Int) : World := w.alloc (.cells #[.int .i64 k, .int .i64 x, .int .i64 a, .int .i64 b, .int .i64 c, .int .i64 v] 106)
abbrev entry3 (w : World) (k x a b c v actor : Int) : World := (wanted w k x a b c v).alloc (.cells #[.int .i64 actor, .int .i64 k, .int .i64 x, .int .i64 a, .int .i64 b, .bool true] 95)

set_option maxHeartbeats 4000000 in
set_option maxRecDepth 100000 in
theorem mdo_many (p : Nat) (vc vl : Value) (A : Ar) (n : Nat) (w : World) (h : IsMem w p vc vl A) (hn : 0 < n) (hm : A.size < A.cells.length + n) (hn2 : n ≤ 1048576) :
    Calls Try.prog 35 #[.pointer (some ⟨p, 0, none⟩), .agg #[.int .i64 4, .int .i64 0, .int .i64 n, .int .i64 0, .int .i64 0, .int .i64 0]] w fun e w' => e = .returned (.tuple #[.int .i64 0, .bool false]) ∧ Keeps None w w' := by
  have hf := h.fit
  have d0 : decide ((n : Int) < 1) = false := by simp; omega
  have d1 : (A.size : Int) - A.cells.length < n := by omega
  have h1 := h.alloc (.cells #[.int .i64 4, .int .i64 0, .int .i64 n, .int .i64 0, .int .i64 0, .int .i64 0] 106)
  have c0 := h1.c0
  have c1 := h1.c1
  have c2 := h1.c2
  have HH : Hid (IsMem w p vc vl A) := h
  have hlt := h.lt
  have ne1 : ¬ p = w.heap.size := by omega
  have ne2 : ¬ p = w.heap.size + 1 := by omega
  obtain ⟨ao, cap, rfl⟩ := own_shape h.cells
  clear h h1
  go_enter Try.func35, Try.ntmps35
  go_upto_region 1 with fail
  go_cut [6] (fun s6 wx => s6 = .pointer (some ⟨w.heap.size + 1, 0, none⟩) ∧ ∃ m, wx = entry3 (w.drewN m) 4 0 n 0 0 0 A.actor)
  case first =>
    go_region_held3 (fun w' => w'.cell? ⟨p, 2, none⟩ = some (.int .i64 A.actor) ∧ w'.cell? ⟨w.heap.size, 0, none⟩ = some (.int .i64 4) ∧ w'.cell? ⟨w.heap.size, 1, none⟩ = some (.int .i64 0) ∧ w'.cell? ⟨w.heap.size, 2, none⟩ = some (.int .i64 n) ∧ w'.cell? ⟨w.heap.size, 3, none⟩ = some (.int .i64 0)) (go_keep) (fail)
    all_goals (go_wp2_with fail; go_meet)
    all_goals exact ⟨rfl, _, rfl⟩
  case rest =>
    obtain ⟨rfl, m, rfl⟩ := hcut
    have f1 := (HH.out.kept (Keeps.drewN None w m) (fun _ _ f => f))
    obtain ⟨w0, hw0, hs0⟩ : ∃ w0, w0 = w.drewN m ∧ w.heap.size = w0.heap.size := ⟨_, rfl, rfl⟩
    have HK : Hid (Keeps None w (w.drewN m)) := Keeps.drewN None w m
    rw [← hw0] at f1 HK ⊢
    rw [hs0] at *
    clear hs0 hw0 c0 c1 c2
    have f2 := (f1.alloc (.cells #[.int .i64 4, .int .i64 0, .int .i64 n, .int .i64 0, .int .i64 0, .int .i64 0] 106)).alloc (.cells #[.int .i64 A.actor, .int .i64 4, .int .i64 0, .int .i64 n, .int .i64 0, .bool true] 95)
    have c0 := f2.c0
    have c1 := f2.c1
    clear f1 f2
    unfold entry3 wanted
    go_wp2_with fail
    go_quiet (fail)
    go_wp2_with fail
    go_ret2
    exact ⟨rfl, ((HK.out.andAlloc _).andAlloc _).trans (Keeps.drewN None _ _) (fun _ f _ => f)⟩
set_option maxHeartbeats 4000000 in
set_option maxRecDepth 100000 in
theorem mdo_fits (p : Nat) (vc vl : Value) (A : Ar) (n : Nat) (w : World) (h : IsMem w p vc vl A) (hn : 0 < n) (hm : A.cells.length + n ≤ A.size) (hlog : A.log.length < 1000000000000) :
    Calls Try.prog 35 #[.pointer (some ⟨p, 0, none⟩), .agg #[.int .i64 4, .int .i64 0, .int .i64 n, .int .i64 0, .int .i64 0, .int .i64 0]] w fun e w' => e = .returned (.tuple #[.int .i64 A.cells.length, .bool true]) ∧ MAfter w w' p vc vl ((A.more n).noted ⟨0, 4, A.cells.length, n, 0, true⟩) := by
  have hf := h.fit
  have d0 : decide ((n : Int) < 1) = false := by simp; omega
  have d1 : ¬ (A.size : Int) - A.cells.length < n := by omega
  have h1 := h.alloc (.cells #[.int .i64 4, .int .i64 0, .int .i64 n, .int .i64 0, .int .i64 0, .int .i64 0] 106)
  have c0 := h1.c0
  have c1 := h1.c1
  have c2 := h1.c2
  have HH : Hid (IsMem w p vc vl A) := h
  have hlt := h.lt
  have ne1 : ¬ p = w.heap.size := by omega
  have ne2 : ¬ p = w.heap.size + 1 := by omega
  obtain ⟨ao, cap, rfl⟩ := own_shape h.cells
  clear h h1
  go_enter Try.func35, Try.ntmps35
  go_upto_region 1 with fail
  go_cut [6] (fun s6 wx => s6 = .pointer (some ⟨w.heap.size + 1, 0, none⟩) ∧ ∃ m, wx = entry3 (w.drewN m) 4 0 n 0 0 0 A.actor)
  case first =>
    go_region_held3 (fun w' => w'.cell? ⟨p, 2, none⟩ = some (.int .i64 A.actor) ∧ w'.cell? ⟨w.heap.size, 0, none⟩ = some (.int .i64 4) ∧ w'.cell? ⟨w.heap.size, 1, none⟩ = some (.int .i64 0) ∧ w'.cell? ⟨w.heap.size, 2, none⟩ = some (.int .i64 n) ∧ w'.cell? ⟨w.heap.size, 3, none⟩ = some (.int .i64 0)) (go_keep) (fail)
    all_goals (go_wp2_with fail; go_meet)
    all_goals exact ⟨rfl, _, rfl⟩
  case rest =>
    obtain ⟨rfl, m, rfl⟩ := hcut
    have f1 := (HH.out.kept (Keeps.drewN None w m) (fun _ _ f => f))
    obtain ⟨w0, hw0, hs0⟩ : ∃ w0, w0 = w.drewN m ∧ w.heap.size = w0.heap.size := ⟨_, rfl, rfl⟩
    have HK : Hid (Keeps None w (w.drewN m)) := Keeps.drewN None w m
    rw [← hw0] at f1 HK ⊢
    rw [hs0] at *
    clear hs0 hw0 c0 c1 c2
    have f2 := (f1.alloc (.cells #[.int .i64 4, .int .i64 0, .int .i64 n, .int .i64 0, .int .i64 0, .int .i64 0] 106)).alloc (.cells #[.int .i64 A.actor, .int .i64 4, .int .i64 0, .int .i64 n, .int .i64 0, .bool true] 95)
    have c0 := f2.c0
    have c1 := f2.c1
    have F2 : Hid _ := f2
    have W0 : Hid (p < w0.heap.size) := f1.lt
    clear f1 f2
    unfold entry3 wanted
    go_wp2_with fail
    go_quiet (fail)
    go_wp2_with fail
    have hw0 := W0.out
    have f3 := F2.out.kept (Keeps.drewN None _ nq) (fun _ _ f => f)
    have hb3 : (((w0.alloc (.cells #[.int .i64 4, .int .i64 0, .int .i64 n, .int .i64 0, .int .i64 0, .int .i64 0] 106)).alloc (.cells #[.int .i64 A.actor, .int .i64 4, .int .i64 0, .int .i64 n, .int .i64 0, .bool true] 95)).drewN nq).heap[w0.heap.size + 1]? = some (.cells #[.int .i64 A.actor, .int .i64 4, .int .i64 0, .int .i64 n, .int .i64 0, .bool true] 95 (0, 0)) := ((Keeps.drewN None _ nq).block _ (by simp) (fun f => f)).trans (new_at _ _ _ (by simp))
    have hb4 : (((w0.alloc (.cells #[.int .i64 4, .int .i64 0, .int .i64 n, .int .i64 0, .int .i64 0, .int .i64 0] 106)).alloc (.cells #[.int .i64 A.actor, .int .i64 4, .int .i64 0, .int .i64 n, .int .i64 0, .bool true] 95)).drewN nq).heap[w0.heap.size]? = some (.cells #[.int .i64 4, .int .i64 0, .int .i64 n, .int .i64 0, .int .i64 0, .int .i64 0] 106 (0, 0)) := ((Keeps.drewN None _ nq).block _ (by simp; omega) (fun f => f)).trans ((Below.heap_alloc _ _ _ (by simp)).trans (new_at w0 _ _ rfl))
    have kX := ((HK.out.andAlloc (.cells #[.int .i64 4, .int .i64 0, .int .i64 n, .int .i64 0, .int .i64 0, .int .i64 0] 106)).andAlloc (.cells #[.int .i64 A.actor, .int .i64 4, .int .i64 0, .int .i64 n, .int .i64 0, .bool true] 95)).trans (Keeps.drewN None _ nq) (fun _ f _ => f)
    generalize hX0 : (((w0.alloc (.cells #[.int .i64 4, .int .i64 0, .int .i64 n, .int .i64 0, .int .i64 0, .int .i64 0] 106)).alloc (.cells #[.int .i64 A.actor, .int .i64 4, .int .i64 0, .int .i64 n, .int .i64 0, .bool true] 95)).drewN nq) = X0 at f3 hb3 hb4 kX ⊢
    clear hX0 c0 c1 F2
    have hsz := HK.out.size
    have fX : IsMem (X0.setCell ⟨w0.heap.size + 1, 2, none⟩ (.int .i64 A.cells.length)) p (.slice ao A.cells.length cap) vl A := f3.kept (Keeps.setCell (S := (· = w0.heap.size + 1)) X0 (a := ⟨w0.heap.size + 1, 2, none⟩) rfl _) (fun k f e => by
      have := HH.out.foot_lt f; omega)
    have bX : (X0.setCell ⟨w0.heap.size + 1, 2, none⟩ (.int .i64 A.cells.length)).heap[w0.heap.size + 1]? = some (.cells #[.int .i64 A.actor, .int .i64 4, .int .i64 A.cells.length, .int .i64 n, .int .i64 0, .bool true] 95 (0, 0)) := (setCell_block hb3 _).trans rfl
    have wX : (X0.setCell ⟨w0.heap.size + 1, 2, none⟩ (.int .i64 A.cells.length)).heap[w0.heap.size]? = some (.cells #[.int .i64 4, .int .i64 0, .int .i64 n, .int .i64 0, .int .i64 0, .int .i64 0] 106 (0, 0)) := (Below.heap_setCell X0 ⟨w0.heap.size + 1, 2, none⟩ _ w0.heap.size (by simp)).trans hb4
    have kX2 : Keeps None w (X0.setCell ⟨w0.heap.size + 1, 2, none⟩ (.int .i64 A.cells.length)) := kX.andSet (x := ⟨w0.heap.size + 1, 2, none⟩) (.inr (by simp; omega)) _
    generalize X0.setCell ⟨w0.heap.size + 1, 2, none⟩ (.int .i64 A.cells.length) = X at fX bX wX kX2 ⊢
    have HX : Hid _ := And.intro fX (And.intro bX (And.intro wX kX2))
    have nF : Hid (∀ k, Foot p (.slice ao A.cells.length cap) vl k → k < w0.heap.size) := fun k f => by have := HH.out.foot_lt f; omega
    clear fX bX wX kX2 f3 hb3 hb4 kX
    go_loopw [7] (fun i wr => ∃ k : Nat, k ≤ n ∧ i = .int .i64 k ∧ ∃ vc', IsMem wr p vc' vl (A.more k) ∧ Keeps (Foot p (.slice ao A.cells.length cap) vl) X wr ∧ Moved X (.slice ao A.cells.length cap) vc') (fun i _ => n - (intOf i).toNat)
    case atStart => exact ⟨0, Nat.zero_le _, rfl, _, by rw [more_zero]; exact HX.out.1, Keeps.refl _ _, .refl _ _⟩
    case round =>
      obtain ⟨k, hk, rfl, vc', hR, hK, hM⟩ := hrel
      have wn := (cell_of_block ((hK.block w0.heap.size (Array.getElem?_eq_some_iff.1 HX.out.2.2.1).1 (fun f => by have := nF.out _ f; omega)).trans HX.out.2.2.1) 2).trans rfl
      by_cases hkn : k < n
      · obtain ⟨g, cp, w1, hr, e0, f1, hR1, hK1, hM1⟩ := mem_append p vc' vl (A.more k) wr hR (by simp [Ar.more]; omega)
        have e1 := (hR.alloc (.cells #[.int .i64 0] 2)).c0
        have e2 := hR.c0
        have i1 : (k : Int) < (n : Int) := by omega
        have hN : ∃ vc', IsMem (w1.setCell ⟨p, 0, none⟩ (.slice (some ⟨g, 0, none⟩) ((A.more k).cells.length + 1) cp)) p vc' vl (A.more (k + 1)) ∧ Keeps (Foot p (.slice ao A.cells.length cap) vl) X (w1.setCell ⟨p, 0, none⟩ (.slice (some ⟨g, 0, none⟩) ((A.more k).cells.length + 1) cp)) ∧ Moved X (.slice ao A.cells.length cap) vc' := by
          refine ⟨_, by rw [← more_more]; exact hR1, ?_, hM.trans hM1 hK.size⟩
          refine hK.trans hK1 ?_
          intro i hi hlt
          rcases hi with rfl | hi | hi
          · exact .inl rfl
          · rcases hM with hM | ⟨g, hM, hg⟩
            · exact .inr (.inl (hM ▸ hi))
            · rw [hM] at hi; injection hi with hi; omega
          · exact .inr (.inr hi)
        have HN : Hid _ := hN
        obtain ⟨ao', cp', rfl⟩ := own_shape hR.cells
        clear hR hK hM hR1 hK1 hM1 hN
        go_wp2_with (at_builtin; refine wpList_append_run rfl (.tmp 59) (.tmp 60) 22 22 rfl rfl rfl hr ?_)
        go_roundw
        case rel => exact ⟨k + 1, by omega, by go_num, HN.out⟩
        case measure => simp [intOf]; omega
      · obtain rfl : k = n := by omega
        have i1 : ¬ (k : Int) < (k : Int) := by omega
        have he : wr.heap[w0.heap.size + 1]? = _ := (hK.block (w0.heap.size + 1) (Array.getElem?_eq_some_iff.1 HX.out.2.1).1 (fun f => by have := nF.out _ f; omega)).trans HX.out.2.1
        have c3 := hR.c3
        have c4 := (hR.alloc (.cells #[.int .i64 A.actor, .int .i64 4, .int .i64 A.cells.length, .int .i64 k, .int .i64 0, .bool true] 95)).c3
        obtain ⟨g, cp, w1, hr, e3, f3, hL, hkL, hmL⟩ := mem_log p vc' vl (A.more k) ⟨A.actor, 4, A.cells.length, k, 0, true⟩ wr hR hlog
        have he1 := (hkL.block (w0.heap.size + 1) (Array.getElem?_eq_some_iff.1 he).1 (fun f => by
          rcases f with f | f | f
          · omega
          · rcases hM with hM | ⟨g, hM, hg⟩
            · have := nF.out (w0.heap.size + 1) (.inr (.inl (hM ▸ f))); omega
            · rw [hM] at f; injection f with f; have := (Array.getElem?_eq_some_iff.1 HX.out.2.1).1; omega
          · have := nF.out (w0.heap.size + 1) (.inr (.inr f)); omega)).trans he
        have s0 := (cell_of_block he 0).trans rfl
        have s1 := (cell_of_block he 1).trans rfl
        have s2 := (cell_of_block he 2).trans rfl
        have s3 := (cell_of_block he 3).trans rfl
        have s4 := (cell_of_block he 4).trans rfl
        have s5 := (cell_of_block he 5).trans rfl
        have t2 := (cell_of_block he1 2).trans rfl
        have n1 : ¬ p = w0.heap.size + 1 := by omega
        have n2 : ¬ w0.heap.size + 1 = p := by omega
        have hE : MAfter w (w1.setCell ⟨p, 3, none⟩ (.slice (some ⟨g, 0, none⟩) (A.log.length + 1) cp)) p (.slice ao A.cells.length cap) vl ((A.more k).noted ⟨0, 4, A.cells.length, k, 0, true⟩) := by
          rw [Ar.noted_on _ _ hR.on]
          have hY : MAfter wr (w1.setCell ⟨p, 3, none⟩ (.slice (some ⟨g, 0, none⟩) (A.log.length + 1) cp)) p vc' vl { A.more k with log := A.log ++ [⟨A.actor, 4, A.cells.length, k, 0, true⟩] } := ⟨_, _, hL, hkL.andSet (x := ⟨p, 3, none⟩) (.inl (.inl rfl)) _, .refl _ _, hmL⟩
          have hZ := MAfter.trans hK hM (.refl _ _) hY
          exact MAfter.trans (HX.out.2.2.2.mono (fun _ f _ => f.elim)) (.refl _ _) (.refl _ _) hZ
        have HE : Hid _ := hE
        have a3 : (A.more k).log.length = A.log.length := rfl
        rw [a3] at hr
        obtain ⟨lo, lc, hlo⟩ := own_shape hR.log
        rw [a3] at hlo
        subst hlo
        clear hR hK hM hL hkL hmL hE he he1 a3
        go_wp2_with fail
        go_region_law (refine step_append_run rfl (.tmp 68) (.tmp 70) 28 28 rfl (by simp [Act.eval]) (by simp [Act.eval]) hr ?_)
        all_goals go_wp2_with fail
        all_goals go_ret2
        all_goals exact ⟨rfl, HE.out⟩
end Go.Proofs.Yteahlgaaifoabaa
