import Derived.Test.YtaipeclmfgdegaaRefRep
import Derived.Test.YtaipeclmfgdegaaDoneWalks
import Derived.Deep.QuietTactic
import Derived.BigQuiet
/-! The document's arena: Reserve. -/
namespace Go.Proofs.Ytaipeclmfgdegaa
open Go.RowKit Go.HeapKit

theorem _root_.Go.HeapKit.Keeps.drewN (S : Nat → Prop) (w : World) (n : Nat) : Keeps S w (w.drewN n) := ⟨rfl, rfl, rfl, Nat.le_refl _, fun _ _ _ => rfl⟩

theorem refused_any (n : Int) (w : World) : Calls Try.prog 30 #[.int .i64 n] w fun e w' => e = .returned (.agg #[.int .i64 0, .bool false, .int .i64 n]) ∧ Keeps None w w' := by
  go_enter Try.func30, Try.ntmps30
  go_wp2
  refine bodyPost_ret (results_row (q := 2) (ty := 51) rfl rfl (run_loadVar_row _ w.heap.size 51 51 _ _ _ (new_at _ _ _ rfl) Try.underlying51 rfl (by kernel_rfl))) rfl ?_
  exact ⟨rfl, (Keeps.refl _ _).andAlloc _⟩

theorem RAfter.drop1 {w w1 w2 : World} {p : Nat} {vc vl : Value} {A B : Ar} {o : Obj} (h : IsRef w p vc vl A) (hA : RAfter (w.alloc o) w1 p vc vl B) (hk : Keeps (· = w.heap.size) w1 w2) : RAfter w w2 p vc vl B := by
  obtain ⟨vc', vl', hB, hk1, mc, ml⟩ := hA
  have hd : ∀ {v v'}, (∀ k, v.ownBlock = some k → k < w.heap.size) → Moved (w.alloc o) v v' → ∀ k, v'.ownBlock = some k → k ≠ w.heap.size := by
    intro v v' hv hm k e
    rcases hm with hm | ⟨g, hm, hg⟩
    · have := hv k (hm ▸ e); omega
    · rw [e] at hm; injection hm with hm; simp at hg; omega
  have hm2 : ∀ {v v'}, Moved (w.alloc o) v v' → Moved w v v' := by
    intro v v' hm
    rcases hm with hm | ⟨g, hm, hg⟩
    · exact .inl hm
    · exact .inr ⟨g, hm, by simp at hg; omega⟩
  refine ⟨vc', vl', hB.kept hk ?_, ((Keeps.refl _ w).andAlloc o |>.trans hk1 (fun _ f _ => f)).trans hk (fun i e hi => by omega), hm2 mc, hm2 ml⟩
  rintro k (rfl | hk | hk)
  · have := h.lt; omega
  · exact hd (fun k e => own_lt h.cells e) mc k hk
  · exact hd (fun k e => own_lt h.log e) ml k hk
theorem ref_res {w w1 : World} {p : Nat} {vc vl : Value} {A : Ar} {o : Obj} (h : IsRef w p vc vl A) (hk : Keeps (Foot p vc vl) (w.alloc o) w1) : w1.heap[w.heap.size]? = some o :=
  (hk.block _ (by simp) (fun f => by have := h.foot_lt f; omega)).trans (new_at _ _ _ rfl)

theorem rreserve_few (p : Nat) (vc vl : Value) (A : Ar) (n : Int) (w : World) (h : IsRef w p vc vl A) (hn : n < 1) :
    Calls Try.prog 31 #[.pointer (some ⟨p, 0, none⟩), .int .i64 n] w fun e w' => e = .returned (bad 21).value ∧ RAfter w w' p vc vl A := by
  go_enter Try.func31, Try.ntmps31
  go_wp2_with fail
  refine (refused_any 21 _).mono ?_
  rintro e w1 ⟨rfl, hk⟩
  have hb := (hk.block w.heap.size (by simp) (fun f => f)).trans (new_at w _ _ rfl)
  have r0 := (cell_of_block hb 0).trans rfl
  have r1 := (cell_of_block hb 1).trans rfl
  have r2 := (cell_of_block hb 2).trans rfl
  have q0 := free_of_block hb 0
  have q1 := free_of_block hb 1
  have q2 := free_of_block hb 2
  go_wp2
  exact eff_end 4 rfl rfl hb rfl rfl _ _ _ (fun w' hk2 => ⟨rfl, RAfter.drop1 h ⟨vc, vl, (h.alloc _).kept hk (fun _ _ f => f), hk.mono (fun _ f _ => f.elim), .refl _ _, .refl _ _⟩ hk2⟩)
theorem rreserve_many (p : Nat) (vc vl : Value) (A : Ar) (n : Int) (w : World) (h : IsRef w p vc vl A) (hn : ¬ n < 1) (hm : (A.size : Int) - A.cells.length < n) :
    Calls Try.prog 31 #[.pointer (some ⟨p, 0, none⟩), .int .i64 n] w fun e w' => e = .returned (bad 22).value ∧ RAfter w w' p vc vl A := by
  have hf := h.fit
  have h1 := h.alloc (.cells #[.int .i64 0, .bool false, .int .i64 0] 51)
  have c0 := h1.c0
  have c1 := h1.c1
  have HH : Hid (IsRef w p vc vl A) := h
  obtain ⟨ao, cap, rfl⟩ := own_shape h.cells
  clear h h1
  go_enter Try.func31, Try.ntmps31
  go_wp2_with fail
  go_quiet (fail)
  go_wp2_with fail
  refine (refused_any 22 _).mono ?_
  rintro e w1 ⟨rfl, hk⟩
  have hk1 : Keeps None (w.alloc (.cells #[.int .i64 0, .bool false, .int .i64 0] 51)) w1 := (Keeps.drewN None _ _).trans hk (fun _ f _ => f)
  have hb := (hk1.block w.heap.size (by simp) (fun f => f)).trans (new_at w _ _ rfl)
  have r0 := (cell_of_block hb 0).trans rfl
  have r1 := (cell_of_block hb 1).trans rfl
  have r2 := (cell_of_block hb 2).trans rfl
  have q0 := free_of_block hb 0
  have q1 := free_of_block hb 1
  have q2 := free_of_block hb 2
  go_wp2
  exact eff_end 4 rfl rfl hb rfl rfl _ _ _ (fun w' hk2 => ⟨rfl, RAfter.drop1 HH.out ⟨_, vl, (HH.out.alloc _).kept hk1 (fun _ _ f => f), hk1.mono (fun _ f _ => f.elim), .refl _ _, .refl _ _⟩ hk2⟩)

/-- One zero more. -/
theorem held_append (p : Nat) (vc vl : Value) (A : Ar) (w : World) (h : IsRef w p vc vl A) (hfit : A.cells.length < A.size) :
    ∃ g cap w1, (Builtin.append_ #[31, 31] 31 #[vc, .slice (some ⟨w.heap.size, 0, none⟩) 1 1]).run Try.prog (w.alloc (.cells #[.int .i64 0] 2)) = .ok (.slice (some ⟨g, 0, none⟩) (A.cells.length + 1) cap) w1 ∧
      w1.cell? ⟨p, 1, none⟩ = some vc ∧ w1.frozen? ⟨p, 1, none⟩ = false ∧
      IsRef (w1.setCell ⟨p, 1, none⟩ (.slice (some ⟨g, 0, none⟩) (A.cells.length + 1) cap)) p (.slice (some ⟨g, 0, none⟩) (A.cells.length + 1) cap) vl (A.more 1) ∧
      Keeps (Foot p vc vl) w (w1.setCell ⟨p, 1, none⟩ (.slice (some ⟨g, 0, none⟩) (A.cells.length + 1) cap)) ∧ Moved w vc (.slice (some ⟨g, 0, none⟩) (A.cells.length + 1) cap) := by
  obtain ⟨i0, hi, hz0, hz1, hz2⟩ := info_parts Try.infoI64
  have hf := h.fit
  obtain ⟨v', w1, hr, ho, hgr, hm, -⟩ := run_append_moved (P := Try.prog) (w.alloc (.cells #[.int .i64 0] 2)) 0 31 31 2 i0 _ 1 8 Try.underlying31 hi hz0 hz1 hz2 rfl (by decide) vc A.cells.length _ (h.alloc _).cells
    ⟨w.heap.size, 0, none⟩ 1 1 [.int .i64 0] rfl (by
      intro j u hu
      rw [show (⟨w.heap.size, 0, none⟩ : Addr).add j = ⟨w.heap.size, j, none⟩ by unfold Addr.add; split <;> simp_all, cell_of_block (new_at w _ _ rfl)]
      simpa using hu) (by intro u hu; simp at hu; subst hu; rfl) (by unfold maxLen; omega) (by omega) (Nat.zero_le _)
  obtain ⟨g, cap, rfl⟩ : ∃ g cap, v' = .slice (some ⟨g, 0, none⟩) (A.cells.length + 1) cap := by
    rcases ho.2 with ⟨_, h0⟩ | ⟨b, cap, cur, rfl, _⟩
    · omega
    · exact ⟨b, cap, rfl⟩
  have hk1 : Keeps (fun i => vc.ownBlock = some i) w w1 := ((Keeps.refl _ w).andAlloc _).andGrown hgr (fun k e => .inl e)
  refine ⟨g, cap, w1, hr, hk1.cell h.c1 h.ncp, (World.frozen?_of_block (hk1.block p h.lt h.ncp)).trans (h.free 1), h.longer hk1 (fun _ h => h) hfit (by simpa using ho), (hk1.mono (fun _ e _ => .inr (.inl e))).andSet (x := ⟨p, 1, none⟩) (.inl (.inl rfl)) _, ?_⟩
  rcases hm with hm | ⟨g', e, hg⟩
  · exact .inl hm
  · exact .inr ⟨g', e, by simp at hg; omega⟩

theorem more_more (A : Ar) (k : Nat) : (A.more k).more 1 = A.more (k + 1) := by simp [Ar.more, List.replicate_succ']
theorem more_zero (A : Ar) : A.more 0 = A := by simp [Ar.more]

set_option maxHeartbeats 1600000 in
theorem rreserve_fits (p : Nat) (vc vl : Value) (A : Ar) (n : Nat) (w : World) (h : IsRef w p vc vl A) (hn : 0 < n) (hfit : A.cells.length + n ≤ A.size) (hlog : A.log.length < 1000000000000) :
    Calls Try.prog 31 #[.pointer (some ⟨p, 0, none⟩), .int .i64 n] w fun e w' => e = .returned (Eff.value ⟨A.cells.length, true, 0⟩) ∧ RAfter w w' p vc vl ((A.more n).noted ⟨0, 4, A.cells.length, n, 0, true⟩) := by
  have hf := h.fit
  have h1 := h.alloc (.cells #[.int .i64 0, .bool false, .int .i64 0] 51)
  have c0 := h1.c0
  have c1 := h1.c1
  have HH : Hid (IsRef w p vc vl A) := h
  obtain ⟨ao, cap, rfl⟩ := own_shape h.cells
  clear h h1
  go_enter Try.func31, Try.ntmps31
  go_wp2_with fail
  go_quiet (fail)
  go_wp2_with fail
  go_loopw [6] (fun i wr => ∃ k : Nat, k ≤ n ∧ i = .int .i64 k ∧ ∃ vc', IsRef wr p vc' vl (A.more k) ∧ Keeps (Foot p (.slice ao A.cells.length cap) vl) (w.alloc (.cells #[.int .i64 0, .bool false, .int .i64 0] 51)) wr ∧ Moved (w.alloc (.cells #[.int .i64 0, .bool false, .int .i64 0] 51)) (.slice ao A.cells.length cap) vc') (fun i _ => n - (intOf i).toNat)
  case atStart => exact ⟨0, Nat.zero_le _, rfl, _, by rw [more_zero]; exact (HH.out.alloc _).kept (Keeps.drewN None _ _) (fun _ _ f => f), Keeps.drewN _ _ _, .refl _ _⟩
  case round =>
    obtain ⟨k, hk, rfl, vc', hR, hK, hM⟩ := hrel
    by_cases hkn : k < n
    · obtain ⟨g, cp, w1, hr, d1, f1, hR1, hK1, hM1⟩ := held_append p vc' vl (A.more k) wr hR (by simp [Ar.more]; omega)
      have e1 := (hR.alloc (.cells #[.int .i64 0] 2)).c1
      have e2 := hR.c1
      have HN : Hid (∃ vc', IsRef (w1.setCell ⟨p, 1, none⟩ (.slice (some ⟨g, 0, none⟩) ((A.more k).cells.length + 1) cp)) p vc' vl (A.more (k + 1)) ∧ Keeps (Foot p (.slice ao A.cells.length cap) vl) (w.alloc (.cells #[.int .i64 0, .bool false, .int .i64 0] 51)) (w1.setCell ⟨p, 1, none⟩ (.slice (some ⟨g, 0, none⟩) ((A.more k).cells.length + 1) cp)) ∧ Moved (w.alloc (.cells #[.int .i64 0, .bool false, .int .i64 0] 51)) (.slice ao A.cells.length cap) vc') := by
        refine ⟨_, by rw [← more_more]; exact hR1, ?_, hM.trans hM1 hK.size⟩
        refine hK.trans hK1 ?_
        intro i hi hlt
        rcases hi with rfl | hi | hi
        · exact .inl rfl
        · rcases hM with hM | ⟨g, hM, hg⟩
          · exact .inr (.inl (hM ▸ hi))
          · rw [hM] at hi; injection hi with hi; omega
        · exact .inr (.inr hi)
      obtain ⟨ao', cp', rfl⟩ := own_shape hR.cells
      clear hR hK hM hR1 hK1 hM1
      go_wp2_with (at_builtin; refine wpList_append_run rfl (.tmp 37) (.tmp 38) 31 31 rfl rfl rfl hr ?_)
      go_roundw
      case rel => exact ⟨k + 1, by omega, by go_num, HN.out⟩
      case measure => simp [intOf]; omega
    · obtain rfl : k = n := by omega
      have c3 := hR.c3
      have hcn := rnote_any p vc' vl (A.more k) 4 A.cells.length k 0 true wr hR hlog
      have e3 : (A.more k).actor = A.actor := rfl
      rw [e3] at c3 hcn
      have HR : Hid (Keeps (Foot p (.slice ao A.cells.length cap) vl) (w.alloc (.cells #[.int .i64 0, .bool false, .int .i64 0] 51)) wr ∧ Moved (w.alloc (.cells #[.int .i64 0, .bool false, .int .i64 0] 51)) (.slice ao A.cells.length cap) vc') := ⟨hK, hM⟩
      clear hR hK hM e3
      go_wp2_with fail
      refine hcn.mono ?_
      rintro e w1 ⟨rfl, hA⟩
      have hA2 := RAfter.trans HR.out.1 HR.out.2 (.refl _ _) hA
      have hb := ref_res HH.out hA2.choose_spec.choose_spec.2.1
      have r0 := (cell_of_block hb 0).trans rfl
      have r1 := (cell_of_block hb 1).trans rfl
      have r2 := (cell_of_block hb 2).trans rfl
      have q0 := free_of_block hb 0
      have q1 := free_of_block hb 1
      have q2 := free_of_block hb 2
      clear hcn hA HR
      go_wp2
      exact eff_end 4 rfl rfl hb rfl rfl _ _ _ (fun w' hk2 => ⟨rfl, RAfter.drop1 HH.out hA2 hk2⟩)
end Go.Proofs.Ytaipeclmfgdegaa
