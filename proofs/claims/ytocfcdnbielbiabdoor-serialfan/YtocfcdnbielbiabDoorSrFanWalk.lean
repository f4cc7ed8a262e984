import Derived.Test.YtocfcdnbielbiabDoorSrFan
import Derived.Test.YtocfcdnbielbiabDoorSrLit
/-! SerialFan: the walk. -/
namespace Go.Proofs.YtocfcdnbielbiabDoor
set_option linter.unusedVariables false
set_option maxRecDepth 20000
open Go.RowKit Go.HeapKit Go.PlainOps

theorem Tryd.infoIns : (Tryd.prog.info? 50).map (fun i => (i.zero, i.size, i.bytes)) = some (some (.agg #[.int .i64 0, .int .i64 0, .int .i64 0, .int .i64 0, .int .i64 0]), 5, 40) := by kernel_rfl
theorem codeC_len (l : List Ins) : (codeC l).length = l.length * 5 := by
  induction l with
  | nil => rfl
  | cons x l ih => simp only [codeC, List.flatMap_cons, List.length_append, List.length_cons] at ih ⊢; rw [ih]; simp [insCells]; omega
/-- 'append(code, i)'. -/
theorem code_more (base : Nat) (v : Value) (l : List Ins) (i : Ins) (w : World) (h : w.ownsRow base 50 5 v l.length (codeC l)) (hb : base ≤ w.heap.size) (hl : l.length ≤ 600) :
    ∃ v' w', (Builtin.append_ #[44, 44] 44 #[v, .slice (some ⟨w.heap.size, 0, none⟩) 1 1]).run Tryd.prog (w.alloc (.cells #[.int .i64 i.kind, .int .i64 i.a, .int .i64 i.b, .int .i64 i.c, .int .i64 i.k] 50)) = .ok v' w' ∧
      w'.ownsRow base 50 5 v' (l ++ [i]).length (codeC (l ++ [i])) ∧ Keeps (fun k => v.ownBlock = some k) w w' ∧ Moved w v v' := by
  obtain ⟨i0, hi, hz0, hz1, hz2⟩ := info_parts Tryd.infoIns
  have hal := Keeps.alloc None w (.cells #[.int .i64 i.kind, .int .i64 i.a, .int .i64 i.b, .int .i64 i.c, .int .i64 i.k] 50)
  have hg := heap_alloc_new w (.cells #[.int .i64 i.kind, .int .i64 i.a, .int .i64 i.b, .int .i64 i.c, .int .i64 i.k] 50)
  have h1 := hal.own h (fun _ _ f => f)
  obtain ⟨v', w', hr, ho, hgr, hm, -⟩ := run_append_moved (P := Tryd.prog) _ base 44 44 50 i0 _ 5 40 Tryd.underlying44 hi hz0 hz1 hz2 rfl (by decide) v l.length (codeC l) h1
    ⟨w.heap.size, 0, none⟩ 1 1 (insCells i) rfl (by
      intro j u hu
      rw [show (⟨w.heap.size, 0, none⟩ : Addr).add j = ⟨w.heap.size, j, none⟩ by unfold Addr.add; split <;> simp_all, blk_cell hg]
      simpa [insCells] using hu) (by
      intro u hu
      simp [insCells] at hu
      rcases hu with rfl | rfl | rfl | rfl | rfl <;> rfl) (by unfold maxLen; omega) (by omega) (by simp; omega)
  refine ⟨v', w', hr, ?_, ((Keeps.refl _ w).andAlloc _).andGrown hgr (fun k e => .inl e), hm.back hal.size⟩
  have e : codeC (l ++ [i]) = codeC l ++ insCells i := by simp [codeC]
  rw [e, List.length_append]
  exact ho
theorem seen_row {w : World} {base : Nat} {v : Value} {l : List Ins} (h : w.ownsRow base 50 5 v l.length (codeC l)) : ∃ ca cc, v = .slice ca l.length cc ∧ SeenI w ca l.length l := by
  rcases h.2 with ⟨rfl, h0⟩ | ⟨g, cap, cur, rfl, _, hb, hn, _, hcs, htk⟩
  · exact ⟨none, 0, by rw [h0], ⟨rfl, fun hp => by omega⟩⟩
  · refine ⟨_, cap, rfl, ⟨rfl, fun _ => ⟨g, 0, rfl, blk_lt hb, fun k i hi => ?_⟩⟩⟩
    have hc : ∀ j x, (insCells i)[j]? = some x → w.cell? ⟨g, 0 + k * 5 + j, none⟩ = some x := fun j x hx => by
      have h1 := codeC_at l k i hi j x hx
      rw [blk_cell hb, ← Array.getElem?_toList, Nat.zero_add]
      rw [← htk, List.getElem?_take] at h1
      split at h1
      · exact h1
      · cases h1
    exact ⟨hc 0 _ rfl, hc 1 _ rfl, hc 2 _ rfl, hc 3 _ rfl, hc 4 _ rfl⟩
theorem own_base {w : World} {base : Nat} {e : TypeId} {size : Nat} {v : Value} {n : Nat} {xs : List Value} (h : w.ownsRow base e size v n xs) {g : Nat} (hg : v.ownBlock = some g) : base ≤ g := by
  rcases h.2 with ⟨rfl, _⟩ | ⟨g', cap, cur, rfl, hb, _⟩
  · simp [Value.ownBlock] at hg
  · simp [Value.ownBlock] at hg
    subst hg
    exact hb
/-- The fan's program lies in memory. -/
theorem fan_seen {w : World} {H K M : Nat} {v1 v2 : Value} {base : Nat} (h1 : w.ownsRow base 50 5 v1 (rootC K).length (codeC (rootC K))) (h2 : w.ownsRow base 50 5 v2 (leafC M).length (codeC (leafC M)))
    (hb : w.heap[H]? = some (.cells #[.int .i64 0, .int .i64 1, .int .i64 K, v1, .int .i64 0, .int .i64 1, .int .i64 0, v2] 46 (0, 0))) : SeenF w (some ⟨H, 0, none⟩) 2 (fanP K M) := by
  obtain ⟨ca, cc, rfl, s1⟩ := seen_row h1
  obtain ⟨cb, cd, rfl, s2⟩ := seen_row h2
  refine ⟨rfl, fun _ => ⟨_, 0, rfl, blk_lt hb, fun k f hf => ?_⟩⟩
  match k, hf with
  | 0, hf =>
    simp [fanP] at hf
    subst hf
    exact ⟨ca, cc, ⟨(cell_of_heap hb 0).trans rfl, (cell_of_heap hb 1).trans rfl, (cell_of_heap hb 2).trans rfl, (cell_of_heap hb 3).trans rfl, s1⟩⟩
  | 1, hf =>
    simp [fanP] at hf
    subst hf
    exact ⟨cb, cd, ⟨(cell_of_heap hb 4).trans rfl, (cell_of_heap hb 5).trans rfl, (cell_of_heap hb 6).trans rfl, (cell_of_heap hb 7).trans rfl, s2⟩⟩
  | k + 2, hf => simp [fanP] at hf
set_option maxHeartbeats 2000000 in
theorem fan_any (K M : Nat) (hK : K ≤ 8) (hM : M ≤ 510) (w : World) : Calls Tryd.prog 8 #[.int .i64 K, .int .i64 M] w fun e w' => ∃ H, e = .returned (.agg #[.slice (some ⟨H, 0, none⟩) 2 2]) ∧ SeenF w' (some ⟨H, 0, none⟩) 2 (fanP K M) ∧ Keeps None w w' := by
  obtain ⟨B, hB⟩ : ∃ B, B = w.heap.size := ⟨_, rfl⟩
  have bP := heap_alloc_new w (.cells #[.slice none 0 0] 30)
  have hal := Keeps.alloc None w (.cells #[.slice none 0 0] 30)
  obtain ⟨W, hW⟩ : ∃ W, W = w.alloc (.cells #[.slice none 0 0] 30) := ⟨_, rfl⟩
  have sW : W.heap.size = B + 1 := by rw [hW, hB]; simp
  rw [← hW, ← hB] at bP
  rw [← hW] at hal
  have HX : Hid (Keeps None w W ∧ W.heap[B]? = some (.cells #[.slice none 0 0] 30 (0, 0)) ∧ W.heap.size = B + 1 ∧ B = w.heap.size) := ⟨hal, bP, sW, hB⟩
  clear bP hal sW
  go_enter Tryd.func8, Tryd.ntmps8
  go_upto_region 1 with fail
  rw [← hW, ← hB]
  clear hW hB
  go_wp2_with fail
  go_loopw [5, 6] (fun s5 s6 wr => ∃ k : Nat, k ≤ K ∧ s6 = .int .i64 k ∧ wr.ownsRow (B + 1) 50 5 s5 ((List.range k).map spI).length (codeC ((List.range k).map spI)) ∧ Keeps None W wr) (fun _ i _ => K - (intOf i).toNat)
  case atStart => exact ⟨0, Nat.zero_le _, rfl, ⟨rfl, .inl ⟨rfl, rfl⟩⟩, Keeps.refl _ _⟩
  case round =>
    obtain ⟨k, hk, rfl, hrow, hkp⟩ := hrel
    by_cases hkK : k < K
    · have i1 : (k : Int) < (K : Int) := by omega
      obtain ⟨v', w', hr, ho, hk', hm⟩ := code_more (B + 1) _ _ (spI k) wr hrow (by have := hkp.size; have := HX.out.2.2.1; omega) (by simp; omega)
      have hkn : Keeps None W w' := hkp.trans hk' (fun g e hg => by have := own_base hrow e; have := HX.out.2.2.1; omega)
      have e1 : (List.range k).map spI ++ [spI k] = (List.range (k + 1)).map spI := by rw [List.range_succ, List.map_append]; rfl
      rw [e1] at ho
      have HO : Hid _ := And.intro ho hkn
      unfold spI at hr
      simp only at hr
      clear ho hkn hk' hm hrow hkp e1
      go_wp2_with (at_builtin; refine wpList_append_run rfl (.tmp 14) (.tmp 17) 44 44 rfl rfl rfl hr ?_)
      exact ⟨⟨k + 1, by omega, by simp, HO.out.1, HO.out.2⟩, by simp [intOf]; omega⟩
    · have i1 : ¬ ((k : Int) < (K : Int)) := by omega
      obtain rfl : k = K := by omega
      obtain ⟨v1, w1, hr1, ho1, hk1, hm1⟩ := code_more (B + 1) _ _ ⟨6, 0, 0, 0, 0⟩ wr hrow (by have := hkp.size; have := HX.out.2.2.1; omega) (by simp; omega)
      have hkn1 : Keeps None W w1 := hkp.trans hk1 (fun g e hg => by have := own_base hrow e; have := HX.out.2.2.1; omega)
      obtain ⟨v2, w2, hr2, ho2, hk2, hm2⟩ := code_more (B + 1) _ _ ⟨9, 0, 0, 0, 0⟩ w1 ho1 (by have := hkn1.size; have := HX.out.2.2.1; omega) (by simp; omega)
      have hkn2 : Keeps None W w2 := hkn1.trans hk2 (fun g e hg => by have := own_base ho1 e; have := HX.out.2.2.1; omega)
      have er : (List.range k).map spI ++ [⟨6, 0, 0, 0, 0⟩] ++ [⟨9, 0, 0, 0, 0⟩] = rootC k := by simp [rootC]
      rw [er] at ho2
      have HO : Hid (w2.ownsRow (B + 1) 50 5 v2 (rootC k).length (codeC (rootC k)) ∧ Keeps None W w2) := ⟨ho2, hkn2⟩
      simp only at hr1 hr2
      clear ho1 ho2 hkn1 hkn2 hk1 hk2 hm1 hm2 hrow hkp er
      go_upto_region 9 with (first
        | (at_builtin; refine wpList_append_run rfl (.tmp 19) (.tmp 21) 44 44 rfl rfl rfl hr1 ?_)
        | (at_builtin; refine wpList_append_run rfl (.tmp 23) (.tmp 25) 44 44 rfl rfl rfl hr2 ?_))
      clear hr1 hr2
      go_wp2_with fail
      go_loopw [7, 8] (fun s7 s8 wr => ∃ j : Nat, j ≤ M ∧ s8 = .int .i64 j ∧ wr.ownsRow (B + 1) 50 5 s7 (List.replicate j mvI).length (codeC (List.replicate j mvI)) ∧ wr.ownsRow (B + 1) 50 5 v2 (rootC k).length (codeC (rootC k)) ∧ (∀ g, s7.ownBlock = some g → v2.ownBlock ≠ some g) ∧ Keeps None W wr) (fun _ i _ => M - (intOf i).toNat)
      case atStart => exact ⟨0, Nat.zero_le _, rfl, ⟨rfl, .inl ⟨rfl, rfl⟩⟩, HO.out.1, fun g e => by simp [Value.ownBlock] at e, HO.out.2⟩
      case round =>
        obtain ⟨j, hj, rfl, hrow, hrow2, hne, hkp⟩ := hrel
        by_cases hjM : j < M
        · have i2 : (j : Int) < (M : Int) := by omega
          obtain ⟨v', w', hr, ho, hk', hm⟩ := code_more (B + 1) _ _ mvI wr hrow (by have := hkp.size; have := HX.out.2.2.1; omega) (by simp; omega)
          have hkn : Keeps None W w' := hkp.trans hk' (fun g e hg => by have := own_base hrow e; have := HX.out.2.2.1; omega)
          have e1 : List.replicate j mvI ++ [mvI] = List.replicate (j + 1) mvI := by rw [List.replicate_succ']
          rw [e1] at ho
          have hr2' := hk'.own hrow2 (fun g e q => hne g q e)
          have hne' : ∀ g, v'.ownBlock = some g → v2.ownBlock ≠ some g := fun g e q => by
            rcases hm with hm | ⟨g2, e2, h2⟩
            · exact hne g (hm ▸ e) q
            · rw [e2] at e
              obtain rfl := Option.some.inj e
              have := own_lt hrow2 q
              omega
          have HQ : Hid _ := And.intro ho (And.intro hr2' (And.intro hne' hkn))
          unfold mvI at hr
          simp only at hr
          clear ho hkn hk' hm hrow hrow2 hne hne' hr2' hkp e1
          go_wp2_with (at_builtin; refine wpList_append_run rfl (.tmp 32) (.tmp 34) 44 44 rfl rfl rfl hr ?_)
          exact ⟨⟨j + 1, by omega, by simp, HQ.out.1, HQ.out.2.1, HQ.out.2.2.1, HQ.out.2.2.2⟩, by simp [intOf]; omega⟩
        · have i2 : ¬ ((j : Int) < (M : Int)) := by omega
          obtain rfl : j = M := by omega
          obtain ⟨x1, w3, hr3, ho3, hk3, hm3⟩ := code_more (B + 1) _ _ ⟨8, 0, 0, 0, 0⟩ wr hrow (by have := hkp.size; have := HX.out.2.2.1; omega) (by simp; omega)
          have hkn3 : Keeps None W w3 := hkp.trans hk3 (fun g e hg => by have := own_base hrow e; have := HX.out.2.2.1; omega)
          have hrB := hk3.own hrow2 (fun g e q => hne g q e)
          have hne3 : ∀ g, x1.ownBlock = some g → v2.ownBlock ≠ some g := fun g e q => by
            rcases hm3 with hm | ⟨g2, e2, h2⟩
            · exact hne g (hm ▸ e) q
            · rw [e2] at e
              obtain rfl := Option.some.inj e
              have := own_lt hrow2 q
              omega
          obtain ⟨x2, w4, hr4, ho4, hk4, hm4⟩ := code_more (B + 1) _ _ ⟨9, 0, 0, 0, 0⟩ w3 ho3 (by have := hkn3.size; have := HX.out.2.2.1; omega) (by simp; omega)
          have hkn4 : Keeps None W w4 := hkn3.trans hk4 (fun g e hg => by have := own_base ho3 e; have := HX.out.2.2.1; omega)
          have hrC := hk4.own hrB (fun g e q => hne3 g q e)
          have er : List.replicate j mvI ++ [⟨8, 0, 0, 0, 0⟩] ++ [⟨9, 0, 0, 0, 0⟩] = leafC j := by simp [leafC]
          rw [er] at ho4
          obtain ⟨ca, cc, rfl, -⟩ := seen_row hrC
          obtain ⟨cb, cd, rfl, -⟩ := seen_row ho4
          have bB := blk_kept HX.out.2.1 hkn4 (fun f => f)
          have hB4 : B < w4.heap.size := blk_lt bB
          have kS := Keeps.setCell (S := (· = B)) w4 (a := ⟨B, 0, none⟩) rfl (.slice (some ⟨w4.heap.size, 0, none⟩) 2 2)
          have bB2 := blk_set (i := 0) bB (.slice (some ⟨w4.heap.size, 0, none⟩) 2 2)
          obtain ⟨w5, h5⟩ : ∃ w5, w5 = w4.setCell ⟨B, 0, none⟩ (.slice (some ⟨w4.heap.size, 0, none⟩) 2 2) := ⟨_, rfl⟩
          have s5 : w5.heap.size = w4.heap.size := by rw [h5]; simp
          rw [← h5] at kS bB2
          have hal := Keeps.alloc None w5 (.cells #[.int .i64 0, .int .i64 1, .int .i64 k, (.slice ca (rootC k).length cc), .int .i64 0, .int .i64 1, .int .i64 0, (.slice cb (leafC j).length cd)] 46)
          have bF := heap_alloc_new w5 (.cells #[.int .i64 0, .int .i64 1, .int .i64 k, (.slice ca (rootC k).length cc), .int .i64 0, .int .i64 1, .int .i64 0, (.slice cb (leafC j).length cd)] 46)
          rw [s5] at bF
          have bB3 := blk_kept bB2 hal (fun f => f)
          have r1 := hal.own (kS.own hrC (fun g e q => by have := own_base hrC e; omega)) (fun _ _ f => f)
          have r2 := hal.own (kS.own ho4 (fun g e q => by have := own_base ho4 e; omega)) (fun _ _ f => f)
          have sn2 := fan_seen r1 r2 bF
          have c0 : w4.cell? ⟨B, 0, none⟩ = some (.slice none 0 0) := (blk_cell bB 0).trans rfl
          have z0 := blk_free bB 0
          have kall := ((HX.out.1.trans hkn4 (fun _ f _ => f)).trans kS (fun g e hg => by have := HX.out.2.2.2; omega)).trans hal (fun _ f _ => f)
          have hld := run_loadVar_row (P := Tryd.prog) _ B _ 30 _ _ _ bB3 Tryd.underlying30 rfl (by kernel_rfl)
          have HF : Hid _ := And.intro sn2 (And.intro kall (And.intro hld h5))
          clear r1 r2 s5 h5
          clear ho3 ho4 hkn3 hkn4 hk3 hk4 hm3 hm4 hrow hrow2 hne hne3 hrB hrC hkp er bB hal bF bB2 kS bB3 sn2 kall hld
          simp only at hr3 hr4
          go_upto_region 15 with (first
            | (at_builtin; refine wpList_append_run rfl (.tmp 36) (.tmp 38) 44 44 rfl rfl rfl hr3 ?_)
            | (at_builtin; refine wpList_append_run rfl (.tmp 40) (.tmp 42) 44 44 rfl rfl rfl hr4 ?_))
          clear hr3 hr4
          go_wp2_with fail
          obtain ⟨sn2, kall, hld, h5⟩ := HF.out
          subst h5
          refine bodyPost_ret (results_one (q := 4) (ty := 30) rfl rfl hld) rfl ?_
          exact ⟨w4.heap.size, rfl, sn2, kall⟩
end Go.Proofs.YtocfcdnbielbiabDoor
