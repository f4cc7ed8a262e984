import Derived.Test.YtoehkjfdaolcnaaDoorPkAB
import Derived.Test.YtoehkjfdaolcnaaDoorPkAD
/-! A step of the search: what follows an instruction, a slot's state behind it, whether a point was met. -/
namespace Go.Proofs.YtoehkjfdaolcnaaDoor
set_option linter.unusedVariables false
set_option maxRecDepth 20000
open Go.RowKit Go.HeapKit

theorem _root_.Go.HeapKit.Keeps.drewN (S : Nat → Prop) (w : World) (n : Nat) : Keeps S w (w.drewN n) := ⟨rfl, rfl, rfl, Nat.le_refl _, fun _ _ _ => rfl⟩
theorem after_any (i : Ins) (slot st : Int) (w : World) : Calls Tryd.prog 84 #[insV i, .int .i64 slot, .int .i64 st] w fun e w' => e = .returned (.int .i64 (afterV i slot st)) ∧ Keeps None w w' := by
  obtain ⟨ik, ia, ib, ic, iK⟩ := i
  unfold insV
  go_enter Tryd.func84, Tryd.ntmps84
  go_wp2
  all_goals first
    | (go_ret; refine ⟨?_, (Keeps.refl _ _).andAlloc _⟩; simp_all [afterV]; done)
theorem met_any (g n : Nat) (fr : List Pt) (a st : Nat) (w : World) (hF : IsFrom w g n fr) (ha : a < n) (hs : st < 5) :
    Calls Tryd.prog 86 #[.slice (some ⟨g, 0, none⟩) n n, .agg #[.int .i64 a, .int .i64 st]] w fun e w' => e = .returned (.bool (metV fr (a, st))) ∧ Keeps None w w' := by
  obtain ⟨x, hx⟩ : ∃ x, fr[a * 5 + st]? = some x := ⟨fr[a * 5 + st]'(by have := hF.len; omega), by simp⟩
  have hF2 := hF.kept (Keeps.alloc None w (.cells #[.int .i64 a, .int .i64 st] 106)) (fun f => f)
  have y1 := (hF2.at hx).2
  have hv : metV fr (a, st) = (x.2 != 0) := by
    have h1 : metV fr (a, st) = decide (x.2 ≠ 0) := by
      unfold metV ptIx
      simp [hx]
    rw [h1]
    by_cases h : x.2 = 0 <;> simp [h]
  rw [hv]
  have e1 : (a * 5 + st) * 2 + 1 = a * 10 + st * 2 + 1 := by omega
  rw [e1] at y1
  have i1 : (a : Int) < (n : Int) := by omega
  have i2 : (st : Int) < 5 := by omega
  clear hv hF hF2
  go_enter Tryd.func86, Tryd.ntmps86
  go_upto_region 1 with fail
  go_quiet (fail)
  go_wp2_with fail
  go_ret
  exact ⟨rfl, ((Keeps.refl _ w).andAlloc _).trans (Keeps.drewN None _ _) (fun _ f _ => f)⟩

structure Out (w : World) (v0 : Value) (w' : World) (v' : Value) (l : List Int) : Prop where
  own : w'.ownsRow 0 3 1 v' l.length (l.map (Value.int .i64))
  keep : Keeps (fun k => v0.ownBlock = some k) w w'
  mov : ∀ g, v'.ownBlock = some g → v0.ownBlock = some g ∨ w.heap.size ≤ g
set_option maxRecDepth 20000 in
set_option maxHeartbeats 1000000 in
theorem exits_any (v0 : Value) (a : Int) (i : Ins) (w : World) (hT : Tabs w) (h0 : w.ownsRow 0 3 1 v0 0 []) (hk0 : 0 ≤ i.kind) (hk1 : i.kind < 10) (ha : 0 ≤ a ∧ a < 600) :
    Calls Tryd.prog 85 #[v0, .int .i64 a, insV i] w fun e w' => ∃ v', e = .returned v' ∧ Out w v0 w' v' (exitsV a i) := by
  obtain ⟨ik, ia, ib, ic, iK⟩ := i
  simp only at hk0 hk1
  obtain ⟨k, rfl⟩ := Int.eq_ofNat_of_zero_le hk0
  have hk10 : k < 10 := by omega
  obtain ⟨sa, cs, hv0⟩ : ∃ ao cap, v0 = .slice ao 0 cap := by
    rcases h0.2 with ⟨rfl, _⟩ | ⟨g, cap, cur, rfl, _⟩
    · exact ⟨none, 0, rfl⟩
    · exact ⟨_, cap, rfl⟩
  subst hv0
  have hlow : ∀ g, (Value.slice sa 0 cs).ownBlock = some g → g < w.heap.size := fun g e => own_lt h0 e
  have hkA := Keeps.alloc None w (.cells #[.int .i64 k, .int .i64 ia, .int .i64 ib, .int .i64 ic, .int .i64 iK] 39)
  have b1 := heap_alloc_new w (.cells #[.int .i64 k, .int .i64 ia, .int .i64 ib, .int .i64 ic, .int .i64 iK] 39)
  have hT2 := hT.more hkA
  generalize hw1 : w.alloc (.cells #[.int .i64 k, .int .i64 ia, .int .i64 ib, .int .i64 ic, .int .i64 iK] 39) = w1 at hkA b1 hT2
  obtain ⟨t0, t1, t2, t3, t4⟩ := hT2.at k hk10
  have e0 := (cell_of_heap b1 0).trans rfl
  have i0 : (0 : Int) ≤ (k : Int) := by omega
  have HB : Hid (w1.heap[w.heap.size]? = some (.cells #[.int .i64 k, .int .i64 ia, .int .i64 ib, .int .i64 ic, .int .i64 iK] 39 (0, 0)) ∧ Keeps None w w1 ∧ w1.ownsRow 0 3 1 (.slice sa 0 cs) 0 [] ∧ w.heap.size < w1.heap.size) := ⟨b1, hkA, hkA.own h0 (fun _ _ f => f), blk_lt b1⟩
  have i9 : wrap64 (a + 1) = a + 1 := by unfold wrap64; omega
  clear b1 hT2 hkA hT h0
  unfold insV
  go_enter Tryd.func85, Tryd.ntmps85
  go_upto_region 1 with fail
  go_cut [7] (fun s7 wx => s7 = .pointer (some ⟨w1.heap.size, 0, none⟩) ∧ wx.heap[w1.heap.size]? = some (.cells #[.int .i64 (fA k), .int .i64 (fB k), .int .i64 (fC k), .int .i64 (fK k), .bool (fN k)] 97 (0, 0)) ∧ Keeps None w1 wx)
  case first =>
    go_wp2_with fail
    go_meet
    exact ⟨rfl, heap_alloc_new _ _, Keeps.alloc _ _ _⟩
  case rest =>
    obtain ⟨rfl, hF, hkx⟩ := hcut
    have b1 := blk_kept HB.out.1 hkx (fun f => f)
    have hrow := hkx.own HB.out.2.2.1 (fun _ _ f => f)
    have hkW : Keeps None w wc := HB.out.2.1.trans hkx (fun _ f _ => f)
    have hsz : w.heap.size < wc.heap.size := Nat.lt_of_lt_of_le HB.out.2.2.2 hkx.size
    have hF0 := (cell_of_heap hF 0).trans rfl
    have hF1 := (cell_of_heap hF 1).trans rfl
    have hF4 := (cell_of_heap hF 4).trans rfl
    have q1 := (cell_of_heap b1 1).trans rfl
    have q2 := (cell_of_heap b1 2).trans rfl
    have HW : Hid (wc.heap[w1.heap.size]? = some (.cells #[.int .i64 (fA k), .int .i64 (fB k), .int .i64 (fC k), .int .i64 (fK k), .bool (fN k)] 97 (0, 0)) ∧ wc.heap[w.heap.size]? = some (.cells #[.int .i64 k, .int .i64 ia, .int .i64 ib, .int .i64 ic, .int .i64 iK] 39 (0, 0)) ∧ wc.ownsRow 0 3 1 (.slice sa 0 cs) 0 [] ∧ Keeps None w wc ∧ w.heap.size < wc.heap.size) := ⟨hF, b1, hrow, hkW, hsz⟩
    have HH : Hid (∀ g, (Value.slice sa 0 cs).ownBlock = some g → g < w.heap.size) := hlow
    clear hF b1 hrow hkW hsz hkx t0 t1 t2 t3 t4 e0 hw1 hlow
    have HX : Hid (exitsV a ⟨k, ia, ib, ic, iK⟩ = (if fN k then [a + 1] else []) ++ (if fA k = 3 then [ia] else []) ++ (if fB k = 3 then [ib] else [])) := by
      unfold Hid
      simp [exitsV]
    have hc4 : (fN k = true ∧ fA k ≠ 3 ∧ fB k ≠ 3) ∨ (fN k = false ∧ fA k = 3 ∧ fB k ≠ 3) ∨ (fN k = true ∧ fA k ≠ 3 ∧ fB k = 3) ∨ (fN k = false ∧ fA k ≠ 3 ∧ fB k ≠ 3) := by
      have : ∀ k, k < 10 → (fN k = true ∧ fA k ≠ 3 ∧ fB k ≠ 3) ∨ (fN k = false ∧ fA k = 3 ∧ fB k ≠ 3) ∨ (fN k = true ∧ fA k ≠ 3 ∧ fB k = 3) ∨ (fN k = false ∧ fA k ≠ 3 ∧ fB k ≠ 3) := by decide
      exact this k hk10
    rcases hc4 with ⟨c1, c2, c3⟩ | ⟨c1, c2, c3⟩ | ⟨c1, c2, c3⟩ | ⟨c1, c2, c3⟩
    · have c2' : (fA k == 3) = false := by simpa using c2
      have c3' : (fB k == 3) = false := by simpa using c3
      obtain ⟨g2, cp2, w2, hr2, ho2, hk2, hm2⟩ := int_more 0 (.slice sa 0 cs) [] (a + 1) 0 56 wc.heap.size (wc.alloc (.cells #[.int .i64 (a + 1)] 3)) rfl (HW.out.2.2.1.alloc _) (Nat.zero_le _) (by omega) (heap_alloc_new _ _)
      have hkk : Keeps (fun k => (Value.slice sa 0 cs).ownBlock = some k) wc w2 := ((Keeps.refl _ wc).andAlloc _).trans hk2 (fun _ e _ => e)
      have hn1 : ¬ (Value.slice sa 0 cs).ownBlock = some w1.heap.size := fun e => by have := HH.out _ e; have := HB.out.2.2.2; omega
      have hn2 : ¬ (Value.slice sa 0 cs).ownBlock = some w.heap.size := fun e => by have := HH.out _ e; omega
      have p1 := blk_kept HW.out.1 hkk hn1
      have p2 := blk_kept HW.out.2.1 hkk hn2
      have z0 := (cell_of_heap p1 0).trans rfl
      have z1 := (cell_of_heap p1 1).trans rfl
      have z2 := (cell_of_heap p2 2).trans rfl
      have hsz2 : wc.heap.size ≤ w2.heap.size := hkk.size
      have hm2' : (Value.slice sa 0 cs).ownBlock = some g2 ∨ w.heap.size ≤ g2 := by
        rcases hm2 with e | e
        · exact .inl e
        · simp only [World.size_alloc] at e; have := HW.out.2.2.2.2; exact .inr (by omega)
      have HO : Hid (Out w (.slice sa 0 cs) w2 (.slice (some ⟨g2, 0, none⟩) 1 cp2) [a + 1]) := ⟨ho2, (HW.out.2.2.2.1.mono (fun _ f _ => f.elim)).trans hkk (fun _ e _ => e), fun g e => by simp [Value.ownBlock] at e; subst e; exact hm2'⟩
      have HP : Hid _ := And.intro p1 p2
      clear ho2 hk2 hm2 p1 p2
      rw [c1] at hF4
      go_wp2_with (at_builtin; refine wpList_append_run rfl (.tmp 14) (.tmp 17) 56 56 rfl rfl rfl hr2 ?_)
      go_ret
      refine ⟨_, rfl, ?_⟩
      rw [HX.out, c1, if_neg c2, if_neg c3]
      exact HO.out
    · have c2' : (fA k == 3) = true := by simpa using c2
      have c3' : (fB k == 3) = false := by simpa using c3
      obtain ⟨g2, cp2, w2, hr2, ho2, hk2, hm2⟩ := int_more 0 (.slice sa 0 cs) [] (ia) 0 56 wc.heap.size (wc.alloc (.cells #[.int .i64 (ia)] 3)) rfl (HW.out.2.2.1.alloc _) (Nat.zero_le _) (by omega) (heap_alloc_new _ _)
      have hkk : Keeps (fun k => (Value.slice sa 0 cs).ownBlock = some k) wc w2 := ((Keeps.refl _ wc).andAlloc _).trans hk2 (fun _ e _ => e)
      have hn1 : ¬ (Value.slice sa 0 cs).ownBlock = some w1.heap.size := fun e => by have := HH.out _ e; have := HB.out.2.2.2; omega
      have hn2 : ¬ (Value.slice sa 0 cs).ownBlock = some w.heap.size := fun e => by have := HH.out _ e; omega
      have p1 := blk_kept HW.out.1 hkk hn1
      have p2 := blk_kept HW.out.2.1 hkk hn2
      have z0 := (cell_of_heap p1 0).trans rfl
      have z1 := (cell_of_heap p1 1).trans rfl
      have z2 := (cell_of_heap p2 2).trans rfl
      have hsz2 : wc.heap.size ≤ w2.heap.size := hkk.size
      have hm2' : (Value.slice sa 0 cs).ownBlock = some g2 ∨ w.heap.size ≤ g2 := by
        rcases hm2 with e | e
        · exact .inl e
        · simp only [World.size_alloc] at e; have := HW.out.2.2.2.2; exact .inr (by omega)
      have HO : Hid (Out w (.slice sa 0 cs) w2 (.slice (some ⟨g2, 0, none⟩) 1 cp2) [ia]) := ⟨ho2, (HW.out.2.2.2.1.mono (fun _ f _ => f.elim)).trans hkk (fun _ e _ => e), fun g e => by simp [Value.ownBlock] at e; subst e; exact hm2'⟩
      have HP : Hid _ := And.intro p1 p2
      clear ho2 hk2 hm2 p1 p2
      rw [c1] at hF4
      go_wp2_with (at_builtin; refine wpList_append_run rfl (.tmp 22) (.tmp 25) 56 56 rfl rfl rfl hr2 ?_)
      go_ret
      refine ⟨_, rfl, ?_⟩
      rw [HX.out, c1, if_pos c2, if_neg c3]
      exact HO.out
    · have c2' : (fA k == 3) = false := by simpa using c2
      have c3' : (fB k == 3) = true := by simpa using c3
      obtain ⟨g2, cp2, w2, hr2, ho2, hk2, hm2⟩ := int_more 0 (.slice sa 0 cs) [] (a + 1) 0 56 wc.heap.size (wc.alloc (.cells #[.int .i64 (a + 1)] 3)) rfl (HW.out.2.2.1.alloc _) (Nat.zero_le _) (by omega) (heap_alloc_new _ _)
      have hkk : Keeps (fun k => (Value.slice sa 0 cs).ownBlock = some k) wc w2 := ((Keeps.refl _ wc).andAlloc _).trans hk2 (fun _ e _ => e)
      have hn1 : ¬ (Value.slice sa 0 cs).ownBlock = some w1.heap.size := fun e => by have := HH.out _ e; have := HB.out.2.2.2; omega
      have hn2 : ¬ (Value.slice sa 0 cs).ownBlock = some w.heap.size := fun e => by have := HH.out _ e; omega
      have p1 := blk_kept HW.out.1 hkk hn1
      have p2 := blk_kept HW.out.2.1 hkk hn2
      have z0 := (cell_of_heap p1 0).trans rfl
      have z1 := (cell_of_heap p1 1).trans rfl
      have z2 := (cell_of_heap p2 2).trans rfl
      have hsz2 : wc.heap.size ≤ w2.heap.size := hkk.size
      have hm2' : (Value.slice sa 0 cs).ownBlock = some g2 ∨ w.heap.size ≤ g2 := by
        rcases hm2 with e | e
        · exact .inl e
        · simp only [World.size_alloc] at e; have := HW.out.2.2.2.2; exact .inr (by omega)
      have HO : Hid (Out w (.slice sa 0 cs) w2 (.slice (some ⟨g2, 0, none⟩) 1 cp2) [a + 1]) := ⟨ho2, (HW.out.2.2.2.1.mono (fun _ f _ => f.elim)).trans hkk (fun _ e _ => e), fun g e => by simp [Value.ownBlock] at e; subst e; exact hm2'⟩
      have HP : Hid _ := And.intro p1 p2
      clear ho2 hk2 hm2 p1 p2
      obtain ⟨g4, cp4, w4, hr4, ho4, hk4, hm4⟩ := int_more 0 (.slice (some ⟨g2, 0, none⟩) 1 cp2) [a + 1] (ib) 1 56 w2.heap.size (w2.alloc (.cells #[.int .i64 (ib)] 3)) rfl (HO.out.own.alloc _) (Nat.zero_le _) (by omega) (heap_alloc_new _ _)
      have HO2 : Hid (Out w (.slice sa 0 cs) w4 (.slice (some ⟨g4, 0, none⟩) 2 cp4) [a + 1, ib]) := by
        refine ⟨ho4, (HO.out.keep.andAlloc _).trans hk4 (fun i e hi => ?_), fun g e => ?_⟩
        · simp [Value.ownBlock] at e
          subst e
          rcases hm2' with h | h
          · exact h
          · omega
        · simp [Value.ownBlock] at e
          subst e
          rcases hm4 with h | h
          · simp [Value.ownBlock] at h
            subst h
            exact hm2'
          · simp only [World.size_alloc] at h; have := HW.out.2.2.2.2; exact .inr (by omega)
      clear ho4 hk4 hm4
      rw [c1] at hF4
      go_wp2_with (at_builtin; first | refine wpList_append_run rfl (.tmp 14) (.tmp 17) 56 56 rfl rfl rfl hr2 ?_ | refine wpList_append_run rfl (.tmp 30) (.tmp 33) 56 56 rfl rfl rfl hr4 ?_)
      go_ret
      refine ⟨_, rfl, ?_⟩
      rw [HX.out, c1, if_neg c2, if_pos c3]
      exact HO2.out
    · have c2' : (fA k == 3) = false := by simpa using c2
      have c3' : (fB k == 3) = false := by simpa using c3
      rw [c1] at hF4
      go_wp2_with fail
      go_ret
      refine ⟨_, rfl, ?_⟩
      rw [HX.out, c1, if_neg c2, if_neg c3]
      exact ⟨HW.out.2.2.1, HW.out.2.2.2.1.mono (fun _ f _ => f.elim), fun g e => .inl e⟩
end Go.Proofs.YtoehkjfdaolcnaaDoor
