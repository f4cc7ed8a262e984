import Derived.Test.YtnhoedodnbifdaaDgPath
import Derived.Test.YtnhoedodnbifdaaDgREar
/-! Critical and Span; the document's Span. -/
namespace Go.Proofs.Ytnhoedodnbifdaa
set_option linter.unusedVariables false
set_option maxRecDepth 20000
open Go.RowKit Go.HeapKit

def revAt (n i : Nat) (F : Nat → Int) (k : Nat) : Int := if k < i ∨ n < k + 1 + i then F (n - 1 - k) else F k
theorem rev_start (n : Nat) (F : Nat → Int) (h1 : 1 ≤ n) : (List.range n).map (revAt n 0 F) = (List.range n).map F := by
  apply List.map_congr_left
  intro k hk
  have := List.mem_range.1 hk
  unfold revAt
  rw [if_neg (by omega)]
theorem rev_step (n i j : Nat) (F : Nat → Int) (hj : j = n - 1 - i) (hij : i + 1 + i < n) : (((List.range n).map (revAt n i F)).set i (revAt n i F j)).set j (revAt n i F i) = (List.range n).map (revAt n (i + 1) F) := by
  rw [map_range_set, map_range_set]
  apply List.map_congr_left
  intro k hk
  have hk := List.mem_range.1 hk
  unfold revAt
  by_cases e1 : k = j
  · rw [if_pos e1, if_neg (by omega), if_pos (by omega)]
    congr 1
    omega
  · rw [if_neg e1]
    by_cases e2 : k = i
    · rw [if_pos e2, if_neg (by omega), if_pos (by omega)]
      congr 1
      omega
    · rw [if_neg e2]
      by_cases e3 : k < i ∨ n < k + 1 + i
      · rw [if_pos e3, if_pos (by omega)]
      · rw [if_neg e3, if_neg (by omega)]
theorem rev_end (n i : Nat) (F : Nat → Int) (hi : ¬ i + 1 + i < n) (h2 : 2 * i ≤ n) : (List.range n).map (revAt n i F) = (List.range n).map (fun k => F (n - 1 - k)) := by
  apply List.map_congr_left
  intro k hk
  have hk := List.mem_range.1 hk
  unfold revAt
  by_cases e3 : k < i ∨ n < k + 1 + i
  · rw [if_pos e3]
  · rw [if_neg e3]
    congr 1
    omega
set_option maxHeartbeats 1000000 in
theorem rev_row (g n cap base : Nat) (F : Nat → Int) (w : World) (h : w.ownsRow base 3 1 (.slice (some ⟨g, 0, none⟩) n cap) n (iv ((List.range n).map F))) (h1 : 1 ≤ n) (hn : n ≤ 4096) :
    Calls Try.prog 53 #[.slice (some ⟨g, 0, none⟩) n cap] w fun e w' => e = .returned (.tuple #[]) ∧ w'.ownsRow base 3 1 (.slice (some ⟨g, 0, none⟩) n cap) n (iv ((List.range n).map (fun k => F (n - 1 - k)))) ∧ Keeps (· = g) w w' := by
  have H : Hid (w.ownsRow base 3 1 (.slice (some ⟨g, 0, none⟩) n cap) n (iv ((List.range n).map F))) := h
  have mixed : Try.prog.follows Departure.mixedOrders = true := by kernel_rfl
  clear h
  go_enter Try.func53, Try.ntmps53
  go_wp2_with fail
  go_loopw [2, 3] (fun s2 s3 wr => ∃ i : Nat, s2 = .int .i64 i ∧ s3 = .int .i64 ((n : Int) - 1 - i) ∧ 2 * i ≤ n ∧ wr.ownsRow base 3 1 (.slice (some ⟨g, 0, none⟩) n cap) n (iv ((List.range n).map (revAt n i F))) ∧ Keeps (· = g) w wr) (fun _ s3 _ => (intOf s3 + 1).toNat)
  case atStart =>
    exact ⟨0, rfl, by simp, by omega, by rw [rev_start n F h1]; exact H.out, Keeps.refl _ _⟩
  case round =>
    obtain ⟨i, rfl, rfl, hi2, hP, hk⟩ := hrel
    by_cases hlt : i + 1 + i < n
    · have i1 : (i : Int) < (n : Int) - 1 - i := by omega
      obtain ⟨j, hj⟩ : ∃ j : Nat, j = n - 1 - i := ⟨_, rfl⟩
      have ej : (n : Int) - 1 - i = j := by omega
      rw [ej] at i1 ⊢
      have q0 : ((List.range n).map (revAt n i F))[i]? = some (revAt n i F i) := by rw [List.getElem?_map, List.getElem?_range (by omega)]; rfl
      have q1 : ((List.range n).map (revAt n i F))[j]? = some (revAt n i F j) := by rw [List.getElem?_map, List.getElem?_range (by omega)]; rfl
      obtain ⟨g', e0, c0, z0⟩ := row_at hP q0
      obtain ⟨g'', e1, c1, z1⟩ := row_at hP q1
      injection e0 with e0
      injection e0 with e0
      injection e1 with e1
      injection e1 with e1
      rw [← e0] at c0 z0
      rw [← e1] at c1 z1
      clear e0 e1 q0 q1
      have i2 : (i : Int) < (n : Int) := by omega
      have i3 : (j : Int) < (n : Int) := by omega
      have i4 : ¬ n = 0 := by omega
      have i5 : ¬ i = j := by omega
      have hq := row_set (row_set hP i (.int .i64 (revAt n i F j))) j (.int .i64 (revAt n i F i))
      rw [iv_set, iv_set, rev_step n i j F hj hlt] at hq
      have hkk := (hk.andSet (x := ⟨g, i, none⟩) (.inl rfl) (.int .i64 (revAt n i F j))).andSet (x := ⟨g, j, none⟩) (.inl rfl) (.int .i64 (revAt n i F i))
      obtain ⟨u, hu⟩ : ∃ u, u = revAt n i F i := ⟨_, rfl⟩
      obtain ⟨v, hv⟩ : ∃ v, v = revAt n i F j := ⟨_, rfl⟩
      rw [← hu] at c0 hq hkk
      rw [← hv] at c1 hq hkk
      have HQ : Hid (((wr.setCell ⟨g, i, none⟩ (.int .i64 v)).setCell ⟨g, j, none⟩ (.int .i64 u)).ownsRow base 3 1 (.slice (some ⟨g, 0, none⟩) n cap) n (iv ((List.range n).map (revAt n (i + 1) F))) ∧ Keeps (· = g) w ((wr.setCell ⟨g, i, none⟩ (.int .i64 v)).setCell ⟨g, j, none⟩ (.int .i64 u)) ∧ j = n - 1 - i) := ⟨hq, hkk, hj⟩
      clear hq hkk hu hv hj hP hk ej
      go_wp2_with fail
      go_region_o
      all_goals go_wp2_with fail
      all_goals
        have hP := row_kept HQ.out.1 (Keeps.drew None _) (fun _ _ f => f)
        have hk := HQ.out.2.1.andDrew
        have hj := HQ.out.2.2
        exact ⟨⟨i + 1, by simp, by congr 1; omega, by omega, hP, hk⟩, by first | (simp [intOf]; done) | (simp [intOf]; omega)⟩
    · have i1 : ¬ ((i : Int) < (n : Int) - 1 - i) := by omega
      go_wp2_with fail
      go_end0
      exact ⟨rfl, by rw [rev_end n i F hlt hi2] at hP; exact hP, hk⟩
theorem make_cap (n : Nat) (w : World) (hn : n ≤ 4096) : (Instr.makeSlice 25 (.int .i64 0) (.int .i64 n)).run Try.prog w = .ok (.slice (some ⟨w.heap.size, 0, none⟩) 0 n) (w.alloc (.cells ((List.range n).map (fun _ => Value.int .i64 0)).toArray 3)) := by
  obtain ⟨i0, hi, hz0, hz1, hz2⟩ := info_parts Try.infoInt
  have hr := run_make (P := Try.prog) w 25 3 i0 _ Try.underlying25 hi hz0 .i64 .i64 0 n (Int.le_refl _) (by omega) (by rw [hz2]; omega) (by omega)
  rw [hr, hz1, made_one _ rfl]
  simp
/-- What Critical answers. -/
def critV (n : Int) (l : List Ed) (path : List Int) : Prop := (path.length : Int) = grt (earV n l) ∧ PathOk n l path
set_option maxHeartbeats 3200000 in
theorem path_any (n : Nat) (a : Option Addr) (m c : Nat) (l : List Ed) (w : World) (h : SeenE w a m l) (hd : Dag (n : Int) l) :
    Calls Try.prog 39 #[dagV n a m c] w fun e w' => ∃ v path, e = .returned v ∧ w'.ownsRow w.heap.size 3 1 v path.length (iv path) ∧ critV n l path ∧ Keeps None w w' := by
  have HS : Hid (SeenE w a m l) := h
  have HD : Hid (Dag (n : Int) l) := hd
  have HC : Hid (earV n l = (List.range n).map (R l)) := ear_ok (dag_check hd)
  have hn : n ≤ 4096 := by have := hd.hi; omega
  clear h hd
  obtain ⟨s0, hs0⟩ : ∃ s0, s0 = w.heap.size := ⟨_, rfl⟩
  have HS0 : Hid (s0 = w.heap.size) := hs0
  unfold dagV
  by_cases hz : n = 0
  · have HZ : Hid (n = 0) := hz
    have e1 : ((n : Int) == 0) = true := by simpa using hz
    have e2 : (n : Int) = 0 := by omega
    clear hz hs0
    go_enter Try.func39, Try.ntmps39
    go_wp2_with fail
    go_ret
    refine ⟨_, [], rfl, row_nil _ _ _ _, ⟨?_, ⟨(fun x hx => by cases hx), (fun i x y hx => by simp at hx)⟩⟩, keeps1 _ _⟩
    rw [HC.out, HZ.out]
    rfl
  · have e1 : ((n : Int) == 0) = false := by simpa using hz
    have e2 : ¬ (n : Int) = 0 := by omega
    go_enter Try.func39, Try.ntmps39
    go_wp2_with fail
    have hk0 := keeps1 w (.cells #[.int .i64 n, .slice a m c] 24)
    refine (longest_any n a m c l _ (HS.out.more hk0) HD.out).mono ?_
    rintro e w2 ⟨g1, g2, B, rfl, hN1, hN2, hB, hg1, hg2, hne, hk⟩
    have H1 : Hid (IsN w2 g1 n (R l) ∧ IsN w2 g2 n B ∧ GoodB n l (R l) B ∧ Keeps None w w2) := ⟨hN1, hN2, hB, hk0.trans hk (fun _ f _ => f)⟩
    clear hN1 hN2 hB hg1 hg2 hne hk hk0 hs0
    go_wp2_with fail
    refine (max_any g1 n n (R l) _ H1.out.1 (by omega) hn).mono ?_
    rintro e w2' ⟨x, rfl, hx1, hx2, hw⟩
    have hw2 := hw.symm
    subst hw2
    clear hw
    have HX : Hid ((∃ j, j < n ∧ R l j = x) ∧ ∀ i, i < n → R l i ≤ x) := ⟨hx1, hx2⟩
    clear hx1 hx2
    go_wp2_with fail
    refine (index_any g1 n n (R l) x _ H1.out.1 HX.out.1 hn).mono ?_
    rintro e w2'' ⟨last, rfl, hl1, hl2, hw⟩
    have hw2 := hw.symm
    subst hw2
    clear hw
    have HL : Hid (R l last = x ∧ grt (earV n l) = x) := by
      refine ⟨hl2, ?_⟩
      rw [HC.out]
      exact grt_is HX.out.1 HX.out.2 (by rw [← hl2]; have := R_one l last; omega)
    have x1 := H1.out.1.at hl1
    rw [hl2] at x1
    obtain ⟨X, rfl⟩ := Int.eq_ofNat_of_zero_le (show 0 ≤ x by rw [← hl2]; have := R_one l last; omega)
    have hX : 1 ≤ X ∧ X ≤ 4096 := by
      have h1 := R_one l last
      have h2 := R_le l last
      omega
    have i1 : (last : Int) < (n : Int) := by omega
    have hmk := make_cap X w2 hX.2
    clear hl2
    go_wp2_with (at_make; refine wpList_make_run rfl (.const (.int .i64 0)) (.tmp 23) 25 rfl rfl rfl hmk ?_)
    have hk3 := Keeps.alloc None w2 (.cells ((List.range X).map (fun _ => Value.int .i64 0)).toArray 3)
    have hr0 : (w2.alloc (.cells ((List.range X).map (fun _ => Value.int .i64 0)).toArray 3)).ownsRow w2.heap.size 3 1 (.slice (some ⟨w2.heap.size, 0, none⟩) 0 X) 0 (iv []) :=
      ⟨rfl, .inr ⟨_, _, _, rfl, Nat.le_refl _, blk_new _ _ _ rfl, Nat.zero_le _, by unfold maxLen; omega, by simp, by simp [iv]⟩⟩
    have H2 : Hid (IsN (w2.alloc (.cells ((List.range X).map (fun _ => Value.int .i64 0)).toArray 3)) g2 n B ∧ g2 < w2.heap.size ∧ Keeps None w (w2.alloc (.cells ((List.range X).map (fun _ => Value.int .i64 0)).toArray 3)) ∧ (w2.alloc (.cells ((List.range X).map (fun _ => Value.int .i64 0)).toArray 3)).ownsRow w2.heap.size 3 1 (.slice (some ⟨w2.heap.size, 0, none⟩) 0 X) 0 (iv []) ∧ w.heap.size ≤ w2.heap.size ∧ GoodB n l (R l) B) :=
      ⟨H1.out.2.1.kept hk3 (fun f => f), H1.out.2.1.lt, H1.out.2.2.2.trans hk3 (fun _ f _ => f), hr0, H1.out.2.2.2.size, H1.out.2.2.1⟩
    obtain ⟨P, hP⟩ : ∃ P, P = w2.heap.size := ⟨_, rfl⟩
    rw [← hP] at H2 ⊢
    clear hmk hk3 hr0 hP
    go_wp2_with fail
    generalize (w2.alloc (.cells ((List.range X).map (fun _ => Value.int .i64 0)).toArray 3)) = w3 at *
    go_loopw [6, 7] (fun s6 s7 wr => ∃ (k : Nat) (acc : List Int) (node : Int) (g c : Nat), s6 = .slice (some ⟨g, 0, none⟩) k c ∧ s7 = .int .i64 node ∧ k = acc.length ∧ Trace n l last acc node ∧ wr.ownsRow P 3 1 (.slice (some ⟨g, 0, none⟩) k c) k (iv acc) ∧ IsN wr g2 n B ∧ Keeps None w wr) (fun s6 s7 _ => (intOf s7 + 1).toNat)
    case atStart => exact ⟨0, [], last, P, X, rfl, rfl, rfl, Trace.start hl1, H2.out.2.2.2.1, H2.out.1, H2.out.2.2.1⟩
    case round =>
      obtain ⟨k, acc, node, g, c', rfl, rfl, hka, hT, hrow, hN2, hkp⟩ := hrel
      rcases hT.neg with hm | ⟨q, rfl, hq⟩
      · have hm1 : ¬ 0 ≤ node := by omega
        subst hm
        obtain ⟨h1, h2⟩ := hT.done
        have HN : Hid (wr.ownsRow P 3 1 (.slice (some ⟨g, 0, none⟩) k c') k (iv ((List.range k).map (fun j => acc.getD j 0))) ∧ Keeps None w wr ∧ critV n l acc.reverse ∧ k = acc.length ∧ P ≤ g) := by
          refine ⟨?_, hkp, ⟨?_, h2⟩, hka, row_low hrow rfl⟩
          · rw [hka, map_range_self, ← hka]; exact hrow
          · rw [HL.out.2, List.length_reverse, h1, HL.out.1]
        have hk1 : 1 ≤ k := by have := R_one l last; omega
        have hk4 : k ≤ 4096 := by have := HL.out.1; omega
        clear hT hrow hN2 hkp h1 h2 hka
        go_wp2_with fail
        refine (rev_row g k c' P _ _ HN.out.1 hk1 hk4).mono ?_
        rintro e w5 ⟨rfl, hr5, hk5⟩
        have HQ : Hid (w5.ownsRow w.heap.size 3 1 (.slice (some ⟨g, 0, none⟩) k c') acc.reverse.length (iv acc.reverse) ∧ critV n l acc.reverse ∧ Keeps None w w5) := by
          have hP := H2.out.2.2.2.2.1
          have hPg := HN.out.2.2.2.2
          refine ⟨?_, HN.out.2.2.1, HN.out.2.1.trans hk5 (fun i e hi => by omega)⟩
          rw [HN.out.2.2.2.1, map_range_rev] at hr5
          rw [HN.out.2.2.2.1, List.length_reverse]
          exact row_base hr5 (by omega)
        clear hr5 hk5
        go_wp2_with fail
        go_ret
        exact ⟨_, _, rfl, HQ.out⟩
      · obtain ⟨hq2, hlt, hT2⟩ := hT.step HD.out H2.out.2.2.2.2.2
        have x2 := hN2.at hq
        have hq1 : (q : Int) < (n : Int) := by omega
        have hk4 : k ≤ 4096 := by have := HL.out.1; omega
        have hP := H2.out.2.2.2.2.1
        have hsz := hkp.size
        obtain ⟨gg, cp, w5, hr, ho, hk2, hm⟩ := int_more P (.slice (some ⟨g, 0, none⟩) k c') acc q k 25 wr.heap.size (wr.alloc (.cells #[.int .i64 q] 3)) hka (row_kept hrow (Keeps.alloc None wr _) (fun _ _ f => f)) (by have := own_lt hrow (g := g) rfl; have := row_low hrow (g := g) rfl; simp; omega) (by omega) (blk_new _ _ _ rfl)
        have hgS : ¬ (Value.slice (some ⟨g, 0, none⟩) k c').ownBlock = some g2 := fun e => by have := row_low hrow e; have := H2.out.2.1; omega
        have HN : Hid (Trace n l last (acc ++ [(q : Int)]) (B q) ∧ w5.ownsRow P 3 1 (.slice (some ⟨gg, 0, none⟩) (k + 1) cp) (k + 1) (iv (acc ++ [(q : Int)])) ∧ IsN w5 g2 n B ∧ Keeps None w w5 ∧ k = acc.length) :=
          ⟨hT2, ho, (hN2.kept (Keeps.alloc None wr _) (fun f => f)).kept hk2 hgS, (hkp.andAlloc _).trans hk2 (fun i e hi => by have := row_low hrow e; omega), hka⟩
        have x3 : w5.cell? ⟨g2, q, none⟩ = some (.int .i64 (B q)) := HN.out.2.2.1.at hq
        have hlq : Hid (B q = -1 ∨ B q < q) := by
          rcases H2.out.2.2.2.2.2 q hq with ⟨b1, _⟩ | ⟨e, he, b, hb1, hb2, hb3, _⟩
          · exact .inl b1
          · have := HD.out.ok e he
            exact .inr (by omega)
        generalize hy : B q = y at x3 hlq
        have HY : Hid (B q = y) := hy
        clear hT hrow hN2 hkp hT2 ho hk2 hm hgS hy hka hlt
        go_wp2_with (at_builtin; refine wpList_append_run rfl (.tmp 32) (.tmp 34) 25 25 rfl rfl rfl hr ?_)
        refine ⟨⟨k + 1, acc ++ [(q : Int)], y, gg, cp, rfl, rfl, by simp [HN.out.2.2.2.2], by rw [← HY.out]; exact HN.out.1, HN.out.2.1, HN.out.2.2.1, HN.out.2.2.2.1⟩, ?_⟩
        have h := hlq.out
        simp [intOf]
        omega
end Go.Proofs.Ytnhoedodnbifdaa
