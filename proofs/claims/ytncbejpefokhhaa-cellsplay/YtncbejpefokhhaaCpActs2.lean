import Derived.Test.YtncbejpefokhhaaCpActs
import Derived.Test.YtncbejpefokhhaaTellWalks
import Derived.Deep.DeepCutAuto
/-! Acts laid into a list; a list that is untouched; other acts, as many. -/
namespace Go.Proofs.Ytncbejpefokhhaa
set_option linter.unusedVariables false
open Go.RowKit Go.HeapKit

/-- The first k acts are M's, the others M2's. -/
def mix (M M2 : Nat → Nat → Int) (k : Nat) : Nat → Nat → Int := fun i => if i < k then M i else M2 i
theorem Laid.turn {w : World} {g n : Nat} {M M2 : Nat → Nat → Int} {L : Array Value} (h : Laid w g n n M L) (he : ∀ i, i < n → M i = M2 i) : Laid w g n n M2 L :=
  ⟨h.blk, h.size, fun i hi => by rw [← he i hi]; exact h.acts i hi⟩
theorem Laid.over {w : World} {g n k : Nat} {M M2 : Nat → Nat → Int} {L : Array Value} (h : Laid w g n n (mix M M2 k) L) (hm : Marks L n) (hk : k < n) :
    Laid (set5 w g k (M k 0) (M k 1) (M k 2) (M k 3) (M k 4)) g n n (mix M M2 (k + 1)) (put5 L k (M k 0) (M k 1) (M k 2) (M k 3) (M k 4)) ∧ Marks (put5 L k (M k 0) (M k 1) (M k 2) (M k 3) (M k 4)) n := by
  refine ⟨⟨set5_blk h.blk _ _ _ _ _, by rw [put5_size]; exact h.size, fun i hi => ?_⟩, hm.1.put (by omega) _ _ _ _ _, hm.2.put (by omega) _ _ _ _ _⟩
  by_cases hik : i = k
  · subst hik
    have e : mix M M2 (i + 1) i = M i := by unfold mix; rw [if_pos (by omega)]
    rw [e]
    exact put5_same (by have := h.size; omega) _ _ _ _ _
  · have e : mix M M2 (k + 1) i = mix M M2 k i := by
      unfold mix
      by_cases h1 : i < k
      · rw [if_pos h1, if_pos (by omega)]
      · rw [if_neg h1, if_neg (by omega)]
    rw [e]
    exact (h.acts i hi).put hik _ _ _ _ _
set_option maxHeartbeats 1600000 in
theorem lay_ok (ao : Option Addr) (n c g lc : Nat) (M M2 : Nat → Nat → Int) (L0 : Array Value) (w : World) (hL : Laid w g n n M2 L0) (hm : Marks L0 n) (hM : Fives w ao n M) (hne : 0 < n → ∀ b off, ao = some ⟨b, off, none⟩ → b ≠ g) (hn : n * 40 ≤ 140737488351232) :
    Calls Try.prog 31 #[.slice (some ⟨g, 0, none⟩) (n + 2) lc, .slice ao n c] w fun e w' => e = .returned (.tuple #[]) ∧ (∃ L, Laid w' g n n M L ∧ Marks L n) ∧ Keeps (· = g) w w' := by
  have HM : Hid (Fives w ao n M ∧ (0 < n → ∀ b off, ao = some ⟨b, off, none⟩ → b ≠ g)) := ⟨hM, hne⟩
  have H0 : Hid (Laid w g n n M2 L0 ∧ Marks L0 n) := ⟨hL, hm⟩
  clear hM hne hL hm
  go_enter Try.func31, Try.ntmps31
  go_wp2_with fail
  go_loopw [4] (fun i wr => ∃ k : Nat, k ≤ n ∧ i = .int .i64 k ∧ (∃ L, Laid wr g n n (mix M M2 k) L ∧ Marks L n) ∧ Keeps (· = g) w wr) (fun i _ => n - (intOf i).toNat)
  case atStart => exact ⟨0, Nat.zero_le _, rfl, ⟨L0, H0.out.1.turn (fun i _ => by unfold mix; rw [if_neg (by omega)]), H0.out.2⟩, Keeps.refl _ _⟩
  case round =>
    clear H0
    obtain ⟨k, hk, rfl, ⟨L, hL, hm⟩, hkp⟩ := hrel
    by_cases hkn : k < n
    · obtain ⟨b, off, rfl, hb, hc⟩ := (HM.out.1.kept hkp (fun h0 b off e _ e2 => HM.out.2 h0 b off e e2)) (by omega)
      obtain ⟨m0, m1, m2, m3, m4⟩ := hc k hkn
      obtain ⟨⟨v0, v1, v2, v3, v4, z0, z1, z2, z3, z4⟩, hf⟩ := hL.cells (i := k) (by omega)
      have f0 := hf (k * 5)
      have f1 := hf (k * 5 + 1)
      have f2 := hf (k * 5 + 2)
      have f3 := hf (k * 5 + 3)
      have f4 := hf (k * 5 + 4)
      have i1 : (k : Int) < (n : Int) := by omega
      have i2 : (k : Int) < (n : Int) + 2 := by omega
      have HN : Hid ((∃ L, Laid (set5 wr g k (M k 0) (M k 1) (M k 2) (M k 3) (M k 4)) g n n (mix M M2 (k + 1)) L ∧ Marks L n) ∧ Keeps (· = g) w (set5 wr g k (M k 0) (M k 1) (M k 2) (M k 3) (M k 4))) := ⟨⟨_, hL.over hm hkn⟩, hkp.trans (set5_keeps _ _ _ _ _ _ _ _) (fun _ e _ => e)⟩
      clear hc hL hkp hf HM hm
      go_wp2
      go_roundw
      case rel => exact ⟨k + 1, by omega, by go_num, HN.out⟩
      case measure => simp [intOf]; omega
    · have hkn2 : k = n := by omega
      subst hkn2
      have HN : Hid ((∃ L, Laid wr g k k M L ∧ Marks L k) ∧ Keeps (· = g) w wr) := ⟨⟨L, hL.turn (fun i hi => by unfold mix; rw [if_pos hi]), hm⟩, hkp⟩
      clear hL hm hkp HM
      go_wp2
      go_end0
      exact ⟨rfl, HN.out⟩

set_option maxHeartbeats 4000000 in
theorem untouched_ok (ao : Option Addr) (n c g lc : Nat) (M : Nat → Nat → Int) (L : Array Value) (w : World) (hL : Laid w g n n M L) (hm : Marks L n) (hM : Fives w ao n M) (hn : n * 40 ≤ 140737488351232) :
    Calls Try.prog 12 #[.slice (some ⟨g, 0, none⟩) (n + 2) lc, .slice ao n c] w fun e w' => e = .returned (.bool true) ∧ Keeps None w w' := by
  have HM : Hid (Fives w ao n M ∧ Laid w g n n M L) := ⟨hM, hL⟩
  obtain ⟨a0, a1, a2, a3, a4⟩ := hm.1
  obtain ⟨b0, b1, b2, b3, b4⟩ := hm.2
  have x0 := (cell_of_block hL.blk _).trans a0
  have x1 := (cell_of_block hL.blk _).trans a1
  have x2 := (cell_of_block hL.blk _).trans a2
  have x3 := (cell_of_block hL.blk _).trans a3
  have x4 := (cell_of_block hL.blk _).trans a4
  have y0 := (cell_of_block hL.blk _).trans b0
  have y1 := (cell_of_block hL.blk _).trans b1
  have y2 := (cell_of_block hL.blk _).trans b2
  have y3 := (cell_of_block hL.blk _).trans b3
  have y4 := (cell_of_block hL.blk _).trans b4
  clear a0 a1 a2 a3 a4 b0 b1 b2 b3 b4 hM hL hm
  have hM0 : ∀ w1, Calls Try.prog 19 #[.int .i64 0] w1 (fun e w' => e = .returned (.agg #[.int .i64 (-7), .int .i64 77, .int .i64 (-9), .int .i64 5, .int .i64 6]) ∧ Keeps None w1 w') := fun w1 => by
    obtain ⟨we, h1, h2⟩ := mark0_ok w1
    refine h1.mono ?_
    rintro e w' ⟨rfl, rfl⟩
    exact ⟨rfl, h2⟩
  have hM1 : ∀ w1, Calls Try.prog 19 #[.int .i64 1] w1 (fun e w' => e = .returned (.agg #[.int .i64 (-8), .int .i64 78, .int .i64 (-9), .int .i64 5, .int .i64 6]) ∧ Keeps None w1 w') := fun w1 => by
    obtain ⟨we, h1, h2⟩ := mark1_ok w1
    refine h1.mono ?_
    rintro e w' ⟨rfl, rfl⟩
    exact ⟨rfl, h2⟩
  obtain ⟨N, hN⟩ : ∃ N, N = n + 2 := ⟨_, rfl⟩
  obtain ⟨p, hp⟩ : ∃ p, p = n + 1 := ⟨_, rfl⟩
  rw [← hN]
  rw [← hp] at y0 y1 y2 y3 y4
  have i1 : (n : Int) < (N : Int) := by omega
  have i2 : (p : Int) < (N : Int) := by omega
  have j1 : (0 : Int) ≤ (n : Int) := by omega
  have j2 : (0 : Int) ≤ (p : Int) := by omega
  have v1 : IntKind.i64.wrap ((n : Int) + 1) = (p : Int) := by rw [IntKind.wrap_i64]; omega
  have HNN : Hid (N = n + 2) := hN
  clear hN hp
  go_enter Try.func12, Try.ntmps12
  go_upto_region 2 with fail
  go_cut [23] (fun s23 wx => s23 = .bool false ∧ Keeps None w wx)
  case first =>
    go_region_held3 (fun w' => w'.cell? ⟨g, n * 5, none⟩ = some (.int .i64 (-7)) ∧ w'.cell? ⟨g, n * 5 + 1, none⟩ = some (.int .i64 77) ∧ w'.cell? ⟨g, n * 5 + 2, none⟩ = some (.int .i64 (-9)) ∧ w'.cell? ⟨g, n * 5 + 3, none⟩ = some (.int .i64 5) ∧ w'.cell? ⟨g, n * 5 + 4, none⟩ = some (.int .i64 6) ∧ w'.cell? ⟨g, p * 5, none⟩ = some (.int .i64 (-8)) ∧ w'.cell? ⟨g, p * 5 + 1, none⟩ = some (.int .i64 78) ∧ w'.cell? ⟨g, p * 5 + 2, none⟩ = some (.int .i64 (-9)) ∧ w'.cell? ⟨g, p * 5 + 3, none⟩ = some (.int .i64 5) ∧ w'.cell? ⟨g, p * 5 + 4, none⟩ = some (.int .i64 6)) (first | exact hs3 | exact hs2 | go_keep) (first
      | (go_at_call 19; refine (hM0 _).mono ?_; rintro e w2 ⟨rfl, hk2'⟩; have hk2 : Keeps None w w2 := (Keeps.drew None w).trans hk2' (fun _ f _ => f); have hs2 : w2.cell? ⟨g, n * 5, none⟩ = some (.int .i64 (-7)) ∧ w2.cell? ⟨g, n * 5 + 1, none⟩ = some (.int .i64 77) ∧ w2.cell? ⟨g, n * 5 + 2, none⟩ = some (.int .i64 (-9)) ∧ w2.cell? ⟨g, n * 5 + 3, none⟩ = some (.int .i64 5) ∧ w2.cell? ⟨g, n * 5 + 4, none⟩ = some (.int .i64 6) ∧ w2.cell? ⟨g, p * 5, none⟩ = some (.int .i64 (-8)) ∧ w2.cell? ⟨g, p * 5 + 1, none⟩ = some (.int .i64 78) ∧ w2.cell? ⟨g, p * 5 + 2, none⟩ = some (.int .i64 (-9)) ∧ w2.cell? ⟨g, p * 5 + 3, none⟩ = some (.int .i64 5) ∧ w2.cell? ⟨g, p * 5 + 4, none⟩ = some (.int .i64 6) := ⟨hk2.cell x0 (fun f => f), hk2.cell x1 (fun f => f), hk2.cell x2 (fun f => f), hk2.cell x3 (fun f => f), hk2.cell x4 (fun f => f), hk2.cell y0 (fun f => f), hk2.cell y1 (fun f => f), hk2.cell y2 (fun f => f), hk2.cell y3 (fun f => f), hk2.cell y4 (fun f => f)⟩)
      | (go_at_call 19; refine (hM1 _).mono ?_; rintro e w3 ⟨rfl, hk3'⟩; have hk3 : Keeps None w w3 := hk2.trans hk3' (fun _ f _ => f); have hs3 : w3.cell? ⟨g, n * 5, none⟩ = some (.int .i64 (-7)) ∧ w3.cell? ⟨g, n * 5 + 1, none⟩ = some (.int .i64 77) ∧ w3.cell? ⟨g, n * 5 + 2, none⟩ = some (.int .i64 (-9)) ∧ w3.cell? ⟨g, n * 5 + 3, none⟩ = some (.int .i64 5) ∧ w3.cell? ⟨g, n * 5 + 4, none⟩ = some (.int .i64 6) ∧ w3.cell? ⟨g, p * 5, none⟩ = some (.int .i64 (-8)) ∧ w3.cell? ⟨g, p * 5 + 1, none⟩ = some (.int .i64 78) ∧ w3.cell? ⟨g, p * 5 + 2, none⟩ = some (.int .i64 (-9)) ∧ w3.cell? ⟨g, p * 5 + 3, none⟩ = some (.int .i64 5) ∧ w3.cell? ⟨g, p * 5 + 4, none⟩ = some (.int .i64 6) := ⟨hk3.cell x0 (fun f => f), hk3.cell x1 (fun f => f), hk3.cell x2 (fun f => f), hk3.cell x3 (fun f => f), hk3.cell x4 (fun f => f), hk3.cell y0 (fun f => f), hk3.cell y1 (fun f => f), hk3.cell y2 (fun f => f), hk3.cell y3 (fun f => f), hk3.cell y4 (fun f => f)⟩))
    all_goals (go_wp2_with fail; go_meet)
    all_goals exact ⟨rfl, hk3⟩
  case rest =>
    obtain ⟨rfl, hkx⟩ := hcut
    have HX : Hid (Keeps None w _) := hkx
    clear hM0 hM1 x0 x1 x2 x3 x4 y0 y1 y2 y3 y4 hkx
    go_wp2_with fail
    go_loopw [6] (fun i wr => ∃ k : Nat, k ≤ n ∧ i = .int .i64 k ∧ Keeps None w wr) (fun i _ => n - (intOf i).toNat)
    case atStart => exact ⟨0, Nat.zero_le _, rfl, HX.out⟩
    case round =>
      clear HX
      obtain ⟨k, hk, rfl, hkp⟩ := hrel
      by_cases hkn : k < n
      · obtain ⟨b, off, rfl, hb, hc⟩ := (HM.out.1.kept hkp (fun _ _ _ _ _ f => f)) (by omega)
        obtain ⟨m0, m1, m2, m3, m4⟩ := hc k hkn
        obtain ⟨g', o', e', -, hc2⟩ := ((HM.out.2.kept hkp (fun f => f)).fives) (by omega)
        injection e' with e'
        injection e' with e1 e2
        subst e1 e2
        obtain ⟨z0, z1, z2, z3, z4⟩ := hc2 k hkn
        simp only [Nat.zero_add] at z0 z1 z2 z3 z4
        have i3 : (k : Int) < (n : Int) := by omega
        have i4 : (k : Int) < (N : Int) := by have := HNN.out; omega
        have HK : Hid (∀ t, Keeps None w (wr.drewN t)) := fun t => hkp.trans ⟨rfl, rfl, rfl, Nat.le_refl _, fun _ _ _ => rfl⟩ (fun _ f _ => f)
        clear hc hc2 hkp HM
        go_wp2
        go_quiet (fail)
        go_wp2
        go_roundw
        case rel => exact ⟨k + 1, by omega, by go_num, HK.out _⟩
        case measure => simp [intOf]; omega
      · have HK : Hid (Keeps None w wr) := hkp
        clear hkp HM
        go_wp2
        go_ret
        exact ⟨rfl, HK.out⟩

/-- 'append(l, x)' of an act. -/
theorem act_more (base : Nat) (s : Value) (l : List Value) (a b c d e : Int) (n ty g0 : Nat) (w : World) (h : w.ownsRow base 53 5 s n l) (hb : base ≤ w.heap.size) (hlen : (n + 1) * 40 ≤ 140737488355328)
    (hg0 : w.heap[g0]? = some (.cells #[.int .i64 a, .int .i64 b, .int .i64 c, .int .i64 d, .int .i64 e] 53 (0, 0))) :
    ∃ g cap w', (Builtin.append_ #[22, 22] ty #[s, .slice (some ⟨g0, 0, none⟩) 1 1]).run Try.prog w = .ok (.slice (some ⟨g, 0, none⟩) (n + 1) cap) w' ∧
      w'.ownsRow base 53 5 (.slice (some ⟨g, 0, none⟩) (n + 1) cap) (n + 1) (l ++ [.int .i64 a, .int .i64 b, .int .i64 c, .int .i64 d, .int .i64 e]) ∧ Keeps (fun k => s.ownBlock = some k) w w' := by
  obtain ⟨i0, hi, hz0, hz1, hz2⟩ := info_parts Try.infoAct
  obtain ⟨v', w1, hr, ho, hgr, hm, -⟩ := run_append_moved (P := Try.prog) w base 22 ty 53 i0 _ 5 40 Try.underlying22 hi hz0 hz1 hz2 rfl (by decide) s n _ h
    ⟨g0, 0, none⟩ 1 1 [.int .i64 a, .int .i64 b, .int .i64 c, .int .i64 d, .int .i64 e] rfl (by
      intro j u hu
      rw [show (⟨g0, 0, none⟩ : Addr).add j = ⟨g0, j, none⟩ by unfold Addr.add; split <;> simp_all, cell_of_block hg0]
      simpa using hu) (by
      intro u hu
      simp at hu
      rcases hu with rfl | rfl | rfl | rfl | rfl <;> rfl) (by unfold maxLen; omega) hlen hb
  obtain ⟨g, cap, rfl⟩ : ∃ g cap, v' = .slice (some ⟨g, 0, none⟩) (n + 1) cap := by
    rcases ho.2 with ⟨_, h0⟩ | ⟨b, cap, cur, rfl, _⟩
    · omega
    · exact ⟨b, cap, rfl⟩
  exact ⟨g, cap, w1, hr, ho, (Keeps.refl _ w).andGrown hgr (fun k e => .inl e)⟩
def turnM (n : Nat) (M : Nat → Nat → Int) : Nat → Nat → Int := fun i j => if j = 3 then wrap64 (M (n - 1 - i) 3 + 1) else M (n - 1 - i) j
def actVals (M : Nat → Nat → Int) (k : Nat) : List Value := (List.range k).flatMap (fun i => [.int .i64 (M i 0), .int .i64 (M i 1), .int .i64 (M i 2), .int .i64 (M i 3), .int .i64 (M i 4)])
theorem actVals_succ (M : Nat → Nat → Int) (k : Nat) : actVals M (k + 1) = actVals M k ++ [.int .i64 (M k 0), .int .i64 (M k 1), .int .i64 (M k 2), .int .i64 (M k 3), .int .i64 (M k 4)] := by simp [actVals, List.range_succ]
theorem actVals_length (M : Nat → Nat → Int) (k : Nat) : (actVals M k).length = k * 5 := by
  induction k with
  | zero => rfl
  | succ k ih => rw [actVals_succ, List.length_append, ih]; simp only [List.length_cons, List.length_nil]; omega
theorem actVals_at (M : Nat → Nat → Int) {n i : Nat} (hi : i < n) {j : Nat} {u : Value} (hu : [Value.int .i64 (M i 0), .int .i64 (M i 1), .int .i64 (M i 2), .int .i64 (M i 3), .int .i64 (M i 4)][j]? = some u) : (actVals M n)[i * 5 + j]? = some u := by
  have hj : j < 5 := by have := (List.getElem?_eq_some_iff.1 hu).1; simpa using this
  induction n with
  | zero => omega
  | succ n ih =>
    rw [actVals_succ]
    by_cases hin : i < n
    · rw [List.getElem?_append_left (by rw [actVals_length]; omega)]
      exact ih hin
    · obtain rfl : i = n := by omega
      rw [List.getElem?_append_right (by rw [actVals_length]; omega), actVals_length, Nat.add_sub_cancel_left]
      exact hu
theorem acts_fives {w : World} {base : Nat} {ao : Option Addr} {n c : Nat} {M : Nat → Nat → Int} (h : w.ownsRow base 53 5 (.slice ao n c) n (actVals M n)) : Fives w ao n M := by
  intro h0
  rcases h.2 with ⟨_, h1⟩ | ⟨g, cap, cur, hv, hbg, hg, hnc, hcm, hcs, htake⟩
  · omega
  · injection hv with e1 e2 e3
    subst e1
    have hcell : ∀ j u, (actVals M n)[j]? = some u → w.cell? ⟨g, 0 + j, none⟩ = some u := by
      intro j u this
      rw [Nat.zero_add, cell_of_block hg]
      rw [← htake, List.getElem?_take] at this
      split at this
      · simpa using this
      · cases this
    exact ⟨g, 0, rfl, (Array.getElem?_eq_some_iff.1 hg).1, fun i hi => ⟨hcell _ _ (actVals_at M hi (j := 0) rfl), hcell _ _ (actVals_at M hi (j := 1) rfl), hcell _ _ (actVals_at M hi (j := 2) rfl), hcell _ _ (actVals_at M hi (j := 3) rfl), hcell _ _ (actVals_at M hi (j := 4) rfl)⟩⟩
set_option maxHeartbeats 1600000 in
theorem turned_ok (ao : Option Addr) (n c : Nat) (M : Nat → Nat → Int) (w : World) (hM : Fives w ao n M) (hn : n * 40 ≤ 140737488351232) :
    Calls Try.prog 30 #[.slice ao n c] w fun e w' => ∃ a' c', e = .returned (.slice a' n c') ∧ w'.ownsRow w.heap.size 53 5 (.slice a' n c') n (actVals (turnM n M) n) ∧ Keeps None w w' := by
  have HM : Hid (Fives w ao n M) := hM
  clear hM
  go_enter Try.func30, Try.ntmps30
  go_wp2_with fail
  go_loopw [3, 4, 5] (fun s i _ wr => ∃ k : Nat, k ≤ n ∧ i = .int .i64 ((n : Int) - 1 - k) ∧ wr.ownsRow w.heap.size 53 5 s k (actVals (turnM n M) k) ∧ Keeps None w wr) (fun _ i _ _ => (intOf i + 1).toNat)
  case atStart => exact ⟨0, Nat.zero_le _, by simp, ⟨rfl, .inl ⟨rfl, rfl⟩⟩, Keeps.refl _ _⟩
  case round =>
    obtain ⟨k, hk, rfl, hrow, hkp⟩ := hrel
    obtain ⟨sa, cs, rfl⟩ := own_shape hrow
    by_cases hkn : k < n
    · obtain ⟨b, off, rfl, hb, hc⟩ := (HM.out.kept hkp (fun _ _ _ _ _ f => f)) (by omega)
      obtain ⟨j, hj⟩ : ∃ j, j = n - 1 - k := ⟨_, rfl⟩
      obtain ⟨m0, m1, m2, m3, m4⟩ := hc j (by omega)
      have ej : (n : Int) - 1 - (k : Int) = (j : Int) := by omega
      have HT : Hid (turnM n M k 0 = M j 0 ∧ turnM n M k 1 = M j 1 ∧ turnM n M k 2 = M j 2 ∧ turnM n M k 3 = wrap64 (M j 3 + 1) ∧ turnM n M k 4 = M j 4) := by rw [hj]; exact ⟨rfl, rfl, rfl, rfl, rfl⟩
      rw [ej]
      generalize M j 0 = a at m0 HT
      generalize M j 1 = b1 at m1 HT
      generalize M j 2 = c1 at m2 HT
      generalize M j 3 = d at m3 HT
      generalize M j 4 = e1 at m4 HT
      have hrow2 := (hrow.alloc (.cells #[.int .i64 a, .int .i64 b1, .int .i64 c1, .int .i64 (wrap64 (d + 1)), .int .i64 e1] 53)).alloc (.cells #[.int .i64 a, .int .i64 b1, .int .i64 c1, .int .i64 (wrap64 (d + 1)), .int .i64 e1] 53)
      obtain ⟨g, cp, w2, hr, ho, hk2⟩ := act_more w.heap.size (.slice sa k cs) _ a b1 c1 (wrap64 (d + 1)) e1 k 22 (wr.heap.size + 1) _ hrow2 (by have := hkp.size; simp; omega) (by omega) (new_at _ _ _ (by simp))
      have i1 : (j : Int) < (n : Int) := by omega
      have HN : Hid (w2.ownsRow w.heap.size 53 5 (.slice (some ⟨g, 0, none⟩) (k + 1) cp) (k + 1) (actVals (turnM n M) (k + 1)) ∧ Keeps None w w2) := by
        rw [actVals_succ, HT.out.1, HT.out.2.1, HT.out.2.2.1, HT.out.2.2.2.1, HT.out.2.2.2.2]
        refine ⟨ho, ((hkp.andAlloc _).andAlloc _).trans hk2 (fun i e hi => ?_)⟩
        rcases hrow.2 with ⟨e0, _⟩ | ⟨g', cap', cur, e0, hbg, _⟩
        · rw [e0] at e; simp [Value.ownBlock] at e
        · rw [e0] at e; simp [Value.ownBlock] at e; omega
      have ek : (j : Int) - 1 = (n : Int) - 1 - ((k + 1 : Nat) : Int) := by omega
      have HE : Hid ((j : Int) - 1 = (n : Int) - 1 - ((k + 1 : Nat) : Int)) := ek
      clear hrow hkp ho hk2 hc hrow2 HT hj ej ek
      go_wp2_with (at_builtin; refine wpList_append_run rfl (.tmp 21) (.tmp 23) 22 22 rfl rfl rfl hr ?_)
      refine ⟨⟨k + 1, by omega, ?_, HN.out⟩, ?_⟩
      · rw [← HE.out]
      · simp [intOf]
    · have hkn2 : k = n := by omega
      subst hkn2
      have i1 : ¬ (0 : Int) ≤ (k : Int) - 1 - (k : Int) := by omega
      have HN : Hid (wr.ownsRow w.heap.size 53 5 (.slice sa k cs) k (actVals (turnM k M) k) ∧ Keeps None w wr) := ⟨hrow, hkp⟩
      clear hrow hkp
      go_wp2
      go_ret
      exact ⟨_, _, rfl, HN.out⟩
end Go.Proofs.Ytncbejpefokhhaa
