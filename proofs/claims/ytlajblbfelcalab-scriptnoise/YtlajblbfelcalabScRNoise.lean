import Derived.Test.YtlajblbfelcalabScLessLaw
import Derived.Test.YtlajblbfelcalabScRef1
/-! The document's Noise. -/
namespace Go.Proofs.Ytlajblbfelcalab
set_option linter.unusedVariables false
set_option maxRecDepth 20000
open Go.RowKit Go.HeapKit Go.Sc

theorem noiL_succ (seed : Int) (W : Nat) (D : Int) (n : Nat) : noiL seed W D (n + 1) = noiL seed W D n ++ [(pickK seed W D n : Int)] := by simp [noiL, List.range_succ]
theorem drwL_succ (seed : Int) (W : Nat) (D : Int) (n : Nat) : drwL seed W D (n + 1) = drwL seed W D n ++ [drawK seed W D n] := by simp [drwL, List.range_succ]
theorem drwL_len (seed : Int) (W : Nat) (D : Int) (n : Nat) : (drwL seed W D n).length = n := by simp [drwL]
def lastF (k : Nat) (c : Nat → Nat) (j : Nat) : Int := (k : Int) - 1 - c j
set_option maxHeartbeats 1600000 in
theorem rlongest_any (g W k : Nat) (c : Nat → Nat) (w : World) (h : IsN w g W (lastF k c)) (hW1 : 1 ≤ W) (hW : W ≤ 64) :
    Calls Try.prog 43 #[.slice (some ⟨g, 0, none⟩) W W] w fun e w' => e = .returned (.int .i64 (lg c W : Nat)) ∧ ∃ d, w' = w.drewN d := by
  have HI : Hid (IsN w g W (lastF k c)) := h
  clear h
  go_enter Try.func43, Try.ntmps43
  go_wp2_with fail
  go_loopw [4, 3] (fun s4 s3 wr => ∃ n : Nat, s4 = .int .i64 n ∧ n ≤ W ∧ s3 = .int .i64 (lg c n : Nat) ∧ ∃ d, wr = w.drewN d) (fun s4 _ _ => W - (intOf s4).toNat)
  case atStart => exact ⟨0, rfl, Nat.zero_le _, rfl, 0, rfl⟩
  case round =>
    obtain ⟨n, rfl, hn, rfl, d, rfl⟩ := hrel
    by_cases hlt : n < W
    · have i1 : (n : Int) < (W : Int) := by omega
      have hl := lg_le c n
      obtain ⟨L, hL⟩ : ∃ L, L = lg c n := ⟨_, rfl⟩
      have HL : Hid (lg c (n + 1) = if c L < c n then n else L) := by rw [hL]; exact rfl
      rw [← hL] at hl ⊢
      clear hL
      have d1 := HI.out.at hlt
      have d2 := HI.out.at (k := L) (by omega)
      have i3 : (L : Int) < (W : Int) := by omega
      have W0 : ¬ W = 0 := by omega
      have hx : lastF k c n < lastF k c L ↔ c L < c n := by unfold lastF; omega
      generalize lastF k c n = Y1 at d1 hx
      generalize lastF k c L = Y2 at d2 hx
      by_cases hq : c L < c n
      · have i2 : Y1 < Y2 := hx.2 hq
        clear hx
        go_wp2_with fail
        go_quiet (fail)
        all_goals go_wp2_with fail
        all_goals exact ⟨⟨n + 1, by go_num, by omega, by rw [HL.out, if_pos hq], _, rfl⟩, by simp [intOf]; omega⟩
      · have i2 : ¬ Y1 < Y2 := fun h => hq (hx.1 h)
        have i4 : decide (Y1 < Y2) = false := by simpa using i2
        clear hx
        go_wp2_with fail
        go_quiet (fail)
        all_goals go_wp2_with fail
        all_goals exact ⟨⟨n + 1, by go_num, by omega, by rw [HL.out, if_neg hq], _, rfl⟩, by simp [intOf]; omega⟩
    · have i1 : ¬ (n : Int) < (W : Int) := by omega
      obtain rfl : n = W := by omega
      go_wp2_with fail
      go_ret
      exact ⟨rfl, d, rfl⟩
/-- 'append' to one of two rows. -/
theorem TwoR.app0 {w : World} {B : Nat} {v0 v1 : Value} {n0 n1 : Nat} {l0 l1 : List Int} (h : TwoR w B v0 v1 n0 n1 l0 l1) (x : Int) (wa : World) (hk : Keeps None w wa) (g0 : Nat) (hg0 : wa.heap[g0]? = some (.cells #[.int .i64 x] 3 (0, 0))) (hB : B ≤ w.heap.size) (hn : n0 ≤ 1048576) (ty : TypeId) :
    ∃ g cap w', (Builtin.append_ #[23, 23] ty #[v0, .slice (some ⟨g0, 0, none⟩) 1 1]).run Try.prog wa = .ok (.slice (some ⟨g, 0, none⟩) (n0 + 1) cap) w' ∧ TwoR w' B (.slice (some ⟨g, 0, none⟩) (n0 + 1) cap) v1 (n0 + 1) n1 (l0 ++ [x]) l1 ∧ Keeps (fun i => B ≤ i) w w' := by
  obtain ⟨g, cap, w', hr, ho, hk2, hm⟩ := int_more B v0 l0 x n0 ty g0 wa (row_len h.r0) (row_more h.r0 hk) (by have := hk.size; omega) (by omega) hg0
  refine ⟨g, cap, w', hr, ⟨ho, row_kept (row_more h.r1 hk) hk2 (fun i e1 e0 => h.ap i e0 e1), fun i e0 e1 => ?_⟩, (hk.mono (fun _ f _ => f.elim)).trans hk2 (fun i e _ => row_low h.r0 e)⟩
  simp [Value.ownBlock] at e0
  subst e0
  rcases hm with hm | hm
  · exact h.ap _ hm e1
  · have := own_lt h.r1 e1; have := hk.size; omega
theorem TwoR.app1 {w : World} {B : Nat} {v0 v1 : Value} {n0 n1 : Nat} {l0 l1 : List Int} (h : TwoR w B v0 v1 n0 n1 l0 l1) (x : Int) (wa : World) (hk : Keeps None w wa) (g0 : Nat) (hg0 : wa.heap[g0]? = some (.cells #[.int .i64 x] 3 (0, 0))) (hB : B ≤ w.heap.size) (hn : n1 ≤ 1048576) (ty : TypeId) :
    ∃ g cap w', (Builtin.append_ #[23, 23] ty #[v1, .slice (some ⟨g0, 0, none⟩) 1 1]).run Try.prog wa = .ok (.slice (some ⟨g, 0, none⟩) (n1 + 1) cap) w' ∧ TwoR w' B v0 (.slice (some ⟨g, 0, none⟩) (n1 + 1) cap) n0 (n1 + 1) l0 (l1 ++ [x]) ∧ Keeps (fun i => B ≤ i) w w' := by
  obtain ⟨g, cap, w', hr, ho, hk2, hm⟩ := int_more B v1 l1 x n1 ty g0 wa (row_len h.r1) (row_more h.r1 hk) (by have := hk.size; omega) (by omega) hg0
  refine ⟨g, cap, w', hr, ⟨row_kept (row_more h.r0 hk) hk2 (fun i e0 e1 => h.ap i e0 e1), ho, fun i e0 e1 => ?_⟩, (hk.mono (fun _ f _ => f.elim)).trans hk2 (fun i e _ => row_low h.r1 e)⟩
  simp [Value.ownBlock] at e1
  subst e1
  rcases hm with hm | hm
  · exact h.ap _ e0 hm
  · have := own_lt h.r0 e0; have := hk.size; omega
/-- What stands while the document makes noise. -/
structure Rn (w wr : World) (s0 p gl B W : Nat) (v0 v1 : Value) (seed D : Int) (kf kg kw : Nat) : Prop where
  b0 : wr.heap[s0]? = some (.cells #[.slice none 0 0, .slice none 0 0] 25 (0, 0))
  bp : wr.heap[p]? = some (.cells #[v0, v1] 25 (0, 0))
  two : TwoR wr B v0 v1 kf kg (noiL seed W D kf) (drwL seed W D kg)
  la : IsN wr gl W (lastF kw (nzK seed W D kw).c)
  kp : Keeps None w wr
  or1 : w.heap.size ≤ s0
  or2 : s0 < p ∧ p < gl ∧ gl < B
  bl : B ≤ wr.heap.size
section
variable {w wr w' : World} {s0 p gl B W : Nat} {v0 v1 : Value} {seed D : Int} {kf kg kw : Nat}
theorem Rn.more (h : Rn w wr s0 p gl B W v0 v1 seed D kf kg kw) (hk : Keeps None wr w') : Rn w w' s0 p gl B W v0 v1 seed D kf kg kw :=
  ⟨blk_kept h.b0 hk (fun f => f), blk_kept h.bp hk (fun f => f), h.two.more hk, h.la.more hk, h.kp.trans hk (fun _ f _ => f), h.or1, h.or2, Nat.le_trans h.bl hk.size⟩
theorem Rn.named (h : Rn w wr s0 p gl B W v0 v1 seed D kf kg kw) : Rn w (wr.setCell ⟨gl, pickK seed W D kw, none⟩ (.int .i64 (kw : Int))) s0 p gl B W v0 v1 seed D kf kg (kw + 1) := by
  have o1 := h.or1
  have o2 := h.or2
  have hk : Keeps (· = gl) wr (wr.setCell ⟨gl, pickK seed W D kw, none⟩ (.int .i64 (kw : Int))) := Keeps.setCell (S := (· = gl)) wr rfl _
  refine ⟨blk_kept h.b0 hk (by omega), blk_kept h.bp hk (by omega), h.two.kept hk (fun g h1 _ _ => by omega), (h.la.set _ _).congr (fun j _ => ?_), h.kp.trans hk (fun i e hi => by omega), h.or1, h.or2, Nat.le_trans h.bl hk.size⟩
  have e : (nzK seed W D (kw + 1)).c = nm (nzK seed W D kw).c (pickK seed W D kw) := rfl
  unfold upd lastF
  rw [e]
  unfold nm
  by_cases c : j = pickK seed W D kw
  · rw [if_pos c, if_pos c.symm]; omega
  · rw [if_neg c, if_neg (fun h => c h.symm)]; omega
theorem Rn.set0 (h : Rn w wr s0 p gl B W v0 v1 seed D kf kg kw) {u0 : Value} (ht : TwoR w' B u0 v1 (kf + 1) kg (noiL seed W D (kf + 1)) (drwL seed W D kg)) (hk : Keeps (fun i => B ≤ i) wr w') : Rn w (w'.setCell ⟨p, 0, none⟩ u0) s0 p gl B W u0 v1 seed D (kf + 1) kg kw := by
  have o1 := h.or1
  have o2 := h.or2
  have hs : Keeps (· = p) w' (w'.setCell ⟨p, 0, none⟩ u0) := Keeps.setCell (S := (· = p)) w' rfl _
  have bp := blk_kept h.bp hk (by omega)
  exact ⟨blk_kept (blk_kept h.b0 hk (by omega)) hs (by omega), blk_set (i := 0) bp u0, ht.kept hs (fun g h1 _ _ => by omega), (h.la.kept hk (by omega)).kept hs (by omega), (h.kp.trans hk (fun i e hi => by omega)).trans hs (fun i e hi => by omega), h.or1, h.or2, Nat.le_trans h.bl (Nat.le_trans hk.size hs.size)⟩
theorem Rn.set1 (h : Rn w wr s0 p gl B W v0 v1 seed D kf kg kw) {u1 : Value} (ht : TwoR w' B v0 u1 kf (kg + 1) (noiL seed W D kf) (drwL seed W D (kg + 1))) (hk : Keeps (fun i => B ≤ i) wr w') : Rn w (w'.setCell ⟨p, 1, none⟩ u1) s0 p gl B W v0 u1 seed D kf (kg + 1) kw := by
  have o1 := h.or1
  have o2 := h.or2
  have hs : Keeps (· = p) w' (w'.setCell ⟨p, 1, none⟩ u1) := Keeps.setCell (S := (· = p)) w' rfl _
  have bp := blk_kept h.bp hk (by omega)
  exact ⟨blk_kept (blk_kept h.b0 hk (by omega)) hs (by omega), blk_set (i := 1) bp u1, ht.kept hs (fun g h1 _ _ => by omega), (h.la.kept hk (by omega)).kept hs (by omega), (h.kp.trans hk (fun i e hi => by omega)).trans hs (fun i e hi => by omega), h.or1, h.or2, Nat.le_trans h.bl (Nat.le_trans hk.size hs.size)⟩
end
set_option maxHeartbeats 800000 in
theorem rnoise_bad (seed x win n : Int) (w : World) (hE : noiE x win n ≠ 0) :
    Calls Try.prog 25 #[.int .i64 seed, .int .i64 x, .int .i64 win, .int .i64 n] w fun e w' => e = .returned (.tuple #[.agg #[.slice none 0 0, .slice none 0 0], .int .i64 (noiE x win n)]) ∧ Keeps None w w' := by
  rcases noi_cases x win n with ⟨hg, e⟩ | ⟨hg, ⟨h2, e⟩ | ⟨h2, ⟨h3, e⟩ | ⟨h3, ⟨h4, e⟩ | ⟨h4, e⟩⟩⟩⟩
  all_goals rw [e]
  case inr.inr.inr.inr => exact absurd e hE
  all_goals clear e hE
  all_goals go_enter Try.func25, Try.ntmps25
  all_goals go_wp2_with (go_at_call 39; refine (rgood_any _ _).mono ?_; rintro _ wz ⟨rfl, hw⟩; have hw2 := hw.symm; subst hw2; clear hw; rw [hg])
  all_goals exact script_ret2 8 9 rfl (blk_new w (.cells #[.slice none 0 0, .slice none 0 0] 25) _ rfl) rfl rfl rfl ⟨rfl, keeps1 _ _⟩
set_option maxHeartbeats 3200000 in
theorem rnoise_good (seed win : Int) (W n : Nat) (w : World) (hs : okI seed) (hW1 : 1 ≤ W) (hW : W ≤ 64) (hwin : (W : Int) ≤ win) (hwo : win ≤ 9223372036854775807) (hn : n ≤ 1048576) :
    Calls Try.prog 25 #[.int .i64 seed, .int .i64 W, .int .i64 win, .int .i64 n] w fun e w' => ∃ v0 v1, e = .returned (.tuple #[.agg #[v0, v1], .int .i64 0]) ∧ TwoR w' w.heap.size v0 v1 n n (noiL seed W (win - W) n) (drwL seed W (win - W) n) ∧ Keeps None w w' := by
  have HX : Hid (okI seed) := hs
  have hg := goodB_t (x := (W : Int)) (by omega) (by omega)
  have i0 : ¬ win < (W : Int) := by omega
  have i1 : ¬ (n : Int) < 0 := by omega
  have i2 : ¬ (1048576 : Int) < (n : Int) := by omega
  clear hs
  have hmk := fun wz : World => make_ints W wz (by omega)
  obtain ⟨s0, hs0⟩ : ∃ s0, s0 = w.heap.size := ⟨_, rfl⟩
  have hb0 := blk_old (blk_old (blk_new w (.cells #[.slice none 0 0, .slice none 0 0] 25) s0 hs0.symm) (.cells #[.slice none 0 0, .slice none 0 0] 25)) (.cells ((List.range W).map (fun _ => Value.int .i64 0)).toArray 3)
  have hb1 := blk_old (blk_new (w.alloc (.cells #[.slice none 0 0, .slice none 0 0] 25)) (.cells #[.slice none 0 0, .slice none 0 0] 25) (s0 + 1) (by simp; omega)) (.cells ((List.range W).map (fun _ => Value.int .i64 0)).toArray 3)
  have hb2 := isN_new ((w.alloc (.cells #[.slice none 0 0, .slice none 0 0] 25)).alloc (.cells #[.slice none 0 0, .slice none 0 0] 25)) W (s0 + 1 + 1) (by simp; omega)
  have hkb := ((keeps1 w (.cells #[.slice none 0 0, .slice none 0 0] 25)).andAlloc (.cells #[.slice none 0 0, .slice none 0 0] 25)).andAlloc (.cells ((List.range W).map (fun _ => Value.int .i64 0)).toArray 3)
  have hsz : (((w.alloc (.cells #[.slice none 0 0, .slice none 0 0] 25)).alloc (.cells #[.slice none 0 0, .slice none 0 0] 25)).alloc (.cells ((List.range W).map (fun _ => Value.int .i64 0)).toArray 3)).heap.size = s0 + 1 + 1 + 1 := by simp; omega
  go_enter Try.func25, Try.ntmps25
  go_wp2_with (first | (go_at_call 39; refine (rgood_any _ _).mono ?_; rintro _ wz ⟨rfl, hw⟩; have hw2 := hw.symm; subst hw2; clear hw; rw [hg]) | (at_make; refine wpList_make_run rfl (.tmp 31) (.tmp 31) 23 rfl rfl rfl (hmk _) ?_))
  rw [← hs0]
  generalize ((w.alloc (.cells #[.slice none 0 0, .slice none 0 0] 25)).alloc (.cells #[.slice none 0 0, .slice none 0 0] 25)).alloc (.cells ((List.range W).map (fun _ => Value.int .i64 0)).toArray 3) = wa at *
  have HA : Hid (wa.heap[s0]? = some (.cells #[.slice none 0 0, .slice none 0 0] 25 (0, 0)) ∧ wa.heap[s0 + 1]? = some (.cells #[.slice none 0 0, .slice none 0 0] 25 (0, 0)) ∧ IsN wa (s0 + 1 + 1) W (fun _ => 0) ∧ Keeps None w wa ∧ wa.heap.size = s0 + 1 + 1 + 1 ∧ s0 = w.heap.size) := ⟨hb0, hb1, hb2, hkb, hsz, hs0⟩
  clear hb0 hb1 hb2 hkb hsz hs0 hmk
  go_loopw [12] (fun s12 wr => ∃ k : Nat, s12 = .int .i64 k ∧ k ≤ W ∧ IsN wr (s0 + 1 + 1) W (fun i => if i < k then -1 else 0) ∧ Keeps (· = s0 + 1 + 1) wa wr) (fun s12 _ => W - (intOf s12).toNat)
  case atStart => exact ⟨0, rfl, Nat.zero_le _, HA.out.2.2.1, Keeps.refl _ _⟩
  case round =>
    obtain ⟨k, rfl, hk, hN, hkp⟩ := hrel
    by_cases hkW : k < W
    · have j1 : (k : Int) < (W : Int) := by omega
      have W0 : ¬ W = 0 := by omega
      have d1 := hN.at hkW
      have f1 := hN.free k
      have HN : Hid (IsN (wr.setCell ⟨s0 + 1 + 1, k, none⟩ (.int .i64 (-1))) (s0 + 1 + 1) W (fun i => if i < k + 1 then -1 else 0) ∧ Keeps (· = s0 + 1 + 1) wa (wr.setCell ⟨s0 + 1 + 1, k, none⟩ (.int .i64 (-1)))) := by
        refine ⟨(hN.set k _).congr (fun i _ => ?_), keeps_one hkp _⟩
        unfold upd
        by_cases e : i = k
        · subst e; rw [if_pos rfl, if_pos (by omega)]
        · rw [if_neg e]
          by_cases e2 : i < k
          · simp only; rw [if_pos e2, if_pos (by omega)]
          · simp only; rw [if_neg e2, if_neg (by omega)]
      generalize (if k < k then (-1 : Int) else 0) = y0 at d1
      clear hN hkp
      go_wp2_with fail
      exact ⟨⟨k + 1, by go_num, by omega, HN.out⟩, by simp [intOf]; omega⟩
    · have j1 : ¬ (k : Int) < (W : Int) := by omega
      obtain rfl : k = W := by omega
      obtain ⟨D, hD⟩ : ∃ D, D = win - (k : Int) := ⟨_, rfl⟩
      have HD : Hid (D = win - (k : Int)) := hD
      clear hD
      have HR0 : Hid (Rn w wr s0 (s0 + 1) (s0 + 1 + 1) (s0 + 1 + 1 + 1) k (.slice none 0 0) (.slice none 0 0) seed D 0 0 0) := by
        have e := HA.out
        refine ⟨blk_kept e.1 hkp (by omega), blk_kept e.2.1 hkp (by omega), ⟨row_nil _ _ _ _, row_nil _ _ _ _, fun g h => by simp [Value.ownBlock] at h⟩, hN.congr (fun i hi => ?_), e.2.2.2.1.trans hkp (fun i q hi => by omega), by omega, by omega, by have := hkp.size; omega⟩
        rw [if_pos hi]
        simp [lastF, nzK]
      clear hN hkp
      generalize s0 + 1 + 1 + 1 = B at HR0
      generalize hgl : s0 + 1 + 1 = gl at *
      generalize hp : s0 + 1 = p at *
      clear hgl hp HA
      go_wp2_with fail
      go_loopw [14, 13, 15, 16] (fun s14 s13 _ _ wq => ∃ (i : Nat) (v0 v1 : Value), s14 = .int .i64 i ∧ i ≤ n ∧ s13 = .int .i64 (seedK seed (2 * i)) ∧ Rn w wq s0 p gl B k v0 v1 seed D i i i) (fun s14 _ _ _ _ => n - (intOf s14).toNat)
      case atStart => exact ⟨0, _, _, rfl, Nat.zero_le _, rfl, HR0.out⟩
      case round =>
        obtain ⟨i, v0, v1, rfl, hi, rfl, hR⟩ := hrel
        have HR : Hid (Rn w wr s0 p gl B k v0 v1 seed D i i i) := hR
        clear hR
        obtain ⟨a0, q0, rfl⟩ := row_shape HR.out.two.r0
        obtain ⟨a1, q1, rfl⟩ := row_shape HR.out.two.r1
        by_cases hin : i < n
        · have j2 : (i : Int) < (n : Int) := by omega
          have HE1 : Hid (nx (seedK seed (2 * i)) = seedK seed (2 * i + 1) ∧ okI (seedK seed (2 * i + 1)) ∧ nx (seedK seed (2 * i + 1)) = seedK seed (2 * i + 1 + 1) ∧ okI (seedK seed (2 * i + 1 + 1))) := ⟨rfl, seedK_ok seed HX.out _, rfl, seedK_ok seed HX.out _⟩
          have hcl : ∀ j, (nzK seed k D i).c j ≤ i := fun j => by rw [nzK_c]; exact cur_le _ _ _
          have hlg := lg_lt (nzK seed k D i).c (show 0 < k by omega)
          obtain ⟨L, hL⟩ : ∃ L, L = lg (nzK seed k D i).c k := ⟨_, rfl⟩
          have HLL : Hid (L = lg (nzK seed k D i).c k) := hL
          have HPV : Hid (pickK seed k D i = if D ≤ ((nzK seed k D i).c L : Int) then L else (num (seedK seed (2 * i + 1)) % (k : Int)).toNat) := by
            rw [hL]
            exact (pickV_nz seed k D i).symm
          have hPl : pickK seed k D i < k := pick_lt _ _ (by omega)
          have hLi := hcl L
          rw [← hL] at hlg
          clear hL hcl
          obtain ⟨C, hC⟩ : ∃ C, C = (nzK seed k D i).c L := ⟨_, rfl⟩
          have HCC : Hid (C = (nzK seed k D i).c L) := hC
          rw [← hC] at HPV hLi
          clear hC
          have hM0 := Int.emod_nonneg (num (seedK seed (2 * i + 1))) (b := (k : Int)) (by omega)
          obtain ⟨Q, hQ⟩ : ∃ Q, Q = (num (seedK seed (2 * i + 1)) % (k : Int)).toNat := ⟨_, rfl⟩
          have HQ : Hid (Go.PlainOps.modV (num (seedK seed (2 * i + 1))) k = (Q : Int)) := by
            unfold Go.PlainOps.modV
            rw [if_neg (by omega), hQ]
            show _ = _
            omega
          rw [← hQ] at HPV
          clear hQ hM0
          obtain ⟨P, hP⟩ : ∃ P, P = pickK seed k D i := ⟨_, rfl⟩
          have HP : Hid (P = pickK seed k D i) := hP
          rw [← hP] at HPV hPl
          clear hP
          go_wp2_with fail
          refine (rnext_any _ _).mono ?_
          rintro _ wz ⟨rfl, hw⟩
          have hw2 := hw.symm
          subst hw2
          clear hw
          rw [HE1.out.1]
          go_wp2_with fail
          refine (rnumber_any _ _ HE1.out.2.1).mono ?_
          rintro _ wz ⟨rfl, hw⟩
          have hw2 := hw.symm
          subst hw2
          clear hw
          go_wp2_with fail
          refine (refMod_any _ k _ (by omega)).mono ?_
          rintro _ wz ⟨rfl, hw⟩
          have hw2 := hw.symm
          subst hw2
          clear hw
          rw [HQ.out]
          go_wp2_with fail
          refine (rlongest_any gl k i _ _ HR.out.la hW1 hW).mono ?_
          rintro _ w1 ⟨rfl, d1, rfl⟩
          rw [← HLL.out]
          have HR1 : Hid (Rn w (wr.drewN d1) s0 p gl B k (.slice a0 i q0) (.slice a1 i q1) seed D i i i) := HR.out.more (Keeps.drewN None _ _)
          have x1 : wr.cell? ⟨gl, L, none⟩ = some (.int .i64 ((i : Int) - 1 - (C : Int))) := by
            rw [HCC.out]
            exact HR.out.la.at hlg
          have k0 : ¬ k = 0 := by omega
          have j3 : (L : Int) < (k : Int) := by omega
          have j4 : (i : Int) - 1 - ((i : Int) - 1 - (C : Int)) = (C : Int) := by omega
          obtain ⟨Y, hY⟩ : ∃ Y, Y = (i : Int) - 1 - (C : Int) := ⟨_, rfl⟩
          rw [← hY] at x1 j4
          have j5 : -1 ≤ Y := by omega
          have j6 : Y ≤ (i : Int) := by omega
          clear hY
          go_upto_region 22 with fail
          go_cut [65] (fun s65 wx => s65 = .bool (decide (D ≤ (C : Int))) ∧ wx = wr.drewN d1)
          case first =>
            have j7 := HD.out
            by_cases hq : D ≤ (C : Int)
            · have j8 : win - (k : Int) ≤ (C : Int) := by omega
              have j9 : decide (D ≤ (C : Int)) = true := by simpa using hq
              have J9 : Hid _ := j9
              clear j7 hq j9
              go_wp2_with fail
              go_meet
              exact ⟨by rw [J9.out], rfl⟩
            · have j8 : ¬ win - (k : Int) ≤ (C : Int) := by omega
              have j9 : decide (D ≤ (C : Int)) = false := by simpa using hq
              have j10 : decide (win - (k : Int) ≤ (C : Int)) = false := by simpa using j8
              have J9 : Hid _ := j9
              clear j7 hq j9
              go_wp2_with fail
              go_meet
              exact ⟨by rw [J9.out], rfl⟩
          case rest =>
          obtain ⟨rfl, hwc⟩ := hcut
          subst hwc
          go_upto_if 65 with fail
          go_cut [15] (fun s15 wx => s15 = .int .i64 (P : Int) ∧ wx = wr.drewN d1)
          case first =>
            by_cases hq : D ≤ (C : Int)
            · have j9 : decide (D ≤ (C : Int)) = true := by simpa using hq
              have hPL : P = L := by rw [HPV.out, if_pos hq]
              subst hPL
              go_wp2_with fail
              go_meet
              exact ⟨rfl, rfl⟩
            · have j9 : decide (D ≤ (C : Int)) = false := by simpa using hq
              have hPL : P = Q := by rw [HPV.out, if_neg hq]
              subst hPL
              go_wp2_with fail
              go_meet
              exact ⟨rfl, rfl⟩
          case rest =>
          obtain ⟨rfl, hwc⟩ := hcut
          subst hwc
          have x2 := HR1.out.la.at hPl
          have x3 := HR1.out.la.free P
          have j7 : (P : Int) < (k : Int) := by omega
          have HR2 : Hid (Rn w ((wr.drewN d1).setCell ⟨gl, P, none⟩ (.int .i64 (i : Int))) s0 p gl B k (.slice a0 i q0) (.slice a1 i q1) seed D i i (i + 1)) := by
            have := HR1.out.named
            rwa [← HP.out] at this
          generalize lastF i (nzK seed k D i).c P = Y2 at x2
          clear x1
          go_wp2_with fail
          refine (rnext_any _ _).mono ?_
          rintro _ wz ⟨rfl, hw⟩
          have hw2 := hw.symm
          subst hw2
          clear hw
          rw [HE1.out.2.2.1]
          generalize (wr.drewN d1).setCell ⟨gl, P, none⟩ (.int .i64 (i : Int)) = wx at *
          obtain ⟨g0, cp0, w2, hr, ht, hk2⟩ := HR2.out.two.app0 (P : Int) (wx.alloc (.cells #[.int .i64 (P : Int)] 3)) (keeps1 _ _) wx.heap.size (blk_new _ _ _ rfl) HR2.out.bl (by omega) 23
          have e0 : noiL seed k D i ++ [(P : Int)] = noiL seed k D (i + 1) := by rw [noiL_succ, HP.out]
          rw [e0] at ht
          have HR3 : Hid (Rn w (w2.setCell ⟨p, 0, none⟩ (.slice (some ⟨g0, 0, none⟩) (i + 1) cp0)) s0 p gl B k (.slice (some ⟨g0, 0, none⟩) (i + 1) cp0) (.slice a1 i q1) seed D (i + 1) i (i + 1)) := HR2.out.set0 ht hk2
          have y1 : wx.cell? ⟨p, 0, none⟩ = some (.slice a0 i q0) := (blk_cell HR2.out.bp 0).trans rfl
          have y4 : (wx.alloc (.cells #[.int .i64 (P : Int)] 3)).cell? ⟨p, 0, none⟩ = some (.slice a0 i q0) := (blk_cell (blk_old HR2.out.bp _) 0).trans rfl
          have bp2 := blk_kept HR2.out.bp hk2 (by have := HR2.out.or2; omega)
          have y2 : w2.cell? ⟨p, 0, none⟩ = some (.slice a0 i q0) := (blk_cell bp2 0).trans rfl
          have y3 := blk_free bp2 0
          clear ht hk2 bp2 e0 x2 x3
          go_upto_region 26 with fail
          go_cut [14] (fun s14 wy => s14 = .int .i64 i ∧ Rn w wy s0 p gl B k (.slice (some ⟨g0, 0, none⟩) (i + 1) cp0) (.slice a1 i q1) seed D (i + 1) i (i + 1))
          case first =>
            go_wp2_with (at_builtin; refine wpList_append_run rfl (.tmp 74) (.tmp 76) 23 23 rfl rfl rfl hr ?_)
            go_meet
            exact ⟨rfl, HR3.out⟩
          case rest =>
          obtain ⟨rfl, hR4⟩ := hcut
          have HR4 : Hid (Rn w wc s0 p gl B k (.slice (some ⟨g0, 0, none⟩) (i + 1) cp0) (.slice a1 i q1) seed D (i + 1) i (i + 1)) := hR4
          clear hR4 hr y1 y2 y3 y4 HR3 HR2 HR1
          obtain ⟨y, hy⟩ : ∃ y, y = num (seedK seed (2 * i + 1 + 1)) := ⟨_, rfl⟩
          have HY : Hid (∀ wz, Calls Try.prog 42 #[.int .i64 (seedK seed (2 * i + 1 + 1))] wz fun e w' => e = .returned (.int .i64 y) ∧ w' = wz) := fun wz => by rw [hy]; exact rnumber_any _ wz HE1.out.2.2.2
          have hDk : Keeps None wc (wc.drew.alloc (.cells #[.int .i64 y] 3)) := (Keeps.drew None _).andAlloc _
          obtain ⟨g1, cp1, w3, hr, ht, hk3⟩ := HR4.out.two.app1 y (wc.drew.alloc (.cells #[.int .i64 y] 3)) hDk wc.heap.size (blk_new _ _ _ rfl) HR4.out.bl (by omega) 23
          have e0 : drwL seed k D i ++ [y] = drwL seed k D (i + 1) := by rw [drwL_succ, hy, draw_nz seed k D i]
          rw [e0] at ht
          have HR5 : Hid (Rn w (w3.setCell ⟨p, 1, none⟩ (.slice (some ⟨g1, 0, none⟩) (i + 1) cp1)) s0 p gl B k (.slice (some ⟨g0, 0, none⟩) (i + 1) cp0) (.slice (some ⟨g1, 0, none⟩) (i + 1) cp1) seed D (i + 1) (i + 1) (i + 1)) := HR4.out.set1 ht hk3
          have y1 : wc.cell? ⟨p, 1, none⟩ = some (.slice a1 i q1) := (blk_cell HR4.out.bp 1).trans rfl
          have y4 : (wc.alloc (.cells #[.int .i64 y] 3)).cell? ⟨p, 1, none⟩ = some (.slice a1 i q1) := (blk_cell (blk_old HR4.out.bp _) 1).trans rfl
          have bp2 := blk_kept HR4.out.bp hk3 (by have := HR4.out.or2; omega)
          have y2 : w3.cell? ⟨p, 1, none⟩ = some (.slice a1 i q1) := (blk_cell bp2 1).trans rfl
          have y3 := blk_free bp2 1
          obtain ⟨xx, hxx⟩ : ∃ xx, xx = seedK seed (2 * i + 1 + 1) := ⟨_, rfl⟩
          have HXX : Hid (xx = seedK seed (2 * (i + 1))) := hxx
          rw [← hxx] at HY ⊢
          clear ht hk3 bp2 e0 hxx hDk hy
          go_upto_region 27 with fail
          refine wp_region_held_drew (S := (fun w' => True)) (by kernel_rfl) ?_ (fun hHeld => ?_)
          · (try dsimp only); try trivial
          refine wpAnyH_take (i := 0) (oi := { dst := some 79, op := Op.fieldAddr 25 (Operand.tmp 10) 1, type := 0, pos := "script.go:158", after := #[], guard := none }) (v := ?_) rfl (by kernel_rfl) (by kernel_rfl) (by kernel_rfl) (fun _ _ _ h => h) (Or.inl ⟨by rfl, ?_⟩) (by assumption) ?_
          rotate_left
          · (intro wz hSw; (try dsimp only at hSw); go_simp; try with_reducible rfl)
          simp only [Act.put, List.setIfInBounds_toArray, List.set_cons_zero, List.set_cons_succ]
          refine wpAnyH_take (i := 2) (oi := { dst := some 81, op := Op.move (Operand.tmp 13), type := 2, pos := "script.go:158", after := #[], guard := none }) (v := ?_) rfl (by kernel_rfl) (by kernel_rfl) (by kernel_rfl) (fun _ _ _ h => h) (Or.inl ⟨by rfl, ?_⟩) (by assumption) ?_
          rotate_left
          · (intro wz hSw; (try dsimp only at hSw); go_simp; try with_reducible rfl)
          simp only [Act.put, List.setIfInBounds_toArray, List.set_cons_zero, List.set_cons_succ]
          refine wpAnyH_ready (rs := [1, 3]) (by kernel_rfl) (by simp) ?_
          refine AllReadyH.cons (o := { dst := some 80, op := Op.load 23 (Operand.tmp 79), type := 23, pos := "script.go:158", after := #[{ on := 0, ground := Ground.data }], guard := none }) rfl (fun K hK => ?_) ?_
          · go_simp
            refine hK.out _ _ ?_ (fun hHeld2 => ?_)
            · (try dsimp only); try trivial
            clear hK K
            try simp only [Act.put, List.setIfInBounds_toArray, List.set_cons_zero, List.set_cons_succ]
            refine wpAnyH_ready (rs := [3]) (by kernel_rfl) (by simp) ?_
            refine AllReadyH.cons (o := { dst := some 82, op := Op.call { callee := Callee.value (Operand.func 42), args := #[Operand.tmp 81], argTypes := #[2] }, type := 3, pos := "script.go:158", after := #[{ on := 2, ground := Ground.data }], guard := none }) rfl (fun K hK => ?_) ?_
            · go_simp
              refine (HY.out _).mono ?_
              rintro _ w4 ⟨rfl, hw⟩
              have hw2 := hw.symm
              subst hw2
              clear hw
              refine hK.out _ _ ?_ (fun hHeld2 => ?_)
              · (try dsimp only); try trivial
              clear hK K
              try simp only [Act.put, List.setIfInBounds_toArray, List.set_cons_zero, List.set_cons_succ]
              refine wpAnyH_ready (rs := [4]) (by kernel_rfl) (by simp) ?_
              refine AllReadyH.cons (o := { dst := some 83, op := Op.buildSlice 23 1 #[(0, Operand.tmp 82)], type := 23, pos := "script.go:158", after := #[{ on := 3, ground := Ground.data }], guard := none }) rfl (fun K hK => ?_) ?_
              · go_simp
                refine hK.out _ _ ?_ (fun hHeld2 => ?_)
                · (try dsimp only); try trivial
                clear hK K
                try simp only [Act.put, List.setIfInBounds_toArray, List.set_cons_zero, List.set_cons_succ]
                refine wpAnyH_ready (rs := [5]) (by kernel_rfl) (by simp) ?_
                refine AllReadyH.cons (o := { dst := some 84, op := Op.call { callee := Callee.builtin Builtin.append, args := #[Operand.tmp 80, Operand.tmp 83], argTypes := #[23, 23] }, type := 23, pos := "script.go:158", after := #[{ on := 1, ground := Ground.data }, { on := 4, ground := Ground.data }, { on := 3, ground := Ground.chain }], guard := none }) rfl (fun K hK => ?_) ?_
                · refine step_append_run rfl (.tmp 80) (.tmp 83) 23 23 rfl (by simp [Act.eval]) (by simp [Act.eval]) hr ?_
                  refine hK.out _ _ ?_ (fun hHeld2 => ?_)
                  · (try dsimp only); try trivial
                  clear hK K
                  try simp only [Act.put, List.setIfInBounds_toArray, List.set_cons_zero, List.set_cons_succ]
                  refine wpAnyH_take (i := 6) (oi := { dst := some 85, op := Op.fieldAddr 25 (Operand.tmp 10) 1, type := 0, pos := "script.go:158", after := #[{ on := 0, ground := Ground.phase }, { on := 1, ground := Ground.phase }, { on := 2, ground := Ground.phase }, { on := 3, ground := Ground.phase }, { on := 4, ground := Ground.phase }, { on := 5, ground := Ground.phase }], guard := none }) (v := ?_) rfl (by kernel_rfl) (by kernel_rfl) (by kernel_rfl) (fun _ _ _ h => h) (Or.inl ⟨by rfl, ?_⟩) (by assumption) ?_
                  rotate_left
                  · (intro wz hSw; (try dsimp only at hSw); go_simp; try with_reducible rfl)
                  simp only [Act.put, List.setIfInBounds_toArray, List.set_cons_zero, List.set_cons_succ]
                  refine wpAnyH_ready (rs := [7]) (by kernel_rfl) (by simp) ?_
                  refine AllReadyH.cons (o := { dst := none, op := Op.store 23 (Operand.tmp 85) (Operand.tmp 84), type := 0, pos := "script.go:158", after := #[{ on := 6, ground := Ground.data }, { on := 5, ground := Ground.data }, { on := 5, ground := Ground.chain }, { on := 0, ground := Ground.phase }, { on := 1, ground := Ground.phase }, { on := 2, ground := Ground.phase }, { on := 3, ground := Ground.phase }, { on := 4, ground := Ground.phase }, { on := 5, ground := Ground.phase }], guard := none }) rfl (fun K hK => ?_) ?_
                  · go_simp
                    refine hK.out _ _ ?_ (fun hHeld2 => ?_)
                    · (try dsimp only); try trivial
                    clear hK K
                    try simp only [Act.put, List.setIfInBounds_toArray, List.set_cons_zero, List.set_cons_succ]
                    refine wpAnyH_done (by kernel_rfl) ?_ _
                    go_wp2_with fail
                    exact ⟨⟨i + 1, _, _, by go_num, by omega, by rw [HXX.out], HR5.out⟩, by simp [intOf]; omega⟩
                  exact AllReadyH.nil
                exact AllReadyH.nil
              exact AllReadyH.nil
            exact AllReadyH.nil
          refine AllReadyH.cons (o := { dst := some 82, op := Op.call { callee := Callee.value (Operand.func 42), args := #[Operand.tmp 81], argTypes := #[2] }, type := 3, pos := "script.go:158", after := #[{ on := 2, ground := Ground.data }], guard := none }) rfl (fun K hK => ?_) ?_
          · go_simp
            refine (HY.out _).mono ?_
            rintro _ w4 ⟨rfl, hw⟩
            have hw2 := hw.symm
            subst hw2
            clear hw
            refine hK.out _ _ ?_ (fun hHeld2 => ?_)
            · (try dsimp only); try trivial
            clear hK K
            try simp only [Act.put, List.setIfInBounds_toArray, List.set_cons_zero, List.set_cons_succ]
            refine wpAnyH_ready (rs := [1, 4]) (by kernel_rfl) (by simp) ?_
            refine AllReadyH.cons (o := { dst := some 80, op := Op.load 23 (Operand.tmp 79), type := 23, pos := "script.go:158", after := #[{ on := 0, ground := Ground.data }], guard := none }) rfl (fun K hK => ?_) ?_
            · go_simp
              refine hK.out _ _ ?_ (fun hHeld2 => ?_)
              · (try dsimp only); try trivial
              clear hK K
              try simp only [Act.put, List.setIfInBounds_toArray, List.set_cons_zero, List.set_cons_succ]
              refine wpAnyH_ready (rs := [4]) (by kernel_rfl) (by simp) ?_
              refine AllReadyH.cons (o := { dst := some 83, op := Op.buildSlice 23 1 #[(0, Operand.tmp 82)], type := 23, pos := "script.go:158", after := #[{ on := 3, ground := Ground.data }], guard := none }) rfl (fun K hK => ?_) ?_
              · go_simp
                refine hK.out _ _ ?_ (fun hHeld2 => ?_)
                · (try dsimp only); try trivial
                clear hK K
                try simp only [Act.put, List.setIfInBounds_toArray, List.set_cons_zero, List.set_cons_succ]
                refine wpAnyH_ready (rs := [5]) (by kernel_rfl) (by simp) ?_
                refine AllReadyH.cons (o := { dst := some 84, op := Op.call { callee := Callee.builtin Builtin.append, args := #[Operand.tmp 80, Operand.tmp 83], argTypes := #[23, 23] }, type := 23, pos := "script.go:158", after := #[{ on := 1, ground := Ground.data }, { on := 4, ground := Ground.data }, { on := 3, ground := Ground.chain }], guard := none }) rfl (fun K hK => ?_) ?_
                · refine step_append_run rfl (.tmp 80) (.tmp 83) 23 23 rfl (by simp [Act.eval]) (by simp [Act.eval]) hr ?_
                  refine hK.out _ _ ?_ (fun hHeld2 => ?_)
                  · (try dsimp only); try trivial
                  clear hK K
                  try simp only [Act.put, List.setIfInBounds_toArray, List.set_cons_zero, List.set_cons_succ]
                  refine wpAnyH_take (i := 6) (oi := { dst := some 85, op := Op.fieldAddr 25 (Operand.tmp 10) 1, type := 0, pos := "script.go:158", after := #[{ on := 0, ground := Ground.phase }, { on := 1, ground := Ground.phase }, { on := 2, ground := Ground.phase }, { on := 3, ground := Ground.phase }, { on := 4, ground := Ground.phase }, { on := 5, ground := Ground.phase }], guard := none }) (v := ?_) rfl (by kernel_rfl) (by kernel_rfl) (by kernel_rfl) (fun _ _ _ h => h) (Or.inl ⟨by rfl, ?_⟩) (by assumption) ?_
                  rotate_left
                  · (intro wz hSw; (try dsimp only at hSw); go_simp; try with_reducible rfl)
                  simp only [Act.put, List.setIfInBounds_toArray, List.set_cons_zero, List.set_cons_succ]
                  refine wpAnyH_ready (rs := [7]) (by kernel_rfl) (by simp) ?_
                  refine AllReadyH.cons (o := { dst := none, op := Op.store 23 (Operand.tmp 85) (Operand.tmp 84), type := 0, pos := "script.go:158", after := #[{ on := 6, ground := Ground.data }, { on := 5, ground := Ground.data }, { on := 5, ground := Ground.chain }, { on := 0, ground := Ground.phase }, { on := 1, ground := Ground.phase }, { on := 2, ground := Ground.phase }, { on := 3, ground := Ground.phase }, { on := 4, ground := Ground.phase }, { on := 5, ground := Ground.phase }], guard := none }) rfl (fun K hK => ?_) ?_
                  · go_simp
                    refine hK.out _ _ ?_ (fun hHeld2 => ?_)
                    · (try dsimp only); try trivial
                    clear hK K
                    try simp only [Act.put, List.setIfInBounds_toArray, List.set_cons_zero, List.set_cons_succ]
                    refine wpAnyH_done (by kernel_rfl) ?_ _
                    go_wp2_with fail
                    exact ⟨⟨i + 1, _, _, by go_num, by omega, by rw [HXX.out], HR5.out⟩, by simp [intOf]; omega⟩
                  exact AllReadyH.nil
                exact AllReadyH.nil
              exact AllReadyH.nil
            refine AllReadyH.cons (o := { dst := some 83, op := Op.buildSlice 23 1 #[(0, Operand.tmp 82)], type := 23, pos := "script.go:158", after := #[{ on := 3, ground := Ground.data }], guard := none }) rfl (fun K hK => ?_) ?_
            · go_simp
              refine hK.out _ _ ?_ (fun hHeld2 => ?_)
              · (try dsimp only); try trivial
              clear hK K
              try simp only [Act.put, List.setIfInBounds_toArray, List.set_cons_zero, List.set_cons_succ]
              refine wpAnyH_ready (rs := [1]) (by kernel_rfl) (by simp) ?_
              refine AllReadyH.cons (o := { dst := some 80, op := Op.load 23 (Operand.tmp 79), type := 23, pos := "script.go:158", after := #[{ on := 0, ground := Ground.data }], guard := none }) rfl (fun K hK => ?_) ?_
              · go_simp
                refine hK.out _ _ ?_ (fun hHeld2 => ?_)
                · (try dsimp only); try trivial
                clear hK K
                try simp only [Act.put, List.setIfInBounds_toArray, List.set_cons_zero, List.set_cons_succ]
                refine wpAnyH_ready (rs := [5]) (by kernel_rfl) (by simp) ?_
                refine AllReadyH.cons (o := { dst := some 84, op := Op.call { callee := Callee.builtin Builtin.append, args := #[Operand.tmp 80, Operand.tmp 83], argTypes := #[23, 23] }, type := 23, pos := "script.go:158", after := #[{ on := 1, ground := Ground.data }, { on := 4, ground := Ground.data }, { on := 3, ground := Ground.chain }], guard := none }) rfl (fun K hK => ?_) ?_
                · refine step_append_run rfl (.tmp 80) (.tmp 83) 23 23 rfl (by simp [Act.eval]) (by simp [Act.eval]) hr ?_
                  refine hK.out _ _ ?_ (fun hHeld2 => ?_)
                  · (try dsimp only); try trivial
                  clear hK K
                  try simp only [Act.put, List.setIfInBounds_toArray, List.set_cons_zero, List.set_cons_succ]
                  refine wpAnyH_take (i := 6) (oi := { dst := some 85, op := Op.fieldAddr 25 (Operand.tmp 10) 1, type := 0, pos := "script.go:158", after := #[{ on := 0, ground := Ground.phase }, { on := 1, ground := Ground.phase }, { on := 2, ground := Ground.phase }, { on := 3, ground := Ground.phase }, { on := 4, ground := Ground.phase }, { on := 5, ground := Ground.phase }], guard := none }) (v := ?_) rfl (by kernel_rfl) (by kernel_rfl) (by kernel_rfl) (fun _ _ _ h => h) (Or.inl ⟨by rfl, ?_⟩) (by assumption) ?_
                  rotate_left
                  · (intro wz hSw; (try dsimp only at hSw); go_simp; try with_reducible rfl)
                  simp only [Act.put, List.setIfInBounds_toArray, List.set_cons_zero, List.set_cons_succ]
                  refine wpAnyH_ready (rs := [7]) (by kernel_rfl) (by simp) ?_
                  refine AllReadyH.cons (o := { dst := none, op := Op.store 23 (Operand.tmp 85) (Operand.tmp 84), type := 0, pos := "script.go:158", after := #[{ on := 6, ground := Ground.data }, { on := 5, ground := Ground.data }, { on := 5, ground := Ground.chain }, { on := 0, ground := Ground.phase }, { on := 1, ground := Ground.phase }, { on := 2, ground := Ground.phase }, { on := 3, ground := Ground.phase }, { on := 4, ground := Ground.phase }, { on := 5, ground := Ground.phase }], guard := none }) rfl (fun K hK => ?_) ?_
                  · go_simp
                    refine hK.out _ _ ?_ (fun hHeld2 => ?_)
                    · (try dsimp only); try trivial
                    clear hK K
                    try simp only [Act.put, List.setIfInBounds_toArray, List.set_cons_zero, List.set_cons_succ]
                    refine wpAnyH_done (by kernel_rfl) ?_ _
                    go_wp2_with fail
                    exact ⟨⟨i + 1, _, _, by go_num, by omega, by rw [HXX.out], HR5.out⟩, by simp [intOf]; omega⟩
                  exact AllReadyH.nil
                exact AllReadyH.nil
              exact AllReadyH.nil
            exact AllReadyH.nil
          exact AllReadyH.nil
        · have j2 : ¬ (i : Int) < (n : Int) := by omega
          obtain rfl : i = n := by omega
          have c0 : wr.cell? ⟨p, 0, none⟩ = some (.slice a0 i q0) := (blk_cell HR.out.bp 0).trans rfl
          have c1 : wr.cell? ⟨p, 1, none⟩ = some (.slice a1 i q1) := (blk_cell HR.out.bp 1).trans rfl
          have r0 := (blk_cell HR.out.b0 0).trans rfl
          have r1 := (blk_cell HR.out.b0 1).trans rfl
          have f0 := blk_free HR.out.b0 0
          have f1 := blk_free HR.out.b0 1
          go_wp2_with fail
          refine script_end2 8 9 rfl rfl HR.out.b0 rfl rfl rfl _ _ (fun w' hk => ⟨_, _, rfl, ?_, ?_⟩)
          · have o1 := HR.out.or1
            have o2 := HR.out.or2
            rw [← HD.out]
            exact (HR.out.two.kept hk (fun g h1 _ _ => by omega)).base (by omega)
          · have o1 := HR.out.or1
            exact HR.out.kp.trans hk (fun i e hi => by omega)
end Go.Proofs.Ytlajblbfelcalab
