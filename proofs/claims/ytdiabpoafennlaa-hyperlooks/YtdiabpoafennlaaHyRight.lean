import Derived.Test.YtdiabpoafennlaaHyFace
import Derived.Test.YtdiabpoafennlaaHySer
/-! What the laws of reducers ask: may a game be played, what is put. -/
namespace Go.Proofs.Ytdiabpoafennlaa
set_option linter.unusedVariables false
set_option maxRecDepth 20000
set_option linter.unusedSimpArgs false
open Go.RowKit Go.HeapKit

def rightB (l : List Dd) (st : List Bool) (pk : List Int) : Bool := decide (refE l st pk = 0)
theorem right_long {l : List Dd} {st : List Bool} {pk : List Int} (h : 4096 < l.length ∨ 4096 < st.length ∨ 1048576 < pk.length) : rightB l st pk = false := by
  unfold rightB refE
  rw [if_pos (by omega)]
  decide
theorem right_chk {l : List Dd} {st : List Bool} {pk : List Int} (h : ¬ (4096 < l.length ∨ 4096 < st.length ∨ 1048576 < pk.length)) : (∀ i, chkL l 0 0 = some i → rightB l st pk = false) ∧ (chkL l 0 0 = none → rightB l st pk = true) := by
  unfold rightB refE chkE
  rw [if_neg (by omega), if_neg (by omega)]
  exact ⟨fun i hi => by rw [hi]; rfl, fun hi => by rw [hi]; rfl⟩
set_option maxHeartbeats 3200000 in
theorem right_ok (a0 a1 a2 : Option Addr) (n0 c0 n1 c1 n2 c2 : Nat) (l : List Dd) (st : List Bool) (pk : List Int) (w : World) (h0 : Seen w a0 n0 l) (h1 : n1 = st.length) (h2 : n2 = pk.length) :
    Calls Try.prog 15 #[.agg #[.slice a0 n0 c0, .slice a1 n1 c1, .slice a2 n2 c2]] w fun e w' => e = .returned (.bool (rightB l st pk)) ∧ Keeps None w w' := by
  have HL : Hid (n0 = l.length ∧ n1 = st.length ∧ n2 = pk.length) := ⟨h0.len, h1, h2⟩
  obtain ⟨p0, hp0⟩ : ∃ p0, p0 = w.heap.size := ⟨_, rfl⟩
  have hb0 := blk_new w (.cells #[.slice a0 n0 c0, .slice a1 n1 c1, .slice a2 n2 c2] 26) p0 hp0.symm
  have hkb := (Keeps.alloc None w (.cells #[.slice a0 n0 c0, .slice a1 n1 c1, .slice a2 n2 c2] 26))
  by_cases b0 : 4096 < n0 ∨ 4096 < n1 ∨ 1048576 < n2
  · have HE : Hid (rightB l st pk = false) := right_long (by have := HL.out; omega)
    have HK : Hid (Keeps None w (w.alloc (.cells #[.slice a0 n0 c0, .slice a1 n1 c1, .slice a2 n2 c2] 26))) := hkb
    clear h0 h1 h2 hb0 hkb hp0
    by_cases d0 : 4096 < n0
    · have i0 : (4096 : Int) < (n0 : Int) := by omega
      go_enter Try.func15, Try.ntmps15
      go_wp2
      go_ret
      exact ⟨by rw [HE.out]; rfl, HK.out⟩
    · by_cases d1 : 4096 < n1
      · have i0 : ¬ (4096 : Int) < (n0 : Int) := by omega
        have i1 : (4096 : Int) < (n1 : Int) := by omega
        go_enter Try.func15, Try.ntmps15
        go_wp2
        go_ret
        exact ⟨by rw [HE.out]; rfl, HK.out⟩
      · have i0 : ¬ (4096 : Int) < (n0 : Int) := by omega
        have i1 : ¬ (4096 : Int) < (n1 : Int) := by omega
        have i2 : (1048576 : Int) < (n2 : Int) := by omega
        go_enter Try.func15, Try.ntmps15
        go_wp2
        go_ret
        exact ⟨by rw [HE.out]; rfl, HK.out⟩
  · have HR : Hid ((∀ i, chkL l 0 0 = some i → rightB l st pk = false) ∧ (chkL l 0 0 = none → rightB l st pk = true)) := right_chk (by have := HL.out; omega)
    have i0 : ¬ (4096 : Int) < (n0 : Int) := by omega
    have i1 : ¬ (4096 : Int) < (n1 : Int) := by omega
    have i2 : ¬ (1048576 : Int) < (n2 : Int) := by omega
    have hn : n0 ≤ 4096 := by omega
    clear b0 h1 h2
    go_enter Try.func15, Try.ntmps15
    go_upto_region 1 with fail
    rw [← hp0]
    clear hp0
    generalize w.alloc (.cells #[.slice a0 n0 c0, .slice a1 n1 c1, .slice a2 n2 c2] 26) = wb at *
    have HB : Hid (wb.heap[p0]? = some (.cells #[.slice a0 n0 c0, .slice a1 n1 c1, .slice a2 n2 c2] 26 (0, 0)) ∧ Keeps None w wb ∧ Seen wb a0 n0 l) := ⟨hb0, hkb, h0.more hkb⟩
    have y0 : wb.cell? ⟨p0, 0, none⟩ = some (.slice a0 n0 c0) := blk_cell hb0 0
    have y1 : wb.cell? ⟨p0, 1, none⟩ = some (.slice a1 n1 c1) := blk_cell hb0 1
    have y2 : wb.cell? ⟨p0, 2, none⟩ = some (.slice a2 n2 c2) := blk_cell hb0 2
    clear hb0 hkb h0
    go_wp2_with fail
    go_loopw [3, 4] (fun d i wr => ∃ k dd : Nat, k ≤ n0 ∧ dd ≤ k ∧ i = .int .i64 k ∧ d = .int .i64 dd ∧ chkL l 0 0 = chkL (l.drop k) k dd ∧ wr = wb) (fun _ i _ => n0 - (intOf i).toNat)
    case atStart => exact ⟨0, 0, Nat.zero_le _, Nat.le_refl _, rfl, rfl, rfl, rfl⟩
    case round =>
      obtain ⟨k, dd, hk, hdd, rfl, rfl, hch, rfl⟩ := hrel
      by_cases hkn : k < n0
      · obtain ⟨b, off, x, rfl, hb, hx, u0, u1⟩ := HB.out.2.2.elem hkn
        have i3 : (k : Int) < (n0 : Int) := by omega
        have hch2 := hch.trans (chkL_step hx k dd)
        obtain ⟨xk, xl⟩ := x
        simp only at hch2 u0
        have i5 : ¬ (dd : Int) < 0 := by omega
        have i6 : ¬ ((dd : Int) + 1) < 0 := by omega
        by_cases e0 : xk = 0
        · subst e0
          have HC : Hid (chkL l 0 0 = chkL (l.drop (k + 1)) (k + 1) (dd + 1)) := by
            have h : chkL l 0 0 = chkL (l.drop (k + 1)) (k + 1) (dd + 1) := by rw [hch2, if_neg (by simp [badK])]; rfl
            exact h
          clear hch hch2 hx
          go_wp2
          go_roundw
          case rel => exact ⟨k + 1, dd + 1, by omega, by omega, by go_num, by go_num, HC.out, trivial⟩
          case measure => simp [intOf]; omega
        · by_cases e1 : xk = 1
          · subst e1
            by_cases ed : dd = 0
            · subst ed
              have HE : Hid (rightB l st pk = false) := by
                have h : chkL l 0 0 = some k := by rw [hch2, if_pos (by simp [badK])]
                exact HR.out.1 k h
              clear hch hch2 hx
              go_wp2
              go_ret
              exact ⟨by rw [HE.out]; rfl, HB.out.2.1⟩
            · have HC : Hid (chkL l 0 0 = chkL (l.drop (k + 1)) (k + 1) (dd - 1)) := by
                have h : chkL l 0 0 = chkL (l.drop (k + 1)) (k + 1) (dd - 1) := by rw [hch2, if_neg (by simp [badK, ed])]; rfl
                exact h
              have i7 : ¬ ((dd : Int) - 1) < 0 := by omega
              clear hch hch2 hx
              go_wp2
              go_roundw
              case rel => exact ⟨k + 1, dd - 1, by omega, by omega, by go_num, by go_num, HC.out, trivial⟩
              case measure => simp [intOf]; omega
          · by_cases e2 : xk = 2 ∨ xk = 3 ∨ xk = 4
            · have HC : Hid (chkL l 0 0 = chkL (l.drop (k + 1)) (k + 1) dd) := by
                have hb2 : ¬ badK xk dd = true := by unfold badK; simp; omega
                have hn2 : nxtK xk dd = dd := by unfold nxtK; rw [if_neg e0, if_neg e1]
                have h : chkL l 0 0 = chkL (l.drop (k + 1)) (k + 1) dd := by rw [hch2, if_neg hb2, hn2]
                exact h
              clear hch hch2 hx e0 e1
              rcases e2 with rfl | rfl | rfl
              all_goals
                go_wp2
                go_roundw
                case rel => exact ⟨k + 1, dd, by omega, by omega, by go_num, by go_num, HC.out, trivial⟩
                case measure => simp [intOf]; omega
            · have e3 : ¬ xk = 2 := fun h => e2 (.inl h)
              have e4 : ¬ xk = 3 := fun h => e2 (.inr (.inl h))
              have e5 : ¬ xk = 4 := fun h => e2 (.inr (.inr h))
              have HE : Hid (rightB l st pk = false) := by
                have hb2 : badK xk dd = true := by unfold badK; simp; omega
                have h : chkL l 0 0 = some k := by rw [hch2, if_pos hb2]
                exact HR.out.1 k h
              clear hch hch2 hx e2
              go_wp2
              go_ret
              exact ⟨by rw [HE.out]; rfl, HB.out.2.1⟩
      · have hkn2 : k = n0 := by omega
        have HE : Hid (rightB l st pk = true) := by
          have h : chkL l 0 0 = none := by rw [hch, List.drop_eq_nil_of_le (by have := HL.out; omega)]; rfl
          exact HR.out.2 h
        have i3 : ¬ (k : Int) < (n0 : Int) := by omega
        clear hch
        go_wp2
        go_ret
        exact ⟨by rw [HE.out]; rfl, HB.out.2.1⟩
set_option maxHeartbeats 1600000 in
theorem puts_ok (a : Option Addr) (n c q : Nat) (l : List Dd) (w : World) (hS : Seen w a n l) (hn : n ≤ 4096) (hq : q ≤ n) :
    Calls Try.prog 18 #[.slice a n c, .int .i64 q] w fun e w' => ∃ a1 c1, e = .returned (.slice a1 (putsD (l.take q)).length c1) ∧ SeenV w' a1 (putsD (l.take q)).length (iv (putsD (l.take q))) ∧ Keeps None w w' := by
  have HS : Hid (Seen w a n l) := hS
  have HLen : Hid (n = l.length) := hS.len
  clear hS
  go_enter Try.func18, Try.ntmps18
  go_wp2_with fail
  go_loopw [5, 6] (fun s i wr => ∃ k : Nat, k ≤ q ∧ i = .int .i64 k ∧ wr.ownsRow w.heap.size 2 1 s (putsD (l.take k)).length (iv (putsD (l.take k))) ∧ Keeps None w wr) (fun _ i _ => q - (intOf i).toNat)
  case atStart => exact ⟨0, Nat.zero_le _, rfl, row_nil _ _ _ _, Keeps.refl _ _⟩
  case round =>
    obtain ⟨k, hk, rfl, hrow, hkp⟩ := hrel
    have hlen := HLen.out
    obtain ⟨sa, cs, rfl⟩ := row_shape hrow
    by_cases hkn : k < q
    · obtain ⟨b, off, x, rfl, hb, hx, u0, u1⟩ := (HS.out.more hkp).elem (show k < n by omega)
      have i2 : (k : Int) < (n : Int) := by omega
      have i3 : (k : Int) < (q : Int) := by omega
      have hm := putsD_more hx
      obtain ⟨xk, xl⟩ := x
      by_cases e4 : xk = 4
      · subst e4
        have hbn : (wr.alloc (.cells #[.int .i64 xl] 2)).heap[wr.heap.size]? = some (.cells #[.int .i64 xl] 2 (0, 0)) := blk_new _ _ _ rfl
        have hpl := putsD_len (l.take k)
        have hpl2 : (l.take k).length ≤ 4096 := by rw [List.length_take]; omega
        obtain ⟨g, cp, w2, hr, ho, hk3, hm3⟩ := i64_more w.heap.size (.slice sa _ cs) (putsD (l.take k)) xl 28 _ _ (hrow.alloc _) (by have := hkp.size; simp; omega) (by omega) hbn
        have HN : Hid (w2.ownsRow w.heap.size 2 1 (.slice (some ⟨g, 0, none⟩) ((putsD (l.take k)).length + 1) cp) (putsD (l.take (k + 1))).length (iv (putsD (l.take (k + 1)))) ∧ Keeps None w w2) := by
          rw [hm]
          simp only [if_true]
          exact ⟨by rw [List.length_append]; exact ho, (hkp.andAlloc _).trans hk3 (fun i e hi => by have := row_low hrow e; omega)⟩
        clear hrow hkp hx hlen hm ho hk3 hm3 hbn
        go_wp2_with (at_builtin; refine wpList_append_run rfl (.tmp 24) (.tmp 30) 28 28 rfl rfl rfl hr ?_)
        go_roundw
        case rel => exact ⟨k + 1, by omega, by go_num, HN.out⟩
        case measure => simp [intOf]; omega
      · have HN : Hid (wr.ownsRow w.heap.size 2 1 (.slice sa (putsD (l.take k)).length cs) (putsD (l.take (k + 1))).length (iv (putsD (l.take (k + 1)))) ∧ Keeps None w wr) := by
          rw [hm, if_neg e4, List.append_nil]
          exact ⟨hrow, hkp⟩
        clear hrow hkp hx hlen hm
        go_wp2
        go_roundw
        case rel => exact ⟨k + 1, by omega, by go_num, HN.out⟩
        case measure => simp [intOf]; omega
    · have hkn2 : k = q := by omega
      subst hkn2
      have i3 : ¬ (k : Int) < (k : Int) := by omega
      have HN : Hid (wr.ownsRow w.heap.size 2 1 (.slice sa (putsD (l.take k)).length cs) (putsD (l.take k)).length (iv (putsD (l.take k))) ∧ Keeps None w wr) := ⟨hrow, hkp⟩
      clear hrow hkp hlen
      go_wp2
      go_ret
      exact ⟨_, ⟨_, rfl⟩, own_seen1 HN.out.1, HN.out.2⟩
end Go.Proofs.Ytdiabpoafennlaa
