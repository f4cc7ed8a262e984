import Derived.Test.YtngeddopbpdcnaaHiRoom
/-! The walk of HistCut. -/
namespace Go.Proofs.Ytngeddopbpdcnaa
open Go.RowKit Go.HeapKit

theorem keeps_drewN {w : World} (m : Nat) : Keeps None w (w.drewN m) := ⟨rfl, rfl, rfl, Nat.le_refl _, fun _ _ _ => rfl⟩
/-- The two rows that are written over and made longer, behind the world W. -/
structure TwoRows (W wr : World) (vc vo c o : Value) (m q : Nat) : Prop where
  rc : ∃ l : List Cl, l.length = m ∧ wr.ownsRow 0 28 7 c m (clVals l)
  ro : ∃ l : List Cl, l.length = q ∧ wr.ownsRow 0 28 7 o q (clVals l)
  kp : Keeps (fun k => vc.ownBlock = some k ∨ vo.ownBlock = some k) W wr
  fc : ∀ k, c.ownBlock = some k → vc.ownBlock = some k ∨ W.heap.size ≤ k
  fo : ∀ k, o.ownBlock = some k → vo.ownBlock = some k ∨ W.heap.size ≤ k
  ap : ∀ k, c.ownBlock = some k → o.ownBlock ≠ some k
theorem TwoRows.swap {W wr : World} {vc vo c o : Value} {m q : Nat} (h : TwoRows W wr vc vo c o m q) : TwoRows W wr vo vc o c q m :=
  ⟨h.ro, h.rc, h.kp.mono (fun _ e _ => e.symm), h.fo, h.fc, fun k e1 e2 => h.ap k e2 e1⟩
/-- One of them is written over. -/
theorem TwoRows.put {W wr : World} {vc vo o : Value} {g cap m q : Nat} (h : TwoRows W wr vc vo (.slice (some ⟨g, 0, none⟩) m cap) o m q) {k : Nat} (hk : k < m) (x : Cl) :
    TwoRows W (set7 wr g (k * 7) x) vc vo (.slice (some ⟨g, 0, none⟩) m cap) o m q := by
  obtain ⟨l, hl, hr⟩ := h.rc
  obtain ⟨l2, hl2, hr2⟩ := h.ro
  exact ⟨⟨l.set k x, by simpa using hl, row_set7 hr k (by omega) x⟩, ⟨l2, hl2, row_kept hr2 (keeps_set7 wr g (k * 7) x) (fun b e e2 => h.ap b (by simp [Value.ownBlock, e2]) e)⟩,
    h.kp.trans (keeps_set7 wr g (k * 7) x) (fun i e hi => by subst e; rcases h.fc i rfl with e | e; exact .inl e; omega), h.fc, h.fo, h.ap⟩
/-- One of them is made longer. -/
theorem TwoRows.more {W wr : World} {vc vo c o : Value} {m q : Nat} (h : TwoRows W wr vc vo c o m q) (x : Cl) (hlen : (m + 1) * 56 ≤ 140737488355328) :
    ∃ g cap w', (Builtin.append_ #[22, 22] 22 #[c, .slice (some ⟨wr.heap.size, 0, none⟩) 1 1]).run Try.prog (wr.alloc (.cells #[.int .i64 x.who, .int .i64 x.kind, .int .i64 x.arg, .int .i64 x.beg, .int .i64 x.fin, .int .i64 x.code, .int .i64 x.v] 28)) = .ok (.slice (some ⟨g, 0, none⟩) (m + 1) cap) w' ∧
      TwoRows W w' vc vo (.slice (some ⟨g, 0, none⟩) (m + 1) cap) o (m + 1) q := by
  obtain ⟨l, hl, hr⟩ := h.rc
  obtain ⟨l2, hl2, hr2⟩ := h.ro
  obtain ⟨g, cap, w', hrun, ho, hk, hm⟩ := call_more 0 c l x m 22 wr hl.symm hr (Nat.zero_le _) hlen
  refine ⟨g, cap, w', hrun, ⟨_, by simp [hl], ho⟩, ⟨l2, hl2, row_kept hr2 hk (fun b e e2 => h.ap b e2 e)⟩, h.kp.trans hk (fun i e hi => by rcases h.fc i e with e | e; exact .inl e; omega), ?_, h.fo, ?_⟩
  · intro k e
    simp [Value.ownBlock] at e
    subst e
    rcases hm with e | e
    · exact h.fc g e
    · exact .inr (Nat.le_trans h.kp.size e)
  · intro k e e2
    simp [Value.ownBlock] at e
    subst e
    rcases hm with e | e
    · exact h.ap g e e2
    · have := own_lt hr2 e2
      omega

set_option maxHeartbeats 8000000 in
set_option maxRecDepth 100000 in
theorem histCut_walk (a : Option Addr) (n c : Nat) (l : List Cl) (p : Int) (w : World) (hS : Seen w a n l) (hn : n * 56 ≤ 140737488351232) :
    Calls Try.prog 3 #[.slice a n c, .int .i64 p] w fun e w' => e = .returned (.bool true) ∧ Below w.heap.size w w' := by
  have HS : Hid (Seen w a n l) := hS
  have HS0 : Hid (0 < n → ∀ b, blockOf a = some b → b < w.heap.size) := fun h0 b e => hS.low h0 e
  clear hS
  go_enter Try.func3, Try.ntmps3
  go_wp2_with fail
  refine (moved_ok a n c l w HS.out (by omega)).mono ?_
  rintro e w1 ⟨g, cap, l', rfl, hR1, hk1⟩
  have HR1 : Hid (Room w1 w.heap.size g n cap l' ∧ Keeps None w w1) := ⟨hR1, hk1⟩
  clear hR1 hk1
  go_wp2_with fail
  refine (cut_ok (some ⟨g, 0, none⟩) n cap l' p w1 HR1.out.1.seen (by omega)).mono ?_
  rintro e w2 ⟨v0, rfl, -, hk2⟩
  have HR2 : Hid (Room w2 w.heap.size g n cap l' ∧ Keeps None w w2) := ⟨HR1.out.1.kept hk2 (fun f => f), HR1.out.2.trans hk2 (fun _ f _ => f)⟩
  clear HR1 hk2
  go_wp2_with fail
  refine (back_ok a n c w.heap.size g cap l l' w2 HR2.out.1 (HS.out.more HR2.out.2) (fun h0 b e e2 => by have := HS.out.low h0 e; have := HR2.out.1.low; omega) (by omega)).mono ?_
  rintro e w3 ⟨rfl, hR3, hk3⟩
  have HR3 : Hid (Room w3 w.heap.size g n cap l ∧ Seen w3 a n l ∧ Below w.heap.size w w3) := by
    refine ⟨hR3, (HS.out.more HR2.out.2).kept hk3 (fun h0 b e _ e2 => by have := HS.out.low h0 e; have := HR2.out.1.low; omega), ?_⟩
    exact (HR2.out.2.below _ (Nat.le_refl _) (fun _ f => f.elim)).trans (hk3.below _ HR2.out.2.size (fun k e => e ▸ HR2.out.1.low))
  clear HR2 hR3 hk3 HS
  go_wp2_with fail
  refine (cut_ok (some ⟨g, 0, none⟩) n cap l p w3 HR3.out.1.seen (by omega)).mono ?_
  rintro e w4 ⟨vc, rfl, hrc, hk4⟩
  obtain ⟨ac, cc, rfl⟩ := row_shape hrc
  have HR4 : Hid (Room w4 w.heap.size g n cap l ∧ Seen w4 a n l ∧ Below w.heap.size w w4 ∧ w4.ownsRow (g + 1) 28 7 (.slice ac (cutL p l).length cc) (cutL p l).length (clVals (cutL p l))) :=
    ⟨HR3.out.1.kept hk4 (fun f => f), HR3.out.2.1.more hk4, HR3.out.2.2.trans (hk4.below _ HR3.out.2.2.size (fun _ f => f.elim)), row_base hrc (by have := HR3.out.1.lt; omega)⟩
  clear hrc hk4 HR3
  go_wp2_with fail
  refine (cut_ok (some ⟨g, 0, none⟩) n cap l p w4 HR4.out.1.seen (by omega)).mono ?_
  rintro e w5 ⟨va, rfl, hra, hk5⟩
  obtain ⟨aa, ca, rfl⟩ := row_shape hra
  have HR5 : Hid (Room w5 w.heap.size g n cap l ∧ Seen w5 a n l ∧ Below w.heap.size w w5 ∧ ∃ s4, w5.ownsRow (g + 1) 28 7 (.slice ac (cutL p l).length cc) (cutL p l).length (clVals (cutL p l)) ∧
      w5.ownsRow s4 28 7 (.slice aa (cutL p l).length ca) (cutL p l).length (clVals (cutL p l)) ∧ g < s4 ∧ s4 ≤ w5.heap.size ∧ (∀ k, (Value.slice ac (cutL p l).length cc).ownBlock = some k → k < s4)) :=
    ⟨HR4.out.1.kept hk5 (fun f => f), HR4.out.2.1.more hk5, HR4.out.2.2.1.trans (hk5.below _ HR4.out.2.2.1.size (fun _ f => f.elim)), w4.heap.size, row_kept HR4.out.2.2.2 hk5 (fun _ _ f => f), hra, HR4.out.1.lt, hk5.size, fun k e => own_lt HR4.out.2.2.2 e⟩
  clear hra hk5 HR4
  go_wp2_with fail
  refine (cut_ok (some ⟨g, 0, none⟩) n cap l _ w5 HR5.out.1.seen (by omega)).mono ?_
  rintro e w6 ⟨vo, rfl, hro, hk6⟩
  obtain ⟨ao, co, rfl⟩ := row_shape hro
  obtain ⟨q, hq, hlo⟩ : ∃ q, q = (cutL (wrap64 (p - 1)) l).length ∧ q ≤ n := ⟨_, rfl, Nat.le_trans (cutL_length _ _) (by have := HR5.out.1.len; omega)⟩
  have hro2 : ∃ lo : List Cl, lo.length = q ∧ w6.ownsRow w5.heap.size 28 7 (.slice ao q co) q (clVals lo) := ⟨_, hq.symm, by rw [hq]; exact hro⟩
  simp only [← hq]
  have HR6 : Hid (Room w6 w.heap.size g n cap l ∧ Seen w6 a n l ∧ Below w.heap.size w w6 ∧ ∃ s4 s5, w6.ownsRow (g + 1) 28 7 (.slice ac (cutL p l).length cc) (cutL p l).length (clVals (cutL p l)) ∧
      w6.ownsRow s4 28 7 (.slice aa (cutL p l).length ca) (cutL p l).length (clVals (cutL p l)) ∧ (∃ lo : List Cl, lo.length = q ∧ w6.ownsRow s5 28 7 (.slice ao q co) q (clVals lo)) ∧ g < s4 ∧ s4 ≤ s5 ∧ s5 ≤ w6.heap.size ∧
      (∀ k, (Value.slice ac (cutL p l).length cc).ownBlock = some k → k < s4) ∧ (∀ k, (Value.slice aa (cutL p l).length ca).ownBlock = some k → k < s5)) := by
    obtain ⟨hR, hSn, hB, s4, rc, ra, h1, h2, h3⟩ := HR5.out
    exact ⟨hR.kept hk6 (fun f => f), hSn.more hk6, hB.trans (hk6.below _ hB.size (fun _ f => f.elim)), s4, w5.heap.size, row_kept rc hk6 (fun _ _ f => f), row_kept ra hk6 (fun _ _ f => f), hro2, h1, h2, hk6.size, h3, fun k e => own_lt ra e⟩
  clear hro hro2 hk6 HR5 hq
  go_wp2_with fail
  refine (rcut_ok a n c l p w6 HR6.out.2.1 (by omega)).mono ?_
  rintro e w7 ⟨vd, rfl, hrd, hk7⟩
  obtain ⟨ad, cd, rfl⟩ := row_shape hrd
  obtain ⟨m, hm⟩ : ∃ m, m = (cutL p l).length := ⟨_, rfl⟩
  have hmn : m ≤ n := by rw [hm]; exact Nat.le_trans (cutL_length _ _) (by have := HR6.out.1.len; omega)
  have HR7 : Hid (m = (cutL p l).length ∧ Room w7 w.heap.size g n cap l ∧ Seen w7 a n l ∧ Below w.heap.size w w7 ∧ ∃ s4 s5 s6, w7.ownsRow (g + 1) 28 7 (.slice ac m cc) m (clVals (cutL p l)) ∧
      w7.ownsRow s4 28 7 (.slice aa m ca) m (clVals (cutL p l)) ∧ (∃ lo : List Cl, lo.length = q ∧ w7.ownsRow s5 28 7 (.slice ao q co) q (clVals lo)) ∧ w7.ownsRow s6 28 7 (.slice ad m cd) m (clVals (cutL p l)) ∧ g < s4 ∧ s4 ≤ s5 ∧ s5 ≤ s6 ∧
      (∀ k, (Value.slice ac m cc).ownBlock = some k → k < s4) ∧ (∀ k, (Value.slice aa m ca).ownBlock = some k → k < s5) ∧ (∀ k, (Value.slice ao q co).ownBlock = some k → k < s6)) := by
    obtain ⟨hR, hSn, hB, s4, s5, rc, ra, ⟨lo, hlo2, ro⟩, h1, h2, h3, h4, h5⟩ := HR6.out
    rw [← hm] at rc ra hrd h4 h5
    exact ⟨hm, hR.kept hk7 (fun f => f), hSn.more hk7, hB.trans (hk7.below _ hB.size (fun _ f => f.elim)), s4, s5, w6.heap.size, row_kept rc hk7 (fun _ _ f => f), row_kept ra hk7 (fun _ _ f => f), ⟨lo, hlo2, row_kept ro hk7 (fun _ _ f => f)⟩, hrd, h1, h2, h3, h4, h5, fun k e => own_lt ro e⟩
  simp only [← hm]
  clear hrd hk7 HR6 hm
  go_wp2_with fail
  refine (same_ok ac ad m cc cd (cutL p l) w7 (by obtain ⟨hm, -, -, -, s4, s5, s6, rc, ra, ro, rd, -⟩ := HR7.out; exact Seen.of_row hm rc) (by obtain ⟨hm, -, -, -, s4, s5, s6, rc, ra, ro, rd, -⟩ := HR7.out; exact Seen.of_row hm rd) (by omega)).mono ?_
  rintro e w8 ⟨rfl, m8, rfl⟩
  go_wp2_with fail
  refine (same_ok aa ad m ca cd (cutL p l) (w7.drewN m8) (by obtain ⟨hm, -, -, -, s4, s5, s6, rc, ra, ro, rd, -⟩ := HR7.out; exact (Seen.of_row hm ra).more (keeps_drewN m8)) (by obtain ⟨hm, -, -, -, s4, s5, s6, rc, ra, ro, rd, -⟩ := HR7.out; exact (Seen.of_row hm rd).more (keeps_drewN m8)) (by omega)).mono ?_
  rintro e w9 ⟨rfl, m9, rfl⟩
  obtain ⟨W, hW⟩ : ∃ W, W = (w7.drewN m8).drewN m9 := ⟨_, rfl⟩
  have HR9 : Hid (m = (cutL p l).length ∧ Room W w.heap.size g n cap l ∧ Seen W a n l ∧ Below w.heap.size w W ∧ ∃ s4 s5 s6, W.ownsRow (g + 1) 28 7 (.slice ac m cc) m (clVals (cutL p l)) ∧
      W.ownsRow s4 28 7 (.slice aa m ca) m (clVals (cutL p l)) ∧ (∃ lo : List Cl, lo.length = q ∧ W.ownsRow s5 28 7 (.slice ao q co) q (clVals lo)) ∧ W.ownsRow s6 28 7 (.slice ad m cd) m (clVals (cutL p l)) ∧ g < s4 ∧ s4 ≤ s5 ∧ s5 ≤ s6 ∧
      (∀ k, (Value.slice ac m cc).ownBlock = some k → k < s4) ∧ (∀ k, (Value.slice aa m ca).ownBlock = some k → k < s5) ∧ (∀ k, (Value.slice ao q co).ownBlock = some k → k < s6)) := by
    obtain ⟨hm, hR, hSn, hB, s4, s5, s6, rc, ra, ⟨lo, hlo2, ro⟩, rd, r⟩ := HR7.out
    have hk : Keeps None w7 W := hW ▸ (keeps_drewN m8).trans (keeps_drewN m9) (fun _ f _ => f)
    exact ⟨hm, hR.kept hk (fun f => f), hSn.more hk, hB.trans (hk.below _ hB.size (fun _ f => f.elim)), s4, s5, s6, row_kept rc hk (fun _ _ f => f), row_kept ra hk (fun _ _ f => f), ⟨lo, hlo2, row_kept ro hk (fun _ _ f => f)⟩, row_kept rd hk (fun _ _ f => f), r⟩
  rw [← hW]
  clear HR7 hW
  have HT : Hid (TwoRows W W (.slice ac m cc) (.slice ao q co) (.slice ac m cc) (.slice ao q co) m q) := by
    obtain ⟨hm, hR, hSn, hB, s4, s5, s6, rc, ra, ⟨lo, hlo2, ro⟩, rd, h1, h2, h3, h4, h5, h6⟩ := HR9.out
    refine ⟨⟨_, hm.symm, row_base rc (Nat.zero_le _)⟩, ⟨lo, hlo2, row_base ro (Nat.zero_le _)⟩, Keeps.refl _ _, fun _ e => .inl e, fun _ e => .inl e, fun k e e2 => ?_⟩
    have := h4 k e
    have := row_low ro e2
    omega
  go_wp2_with fail
  go_loopw [10] (fun i wr => ∃ k : Nat, k ≤ m ∧ i = .int .i64 k ∧ TwoRows W wr (.slice ac m cc) (.slice ao q co) (.slice ac m cc) (.slice ao q co) m q) (fun i _ => m - (intOf i).toNat)
  case atStart => exact ⟨0, Nat.zero_le _, rfl, HT.out⟩
  case round =>
    clear HT
    obtain ⟨k, hk, rfl, hT⟩ := hrel
    by_cases hkn : k < m
    · obtain ⟨lc, hlc, hrc⟩ := hT.rc
      obtain ⟨y, hy⟩ : ∃ y, lc[k]? = some y := ⟨lc[k]'(by omega), by simp⟩
      obtain ⟨gc, rfl, _, _, _, ⟨z0, z1, z2, z3, z4, z5, z6⟩, hf⟩ := row_elem hrc hy
      have f0 := hf (k * 7)
      have f1 := hf (k * 7 + 1)
      have f2 := hf (k * 7 + 2)
      have f3 := hf (k * 7 + 3)
      have f4 := hf (k * 7 + 4)
      have f5 := hf (k * 7 + 5)
      have f6 := hf (k * 7 + 6)
      have i1 : (k : Int) < (m : Int) := by omega
      have HN : Hid (TwoRows W (set7 wr gc (k * 7) ⟨-7, k, 0, k, 0, 0, 0⟩) (.slice (some ⟨gc, 0, none⟩) m cc) (.slice ao q co) (.slice (some ⟨gc, 0, none⟩) m cc) (.slice ao q co) m q) := hT.put hkn _
      clear hT hlc hrc hy hf
      go_wp2
      go_roundw
      case rel => exact ⟨k + 1, by omega, by go_num, HN.out⟩
      case measure => simp [intOf]; omega
    · have HT2 : Hid (TwoRows W wr (.slice ac m cc) (.slice ao q co) (.slice ac m cc) (.slice ao q co) m q) := hT
      clear hT
      go_wp2_with fail
      go_loopw [11] (fun i wr => ∃ k : Nat, k ≤ q ∧ i = .int .i64 k ∧ TwoRows W wr (.slice ac m cc) (.slice ao q co) (.slice ac m cc) (.slice ao q co) m q) (fun i _ => q - (intOf i).toNat)
      case atStart => exact ⟨0, Nat.zero_le _, rfl, HT2.out⟩
      case round =>
        clear HT2
        obtain ⟨k2, hk2, rfl, hT⟩ := hrel
        by_cases hkn2 : k2 < q
        · obtain ⟨lc, hlc, hrc⟩ := hT.ro
          obtain ⟨y, hy⟩ : ∃ y, lc[k2]? = some y := ⟨lc[k2]'(by omega), by simp⟩
          obtain ⟨gc, rfl, _, _, _, ⟨z0, z1, z2, z3, z4, z5, z6⟩, hf⟩ := row_elem hrc hy
          have f0 := hf (k2 * 7)
          have f1 := hf (k2 * 7 + 1)
          have f2 := hf (k2 * 7 + 2)
          have f3 := hf (k2 * 7 + 3)
          have f4 := hf (k2 * 7 + 4)
          have f5 := hf (k2 * 7 + 5)
          have f6 := hf (k2 * 7 + 6)
          have i1 : (k2 : Int) < (q : Int) := by omega
          have HN : Hid (TwoRows W (set7 wr gc (k2 * 7) ⟨-8, k2, 0, k2, 0, 0, 0⟩) (.slice ac m cc) (.slice (some ⟨gc, 0, none⟩) q co) (.slice ac m cc) (.slice (some ⟨gc, 0, none⟩) q co) m q) := (hT.swap.put hkn2 _).swap
          clear hT hlc hrc hy hf
          go_wp2
          go_roundw
          case rel => exact ⟨k2 + 1, by omega, by go_num, HN.out⟩
          case measure => simp [intOf]; omega
        · have HT3 : Hid (TwoRows W wr (.slice ac m cc) (.slice ao q co) (.slice ac m cc) (.slice ao q co) m q) := hT
          clear hT
          go_wp2_with fail
          go_loopw [6, 8, 12] (fun c o i wr => ∃ k : Nat, k ≤ 64 ∧ i = .int .i64 k ∧ TwoRows W wr (.slice ac m cc) (.slice ao q co) c o (m + k) (q + k)) (fun _ _ i _ => 64 - (intOf i).toNat)
          case atStart => exact ⟨0, Nat.zero_le _, rfl, HT3.out⟩
          case round =>
            clear HT3
            obtain ⟨k3, hk3, rfl, hT⟩ := hrel
            obtain ⟨_, _, hsc⟩ := hT.rc
            obtain ⟨_, _, hso⟩ := hT.ro
            obtain ⟨a6, c6, rfl⟩ := row_shape hsc
            obtain ⟨a8, c8, rfl⟩ := row_shape hso
            by_cases hkn3 : k3 < 64
            · obtain ⟨g1, p1, w1, hr1, hT1⟩ := hT.more ⟨-9, 0, 0, 0, 0, 0, 0⟩ (by omega)
              obtain ⟨g2, p2, w2, hr2, hT2⟩ := hT1.swap.more ⟨-10, 0, 0, 0, 0, 0, 0⟩ (by omega)
              have HN : Hid (TwoRows W w2 (.slice ac m cc) (.slice ao q co) (.slice (some ⟨g1, 0, none⟩) (m + k3 + 1) p1) (.slice (some ⟨g2, 0, none⟩) (q + k3 + 1) p2) (m + (k3 + 1)) (q + (k3 + 1))) := hT2.swap
              clear hT hT1 hT2 hsc hso
              go_wp2_with (first
                | (at_builtin; refine wpList_append_run rfl (.tmp 73) (.tmp 75) 22 22 rfl rfl rfl hr1 ?_)
                | (at_builtin; refine wpList_append_run rfl (.tmp 77) (.tmp 79) 22 22 rfl rfl rfl hr2 ?_))
              exact ⟨⟨k3 + 1, by omega, by go_num, HN.out⟩, by simp [intOf]; omega⟩
            · have hk64 : k3 = 64 := by omega
              subst hk64
              have HE : Hid (m = (cutL p l).length ∧ Room wr w.heap.size g n cap l ∧ Seen wr a n l ∧ Below w.heap.size w wr ∧ Seen wr aa m (cutL p l) ∧ Seen wr ad m (cutL p l)) := by
                obtain ⟨hm, hR, hSn, hB, s4, s5, s6, rc, ra, ⟨lo, hlo2, ro⟩, rd, h1, h2, h3, h4, h5, h6⟩ := HR9.out
                have hbc : ∀ b, (Value.slice ac m cc).ownBlock = some b → g < b := fun b e => by have := row_low rc e; omega
                have hbo : ∀ b, (Value.slice ao q co).ownBlock = some b → g < b := fun b e => by have := row_low ro e; omega
                refine ⟨hm, hR.kept hT.kp (fun e => by rcases e with e | e; have := hbc _ e; omega; have := hbo _ e; omega), hSn.kept hT.kp (fun h0 b e _ e2 => ?_), hB.trans (hT.kp.below _ hB.size (fun k e => ?_)), (Seen.of_row hm (row_kept ra hT.kp (fun b e e2 => ?_))), (Seen.of_row hm (row_kept rd hT.kp (fun b e e2 => ?_)))⟩
                · have h7 := hR.low
                  have h8 : b < w.heap.size := by
                    rcases HS0.out h0 b e with h9
                    exact h9
                  rcases e2 with e2 | e2
                  · have := hbc _ e2; omega
                  · have := hbo _ e2; omega
                · have h7 := hR.low
                  rcases e with e | e
                  · have := hbc _ e; omega
                  · have := hbo _ e; omega
                · have h7 := row_low ra e
                  have h8 := h5 b e
                  rcases e2 with e2 | e2
                  · have := h4 b e2; omega
                  · have := row_low ro e2; omega
                · have h7 := row_low rd e
                  rcases e2 with e2 | e2
                  · have := h4 b e2; omega
                  · have := h6 b e2; omega
              clear hT hsc hso HR9
              go_wp2_with fail
              refine (cut_ok (some ⟨g, 0, none⟩) n cap l p wr HE.out.2.1.seen (by omega)).mono ?_
              rintro e w10 ⟨vl, rfl, hrl, hk10⟩
              obtain ⟨al, cl, rfl⟩ := row_shape hrl
              have HE2 : Hid (m = (cutL p l).length ∧ Room w10 w.heap.size g n cap l ∧ Seen w10 a n l ∧ Below w.heap.size w w10 ∧ Seen w10 aa m (cutL p l) ∧ Seen w10 ad m (cutL p l) ∧ Seen w10 al m (cutL p l)) := by
                obtain ⟨hm, hR, hSn, hB, h1, h2⟩ := HE.out
                rw [← hm] at hrl
                exact ⟨hm, hR.kept hk10 (fun f => f), hSn.more hk10, hB.trans (hk10.below _ hB.size (fun _ f => f.elim)), h1.more hk10, h2.more hk10, Seen.of_row hm hrl⟩
              have em := HE.out.1
              rw [← em]
              clear hrl hk10 HE em
              go_wp2_with fail
              refine (same_ok (some ⟨g, 0, none⟩) a n cap c l w10 HE2.out.2.1.seen HE2.out.2.2.1 (by omega)).mono ?_
              rintro e w11 ⟨rfl, m11, rfl⟩
              go_wp2_with fail
              refine (marked_ok n w.heap.size g cap l (w10.drewN m11) (HE2.out.2.1.kept (keeps_drewN m11) (fun f => f)) (by omega)).mono ?_
              rintro e w12 ⟨rfl, hw⟩
              have hw2 := hw.symm
              subst hw2
              clear hw
              go_wp2_with fail
              refine (same_ok aa ad m ca cd (cutL p l) _ (HE2.out.2.2.2.2.1.more (keeps_drewN m11)) (HE2.out.2.2.2.2.2.1.more (keeps_drewN m11)) (by omega)).mono ?_
              rintro e w13 ⟨rfl, m13, rfl⟩
              go_wp2_with fail
              refine (same_ok al ad m cl cd (cutL p l) _ (HE2.out.2.2.2.2.2.2.more (keeps_drewN (m11 + m13))) (HE2.out.2.2.2.2.2.1.more (keeps_drewN (m11 + m13))) (by omega)).mono ?_
              rintro e w14 ⟨rfl, m14, rfl⟩
              have i9 : ((64 : Int) ≤ ((q + 64 : Nat) : Int)) := by omega
              go_wp2_with fail
              go_ret
              refine ⟨by simp; omega, ?_⟩
              exact (HE2.out.2.2.2.1.trans ((keeps_drewN _).below _ HE2.out.2.2.2.1.size (fun _ f => f.elim)))
end Go.Proofs.Ytngeddopbpdcnaa
