import Derived.Test.YtngeddopbpdcnaaHiTail
import Derived.Deep.RegionLaw
/-! The walk of HistSerial. -/
namespace Go.Proofs.Ytngeddopbpdcnaa
set_option linter.unusedVariables false
open Go.RowKit Go.HeapKit

set_option maxHeartbeats 8000000 in
set_option maxRecDepth 100000 in
theorem histSerial_walk (a : Option Addr) (n c : Nat) (l : List (Int × Int)) (most : Int) (w : World) (hS : SeenT w a n l) (hn : n * 16 ≤ 140737488351232) :
    Calls Try.prog 4 #[.slice a n c, .int .i64 most] w fun e w' => e = .returned (.bool true) ∧ Below w.heap.size w w' := by
  have HS : Hid (SeenT w a n l) := hS
  clear hS
  go_enter Try.func4, Try.ntmps4
  go_wp2_with fail
  go_loopw [5, 6] (fun s i wr => ∃ k : Nat, k ≤ n ∧ i = .int .i64 k ∧ (∃ l' : List (Int × Int), l'.length = k ∧ wr.ownsRow w.heap.size 33 2 s k (tdVals l')) ∧ Keeps None w wr) (fun _ i _ => n - (intOf i).toNat)
  case atStart => exact ⟨0, Nat.zero_le _, rfl, ⟨[], rfl, row_nil _ _ _ _⟩, Keeps.refl _ _⟩
  case round =>
    obtain ⟨k, hk, rfl, ⟨l', hl', hrow⟩, hkp⟩ := hrel
    obtain ⟨sa, cs, rfl⟩ := row_shape hrow
    by_cases hkn : k < n
    · have hSx := HS.out.more hkp
      obtain ⟨b, off, rfl, hb, hc⟩ := hSx.ex (by omega)
      obtain ⟨x, hx⟩ : ∃ x, l[k]? = some x := ⟨l[k]'(by have := HS.out.len; omega), by simp⟩
      obtain ⟨y0, y1⟩ := hc k x hx
      have i1 : (k : Int) < (n : Int) := by omega
      obtain ⟨kd, tv⟩ := x
      simp only [] at *
      clear hc hSx hx HS
      have hD : Keeps None wr (wr.drew.alloc (.cells #[.int .i64 kd, .int .i64 (IntKind.i64.wrap (tv + 1))] 33)) := ((Keeps.refl None wr).andDrew).andAlloc _
      obtain ⟨g, cp, w2, hr, ho, hk2, hm⟩ := todo_more w.heap.size (.slice sa k cs) l' (kd, IntKind.i64.wrap (tv + 1)) k 31 wr.heap.size (wr.drew.alloc (.cells #[.int .i64 kd, .int .i64 (IntKind.i64.wrap (tv + 1))] 33)) hl'.symm (row_kept hrow hD (fun _ _ f => f)) (by have := hkp.size; simp; omega) (by omega) (blk_new _ _ _ (by simp))
      have HN : Hid ((∃ l' : List (Int × Int), l'.length = k + 1 ∧ w2.ownsRow w.heap.size 33 2 (.slice (some ⟨g, 0, none⟩) (k + 1) cp) (k + 1) (tdVals l')) ∧ Keeps None w w2) :=
        ⟨⟨_, by simp [hl'], ho⟩, (hkp.trans hD (fun _ f _ => f)).trans hk2 (fun i e hi => by have := row_low hrow e; omega)⟩
      clear hrow hkp ho hk2 hm hl' hD
      go_wp2
      go_region_law (refine step_append_run rfl (.tmp 27) (.tmp 40) 31 31 rfl (by simp [Act.eval]) (by simp [Act.eval]) hr ?_)
      all_goals (go_wp2; exact ⟨⟨k + 1, by omega, by go_num, HN.out⟩, by simp [intOf]; omega⟩)
    · have hkn2 : k = n := by omega
      subst hkn2
      obtain ⟨g, cap, w1, hr, ho, hk1, hm⟩ := todo_more w.heap.size (.slice sa k cs) l' (-77, 0) k 31 wr.heap.size (wr.alloc (.cells #[.int .i64 (-77), .int .i64 0] 33)) hl'.symm (hrow.alloc _) (by have := hkp.size; simp; omega) (by omega) (blk_new _ _ _ rfl)
      have hR1 : RoomT w1 w.heap.size g k cap l' := ⟨hl'.symm, ho⟩
      have hcap := hR1.fits
      have HR1 : Hid (RoomT w1 w.heap.size g k cap l' ∧ Keeps None w w1) := ⟨hR1, (hkp.andAlloc _).trans hk1 (fun i e hi => by have := row_low hrow e; omega)⟩
      clear hrow hkp ho hk1 hm hl' hR1
      go_wp2_with (at_builtin; refine wpList_append_run rfl (.tmp 42) (.tmp 44) 31 31 rfl rfl rfl hr ?_)
      refine (serial_ok (some ⟨g, 0, none⟩) k cap l' most w1 HR1.out.1.seen (by omega)).mono ?_
      rintro e w2 ⟨v0, v1, rfl, hO2⟩
      have HR2 : Hid (RoomT w2 w.heap.size g k cap l' ∧ Keeps None w w2) := ⟨HR1.out.1.kept hO2.kp (fun f => f), HR1.out.2.trans hO2.kp (fun _ f _ => f)⟩
      clear HR1 hO2 hr
      go_wp2_with fail
      go_loopw [7] (fun i wr => ∃ q : Nat, q ≤ k ∧ i = .int .i64 q ∧ RoomT wr w.heap.size g k cap (l.take q ++ l'.drop q) ∧ Keeps (· = g) w2 wr) (fun i _ => k - (intOf i).toNat)
      case atStart => exact ⟨0, Nat.zero_le _, rfl, by simpa using HR2.out.1, Keeps.refl _ _⟩
      case round =>
        obtain ⟨q, hq, rfl, hroom, hkp⟩ := hrel
        by_cases hqk : q < k
        · have hSx := (HS.out.more HR2.out.2).kept hkp (fun h0 b e _ e2 => by have := HS.out.low h0 e; have := HR2.out.1.low; omega)
          have h1 := HS.out.len
          have h2 := HR2.out.1.len
          obtain ⟨b, off, rfl, hb, hc⟩ := hSx.ex (by omega)
          obtain ⟨x, hx⟩ : ∃ x, l[q]? = some x := ⟨l[q]'(by omega), by simp⟩
          obtain ⟨y0, y1⟩ := hc q x hx
          obtain ⟨y, hy⟩ : ∃ y, (l.take q ++ l'.drop q ++ [(-77, 0)])[q]? = some y := ⟨_, List.getElem?_eq_getElem (by simp; omega)⟩
          obtain ⟨z0, z1, hf⟩ := hroom.at hy
          have f0 := hf (q * 2)
          have f1 := hf (q * 2 + 1)
          have i1 : (q : Int) < (k : Int) := by omega
          have HN : Hid (RoomT (set2 wr g (q * 2) x) w.heap.size g k cap (l.take (q + 1) ++ l'.drop (q + 1)) ∧ Keeps (· = g) w2 (set2 wr g (q * 2) x)) := by
            have := hroom.put hqk x
            rw [take_setT hx (by omega)] at this
            exact ⟨this, hkp.trans (keeps_set2 wr g (q * 2) x) (fun _ e _ => e)⟩
          obtain ⟨kd, tv⟩ := x
          obtain ⟨ykd, ytv⟩ := y
          simp only [] at *
          clear hc hSx hx hroom hkp hy hf HR2 h1 h2
          go_wp2
          go_roundw
          case rel => exact ⟨q + 1, by omega, by go_num, HN.out⟩
          case measure => simp [intOf]; omega
        · have hqk2 : q = k := by omega
          subst hqk2
          have HR3 : Hid (RoomT wr w.heap.size g q cap l ∧ SeenT wr a q l ∧ Below w.heap.size w wr) := by
            have h1 := HS.out.len
            have h2 := HR2.out.1.len
            rw [List.take_of_length_le (by omega), List.drop_eq_nil_of_le (by omega), List.append_nil] at hroom
            exact ⟨hroom, (HS.out.more HR2.out.2).kept hkp (fun h0 b e _ e2 => by have := HS.out.low h0 e; have := HR2.out.1.low; omega), (HR2.out.2.below _ (Nat.le_refl _) (fun _ f => f.elim)).trans (hkp.below _ HR2.out.2.size (fun k e => e ▸ HR2.out.1.low))⟩
          clear hroom hkp HR2
          go_wp2_with fail
          refine (serial_ok (some ⟨g, 0, none⟩) q cap l most wr HR3.out.1.seen (by omega)).mono ?_
          rintro e w4 ⟨vc, vr, rfl, hO4⟩
          obtain ⟨ac, cc, rfl⟩ := row_shape hO4.row
          obtain ⟨ar, cr, rfl, -⟩ := hO4.held.shape
          obtain ⟨m, hm⟩ : ∃ m, m = (serC l most).length := ⟨_, rfl⟩
          obtain ⟨z, hz⟩ : ∃ z, z = (serZ l most).length := ⟨_, rfl⟩
          have hm40 : m ≤ 40 := by rw [hm]; exact (serC_length l most).1
          have hz40 : z ≤ 40 := by rw [hz]; exact (serC_length l most).2
          have HR4 : Hid (m = (serC l most).length ∧ z = (serZ l most).length ∧ RoomT w4 w.heap.size g q cap l ∧ SeenT w4 a q l ∧ Below w.heap.size w w4 ∧ Seen w4 ac m (serC l most) ∧ Held w4 (.slice ar z cr) (serZ l most)) := by
            have hk := hO4.kp
            have h1 := hO4.row
            have h2 := hO4.held
            rw [← hm] at h1
            rw [← hz] at h2
            exact ⟨hm, hz, HR3.out.1.kept hk (fun f => f), HR3.out.2.1.more hk, HR3.out.2.2.trans (hk.below _ HR3.out.2.2.size (fun _ f => f.elim)), Seen.of_row hm h1, h2⟩
          rw [← hm, ← hz]
          clear hO4 HR3 hm hz
          go_wp2_with fail
          go_loopw [11] (fun i wr => ∃ j : Nat, j ≤ q ∧ i = .int .i64 j ∧ ∃ x, wr = w4.drewN x) (fun i _ => q - (intOf i).toNat)
          case atStart => exact ⟨0, Nat.zero_le _, rfl, 0, rfl⟩
          case round =>
            obtain ⟨j, hj, rfl, xd, rfl⟩ := hrel
            by_cases hjq : j < q
            · obtain ⟨b, off, rfl, -, hc⟩ := HR4.out.2.2.2.1.ex (by omega)
              obtain ⟨x, hx⟩ : ∃ x, l[j]? = some x := ⟨l[j]'(by have := HR4.out.2.2.1.len; omega), by simp⟩
              obtain ⟨y0, y1⟩ := hc j x hx
              obtain ⟨b2, off2, e2, -, hc2⟩ := HR4.out.2.2.1.seen.ex (by omega)
              injection e2 with e2
              injection e2 with e2 e3
              subst e2 e3
              obtain ⟨z0, z1⟩ := hc2 j x hx
              rw [Nat.zero_add] at z0 z1
              have i1 : (j : Int) < (q : Int) := by omega
              obtain ⟨kd, tv⟩ := x
              simp only [] at *
              clear hx hc hc2 HR4 HS
              go_wp2
              go_quiet (fail)
              go_wp2
              go_roundw
              case rel => exact ⟨j + 1, by omega, by go_num, _, rfl⟩
              case measure => simp [intOf]; omega
            · obtain ⟨W, hW⟩ : ∃ W, W = w4.drewN xd := ⟨_, rfl⟩
              have HW : Hid (m = (serC l most).length ∧ z = (serZ l most).length ∧ RoomT W w.heap.size g q cap l ∧ SeenT W a q l ∧ Below w.heap.size w W ∧ Seen W ac m (serC l most) ∧ Held W (.slice ar z cr) (serZ l most) ∧ (0 < m → ∀ b, blockOf ac = some b → b < W.heap.size)) := by
                obtain ⟨h1, h2, h3, h4, h5, h6, h7⟩ := HR4.out
                have hk : Keeps None w4 W := hW ▸ keeps_drewN xd
                exact ⟨h1, h2, h3.kept hk (fun f => f), h4.more hk, h5.trans (hk.below _ h5.size (fun _ f => f.elim)), h6.more hk, h7.kept hk (fun _ _ f => f), fun h0 b e => (h6.more hk).low h0 e⟩
              rw [← hW]
              clear HR4 hW
              go_wp2_with fail
              refine (serial_ok (some ⟨g, 0, none⟩) q cap l most W HW.out.2.2.1.seen (by omega)).mono ?_
              rintro e w5 ⟨vc2, vr2, rfl, hO5⟩
              obtain ⟨ac2, cc2, rfl⟩ := row_shape hO5.row
              obtain ⟨ar2, cr2, rfl, -⟩ := hO5.held.shape
              rw [← HW.out.1, ← HW.out.2.1]
              have HT : Hid (Tail W w5 (.slice ac2 m cc2) (.slice ar2 z cr2) m z) := by
                have h1 := hO5.row
                have h2 := hO5.held
                have h3 := hO5.low
                rw [← HW.out.1] at h1
                rw [← HW.out.2.1] at h2 h3
                exact ⟨hO5.kp.mono (fun _ f _ => f.elim), ⟨_, HW.out.1.symm, h1⟩, ⟨_, HW.out.2.1.symm, h2⟩, h3⟩
              clear hO5
              go_wp2_with fail
              go_loopw [15] (fun i wr => ∃ t : Nat, t ≤ m ∧ i = .int .i64 t ∧ Tail W wr (.slice ac2 m cc2) (.slice ar2 z cr2) m z) (fun i _ => m - (intOf i).toNat)
              case atStart => exact ⟨0, Nat.zero_le _, rfl, HT.out⟩
              case round =>
                clear HT
                obtain ⟨t, ht, rfl, hT⟩ := hrel
                by_cases htm : t < m
                · obtain ⟨lc, hlc, hrc⟩ := hT.row
                  obtain ⟨y, hy⟩ : ∃ y, lc[t]? = some y := ⟨lc[t]'(by omega), by simp⟩
                  obtain ⟨gc, rfl, _, _, _, ⟨z0, z1, z2, z3, z4, z5, z6⟩, hf⟩ := row_elem hrc hy
                  have f0 := hf (t * 7)
                  have f1 := hf (t * 7 + 1)
                  have f2 := hf (t * 7 + 2)
                  have f3 := hf (t * 7 + 3)
                  have f4 := hf (t * 7 + 4)
                  have f5 := hf (t * 7 + 5)
                  have f6 := hf (t * 7 + 6)
                  have i1 : (t : Int) < (m : Int) := by omega
                  have HN : Hid (Tail W (set7 wr gc (t * 7) ⟨-1, 0, 0, t, 0, 0, 0⟩) (.slice (some ⟨gc, 0, none⟩) m cc2) (.slice ar2 z cr2) m z) := hT.putC htm _
                  clear hT hlc hrc hy hf
                  go_wp2
                  go_roundw
                  case rel => exact ⟨t + 1, by omega, by go_num, HN.out⟩
                  case measure => simp [intOf]; omega
                · have HT2 : Hid (Tail W wr (.slice ac2 m cc2) (.slice ar2 z cr2) m z) := hT
                  clear hT
                  go_wp2_with fail
                  go_loopw [16] (fun i wr => ∃ t : Nat, t ≤ z ∧ i = .int .i64 t ∧ Tail W wr (.slice ac2 m cc2) (.slice ar2 z cr2) m z) (fun i _ => z - (intOf i).toNat)
                  case atStart => exact ⟨0, Nat.zero_le _, rfl, HT2.out⟩
                  case round =>
                    clear HT2
                    obtain ⟨t2, ht2, rfl, hT⟩ := hrel
                    by_cases htz : t2 < z
                    · obtain ⟨zs, hzs, hh⟩ := hT.held
                      obtain ⟨y, hy⟩ : ∃ y, zs[t2]? = some y := ⟨zs[t2]'(by omega), by simp⟩
                      obtain ⟨gh, oh, ch, e1, -, z0⟩ := hh.at hy
                      injection e1 with e1 _ e3
                      subst e1
                      have f0 := heldFree hh (g := gh) rfl (oh + t2)
                      have i1 : (t2 : Int) < (z : Int) := by omega
                      have HN : Hid (Tail W (wr.setCell ⟨gh, oh + t2, none⟩ (.int .i64 (-(t2 : Int)))) (.slice ac2 m cc2) (.slice (some ⟨gh, oh, none⟩) z cr2) m z) := hT.putR htz _
                      clear hT hzs hh hy e3
                      go_wp2
                      go_roundw
                      case rel => exact ⟨t2 + 1, by omega, by go_num, HN.out⟩
                      case measure => simp [intOf]; omega
                    · obtain ⟨g1, p1, w6, hr1, hT1⟩ := hT.moreC ⟨-2, 0, 0, 0, 0, 0, 0⟩ (by omega)
                      obtain ⟨a7, c7, w7, hr2, hT2⟩ := hT1.moreR (-100) (by omega)
                      have HE : Hid (Seen w7 ac m (serC l most) ∧ Held w7 (.slice ar z cr) (serZ l most) ∧ RoomT w7 w.heap.size g q cap l ∧ SeenT w7 a q l ∧ Below w.heap.size w w7) := by
                        obtain ⟨h1, h2, h3, h4, h5, h6, h7, h8⟩ := HW.out
                        have hk := hT2.kp
                        exact ⟨h6.kept hk (fun h0 b e hb e2 => by omega), h7.kept hk (fun b e e2 => by have := h7.lt e; omega), h3.kept hk (fun e => by have := h3.lt; omega), h4.kept hk (fun h0 b e hb e2 => by omega), h5.trans (hk.below _ h5.size (fun k e => by have := h5.size; omega))⟩
                      clear hT hT1 hT2
                      go_wp2_with (first
                        | (at_builtin; refine wpList_append_run rfl (.tmp 117) (.tmp 119) 22 22 rfl rfl rfl hr1 ?_)
                        | (at_builtin; refine wpList_append_run rfl (.tmp 121) (.tmp 122) 34 34 rfl rfl rfl hr2 ?_))
                      refine (rserial_ok a q c l most w7 HE.out.2.2.2.1).mono ?_
                      rintro e w8 ⟨vd, vr8, rfl, hO8⟩
                      obtain ⟨ad, cd, rfl⟩ := row_shape hO8.row
                      obtain ⟨ar8, cr8, rfl, -⟩ := hO8.held.shape
                      rw [← HW.out.1, ← HW.out.2.1]
                      have HE8 : Hid (Seen w8 ac m (serC l most) ∧ Held w8 (.slice ar z cr) (serZ l most) ∧ RoomT w8 w.heap.size g q cap l ∧ Below w.heap.size w w8 ∧ Seen w8 ad m (serC l most) ∧ Held w8 (.slice ar8 z cr8) (serZ l most)) := by
                        obtain ⟨h1, h2, h3, h4, h5⟩ := HE.out
                        have hk := hO8.kp
                        have h6 := hO8.row
                        have h7 := hO8.held
                        rw [← HW.out.1] at h6
                        rw [← HW.out.2.1] at h7
                        exact ⟨h1.more hk, h2.kept hk (fun _ _ f => f), h3.kept hk (fun f => f), h5.trans (hk.below _ h5.size (fun _ f => f.elim)), Seen.of_row HW.out.1 h6, h7⟩
                      have hfit := HE8.out.2.2.1.fits
                      have hmark := HE8.out.2.2.1.mark
                      have hZ : (serZ l most).length ≤ 1000000 := by have := HW.out.2.1; omega
                      have HZ : Hid ((serZ l most).length ≤ 1000000) := hZ
                      clear hO8 HE HW hr1 hr2 hZ
                      generalize errS l most = er at *
                      go_wp2_with fail
                      refine (same_ok ac ad m cc cd (serC l most) w8 HE8.out.1 HE8.out.2.2.2.2.1 (by omega)).mono ?_
                      rintro e w9 ⟨rfl, m9, rfl⟩
                      go_wp2_with fail
                      refine (heldSame _ _ (serZ l most) (w8.drewN m9) (HE8.out.2.1.kept (keeps_drewN m9) (fun _ _ f => f)) (HE8.out.2.2.2.2.2.kept (keeps_drewN m9) (fun _ _ f => f)) HZ.out).mono ?_
                      rintro e w10 ⟨rfl, m10, rfl⟩
                      go_wp2_with fail
                      go_ret
                      refine ⟨by simp; try omega, ?_⟩
                      exact HE8.out.2.2.2.1.trans ((keeps_drewN _).below _ HE8.out.2.2.2.1.size (fun _ f => f.elim))
end Go.Proofs.Ytngeddopbpdcnaa
