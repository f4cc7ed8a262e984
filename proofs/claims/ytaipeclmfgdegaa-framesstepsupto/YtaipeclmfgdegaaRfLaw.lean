import Derived.Test.YtaipeclmfgdegaaRfNew
/-! FramesNew. -/
namespace Go.Proofs.Ytaipeclmfgdegaa
open Go.RowKit Go.HeapKit Go.IntWalk

/-- The program's arena and the document's. -/
structure TwoN (w wr : World) (p q : Nat) (F G : Nat → Prop) (B C : Ar) : Prop where
  ar : ArF wr p F B
  rf : RfF wr q G C
  ap : ∀ k, F k → ¬ G k
  lo : ∀ k, F k ∨ G k → w.heap.size ≤ k
  kp : Keeps None w wr
section
variable {w wr wx : World} {p q : Nat} {F G : Nat → Prop} {B C D : Ar}
theorem TwoN.kept (h : TwoN w wr p q F G B C) (hk : Keeps None wr wx) : TwoN w wx p q F G B C :=
  ⟨h.ar.kept hk (fun _ _ f => f), h.rf.kept hk (fun _ _ f => f), h.ap, h.lo, h.kp.trans hk (fun _ f _ => f)⟩
theorem TwoN.accA (h : TwoN w wr p q F G B C) (h2 : AA wr wx p F D) : ∃ F', TwoN w wx p q F' G D C ∧ (∀ k, F' k → F k ∨ wr.heap.size ≤ k) ∧ Keeps F wr wx := by
  obtain ⟨F', h1, hk, hf⟩ := h2
  have hs := h.kp.size
  refine ⟨F', ⟨h1, h.rf.kept hk (fun k g f => h.ap k f g), fun k f g => ?_, fun k f => ?_, h.kp.trans hk (fun i f hi => by have := h.lo i (.inl f); omega)⟩, hf, hk⟩
  · rcases hf k f with f | f
    · exact h.ap k f g
    · have := h.rf.lt g; omega
  · rcases f with f | f
    · rcases hf k f with f | f
      · exact h.lo k (.inl f)
      · omega
    · exact h.lo k (.inr f)
theorem TwoN.accR (h : TwoN w wr p q F G B C) (h2 : RR wr wx q G D) : ∃ G', TwoN w wx p q F G' B D ∧ Keeps G wr wx := by
  obtain ⟨G', h1, hk, hf⟩ := h2
  have hs := h.kp.size
  refine ⟨G', ⟨h.ar.kept hk (fun k f g => h.ap k f g), h1, fun k f g => ?_, fun k f => ?_, h.kp.trans hk (fun i f hi => by have := h.lo i (.inr f); omega)⟩, hk⟩
  · rcases hf k g with g | g
    · exact h.ap k f g
    · have := h.ar.lt f; omega
  · rcases f with f | f
    · exact h.lo k (.inl f)
    · rcases hf k f with f | f
      · exact h.lo k (.inr f)
      · omega
theorem rf_on (h : RfF wr q G C) : RR wr (wr.setCell ⟨q, 2, none⟩ (.bool true)) q G { C with on := true } := by
  obtain ⟨vc, vl, h, rfl⟩ := h
  exact ⟨_, ⟨vc, vl, h.watch true, rfl⟩, (Keeps.setCell (S := (· = q)) wr (a := ⟨q, 2, none⟩) rfl _).mono (fun i e _ => .inl e), fun _ f => .inl f⟩
theorem new_ownR {w : World} {e : TypeId} {size n : Nat} {xs : List Value} {g : Nat} (hg : w.heap[g]? = some (.cells xs.toArray e (0, 0))) (hl : xs.length = n * size) (hn : n ≤ maxLen) :
    w.ownsRow 0 e size (.slice (some ⟨g, 0, none⟩) n n) n xs :=
  ⟨hl, .inr ⟨g, n, xs.toArray, rfl, Nat.zero_le _, hg, Nat.le_refl _, hn, by simpa using hl, by rw [← hl]; simp⟩⟩
theorem tn_cells (h : TwoN w wr p q F G B C) : Calls Try.prog 13 #[.pointer (some ⟨p, 0, none⟩)] wr fun e w' => ∃ v, e = .returned v ∧ w'.ownsRow 0 2 1 v B.cells.length (B.cells.map (Value.int .i64)) ∧ Keeps None wr w' := by
  obtain ⟨c, l, hA, -⟩ := h.ar
  have hf := hA.fit
  refine (cells_any p c l B wr hA).mono ?_
  rintro e w' ⟨rfl, hg, hk⟩
  exact ⟨_, rfl, new_ownR hg (by simp) (by unfold maxLen; omega), hk⟩
theorem tn_log (h : TwoN w wr p q F G B C) (hl : B.log.length ≤ 4000000) : Calls Try.prog 16 #[.pointer (some ⟨p, 0, none⟩)] wr fun e w' => ∃ v, e = .returned v ∧ w'.ownsRow 0 89 6 v B.log.length (logVals B.log) ∧ Keeps None wr w' := by
  obtain ⟨c, l, hA, -⟩ := h.ar
  refine (log_any p c l B wr hA (by omega)).mono ?_
  rintro e w' ⟨rfl, hg, hk⟩
  exact ⟨_, rfl, new_ownR hg (logVals_length _) (by unfold maxLen; omega), hk⟩
theorem tn_rcells (h : TwoN w wr p q F G B C) : Calls Try.prog 14 #[.pointer (some ⟨q, 0, none⟩)] wr fun e w' => ∃ v, e = .returned v ∧ w'.ownsRow 0 2 1 v C.cells.length (C.cells.map (Value.int .i64)) ∧ Keeps None wr w' := by
  obtain ⟨c, l, hA, -⟩ := h.rf
  refine (rcells_ok q c l C wr hA).mono ?_
  rintro e w' ⟨ao, cc, rfl, ho, hk⟩
  exact ⟨_, rfl, own_base ho (fun _ _ => Nat.zero_le _), hk⟩
theorem tn_rlog (h : TwoN w wr p q F G B C) (hl : C.log.length ≤ 4000000) : Calls Try.prog 17 #[.pointer (some ⟨q, 0, none⟩)] wr fun e w' => ∃ v, e = .returned v ∧ w'.ownsRow 0 89 6 v C.log.length (logVals C.log) ∧ Keeps None wr w' := by
  obtain ⟨c, l, hA, -⟩ := h.rf
  refine (rlog_ok q c l C wr hA hl).mono ?_
  rintro e w' ⟨ao, cc, rfl, ho, hk⟩
  exact ⟨_, rfl, own_base ho (fun _ _ => Nat.zero_le _), hk⟩
end
set_option maxHeartbeats 4000000 in
set_option maxRecDepth 100000 in
theorem framesNew_bad (s a b : Int) (w : World) (hf : fineW s = false) : Calls Try.prog 3 #[.int .i64 s, .int .i64 a, .int .i64 b] w fun e w' => e = .returned (.bool true) ∧ Keeps None w w' := by
  have hr := rnew_w s w
  rw [show errW s = 3 by simp [errW, hf]] at hr
  have hb := fun w => new_bad s w hf
  have hc1 := fcells_any a
  have hc2 := rcells8_any a
  generalize cellsV a = N at hc1 hc2
  clear hf
  go_enter Try.func3, Try.ntmps3
  go_wp2_with fail
  refine hr.mono ?_
  rintro e w1 ⟨rfl, -, hk1⟩
  have HK1 : Hid _ := hk1
  clear hk1 hr
  go_wp2_with fail
  refine (hb _).mono ?_
  rintro e w2 ⟨rfl, hw⟩
  have hw2 := hw.symm
  subst hw2
  clear hw hb
  go_wp2_with fail
  refine (hc1 _).mono ?_
  rintro e w2 ⟨rfl, hw⟩
  have hw2 := hw.symm
  subst hw2
  clear hw hc1
  go_wp2_with fail
  refine (hc2 _).mono ?_
  rintro e w2 ⟨rfl, hw⟩
  have hw2 := hw.symm
  subst hw2
  clear hw hc2
  go_wp2_with fail
  go_ret
  exact ⟨by simp, HK1.out⟩
set_option maxHeartbeats 4000000 in
set_option maxRecDepth 100000 in
theorem framesNew_fine (n : Nat) (a b : Int) (w : World) (hn : n ≤ 1048576) : Calls Try.prog 3 #[.int .i64 n, .int .i64 a, .int .i64 b] w fun e w' => e = .returned (.bool true) ∧ Keeps None w w' := by
  have hr := rnew_w n w
  have hfn : fineW n = true := by simp [fineW]; omega
  rw [show errW n = 0 by simp [errW, hfn], show szW n = n by simp [szW, hfn]] at hr
  clear hfn
  go_enter Try.func3, Try.ntmps3
  go_wp2_with fail
  refine hr.mono ?_
  rintro e w1 ⟨rfl, hR, hk1⟩
  have ha := newA_new n w1 hn
  have HR : Hid _ := And.intro hR hk1
  clear hR hk1 hr
  go_wp2_with fail
  refine ha.mono ?_
  rintro e w2 ⟨rfl, F, hF, hk2, hf2⟩
  have hT : TwoN w w2 w1.heap.size w.heap.size F (Foot w.heap.size (.slice none 0 0) (.slice none 0 0)) (Ar.new n) (Ar.new n) := by
    obtain ⟨hR, hk1⟩ := HR.out
    have hs1 := hk1.size
    have hlt := hR.lt
    refine ⟨hF, ⟨_, _, hR.kept hk2 (fun _ _ f => f), rfl⟩, fun k f g => ?_, fun k f => ?_, hk1.trans hk2 (fun _ f _ => f)⟩
    · have h1 := hf2 k f
      have h2 := hR.foot_lt g
      omega
    · rcases f with f | f
      · have h1 := hf2 k f; omega
      · rcases f with rfl | e | e
        · exact Nat.le_refl _
        · simp [Value.ownBlock] at e
        · simp [Value.ownBlock] at e
  have hwt := arf_watch w1.heap.size F (Ar.new n) true w2 hT.ar
  generalize w1.heap.size = p at hT hwt ⊢
  generalize w.heap.size = q at hT ⊢
  have HT : Hid _ := hT
  clear hT hF hk2 hf2 HR ha
  go_upto_region 7 with fail
  go_cut [50] (fun s50 wx => ∃ F3, TwoN w wx p q F3 (Foot q (.slice none 0 0) (.slice none 0 0)) { Ar.new n with on := true } (Ar.new n))
  case first =>
    go_wp2_with fail
    refine hwt.mono ?_
    rintro e w3 ⟨rfl, hA3⟩
    have HA3 : Hid _ := hA3
    clear hwt hA3
    go_wp2_with fail
    go_meet
    obtain ⟨F3, h3, -, -⟩ := HT.out.accA HA3.out
    exact ⟨F3, h3⟩
  case rest =>
    obtain ⟨F3, h3⟩ := hcut
    have H3 : Hid _ := h3
    have hc2 : wc.cell? ⟨q, 2, none⟩ = some (.bool false) ∧ wc.frozen? ⟨q, 2, none⟩ = false := by
      obtain ⟨vc, vl, hR, -⟩ := h3.rf
      exact ⟨hR.c2, hR.free 2⟩
    obtain ⟨c2, f2⟩ := hc2
    clear h3 hwt HT
    go_upto_region 8 with fail
    go_cut [53] (fun s53 wx => ∃ G4, TwoN w wx p q F3 G4 { Ar.new n with on := true } { Ar.new n with on := true })
    case first =>
      go_wp2_with fail
      go_meet
      obtain ⟨G4, h4, -⟩ := H3.out.accR (rf_on H3.out.rf)
      exact ⟨G4, h4⟩
    case rest =>
      obtain ⟨G4, h4⟩ := hcut
      have H4 : Hid _ := h4
      clear h4 H3 c2 f2
      go_wp2_with fail
      go_loopw [11] (fun s11 wr => ∃ k : Nat, k ≤ 2 ∧ s11 = .int .i64 k ∧ ∃ F G B, TwoN w wr p q F G B B ∧ B.log.length ≤ 5000 * k ∧ B.size ≤ 1048576) (fun s11 _ => 2 - (intOf s11).toNat)
      case atStart => exact ⟨0, by omega, rfl, F3, G4, { Ar.new n with on := true }, H4.out, by simp [Ar.new], hn⟩
      case round =>
        obtain ⟨k, hk, rfl, F5, G5, B, h5, hlg, hsz⟩ := hrel
        clear H4
        have H5 : Hid _ := h5
        by_cases hk2 : k < 2
        · have i1 : (k : Int) < 2 := by omega
          clear h5
          go_upto_if 60 with fail
          go_cut [12] (fun s12 wx => (∃ m : Int, s12 = .int .i64 m) ∧ wx = wr)
          case first =>
            by_cases hk1 : k = 1
            · have b1 : ((k : Int) == 1) = true := by simp; omega
              clear hk1
              go_wp2_with fail
              go_meet
              exact ⟨⟨_, rfl⟩, rfl⟩
            · have b1 : ((k : Int) == 1) = false := by simp; omega
              clear hk1
              go_wp2_with fail
              go_meet
              exact ⟨⟨_, rfl⟩, rfl⟩
          case rest =>
            obtain ⟨⟨m, rfl⟩, hwc⟩ := hcut
            subst hwc
            have hrn := rfnew_any q G5 B m wc H5.out.rf (by omega) hsz
            have hfn := fun wx h => fnew_any p F5 B m wx h (by omega) hsz
            have hl2 := newT_log B m
            have hs2 := newT_size B m
            have hc1 := fcells_any m
            have hc2 := rcells8_any m
            generalize cellsV m = N at hc1 hc2
            generalize newT B m = R at hrn hfn hl2 hs2
            obtain ⟨R1, R2, R3, C⟩ := R
            simp only at hrn hfn hl2 hs2
            have HL : Hid _ := And.intro hl2 hs2
            clear hl2 hs2
            obtain ⟨w0, hw0⟩ : ∃ w0, w0 = wc := ⟨_, rfl⟩
            subst hw0
            go_upto_region 15 with fail
            go_cut [13, 14] (fun s13 s14 wx => s14 = .int .i64 R3 ∧ ∃ T1 G6, s13 = .pointer (some ⟨T1, 0, none⟩) ∧ wx.heap[T1]? = some (.cells #[.int .i64 R1, .int .i64 R2] 36 (0, 0)) ∧ ¬ F5 T1 ∧ TwoN w wx p q F5 G6 B C)
            case first =>
              go_wp2_with fail
              refine hrn.mono ?_
              rintro e w6 ⟨rfl, hA6⟩
              have HA6 : Hid _ := hA6
              clear hrn hA6 hfn hc1 hc2
              go_wp2_with fail
              go_meet
              obtain ⟨G6, h6, -⟩ := H5.out.accR HA6.out
              exact ⟨rfl, _, G6, rfl, new_at w6 _ _ rfl, fun f => by have := h6.ar.lt f; omega, h6.kept (Keeps.alloc None w6 _)⟩
            case rest =>
              obtain ⟨rfl, T1, G6, rfl, hb1, hn1, h6⟩ := hcut
              have hfn6 := hfn wc h6.ar
              have H6 : Hid _ := And.intro hb1 (And.intro hn1 h6)
              clear hrn hfn hb1 hn1 h6 H5
              go_upto_region 16 with fail
              go_cut [15, 16] (fun s15 s16 wx => s16 = .int .i64 R3 ∧ ∃ T2 F7 G7, s15 = .pointer (some ⟨T2, 0, none⟩) ∧ wx.cell? ⟨T1, 0, none⟩ = some (.int .i64 R1) ∧ wx.cell? ⟨T1, 1, none⟩ = some (.int .i64 R2) ∧ wx.cell? ⟨T2, 0, none⟩ = some (.int .i64 R1) ∧ wx.cell? ⟨T2, 1, none⟩ = some (.int .i64 R2) ∧ TwoN w wx p q F7 G7 C C)
              case first =>
                go_wp2_with fail
                refine hfn6.mono ?_
                rintro e w7 ⟨rfl, hA7⟩
                have HA7 : Hid _ := hA7
                clear hfn6 hA7 hc1 hc2
                go_wp2_with fail
                go_meet
                obtain ⟨hb1, hn1, h6⟩ := H6.out
                obtain ⟨F7, h7, -, hk7⟩ := h6.accA HA7.out
                have hb2 := ((Keeps.alloc None w7 (.cells #[.int .i64 R1, .int .i64 R2] 39)).block T1 (by have := (Array.getElem?_eq_some_iff.1 hb1).1; have := hk7.size; omega) (fun f => f)).trans ((hk7.block T1 (Array.getElem?_eq_some_iff.1 hb1).1 hn1).trans hb1)
                exact ⟨rfl, _, F7, G6, rfl, cell_of_block hb2 0, cell_of_block hb2 1, cell_of_block (new_at w7 _ _ rfl) 0, cell_of_block (new_at w7 _ _ rfl) 1, h7.kept (Keeps.alloc None w7 _)⟩
              case rest =>
                obtain ⟨rfl, T2, F7, G7, rfl, x0, x1, x2, x3, h7⟩ := hcut
                have H7 : Hid _ := h7
                clear h7 hfn6 H6
                go_wp2_with fail
                refine (hc1 _).mono ?_
                rintro e w8 ⟨rfl, hw⟩
                have hw2 := hw.symm
                subst hw2
                clear hw hc1
                go_wp2_with fail
                refine (hc2 _).mono ?_
                rintro e w8 ⟨rfl, hw⟩
                have hw2 := hw.symm
                subst hw2
                clear hw hc2
                go_wp2_with fail
                go_roundw
                case rel => exact ⟨k + 1, by omega, by go_num, F7, G7, C, H7.out, by have := HL.out.1; omega, by have := HL.out.2; omega⟩
                case measure => simp only [intOf]; omega
        · have i1 : ¬ (k : Int) < 2 := by omega
          have hca := tn_cells h5
          have hfit : B.cells.length ≤ 1048576 := by obtain ⟨c, l, hA, -⟩ := h5.ar; have := hA.fit; omega
          clear h5
          go_wp2_with fail
          refine hca.mono ?_
          rintro e w6 ⟨v6, rfl, o6, k6⟩
          have h6 := H5.out.kept k6
          have hcr := tn_rcells h6
          have H6 : Hid _ := And.intro h6 o6
          clear h6 o6 k6 hca
          go_wp2_with fail
          refine hcr.mono ?_
          rintro e w7 ⟨v7, rfl, o7, k7⟩
          have h7 := H6.out.1.kept k7
          have hsm := sameNumbers_same v6 v7 B.cells w7 (k7.own H6.out.2 (fun _ _ f => f)) o7 (by omega)
          have H7 : Hid _ := h7
          clear h7 o7 k7 hcr H6
          go_wp2_with fail
          refine hsm.mono ?_
          rintro e w8 ⟨rfl, mm, rfl⟩
          have h8 := H7.out.kept (Keeps.drewN None w7 mm)
          have hlo := tn_log h8 (by omega)
          have H8 : Hid _ := h8
          clear h8 hsm H7
          go_wp2_with fail
          refine hlo.mono ?_
          rintro e w9 ⟨v9, rfl, o9, k9⟩
          have h9 := H8.out.kept k9
          have hlr := tn_rlog h9 (by omega)
          have H9 : Hid _ := And.intro h9 o9
          clear h9 o9 k9 hlo H8
          go_wp2_with fail
          refine hlr.mono ?_
          rintro e w10 ⟨v10, rfl, o10, k10⟩
          have h10 := H9.out.1.kept k10
          have hsl := sameLog_same v9 v10 B.log w10 (k10.own H9.out.2 (fun _ _ f => f)) o10 (by omega)
          have H10 : Hid _ := h10
          clear h10 o10 k10 hlr H9
          go_wp2_with fail
          refine hsl.mono ?_
          rintro e w11 ⟨rfl, m2, rfl⟩
          have H11 : Hid _ := H10.out.kept (Keeps.drewN None w10 m2)
          clear hsl H10
          go_wp2_with fail
          go_ret
          exact ⟨by simp, H11.out.kp⟩
theorem framesNew_walk (s a b : Int) (w : World) : Calls Try.prog 3 #[.int .i64 s, .int .i64 a, .int .i64 b] w fun e w' => e = .returned (.bool true) ∧ Keeps None w w' := by
  cases hf : fineW s with
  | false => exact framesNew_bad s a b w hf
  | true =>
    simp [fineW] at hf
    obtain ⟨n, rfl⟩ : ∃ n : Nat, s = n := ⟨s.toNat, by omega⟩
    exact framesNew_fine n a b w (by omega)
end Go.Proofs.Ytaipeclmfgdegaa
