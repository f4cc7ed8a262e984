import Derived.Test.YthignlailbekmaaDoorPkBK
/-! SerialTree: the walk, whole. -/
namespace Go.Proofs.YthignlailbekmaaDoor
set_option linter.unusedVariables false
set_option maxRecDepth 20000
open Go.RowKit Go.HeapKit Go.PlainOps

set_option maxHeartbeats 8000000 in
set_option maxRecDepth 1000000 in
theorem serialTree_walk (a : Option Addr) (n c : Nat) (l : List Fn) (aa : Option Addr) (an ac : Nat) (zs : List Int) (fuel : Int) (w : World) (hT : Tabs w) (hS : SeenF w a n l) (hok : ∀ f ∈ l, f.Ok) (hr : n * 48 ≤ 140737488351232 ∧ ∀ f ∈ l, f.code.length * 40 ≤ 140737488351232) (hZ : SeenA w aa an zs) (hrz : an * 8 ≤ 140737488351232) (hfu : okI fuel) :
    Calls Tryd.prog 4 #[.agg #[.slice a n c], .slice aa an ac, .int .i64 fuel] w fun e w' => e = .returned (.bool true) ∧ Keeps None w w' := by
  have b1 := heap_alloc_new w (.cells #[.slice a n c] 24)
  have hk1 := Keeps.alloc None w (.cells #[.slice a n c] 24)
  obtain ⟨W, hW⟩ : ∃ W, W = w.alloc (.cells #[.slice a n c] 24) := ⟨_, rfl⟩
  obtain ⟨B, hB⟩ : ∃ B, B = w.heap.size := ⟨_, rfl⟩
  rw [← hW, ← hB] at b1
  rw [← hW] at hk1
  have d0 : W.cell? ⟨B, 0, none⟩ = some (.slice a n c) := (blk_cell b1 0).trans rfl
  have han : (an : Int) ≤ 4611686018427387904 := by omega
  have hnb : (n : Int) ≤ 4611686018427387904 := by have := hr.1; omega
  have HD : Hid _ := d0
  have HC : Hid (Tabs W ∧ SeenF W a n l ∧ (∀ f ∈ l, f.Ok) ∧ (n * 48 ≤ 140737488351232 ∧ ∀ f ∈ l, f.code.length * 40 ≤ 140737488351232) ∧ SeenA W aa an zs ∧ Keeps None w W ∧ okI fuel ∧ an * 8 ≤ 140737488351232) := ⟨hT.more hk1, hS.more hk1, hok, hr, hZ.more hk1, hk1, hfu, hrz⟩
  have hcp := copied_own a n c l W (hS.more hk1) hr.1 hr.2
  unfold CopiedOwn at hcp
  have htr := fun fu wx (hf : okI fu) (hx : Keeps None W wx) => tree_all a n c l aa an ac zs fu wx (HC.out.1.more hx) (HC.out.2.1.more hx) hok (HC.out.2.2.2.2.1.more hx) (by omega) hf
  have htm := fun a' c' a2 c2 wx (h0 : Tabs wx) (h1 : SeenF wx a' n l) (h2 : SeenA wx a2 an zs) => tree_all a' n c' l a2 an c2 zs fuel wx h0 h1 hok h2 (by omega) hfu
  have hrt := fun a' c' a2 c2 wx (h1 : SeenF wx a' n l) (h2 : SeenA wx a2 an zs) => rtree_all a' n c' l a2 an c2 zs fuel wx h1 hok h2 (by omega) hfu
  have hem := fun a' c' a2 c2 wx (h0 : Tabs wx) (h1 : SeenF wx a' n l) (h2 : SeenA wx a2 an zs) => eval_any a' n c' l a2 an c2 zs fuel wx h0 h1 hok h2 (by omega) hfu
  have HTF : Hid _ := htr
  replace htr := fun wx => htr fuel wx hfu
  obtain ⟨⟨v0, v1, v2, v3, v4⟩, hvv⟩ : ∃ ev, ev = (evalV l zs fuel).1 := ⟨_, rfl⟩
  rw [← hvv] at hem
  unfold valC at hem
  clear hvv
  generalize (evalV l zs fuel).2 = er at htr htm hrt hem
  have hLm := treeL_most l zs fuel hok hZ.ok
  generalize treeL l zs fuel = L at htr htm hrt hLm
  obtain ⟨N, hN⟩ : ∃ N, N = L.length := ⟨_, rfl⟩
  rw [← hN] at htr htm hrt hLm
  have hNb : (N : Int) ≤ 4611686018427387904 := by omega
  have HN : Hid _ := hN
  have HTR : Hid _ := htr
  have HTM : Hid _ := htm
  have HRT : Hid _ := hrt
  have HEM : Hid _ := hem
  clear hT hS hok hr hZ hrz hk1 b1 htr htm hrt hem hfu hN
  go_enter Tryd.func4, Tryd.ntmps4
  go_upto_region 1 with fail
  rw [← hW, ← hB]
  clear hW hB
  go_upto_region 2 with (go_at_call 5; refine hcp.mono ?_; rintro _ w2 ⟨qa, qc, tq, rfl, hq2, hk2⟩)
  have hal := Keeps.alloc None w2 (.cells #[.slice qa n qc] 24)
  have b2 := heap_alloc_new w2 (.cells #[.slice qa n qc] 24)
  obtain ⟨V, hV⟩ : ∃ V, V = w2.alloc (.cells #[.slice qa n qc] 24) := ⟨_, rfl⟩
  obtain ⟨Q, hQ⟩ : ∃ Q, Q = w2.heap.size := ⟨_, rfl⟩
  rw [← hV] at hal b2
  rw [← hQ] at b2
  rw [← hV, ← hQ]
  have kV := hk2.trans hal (fun _ f _ => f)
  obtain ⟨bv, w3, hr3, ho3, hk3, hl3⟩ := words_copied aa an ac zs V 25 (HC.out.2.2.2.2.1.more kV) HC.out.2.2.2.2.2.2.2
  obtain ⟨ba, bc, hbv, hb3⟩ := rowA HC.out.2.2.2.2.1.len ho3 (by omega) HC.out.2.2.2.2.1.ok
  subst hbv
  have A3 : Al W w3 Q l (.slice qa n qc) tq (.slice ba an bc) an zs := ⟨kV.trans hk3 (fun _ f _ => f), by rw [hQ]; exact hk2.size, blk_kept b2 hk3 (fun f => f), (hq2.more hal).more hk3, ho3, fun g e => Nat.le_trans kV.size (hl3 g e)⟩
  have HA : Hid _ := A3
  have HA3 : Hid _ := A3
  clear hV hQ hal b2 kV hk2 hq2 hcp ho3 hk3 hl3 hb3 A3
  go_upto_region 3 with (at_builtin; refine wpList_append_run rfl (.tmp 35) (.tmp 36) 25 25 rfl rfl rfl hr3 ?_)
  have d3 := HA.out.keep.cell HD.out (fun f => f)
  clear hr3 d0
  have ht3 := HTR.out w3 HA.out.keep
  unfold TP at ht3
  go_upto_region 4 with (go_at_call 10; refine ht3.mono ?_; rintro _ w4 ⟨la, lc, rfl, hk4, hl4, ho4, hs4⟩)
  have A4 := HA.out.more hk4
  have HA4 : Hid _ := A4
  have HL : Hid (Keeps None w3 w4 ∧ (∀ g, (Value.slice la N lc).ownBlock = some g → w3.heap.size ≤ g) ∧ w4.ownsRow 0 41 7 (.slice la N lc) N (ndVals L) ∧ SeenD w4 la N L) := ⟨hk4, hl4, ho4, hs4⟩
  have q4 : w4.cell? ⟨Q, 0, none⟩ = some (.slice qa n qc) := (blk_cell A4.qb 0).trans rfl
  have ht4 := HRT.out qa qc ba bc w4 (A4.seenQ HC.out.2.1.len) (A4.seenB HC.out.2.2.2.2.1.len (by omega) HC.out.2.2.2.2.1.ok)
  unfold TP at ht4
  clear d3 ht3 hk4 hl4 ho4 hs4 A4 HA
  go_upto_region 5 with (go_at_call 11; refine ht4.mono ?_; rintro _ w5 ⟨ma, mc, rfl, hk5, hl5, ho5, hs5⟩)
  have A5 := HA4.out.more hk5
  have HA5 : Hid _ := A5
  have HMm : Hid ((∀ g, (Value.slice ma N mc).ownBlock = some g → w4.heap.size ≤ g) ∧ w5.ownsRow 0 41 7 (.slice ma N mc) N (ndVals L) ∧ Keeps None w4 w5) := ⟨hl5, ho5, hk5⟩
  have d5 := A5.keep.cell HD.out (fun f => f)
  have q5 : w5.cell? ⟨Q, 0, none⟩ = some (.slice qa n qc) := (blk_cell A5.qb 0).trans rfl
  have hsn := sameNodes_any la N lc ma mc L w5 (HL.out.2.2.2.more hk5) hs5 hNb
  have hsm := fun wx (hx : Keeps None w5 wx) => same6_any a n c qa qc l wx (HC.out.2.1.more (A5.more hx).keep) ((A5.more hx).seenQ HC.out.2.1.len) HC.out.2.2.2.1.1 HC.out.2.2.2.1.2
  have hsi := fun wx (hx : Keeps None w5 wx) => sameInts_any aa an ac ba bc zs wx (HC.out.2.2.2.2.1.more (A5.more hx).keep) ((A5.more hx).seenB HC.out.2.2.2.2.1.len (by omega) HC.out.2.2.2.2.1.ok) han
  have HSM : Hid _ := hsm
  have HSI : Hid _ := hsi
  clear q4 ht4 hk5 hl5 ho5 hs5 A5 HA4 hsm hsi
  go_upto_region 7 with (first | (go_at_call 12; refine hsn.mono ?_; rintro _ w6 ⟨rfl, hk6⟩; have d6 := hk6.cell d5 (fun f => f); have q6 := hk6.cell q5 (fun f => f)) | (go_at_call 8; refine (HSM.out _ hk6).mono ?_; rintro _ w7 ⟨rfl, hk7⟩) | (go_at_call 9; refine (HSI.out _ (hk6.trans hk7 (fun _ f _ => f))).mono ?_; rintro _ w8 ⟨rfl, hk8⟩))
  have B8 : Bl W w8 Q l (.slice qa n qc) tq (.slice ba an bc) an zs (.slice la N lc) (.slice ma N mc) N (ndVals L) (ndVals L) :=
    Bl.more (wr := w5) ⟨HA5.out, HMm.out.2.2.own HL.out.2.2.1 (fun _ _ f => f), HMm.out.2.1, fun g e => by
      have h1 := HL.out.2.1 g e
      have h2 := HA3.out.keep.size
      omega, fun g e1 e2 => by
      obtain ⟨C, hC⟩ := own_block HL.out.2.2.1 e1
      have h1 := blk_lt hC
      have h2 := HMm.out.1 g e2
      omega⟩ ((hk6.trans hk7 (fun _ f _ => f)).trans hk8 (fun _ f _ => f))
  have HB8 : Hid _ := B8
  have d8 := B8.al.keep.cell HD.out (fun f => f)
  have hry := roomy_any a n c l w8 (HC.out.2.1.more B8.al.keep) HC.out.2.2.2.1.1 HC.out.2.2.2.1.2
  unfold RoomyPost at hry
  clear d5 q5 hsn HSM HSI d6 q6 hk6 hk7 hk8 B8 HA5 HMm HL HA3
  go_upto_region 8 with (go_at_call 13; refine hry.mono ?_; rintro _ w9 ⟨ra, rc, tr, rfl, hrm, hk9⟩)
  have hal := Keeps.alloc None w9 (.cells #[.slice ra n rc] 24)
  have b9 := heap_alloc_new w9 (.cells #[.slice ra n rc] 24)
  obtain ⟨V9, hV9⟩ : ∃ V9, V9 = w9.alloc (.cells #[.slice ra n rc] 24) := ⟨_, rfl⟩
  obtain ⟨R, hR⟩ : ∃ R, R = w9.heap.size := ⟨_, rfl⟩
  rw [← hV9] at hal b9
  rw [← hR] at b9
  rw [← hV9, ← hR]
  have k9 := hk9.trans hal (fun _ f _ => f)
  have B9 := HB8.out.more k9
  obtain ⟨gv, w10, hr10, ho10, hk10, hl10⟩ := words_copied aa an ac zs V9 25 (HC.out.2.2.2.2.1.more B9.al.keep) HC.out.2.2.2.2.2.2.2
  have hal10 := Keeps.alloc None w10 (.cells #[.int .i64 77] 2)
  obtain ⟨gb, gc, w11, hr11, ho11, hk11, hg11, hc11⟩ := word_append gv zs 77 an w10.heap.size 25 (w10.alloc (.cells #[.int .i64 77] 2)) HC.out.2.2.2.2.1.len (hal10.own ho10 (fun _ _ f => f)) (by have := HC.out.2.2.2.2.2.2.2; omega) (heap_alloc_new _ _)
  have k11 : Keeps None V9 w11 := (hk10.trans hal10 (fun _ f _ => f)).trans hk11 (fun i e hi => by have := hl10 i e; omega)
  have HB11 : Hid _ := B9.more k11
  have HR11 : Hid (Rm w11 l ra rc tr ∧ w11.heap[R]? = some (.cells #[.slice ra n rc] 24 (0, 0)) ∧ w11.ownsRow 0 2 1 (.slice (some ⟨gb, 0, none⟩) (an + 1) gc) (an + 1) (ints (zs ++ [77]))) := ⟨(hrm.more hal).more k11, blk_kept b9 k11 (fun f => f), ho11⟩
  clear hV9 hR hal b9 k9 B9 hry hrm hk9 d8 ho10 hk10 hl10 hal10 ho11 hk11 hg11 k11
  go_upto_region 9 with (at_builtin; first | refine wpList_append_run rfl (.tmp 75) (.tmp 76) 25 25 rfl rfl rfl hr10 ?_ | refine wpList_append_run rfl (.tmp 77) (.tmp 78) 25 25 rfl rfl rfl hr11 ?_)
  obtain ⟨hgs, hgm⟩ := rowA_more HR11.out.2.2 HC.out.2.2.2.2.1.len (by omega) HC.out.2.2.2.2.1.ok
  have r11 : w11.cell? ⟨R, 0, none⟩ = some (.slice ra n rc) := (blk_cell HR11.out.2.1 0).trans rfl
  have HT11 := fun wx (hx : Keeps None w11 wx) => HTM.out ra rc (some ⟨gb, 0, none⟩) gc wx ((HC.out.1.more HB11.out.al.keep).more hx) (by have := (HR11.out.1.more hx).seen; rw [← HC.out.2.1.len] at this; exact this) (hgs.more hx)
  unfold TP at HT11
  have HTT : Hid _ := HT11
  have HE11 := fun wx (hx : Keeps None w11 wx) => HEM.out ra rc (some ⟨gb, 0, none⟩) gc wx ((HC.out.1.more HB11.out.al.keep).more hx) (by have := (HR11.out.1.more hx).seen; rw [← HC.out.2.1.len] at this; exact this) (hgs.more hx)
  have HE : Hid _ := HE11
  have HG : Hid _ := hgm
  have g0 : ¬ gc = 0 := by omega
  have g1 : (an : Int) ≤ (gc : Int) := by omega
  clear hr10 hr11 HE11 hgs hgm HT11
  go_cut [86] (fun s86 wx => Keeps None w11 wx)
  case first =>
    go_region_held3 (fun w' => w'.cell? ⟨R, 0, none⟩ = some (.slice ra n rc)) (go_keep) (first
      | (go_at_call 10; refine (HTT.out _ (Keeps.drew None w11)).mono ?_; rintro _ w12 ⟨_, _, rfl, hk12, _, _, _⟩; have rr := ((Keeps.drew None w11).trans hk12 (fun _ f _ => f)).cell r11 (fun f => f)))
    all_goals (go_wp2_with fail; go_meet)
    all_goals exact (Keeps.drew None w11).trans hk12 (fun _ f _ => f)
  case rest =>
  obtain ⟨w12, hw12⟩ : ∃ w12, w12 = wc := ⟨_, rfl⟩
  rw [← hw12] at hcut ⊢
  clear hw12
  have r12 := hcut.cell r11 (fun f => f)
  have HK12 : Hid _ := hcut
  have he12 := fun wx (hx : Keeps None w12 wx) => HE.out wx (hcut.trans hx (fun _ f _ => f))
  have HE12 : Hid _ := he12
  clear he12 hcut r11
  go_upto_region 10 with fail
  go_cut [93] (fun s93 wx => Keeps None w12 wx)
  case first =>
    go_region_held3 (fun w' => w'.cell? ⟨R, 0, none⟩ = some (.slice ra n rc)) (go_keep) (first
      | (go_at_call 6; refine (HE12.out _ (Keeps.drew None w12)).mono ?_; rintro _ w13 ⟨rfl, hk13⟩; have rr := ((Keeps.drew None w12).trans hk13 (fun _ f _ => f)).cell r12 (fun f => f)))
    all_goals (go_wp2_with fail; go_meet)
    all_goals exact (Keeps.drew None w12).trans hk13 (fun _ f _ => f)
  case rest =>
  obtain ⟨w13, hw13⟩ : ∃ w13, w13 = wc := ⟨_, rfl⟩
  rw [← hw13] at hcut ⊢
  clear hw13
  have k13 := HK12.out.trans hcut (fun _ f _ => f)
  have B13 := HB11.out.more k13
  have HB13 : Hid _ := B13
  have r13 := hcut.cell r12 (fun f => f)
  have m13 := k13.cell HG.out (fun f => f)
  have hrm13 := room_any ra n rc l tr w13 (HR11.out.1.more k13) HC.out.2.1.len HC.out.2.2.2.1.1 HC.out.2.2.2.1.2
  clear hcut k13 B13 r12 HE12 HE HTT HK12 HB11 HR11 HG g0
  have g2 : (an : Int) < (an : Int) + 1 := by omega
  go_upto_region 13 with (go_at_call 14; refine hrm13.mono ?_; rintro _ w14 ⟨rfl, hk14⟩; have m14 := hk14.cell m13 (fun f => f))
  have B14 := HB13.out.more hk14
  have HB14 : Hid _ := B14
  have d14 := B14.al.keep.cell HD.out (fun f => f)
  have t14 := HTR.out w14 B14.al.keep
  unfold TP at t14
  clear r13 m13 m14 hrm13 HB13 B14 hk14 g1 g2
  go_upto_region 14 with (go_at_call 10; refine t14.mono ?_; rintro _ w15 ⟨ua, uc, rfl, hk15, hl15, ho15, hs15⟩)
  have HU15 : Hid (Keeps None w14 w15 ∧ (∀ g, (Value.slice ua N uc).ownBlock = some g → w14.heap.size ≤ g) ∧ w15.ownsRow 0 41 7 (.slice ua N uc) N (ndVals L)) := ⟨hk15, hl15, ho15⟩
  have d15 := hk15.cell d14 (fun f => f)
  clear t14 hk15 hl15 ho15 hs15 d14
  have t15 := HTF.out (wrap64 (fuel.tdiv 2)) w15 (wrap_ok _) (HB14.out.more HU15.out.1).al.keep
  unfold TP at t15
  skip
  go_cut [116] (fun s116 wx => Keeps None w15 wx)
  case first =>
    go_wp2_with (go_at_call 10; refine t15.mono ?_; rintro _ w16 ⟨_, _, rfl, hk16, _, _, _⟩)
    go_meet
    exact hk16
  case rest =>
  have hk16 := hcut
  have B16 := (HB14.out.more HU15.out.1).more hk16
  have HC16 : Hid (C3 W wc Q l (.slice qa n qc) tq (.slice ba an bc) an zs (.slice la N lc) (.slice ma N mc) (.slice ua N uc) N (ndVals L) (ndVals L)) := ⟨B16, hk16.own HU15.out.2.2 (fun _ _ f => f), fun g e1 e2 => by
      obtain ⟨C, hC⟩ := own_block HB14.out.lrow e1
      have h1 := blk_lt hC
      have h2 := HU15.out.2.1 g e2
      omega⟩
  rename_i hK
  apply hK
  exact tree_B a n c l aa an ac zs fuel w W Q qa ba qc bc tq L N er la ma ua lc mc uc B hLm wc HC HD HTR HTM HN hNb han hnb HC16
end Go.Proofs.YthignlailbekmaaDoor
