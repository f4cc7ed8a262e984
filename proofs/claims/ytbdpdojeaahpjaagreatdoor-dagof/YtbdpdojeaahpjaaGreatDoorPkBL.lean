import Derived.Test.YtbdpdojeaahpjaaGreatDoorPkBK
import Derived.Deep.RegionHeld3
/-! The document's walk over a run: 'task'. -/
namespace Go.Proofs.YtbdpdojeaahpjaaGreatDoor
set_option linter.unusedVariables false
set_option maxRecDepth 20000
set_option linter.unusedSimpArgs false
open Go.RowKit Go.HeapKit Go.PlainOps

theorem IsW.endrow {lo Q n nn base : Nat} {w w' : World} {pv ev nv : Value} {es : List (Nat × Nat)} {Y : List Value} (h : IsW lo w Q pv n es ev) (ho : w.ownsRow base 3 1 nv nn Y) (hk : Keeps (fun k => nv.ownBlock = some k) w w') : IsW lo w' Q pv n es ev :=
  ⟨blk_kept h.blk hk (fun e => own_not ho h.blk (by decide) e), h.low, hk.own h.row (fun q eq hq => own_not2 h.row ho (by decide) eq hq)⟩
set_option maxHeartbeats 8000000 in
theorem dtask_step (fs : List Fn) (hA : AllV fs) (fa : Option Addr) (fn fc : Nat) (w0 : World) (hS : SeenF w0 fa fn fs) (lo Q : Nat) (h0 : w0.heap.size ≤ lo) (gm : Nat) (IH : ∀ g, g < gm → DTaskOk fs fa fn fc w0 lo Q g) : DTaskOk fs fa fn fc w0 lo Q gm := by
  intro k n es t fr aa an ac zs w r hdoc hr2 hes hfr hW hk0 hlo hN hZ hfun hpar
  obtain ⟨m, hm⟩ : ∃ m : Nat, t.node.func = m := Int.eq_ofNat_of_zero_le hfun.1
  obtain ⟨f, hf, hfm, hcf, hVf, hokf⟩ := hA.fn hfun
  have hfm2 : fs[m]? = some f := by rw [hm] at hf; simpa using hf
  have hln := hS.len
  have hml : m < fs.length := by have := hfun.2; omega
  obtain ⟨b, off, hfa, hb0, hat00⟩ := hS.ex (by omega)
  subst hfa
  obtain ⟨ca, cc, hat0⟩ := hat00 m f hfm2
  obtain ⟨hb1, hb2, hb3, hb4, hb5⟩ := valid_bounds hVf
  obtain ⟨nr, hnr⟩ : ∃ nr : Nat, f.regs = nr := Int.eq_ofNat_of_zero_le (by omega)
  obtain ⟨ns, hns⟩ : ∃ ns : Nat, f.slots = ns := Int.eq_ofNat_of_zero_le hb3.1
  obtain ⟨N, hN0⟩ : ∃ N, N = f.code.length := ⟨_, rfl⟩
  have hzs : (zs.length : Int) = f.params := by rw [← hpar, hm]; simp [parV, hfm2]
  have hanz : an = zs.length := hZ.len
  have hat := hat0.more hk0
  have c1 := hat.params
  have c2 := hat.regs
  have c3 := hat.slots
  have c4 := hat.code
  rw [hnr] at c2
  rw [hns] at c3
  rw [← hN0] at c4
  have hnr16 : nr ≤ 16 := by omega
  have hns8 : ns ≤ 8 := by omega
  have hanr : an ≤ nr := by omega
  have hN512 : N ≤ 512 := by omega
  have hN1 : 1 ≤ N := by omega
  obtain ⟨ev0, hW0⟩ := hW
  have q0 : w.cell? ⟨Q, 0, none⟩ = some (.slice (some ⟨b, off, none⟩) fn fc) := (blk_cell hW0.blk 0).trans rfl
  have im : (m : Int) < (fn : Int) := by omega
  obtain ⟨FB, hFB⟩ : ∃ FB, FB = w.heap.size := ⟨_, rfl⟩
  obtain ⟨W1, hW1⟩ : ∃ W1, W1 = w.alloc (.cells #[.int .i64 f.params, .int .i64 nr, .int .i64 ns, .slice ca N cc] 35) := ⟨_, rfl⟩
  have kW1 := Keeps.alloc None w (.cells #[.int .i64 f.params, .int .i64 nr, .int .i64 ns, .slice ca N cc] 35)
  have bF1 := heap_alloc_new w (.cells #[.int .i64 f.params, .int .i64 nr, .int .i64 ns, .slice ca N cc] 35)
  have sW1 : W1.heap.size = FB + 1 := by rw [hW1, hFB]; simp
  rw [← hW1] at kW1 bF1
  rw [← hFB] at bF1
  have d1 : W1.cell? ⟨FB, 1, none⟩ = some (.int .i64 (nr : Int)) := (blk_cell bF1 1).trans rfl
  have hmk1 := make_i64 nr W1 (by omega)
  rw [sW1] at hmk1
  obtain ⟨W2, hW2⟩ : ∃ W2, W2 = W1.alloc (.cells (ints (List.replicate nr 0)).toArray 2) := ⟨_, rfl⟩
  have kW2 := Keeps.alloc None W1 (.cells (ints (List.replicate nr 0)).toArray 2)
  have bG2 := heap_alloc_new W1 (.cells (ints (List.replicate nr 0)).toArray 2)
  rw [← hW2] at hmk1 kW2 bG2
  rw [sW1] at bG2
  have sW2 : W2.heap.size = FB + 2 := by rw [hW2]; simp [sW1]
  have bF2 := blk_kept bF1 kW2 (fun f => f)
  have iG : IsL W2 (FB + 1) ((argsV zs 0 0).take nr) := by
    unfold IsL
    rw [bG2, args_zero, List.take_replicate, Nat.min_eq_left hnr16]
  have HX : Hid (FB = w.heap.size ∧ W2.heap.size = FB + 2 ∧ Keeps None w W2 ∧ IsL W2 (FB + 1) ((argsV zs 0 0).take nr) ∧ W2.heap[FB]? = some (.cells #[.int .i64 f.params, .int .i64 nr, .int .i64 ns, .slice ca N cc] 35 (0, 0)) ∧ SeenA w aa an zs) := ⟨hFB, sW2, kW1.trans kW2 (fun _ f _ => f), iG, bF2, hZ⟩
  have HG : Hid (docV fs gm k n es t fr [] 0 = some r ∧ r.2.2.2.1 ≤ 4096 ∧ es.length ≤ 2 * n ∧ (∀ q, fr = some q → q < n) ∧ (∃ ev, IsW lo w Q (.slice (some ⟨b, off, none⟩) fn fc) n es ev) ∧ Keeps None w0 w ∧ lo ≤ w.heap.size ∧ NewD t zs ∧ w0.heap.size ≤ lo ∧ AllV fs ∧ (∀ g, g < gm → DTaskOk fs (some ⟨b, off, none⟩) fn fc w0 lo Q g)) := ⟨hdoc, hr2, hes, hfr, ⟨ev0, hW0⟩, hk0, hlo, hN, h0, hA, IH⟩
  have HC : Hid (FnAt w0 b (off + m * 4) f ca cc ∧ N = f.code.length ∧ codeOf fs (m : Int) = f.code ∧ Valid fs f ∧ f.Ok ∧ t.node.func = m ∧ f.regs = nr ∧ f.slots = ns ∧ an = zs.length ∧ SeenF w0 (some ⟨b, off, none⟩) fn fs ∧ (zs.length : Int) = f.params) := ⟨hat0, hN0, by rw [hm] at hcf; exact hcf, hVf, hokf, hm, hnr, hns, hanz, hS, hzs⟩
  obtain ⟨F, hF⟩ : ∃ F, F = frI fr := ⟨_, rfl⟩
  have HF0 : Hid (F = frI fr) := hF
  rw [← hF, hm]
  obtain ⟨P, hP⟩ : ∃ P, P = t.node.ped := ⟨_, rfl⟩
  have HP0 : Hid (P = t.node.ped) := hP
  rw [← hP]
  obtain ⟨fp, hfp⟩ : ∃ fp, fp = f.params := ⟨_, rfl⟩
  have HFP : Hid (fp = f.params) := hfp
  rw [← hfp] at c1 hW1 
  clear hdoc hr2 hes hfr hW0 hk0 hlo hN hZ hfun hpar hf hfm hcf hVf hokf hfm2 hln hat00 hat0 hb1 hb2 hb3 hb4 hb5 hnr hns hN0 hzs hanz hat kW1 bF1 kW2 bG2 bF2 iG hS h0 hA IH hm hF hP hfp hb0 sW2 hW2 sW1
  go_enter Tryz.func12, Tryz.ntmps12
  go_upto_region 2 with fail
  rw [← hW1, ← hFB]
  clear hW1 hFB q0 c1 c2 c3 c4
  go_upto_region 3 with (at_make; refine wpList_make_run rfl (.tmp 35) (.tmp 35) 25 rfl rfl rfl hmk1 ?_)
  clear hmk1 d1
  go_wp2_with fail
  go_loopw [14] (fun s14 wr => ∃ j : Nat, j ≤ an ∧ s14 = .int .i64 j ∧ IsL wr (FB + 1) ((argsV zs 0 j).take nr) ∧ Keeps (· = FB + 1) W2 wr) (fun i _ => an - (intOf i).toNat)
  case atStart => exact ⟨0, Nat.zero_le _, rfl, HX.out.2.2.2.1, Keeps.refl _ _⟩
  case round =>
    obtain ⟨j, hj, rfl, hY, kY⟩ := hrel
    have hzl := HC.out.2.2.2.2.2.2.2.2.1
    have hlr : ((argsV zs 0 j).take nr).length = nr := by rw [List.length_take, args_len]; omega
    by_cases hjn : j < an
    · have i1 : (j : Int) < (an : Int) := by omega
      have i2 : (j : Int) < (nr : Int) := by omega
      obtain ⟨bb, oo, hab, hbb, hcc⟩ := HX.out.2.2.2.2.2.ex (by omega)
      subst hab
      obtain ⟨x, hx⟩ : ∃ x, zs[j]? = some x := ⟨zs[j]'(by omega), by simp⟩
      have c1 : wr.cell? ⟨bb, oo + j, none⟩ = some (.int .i64 x) := kY.cell (HX.out.2.2.1.cell (hcc j x hx) (fun f => f)) (by show ¬ bb = FB + 1; have := HX.out.1; omega)
      obtain ⟨y, hy⟩ : ∃ y, ((argsV zs 0 j).take nr)[j]? = some y := ⟨_, take_at (by omega) (by rw [args_len]; exact hnr16)⟩
      have c2 := hY.cell hy
      have c3 := hY.free j
      have t2 := hY.put j x
      have k2 : Keeps (· = FB + 1) wr _ := Keeps.setCell (S := (· = FB + 1)) wr (a := ⟨FB + 1, j, none⟩) rfl (.int .i64 x)
      have ex : ((argsV zs 0 j).take nr).set j x = (argsV zs 0 (j + 1)).take nr := by
        have hx2 : zs.getD (0 + j) 0 = x := by simp [hx]
        rw [← args_step zs 0 j (by omega), List.take_set, hx2]
      rw [ex] at t2
      have HF : Hid _ := And.intro t2 (kY.trans k2 (fun _ e _ => e))
      clear hY kY t2 k2 ex hx hcc hbb hzl hlr hy
      go_wp2_with fail
      exact ⟨⟨j + 1, by omega, by go_num, HF.out⟩, by simp [intOf]; omega⟩
    · have i1 : ¬ ((j : Int) < (an : Int)) := by omega
      obtain rfl : j = an := by omega
      have bFr := blk_kept HX.out.2.2.2.2.1 kY (by omega)
      have d2 : wr.cell? ⟨FB, 2, none⟩ = some (.int .i64 (ns : Int)) := (blk_cell bFr 2).trans rfl
      have sWr : FB + 2 ≤ wr.heap.size := by have := kY.size; have := HX.out.2.1; omega
      have hmk2 := make_i64 ns wr (by omega)
      obtain ⟨H, hH⟩ : ∃ H, H = wr.heap.size := ⟨_, rfl⟩
      obtain ⟨W3, hW3⟩ : ∃ W3, W3 = wr.alloc (.cells (ints (List.replicate ns 0)).toArray 2) := ⟨_, rfl⟩
      have k3 := Keeps.alloc None wr (.cells (ints (List.replicate ns 0)).toArray 2)
      have bH3 := heap_alloc_new wr (.cells (ints (List.replicate ns 0)).toArray 2)
      rw [← hW3] at hmk2 k3 bH3
      rw [← hH] at hmk2 bH3
      have kw2 : Keeps None w wr := HX.out.2.2.1.trans kY (fun i e hi => by have := HX.out.1; omega)
      have kw3 := kw2.trans k3 (fun _ f _ => f)
      have hND := HG.out.2.2.2.2.2.2.2.1
      have hST : DAt fs f ca N cc nr ns w0 lo Q (FB + 1) H FB (.slice (some ⟨b, off, none⟩) fn fc) w r m P gm W3 gm k n es t fr [] 0 (.slice none 0 0) := by
        obtain ⟨ev, hw⟩ := HG.out.2.2.2.2.1
        refine ⟨HG.out.1, Nat.le_refl _, ⟨ev, hw.more kw3⟩, ⟨?_, ?_, ?_, ?_, TyD.new kw3, HG.out.2.2.2.2.2.1.trans kw3 (fun _ f _ => f)⟩, ⟨?_, ?_, ?_, ?_, hND.okp, ?_⟩, HC.out.2.2.2.2.2.1, HP0.out.symm, by omega, by have := HG.out.2.2.1; simpa using this, HG.out.2.2.2.1⟩
        · have := hY.kept k3 (fun f => f)
          rw [hND.regs, ← hzl]
          exact this
        · unfold IsL
          rw [bH3, hND.slots, List.take_replicate, Nat.min_eq_left hns8]
        · exact ⟨rfl, .inl ⟨rfl, rfl⟩⟩
        · have := blk_kept bFr k3 (fun f => f)
          rw [this, HC.out.2.2.2.2.2.2.1, HC.out.2.2.2.2.2.2.2.1]
        · rw [hND.regs]; exact args_len _ _ _
        · rw [hND.slots]; simp
        · intro x hx
          rw [hND.regs] at hx
          unfold argsV at hx
          obtain ⟨q, _, rfl⟩ := List.mem_map.1 hx
          split
          · exact getD_ok hND.ok _
          · exact zero_ok
        · intro x hx
          rw [hND.slots] at hx
          rw [List.eq_of_mem_replicate hx]
          exact zero_ok
        · rw [hND.spawned]; omega
      have HST : Hid _ := hST
      have HB : Hid (FB = w.heap.size ∧ w.heap.size ≤ H ∧ FB + 1 ≠ H ∧ w0.heap.size ≤ w.heap.size ∧ lo ≤ w.heap.size ∧ w0.heap.size ≤ lo ∧ t.spawned = 0) := ⟨HX.out.1, by have := HX.out.1; omega, by omega, HG.out.2.2.2.2.2.1.size, HG.out.2.2.2.2.2.2.1, HG.out.2.2.2.2.2.2.2.2.1, hND.spawned⟩
      clear hY kY bFr sWr hW3 k3 bH3 kw2 kw3 hND hST hlr hzl hH hj hjn
      go_wp2_with (at_make; refine wpList_make_run rfl (.tmp 51) (.tmp 51) 25 rfl rfl rfl hmk2 ?_)
      clear hmk2 d2 HX
      go_loopw [4, 16, 17, 18] (fun s4 s16 s17 s18 wr => DRel fs f ca N cc nr ns w0 lo Q (FB + 1) H FB (.slice (some ⟨b, off, none⟩) fn fc) w r m P gm s4 s16 s17 s18 wr) (fun _ _ _ _ wr => nuOf wr Q)
      case atStart => exact ⟨gm, k, n, es, t, fr, [], 0, _, by rw [HF0.out], rfl, by rw [HB.out.2.2.2.2.2.2], rfl, HST.out⟩
      case round =>
        clear HST
        obtain ⟨g1, k1, n1, es1, t1, fr1, en1, at1, nv1, rfl, h16, rfl, rfl, hL⟩ := hrel
        have h16' := h16.symm
        subst h16'
        obtain ⟨gg, rfl⟩ := doc_some hL.res
        have hnb := doc_bound hL.res
        have hr4 := HG.out.2.1
        have hn4 : n1 ≤ 4096 := by omega
        obtain ⟨ev1, hW1⟩ := hL.isw
        have hatF := HC.out.1.more hL.rest.k0
        have hltN := hL.lt
        obtain ⟨cb, co, i, hca, hi, hins⟩ := hatF.seen.at (k := at1) (by rw [← HC.out.2.1]; exact hltN)
        subst hca
        obtain ⟨y0, y1, y2, y3, y4⟩ := hins
        have so := step_ok HC.out.2.2.2.1 hi
        have si := step_in HC.out.2.2.2.1 hi
        have hik := (HC.out.2.2.2.2.1.code i (List.mem_of_getElem? hi)).k
        have hcode : (codeOf fs t1.node.func)[at1]? = some i := by rw [hL.func, HC.out.2.2.1]; exact hi
        have x3 : wr.cell? ⟨FB, 3, none⟩ = some (.slice (some ⟨cb, co, none⟩) N cc) := (blk_cell hL.rest.fb 3).trans rfl
        have i1 : (at1 : Int) < (N : Int) := by omega
        obtain ⟨J, hJ⟩ : ∃ J, J = wr.heap.size := ⟨_, rfl⟩
        obtain ⟨V1, hV1⟩ : ∃ V1, V1 = wr.alloc (.cells #[.int .i64 i.kind, .int .i64 i.a, .int .i64 i.b, .int .i64 i.c, .int .i64 i.k] 37) := ⟨_, rfl⟩
        have kV1 := Keeps.alloc None wr (.cells #[.int .i64 i.kind, .int .i64 i.a, .int .i64 i.b, .int .i64 i.c, .int .i64 i.k] 37)
        have bJ1 := heap_alloc_new wr (.cells #[.int .i64 i.kind, .int .i64 i.a, .int .i64 i.b, .int .i64 i.c, .int .i64 i.k] 37)
        rw [← hV1] at kV1 bJ1
        rw [← hJ] at bJ1
        have hWV := hW1.more kV1
        have xQ : V1.cell? ⟨Q, 1, none⟩ = some (.int .i64 (n1 : Int)) := (blk_cell hWV.blk 1).trans rfl
        have zQ := blk_free hWV.blk 1
        obtain ⟨hW2, kW2⟩ := hWV.noded
        obtain ⟨V2, hV2⟩ : ∃ V2, V2 = V1.setCell ⟨Q, 1, none⟩ (.int .i64 ((n1 : Int) + 1)) := ⟨_, rfl⟩
        rw [← hV2] at hW2 kW2
        have rV2 := (hL.rest.new kV1).dw HB.out.2.2.2.2.2.1 kW2
        have bJ2 := blk_kept bJ1 kW2 (TyD.other bJ1 dw_ins)
        have H1 : Hid (DAt fs f (some ⟨cb, co, none⟩) N cc nr ns w0 lo Q (FB + 1) H FB (.slice (some ⟨b, off, none⟩) fn fc) w r m P gm wr (gg + 1) k1 n1 es1 t1 fr1 en1 at1 nv1 ∧ StepOk fs N at1 i ∧ StepIn fs f i ∧ okI i.k ∧ (codeOf fs t1.node.func)[at1]? = some i) := ⟨hL, by rw [HC.out.2.1]; exact so, si, hik, hcode⟩
        have H2 : Hid ((∃ ev, IsW lo V2 Q (.slice (some ⟨b, off, none⟩) fn fc) (n1 + 1) es1 ev) ∧ DRest f (some ⟨cb, co, none⟩) N cc nr ns w0 lo (FB + 1) H FB w V2 t1 en1 nv1 ∧ V2.heap[J]? = some (.cells #[.int .i64 i.kind, .int .i64 i.a, .int .i64 i.b, .int .i64 i.c, .int .i64 i.k] 37 (0, 0)) ∧ J = wr.heap.size) := ⟨⟨_, hW2⟩, rV2, bJ2, hJ⟩
        obtain ⟨F1, hF1⟩ : ∃ F1, F1 = frI fr1 := ⟨_, rfl⟩
        have HF1 : Hid (F1 = frI fr1) := hF1
        rw [← hF1]
        obtain ⟨sp1, hsp1⟩ : ∃ sp1, sp1 = t1.spawned := ⟨_, rfl⟩
        have HSP : Hid (sp1 = t1.spawned) := hsp1
        rw [← hsp1]
        have hsp2 : 0 ≤ sp1 ∧ sp1 ≤ 4096 := by have := hL.tn.sp; omega
        clear hL hatF so si hik hcode hi hWV hW1 hW2 kW2 rV2 bJ2 bJ1 kV1 hnb hr4 hltN hF1 hsp1
        go_upto_region 12 with fail
        rw [← hV1, ← hJ]
        clear hV1 hJ x3 y0 y1 y2 y3 y4
        go_upto_region 14 with fail
        rw [← hV2]
        clear hV2 xQ zQ
        have cJ0 : V2.cell? ⟨J, 0, none⟩ = some (.int .i64 i.kind) := (blk_cell H2.out.2.2.1 0).trans rfl
        go_cut [71] (fun s71 wx => s71 = .bool (decide (i.kind = 6)) ∧ wx = V2)
        case first =>
          by_cases h6 : i.kind = 6
          · have h61 : (i.kind == 6) = true := by simpa using h6
            have H62 : Hid (decide (i.kind = 6) = true) := by unfold Hid; simpa using h6
            clear h6
            go_wp2_with fail
            go_meet
            exact ⟨by rw [H62.out], rfl⟩
          · have h61 : (i.kind == 6) = false := by simpa using h6
            have H62 : Hid (decide (i.kind = 6) = false) := by unfold Hid; simpa using h6
            clear h6
            go_wp2_with fail
            go_meet
            exact ⟨by rw [H62.out], rfl⟩
        case rest =>
        obtain ⟨rfl, hwV⟩ := hcut
        have hwV2 := hwV.symm
        subst hwV2
        go_step
        go_cut [16] (fun s16 wx => ∃ nv2, s16 = nv2 ∧ DMid fs f (some ⟨cb, co, none⟩) N cc nr ns w0 lo Q (FB + 1) H FB J (.slice (some ⟨b, off, none⟩) fn fc) w r m P gm wx gg k1 n1 es1 t1 fr1 en1 at1 nv2 i)
        case first =>
          by_cases k6 : i.kind = 6
          · obtain ⟨na, nc, hnv⟩ := own_shape2 H2.out.2.1.ends
            subst hnv
            have hlw : lo ≤ V2.heap.size := by have := H2.out.2.1.kept.size; have := HB.out.2.2.2.2.1; omega
            have hjn := joins_any lo Q (.slice (some ⟨b, off, none⟩) fn fc) (n1 + 1) es1 fr1 en1 n1 na en1.length nc V2 H2.out.1 (H2.out.2.1.low HB.out.2.2.2.2.1) hlw (by have := H1.out.1.len; omega) (by have := H1.out.1.len; omega) (by omega) (fun q hq => by have := H1.out.1.frn q hq; omega)
            rw [← HF1.out] at hjn
            have HJN : Hid _ := hjn
            have hdk : decide (i.kind = 6) = true := by simpa using k6
            rw [hdk]
            clear hdk
            have HK6 : Hid _ := k6
            clear hjn hlw k6
            obtain ⟨L1, hL1⟩ : ∃ L1, L1 = en1.length := ⟨_, rfl⟩
            rw [← hL1] at HJN
            have HL1 : Hid _ := hL1
            rw [← hL1]
            clear hL1
            go_wp2_with (go_at_call 21; refine Calls.mono HJN.out ?_; rintro _ wy ⟨rfl, hwy, kwy⟩)
            go_meet
            refine ⟨_, rfl, ⟨by rw [if_pos HK6.out]; exact hwy, ?_, blk_kept H2.out.2.2.1 kwy (TyD.other H2.out.2.2.1 dw_ins)⟩⟩
            rw [if_pos HK6.out]
            have q := H2.out.2.1.dw HB.out.2.2.2.2.2.1 kwy
            exact ⟨q.regs, q.slots, ⟨rfl, .inl ⟨rfl, rfl⟩⟩, q.fb, q.kept, q.k0⟩
          · have hdk : decide (i.kind = 6) = false := by simpa using k6
            rw [hdk]
            clear hdk
            have HK6 : Hid _ := k6
            obtain ⟨ev, hWx⟩ := H2.out.1
            cases hfr : fr1 with
            | none =>
              have hFf : F1 = -1 := by rw [HF1.out, hfr]; rfl
              subst hFf
              have HM : Hid (DMid fs f (some ⟨cb, co, none⟩) N cc nr ns w0 lo Q (FB + 1) H FB J (.slice (some ⟨b, off, none⟩) fn fc) w r m P gm V2 gg k1 n1 es1 t1 fr1 en1 at1 nv1 i) := ⟨⟨ev, by rw [if_neg k6, hfr]; simpa using hWx⟩, by rw [if_neg k6]; exact H2.out.2.1, H2.out.2.2.1⟩
              clear hWx k6 hfr
              go_wp2_with fail
              go_meet
              exact ⟨_, rfl, HM.out⟩
            | some q =>
              have hFf : F1 = (q : Int) := by rw [HF1.out, hfr]; rfl
              subst hFf
              have hq0 : (0 : Int) ≤ (q : Int) := by omega
              have hlw : lo ≤ V2.heap.size := by have := H2.out.2.1.kept.size; have := HB.out.2.2.2.2.1; omega
              obtain ⟨ea5, ec5, eev5⟩ := own_shape2 hWx.row
              subst eev5
              obtain ⟨g5, c5, V5, r5, s51, s52, hW6, hk6⟩ := hWx.edge hlw (by have := H1.out.1.len; omega) q n1
              have q51 : V2.cell? ⟨Q, 2, none⟩ = some (.slice ea5 es1.length ec5) := (blk_cell hWx.blk 2).trans rfl
              have HM : Hid (DMid fs f (some ⟨cb, co, none⟩) N cc nr ns w0 lo Q (FB + 1) H FB J (.slice (some ⟨b, off, none⟩) fn fc) w r m P gm (V5.setCell ⟨Q, 2, none⟩ (.slice (some ⟨g5, 0, none⟩) (es1.length + 1) c5)) gg k1 n1 es1 t1 fr1 en1 at1 nv1 i) :=
                ⟨⟨_, by rw [if_neg k6, hfr]; exact hW6⟩, by rw [if_neg k6]; exact H2.out.2.1.dw HB.out.2.2.2.2.2.1 hk6, blk_kept H2.out.2.2.1 hk6 (TyD.other H2.out.2.2.1 dw_ins)⟩
              obtain ⟨n6, hn6⟩ : ∃ n6, n6 = es1.length := ⟨_, rfl⟩
              rw [← hn6] at r5 s51 q51 HM
              clear hWx k6 hfr hlw hW6 hk6 hn6
              go_wp2_with (at_builtin; refine wpList_append_run rfl (.tmp 83) (.tmp 87) 27 27 rfl rfl rfl r5 ?_)
              go_meet
              exact ⟨_, rfl, HM.out⟩
        case rest =>
          obtain ⟨nv2, h16, hM⟩ := hcut
          have h16' := h16.symm
          subst h16'
          have HM : Hid _ := hM
          have bJ := hM.jb
          have cJ0 : wc.cell? ⟨J, 0, none⟩ = some (.int .i64 i.kind) := (blk_cell bJ 0).trans rfl
          have cJ1 : wc.cell? ⟨J, 1, none⟩ = some (.int .i64 i.a) := (blk_cell bJ 1).trans rfl
          have cJ2 : wc.cell? ⟨J, 2, none⟩ = some (.int .i64 i.b) := (blk_cell bJ 2).trans rfl
          have cJ3 : wc.cell? ⟨J, 3, none⟩ = some (.int .i64 i.c) := (blk_cell bJ 3).trans rfl
          have cJ4 : wc.cell? ⟨J, 4, none⟩ = some (.int .i64 i.k) := (blk_cell bJ 4).trans rfl
          have so := H1.out.2.1
          have si := H1.out.2.2.1
          have hml := mid_len H1.out.1 i
          have HML : Hid _ := hml
          have hr4 : r.2.2.2.1 ≤ 4096 := HG.out.2.1
          have HR4 : Hid _ := hr4
          have e1 : ((at1 + 1 : Nat) : Int) = (at1 : Int) + 1 := by omega
          have HE1 : Hid _ := e1
          clear H2 hM bJ hml hr4 e1
          have hcases : i.kind = 3 ∨ i.kind = 4 ∨ i.kind = 5 ∨ i.kind = 7 ∨ i.kind = 8 ∨ i.kind = 9 ∨ (i.kind = 0 ∨ i.kind = 1 ∨ i.kind = 2 ∨ i.kind = 6) := by have := so.kind; omega
          rcases hcases with hk | hk | hk | hk | hk | hk | hk
          · -- IJump
            as_aux_lemma =>
              obtain ⟨a, ha⟩ := Int.eq_ofNat_of_zero_le (so.jump hk).1
              have q := H1.out.1.next (nv1 := nv2) (wy := wc) HR4.out (doc_jump H1.out.1.res H1.out.2.2.2.2 hk) (Nat.lt_succ_self _) (by have := HM.out.isw; rw [if_neg (by omega)] at this; exact this) ((by have := HM.out.rest; rw [if_neg (by omega)] at this; exact this : DRest _ _ _ _ _ _ _ _ _ _ _ _ wc t1 en1 nv2).cong rfl rfl) H1.out.1.tn.pay rfl rfl (by have := (so.jump hk).2; omega) (by have := HML.out; rw [if_neg (by omega), if_neg (by omega)] at this; omega)
              rw [show i.a.toNat = a by rw [ha]; rfl, show (payT t1).spawned = t1.spawned from rfl, ← HSP.out] at q
              have HQ : Hid _ := q
              rw [hk] at cJ0
              rw [ha] at cJ1
              clear q so si hk ha
              go_wp2_with fail
              exact HQ.out
          · -- IBranch
            as_aux_lemma =>
              obtain ⟨a, ha⟩ := Int.eq_ofNat_of_zero_le (si.reg (by omega) (by omega) (by omega)).1
              have han : a < nr := by have := (si.reg (by omega) (by omega) (by omega)).2; have := HC.out.2.2.2.2.2.2.1; omega
              obtain ⟨bb, hbb⟩ := Int.eq_ofNat_of_zero_le (so.branch hk).1
              have hrs : DRest f (some ⟨cb, co, none⟩) N cc nr ns w0 lo (FB + 1) H FB w wc t1 en1 nv2 := by have := HM.out.rest; rw [if_neg (by omega)] at this; exact this
              have hrl := H1.out.1.tn.regs
              have cR := hrs.regs.cell (take_at (a := a) han (by omega))
              have i3 : (a : Int) < (nr : Int) := by omega
              have hd := doc_branch H1.out.1.res H1.out.2.2.2.2 hk
              rw [show i.a.toNat = a by rw [ha]; rfl, show i.b.toNat = bb by rw [hbb]; rfl] at hd
              have hat : (if t1.regs.getD a 0 = 0 then at1 + 1 else bb) < N := by have := (so.branch hk).2; have := so.next (by omega) (by omega); split <;> omega
              have q := H1.out.1.next (nv1 := nv2) (wy := wc) HR4.out hd (Nat.lt_succ_self _) (by have := HM.out.isw; rw [if_neg (by omega)] at this; exact this) (hrs.cong rfl rfl) H1.out.1.tn.pay rfl rfl hat (by have := HML.out; rw [if_neg (by omega), if_neg (by omega)] at this; omega)
              rw [show (payT t1).spawned = t1.spawned from rfl, ← HSP.out] at q
              obtain ⟨x, hx⟩ : ∃ x, x = t1.regs.getD a 0 := ⟨_, rfl⟩
              rw [← hx] at q cR
              rw [hk] at cJ0
              rw [ha] at cJ1
              rw [hbb] at cJ2
              by_cases hx0 : x = 0
              · rw [if_pos hx0, HE1.out] at q
                have HQ : Hid _ := q
                have hx1 : (x != 0) = false := by simp [hx0]
                clear q so si hk ha hbb hrs hrl hd hat hx hx0
                go_wp2_with fail
                exact HQ.out
              · rw [if_neg hx0] at q
                have HQ : Hid _ := q
                have hx1 : (x != 0) = true := by simp [hx0]
                clear q so si hk ha hbb hrs hrl hd hat hx hx0
                go_wp2_with fail
                exact HQ.out
          · -- ISpawn
            as_aux_lemma =>
              obtain ⟨a, ha⟩ := Int.eq_ofNat_of_zero_le (si.slot hk).1
              have han : a < ns := by have := (si.slot hk).2; have := HC.out.2.2.2.2.2.2.2.1; omega
              obtain ⟨m2, hm2⟩ := Int.eq_ofNat_of_zero_le (so.fn hk).1
              have hm2l : m2 < fs.length := by have := (so.fn hk).2; omega
              obtain ⟨f2, hf2⟩ : ∃ f2, fs[m2]? = some f2 := ⟨fs[m2], by simp⟩
              have hrs : DRest f (some ⟨cb, co, none⟩) N cc nr ns w0 lo (FB + 1) H FB w wc t1 en1 nv2 := by have := HM.out.rest; rw [if_neg (by omega)] at this; exact this
              obtain ⟨evm, hWm⟩ : ∃ ev, IsW lo wc Q (.slice (some ⟨b, off, none⟩) fn fc) (n1 + 1) (es1 ++ fr1.toList.map (fun f => (f, n1))) ev := by have := HM.out.isw; rw [if_neg (by omega)] at this; exact this
              obtain ⟨b2, off2, hfa2, hb2, hat2⟩ := (HC.out.2.2.2.2.2.2.2.2.2.1.more hrs.k0).ex (by omega)
              obtain ⟨rfl, rfl⟩ : b = b2 ∧ off = off2 := by injection hfa2 with e; injection e with e1 e2; exact ⟨e1, e2⟩
              obtain ⟨ca2, cc2, hat2⟩ := hat2 m2 f2 hf2
              have hV2 := HG.out.2.2.2.2.2.2.2.2.2.1.all f2 (List.mem_of_getElem? hf2)
              obtain ⟨np, hnp⟩ := Int.eq_ofNat_of_zero_le (valid_bounds hV2).1.1
              have hnp8 : np ≤ 8 := by have := (valid_bounds hV2).1.2; omega
              have hpar : parV fs i.b = f2.params := by simp [parV, hm2, hf2]
              have hpn : parV fs i.b = (np : Int) := hpar.trans hnp
              have pc : wc.cell? ⟨b, off + m2 * 4, none⟩ = some (.int .i64 (np : Int)) := by rw [← hnp]; exact hat2.params
              have hargs : np = 0 ∨ (0 ≤ i.c ∧ i.c + np ≤ nr) := by have h1 := si.args hk; have h2 := HC.out.2.2.2.2.2.2.1; rw [hpn] at h1; omega
              obtain ⟨ch, hch, hd⟩ := doc_spawn H1.out.1.res H1.out.2.2.2.2 hk
              have hn2 := doc_bound hch
              have hn3 := doc_bound hd
              have cQ0 : wc.cell? ⟨Q, 0, none⟩ = some (.slice (some ⟨b, off, none⟩) fn fc) := (blk_cell hWm.blk 0).trans rfl
              have i5 : (m2 : Int) < (fn : Int) := by have := HC.out.2.2.2.2.2.2.2.2.2.1.len; omega
              have hrl := H1.out.1.tn.regs
              have HD : Hid (docV fs gg (k1 + 1) (n1 + 1) (es1 ++ fr1.toList.map (fun f => (f, n1))) (enterT ⟨0, k1, 0, []⟩ (childV fs (payT t1) i)) (some n1) [] 0 = some ch ∧ docV fs gg ch.2.2.1 ch.2.2.2.1 ch.2.2.2.2 (gotT (spawnT (payT t1)) i.a.toNat ch.2.1 0) (some n1) (en1 ++ [ch.1]) (at1 + 1) = some r ∧ n1 + 1 < ch.2.2.2.1 ∧ ch.2.2.2.1 < r.2.2.2.1 ∧ DRest f (some ⟨cb, co, none⟩) N cc nr ns w0 lo (FB + 1) H FB w wc t1 en1 nv2 ∧ (∃ ev, IsW lo wc Q (.slice (some ⟨b, off, none⟩) fn fc) (n1 + 1) (es1 ++ fr1.toList.map (fun f => (f, n1))) ev) ∧ i.a = a ∧ i.b = m2 ∧ parV fs i.b = (np : Int) ∧ i.kind = 5 ∧ wc.heap[J]? = some (.cells #[.int .i64 i.kind, .int .i64 i.a, .int .i64 i.b, .int .i64 i.c, .int .i64 i.k] 37 (0, 0))) := ⟨hch, hd, hn2, hn3, hrs, ⟨evm, hWm⟩, ha, hm2, hpn, hk, HM.out.jb⟩
              rw [hk] at cJ0
              rw [hm2] at cJ2
              rw [ha] at cJ1
              have hnx := so.next (by omega) (by omega)
              clear so si hk ha hm2 hrs hWm hfa2 hat2 hV2 hnp hpar hpn hch hd hn2 hn3 hf2 hb2 HM
              go_upto_region 31 with fail
              go_quiet (fail)
              go_upto_region 32 with fail
              have hq1 := Keeps.drewN None wc nq
              generalize wc.drewN nq = Wq at *
              have hmk3 := make_i64 np Wq (by omega)
              obtain ⟨GV, hGV⟩ : ∃ GV, GV = Wq.heap.size := ⟨_, rfl⟩
              obtain ⟨V3, hV3⟩ : ∃ V3, V3 = Wq.alloc (.cells (ints (List.replicate np 0)).toArray 2) := ⟨_, rfl⟩
              have k3 := Keeps.alloc None Wq (.cells (ints (List.replicate np 0)).toArray 2)
              have bG3 := heap_alloc_new Wq (.cells (ints (List.replicate np 0)).toArray 2)
              rw [← hV3] at hmk3 k3 bG3
              rw [← hGV] at hmk3 bG3
              have kq3 := hq1.trans k3 (fun _ f _ => f)
              have hJG : J < GV ∧ FB + 1 < GV := by have := blk_lt HD.out.2.2.2.2.2.2.2.2.2.2; have := blk_lt HD.out.2.2.2.2.1.regs; have := hq1.size; omega
              have iG3 : IsL V3 GV ((argsV t1.regs i.c.toNat 0).take np) := by
                unfold IsL
                rw [bG3, args_zero, List.take_replicate, Nat.min_eq_left (by omega)]
              have HG3 : Hid (IsL V3 GV ((argsV t1.regs i.c.toNat 0).take np) ∧ Keeps None wc V3 ∧ GV ≥ wc.heap.size) := ⟨iG3, kq3, by rw [hGV]; exact hq1.size⟩
              clear hV3 k3 bG3 hGV hq1 kq3 iG3 pc cQ0 cJ0 cJ1 cJ2 cJ3 cJ4
              go_upto_region 33 with (at_make; refine wpList_make_run rfl (.tmp 133) (.tmp 133) 25 rfl rfl rfl hmk3 ?_)
              clear hmk3
              obtain ⟨wo, hwo⟩ : ∃ wo, wo = wr := ⟨_, rfl⟩
              subst hwo
              go_wp2_with fail
              go_loopw [23] (fun s23 wr2 => ∃ j : Nat, j ≤ np ∧ s23 = .int .i64 j ∧ IsL wr2 GV ((argsV t1.regs i.c.toNat j).take np) ∧ Keeps (· = GV) V3 wr2) (fun i _ => np - (intOf i).toNat)
              case atStart => exact ⟨0, Nat.zero_le _, rfl, HG3.out.1, Keeps.refl _ _⟩
              case round =>
                obtain ⟨j, hj, rfl, hY, kY⟩ := hrel
                have kV : ∀ X, X < GV → ∀ (cs : Array Value) (T : TypeId), V3.heap[X]? = some (.cells cs T (0, 0)) → wr.heap[X]? = some (.cells cs T (0, 0)) := fun X hX cs T h => blk_kept h kY (by omega)
                have bJr := kV J hJG.1 _ _ (blk_kept HD.out.2.2.2.2.2.2.2.2.2.2 HG3.out.2.1 (fun f => f))
                by_cases hjn : j < np
                · have hcn := hargs.resolve_left (by omega)
                  obtain ⟨c, hc⟩ := Int.eq_ofNat_of_zero_le hcn.1
                  have hct : i.c.toNat = c := by rw [hc]; rfl
                  rw [hct] at hY
                  have iRr : IsL wr (FB + 1) (t1.regs.take nr) := kV (FB + 1) hJG.2 _ _ (HD.out.2.2.2.2.1.regs.kept HG3.out.2.1 (fun f => f))
                  have hcj : c + j < nr := by omega
                  have c1 := iRr.cell (take_at (a := c + j) hcj (by omega))
                  have c2 := hY.cell (take_at (a := j) hjn (by rw [args_len]; omega))
                  have c3 := hY.free j
                  have c4 : wr.cell? ⟨J, 3, none⟩ = some (.int .i64 (c : Int)) := by rw [← hc]; exact (blk_cell bJr 3).trans rfl
                  have i6 : (j : Int) < (np : Int) := by omega
                  have i7 : (c : Int) + (j : Int) < (nr : Int) := by omega
                  have t2 := hY.put j (t1.regs.getD (c + j) 0)
                  have k2 : Keeps (· = GV) wr _ := Keeps.setCell (S := (· = GV)) wr (a := ⟨GV, j, none⟩) rfl (.int .i64 (t1.regs.getD (c + j) 0))
                  rw [← List.take_set, args_step _ _ _ (by omega)] at t2
                  obtain ⟨x, hx⟩ : ∃ x, x = t1.regs.getD (c + j) 0 := ⟨_, rfl⟩
                  rw [← hx] at c1 t2 k2
                  have HF : Hid (IsL (wr.setCell ⟨GV, j, none⟩ (.int .i64 x)) GV ((argsV t1.regs i.c.toNat (j + 1)).take np) ∧ Keeps (· = GV) V3 (wr.setCell ⟨GV, j, none⟩ (.int .i64 x))) := ⟨by rw [hct]; exact t2, kY.trans k2 (fun _ e _ => e)⟩
                  obtain ⟨y, hy⟩ : ∃ y, y = (argsV t1.regs c j).getD j 0 := ⟨_, rfl⟩
                  rw [← hy] at c2
                  clear hY kY t2 k2 hx hy iRr bJr kV hc hct hcn hcj
                  go_wp2_with fail
                  exact ⟨⟨j + 1, by omega, by go_num, HF.out⟩, by simp [intOf]; omega⟩
                · have i6 : ¬ ((j : Int) < (np : Int)) := by omega
                  obtain rfl : j = np := by omega
                  have kN : Keeps None wc wr := HG3.out.2.1.trans kY (fun i e hi => by have := HG3.out.2.2; omega)
                  have hrs := HD.out.2.2.2.2.1.new kN
                  obtain ⟨evm, hWm⟩ := HD.out.2.2.2.2.2.1
                  have hWr := hWm.more kN
                  rw [args_take _ _ _ (by omega)] at hY
                  have hok : ∀ x ∈ argL t1.regs i.c.toNat j, okI x := fun x hx => by
                    unfold argL at hx
                    obtain ⟨q, _, rfl⟩ := List.mem_map.1 hx
                    exact getD_ok H1.out.1.tn.okr _
                  have hseen := hY.seen (by rw [argL_len]; omega) hok
                  rw [argL_len] at hseen
                  have cJ2 : wr.cell? ⟨J, 2, none⟩ = some (.int .i64 (m2 : Int)) := by rw [← HD.out.2.2.2.2.2.2.2.1]; exact (blk_cell bJr 2).trans rfl
                  have hped := fun wx => rped_any P sp1 wx
                  have HPD : wrap64 (wrap64 (wrap64 (P * 1000003) + sp1) + 1) = pedV P sp1 := rfl
                  rw [HPD] at hped
                  obtain ⟨PV, hPV⟩ : ∃ PV, PV = pedV P sp1 := ⟨_, rfl⟩
                  rw [← hPV] at hped
                  have HPED : Hid (∀ wx, Calls Tryz.prog 22 #[.int .i64 P, .int .i64 sp1] wx fun e w' => e = .returned (.int .i64 PV) ∧ w' = wx) := hped
                  have HCH : Hid (∀ wx, Keeps None wr wx → Calls Tryz.prog 12 #[.pointer (some ⟨Q, 0, none⟩), .int .i64 (m2 : Int), .slice (some ⟨GV, 0, none⟩) j j, .int .i64 PV, .int .i64 (n1 : Int)] wx (DPost lo Q (.slice (some ⟨b, off, none⟩) fn fc) wx ch)) := fun wx hx => by
                    have hgg : gg < gm := by have := H1.out.1.gle; omega
                    have hcall := HG.out.2.2.2.2.2.2.2.2.2.2 gg hgg (k1 + 1) (n1 + 1) _ _ (some n1) (some ⟨GV, 0, none⟩) j j (argL t1.regs i.c.toNat j) wx ch HD.out.1 (by have := HD.out.2.2.2.1; have := HR4.out; omega) (by have := HML.out; rw [if_neg (by have := HD.out.2.2.2.2.2.2.2.2.2.1; omega)] at this; omega) (fun q hq => by obtain rfl := Option.some.inj hq; omega) ⟨_, hWr.more hx⟩ (hrs.k0.trans hx (fun _ f _ => f)) (by have := hrs.kept.size; have := hx.size; have := HB.out.2.2.2.2.1; omega)
                      ⟨by rw [argL_args]; show argsV t1.regs i.c.toNat (parV fs i.b).toNat = _; rw [HD.out.2.2.2.2.2.2.2.2.1]; rfl, rfl, rfl, by show okI (pedV t1.node.ped t1.spawned); unfold pedV; exact wrap_ok _, hok⟩ (hseen.more hx) (by show 0 ≤ i.b ∧ i.b < (fs.length : Int); rw [HD.out.2.2.2.2.2.2.2.1]; omega) (by show parV fs i.b = _; rw [HD.out.2.2.2.2.2.2.2.2.1, argL_len])
                    have e1 : (enterT ⟨0, k1, 0, []⟩ (childV fs (payT t1) i)).node.func = (m2 : Int) := HD.out.2.2.2.2.2.2.2.1
                    have e2 : (enterT ⟨0, k1, 0, []⟩ (childV fs (payT t1) i)).node.ped = PV := by rw [hPV, HSP.out, ← H1.out.1.ped]; rfl
                    rw [e1, e2] at hcall
                    exact hcall
                  have HS : Hid (DRest f (some ⟨cb, co, none⟩) N cc nr ns w0 lo (FB + 1) H FB w wr t1 en1 nv2 ∧ wr.heap[J]? = some (.cells #[.int .i64 i.kind, .int .i64 i.a, .int .i64 i.b, .int .i64 i.c, .int .i64 i.k] 37 (0, 0))) := ⟨hrs, bJr⟩
                  clear hY kY kV kN hrs hWm hWr hok hseen hped HPD hPV bJr hjn hargs hJG HG3
                  go_upto_region 37 with fail
                  go_cut [24, 25] (fun s24 s25 wx => s24 = .int .i64 (ch.1 : Int) ∧ s25 = .int .i64 ch.2.1 ∧ DRest f (some ⟨cb, co, none⟩) N cc nr ns w0 lo (FB + 1) H FB w wx t1 en1 nv2 ∧ wx.heap[J]? = some (.cells #[.int .i64 i.kind, .int .i64 i.a, .int .i64 i.b, .int .i64 i.c, .int .i64 i.k] 37 (0, 0)) ∧ (∃ ev, IsW lo wx Q (.slice (some ⟨b, off, none⟩) fn fc) ch.2.2.2.1 ch.2.2.2.2 ev) ∧ okI ch.2.1)
                  case first =>
                    have d3 := cJ2
                    go_region_held3 (fun w' => w'.cell? ⟨J, 2, none⟩ = some (.int .i64 (m2 : Int))) (first | exact d3 | go_keep) (first | (go_at_call 22; refine Calls.mono (HPED.out _) ?_; rintro _ w4 ⟨rfl, hw4⟩; have hw5 := hw4.symm; subst hw5) | (go_at_call 12; refine Calls.mono (HCH.out _ (Keeps.drew None wr)) ?_; rintro _ w5 ⟨rfl, hi5, hk5, ho5⟩; have d3 : w5.cell? ⟨J, 2, none⟩ = some (.int .i64 (m2 : Int)) := hk5.cell ((Keeps.drew None wr).cell cJ2 (fun f => f)) (TyD.other (blk_kept HS.out.2 (Keeps.drew None wr) (fun f => f)) dw_ins)))
                    all_goals (go_wp2_with fail; go_meet)
                    all_goals exact ⟨rfl, rfl, (HS.out.1.new (Keeps.drew None wr)).dw HB.out.2.2.2.2.2.1 hk5, blk_kept (blk_kept HS.out.2 (Keeps.drew None wr) (fun f => f)) hk5 (TyD.other (blk_kept HS.out.2 (Keeps.drew None wr) (fun f => f)) dw_ins), hi5, ho5⟩
                  case rest =>
                    obtain ⟨rfl, rfl, hrs, bJ, ⟨ev, hW⟩, hov⟩ := hcut
                    have hsl := H1.out.1.tn.slots
                    have cJ1 : wc.cell? ⟨J, 1, none⟩ = some (.int .i64 (a : Int)) := by rw [← HD.out.2.2.2.2.2.2.1]; exact (blk_cell bJ 1).trans rfl
                    have cS := hrs.slots.cell (take_at (a := a) han (by omega))
                    have zS := hrs.slots.free a
                    have i8 : (a : Int) < (ns : Int) := by omega
                    have kH : Keeps (· = H) wc (wc.setCell ⟨H, a, none⟩ (.int .i64 ch.2.1)) := Keeps.setCell (S := (· = H)) wc (a := ⟨H, a, none⟩) rfl (.int .i64 ch.2.1)
                    have iH := hrs.slots.put a ch.2.1
                    rw [← List.take_set] at iH
                    have hW4 := hW.past kH hrs.slots dw_i64
                    have hrs4 := hrs.slot (t' := gotT (spawnT (payT t1)) i.a.toNat ch.2.1 0) HB.out.2.2.1 HB.out.2.1 HB.out.2.2.2.1 (by show IsL _ H ((t1.slots.set i.a.toNat ch.2.1).take ns); rw [show i.a.toNat = a by rw [HD.out.2.2.2.2.2.2.1]; rfl]; exact iH) rfl kH
                    obtain ⟨V4, hV4⟩ : ∃ V4, V4 = wc.setCell ⟨H, a, none⟩ (.int .i64 ch.2.1) := ⟨_, rfl⟩
                    rw [← hV4] at hW4 hrs4
                    have hal := Keeps.alloc None V4 (.cells #[.int .i64 (ch.1 : Int)] 3)
                    have hrs5 := hrs4.new hal
                    have hW5 := hW4.more hal
                    have hel : en1.length ≤ 10000 := by have := H1.out.1.len; omega
                    have hws : w.heap.size ≤ (V4.alloc (.cells #[.int .i64 (ch.1 : Int)] 3)).heap.size := hrs5.kept.size
                    obtain ⟨ge, ce, V5, hr, hoe, hke, hme⟩ := row_app (V4.alloc (.cells #[.int .i64 (ch.1 : Int)] 3)) w.heap.size 70 70 3 1 8 _ Tryz.underlying70 Tryz.twInt rfl (by decide) nv2 _ _ hrs5.ends V4.heap.size _ (heap_alloc_new V4 _) rfl (fun u hu => by simp at hu; subst hu; rfl) hws (by omega) (by unfold maxLen; omega)
                    have hoe' : V5.ownsRow w.heap.size 3 1 (.slice (some ⟨ge, 0, none⟩) (en1.length + 1) ce) (en1 ++ [ch.1]).length (natV (en1 ++ [ch.1])) := by
                      rw [show natV (en1 ++ [ch.1]) = natV en1 ++ [.int .i64 (ch.1 : Int)] by simp [natV], List.length_append, List.length_singleton]
                      exact hoe
                    have hW6 := hW5.endrow hrs5.ends hke
                    have hrs6 := hrs5.end_ HB.out.2.2.2.1 hoe' hke
                    have hup := doc_up gg _ _ _ _ _ _ _ ch.1 ch.2.1 ch.2.2.1 ch.2.2.2.1 ch.2.2.2.2 HD.out.1
                    have hq := H1.out.1.next (nv1 := .slice (some ⟨ge, 0, none⟩) (en1.length + 1) ce) (wy := V5) HR4.out HD.out.2.1 (by have := HD.out.2.2.1; omega) ⟨ev, hW6⟩ hrs6
                      ⟨H1.out.1.tn.regs, by show (t1.slots.set _ _).length = 8; simpa using hsl, H1.out.1.tn.okr, set_ok H1.out.1.tn.oks _ hov, H1.out.1.tn.okp, by have := H1.out.1.tn.sp; have := HD.out.2.2.1; show 0 ≤ t1.spawned + 1 ∧ t1.spawned + 1 ≤ _; omega⟩ rfl rfl hnx (by have := HML.out; rw [if_neg (by have := HD.out.2.2.2.2.2.2.2.2.2.1; omega), if_neg (by have := HD.out.2.2.2.2.2.2.2.2.2.1; omega)] at this; rw [List.length_append, List.length_singleton]; rw [List.length_nil] at hup; omega)
                    rw [show (gotT (spawnT (payT t1)) i.a.toNat ch.2.1 0).spawned = t1.spawned + 1 from rfl, ← HSP.out, HE1.out] at hq
                    have HQ : Hid _ := hq
                    obtain ⟨L1, hL1⟩ : ∃ L1, L1 = en1.length := ⟨_, rfl⟩
                    rw [← hL1] at hr HQ
                    obtain ⟨x, hx⟩ : ∃ x, x = t1.slots.getD a 0 := ⟨_, rfl⟩
                    rw [← hx] at cS
                    clear hrs bJ hW hov hsl kH iH hW4 hrs4 hal hrs5 hW5 hel hws hoe hke hme hoe' hW6 hrs6 hup hq hL1 hx
                    go_upto_region 40 with fail
                    rw [← hV4]
                    clear hV4
                    go_wp2_with (at_builtin; refine wpList_append_run rfl (.tmp 169) (.tmp 171) 70 70 rfl rfl rfl hr ?_)
                    exact HQ.out
          · -- ILoad
            as_aux_lemma =>
              obtain ⟨a, ha⟩ := Int.eq_ofNat_of_zero_le (si.reg (by omega) (by omega) (by omega)).1
              have han : a < nr := by have := (si.reg (by omega) (by omega) (by omega)).2; have := HC.out.2.2.2.2.2.2.1; omega
              obtain ⟨bb, hbb⟩ := Int.eq_ofNat_of_zero_le (si.load hk).1
              have hbn : bb < ns := by have := (si.load hk).2; have := HC.out.2.2.2.2.2.2.2.1; omega
              have hrs : DRest f (some ⟨cb, co, none⟩) N cc nr ns w0 lo (FB + 1) H FB w wc t1 en1 nv2 := by have := HM.out.rest; rw [if_neg (by omega)] at this; exact this
              have hrl := H1.out.1.tn.regs
              have hsl := H1.out.1.tn.slots
              have cR := hrs.regs.cell (take_at (a := a) han (by omega))
              have zR := hrs.regs.free a
              have cS := hrs.slots.cell (take_at (a := bb) hbn (by omega))
              have i3 : (a : Int) < (nr : Int) := by omega
              have i4 : (bb : Int) < (ns : Int) := by omega
              obtain ⟨y, hy⟩ : ∃ y, y = t1.slots.getD bb 0 := ⟨_, rfl⟩
              obtain ⟨x, hx⟩ : ∃ x, x = t1.regs.getD a 0 := ⟨_, rfl⟩
              rw [← hx] at cR
              rw [← hy] at cS
              have hd := doc_comp H1.out.1.res H1.out.2.2.2.2 (by omega) (by omega) (by omega) (by omega)
              have hcT : computeT (payT t1) i = setR (payT t1) a y := by unfold computeT; rw [if_neg (by omega), if_neg (by omega), if_neg (by omega), if_pos hk, hy, ha, hbb]; rfl
              rw [hcT, if_neg (by omega), if_neg (by omega)] at hd
              have kG : Keeps (· = FB + 1) wc (wc.setCell ⟨FB + 1, a, none⟩ (.int .i64 y)).drew := (Keeps.setCell (S := (· = FB + 1)) wc (a := ⟨FB + 1, a, none⟩) rfl (.int .i64 y)).andDrew
              have iG : IsL (wc.setCell ⟨FB + 1, a, none⟩ (.int .i64 y)).drew (FB + 1) ((setR (payT t1) a y).regs.take nr) := by
                have := (hrs.regs.put a y).kept (Keeps.drew None _) (fun f => f)
                rw [← List.take_set] at this
                exact this
              obtain ⟨evm, hWm⟩ : ∃ ev, IsW lo wc Q (.slice (some ⟨b, off, none⟩) fn fc) (n1 + 1) (es1 ++ fr1.toList.map (fun f => (f, n1))) ev := by have := HM.out.isw; rw [if_neg (by omega)] at this; exact this
              have q := H1.out.1.next (nv1 := nv2) HR4.out hd (Nat.lt_succ_self _) ⟨evm, hWm.past kG hrs.regs dw_i64⟩ (hrs.reg HB.out.2.2.1 (by have := HB.out.1; omega) HB.out.2.2.2.1 iG rfl kG) (H1.out.1.tn.pay.set a (by rw [hy]; exact getD_ok H1.out.1.tn.oks _)) rfl rfl (so.next (by omega) (by omega)) (by have := HML.out; rw [if_neg (by omega), if_neg (by omega)] at this; omega)
              rw [show (setR (payT t1) a y).spawned = t1.spawned from rfl, ← HSP.out, HE1.out] at q
              have HQ : Hid _ := q
              rw [hk] at cJ0
              rw [ha] at cJ1
              rw [hbb] at cJ2
              clear q so si hk ha hbb hrs hrl hsl hd hx hy hcT kG iG hWm
              go_wp2_with fail
              go_region
              all_goals go_wp2_with fail
              all_goals exact HQ.out
          · -- IPed
            as_aux_lemma =>
              obtain ⟨a, ha⟩ := Int.eq_ofNat_of_zero_le (si.reg (by omega) (by omega) (by omega)).1
              have han : a < nr := by have := (si.reg (by omega) (by omega) (by omega)).2; have := HC.out.2.2.2.2.2.2.1; omega
              have hrs : DRest f (some ⟨cb, co, none⟩) N cc nr ns w0 lo (FB + 1) H FB w wc t1 en1 nv2 := by have := HM.out.rest; rw [if_neg (by omega)] at this; exact this
              have hrl := H1.out.1.tn.regs
              have cR := hrs.regs.cell (take_at (a := a) han (by omega))
              have zR := hrs.regs.free a
              have i3 : (a : Int) < (nr : Int) := by omega
              obtain ⟨x, hx⟩ : ∃ x, x = t1.regs.getD a 0 := ⟨_, rfl⟩
              rw [← hx] at cR
              have hd := doc_comp H1.out.1.res H1.out.2.2.2.2 (by omega) (by omega) (by omega) (by omega)
              have hcT : computeT (payT t1) i = setR (payT t1) a P := by unfold computeT; rw [if_neg (by omega), if_neg (by omega), if_neg (by omega), if_neg (by omega), if_pos hk, ha, ← H1.out.1.ped]; rfl
              rw [hcT, if_neg (by omega), if_neg (by omega)] at hd
              have kG : Keeps (· = FB + 1) wc (wc.setCell ⟨FB + 1, a, none⟩ (.int .i64 P)) := Keeps.setCell (S := (· = FB + 1)) wc (a := ⟨FB + 1, a, none⟩) rfl (.int .i64 P)
              have iG : IsL (wc.setCell ⟨FB + 1, a, none⟩ (.int .i64 P)) (FB + 1) ((setR (payT t1) a P).regs.take nr) := by
                have := hrs.regs.put a P
                rw [← List.take_set] at this
                exact this
              obtain ⟨evm, hWm⟩ : ∃ ev, IsW lo wc Q (.slice (some ⟨b, off, none⟩) fn fc) (n1 + 1) (es1 ++ fr1.toList.map (fun f => (f, n1))) ev := by have := HM.out.isw; rw [if_neg (by omega)] at this; exact this
              have q := H1.out.1.next (nv1 := nv2) HR4.out hd (Nat.lt_succ_self _) ⟨evm, hWm.past kG hrs.regs dw_i64⟩ (hrs.reg HB.out.2.2.1 (by have := HB.out.1; omega) HB.out.2.2.2.1 iG rfl kG) (H1.out.1.tn.pay.set a (by rw [← H1.out.1.ped]; exact H1.out.1.tn.okp)) rfl rfl (so.next (by omega) (by omega)) (by have := HML.out; rw [if_neg (by omega), if_neg (by omega)] at this; omega)
              rw [show (setR (payT t1) a P).spawned = t1.spawned from rfl, ← HSP.out, HE1.out] at q
              have HQ : Hid _ := q
              rw [hk] at cJ0
              rw [ha] at cJ1
              clear q so si hk ha hrs hrl hd hx hcT kG iG hWm
              go_wp2_with fail
              exact HQ.out
          · -- IReturn
            as_aux_lemma =>
              obtain ⟨a, ha⟩ := Int.eq_ofNat_of_zero_le (si.reg (by omega) (by omega) (by omega)).1
              have han : a < nr := by have := (si.reg (by omega) (by omega) (by omega)).2; have := HC.out.2.2.2.2.2.2.1; omega
              have hrs : DRest f (some ⟨cb, co, none⟩) N cc nr ns w0 lo (FB + 1) H FB w wc t1 en1 nv2 := by have := HM.out.rest; rw [if_neg (by omega)] at this; exact this
              have hrl := H1.out.1.tn.regs
              have cR := hrs.regs.cell (take_at (a := a) han (by omega))
              have i3 : (a : Int) < (nr : Int) := by omega
              obtain ⟨x, hx⟩ : ∃ x, x = t1.regs.getD a 0 := ⟨_, rfl⟩
              rw [← hx] at cR
              have hd := doc_ret H1.out.1.res H1.out.2.2.2.2 hk
              rw [show i.a.toNat = a by rw [ha]; rfl, ← hx] at hd
              have HF : Hid (∀ wy, Keeps None wc wy → DPost lo Q (.slice (some ⟨b, off, none⟩) fn fc) w r (.returned (.tuple #[.int .i64 (n1 : Int), .int .i64 x])) wy) := fun wy hy => by
                obtain ⟨evm, hWm⟩ : ∃ ev, IsW lo wc Q (.slice (some ⟨b, off, none⟩) fn fc) (n1 + 1) (es1 ++ fr1.toList.map (fun f => (f, n1))) ev := by have := HM.out.isw; rw [if_neg (by omega)] at this; exact this
                rw [hd]
                exact ⟨rfl, ⟨evm, hWm.more hy⟩, (hrs.new hy).kept, by show okI x; rw [hx]; exact getD_ok H1.out.1.tn.okr _⟩
              rw [hk] at cJ0
              rw [ha] at cJ1
              clear so si hk ha hrs hrl hd hx
              go_upto_region 24 with fail
              go_quiet (fail)
              go_wp2_with fail
              go_ret2
              exact HF.out _ (Keeps.drewN None wc _)
          · -- the others
            as_aux_lemma =>
              have hrs := HM.out.rest
              have hrl := H1.out.1.tn.regs
              have hcm := dplain_any (FB + 1) nr (payT t1) i wc hrs.regs hrl hnr16 H1.out.1.tn.okr hk (fun h => by have := si.reg (by omega) (by omega) h; have := HC.out.2.2.2.2.2.2.1; omega) (fun h => by have := si.regb h; have := HC.out.2.2.2.2.2.2.1; omega) (fun h => by have := si.regc h; have := HC.out.2.2.2.2.2.2.1; omega) so.op
              have hd := doc_comp H1.out.1.res H1.out.2.2.2.2 (by omega) (by omega) (by omega) (by omega)
              have hcs : (computeT (payT t1) i).slots = t1.slots ∧ (computeT (payT t1) i).spawned = t1.spawned ∧ (computeT (payT t1) i).node.func = t1.node.func ∧ (computeT (payT t1) i).node.ped = t1.node.ped := by
                unfold computeT setR
                repeat' split
                all_goals exact ⟨rfl, rfl, rfl, rfl⟩
              have HQ : Hid (∀ wy, IsL wy (FB + 1) ((computeT (payT t1) i).regs.take nr) → Keeps (· = FB + 1) wc wy → DRel fs f (some ⟨cb, co, none⟩) N cc nr ns w0 lo Q (FB + 1) H FB (.slice (some ⟨b, off, none⟩) fn fc) w r m P gm (.int .i64 (n1 : Int)) nv2 (.int .i64 sp1) (.int .i64 ((at1 : Int) + 1)) wy ∧ nuOf wy Q < nuOf wr Q) := fun wy iG kG => by
                obtain ⟨evm, hWm⟩ := HM.out.isw
                have q := H1.out.1.next (nv1 := nv2) HR4.out hd (Nat.lt_succ_self _) ⟨evm, hWm.past kG hrs.regs dw_i64⟩ (hrs.reg HB.out.2.2.1 (by have := HB.out.1; omega) HB.out.2.2.2.1 iG hcs.1 kG) (H1.out.1.tn.pay.compute i H1.out.2.2.2.1) hcs.2.2.1 hcs.2.2.2 (so.next (by omega) (by omega)) (by have := HML.out; omega)
                rw [hcs.2.1, ← HSP.out, HE1.out] at q
                exact q
              have q3 : (i.kind == 3) = false := by simp; omega
              have q4 : (i.kind == 4) = false := by simp; omega
              have q5 : (i.kind == 5) = false := by simp; omega
              have q7 : (i.kind == 7) = false := by simp; omega
              have q8 : (i.kind == 8) = false := by simp; omega
              have q9 : (i.kind == 9) = false := by simp; omega
              have HCM : Hid _ := hcm
              clear so si hk hrs hrl hd hcs hcm
              go_wp2_with (go_at_call 23; refine Calls.mono HCM.out ?_; rintro _ wy ⟨rfl, iy, ky⟩)
              exact HQ.out _ iy ky
/-- 'task' of every run that is told. -/
theorem dtask_any (fs : List Fn) (hA : AllV fs) (fa : Option Addr) (fn fc : Nat) (w0 : World) (hS : SeenF w0 fa fn fs) (lo Q : Nat) (h0 : w0.heap.size ≤ lo) : ∀ g, DTaskOk fs fa fn fc w0 lo Q g := fun g => by
  induction g using Nat.strongRecOn with
  | _ g ih => exact dtask_step fs hA fa fn fc w0 hS lo Q h0 g ih
end Go.Proofs.YtbdpdojeaahpjaaGreatDoor
