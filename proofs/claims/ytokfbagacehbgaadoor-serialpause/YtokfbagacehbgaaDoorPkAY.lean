import Derived.Test.YtokfbagacehbgaaDoorPkAX
import Derived.Test.YtokfbagacehbgaaDoorPkAW
/-! SerialPause: the walk. -/
namespace Go.Proofs.YtokfbagacehbgaaDoor
set_option linter.unusedVariables false
set_option maxRecDepth 20000
open Go.RowKit Go.HeapKit Go.PlainOps

set_option maxHeartbeats 8000000 in
theorem pause_walk (a : Option Addr) (n c : Nat) (l : List Fn) (aa : Option Addr) (an ac : Nat) (zs : List Int) (fuel : Int) (w : World) (hT : Tabs w) (hS : SeenF w a n l) (hok : ∀ f ∈ l, f.Ok) (hZ : SeenA w aa an zs) (hfu : okI fuel) :
    Calls Tryd.prog 3 #[.agg #[.slice a n c], .slice aa an ac, .int .i64 fuel] w fun e w' => e = .returned (.bool true) ∧ Keeps None w w' := by
  obtain ⟨B, hB⟩ : ∃ B, B = w.heap.size := ⟨_, rfl⟩
  have b1 := heap_alloc_new w (.cells #[.slice a n c] 24)
  have hk1 := Keeps.alloc None w (.cells #[.slice a n c] 24)
  obtain ⟨W0, hW0⟩ : ∃ W0, W0 = w.alloc (.cells #[.slice a n c] 24) := ⟨_, rfl⟩
  rw [← hW0, ← hB] at b1
  rw [← hW0] at hk1
  have d0 : W0.cell? ⟨B, 0, none⟩ = some (.slice a n c) := (blk_cell b1 0).trans rfl
  have hev := eval_any a n c l aa an ac zs fuel W0 (hT.more hk1) (hS.more hk1) hok (hZ.more hk1) hZ.most hfu
  have hlv := fun wx (hx : Keeps None w wx) => lives_any fuel hfu wx (hT.more hx)
  have HLV : Hid _ := hlv
  have HX0 : Hid (Keeps None w W0 ∧ SeenF w a n l ∧ Tabs w ∧ (∀ f ∈ l, f.Ok) ∧ SeenA w aa an zs) := ⟨hk1, hS, hT, hok, hZ⟩
  obtain ⟨⟨v, wk, tk, dp, sp⟩, hV⟩ : ∃ V, V = (evalV l zs fuel).1 := ⟨_, rfl⟩
  have hVe : evalV l zs fuel = (⟨v, wk, tk, dp, sp⟩, (evalV l zs fuel).2) := by rw [hV]
  rw [← hV] at hev
  unfold valC at hev
  simp only at hev
  have hbd : (0 ≤ wk ∧ wk ≤ 8388608) ∧ (0 ≤ tk ∧ tk ≤ 8388608) := by
    by_cases he0 : (evalV l zs fuel).2 = 0
    · obtain ⟨z1, z2, z3, z4, z5, z6, z7, z8, z9, z10, z11⟩ := eval_sizes hok hZ.ok he0
      rw [← hV] at *
      simp only at *
      have hr0 : refusedV l zs fuel = 0 := by
        by_cases h : refusedV l zs fuel = 0
        · exact h
        · unfold evalV at he0
          rw [if_pos h] at he0
          exact absurd he0 h
      have := (refused_zero hr0).2.2
      omega
    · have := eval_not he0
      rw [← hV] at this
      unfold zeroVal at this
      injection this with e1 e2 e3
      omega
  have HVE : Hid _ := hVe
  obtain ⟨er, her⟩ : ∃ er, er = (evalV l zs fuel).2 := ⟨_, rfl⟩
  rw [← her] at hev
  have HER : Hid _ := her
  clear hT hS hok hZ hk1 b1 hlv hfu hV hVe her
  go_enter Tryd.func3, Tryd.ntmps3
  go_upto_region 1 with fail
  rw [← hW0, ← hB]
  clear hW0 hB
  go_upto_region 2 with (go_at_call 4; refine hev.mono ?_; rintro _ w2 ⟨rfl, hk2⟩)
  have bV := heap_alloc_new w2 (.cells #[.int .i64 v, .int .i64 wk, .int .i64 tk, .int .i64 dp, .int .i64 sp] 27)
  have hal := Keeps.alloc None w2 (.cells #[.int .i64 v, .int .i64 wk, .int .i64 tk, .int .i64 dp, .int .i64 sp] 27)
  obtain ⟨w3, hw3⟩ : ∃ w3, w3 = w2.alloc (.cells #[.int .i64 v, .int .i64 wk, .int .i64 tk, .int .i64 dp, .int .i64 sp] 27) := ⟨_, rfl⟩
  obtain ⟨V, hVV⟩ : ∃ V, V = w2.heap.size := ⟨_, rfl⟩
  rw [← hw3] at hal bV
  rw [← hVV] at bV
  rw [← hw3, ← hVV]
  have k03 : Keeps None W0 w3 := hk2.trans hal (fun _ f _ => f)
  have hlv := HLV.out w3 (HX0.out.1.trans k03 (fun _ f _ => f))
  have H3 : Hid (Keeps None W0 w3 ∧ w3.heap[V]? = some (.cells #[.int .i64 v, .int .i64 wk, .int .i64 tk, .int .i64 dp, .int .i64 sp] 27 (0, 0)) ∧ W0.cell? ⟨B, 0, none⟩ = some (.slice a n c)) := ⟨k03, bV, d0⟩
  clear hw3 hVV bV hal hk2 hev d0 k03 HLV
  go_upto_region 4 with (go_at_call 5; refine hlv.mono ?_; rintro _ W ⟨rfl, hk4⟩)
  have k0W : Keeps None W0 W := H3.out.1.trans hk4 (fun _ f _ => f)
  have bV := blk_kept H3.out.2.1 hk4 (fun f => f)
  have HW : Hid (Keeps None w W ∧ W.heap[V]? = some (.cells #[.int .i64 v, .int .i64 wk, .int .i64 tk, .int .i64 dp, .int .i64 sp] 27 (0, 0)) ∧ W.cell? ⟨B, 0, none⟩ = some (.slice a n c)) := ⟨HX0.out.1.trans k0W (fun _ f _ => f), bV, k0W.cell H3.out.2.2 (fun f => f)⟩
  have v1 : W.cell? ⟨V, 1, none⟩ = some (.int .i64 wk) := (blk_cell bV 1).trans rfl
  have v2 : W.cell? ⟨V, 2, none⟩ = some (.int .i64 tk) := (blk_cell bV 2).trans rfl
  clear hlv hk4 k0W bV H3
  by_cases he0 : er = 0
  · by_cases hbig : 4194304 < wk + tk
    · have q1 : (er != 0) = false := by simp [he0]
      have i1 : wk + tk > 4194304 := hbig
      clear he0
      go_wp2_with fail
      go_ret
      exact ⟨rfl, HW.out.1⟩
    · have q1 : (er != 0) = false := by simp [he0]
      have i1 : ¬ (4194304 < wk + tk) := hbig
      have hev0 : evalV l zs fuel = (⟨v, wk, tk, dp, sp⟩, 0) := by have h1 := HVE.out; rw [← HER.out, he0] at h1; exact h1
      have hA : AllV l := by
        have he1 : (evalV l zs fuel).2 = 0 := by rw [hev0]
        have hr0 : refusedV l zs fuel = 0 := by
          by_cases h : refusedV l zs fuel = 0
          · exact h
          · unfold evalV at he1
            rw [if_pos h] at he1
            exact absurd he1 h
        exact allV_of (refused_zero hr0).1 HX0.out.2.2.2.1
      have hn32 : n ≤ 32 ∧ 1 ≤ n := by have := hA.len; have := HX0.out.2.1.len; omega
      have hcp := copied_own a n c l W (HX0.out.2.1.more HW.out.1) (by omega) (fun f hf => by have := (valid_bounds (hA.all f hf)).2.2.2.2; omega)
      unfold CopiedOwn at hcp
      have hpe := fun hlen => pause_eval HX0.out.2.2.2.1 HX0.out.2.2.2.2.ok hev0 (by omega) hlen
      have HPE : Hid _ := hpe
      have HAV : Hid (AllV l ∧ n = l.length) := ⟨hA, HX0.out.2.1.len⟩
      have d4 := HW.out.2.2
      clear he0 hbig hev0 hA hpe
      go_upto_region 7 with (go_at_call 6; refine hcp.mono ?_; rintro _ w5 ⟨qa, qc, tq0, rfl, hq5, hk5⟩)
      have hal := Keeps.alloc None w5 (.cells #[.slice qa n qc] 24)
      have b5 := heap_alloc_new w5 (.cells #[.slice qa n qc] 24)
      obtain ⟨w6, hw6⟩ : ∃ w6, w6 = w5.alloc (.cells #[.slice qa n qc] 24) := ⟨_, rfl⟩
      obtain ⟨Q, hQ⟩ : ∃ Q, Q = w5.heap.size := ⟨_, rfl⟩
      rw [← hw6] at hal b5
      rw [← hQ] at b5
      rw [← hw6, ← hQ]
      have hq6 := hq5.more hal
      obtain ⟨g, C, rfl, _, _⟩ := hq6.rows HAV.out.2 (by omega)
      have H6 : Hid (Cp W.heap.size w6 l (.slice (some ⟨g, 0, none⟩) n qc) tq0 ∧ Keeps None W w6 ∧ w6.heap[Q]? = some (.cells #[.slice (some ⟨g, 0, none⟩) n qc] 24 (0, 0))) := ⟨hq6, hk5.trans hal (fun _ f _ => f), b5⟩
      have hnb : (n : Int) ≤ 32 := by omega
      clear hw6 hQ hal b5 hq6 hq5 hk5 hcp d4 v1 v2
      go_wp2_with fail
      go_loopw [10] (fun s10 wr => ∃ (i : Nat) (tq : List At), i ≤ n ∧ s10 = .int .i64 i ∧ (∀ f ∈ l.take i, f.code.length < 512) ∧ Cp W.heap.size wr (half l i) (.slice (some ⟨g, 0, none⟩) n qc) tq ∧ Keeps None W wr ∧ wr.heap[Q]? = some (.cells #[.slice (some ⟨g, 0, none⟩) n qc] 24 (0, 0))) (fun i _ => n - (intOf i).toNat)
      case atStart => exact ⟨0, tq0, Nat.zero_le _, rfl, fun f hf => by simp at hf, by rw [show half l 0 = l by simp [half]]; exact H6.out⟩
      case round =>
        obtain ⟨i, tq, hi, rfl, hsh, hcp, hkp, hqb⟩ := hrel
        have q0 : wr.cell? ⟨Q, 0, none⟩ = some (.slice (some ⟨g, 0, none⟩) n qc) := (blk_cell hqb 0).trans rfl
        have hhl : n = (half l i).length := by rw [half_len l i (by have := HAV.out.2; omega)]; exact HAV.out.2
        by_cases hin : i < n
        · have i2 : (i : Int) < (n : Int) := by omega
          obtain ⟨f, hf⟩ : ∃ f, l[i]? = some f := ⟨l[i]'(by have := HAV.out.2; omega), by simp⟩
          obtain ⟨t, ht⟩ : ∃ t, tq[i]? = some t := ⟨tq[i]'(by have := hcp.len; omega), by simp⟩
          obtain ⟨g', C', eg, hgC, hrow⟩ := hcp.rows hhl (by omega)
          injection eg with eg
          injection eg with eg
          subst eg
          have c3 := (hrow i f t (half_at hf) ht).2.2.2
          obtain ⟨K, hK⟩ : ∃ K, K = f.code.length := ⟨_, rfl⟩
          have hKb : K ≤ 512 ∧ 1 ≤ K := by have := (valid_bounds (HAV.out.1.all f (List.mem_of_getElem? hf))).2.2.2; omega
          rw [← hK] at c3
          obtain ⟨ca, cc, hcs, hse⟩ := codes_seen (hcp.code i f t (half_at hf) ht)
          injection hcs with hc1 hc2 hc3
          rw [← hc1, ← hK] at hse
          obtain ⟨tb, hco, htb, hcb, hins⟩ := hse.ex (by omega)
          by_cases hbig2 : K = 512
          · have i3 : (512 : Int) ≤ (K : Int) := by omega
            have HQ2 : Hid (Keeps None w wr) := HW.out.1.trans hkp (fun _ f _ => f)
            clear hsh hcp hkp hqb hhl hf ht hgC hrow hK hse hc1 hc2 hc3 htb hcb hins
            go_wp2_with fail
            go_ret
            exact ⟨rfl, HQ2.out⟩
          · have i3 : ¬ ((512 : Int) ≤ (K : Int)) := by omega
            obtain ⟨wk0, hwk0⟩ : ∃ wk0, wk0 = wr := ⟨_, rfl⟩
            have HI : Hid ((∀ f ∈ l.take i, f.code.length < 512) ∧ l[i]? = some f ∧ tq[i]? = some t ∧ K = f.code.length ∧ t.1 = some ⟨tb, hco, none⟩ ∧ (∀ k z, f.code[k]? = some z → InsAt wk0 tb (hco + k * 5) z) ∧ n = (half l i).length ∧ Cp W.heap.size wk0 (half l i) (.slice (some ⟨g, 0, none⟩) n qc) tq ∧ Keeps None W wk0 ∧ wk0.heap[Q]? = some (.cells #[.slice (some ⟨g, 0, none⟩) n qc] 24 (0, 0))) := by rw [hwk0]; exact ⟨hsh, hf, ht, hK, htb, hins, hhl, hcp, hkp, hqb⟩
            rw [htb] at c3
            have al0 := Keeps.alloc None wk0 (.cells #[.int .i64 6, .int .i64 0, .int .i64 0, .int .i64 0, .int .i64 0] 37)
            have H13 : Hid (Keeps None wk0 (wk0.alloc (.cells #[.int .i64 6, .int .i64 0, .int .i64 0, .int .i64 0, .int .i64 0] 37)) ∧ (wk0.alloc (.cells #[.int .i64 6, .int .i64 0, .int .i64 0, .int .i64 0, .int .i64 0] 37)).ownsRow wk0.heap.size 37 5 (.slice (some ⟨wk0.heap.size, 0, none⟩) 1 1) 1 (insVals [syncI])) :=
              ⟨al0, ⟨rfl, .inr ⟨wk0.heap.size, 1, _, rfl, Nat.le_refl _, heap_alloc_new _ _, Nat.le_refl _, by unfold maxLen; omega, rfl, rfl⟩⟩⟩
            clear hsh hcp hkp hqb hhl hf ht hgC hrow hK hse hc1 hc2 hc3 htb hcb hins al0
            go_upto_region 14 with fail
            rw [← hwk0]
            clear hwk0 q0 c3
            go_wp2_with fail
            go_loopw [12, 13] (fun s12 s13 wx => ∃ k : Nat, k ≤ K ∧ s13 = .int .i64 k ∧ Keeps None wk0 wx ∧ wx.ownsRow wk0.heap.size 37 5 s12 (k + 1) (insVals (syncI :: (f.code.take k).map shI))) (fun _ i _ => K - (intOf i).toNat)
            case atStart => exact ⟨0, Nat.zero_le _, rfl, H13.out.1, H13.out.2⟩
            case round =>
              obtain ⟨k, hk, rfl, hkx, hrw⟩ := hrel
              by_cases hkK : k < K
              · have i4 : (k : Int) < (K : Int) := by omega
                obtain ⟨z, hz⟩ : ∃ z, f.code[k]? = some z := ⟨f.code[k]'(by have := HI.out.2.2.2.1; omega), by simp⟩
                have hia := HI.out.2.2.2.2.2.1 k z hz
                have y0 := hkx.cell hia.kind (fun f => f)
                have y1 := hkx.cell hia.a (fun f => f)
                have y2 := hkx.cell hia.b (fun f => f)
                have y3 := hkx.cell hia.c (fun f => f)
                have y4 := hkx.cell hia.k (fun f => f)
                have so := step_ok (HAV.out.1.all f (List.mem_of_getElem? HI.out.2.1)) hz
                have HX : Hid (f.code[k]? = some z) := hz
                have HK : Hid (Keeps None wk0 wr ∧ K = f.code.length ∧ wr.ownsRow wk0.heap.size 37 5 u12 (k + 1) (insVals (syncI :: (f.code.take k).map shI))) := ⟨hkx, HI.out.2.2.2.1, hrw⟩
                have hal := Keeps.alloc None wr (.cells #[.int .i64 z.kind, .int .i64 z.a, .int .i64 z.b, .int .i64 z.c, .int .i64 z.k] 37)
                have bG := heap_alloc_new wr (.cells #[.int .i64 z.kind, .int .i64 z.a, .int .i64 z.b, .int .i64 z.c, .int .i64 z.k] 37)
                obtain ⟨U, hU⟩ : ∃ U, U = wr.alloc (.cells #[.int .i64 z.kind, .int .i64 z.a, .int .i64 z.b, .int .i64 z.c, .int .i64 z.k] 37) := ⟨_, rfl⟩
                obtain ⟨G, hG⟩ : ∃ G, G = wr.heap.size := ⟨_, rfl⟩
                rw [← hU] at hal bG
                rw [← hG] at bG
                have HAl : Hid (Keeps None wr U) := hal
                have HG : Hid (G = wr.heap.size) := hG
                have x0 : U.cell? ⟨G, 0, none⟩ = some (.int .i64 z.kind) := (blk_cell bG 0).trans rfl
                clear hkx hrw hz hia hal
                go_upto_region 18 with fail
                rw [← hU, ← hG]
                clear hU hG y0 y1 y2 y3 y4
                by_cases h3 : z.kind = 3
                · have p1 : (z.kind == 3) = true := by simpa using h3
                  have hja : 0 ≤ z.a ∧ z.a ≤ 512 := by have h1 := so.jump h3; have h2 := HI.out.2.2.2.1; omega
                  clear so
                  have zf := blk_free bG 1
                  have xo : U.cell? ⟨G, 1, none⟩ = some (.int .i64 z.a) := (blk_cell bG 1).trans rfl
                  have kS : Keeps (· = G) U (U.setCell ⟨G, 1, none⟩ (.int .i64 (z.a + 1))) := Keeps.setCell (S := (· = G)) U (a := ⟨G, 1, none⟩) rfl _
                  have bS : (U.setCell ⟨G, 1, none⟩ (.int .i64 (z.a + 1))).heap[G]? = some (.cells #[.int .i64 z.kind, .int .i64 (z.a + 1), .int .i64 z.b, .int .i64 z.c, .int .i64 z.k] 37 (0, 0)) := by rw [blk_set bG]; rfl
                  obtain ⟨y, hy⟩ : ∃ y, y = shI z := ⟨_, rfl⟩
                  have hy2 : y = { z with a := z.a + 1 } := by rw [hy]; unfold shI; rw [if_pos h3]
                  obtain ⟨U2, hU2⟩ : ∃ U2, U2 = U.setCell ⟨G, 1, none⟩ (.int .i64 (z.a + 1)) := ⟨_, rfl⟩
                  rw [← hU2] at kS bS
                  have HU2 : Hid (U2.heap[G]? = some (.cells #[.int .i64 y.kind, .int .i64 y.a, .int .i64 y.b, .int .i64 y.c, .int .i64 y.k] 37 (0, 0)) ∧ Keeps None wr U2) := ⟨by rw [hy2]; exact bS, HAl.out.trans kS (fun i e hi => by have := HG.out; omega)⟩
                  have HZ : Hid (f.code[k]? = some z ∧ y = shI z) := ⟨HX.out, hy⟩
                  clear hy hy2 kS bS
                  go_upto_region 22 with fail
                  rw [← hU2]
                  clear hU2 xo zf x0
                  have hnew := heap_alloc_new U2 (.cells #[.int .i64 y.kind, .int .i64 y.a, .int .i64 y.b, .int .i64 y.c, .int .i64 y.k] 37)
                  have hal2 := Keeps.alloc None U2 (.cells #[.int .i64 y.kind, .int .i64 y.a, .int .i64 y.b, .int .i64 y.c, .int .i64 y.k] 37)
                  obtain ⟨g7, cap7, w9, hr7, ho7, hk7⟩ := ins_more wk0.heap.size u12 (syncI :: (f.code.take k).map shI) y (k + 1) U2.heap.size 33 (U2.alloc (.cells #[.int .i64 y.kind, .int .i64 y.a, .int .i64 y.b, .int .i64 y.c, .int .i64 y.k] 37)) (by simp; have := HK.out.2.1; omega) (hal2.own (HU2.out.2.own HK.out.2.2 (fun _ _ f => f)) (fun _ _ f => f)) (by have h1 := HK.out.1.size; have h2 := HU2.out.2.size; have h3 := hal2.size; omega) (by omega) hnew
                  have HQ : Hid (Keeps None wk0 w9 ∧ w9.ownsRow wk0.heap.size 37 5 (.slice (some ⟨g7, 0, none⟩) (k + 1 + 1) cap7) (k + 1 + 1) (insVals (syncI :: (f.code.take (k + 1)).map shI))) := by
                    refine ⟨((HK.out.1.trans HU2.out.2 (fun _ f _ => f)).trans hal2 (fun _ f _ => f)).trans hk7 (fun i e hi => by have := own_from HK.out.2.2 e; omega), ?_⟩
                    have e1 : (syncI :: (f.code.take k).map shI) ++ [y] = syncI :: (f.code.take (k + 1)).map shI := by
                      rw [List.take_add_one, HZ.out.1, HZ.out.2]
                      simp
                    rw [← e1]
                    exact ho7
                  have x0 : U2.cell? ⟨G, 0, none⟩ = some (.int .i64 y.kind) := (blk_cell HU2.out.1 0).trans rfl
                  have x1 : U2.cell? ⟨G, 1, none⟩ = some (.int .i64 y.a) := (blk_cell HU2.out.1 1).trans rfl
                  have x2 : U2.cell? ⟨G, 2, none⟩ = some (.int .i64 y.b) := (blk_cell HU2.out.1 2).trans rfl
                  have x3 : U2.cell? ⟨G, 3, none⟩ = some (.int .i64 y.c) := (blk_cell HU2.out.1 3).trans rfl
                  have x4 : U2.cell? ⟨G, 4, none⟩ = some (.int .i64 y.k) := (blk_cell HU2.out.1 4).trans rfl
                  clear hnew hal2 ho7 hk7
                  go_wp2_with (at_builtin; refine wpList_append_run rfl (.tmp 81) (.tmp 83) 33 33 rfl rfl rfl hr7 ?_)
                  exact ⟨⟨k + 1, by omega, by simp, HQ.out.1, HQ.out.2⟩, by simp [intOf]; omega⟩
                · have p1 : (z.kind == 3) = false := by simpa using h3
                  by_cases h4 : z.kind = 4
                  · have p2 : (z.kind == 4) = true := by simpa using h4
                    have hja : 0 ≤ z.b ∧ z.b ≤ 512 := by have h1 := so.branch h4; have h2 := HI.out.2.2.2.1; omega
                    clear so
                    have zf := blk_free bG 2
                    have xo : U.cell? ⟨G, 2, none⟩ = some (.int .i64 z.b) := (blk_cell bG 2).trans rfl
                    have kS : Keeps (· = G) U (U.setCell ⟨G, 2, none⟩ (.int .i64 (z.b + 1))) := Keeps.setCell (S := (· = G)) U (a := ⟨G, 2, none⟩) rfl _
                    have bS : (U.setCell ⟨G, 2, none⟩ (.int .i64 (z.b + 1))).heap[G]? = some (.cells #[.int .i64 z.kind, .int .i64 z.a, .int .i64 (z.b + 1), .int .i64 z.c, .int .i64 z.k] 37 (0, 0)) := by rw [blk_set bG]; rfl
                    obtain ⟨y, hy⟩ : ∃ y, y = shI z := ⟨_, rfl⟩
                    have hy2 : y = { z with b := z.b + 1 } := by rw [hy]; unfold shI; rw [if_neg h3, if_pos h4]
                    obtain ⟨U2, hU2⟩ : ∃ U2, U2 = U.setCell ⟨G, 2, none⟩ (.int .i64 (z.b + 1)) := ⟨_, rfl⟩
                    rw [← hU2] at kS bS
                    have HU2 : Hid (U2.heap[G]? = some (.cells #[.int .i64 y.kind, .int .i64 y.a, .int .i64 y.b, .int .i64 y.c, .int .i64 y.k] 37 (0, 0)) ∧ Keeps None wr U2) := ⟨by rw [hy2]; exact bS, HAl.out.trans kS (fun i e hi => by have := HG.out; omega)⟩
                    have HZ : Hid (f.code[k]? = some z ∧ y = shI z) := ⟨HX.out, hy⟩
                    clear hy hy2 kS bS
                    go_upto_region 22 with fail
                    rw [← hU2]
                    clear hU2 xo zf x0
                    have hnew := heap_alloc_new U2 (.cells #[.int .i64 y.kind, .int .i64 y.a, .int .i64 y.b, .int .i64 y.c, .int .i64 y.k] 37)
                    have hal2 := Keeps.alloc None U2 (.cells #[.int .i64 y.kind, .int .i64 y.a, .int .i64 y.b, .int .i64 y.c, .int .i64 y.k] 37)
                    obtain ⟨g7, cap7, w9, hr7, ho7, hk7⟩ := ins_more wk0.heap.size u12 (syncI :: (f.code.take k).map shI) y (k + 1) U2.heap.size 33 (U2.alloc (.cells #[.int .i64 y.kind, .int .i64 y.a, .int .i64 y.b, .int .i64 y.c, .int .i64 y.k] 37)) (by simp; have := HK.out.2.1; omega) (hal2.own (HU2.out.2.own HK.out.2.2 (fun _ _ f => f)) (fun _ _ f => f)) (by have h1 := HK.out.1.size; have h2 := HU2.out.2.size; have h3 := hal2.size; omega) (by omega) hnew
                    have HQ : Hid (Keeps None wk0 w9 ∧ w9.ownsRow wk0.heap.size 37 5 (.slice (some ⟨g7, 0, none⟩) (k + 1 + 1) cap7) (k + 1 + 1) (insVals (syncI :: (f.code.take (k + 1)).map shI))) := by
                      refine ⟨((HK.out.1.trans HU2.out.2 (fun _ f _ => f)).trans hal2 (fun _ f _ => f)).trans hk7 (fun i e hi => by have := own_from HK.out.2.2 e; omega), ?_⟩
                      have e1 : (syncI :: (f.code.take k).map shI) ++ [y] = syncI :: (f.code.take (k + 1)).map shI := by
                        rw [List.take_add_one, HZ.out.1, HZ.out.2]
                        simp
                      rw [← e1]
                      exact ho7
                    have x0 : U2.cell? ⟨G, 0, none⟩ = some (.int .i64 y.kind) := (blk_cell HU2.out.1 0).trans rfl
                    have x1 : U2.cell? ⟨G, 1, none⟩ = some (.int .i64 y.a) := (blk_cell HU2.out.1 1).trans rfl
                    have x2 : U2.cell? ⟨G, 2, none⟩ = some (.int .i64 y.b) := (blk_cell HU2.out.1 2).trans rfl
                    have x3 : U2.cell? ⟨G, 3, none⟩ = some (.int .i64 y.c) := (blk_cell HU2.out.1 3).trans rfl
                    have x4 : U2.cell? ⟨G, 4, none⟩ = some (.int .i64 y.k) := (blk_cell HU2.out.1 4).trans rfl
                    clear hnew hal2 ho7 hk7
                    go_wp2_with (at_builtin; refine wpList_append_run rfl (.tmp 81) (.tmp 83) 33 33 rfl rfl rfl hr7 ?_)
                    exact ⟨⟨k + 1, by omega, by simp, HQ.out.1, HQ.out.2⟩, by simp [intOf]; omega⟩
                  · have p2 : (z.kind == 4) = false := by simpa using h4
                    obtain ⟨y, hy⟩ : ∃ y, y = shI z := ⟨_, rfl⟩
                    have hy2 : y = z := by rw [hy]; unfold shI; rw [if_neg h3, if_neg h4]
                    obtain ⟨U2, hU2⟩ : ∃ U2, U2 = U := ⟨_, rfl⟩
                    have HU2 : Hid (U2.heap[G]? = some (.cells #[.int .i64 y.kind, .int .i64 y.a, .int .i64 y.b, .int .i64 y.c, .int .i64 y.k] 37 (0, 0)) ∧ Keeps None wr U2) := by rw [hU2]; exact ⟨by rw [hy2]; exact bG, HAl.out⟩
                    have HZ : Hid (f.code[k]? = some z ∧ y = shI z) := ⟨HX.out, hy⟩
                    clear hy hy2
                    go_upto_region 22 with fail
                    rw [← hU2]
                    clear hU2 x0
                    have hnew := heap_alloc_new U2 (.cells #[.int .i64 y.kind, .int .i64 y.a, .int .i64 y.b, .int .i64 y.c, .int .i64 y.k] 37)
                    have hal2 := Keeps.alloc None U2 (.cells #[.int .i64 y.kind, .int .i64 y.a, .int .i64 y.b, .int .i64 y.c, .int .i64 y.k] 37)
                    obtain ⟨g7, cap7, w9, hr7, ho7, hk7⟩ := ins_more wk0.heap.size u12 (syncI :: (f.code.take k).map shI) y (k + 1) U2.heap.size 33 (U2.alloc (.cells #[.int .i64 y.kind, .int .i64 y.a, .int .i64 y.b, .int .i64 y.c, .int .i64 y.k] 37)) (by simp; have := HK.out.2.1; omega) (hal2.own (HU2.out.2.own HK.out.2.2 (fun _ _ f => f)) (fun _ _ f => f)) (by have h1 := HK.out.1.size; have h2 := HU2.out.2.size; have h3 := hal2.size; omega) (by omega) hnew
                    have HQ : Hid (Keeps None wk0 w9 ∧ w9.ownsRow wk0.heap.size 37 5 (.slice (some ⟨g7, 0, none⟩) (k + 1 + 1) cap7) (k + 1 + 1) (insVals (syncI :: (f.code.take (k + 1)).map shI))) := by
                      refine ⟨((HK.out.1.trans HU2.out.2 (fun _ f _ => f)).trans hal2 (fun _ f _ => f)).trans hk7 (fun i e hi => by have := own_from HK.out.2.2 e; omega), ?_⟩
                      have e1 : (syncI :: (f.code.take k).map shI) ++ [y] = syncI :: (f.code.take (k + 1)).map shI := by
                        rw [List.take_add_one, HZ.out.1, HZ.out.2]
                        simp
                      rw [← e1]
                      exact ho7
                    have x0 : U2.cell? ⟨G, 0, none⟩ = some (.int .i64 y.kind) := (blk_cell HU2.out.1 0).trans rfl
                    have x1 : U2.cell? ⟨G, 1, none⟩ = some (.int .i64 y.a) := (blk_cell HU2.out.1 1).trans rfl
                    have x2 : U2.cell? ⟨G, 2, none⟩ = some (.int .i64 y.b) := (blk_cell HU2.out.1 2).trans rfl
                    have x3 : U2.cell? ⟨G, 3, none⟩ = some (.int .i64 y.c) := (blk_cell HU2.out.1 3).trans rfl
                    have x4 : U2.cell? ⟨G, 4, none⟩ = some (.int .i64 y.k) := (blk_cell HU2.out.1 4).trans rfl
                    clear hnew hal2 ho7 hk7
                    go_wp2_with (at_builtin; refine wpList_append_run rfl (.tmp 81) (.tmp 83) 33 33 rfl rfl rfl hr7 ?_)
                    exact ⟨⟨k + 1, by omega, by simp, HQ.out.1, HQ.out.2⟩, by simp [intOf]; omega⟩
              · have hkK2 : k = K := by omega
                subst hkK2
                have i4 : ¬ ((k : Int) < (k : Int)) := by omega
                rw [List.take_of_length_le (by have := HI.out.2.2.2.1; omega)] at hrw
                rcases hrw.2 with ⟨_, h0⟩ | ⟨nb, cap, cur, rfl, hnb0, hgb, hrest⟩
                · omega
                · have hcpx := HI.out.2.2.2.2.2.2.2.1.more hkx
                  obtain ⟨hcp2, hk2', hbg, hfz⟩ := hcpx.setCode HI.out.2.2.2.2.2.2.1 (half_at HI.out.2.1) HI.out.2.2.1 (nb := nb) (m := k + 1) (cap := cap) (cs := syncI :: f.code.map shI) (by simp; exact HI.out.2.2.2.1) (own_less hrw (Nat.zero_le _)) (by have := HI.out.2.2.2.2.2.2.2.2.1.size; omega) (fun j u q hu hq => by have := HI.out.2.2.2.2.2.2.2.1.lt hu hq; omega)
                  have hst := half_step HI.out.2.1
                  rw [show ({ f with code := syncI :: f.code.map shI } : Fn) = fnP f from rfl, hst] at hcp2
                  have hqb2 := blk_kept HI.out.2.2.2.2.2.2.2.2.2 hkx (fun f => f)
                  have q0 : wr.cell? ⟨Q, 0, none⟩ = some (.slice (some ⟨g, 0, none⟩) n qc) := (blk_cell hqb2 0).trans rfl
                  obtain ⟨g', C', eg, hgC, hrow⟩ := hcpx.rows HI.out.2.2.2.2.2.2.1 (by omega)
                  injection eg with eg
                  injection eg with eg
                  subst eg
                  have c3 := (hrow i f t (half_at HI.out.2.1) HI.out.2.2.1).2.2.2
                  have nQg : Q ≠ g := fun e => by
                    rw [e, hgC] at hqb2
                    injection hqb2 with h1
                    injection h1 with _ h1
                    exact absurd h1 (by decide)
                  have HN : Hid ((∀ f' ∈ l.take (i + 1), f'.code.length < 512) ∧ Cp W.heap.size (wr.setCell ⟨g, i * 4 + 3, none⟩ (.slice (some ⟨nb, 0, none⟩) (k + 1) cap)) (half l (i + 1)) (.slice (some ⟨g, 0, none⟩) n qc) (tq.set i (some ⟨nb, 0, none⟩, cap)) ∧ Keeps None W (wr.setCell ⟨g, i * 4 + 3, none⟩ (.slice (some ⟨nb, 0, none⟩) (k + 1) cap)) ∧ (wr.setCell ⟨g, i * 4 + 3, none⟩ (.slice (some ⟨nb, 0, none⟩) (k + 1) cap)).heap[Q]? = some (.cells #[.slice (some ⟨g, 0, none⟩) n qc] 24 (0, 0))) := by
                    refine ⟨fun f' hf' => ?_, hcp2, (HI.out.2.2.2.2.2.2.2.2.1.trans hkx (fun _ f _ => f)).trans hk2' (fun j e hj => by omega), blk_kept hqb2 hk2' nQg⟩
                    rw [List.take_add_one, HI.out.2.1] at hf'
                    rcases List.mem_append.1 hf' with h1 | h1
                    · exact HI.out.1 f' h1
                    · simp at h1; rw [h1]; have := HI.out.2.2.2.1; omega
                  clear hkx hrw hgb hrest hcpx hcp2 hk2' hst hqb2 hgC hrow hbg
                  go_wp2_with fail
                  exact ⟨⟨i + 1, _, by omega, by simp, HN.out⟩, by simp [intOf]; omega⟩
        · have i2 : ¬ ((n : Int) < (n : Int)) := by omega
          have hin2 : n = i := by omega
          subst hin2
          rw [HAV.out.2, half_end] at hcp
          obtain ⟨hw0, ht0, sp', hpe, hspl, hokp⟩ := HPE.out (fun f hf => hsh f (by rw [List.take_of_length_le (by have := HAV.out.2; omega)]; exact hf))
          have hsq : SeenF wr (some ⟨g, 0, none⟩) n (pauseL l) := by
            obtain ⟨x1, x2, e, hs⟩ := hcp.seen
            injection e with e1 e2 e3
            rw [← e1, pause_len, ← HAV.out.2] at hs
            exact hs
          have kww := HW.out.1.trans hkp (fun _ f _ => f)
          have hev2 := eval_any (some ⟨g, 0, none⟩) n qc (pauseL l) aa an ac zs (wk + tk) wr (HX0.out.2.2.1.more kww) hsq hokp (HX0.out.2.2.2.2.more kww) HX0.out.2.2.2.2.most (by unfold okI; omega)
          rw [hpe] at hev2
          unfold valC at hev2
          simp only at hev2
          have bV2 := blk_kept HW.out.2.1 hkp (fun f => f)
          have v1 : wr.cell? ⟨V, 1, none⟩ = some (.int .i64 wk) := (blk_cell bV2 1).trans rfl
          have v2 : wr.cell? ⟨V, 2, none⟩ = some (.int .i64 tk) := (blk_cell bV2 2).trans rfl
          have HE : Hid (Keeps None w wr ∧ wr.heap[V]? = some (.cells #[.int .i64 v, .int .i64 wk, .int .i64 tk, .int .i64 dp, .int .i64 sp] 27 (0, 0))) := ⟨kww, bV2⟩
          have i5 : sp' > sp := hspl
          have i6 : sp < sp' := hspl
          clear hsh hcp hkp hqb hhl hpe hspl hokp hsq kww bV2
          go_upto_region 25 with (go_at_call 4; refine hev2.mono ?_; rintro _ w8 ⟨rfl, hk8⟩)
          have k9 := hk8.andAlloc (.cells #[.int .i64 v, .int .i64 (wk + tk), .int .i64 tk, .int .i64 dp, .int .i64 sp'] 27)
          have b9 := heap_alloc_new w8 (.cells #[.int .i64 v, .int .i64 (wk + tk), .int .i64 tk, .int .i64 dp, .int .i64 sp'] 27)
          obtain ⟨w9, hw9⟩ : ∃ w9, w9 = w8.alloc (.cells #[.int .i64 v, .int .i64 (wk + tk), .int .i64 tk, .int .i64 dp, .int .i64 sp'] 27) := ⟨_, rfl⟩
          obtain ⟨G9, hG9⟩ : ∃ G9, G9 = w8.heap.size := ⟨_, rfl⟩
          rw [← hw9] at k9 b9
          rw [← hG9] at b9
          rw [← hw9, ← hG9]
          have bV9 := blk_kept HE.out.2 k9 (fun f => f)
          have o0 : w9.cell? ⟨V, 0, none⟩ = some (.int .i64 v) := (blk_cell bV9 0).trans rfl
          have o1 : w9.cell? ⟨V, 1, none⟩ = some (.int .i64 wk) := (blk_cell bV9 1).trans rfl
          have o2 : w9.cell? ⟨V, 2, none⟩ = some (.int .i64 tk) := (blk_cell bV9 2).trans rfl
          have o3 : w9.cell? ⟨V, 3, none⟩ = some (.int .i64 dp) := (blk_cell bV9 3).trans rfl
          have o4 : w9.cell? ⟨V, 4, none⟩ = some (.int .i64 sp) := (blk_cell bV9 4).trans rfl
          have r0 : w9.cell? ⟨G9, 0, none⟩ = some (.int .i64 v) := (blk_cell b9 0).trans rfl
          have r1 : w9.cell? ⟨G9, 1, none⟩ = some (.int .i64 (wk + tk)) := (blk_cell b9 1).trans rfl
          have r2 : w9.cell? ⟨G9, 2, none⟩ = some (.int .i64 tk) := (blk_cell b9 2).trans rfl
          have r3 : w9.cell? ⟨G9, 3, none⟩ = some (.int .i64 dp) := (blk_cell b9 3).trans rfl
          have r4 : w9.cell? ⟨G9, 4, none⟩ = some (.int .i64 sp') := (blk_cell b9 4).trans rfl
          have HF : Hid (Keeps None w w9) := HE.out.1.trans k9 (fun _ f _ => f)
          clear hw9 hG9 k9 b9 bV9 v1 v2 hev2
          go_wp2_with fail
          go_ret
          exact ⟨rfl, HF.out⟩
  · have q1 : (er != 0) = true := by simpa using he0
    clear he0
    go_wp2_with fail
    go_ret
    exact ⟨rfl, HW.out.1⟩
end Go.Proofs.YtokfbagacehbgaaDoor
