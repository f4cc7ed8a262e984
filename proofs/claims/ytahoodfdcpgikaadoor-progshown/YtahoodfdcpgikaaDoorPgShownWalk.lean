import Derived.Test.YtahoodfdcpgikaaDoorPgShow
/-! ProgShown. -/
namespace Go.Proofs.YtahoodfdcpgikaaDoor
set_option linter.unusedVariables false
set_option maxRecDepth 20000
open Go.RowKit Go.HeapKit
set_option maxRecDepth 20000 in
set_option maxHeartbeats 4000000 in
theorem shown_walk (a : Option Addr) (n c : Nat) (l : List Fn) (fn at0 : Int) (w : World) (hT : Tabs w) (hS : SeenF w a n l) (hok : ∀ f ∈ l, f.Ok) (hfn : okI fn) (hat0 : okI at0) :
    Calls Tryd.prog 5 #[.agg #[.slice a n c], .int .i64 fn, .int .i64 at0] w fun e w' => e = .returned (.bool true) ∧ Keeps None w w' := by
  obtain ⟨B, hB0⟩ : ∃ B, B = w.heap.size := ⟨_, rfl⟩
  have hal := Keeps.alloc None w (.cells #[.slice a n c] 24)
  have b1 := heap_alloc_new w (.cells #[.slice a n c] 24)
  rw [← hB0] at b1
  have hck := check_any a n c l _ (hT.more hal) (hS.more hal) hok
  have HS : Hid (Tabs w ∧ SeenF w a n l ∧ (∀ f ∈ l, f.Ok) ∧ okI fn ∧ okI at0 ∧ n = l.length) := ⟨hT, hS, hok, hfn, hat0, hS.len⟩
  obtain ⟨wa, hwa⟩ : ∃ wa, wa = w.alloc (.cells #[.slice a n c] 24) := ⟨_, rfl⟩
  rw [← hwa] at b1 hal hck
  obtain ⟨e, he⟩ : ∃ e, e = (checkV l).1 := ⟨_, rfl⟩
  obtain ⟨e2, he2⟩ : ∃ e2, e2 = (checkV l).2.1 := ⟨_, rfl⟩
  obtain ⟨e3, he3⟩ : ∃ e3, e3 = (checkV l).2.2 := ⟨_, rfl⟩
  unfold checkF faultV at hck
  rw [← he, ← he2, ← he3] at hck
  have d0 := (cell_of_heap b1 0).trans rfl
  have HA : Hid (wa.heap[B]? = some (.cells #[.slice a n c] 24 (0, 0)) ∧ Keeps None w wa ∧ B = w.heap.size ∧ e = (checkV l).1) := ⟨b1, hal, hB0, he⟩
  clear b1 hal hT hS hok hfn hat0 he he2 he3
  go_enter Tryd.func5, Tryd.ntmps5
  go_upto_region 2 with (go_at_call 6; rw [← hwa]; refine hck.mono ?_; rintro _ w3 ⟨rfl, hk3⟩)
  rw [← hB0]
  obtain ⟨w4, hw4⟩ : ∃ w4, w4 = w3.alloc (.cells #[.int .i64 e, .int .i64 e2, .int .i64 e3] 27) := ⟨_, rfl⟩
  obtain ⟨P, hP⟩ : ∃ P, P = w3.heap.size := ⟨_, rfl⟩
  have hal := Keeps.alloc None w3 (.cells #[.int .i64 e, .int .i64 e2, .int .i64 e3] 27)
  have b4 := heap_alloc_new w3 (.cells #[.int .i64 e, .int .i64 e2, .int .i64 e3] 27)
  rw [← hw4] at hal b4
  rw [← hP] at b4
  have hb4 := blk_kept (blk_kept HA.out.1 hk3 (fun f => f)) hal (fun f => f)
  have hkw4 := (HA.out.2.1.trans hk3 (fun _ f _ => f)).trans hal (fun _ f _ => f)
  have d4 := (cell_of_heap hb4 0).trans rfl
  have p4 := (cell_of_heap b4 0).trans rfl
  rw [← hw4, ← hP]
  have H4 : Hid (Keeps None w w4 ∧ w4.heap[B]? = some (.cells #[.slice a n c] 24 (0, 0))) := ⟨hkw4, hb4⟩
  clear hw4 hP hal b4 hb4 hkw4 hk3 hck hwa hB0 d0
  by_cases he0 : e = 0
  · subst he0
    have hv := check_valid (check_zero HA.out.2.2.2.symm)
    have hn1 : 1 ≤ n ∧ n ≤ 32 := by have := HS.out.2.2.2.2.2; omega
    obtain ⟨r, hr⟩ : ∃ r, r = modV fn n := ⟨_, rfl⟩
    have hrn : r < n := by rw [hr]; exact modV_lt fn n (by omega)
    have hmd := mod_any fn n
    rw [← hr] at hmd
    obtain ⟨b, off, f, ca, cc, rfl, hf, hatf⟩ := HS.out.2.1.at hrn
    have hat := hatf.more H4.out.1
    have hV := hv.2.2 f (List.mem_of_getElem? hf)
    have hvb := valid_bounds hV
    obtain ⟨y0, y1, y2, y3, -⟩ := hat
    have hsee := hatf.seen
    obtain ⟨m, hm⟩ : ∃ m, m = f.code.length := ⟨_, rfl⟩
    obtain ⟨q, hq⟩ : ∃ q : Nat, (q : Int) = f.slots := ⟨f.slots.toNat, by omega⟩
    rw [← hm] at y3 hsee
    have hcok := (HS.out.2.2.1 f (List.mem_of_getElem? hf)).code
    have hfl := fun (wx : World) (hk : Keeps None w wx) => flow_valid l f ca cc wx (HS.out.1.more hk) (hm ▸ hsee.more hk) hcok hV m q hm hq
    unfold fnV at hfl
    rw [← hm, ← hq] at hfl
    rw [← hq] at y2
    have HV : Hid (Valid l f ∧ (∀ g ∈ l, 0 ≤ g.params ∧ g.params ≤ 8) ∧ m = f.code.length ∧ SeenI w ca m f.code ∧ (q : Int) = f.slots) := ⟨hV, fun g hg => (valid_bounds (hv.2.2 g hg)).1, hm, hsee, hq⟩
    have HFL : Hid _ := hfl
    have HCO : Hid (∀ i ∈ f.code, i.Ok) := hcok
    have j1 : (1 : Int) ≤ (n : Int) := by omega
    have j2 : (r : Int) < (n : Int) := by omega
    have hfo := HS.out.2.2.2.1
    have hmd2 := fun wx => hmd wx hfo (by omega) hn1.2
    have v5 : (q : Int) ≤ 8 := by omega
    have v3 : f.regs ≤ 16 := hvb.2.1.2.2
    have v1 : 1 ≤ f.regs := hvb.2.1.1
    have v6 : 1 ≤ m := by omega
    have v7 : m ≤ 512 := by omega
    clear hv hV hvb hf hr hmd hm hsee hfo hq hcok hfl hatf
    go_upto_region 4 with fail
    obtain ⟨F, hF⟩ : ∃ F, F = w4.heap.size := ⟨_, rfl⟩
    have HF : Hid (F = w4.heap.size) := hF
    have n1 := World.new_ne w4 _ d4
    have n2 := World.new_ne w4 _ y0
    clear hF
    go_cut [8] (fun s8 wx => s8 = .pointer (some ⟨F, 0, none⟩) ∧ wx.heap[F]? = some (.cells #[.int .i64 f.params, .int .i64 f.regs, .int .i64 q, .slice ca m cc] 32 (0, 0)) ∧ Keeps None w4 wx)
    case first =>
      go_region_held3 (fun w' => w'.cell? ⟨B, 0, none⟩ = some (.slice (some ⟨b, off, none⟩) n c) ∧ w'.cell? ⟨b, off + r * 4, none⟩ = some (.int .i64 f.params) ∧ w'.cell? ⟨b, off + r * 4 + 1, none⟩ = some (.int .i64 f.regs) ∧ w'.cell? ⟨b, off + r * 4 + 2, none⟩ = some (.int .i64 q) ∧ w'.cell? ⟨b, off + r * 4 + 3, none⟩ = some (.slice ca m cc)) (go_keep) (first
        | (go_at_call 13; refine (hmd2 _).mono ?_; rintro e w' ⟨rfl, hw⟩; have hw2 := hw.symm; subst hw2))
      all_goals (go_wp2_with fail; go_meet)
      all_goals
        rw [HF.out]
        exact ⟨rfl, heap_alloc_new w4 _, (Keeps.alloc None w4 _).andDrew⟩
    case rest =>
      obtain ⟨rfl, hfb, hk5⟩ := hcut
      have g0 := (cell_of_heap hfb 0).trans rfl
      have g1 := (cell_of_heap hfb 1).trans rfl
      have g2 := (cell_of_heap hfb 2).trans rfl
      have g3 := (cell_of_heap hfb 3).trans rfl
      have hkw5 := H4.out.1.trans hk5 (fun _ f _ => f)
      have hfl := HFL.out _ hkw5
      have H5 : Hid (wc.heap[F]? = some (.cells #[.int .i64 f.params, .int .i64 f.regs, .int .i64 q, .slice ca m cc] 32 (0, 0)) ∧ Keeps None w wc ∧ wc.heap[B]? = some (.cells #[.slice (some ⟨b, off, none⟩) n c] 24 (0, 0))) := ⟨hfb, hkw5, blk_kept H4.out.2 hk5 (fun f => f)⟩
      clear hfb hk5 n1 n2 d4 p4 y0 y1 y2 y3 hmd2 hkw5
      go_upto_region 6 with (go_at_call 14; refine hfl.mono ?_; rintro _ w5 ⟨g, rfl, hM, hk6, hg⟩)
      replace g2 := hk6.cell g2 (fun f => f)
      replace g3 := hk6.cell g3 (fun f => f)
      have H5b : Hid (IsM w5 g m q m (fun k s => sumAt (searchV f s (0, 0)) k) ∧ Keeps None wc w5 ∧ w.heap.size ≤ g) := ⟨hM, hk6, Nat.le_trans H5.out.2.1.size hg⟩
      clear hM hk6 hg g0 g1 hfl
      have hmd3 := mod_more at0 m w5 HS.out.2.2.2.2.1 (by omega) v7
      have htm := modV_lt at0 m (by omega)
      obtain ⟨t, ht⟩ : ∃ t, t = modV at0 m := ⟨_, rfl⟩
      rw [← ht] at hmd3 htm
      have j3 : ¬ (m : Int) = 0 := by omega
      have j4 : ((m : Int) == 0) = false := by simpa using j3
      have j5 : ¬ ((q : Int) < 0) := by omega
      have j6 : ¬ ((8 : Int) < (q : Int)) := by omega
      clear ht
      go_upto_region 9 with (go_at_call 13; refine hmd3.mono ?_; rintro e w' ⟨rfl, hw⟩; have hw2 := hw.symm; subst hw2)
      have H6 : Hid (w5.heap[F]? = some (.cells #[.int .i64 f.params, .int .i64 f.regs, .int .i64 q, .slice ca m cc] 32 (0, 0)) ∧ w5.heap[B]? = some (.cells #[.slice (some ⟨b, off, none⟩) n c] 24 (0, 0)) ∧ IsM w5 g m q m (fun k s => sumAt (searchV f s (0, 0)) k) ∧ Keeps None w w5 ∧ Good f ∧ (∀ i ∈ f.code, i.Ok)) :=
        ⟨blk_kept H5.out.1 H5b.out.2.1 (fun f => f), blk_kept H5.out.2.2 H5b.out.2.1 (fun f => f), H5b.out.1, H5.out.2.1.trans H5b.out.2.1 (fun _ f _ => f), good_of HV.out.1.shape HV.out.1.code, HCO.out⟩
      clear hmd3 g2 g3 j3 j4 j5 j6
      go_wp2_with fail
      go_loopw [10] (fun s10 wr => ∃ s : Nat, s ≤ q ∧ s10 = .int .i64 s ∧ Keeps None w5 wr) (fun i _ => q - (intOf i).toNat)
      case atStart => exact ⟨0, Nat.zero_le _, rfl, Keeps.refl _ _⟩
      case round =>
        obtain ⟨s, hs, rfl, hks⟩ := hrel
        have f2 := (cell_of_heap (blk_kept H6.out.1 hks (fun f => f)) 2).trans rfl
        by_cases hsq : s < q
        · have i7 : (s : Int) < (q : Int) := by omega
          have hM := H6.out.2.2.1.kept hks (fun _ _ f => f)
          have r0 := hM.row htm htm
          have r1 := hM.cell htm hsq
          have hmc : t < f.code.length := by have := HV.out.2.2.1; omega
          have hbr := search_bare H6.out.2.2.2.2.1 s (0, 0)
          have hsm := sum_in hbr t hmc
          have h00 : t = 0 → ¬ bits BinOp.and .i64 (sumAt (searchV f s (0, 0)) t) 1 = 0 := fun e => by
            have h1 := (along_start H6.out.2.2.2.2.1 (by have := HV.out.2.2.2.2; omega)).met s (by have := HV.out.2.2.2.2; omega)
            have e2 : (List.replicate 8 (0 : Int)).getD s 0 = 0 := by
              rw [List.getD_eq_getElem?_getD, List.getElem?_replicate]; split <;> rfl
            rw [e2] at h1
            subst e
            exact and_bit hbr 0 hmc 0 h1
          obtain ⟨vv, hvv⟩ : ∃ vv, vv = sumAt (searchV f s (0, 0)) t := ⟨_, rfl⟩
          rw [← hvv] at r1 hsm h00
          have i2 : ¬ vv < 0 := by omega
          have i3 : ¬ 7 < vv := by omega
          have i4 : (t : Int) < (m : Int) := by omega
          have HM : Hid (IsM wr g m q m (fun k s => sumAt (searchV f s (0, 0)) k) ∧ Keeps None w5 wr ∧ t < f.code.length ∧ Bare f.code.length (searchV f s (0, 0)) ∧ vv = sumAt (searchV f s (0, 0)) t ∧ t < m) := ⟨hM, hks, hmc, hbr, hvv, htm⟩
          clear hM hks hbr hvv hsm
          go_upto_region 12 with fail
          go_cut [111] (fun s111 wx => s111 = .bool false ∧ Keeps None wr wx)
          case first =>
            by_cases ht0 : t = 0
            · have b0 : ((t : Int) == 0) = true := by simpa using ht0
              have b1 : (bits BinOp.and .i64 vv 1 == 0) = false := by simpa using h00 ht0
              clear h00 ht0 htm hmc
              go_quiet (fail)
              go_wp2_with fail
              go_meet
              exact ⟨rfl, Keeps.drewN None _ _⟩
            · have b0 : ((t : Int) == 0) = false := by simpa using ht0
              clear h00 ht0 htm hmc
              go_quiet (fail)
              go_wp2_with fail
              go_meet
              exact ⟨rfl, Keeps.drewN None _ _⟩
          case rest =>
            obtain ⟨rfl, hk12⟩ := hcut
            have HW : Hid (Keeps None wr wc) := hk12
            clear hk12 r0 r1 f2 i2 i3 h00 htm hmc
            go_wp2_with fail
            go_loopw [11] (fun s11 wx => ∃ k : Nat, k ≤ 3 ∧ s11 = .int .i64 k ∧ Keeps None wr wx) (fun i _ => 3 - (intOf i).toNat)
            case atStart => exact ⟨0, by omega, rfl, HW.out⟩
            case round =>
              obtain ⟨k, hk3, rfl, hkk⟩ := hrel
              by_cases hk : k < 3
              · have i8 : (k : Int) < 3 := by omega
                have hk5 := HM.out.2.1.trans hkk (fun _ f _ => f)
                have hkw := H6.out.2.2.2.1.trans hk5 (fun _ f _ => f)
                have hkd := hkw.trans (Keeps.drew None wr) (fun _ f _ => f)
                have hfb := blk_kept H6.out.1 hk5 (fun f => f)
                have F0 := (cell_of_heap hfb 0).trans rfl
                have F1 := (cell_of_heap hfb 1).trans rfl
                have F2 := (cell_of_heap hfb 2).trans rfl
                have F3 := (cell_of_heap hfb 3).trans rfl
                have hbt := bits_any (k : Int)
                obtain ⟨qv, hqv⟩ : ∃ qv : Nat, (qv : Int) = bitV (k : Int) := by
                  rcases bit_st (k : Int) with e | e | e
                  · exact ⟨1, e.symm⟩
                  · exact ⟨2, e.symm⟩
                  · exact ⟨4, e.symm⟩
                have hq3 : qv = 1 ∨ qv = 2 ∨ qv = 4 := by have := bit_st (k : Int); omega
                rw [← hqv] at hbt
                have hss : (s : Int) < f.slots := by have := HV.out.2.2.2.2; omega
                have htr := trail_two l f ca cc t s qv wr.drew (HS.out.1.more hkd) (by rw [← HV.out.2.2.1]; exact HV.out.2.2.2.1.more hkd) HCO.out HV.out.1.shape HV.out.1.code HM.out.2.2.1 hss hq3
                unfold fnV at htr
                rw [← HV.out.2.2.1, ← HV.out.2.2.2.2] at htr
                obtain ⟨mt, hmt⟩ : ∃ mt, mt = metV (searchV f s (0, 0)) ((t : Int), (qv : Int)) := ⟨_, rfl⟩
                have hne : (bits BinOp.and .i64 vv qv != 0) = mt := by
                  rw [HM.out.2.2.2.2.1, hmt, hqv]
                  cases hc : metV (searchV f s (0, 0)) ((t : Int), bitV (k : Int)) with
                  | true => simpa using and_bit HM.out.2.2.2.1 t HM.out.2.2.1 k hc
                  | false => simpa using and_not HM.out.2.2.2.1 t HM.out.2.2.1 k hc
                have HR : Hid (Keeps None w5 wr ∧ Keeps None w wr ∧ mt = metV (searchV f s (0, 0)) ((t : Int), (qv : Int)) ∧ (s : Int) < f.slots) := ⟨hk5, hkw, hmt, hss⟩
                have HKK : Hid _ := hkk
                clear hk5 hkw hkd hfb hqv hq3 hss hmt hkk
                go_upto_region 17 with fail
                go_cut [12, 13] (fun s12 s13 wx => TrailR f s t qv wx s12 s13 ∧ Keeps None wr wx)
                case first =>
                  clear hne
                  go_region_held3 (fun w' => w'.cell? ⟨F, 0, none⟩ = some (.int .i64 f.params) ∧ w'.cell? ⟨F, 1, none⟩ = some (.int .i64 f.regs) ∧ w'.cell? ⟨F, 2, none⟩ = some (.int .i64 q) ∧ w'.cell? ⟨F, 3, none⟩ = some (.slice ca m cc)) (first | with_reducible exact hs2 | go_keep) (first
                    | (go_at_call 15; refine (hbt _).mono ?_; rintro e w' ⟨rfl, hw⟩; have hw2 := hw.symm; subst hw2)
                    | (go_at_call 8; refine htr.mono ?_; rintro _ w17 ⟨hk17, tv, tc, rfl, hR17⟩; have hs2 : w17.cell? ⟨F, 0, none⟩ = some (.int .i64 f.params) ∧ w17.cell? ⟨F, 1, none⟩ = some (.int .i64 f.regs) ∧ w17.cell? ⟨F, 2, none⟩ = some (.int .i64 q) ∧ w17.cell? ⟨F, 3, none⟩ = some (.slice ca m cc) := ⟨hk17.cell F0 (fun f => f), hk17.cell F1 (fun f => f), hk17.cell F2 (fun f => f), hk17.cell F3 (fun f => f)⟩))
                  all_goals (go_wp2_with fail; go_meet)
                  all_goals exact ⟨hR17, (Keeps.drew None wr).trans hk17 (fun _ f _ => f)⟩
                case rest =>
                  obtain ⟨hR, hk17⟩ := hcut
                  have hM := (H6.out.2.2.1.kept HR.out.1 (fun _ _ f => f)).kept hk17 (fun _ _ f => f)
                  have r0 := hM.row HM.out.2.2.2.2.2 HM.out.2.2.2.2.2
                  have r1 := hM.cell HM.out.2.2.2.2.2 hsq
                  rw [← HM.out.2.2.2.2.1] at r1
                  have HRT : Hid (TrailR f s t qv wc u12 u13 ∧ Keeps None wr wc) := ⟨hR, hk17⟩
                  clear hR hk17 hM F0 F1 F2 F3 htr
                  go_upto_region 18 with fail
                  go_cut [14] (fun s14 wx => s14 = .bool mt ∧ Keeps None wc wx)
                  case first =>
                    go_quiet ((go_at_call 15; exact Calls.quiet_of_same (hbt _)))
                    go_wp2_with fail
                    go_meet
                    exact ⟨rfl, Keeps.drewN None _ _⟩
                  case rest =>
                    obtain ⟨rfl, hk18⟩ := hcut
                    have hR := HRT.out.1.kept hk18
                    have hkc := HRT.out.2.trans hk18 (fun _ f _ => f)
                    have hkw := HR.out.2.1.trans hkc (fun _ f _ => f)
                    have hk5 := HR.out.1.trans hkc (fun _ f _ => f)
                    have HKC : Hid _ := HKK.out.trans hkc (fun _ f _ => f)
                    have hmt := HR.out.2.2.1
                    clear hne r0 r1 hk18 hkc
                    rcases hR with ⟨hm, rfl, rfl⟩ | ⟨hm, gp, cap, Q, rfl, rfl, hF, hP⟩
                    · obtain rfl : mt = false := hmt.trans hm
                      clear hm hmt hkw hk5
                      go_upto_region 19 with fail
                      go_cut [151] (fun s151 wx => s151 = .bool false ∧ Keeps None wc wx)
                      case first =>
                        go_quiet (fail)
                        go_wp2_with fail
                        go_meet
                        exact ⟨rfl, Keeps.drewN None _ _⟩
                      case rest =>
                        obtain ⟨rfl, hk19⟩ := hcut
                        have HE : Hid _ := HKC.out.trans hk19 (fun _ f _ => f)
                        clear hk19
                        go_wp2_with fail
                        exact ⟨⟨k + 1, by omega, by simp, HE.out⟩, by simp [intOf]; omega⟩
                    · obtain rfl : mt = true := hmt.trans hm
                      have hkd := hkw.trans (Keeps.drew None wc) (fun _ f _ => f)
                      have hld := leads_any (some ⟨b, off, none⟩) n c l f ca cc gp cap s t qv Q wc.drew (HS.out.2.1.more hkd) (by rw [← HV.out.2.2.1]; exact HV.out.2.2.2.1.more hkd) HV.out.1.shape HV.out.1.code HV.out.2.1 HR.out.2.2.2 hF (hP.kept (Keeps.drew None wc) (fun f => f))
                      unfold fnV at hld
                      rw [← HV.out.2.2.1, ← HV.out.2.2.2.2] at hld
                      have hfb := blk_kept H6.out.1 hk5 (fun f => f)
                      have hb := blk_kept H6.out.2.1 hk5 (fun f => f)
                      have B0 := (cell_of_heap hb 0).trans rfl
                      have F0 := (cell_of_heap hfb 0).trans rfl
                      have F1 := (cell_of_heap hfb 1).trans rfl
                      have F2 := (cell_of_heap hfb 2).trans rfl
                      have F3 := (cell_of_heap hfb 3).trans rfl
                      clear hm hmt hkw hk5 hkd hfb hb hF hP
                      go_upto_region 19 with fail
                      go_cut [151] (fun s151 wx => s151 = .bool false ∧ Keeps None wc wx)
                      case first =>
                        go_region_held3 (fun w' => w'.cell? ⟨B, 0, none⟩ = some (.slice (some ⟨b, off, none⟩) n c) ∧ w'.cell? ⟨F, 0, none⟩ = some (.int .i64 f.params) ∧ w'.cell? ⟨F, 1, none⟩ = some (.int .i64 f.regs) ∧ w'.cell? ⟨F, 2, none⟩ = some (.int .i64 q) ∧ w'.cell? ⟨F, 3, none⟩ = some (.slice ca m cc)) (first | with_reducible exact hs2 | go_keep) (first
                          | (go_at_call 15; refine (hbt _).mono ?_; rintro e w' ⟨rfl, hw⟩; have hw2 := hw.symm; subst hw2)
                          | (go_at_call 9; refine hld.mono ?_; rintro _ w19 ⟨rfl, hk19⟩; have hs2 : w19.cell? ⟨B, 0, none⟩ = some (.slice (some ⟨b, off, none⟩) n c) ∧ w19.cell? ⟨F, 0, none⟩ = some (.int .i64 f.params) ∧ w19.cell? ⟨F, 1, none⟩ = some (.int .i64 f.regs) ∧ w19.cell? ⟨F, 2, none⟩ = some (.int .i64 q) ∧ w19.cell? ⟨F, 3, none⟩ = some (.slice ca m cc) := ⟨hk19.cell B0 (fun f => f), hk19.cell F0 (fun f => f), hk19.cell F1 (fun f => f), hk19.cell F2 (fun f => f), hk19.cell F3 (fun f => f)⟩))
                        all_goals (go_wp2_with fail; go_meet)
                        all_goals exact ⟨rfl, (Keeps.drew None wc).trans hk19 (fun _ f _ => f)⟩
                      case rest =>
                        obtain ⟨rfl, hk19⟩ := hcut
                        have HE : Hid _ := HKC.out.trans hk19 (fun _ f _ => f)
                        clear hk19 hld B0 F0 F1 F2 F3
                        go_wp2_with fail
                        exact ⟨⟨k + 1, by omega, by simp, HE.out⟩, by simp [intOf]; omega⟩
              · have i8 : ¬ ((k : Int) < 3) := by omega
                have HK : Hid _ := HM.out.2.1.trans hkk (fun _ f _ => f)
                clear hkk
                go_wp2_with fail
                exact ⟨⟨s + 1, by omega, by simp, HK.out⟩, by simp [intOf]; omega⟩
        · have i7 : ¬ ((s : Int) < (q : Int)) := by omega
          have HK : Hid (Keeps None w wr) := H6.out.2.2.2.1.trans hks (fun _ f _ => f)
          clear hks
          go_wp2_with fail
          go_ret
          exact ⟨rfl, HK.out⟩
  · have he1 : (e != 0) = true := by simpa using he0
    have hhd := head_any w4 (HS.out.1.more H4.out.1)
    go_wp2_with (go_at_call 7; refine hhd.mono ?_; rintro _ w6 ⟨rfl, hk6⟩)
    go_ret
    exact ⟨rfl, H4.out.1.trans hk6 (fun _ f _ => f)⟩
end Go.Proofs.YtahoodfdcpgikaaDoor
