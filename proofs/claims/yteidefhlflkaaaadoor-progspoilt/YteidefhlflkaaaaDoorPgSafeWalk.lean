import Derived.Test.YteidefhlflkaaaaDoorPgLawFits
import Derived.Test.YteidefhlflkaaaaDoorPgBools
/-! ProgSafe. -/
namespace Go.Proofs.YteidefhlflkaaaaDoor
set_option linter.unusedVariables false
open Go.RowKit Go.HeapKit

theorem check_zero {l : List Fn} (h : (checkV l).1 = 0) : checkV l = (0, 0, 0) := by
  unfold checkV at h ⊢
  split
  · rename_i h1; rw [if_pos h1] at h; cases h
  · rename_i h1
    rw [if_neg h1] at h
    split
    · rename_i r hr; rw [hr] at h; simp at h
    · rename_i hr
      rw [hr] at h
      simp only at h
      split
      · rename_i r hr2
        rw [hr2] at h
        simp only at h
        obtain ⟨k, x, _, _, hg, _⟩ := firstAt_was _ _ _ _ hr2
        unfold codeFault at hg
        split at hg
        · have := Option.some.inj hg
          rw [← this] at h
          simp at h
        · split at hg
          · have := Option.some.inj hg
            rw [← this] at h
            simp at h
          · cases hg
      · rename_i hr2
        rw [hr2] at h
        simp only at h
        split
        · rename_i r hr3
          rw [hr3] at h
          simp only at h
          obtain ⟨k, x, _, _, hg, _⟩ := firstAt_was _ _ _ _ hr3
          unfold slotFault at hg
          simp only [Option.map_eq_some_iff] at hg
          obtain ⟨q, hq, e⟩ := hg
          obtain ⟨k2, y, _, _, hg2, _⟩ := firstAt_was _ _ _ _ hq
          split at hg2
          · cases hg2
          · rename_i hne
            have := Option.some.inj hg2
            rw [← e] at h
            simp at h
            rw [← this] at h
            exact absurd h hne
        · rfl
/-- What a valid function is, for the walks. -/
theorem valid_bounds {fs : List Fn} {f : Fn} (h : Valid fs f) : (0 ≤ f.params ∧ f.params ≤ 8) ∧ (1 ≤ f.regs ∧ f.params ≤ f.regs ∧ f.regs ≤ 16) ∧ (0 ≤ f.slots ∧ f.slots ≤ 8) ∧ 1 ≤ f.code.length ∧ f.code.length ≤ 512 := by
  have := h.shape
  simp only [shapeV, Bool.and_eq_true, decide_eq_true_eq] at this
  omega
set_option maxRecDepth 20000 in
set_option maxHeartbeats 4000000 in
theorem safe_walk (a : Option Addr) (n c : Nat) (l : List Fn) (fn : Int) (ta : Option Addr) (tn tc : Nat) (tl : List Bool) (w : World) (hT : Tabs w) (hS : SeenF w a n l) (hok : ∀ f ∈ l, f.Ok) (hfn : okI fn) (hB : SeenB w ta tn tl) :
    Calls Tryd.prog 3 #[.agg #[.slice a n c], .int .i64 fn, .slice ta tn tc] w fun e w' => e = .returned (.bool true) ∧ Keeps None w w' := by
  obtain ⟨B, hB0⟩ : ∃ B, B = w.heap.size := ⟨_, rfl⟩
  have hal := Keeps.alloc None w (.cells #[.slice a n c] 24)
  have b1 := heap_alloc_new w (.cells #[.slice a n c] 24)
  rw [← hB0] at b1
  have hhd := head_any _ (hT.more hal)
  have HS : Hid (Tabs w ∧ SeenF w a n l ∧ (∀ f ∈ l, f.Ok) ∧ okI fn ∧ SeenB w ta tn tl ∧ n = l.length) := ⟨hT, hS, hok, hfn, hB, hS.len⟩
  obtain ⟨wa, hwa⟩ : ∃ wa, wa = w.alloc (.cells #[.slice a n c] 24) := ⟨_, rfl⟩
  rw [← hwa] at b1 hal hhd
  have HA : Hid (wa.heap[B]? = some (.cells #[.slice a n c] 24 (0, 0)) ∧ Keeps None w wa ∧ B = w.heap.size) := ⟨b1, hal, hB0⟩
  have htn : tn ≤ 9223372036854775807 := hB.most
  clear b1 hal hT hS hok hfn hB
  go_enter Tryd.func3, Tryd.ntmps3
  go_upto_region 4 with (go_at_call 9; rw [← hwa]; refine hhd.mono ?_; rintro _ w2 ⟨rfl, hk2⟩)
  rw [← hB0]
  have hb2 := blk_kept HA.out.1 hk2 (fun f => f)
  have hkw2 := HA.out.2.1.trans hk2 (fun _ f _ => f)
  have d0 := (cell_of_heap hb2 0).trans rfl
  have hck := check_any a n c l w2 (HS.out.1.more hkw2) (HS.out.2.1.more hkw2) HS.out.2.2.1
  obtain ⟨e, he⟩ : ∃ e, e = (checkV l).1 := ⟨_, rfl⟩
  obtain ⟨e2, he2⟩ : ∃ e2, e2 = (checkV l).2.1 := ⟨_, rfl⟩
  obtain ⟨e3, he3⟩ : ∃ e3, e3 = (checkV l).2.2 := ⟨_, rfl⟩
  unfold checkF faultV at hck
  rw [← he, ← he2, ← he3] at hck
  have H2 : Hid (w2.heap[B]? = some (.cells #[.slice a n c] 24 (0, 0)) ∧ Keeps None w w2 ∧ e = (checkV l).1) := ⟨hb2, hkw2, he⟩
  clear hb2 hkw2 hk2 he he2 he3 hwa hB0 hhd
  by_cases he0 : e = 0
  · subst he0
    have hv := check_valid (check_zero H2.out.2.2.symm)
    have hn1 : 1 ≤ n ∧ n ≤ 32 := by have := HS.out.2.2.2.2.2; omega
    obtain ⟨r, hr⟩ : ∃ r, r = modV fn n := ⟨_, rfl⟩
    have hrn : r < n := by rw [hr]; exact modV_lt fn n (by omega)
    have hmd := mod_any fn n
    rw [← hr] at hmd
    go_upto_region 5 with (go_at_call 10; refine hck.mono ?_; rintro _ w3 ⟨rfl, hk3⟩)
    obtain ⟨w4, hw4⟩ : ∃ w4, w4 = w3.alloc (.cells #[.int .i64 0, .int .i64 e2, .int .i64 e3] 29) := ⟨_, rfl⟩
    obtain ⟨P, hP⟩ : ∃ P, P = w3.heap.size := ⟨_, rfl⟩
    have hal := Keeps.alloc None w3 (.cells #[.int .i64 0, .int .i64 e2, .int .i64 e3] 29)
    have b4 := heap_alloc_new w3 (.cells #[.int .i64 0, .int .i64 e2, .int .i64 e3] 29)
    rw [← hw4] at hal b4
    rw [← hP] at b4
    have hb4 := blk_kept (blk_kept H2.out.1 hk3 (fun f => f)) hal (fun f => f)
    have hkw4 := (H2.out.2.1.trans hk3 (fun _ f _ => f)).trans hal (fun _ f _ => f)
    have d4 := (cell_of_heap hb4 0).trans rfl
    have p4 := (cell_of_heap b4 0).trans rfl
    obtain ⟨b, off, f, ca, cc, rfl, hf, hat0⟩ := HS.out.2.1.at hrn
    have hat := hat0.more hkw4
    have hV := hv.2.2 f (List.mem_of_getElem? hf)
    have hvb := valid_bounds hV
    obtain ⟨y0, y1, y2, y3, -⟩ := hat
    have hsee := hat0.seen
    obtain ⟨m, hm⟩ : ∃ m, m = f.code.length := ⟨_, rfl⟩
    rw [← hm] at y3 hsee
    have HV : Hid (Valid l f ∧ (∀ g ∈ l, 0 ≤ g.params ∧ g.params ≤ 8) ∧ m = f.code.length ∧ SeenI w ca m f.code ∧ Keeps None w w4 ∧ w4.heap[B]? = some (.cells #[.slice (some ⟨b, off, none⟩) n c] 24 (0, 0))) := ⟨hV, fun g hg => (valid_bounds (hv.2.2 g hg)).1, hm, hsee, hkw4, hb4⟩
    have j1 : (1 : Int) ≤ (n : Int) := by omega
    have j2 : (r : Int) < (n : Int) := by omega
    have hfo := HS.out.2.2.2.1
    have hmd2 := fun wx => hmd wx hfo (by omega) hn1.2
    rw [← hw4, ← hP]
    have v1 := hvb.2.1.1
    have v2 := hvb.2.1.2.1
    have v3 := hvb.2.1.2.2
    have v4 := hvb.2.2.1.1
    have v5 := hvb.2.2.1.2
    have v6 : 1 ≤ m := by omega
    have v7 : m ≤ 512 := by omega
    clear hw4 hP hal b4 hb4 hkw4 hk3 hck hv hV hvb hf hr hmd d0 hm hsee hfo hat0
    go_upto_region 9 with fail
    obtain ⟨F, hF⟩ : ∃ F, F = w4.heap.size := ⟨_, rfl⟩
    have HF : Hid (F = w4.heap.size) := hF
    have n1 := World.new_ne w4 _ d4
    have n2 := World.new_ne w4 _ y0
    clear hF
    go_cut [9] (fun s9 wx => s9 = .pointer (some ⟨F, 0, none⟩) ∧ wx.heap[F]? = some (.cells #[.int .i64 f.params, .int .i64 f.regs, .int .i64 f.slots, .slice ca m cc] 33 (0, 0)) ∧ Keeps None w4 wx)
    case first =>
      go_region_held3 (fun w' => w'.cell? ⟨B, 0, none⟩ = some (.slice (some ⟨b, off, none⟩) n c) ∧ w'.cell? ⟨b, off + r * 4, none⟩ = some (.int .i64 f.params) ∧ w'.cell? ⟨b, off + r * 4 + 1, none⟩ = some (.int .i64 f.regs) ∧ w'.cell? ⟨b, off + r * 4 + 2, none⟩ = some (.int .i64 f.slots) ∧ w'.cell? ⟨b, off + r * 4 + 3, none⟩ = some (.slice ca m cc)) (go_keep) (first
        | (go_at_call 11; refine (hmd2 _).mono ?_; rintro e w' ⟨rfl, hw⟩; have hw2 := hw.symm; subst hw2))
      all_goals (go_wp2_with fail; go_meet)
      all_goals
        rw [HF.out]
        exact ⟨rfl, heap_alloc_new w4 _, (Keeps.alloc None w4 _).andDrew⟩
    case rest =>
      obtain ⟨rfl, hfb, hk5⟩ := hcut
      have g0 := (cell_of_heap hfb 0).trans rfl
      have g1 := (cell_of_heap hfb 1).trans rfl
      have g2 := (cell_of_heap hfb 2).trans rfl
      have H5 : Hid (wc.heap[F]? = some (.cells #[.int .i64 f.params, .int .i64 f.regs, .int .i64 f.slots, .slice ca m cc] 33 (0, 0)) ∧ Keeps None w wc ∧ wc.heap[B]? = some (.cells #[.slice (some ⟨b, off, none⟩) n c] 24 (0, 0)) ∧ SeenI wc ca m f.code) := ⟨hfb, HV.out.2.2.2.2.1.trans hk5 (fun _ f _ => f), blk_kept HV.out.2.2.2.2.2 hk5 (fun f => f), HV.out.2.2.2.1.more (HV.out.2.2.2.2.1.trans hk5 (fun _ f _ => f))⟩
      clear hfb hk5 n1 n2 d4 p4 y0 y1 y2 y3 hmd2
      go_upto_region 13 with fail
      obtain ⟨w6, hw6⟩ : ∃ w6, w6 = wc.alloc (.cells #[.int .i64 0, .int .i64 0, .int .i64 0, .int .i64 0, .int .i64 0, .int .i64 0, .int .i64 0, .int .i64 0, .int .i64 0, .bool false] 38) := ⟨_, rfl⟩
      obtain ⟨X, hX⟩ : ∃ X, X = wc.heap.size := ⟨_, rfl⟩
      have hal6 := Keeps.alloc None wc (.cells #[.int .i64 0, .int .i64 0, .int .i64 0, .int .i64 0, .int .i64 0, .int .i64 0, .int .i64 0, .int .i64 0, .int .i64 0, .bool false] 38)
      have b6 := heap_alloc_new wc (.cells #[.int .i64 0, .int .i64 0, .int .i64 0, .int .i64 0, .int .i64 0, .int .i64 0, .int .i64 0, .int .i64 0, .int .i64 0, .bool false] 38)
      rw [← hw6] at hal6 b6
      rw [← hX] at b6
      rw [← hw6, ← hX]
      have hG := good_of HV.out.1.shape HV.out.1.code
      have H6 : Hid (IsWk w6 X 0 (List.replicate 8 0) false ∧ Along f 0 (List.replicate 8 0) ∧ w6.heap[F]? = some (.cells #[.int .i64 f.params, .int .i64 f.regs, .int .i64 f.slots, .slice ca m cc] 33 (0, 0)) ∧ Keeps None w w6 ∧ w6.heap[B]? = some (.cells #[.slice (some ⟨b, off, none⟩) n c] 24 (0, 0)) ∧ SeenI w6 ca m f.code ∧ w.heap.size ≤ X) := ⟨⟨b6, by simp⟩, along_start hG v4, blk_kept H5.out.1 hal6 (fun f => f), H5.out.2.1.trans hal6 (fun _ f _ => f), blk_kept H5.out.2.2.1 hal6 (fun f => f), H5.out.2.2.2.more hal6, by rw [hX]; exact H5.out.2.1.size⟩
      clear hw6 hX hal6 b6 hG g0 g1 g2
      go_wp2_with fail
      go_loopw [11] (fun s11 wr => ∃ (k : Nat) (at_ : Int) (sl : List Int) (ov : Bool), k ≤ tn ∧ s11 = .int .i64 k ∧ IsWk wr X at_ sl ov ∧ (ov = false → Along f at_ sl) ∧ wr.heap[F]? = some (.cells #[.int .i64 f.params, .int .i64 f.regs, .int .i64 f.slots, .slice ca m cc] 33 (0, 0)) ∧ Keeps None w wr ∧ wr.heap[B]? = some (.cells #[.slice (some ⟨b, off, none⟩) n c] 24 (0, 0)) ∧ SeenI wr ca m f.code) (fun i _ => tn - (intOf i).toNat)
      case atStart => exact ⟨0, 0, _, false, Nat.zero_le _, rfl, H6.out.1, fun _ => H6.out.2.1, H6.out.2.2.1, H6.out.2.2.2.1, H6.out.2.2.2.2.1, H6.out.2.2.2.2.2.1⟩
      case round =>
        obtain ⟨k, at_, sl, ov, hk, rfl, hwk, hal, hfb, hkp, hb, hsee⟩ := hrel
        have x9 := hwk.c9
        by_cases hkt : k < tn
        · have i1 : (k : Int) < (tn : Int) := by omega
          cases ov with
          | true =>
            clear hal hfb hb hsee hwk
            have HK : Hid (Keeps None w wr) := hkp
            clear hkp
            go_wp2_with fail
            go_ret
            exact ⟨rfl, HK.out⟩
          | false =>
            have hAl := hal rfl
            obtain ⟨t, ht⟩ : ∃ t : Nat, at_ = t := ⟨at_.toNat, (Int.toNat_of_nonneg hAl.a0).symm⟩
            subst ht
            have htm : t < m := by have := hAl.a1; have := HV.out.2.2.1; omega
            obtain ⟨bI, oI, x, rfl, hx, hatI⟩ := hsee.at htm
            obtain ⟨y0, y1, y2, y3, y4⟩ := hatI
            have x0 := hwk.c0
            have f3 := (cell_of_heap hfb 3).trans rfl
            have i2 : ¬ ((t : Int) < 0) := by omega
            have i3 : (t : Int) < (m : Int) := by omega
            have i4 : ¬ ((m : Int) ≤ (t : Int)) := by omega
            have i5 : decide ((t : Int) < 0) = false := by simp
            have HR : Hid (IsWk wr X t sl false ∧ Along f t sl ∧ wr.heap[F]? = some (.cells #[.int .i64 f.params, .int .i64 f.regs, .int .i64 f.slots, .slice (some ⟨bI, oI, none⟩) m cc] 33 (0, 0)) ∧ Keeps None w wr ∧ wr.heap[B]? = some (.cells #[.slice (some ⟨b, off, none⟩) n c] 24 (0, 0)) ∧ SeenI wr (some ⟨bI, oI, none⟩) m f.code ∧ f.code[t]? = some x) := ⟨hwk, hAl, hfb, hkp, hb, hsee, hx⟩
            clear hal hAl hfb hb hsee hwk hkp hx
            go_upto_region 16 with fail
            go_quiet (fail)
            go_upto_region 18 with fail
            obtain ⟨wq, hwq⟩ : ∃ wq, wq = wr.drewN nq := ⟨_, rfl⟩
            have hkq : Keeps None wr wq := by rw [hwq]; exact Keeps.drewN None wr nq
            rw [← hwq]
            replace x0 := hkq.cell x0 (fun f => f)
            replace f3 := hkq.cell f3 (fun f => f)
            replace y0 := hkq.cell y0 (fun f => f)
            replace y1 := hkq.cell y1 (fun f => f)
            replace y2 := hkq.cell y2 (fun f => f)
            replace y3 := hkq.cell y3 (fun f => f)
            replace y4 := hkq.cell y4 (fun f => f)
            have n1 := World.new_ne wq _ f3
            have n2 := World.new_ne wq _ x0
            have n3 := World.new_ne wq _ y0
            obtain ⟨Y, hY⟩ : ∃ Y, Y = wq.heap.size := ⟨_, rfl⟩
            have HY : Hid (Y = wq.heap.size ∧ Keeps None wr wq) := ⟨hY, hkq⟩
            clear hwq hkq hY x9
            go_cut [12] (fun s12 wx => s12 = .pointer (some ⟨Y, 0, none⟩) ∧ wx.heap[Y]? = some (.cells #[.int .i64 x.kind, .int .i64 x.a, .int .i64 x.b, .int .i64 x.c, .int .i64 x.k] 40 (0, 0)) ∧ Keeps None wq wx)
            case first =>
              go_region_held3 (fun w' => w'.cell? ⟨F, 3, none⟩ = some (.slice (some ⟨bI, oI, none⟩) m cc) ∧ w'.cell? ⟨X, 0, none⟩ = some (.int .i64 t) ∧ w'.cell? ⟨bI, oI + t * 5, none⟩ = some (.int .i64 x.kind) ∧ w'.cell? ⟨bI, oI + t * 5 + 1, none⟩ = some (.int .i64 x.a) ∧ w'.cell? ⟨bI, oI + t * 5 + 2, none⟩ = some (.int .i64 x.b) ∧ w'.cell? ⟨bI, oI + t * 5 + 3, none⟩ = some (.int .i64 x.c) ∧ w'.cell? ⟨bI, oI + t * 5 + 4, none⟩ = some (.int .i64 x.k)) (go_keep) (fail)
              all_goals (go_wp2_with fail; go_meet)
              all_goals
                rw [HY.out.1]
                exact ⟨rfl, heap_alloc_new wq _, (Keeps.alloc None wq _).andDrew⟩
            case rest =>
              obtain ⟨rfl, hyb, hk7⟩ := hcut
              have hk8 := HY.out.2.trans hk7 (fun _ f _ => f)
              have hwk := HR.out.1.kept hk8 (fun f => f)
              have hfb := blk_kept HR.out.2.2.1 hk8 (fun f => f)
              have hb := blk_kept HR.out.2.2.2.2.1 hk8 (fun f => f)
              have hsee := HR.out.2.2.2.2.2.1.more hk8
              have hkw := HR.out.2.2.2.1.trans hk8 (fun _ f _ => f)
              have B0 := (cell_of_heap hb 0).trans rfl
              have F0 := (cell_of_heap hfb 0).trans rfl
              have F1 := (cell_of_heap hfb 1).trans rfl
              have F2 := (cell_of_heap hfb 2).trans rfl
              have F3 := (cell_of_heap hfb 3).trans rfl
              have Y0 := (cell_of_heap hyb 0).trans rfl
              have Y1 := (cell_of_heap hyb 1).trans rfl
              have Y2 := (cell_of_heap hyb 2).trans rfl
              have Y3 := (cell_of_heap hyb 3).trans rfl
              have Y4 := (cell_of_heap hyb 4).trans rfl
              have hfx := (code_parts HV.out.1.code).1 t x HR.out.2.2.2.2.2.2
              have hlf := lawfits_any (some ⟨b, off, none⟩) n c l f (some ⟨bI, oI, none⟩) cc x wc (HS.out.2.1.more hkw) ⟨by omega, v3⟩ HV.out.2.1 hfx
              unfold fnV insV at hlf
              rw [← HV.out.2.2.1] at hlf
              have hwy := fits_ways hfx
              have h5 : x.kind = 5 → 0 ≤ x.a ∧ x.a < 8 := fun e => by
                have h1 := hwy.1
                rw [e] at h1
                have := (belowV_iff _ _).1 (show belowV x.a f.slots = true from h1)
                omega
              have h7 : x.kind = 7 → 0 ≤ x.b ∧ x.b < 8 := fun e => by
                have h1 := hwy.2.1
                rw [e] at h1
                have := (belowV_iff _ _).1 (show belowV x.b f.slots = true from h1)
                omega
              have hcl := fun (wx : World) (hkx : Keeps None wc wx) => clean_any X t sl false x wx (hwk.kept hkx (fun f => f)) h5 h7 (along_clean HV.out.1 HR.out.2.1 HR.out.2.2.2.2.2.2)
              unfold insV at hcl
              have HT : Hid (IsWk wc X t sl false ∧ wc.heap[F]? = some (.cells #[.int .i64 f.params, .int .i64 f.regs, .int .i64 f.slots, .slice (some ⟨bI, oI, none⟩) m cc] 33 (0, 0)) ∧ wc.heap[B]? = some (.cells #[.slice (some ⟨b, off, none⟩) n c] 24 (0, 0)) ∧ SeenI wc (some ⟨bI, oI, none⟩) m f.code ∧ Keeps None w wc ∧ (x.kind = 5 → 0 ≤ x.a ∧ x.a < 8)) := ⟨hwk, hfb, hb, hsee, hkw, h5⟩
              have HCL : Hid _ := hcl
              clear hwk hfb hb hsee hkw hyb hk7 hk8 hfx hwy h5 h7 hcl n1 n2 n3 x0 f3 y0 y1 y2 y3 y4 HY
              go_upto_region 21 with (first
                | (go_at_call 12; refine hlf.mono ?_; rintro _ w9 ⟨rfl, hk9⟩; have Y0' := hk9.cell Y0 (fun f => f); have Y1' := hk9.cell Y1 (fun f => f); have Y2' := hk9.cell Y2 (fun f => f); have Y3' := hk9.cell Y3 (fun f => f); have Y4' := hk9.cell Y4 (fun f => f))
                | (go_at_call 13; refine (HCL.out _ hk9).mono ?_; rintro _ w10 ⟨rfl, hk10⟩))
              have hk11 := (hk9.trans hk10 (fun _ f _ => f))
              have hkw := HT.out.2.2.2.2.1.trans hk11 (fun _ f _ => f)
              obtain ⟨tb, tq, hta, htlt, htc⟩ := (HS.out.2.2.2.2.1.more hkw (fun _ _ f => f)).ex (by omega)
              obtain ⟨tv, htv⟩ : ∃ tv, tl[k]? = some tv := ⟨tl[k]'(by have := HS.out.2.2.2.2.1.len; omega), List.getElem?_eq_getElem _⟩
              have T0 := htc k tv htv
              have hwt : tb < w.heap.size := by
                obtain ⟨tb', tq', hta', h', _⟩ := HS.out.2.2.2.2.1.ex (by omega)
                rw [hta] at hta'
                injection hta' with e
                injection e with e1 _ _
                omega
              subst hta
              have hwk := HT.out.1.kept hk11 (fun f => f)
              have hfb := blk_kept HT.out.2.1 hk11 (fun f => f)
              have hb := blk_kept HT.out.2.2.1 hk11 (fun f => f)
              have hsee := HT.out.2.2.2.1.more hk11
              replace F0 := hk11.cell F0 (fun f => f)
              replace F1 := hk11.cell F1 (fun f => f)
              replace F2 := hk11.cell F2 (fun f => f)
              replace F3 := hk11.cell F3 (fun f => f)
              have hst := steps_any X t sl tv f (some ⟨bI, oI, none⟩) cc m x w10.drew (hwk.kept (Keeps.drew None _) (fun f => f)) HV.out.2.2.1 v7 (hsee.more (Keeps.drew None _)) HR.out.2.2.2.2.2.2 HT.out.2.2.2.2.2
              unfold fnV at hst
              rw [← HV.out.2.2.1] at hst
              have nF : ¬ F = X := blk_ne hfb hwk.blk (by decide)
              have nB : ¬ B = X := blk_ne hb hwk.blk (by decide)
              have nT : ¬ tb = X := by have := H6.out.2.2.2.2.2.2; omega
              have HU : Hid (w10.heap[F]? = some (.cells #[.int .i64 f.params, .int .i64 f.regs, .int .i64 f.slots, .slice (some ⟨bI, oI, none⟩) m cc] 33 (0, 0)) ∧ w10.heap[B]? = some (.cells #[.slice (some ⟨b, off, none⟩) n c] 24 (0, 0)) ∧ SeenI w10 (some ⟨bI, oI, none⟩) m f.code ∧ Keeps None w w10 ∧ ¬ F = X ∧ ¬ B = X ∧ ¬ tb = X ∧ (∀ bb o v, w.cell? ⟨bb, o, none⟩ = some v → True)) := ⟨hfb, hb, hsee, hkw, nF, nB, nT, fun _ _ _ _ => trivial⟩
              clear hk9 hk10 hk11 hkw hwk hfb hb hsee htc htv htlt nF nB nT Y0 Y1 Y2 Y3 Y4 Y0' Y1' Y2' Y3' Y4' B0
              go_region_held3 (fun w' => w'.cell? ⟨F, 0, none⟩ = some (.int .i64 f.params) ∧ w'.cell? ⟨F, 1, none⟩ = some (.int .i64 f.regs) ∧ w'.cell? ⟨F, 2, none⟩ = some (.int .i64 f.slots) ∧ w'.cell? ⟨F, 3, none⟩ = some (.slice (some ⟨bI, oI, none⟩) m cc) ∧ w'.cell? ⟨tb, tq + k, none⟩ = some (.bool tv)) (first | exact hs2 | go_keep) (first
                | (go_at_call 14; refine hst.mono ?_; rintro _ w11 ⟨rfl, hwk11, hk11⟩; have hs2 : w11.cell? ⟨F, 0, none⟩ = some (.int .i64 f.params) ∧ w11.cell? ⟨F, 1, none⟩ = some (.int .i64 f.regs) ∧ w11.cell? ⟨F, 2, none⟩ = some (.int .i64 f.slots) ∧ w11.cell? ⟨F, 3, none⟩ = some (.slice (some ⟨bI, oI, none⟩) m cc) ∧ w11.cell? ⟨tb, tq + k, none⟩ = some (.bool tv) := ⟨hk11.cell F0 HU.out.2.2.2.2.1, hk11.cell F1 HU.out.2.2.2.2.1, hk11.cell F2 HU.out.2.2.2.2.1, hk11.cell F3 HU.out.2.2.2.2.1, hk11.cell T0 HU.out.2.2.2.2.2.2.1⟩))
              all_goals go_wp2_with fail
              all_goals
                have hk12 := (Keeps.drew (· = X) w10).trans hk11 (fun _ e _ => e)
                have hkw := HU.out.2.2.2.1.trans hk12 (fun i e hi => by have := H6.out.2.2.2.2.2.2; omega)
                exact ⟨⟨k + 1, stepAt x t tv, stepSl x sl, decide (x.kind = 9), by omega, by simp, hwk11, fun h9 => along_step HV.out.1 HR.out.2.1 HR.out.2.2.2.2.2.2 tv (by simpa using h9), blk_kept HU.out.1 hk12 HU.out.2.2.2.2.1, hkw, blk_kept HU.out.2.1 hk12 HU.out.2.2.2.2.2.1, HV.out.2.2.2.1.more hkw⟩, by simp [intOf]; omega⟩
        · have i1 : ¬ ((k : Int) < (tn : Int)) := by omega
          clear hal hfb hb hsee hwk
          have HK : Hid (Keeps None w wr) := hkp
          clear hkp
          go_wp2_with fail
          go_ret
          exact ⟨rfl, HK.out⟩
  · have he1 : (e != 0) = true := by simpa using he0
    go_wp2_with (go_at_call 10; refine hck.mono ?_; rintro _ w3 ⟨rfl, hk3⟩)
    go_ret
    exact ⟨rfl, (H2.out.2.1.trans hk3 (fun _ f _ => f)).andAlloc _⟩
end Go.Proofs.YteidefhlflkaaaaDoor
