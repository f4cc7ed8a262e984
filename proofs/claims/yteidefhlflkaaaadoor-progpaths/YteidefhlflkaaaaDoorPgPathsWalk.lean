import Derived.Test.YteidefhlflkaaaaDoorPgLawFits
import Derived.Test.YteidefhlflkaaaaDoorPgBools
import Derived.Test.YteidefhlflkaaaaDoorPgSound
/-! ProgPaths. -/
namespace Go.Proofs.YteidefhlflkaaaaDoor
set_option linter.unusedVariables false
open Go.RowKit Go.HeapKit

theorem bits_any (s : Int) (w : World) : Calls Tryd.prog 16 #[.int .i64 s] w fun e w' => e = .returned (.int .i64 (bitV s)) ∧ w' = w := by
  by_cases h0 : s = 0
  · subst h0
    go_enter Tryd.func16, Tryd.ntmps16
    go_wp2
    go_ret
    exact ⟨rfl, rfl⟩
  · have q0 : (s == 0) = false := by simpa using h0
    by_cases h1 : s = 1
    · subst h1
      go_enter Tryd.func16, Tryd.ntmps16
      go_wp2
      go_ret
      exact ⟨rfl, rfl⟩
    · have q1 : (s == 1) = false := by simpa using h1
      have hv : bitV s = 4 := by simp [bitV, h0, h1]
      rw [hv]
      go_enter Tryd.func16, Tryd.ntmps16
      go_wp2_with fail
      go_ret
      exact ⟨rfl, rfl⟩
theorem and_bit {n : Nat} {fr : List Pt} (h : Bare n fr) (a : Nat) (ha : a < n) (x : Int) (hm : metV fr (a, bitV x) = true) : ¬ bits BinOp.and .i64 (sumAt fr a) (bitV x) = 0 := by
  rw [sum_at h a ha]
  rcases bit_st x with e | e | e
  · rw [e] at hm ⊢
    rw [hm]
    cases metV fr (a, 2) <;> cases metV fr (a, 4) <;> decide
  · rw [e] at hm ⊢
    rw [hm]
    cases metV fr (a, 1) <;> cases metV fr (a, 4) <;> decide
  · rw [e] at hm ⊢
    rw [hm]
    cases metV fr (a, 1) <;> cases metV fr (a, 2) <;> decide
set_option maxRecDepth 20000 in
set_option maxHeartbeats 4000000 in
theorem paths_walk (a : Option Addr) (n c : Nat) (l : List Fn) (fn : Int) (ta : Option Addr) (tn tc : Nat) (tl : List Bool) (w : World) (hT : Tabs w) (hS : SeenF w a n l) (hok : ∀ f ∈ l, f.Ok) (hfn : okI fn) (hB : SeenB w ta tn tl) (htn : tn ≤ 140737488351232) :
    Calls Tryd.prog 4 #[.agg #[.slice a n c], .int .i64 fn, .slice ta tn tc] w fun e w' => e = .returned (.bool true) ∧ Keeps None w w' := by
  obtain ⟨B, hB0⟩ : ∃ B, B = w.heap.size := ⟨_, rfl⟩
  have hal := Keeps.alloc None w (.cells #[.slice a n c] 24)
  have b1 := heap_alloc_new w (.cells #[.slice a n c] 24)
  rw [← hB0] at b1
  have hck := check_any a n c l _ (hT.more hal) (hS.more hal) hok
  have HS : Hid (Tabs w ∧ SeenF w a n l ∧ (∀ f ∈ l, f.Ok) ∧ okI fn ∧ SeenB w ta tn tl ∧ n = l.length) := ⟨hT, hS, hok, hfn, hB, hS.len⟩
  obtain ⟨wa, hwa⟩ : ∃ wa, wa = w.alloc (.cells #[.slice a n c] 24) := ⟨_, rfl⟩
  rw [← hwa] at b1 hal hck
  obtain ⟨e, he⟩ : ∃ e, e = (checkV l).1 := ⟨_, rfl⟩
  obtain ⟨e2, he2⟩ : ∃ e2, e2 = (checkV l).2.1 := ⟨_, rfl⟩
  obtain ⟨e3, he3⟩ : ∃ e3, e3 = (checkV l).2.2 := ⟨_, rfl⟩
  unfold checkF faultV at hck
  rw [← he, ← he2, ← he3] at hck
  have d0 := (cell_of_heap b1 0).trans rfl
  have HA : Hid (wa.heap[B]? = some (.cells #[.slice a n c] 24 (0, 0)) ∧ Keeps None w wa ∧ B = w.heap.size ∧ e = (checkV l).1) := ⟨b1, hal, hB0, he⟩
  clear b1 hal hT hS hok hfn hB he he2 he3
  go_enter Tryd.func4, Tryd.ntmps4
  go_upto_region 2 with (go_at_call 10; rw [← hwa]; refine hck.mono ?_; rintro _ w3 ⟨rfl, hk3⟩)
  rw [← hB0]
  obtain ⟨w4, hw4⟩ : ∃ w4, w4 = w3.alloc (.cells #[.int .i64 e, .int .i64 e2, .int .i64 e3] 29) := ⟨_, rfl⟩
  obtain ⟨P, hP⟩ : ∃ P, P = w3.heap.size := ⟨_, rfl⟩
  have hal := Keeps.alloc None w3 (.cells #[.int .i64 e, .int .i64 e2, .int .i64 e3] 29)
  have b4 := heap_alloc_new w3 (.cells #[.int .i64 e, .int .i64 e2, .int .i64 e3] 29)
  rw [← hw4] at hal b4
  rw [← hP] at b4
  have hb4 := blk_kept (blk_kept HA.out.1 hk3 (fun f => f)) hal (fun f => f)
  have hkw4 := (HA.out.2.1.trans hk3 (fun _ f _ => f)).trans hal (fun _ f _ => f)
  have d4 := (cell_of_heap hb4 0).trans rfl
  have p4 := (cell_of_heap b4 0).trans rfl
  rw [← hw4, ← hP]
  have H4 : Hid (Keeps None w w4 ∧ w4.heap[B]? = some (.cells #[.slice a n c] 24 (0, 0))) := ⟨hkw4, hb4⟩
  clear hw4 hP hal b4 hb4 hkw4 hk3 hck hwa hB0 d0
  by_cases he0 : e = 0
  · subst he0
    have hv := check_valid (check_zero HA.out.2.2.2.symm)
    have hn1 : 1 ≤ n ∧ n ≤ 32 := by have := HS.out.2.2.2.2.2; omega
    obtain ⟨r, hr⟩ : ∃ r, r = modV fn n := ⟨_, rfl⟩
    have hrn : r < n := by rw [hr]; exact modV_lt fn n (by omega)
    have hmd := mod_any fn n
    rw [← hr] at hmd
    obtain ⟨b, off, f, ca, cc, rfl, hf, hat0⟩ := HS.out.2.1.at hrn
    have hat := hat0.more H4.out.1
    have hV := hv.2.2 f (List.mem_of_getElem? hf)
    have hvb := valid_bounds hV
    obtain ⟨y0, y1, y2, y3, -⟩ := hat
    have hsee := hat0.seen
    obtain ⟨m, hm⟩ : ∃ m, m = f.code.length := ⟨_, rfl⟩
    obtain ⟨q, hq⟩ : ∃ q : Nat, (q : Int) = f.slots := ⟨f.slots.toNat, by omega⟩
    rw [← hm] at y3 hsee
    have hcok := (HS.out.2.2.1 f (List.mem_of_getElem? hf)).code
    have hfl := fun (wx : World) (hk : Keeps None w wx) => flow_valid l f ca cc wx (HS.out.1.more hk) (hm ▸ hsee.more hk) hcok hV m q hm hq
    unfold fnV at hfl
    rw [← hm, ← hq] at hfl
    rw [← hq] at y2
    have HV : Hid (Valid l f ∧ (∀ g ∈ l, 0 ≤ g.params ∧ g.params ≤ 8) ∧ m = f.code.length ∧ SeenI w ca m f.code ∧ (q : Int) = f.slots) := ⟨hV, fun g hg => (valid_bounds (hv.2.2 g hg)).1, hm, hsee, hq⟩
    have HFL : Hid _ := hfl
    have j1 : (1 : Int) ≤ (n : Int) := by omega
    have j2 : (r : Int) < (n : Int) := by omega
    have hfo := HS.out.2.2.2.1
    have hmd2 := fun wx => hmd wx hfo (by omega) hn1.2
    have v5 : (q : Int) ≤ 8 := by omega
    have v3 : f.regs ≤ 16 := hvb.2.1.2.2
    have v1 : 1 ≤ f.regs := hvb.2.1.1
    have v6 : 1 ≤ m := by omega
    have v7 : m ≤ 512 := by omega
    clear hv hV hvb hf hr hmd hm hsee hfo hq hcok hfl hat0
    go_upto_region 4 with fail
    obtain ⟨F, hF⟩ : ∃ F, F = w4.heap.size := ⟨_, rfl⟩
    have HF : Hid (F = w4.heap.size) := hF
    have n1 := World.new_ne w4 _ d4
    have n2 := World.new_ne w4 _ y0
    clear hF
    go_cut [8] (fun s8 wx => s8 = .pointer (some ⟨F, 0, none⟩) ∧ wx.heap[F]? = some (.cells #[.int .i64 f.params, .int .i64 f.regs, .int .i64 q, .slice ca m cc] 33 (0, 0)) ∧ Keeps None w4 wx)
    case first =>
      go_region_held3 (fun w' => w'.cell? ⟨B, 0, none⟩ = some (.slice (some ⟨b, off, none⟩) n c) ∧ w'.cell? ⟨b, off + r * 4, none⟩ = some (.int .i64 f.params) ∧ w'.cell? ⟨b, off + r * 4 + 1, none⟩ = some (.int .i64 f.regs) ∧ w'.cell? ⟨b, off + r * 4 + 2, none⟩ = some (.int .i64 q) ∧ w'.cell? ⟨b, off + r * 4 + 3, none⟩ = some (.slice ca m cc)) (go_keep) (first
        | (go_at_call 11; refine (hmd2 _).mono ?_; rintro e w' ⟨rfl, hw⟩; have hw2 := hw.symm; subst hw2))
      all_goals (go_wp2_with fail; go_meet)
      all_goals
        rw [HF.out]
        exact ⟨rfl, heap_alloc_new w4 _, (Keeps.alloc None w4 _).andDrew⟩
    case rest =>
      obtain ⟨rfl, hfb, hk5⟩ := hcut
      have g0 := (cell_of_heap hfb 0).trans rfl
      have g1 := (cell_of_heap hfb 1).trans rfl
      have g2 := (cell_of_heap hfb 2).trans rfl
      have g3 := (cell_of_heap hfb 3).trans rfl
      have hkw5 := H4.out.1.trans hk5 (fun _ f _ => f)
      have hfl := HFL.out _ hkw5
      have H5 : Hid (wc.heap[F]? = some (.cells #[.int .i64 f.params, .int .i64 f.regs, .int .i64 q, .slice ca m cc] 33 (0, 0)) ∧ Keeps None w wc ∧ wc.heap[B]? = some (.cells #[.slice (some ⟨b, off, none⟩) n c] 24 (0, 0))) := ⟨hfb, hkw5, blk_kept H4.out.2 hk5 (fun f => f)⟩
      clear hfb hk5 n1 n2 d4 p4 y0 y1 y2 y3 hmd2 hkw5
      go_upto_region 6 with (go_at_call 15; refine hfl.mono ?_; rintro _ w5 ⟨g, rfl, hM, hk6, hg⟩)
      replace g2 := hk6.cell g2 (fun f => f)
      replace g3 := hk6.cell g3 (fun f => f)
      have H5b : Hid (IsM w5 g m q m (fun k s => sumAt (searchV f s (0, 0)) k) ∧ Keeps None wc w5 ∧ w.heap.size ≤ g) := ⟨hM, hk6, Nat.le_trans H5.out.2.1.size hg⟩
      clear hM hk6 hg g0 g1 hfl
      go_upto_region 9 with fail
      obtain ⟨w6, hw6⟩ : ∃ w6, w6 = w5.alloc (.cells #[.int .i64 0, .int .i64 0, .int .i64 0, .int .i64 0, .int .i64 0, .int .i64 0, .int .i64 0, .int .i64 0, .int .i64 0, .bool false] 38) := ⟨_, rfl⟩
      obtain ⟨X, hX⟩ : ∃ X, X = w5.heap.size := ⟨_, rfl⟩
      have hal6 := Keeps.alloc None w5 (.cells #[.int .i64 0, .int .i64 0, .int .i64 0, .int .i64 0, .int .i64 0, .int .i64 0, .int .i64 0, .int .i64 0, .int .i64 0, .bool false] 38)
      have b6 := heap_alloc_new w5 (.cells #[.int .i64 0, .int .i64 0, .int .i64 0, .int .i64 0, .int .i64 0, .int .i64 0, .int .i64 0, .int .i64 0, .int .i64 0, .bool false] 38)
      rw [← hw6] at hal6 b6
      rw [← hX] at b6
      rw [← hw6, ← hX]
      have hG := good_of HV.out.1.shape HV.out.1.code
      have hk56 := H5b.out.2.1.trans hal6 (fun _ f _ => f)
      have H6 : Hid (IsWk w6 X 0 (List.replicate 8 0) false ∧ Along f 0 (List.replicate 8 0) ∧ w6.heap[F]? = some (.cells #[.int .i64 f.params, .int .i64 f.regs, .int .i64 q, .slice ca m cc] 33 (0, 0)) ∧ Keeps None w w6 ∧ w6.heap[B]? = some (.cells #[.slice (some ⟨b, off, none⟩) n c] 24 (0, 0)) ∧ IsM w6 g m q m (fun k s => sumAt (searchV f s (0, 0)) k) ∧ w.heap.size ≤ X ∧ Good f) := ⟨⟨b6, by simp⟩, along_start hG (by have := HV.out.2.2.2.2; omega), blk_kept H5.out.1 hk56 (fun f => f), H5.out.2.1.trans hk56 (fun _ f _ => f), blk_kept H5.out.2.2 hk56 (fun f => f), H5b.out.1.kept hal6 (fun _ _ f => f), by rw [hX]; exact Nat.le_trans H5.out.2.1.size H5b.out.2.1.size, hG⟩
      clear hw6 hX hal6 b6 hG hk56 g2 g3
      go_wp2_with fail
      go_loopw [11] (fun s11 wr => ∃ (k : Nat) (at_ : Int) (sl : List Int) (ov : Bool), k ≤ tn + 1 ∧ s11 = .int .i64 k ∧ IsWk wr X at_ sl ov ∧ (ov = false → Along f at_ sl) ∧ wr.heap[F]? = some (.cells #[.int .i64 f.params, .int .i64 f.regs, .int .i64 q, .slice ca m cc] 33 (0, 0)) ∧ Keeps None w wr ∧ wr.heap[B]? = some (.cells #[.slice (some ⟨b, off, none⟩) n c] 24 (0, 0)) ∧ IsM wr g m q m (fun k s => sumAt (searchV f s (0, 0)) k)) (fun i _ => tn + 1 - (intOf i).toNat)
      case atStart => exact ⟨0, 0, _, false, Nat.zero_le _, rfl, H6.out.1, fun _ => H6.out.2.1, H6.out.2.2.1, H6.out.2.2.2.1, H6.out.2.2.2.2.1, H6.out.2.2.2.2.2.1⟩
      case round =>
        obtain ⟨k, at_, sl, ov, hk, rfl, hwk, hal, hfb, hkp, hb, hM⟩ := hrel
        have x9 := hwk.c9
        by_cases hkt : k ≤ tn
        · have i1 : (k : Int) ≤ (tn : Int) := by omega
          cases ov with
          | true =>
            clear hal hfb hb hM hwk
            have HK : Hid (Keeps None w wr) := hkp
            clear hkp
            go_wp2_with fail
            go_ret
            exact ⟨rfl, HK.out⟩
          | false =>
            have hAl := hal rfl
            obtain ⟨t, ht⟩ : ∃ t : Nat, at_ = t := ⟨at_.toNat, (Int.toNat_of_nonneg hAl.a0).symm⟩
            subst ht
            have htm : t < m := by have := hAl.a1; have := HV.out.2.2.1; omega
            obtain ⟨bI, oI, x, rfl, hx, hatI⟩ := (HV.out.2.2.2.1.more hkp).at htm
            obtain ⟨y0, y1, y2, y3, y4⟩ := hatI
            have x0 := hwk.c0
            have f2 := (cell_of_heap hfb 2).trans rfl
            have r0 := hM.row htm htm
            have i2 : ¬ ((t : Int) < 0) := by omega
            have i3 : (t : Int) < (m : Int) := by omega
            have i4 : ¬ ((m : Int) ≤ (t : Int)) := by omega
            have i5 : decide ((t : Int) < 0) = false := by simp
            have i6 : decide ((m : Int) ≤ (t : Int)) = false := by simpa using i3
            have HR : Hid (IsWk wr X t sl false ∧ Along f t sl ∧ wr.heap[F]? = some (.cells #[.int .i64 f.params, .int .i64 f.regs, .int .i64 q, .slice (some ⟨bI, oI, none⟩) m cc] 33 (0, 0)) ∧ Keeps None w wr ∧ wr.heap[B]? = some (.cells #[.slice (some ⟨b, off, none⟩) n c] 24 (0, 0)) ∧ IsM wr g m q m (fun k s => sumAt (searchV f s (0, 0)) k) ∧ f.code[t]? = some x) := ⟨hwk, hAl, hfb, hkp, hb, hM, hx⟩
            clear hal hAl hfb hb hwk hkp hx hM y0 y1 y2 y3 y4
            go_upto_region 12 with fail
            go_quiet (fail)
            go_upto_region 14 with fail
            obtain ⟨wq, hwq⟩ : ∃ wq, wq = wr.drewN nq := ⟨_, rfl⟩
            have hkq : Keeps None wr wq := by rw [hwq]; exact Keeps.drewN None wr nq
            rw [← hwq]
            have HQ : Hid (Keeps None wr wq) := hkq
            clear hwq hkq x0 f2 r0 x9
            go_wp2_with fail
            go_loopw [12] (fun s12 wx => ∃ s : Nat, s ≤ q ∧ s12 = .int .i64 s ∧ Keeps None wr wx) (fun i _ => q - (intOf i).toNat)
            case atStart => exact ⟨0, Nat.zero_le _, rfl, HQ.out⟩
            case round =>
              obtain ⟨s, hs, rfl, hks⟩ := hrel
              have f2 := (cell_of_heap (blk_kept HR.out.2.2.1 hks (fun f => f)) 2).trans rfl
              have hwk := HR.out.1.kept hks (fun f => f)
              have hM := HR.out.2.2.2.2.2.1.kept hks (fun _ _ f => f)
              by_cases hsq : s < q
              · have i7 : (s : Int) < (q : Int) := by omega
                have i8 : (s : Int) < 8 := by omega
                have x0 := hwk.c0
                have xs := hwk.at (k := s) (by omega)
                have r0 := hM.row htm htm
                have r1 := hM.cell htm hsq
                have hnz := and_bit (search_bare H6.out.2.2.2.2.2.2.2 s (0, 0)) t (by have := HV.out.2.2.1; omega) (sl.getD s 0) (HR.out.2.1.met s (by have := HV.out.2.2.2.2; omega))
                obtain ⟨vv, hvv⟩ : ∃ vv, vv = sumAt (searchV f s (0, 0)) t := ⟨_, rfl⟩
                obtain ⟨xv, hxv⟩ : ∃ xv, xv = sl.getD s 0 := ⟨_, rfl⟩
                rw [← hvv] at r1 hnz
                rw [← hxv] at xs hnz
                have hbt := bits_any xv
                obtain ⟨bv, hbv⟩ : ∃ bv, bv = bitV xv := ⟨_, rfl⟩
                rw [← hbv] at hbt hnz
                have hnz' : (bits BinOp.and .i64 vv bv == 0) = false := by simpa using hnz
                have HK : Hid _ := hks
                clear hwk hM hvv hxv hbv hks
                go_upto_region 17 with fail
                go_quiet ((go_at_call 16; exact Calls.quiet_of_same (hbt _)))
                go_wp2_with fail
                exact ⟨⟨s + 1, by omega, by simp, HK.out.trans (Keeps.drewN None _ _) (fun _ f _ => f)⟩, by simp [intOf]; omega⟩
              · have i7 : ¬ ((s : Int) < (q : Int)) := by omega
                have hkw := HR.out.2.2.2.1.trans hks (fun _ f _ => f)
                obtain ⟨bI', oI', x', hca', hx', hatI⟩ := (HV.out.2.2.2.1.more hkw).at htm
                injection hca' with hca'
                injection hca' with hc1 hc2 _
                subst hc1 hc2
                rw [HR.out.2.2.2.2.2.2] at hx'
                obtain rfl := Option.some.inj hx'
                obtain ⟨y0, y1, y2, y3, y4⟩ := hatI
                have x0 := hwk.c0
                have hfb := blk_kept HR.out.2.2.1 hks (fun f => f)
                have f3 := (cell_of_heap hfb 3).trans rfl
                have hb := blk_kept HR.out.2.2.2.2.1 hks (fun f => f)
                have n1 := World.new_ne wr _ f3
                have n2 := World.new_ne wr _ x0
                have n3 := World.new_ne wr _ y0
                obtain ⟨Y, hY⟩ : ∃ Y, Y = wr.heap.size := ⟨_, rfl⟩
                have HY : Hid (Y = wr.heap.size ∧ IsWk wr X t sl false ∧ wr.heap[F]? = some (.cells #[.int .i64 f.params, .int .i64 f.regs, .int .i64 q, .slice (some ⟨bI, oI, none⟩) m cc] 33 (0, 0)) ∧ Keeps None w wr ∧ wr.heap[B]? = some (.cells #[.slice (some ⟨b, off, none⟩) n c] 24 (0, 0)) ∧ IsM wr g m q m (fun k s => sumAt (searchV f s (0, 0)) k)) := ⟨hY, hwk, hfb, hkw, hb, hM⟩
                clear hY hwk hfb hkw hb hM hks
                go_upto_region 19 with fail
                go_cut [13] (fun s13 wx => s13 = .pointer (some ⟨Y, 0, none⟩) ∧ wx.heap[Y]? = some (.cells #[.int .i64 x.kind, .int .i64 x.a, .int .i64 x.b, .int .i64 x.c, .int .i64 x.k] 40 (0, 0)) ∧ Keeps None wr wx)
                case first =>
                  go_region_held3 (fun w' => w'.cell? ⟨F, 3, none⟩ = some (.slice (some ⟨bI, oI, none⟩) m cc) ∧ w'.cell? ⟨X, 0, none⟩ = some (.int .i64 t) ∧ w'.cell? ⟨bI, oI + t * 5, none⟩ = some (.int .i64 x.kind) ∧ w'.cell? ⟨bI, oI + t * 5 + 1, none⟩ = some (.int .i64 x.a) ∧ w'.cell? ⟨bI, oI + t * 5 + 2, none⟩ = some (.int .i64 x.b) ∧ w'.cell? ⟨bI, oI + t * 5 + 3, none⟩ = some (.int .i64 x.c) ∧ w'.cell? ⟨bI, oI + t * 5 + 4, none⟩ = some (.int .i64 x.k)) (go_keep) (fail)
                  all_goals (go_wp2_with fail; go_meet)
                  all_goals
                    rw [HY.out.1]
                    exact ⟨rfl, heap_alloc_new wr _, (Keeps.alloc None wr _).andDrew⟩
                case rest =>
                  obtain ⟨rfl, hyb, hk7⟩ := hcut
                  have hwk := HY.out.2.1.kept hk7 (fun f => f)
                  have hfb := blk_kept HY.out.2.2.1 hk7 (fun f => f)
                  have hb := blk_kept HY.out.2.2.2.2.1 hk7 (fun f => f)
                  have hkw := HY.out.2.2.2.1.trans hk7 (fun _ f _ => f)
                  have hM := HY.out.2.2.2.2.2.kept hk7 (fun _ _ f => f)
                  have B0 := (cell_of_heap hb 0).trans rfl
                  have F0 := (cell_of_heap hfb 0).trans rfl
                  have F1 := (cell_of_heap hfb 1).trans rfl
                  have F2 := (cell_of_heap hfb 2).trans rfl
                  have F3 := (cell_of_heap hfb 3).trans rfl
                  have Y0 := (cell_of_heap hyb 0).trans rfl
                  have Y1 := (cell_of_heap hyb 1).trans rfl
                  have Y2 := (cell_of_heap hyb 2).trans rfl
                  have Y3 := (cell_of_heap hyb 3).trans rfl
                  have Y4 := (cell_of_heap hyb 4).trans rfl
                  have hfx := (code_parts HV.out.1.code).1 t x HR.out.2.2.2.2.2.2
                  have hlf := lawfits_any (some ⟨b, off, none⟩) n c l f (some ⟨bI, oI, none⟩) cc x wc (HS.out.2.1.more hkw) ⟨by omega, v3⟩ HV.out.2.1 hfx
                  unfold fnV insV at hlf
                  rw [← HV.out.2.2.1, ← HV.out.2.2.2.2] at hlf
                  have hwy := fits_ways hfx
                  have h5 : x.kind = 5 → 0 ≤ x.a ∧ x.a < 8 := fun e => by
                    have h1 := hwy.1
                    rw [e] at h1
                    have := (belowV_iff _ _).1 (show belowV x.a f.slots = true from h1)
                    have := HV.out.2.2.2.2
                    omega
                  have HT : Hid (IsWk wc X t sl false ∧ wc.heap[F]? = some (.cells #[.int .i64 f.params, .int .i64 f.regs, .int .i64 q, .slice (some ⟨bI, oI, none⟩) m cc] 33 (0, 0)) ∧ wc.heap[B]? = some (.cells #[.slice (some ⟨b, off, none⟩) n c] 24 (0, 0)) ∧ Keeps None w wc ∧ (x.kind = 5 → 0 ≤ x.a ∧ x.a < 8) ∧ IsM wc g m q m (fun k s => sumAt (searchV f s (0, 0)) k)) := ⟨hwk, hfb, hb, hkw, h5, hM⟩
                  clear hwk hfb hb hkw hyb hk7 hfx hwy h5 hM n1 n2 n3 x0 f3 y0 y1 y2 y3 y4
                  by_cases hkt2 : k < tn
                  · have i9 : (k : Int) < (tn : Int) := by omega
                    go_upto_region 23 with (go_at_call 12; refine hlf.mono ?_; rintro _ w10 ⟨rfl, hk11⟩)
                    have hkw := HT.out.2.2.2.1.trans hk11 (fun _ f _ => f)
                    obtain ⟨tb, tq, hta, htlt, htc⟩ := (HS.out.2.2.2.2.1.more hkw (fun _ _ f => f)).ex (by omega)
                    obtain ⟨tv, htv⟩ : ∃ tv, tl[k]? = some tv := ⟨tl[k]'(by have := HS.out.2.2.2.2.1.len; omega), List.getElem?_eq_getElem _⟩
                    have T0 := htc k tv htv
                    have hwt : tb < w.heap.size := by
                      obtain ⟨tb', tq', hta', h', _⟩ := HS.out.2.2.2.2.1.ex (by omega)
                      rw [hta] at hta'
                      injection hta' with e
                      injection e with e1 _ _
                      omega
                    subst hta
                    have hwk := HT.out.1.kept hk11 (fun f => f)
                    have hfb := blk_kept HT.out.2.1 hk11 (fun f => f)
                    have hb := blk_kept HT.out.2.2.1 hk11 (fun f => f)
                    replace F0 := hk11.cell F0 (fun f => f)
                    replace F1 := hk11.cell F1 (fun f => f)
                    replace F2 := hk11.cell F2 (fun f => f)
                    replace F3 := hk11.cell F3 (fun f => f)
                    have hst := steps_any X t sl tv f (some ⟨bI, oI, none⟩) cc m x w10.drew (hwk.kept (Keeps.drew None _) (fun f => f)) HV.out.2.2.1 v7 ((HV.out.2.2.2.1.more hkw).more (Keeps.drew None _)) HR.out.2.2.2.2.2.2 HT.out.2.2.2.2.1
                    unfold fnV at hst
                    rw [← HV.out.2.2.1, ← HV.out.2.2.2.2] at hst
                    have nF : ¬ F = X := blk_ne hfb hwk.blk (by decide)
                    have nB : ¬ B = X := blk_ne hb hwk.blk (by decide)
                    have nT : ¬ tb = X := by have := H6.out.2.2.2.2.2.2.1; omega
                    have HU : Hid (w10.heap[F]? = some (.cells #[.int .i64 f.params, .int .i64 f.regs, .int .i64 q, .slice (some ⟨bI, oI, none⟩) m cc] 33 (0, 0)) ∧ w10.heap[B]? = some (.cells #[.slice (some ⟨b, off, none⟩) n c] 24 (0, 0)) ∧ IsM w10 g m q m (fun k s => sumAt (searchV f s (0, 0)) k) ∧ Keeps None w w10 ∧ ¬ F = X ∧ ¬ B = X ∧ ¬ tb = X ∧ w10.heap[X]? = some (.cells (walkL t sl false).toArray 38 (0, 0))) := ⟨hfb, hb, HT.out.2.2.2.2.2.kept hk11 (fun _ _ f => f), hkw, nF, nB, nT, hwk.blk⟩
                    clear hk11 hkw hwk hfb hb htc htv htlt nF nB nT Y0 Y1 Y2 Y3 Y4 B0
                    go_region_held3 (fun w' => w'.cell? ⟨F, 0, none⟩ = some (.int .i64 f.params) ∧ w'.cell? ⟨F, 1, none⟩ = some (.int .i64 f.regs) ∧ w'.cell? ⟨F, 2, none⟩ = some (.int .i64 q) ∧ w'.cell? ⟨F, 3, none⟩ = some (.slice (some ⟨bI, oI, none⟩) m cc) ∧ w'.cell? ⟨tb, tq + k, none⟩ = some (.bool tv)) (first | with_reducible exact hs2 | go_keep) (first
                      | (go_at_call 14; refine hst.mono ?_; rintro _ w11 ⟨rfl, hwk11, hk11⟩; have hs2 : w11.cell? ⟨F, 0, none⟩ = some (.int .i64 f.params) ∧ w11.cell? ⟨F, 1, none⟩ = some (.int .i64 f.regs) ∧ w11.cell? ⟨F, 2, none⟩ = some (.int .i64 q) ∧ w11.cell? ⟨F, 3, none⟩ = some (.slice (some ⟨bI, oI, none⟩) m cc) ∧ w11.cell? ⟨tb, tq + k, none⟩ = some (.bool tv) := ⟨hk11.cell F0 HU.out.2.2.2.2.1, hk11.cell F1 HU.out.2.2.2.2.1, hk11.cell F2 HU.out.2.2.2.2.1, hk11.cell F3 HU.out.2.2.2.2.1, hk11.cell T0 HU.out.2.2.2.2.2.2.1⟩))
                    all_goals go_wp2_with fail
                    all_goals
                      have hk12 := (Keeps.drew (· = X) w10).trans hk11 (fun _ e _ => e)
                      have hkw := HU.out.2.2.2.1.trans hk12 (fun i e hi => by have := H6.out.2.2.2.2.2.2.1; omega)
                      have hM' : IsM w11 g m q m (fun k s => sumAt (searchV f s (0, 0)) k) := ⟨blk_kept HU.out.2.2.1.outer hk12 (blk_ne HU.out.2.2.1.outer HU.out.2.2.2.2.2.2.2 (by decide)), fun j hj => blk_kept (HU.out.2.2.1.rows j hj) hk12 (blk_ne (HU.out.2.2.1.rows j hj) HU.out.2.2.2.2.2.2.2 (by decide))⟩
                      exact ⟨⟨k + 1, stepAt x t tv, stepSl x sl, decide (x.kind = 9), by omega, by simp, hwk11, fun h9 => along_step HV.out.1 HR.out.2.1 HR.out.2.2.2.2.2.2 tv (by simpa using h9), blk_kept HU.out.1 hk12 HU.out.2.2.2.2.1, hkw, blk_kept HU.out.2.1 hk12 HU.out.2.2.2.2.2.1, hM'⟩, by simp [intOf]; omega⟩
                  · have i9 : ¬ ((k : Int) < (tn : Int)) := by omega
                    go_wp2_with (go_at_call 12; refine hlf.mono ?_; rintro _ w10 ⟨rfl, hk11⟩)
                    have hkw := HT.out.2.2.2.1.trans hk11 (fun _ f _ => f)
                    exact ⟨⟨k + 1, t, sl, false, by omega, by simp, HT.out.1.kept hk11 (fun f => f), fun _ => HR.out.2.1, blk_kept HT.out.2.1 hk11 (fun f => f), hkw, blk_kept HT.out.2.2.1 hk11 (fun f => f), HT.out.2.2.2.2.2.kept hk11 (fun _ _ f => f)⟩, by simp [intOf]; omega⟩
        · have i1 : ¬ ((k : Int) ≤ (tn : Int)) := by omega
          clear hal hfb hb hM hwk
          have HK : Hid (Keeps None w wr) := hkp
          clear hkp
          go_wp2_with fail
          go_ret
          exact ⟨rfl, HK.out⟩
  · have he1 : (e != 0) = true := by simpa using he0
    have hhd := head_any w4 (HS.out.1.more H4.out.1)
    go_wp2_with (go_at_call 9; refine hhd.mono ?_; rintro _ w6 ⟨rfl, hk6⟩)
    go_ret
    exact ⟨rfl, H4.out.1.trans hk6 (fun _ f _ => f)⟩
end Go.Proofs.YteidefhlflkaaaaDoor
