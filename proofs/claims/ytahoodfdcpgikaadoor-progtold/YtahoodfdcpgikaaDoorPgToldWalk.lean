import Derived.Test.YtahoodfdcpgikaaDoorPgToldP
/-! ProgTold. -/
namespace Go.Proofs.YtahoodfdcpgikaaDoor
set_option linter.unusedVariables false
set_option maxRecDepth 20000
open Go.RowKit Go.HeapKit
set_option maxRecDepth 20000 in
set_option maxHeartbeats 4000000 in
theorem told_walk (a : Option Addr) (n c : Nat) (l : List Fn) (w : World) (hT : Tabs w) (hS : SeenF w a n l) (hok : ∀ f ∈ l, f.Ok) :
    Calls Tryd.prog 3 #[.agg #[.slice a n c]] w fun e w' => e = .returned (.bool true) ∧ Keeps None w w' := by
  obtain ⟨B, hB0⟩ : ∃ B, B = w.heap.size := ⟨_, rfl⟩
  have hal := Keeps.alloc None w (.cells #[.slice a n c] 24)
  have b1 := heap_alloc_new w (.cells #[.slice a n c] 24)
  rw [← hB0] at b1
  have hck := check_any a n c l _ (hT.more hal) (hS.more hal) hok
  have HS : Hid (Tabs w ∧ SeenF w a n l ∧ (∀ f ∈ l, f.Ok) ∧ n = l.length) := ⟨hT, hS, hok, hS.len⟩
  obtain ⟨wa, hwa⟩ : ∃ wa, wa = w.alloc (.cells #[.slice a n c] 24) := ⟨_, rfl⟩
  rw [← hwa] at b1 hal hck
  obtain ⟨e, he⟩ : ∃ e, e = (checkV l).1 := ⟨_, rfl⟩
  obtain ⟨e2, he2⟩ : ∃ e2, e2 = (checkV l).2.1 := ⟨_, rfl⟩
  obtain ⟨e3, he3⟩ : ∃ e3, e3 = (checkV l).2.2 := ⟨_, rfl⟩
  unfold checkF faultV at hck
  rw [← he, ← he2, ← he3] at hck
  have d0 := (cell_of_heap b1 0).trans rfl
  have HA : Hid (wa.heap[B]? = some (.cells #[.slice a n c] 24 (0, 0)) ∧ Keeps None w wa ∧ B = w.heap.size ∧ e = (checkV l).1 ∧ e2 = (checkV l).2.1 ∧ e3 = (checkV l).2.2) := ⟨b1, hal, hB0, he, he2, he3⟩
  clear b1 hal hT hS hok he he2 he3
  go_enter Tryd.func3, Tryd.ntmps3
  go_upto_region 2 with (go_at_call 6; rw [← hwa]; refine hck.mono ?_; rintro _ w3 ⟨rfl, hk3⟩)
  rw [← hB0]
  obtain ⟨w4, hw4⟩ : ∃ w4, w4 = w3.alloc (.cells #[.int .i64 e, .int .i64 e2, .int .i64 e3] 27) := ⟨_, rfl⟩
  obtain ⟨P, hP⟩ : ∃ P, P = w3.heap.size := ⟨_, rfl⟩
  have hal := Keeps.alloc None w3 (.cells #[.int .i64 e, .int .i64 e2, .int .i64 e3] 27)
  have b4 := heap_alloc_new w3 (.cells #[.int .i64 e, .int .i64 e2, .int .i64 e3] 27)
  rw [← hw4] at hal b4
  rw [← hP] at b4
  have hb4 := blk_kept (blk_kept HA.out.1 hk3 (fun f => f)) hal (fun f => f)
  have hkw4 := (HA.out.2.1.trans hk3 (fun _ f _ => f)).trans hal (fun _ f _ => f)
  have d4 := (cell_of_heap hb4 0).trans rfl
  have p4 := (cell_of_heap b4 0).trans rfl
  rw [← hw4, ← hP]
  have H4 : Hid (Keeps None w w4 ∧ w4.heap[B]? = some (.cells #[.slice a n c] 24 (0, 0)) ∧ w4.heap[P]? = some (.cells #[.int .i64 e, .int .i64 e2, .int .i64 e3] 27 (0, 0))) := ⟨hkw4, hb4, b4⟩
  clear hw4 hP hal b4 hb4 hkw4 hk3 hck hwa hB0 d0
  by_cases hn4 : e = 54 ∨ e = 55 ∨ e = 56
  · obtain ⟨hl32, j, t, s0, f, i, hf, hj, ht, hsh, hcf, hi, hs0, hto⟩ := check_told (fs := l) (e := e) (k := e2) (a := e3) (by rw [HA.out.2.2.2.1, HA.out.2.2.2.2.1, HA.out.2.2.2.2.2]) hn4
    subst hj ht
    have hjn : j < n := by have := (List.getElem?_eq_some_iff.1 hf).1; have := HS.out.2.2.2; omega
    obtain ⟨b, off, f', ca, cc, rfl, hf', hatf⟩ := HS.out.2.1.at hjn
    obtain rfl : f = f' := Option.some.inj (hf.symm.trans hf')
    have hmem := List.mem_of_getElem? hf
    obtain ⟨m, hm⟩ : ∃ m, m = f.code.length := ⟨_, rfl⟩
    have htm : t < m := by have := (List.getElem?_eq_some_iff.1 hi).1; omega
    have hsee := hatf.seen
    rw [← hm] at hsee
    obtain ⟨bI, oI, i', rfl, hi', hatI⟩ := hsee.at htm
    obtain rfl : i = i' := Option.some.inj (hi.symm.trans hi')
    have hpar : ∀ g ∈ l, 0 ≤ g.params ∧ g.params ≤ 8 := fun g hg => by
      have h := hsh g hg
      simp only [shapeV, Bool.and_eq_true, decide_eq_true_eq] at h
      omega
    have hsh2 : 0 ≤ f.slots ∧ f.slots ≤ 8 ∧ m ≤ 512 := by
      have h := hsh f hmem
      simp only [shapeV, Bool.and_eq_true, decide_eq_true_eq] at h
      omega
    obtain ⟨q, hq⟩ : ∃ q : Nat, (q : Int) = f.slots := ⟨f.slots.toNat, by omega⟩
    have hs0q : s0 < q := by omega
    have v5 : (q : Int) ≤ 8 := by omega
    have v7 : m ≤ 512 := hsh2.2.2
    have HV : Hid (shapeV f = true ∧ codeFault false l f = none ∧ (∀ g ∈ l, 0 ≤ g.params ∧ g.params ≤ 8) ∧ m = f.code.length ∧ (q : Int) = f.slots ∧ SeenI w (some ⟨bI, oI, none⟩) m f.code ∧ f.code[t]? = some i ∧ ToldAt f i e s0 t ∧ (∀ x ∈ f.code, x.Ok)) := ⟨hsh f hmem, hcf f hmem, hpar, hm, hq, hsee, hi, hto, (HS.out.2.2.1 f hmem).code⟩
    have y := hatf.more H4.out.1
    obtain ⟨y0, y1, y2, y3, -⟩ := y
    rw [← hm] at y3
    rw [← hq] at y2
    obtain ⟨x0, x1, x2, x3, x4⟩ := hatI
    have z0 := H4.out.1.cell x0 (fun f => f)
    have z1 := H4.out.1.cell x1 (fun f => f)
    have z2 := H4.out.1.cell x2 (fun f => f)
    have z3 := H4.out.1.cell x3 (fun f => f)
    have z4 := H4.out.1.cell x4 (fun f => f)
    have p1 := (cell_of_heap H4.out.2.2 1).trans rfl
    have p2 := (cell_of_heap H4.out.2.2 2).trans rfl
    have j0 : ¬ ((j : Int) < 0) := by omega
    have j1 : ¬ ((n : Int) ≤ (j : Int)) := by omega
    have j2 : ¬ ((t : Int) < 0) := by omega
    have j3 : ¬ ((m : Int) ≤ (t : Int)) := by omega
    have k0 : decide ((j : Int) < 0) = false := by simp
    have k1 : decide ((n : Int) ≤ (j : Int)) = false := by simpa using j1
    have k2 : decide ((t : Int) < 0) = false := by simp
    have k3 : decide ((m : Int) ≤ (t : Int)) = false := by simpa using j3
    have j4 : (j : Int) < (n : Int) := by omega
    have j5 : (t : Int) < (m : Int) := by omega
    clear hsh hcf hf hf' hi hi' hto hatf hsee x0 x1 x2 x3 x4 hmem hpar hsh2 hq hm hs0 hl32
    go_cut [27] (fun s27 wx => s27 = .bool false ∧ wx = w4)
    case first =>
      rcases hn4 with rfl | rfl | rfl
      all_goals (go_wp2_with fail; go_meet)
      all_goals exact ⟨rfl, rfl⟩
    case rest =>
      obtain ⟨rfl, hcut⟩ := hcut
      have hcut2 := hcut.symm
      subst hcut2
      go_upto_region 4 with fail
      go_cut [57] (fun s57 wx => s57 = .bool false ∧ Keeps None w4 wx)
      case first =>
        go_quiet (fail)
        go_wp2_with fail
        go_meet
        exact ⟨rfl, Keeps.drewN None _ _⟩
      case rest =>
        obtain ⟨rfl, hk4⟩ := hcut
        replace d4 := hk4.cell d4 (fun f => f)
        replace p1 := hk4.cell p1 (fun f => f)
        replace p2 := hk4.cell p2 (fun f => f)
        replace y0 := hk4.cell y0 (fun f => f)
        replace y1 := hk4.cell y1 (fun f => f)
        replace y2 := hk4.cell y2 (fun f => f)
        replace y3 := hk4.cell y3 (fun f => f)
        replace z0 := hk4.cell z0 (fun f => f)
        replace z1 := hk4.cell z1 (fun f => f)
        replace z2 := hk4.cell z2 (fun f => f)
        replace z3 := hk4.cell z3 (fun f => f)
        replace z4 := hk4.cell z4 (fun f => f)
        have H5 : Hid (Keeps None w wc ∧ wc.heap[B]? = some (.cells #[.slice (some ⟨b, off, none⟩) n c] 24 (0, 0)) ∧ wc.heap[P]? = some (.cells #[.int .i64 e, .int .i64 j, .int .i64 t] 27 (0, 0))) := ⟨H4.out.1.trans hk4 (fun _ f _ => f), blk_kept H4.out.2.1 hk4 (fun f => f), blk_kept H4.out.2.2 hk4 (fun f => f)⟩
        clear hk4 p4
        obtain ⟨F, hF⟩ : ∃ F, F = wc.heap.size := ⟨_, rfl⟩
        have HF : Hid (F = wc.heap.size) := hF
        have n1 := World.new_ne wc _ d4
        have n2 := World.new_ne wc _ y0
        have n3 := World.new_ne wc _ p1
        clear hF
        go_upto_region 6 with fail
        go_cut [4] (fun s4 wx => s4 = .pointer (some ⟨F, 0, none⟩) ∧ wx.heap[F]? = some (.cells #[.int .i64 f.params, .int .i64 f.regs, .int .i64 q, .slice (some ⟨bI, oI, none⟩) m cc] 32 (0, 0)) ∧ Keeps None wc wx)
        case first =>
          go_wp2_with fail
          go_meet
          rw [HF.out]
          exact ⟨rfl, heap_alloc_new wc _, Keeps.alloc None wc _⟩
        case rest =>
          obtain ⟨rfl, hfb, hk6⟩ := hcut
          have F3 := (cell_of_heap hfb 3).trans rfl
          replace p2 := hk6.cell p2 (fun f => f)
          replace z0 := hk6.cell z0 (fun f => f)
          replace z1 := hk6.cell z1 (fun f => f)
          replace z2 := hk6.cell z2 (fun f => f)
          replace z3 := hk6.cell z3 (fun f => f)
          replace z4 := hk6.cell z4 (fun f => f)
          have H6 : Hid (Keeps None w wc ∧ wc.heap[B]? = some (.cells #[.slice (some ⟨b, off, none⟩) n c] 24 (0, 0)) ∧ wc.heap[P]? = some (.cells #[.int .i64 e, .int .i64 j, .int .i64 t] 27 (0, 0)) ∧ wc.heap[F]? = some (.cells #[.int .i64 f.params, .int .i64 f.regs, .int .i64 q, .slice (some ⟨bI, oI, none⟩) m cc] 32 (0, 0))) := ⟨H5.out.1.trans hk6 (fun _ f _ => f), blk_kept H5.out.2.1 hk6 (fun f => f), blk_kept H5.out.2.2 hk6 (fun f => f), hfb⟩
          clear hk6 hfb d4 p1 y0 y1 y2 y3 n1 n2 n3
          obtain ⟨Y, hY⟩ : ∃ Y, Y = wc.heap.size := ⟨_, rfl⟩
          have HY : Hid (Y = wc.heap.size) := hY
          have n1 := World.new_ne wc _ F3
          have n2 := World.new_ne wc _ p2
          have n3 := World.new_ne wc _ z0
          clear hY
          go_upto_region 7 with fail
          go_cut [5] (fun s5 wx => s5 = .pointer (some ⟨Y, 0, none⟩) ∧ wx.heap[Y]? = some (.cells #[.int .i64 i.kind, .int .i64 i.a, .int .i64 i.b, .int .i64 i.c, .int .i64 i.k] 34 (0, 0)) ∧ Keeps None wc wx)
          case first =>
            go_wp2_with fail
            go_meet
            rw [HY.out]
            exact ⟨rfl, heap_alloc_new wc _, Keeps.alloc None wc _⟩
          case rest =>
            obtain ⟨rfl, hyb, hk7⟩ := hcut
            have H7 : Hid (Keeps None w wc ∧ wc.heap[B]? = some (.cells #[.slice (some ⟨b, off, none⟩) n c] 24 (0, 0)) ∧ wc.heap[P]? = some (.cells #[.int .i64 e, .int .i64 j, .int .i64 t] 27 (0, 0)) ∧ wc.heap[F]? = some (.cells #[.int .i64 f.params, .int .i64 f.regs, .int .i64 q, .slice (some ⟨bI, oI, none⟩) m cc] 32 (0, 0)) ∧ wc.heap[Y]? = some (.cells #[.int .i64 i.kind, .int .i64 i.a, .int .i64 i.b, .int .i64 i.c, .int .i64 i.k] 34 (0, 0))) := ⟨H6.out.1.trans hk7 (fun _ f _ => f), blk_kept H6.out.2.1 hk7 (fun f => f), blk_kept H6.out.2.2.1 hk7 (fun f => f), blk_kept H6.out.2.2.2 hk7 (fun f => f), hyb⟩
            have f2 := (cell_of_heap H7.out.2.2.2.1 2).trans rfl
            have j6 : ¬ ((q : Int) < 0) := by omega
            have j7 : ¬ ((8 : Int) < (q : Int)) := by omega
            clear hk7 hyb F3 p2 z0 z1 z2 z3 z4 n1 n2 n3
            go_upto_region 10 with fail
            clear f2
            go_wp2_with fail
            go_loopw [6] (fun s6 wr => ∃ s : Nat, s ≤ s0 ∧ s6 = .int .i64 s ∧ Keeps None wc wr) (fun i _ => q - (intOf i).toNat)
            case atStart => exact ⟨0, Nat.zero_le _, rfl, Keeps.refl _ _⟩
            case round =>
              obtain ⟨s, hs, rfl, hks⟩ := hrel
              have i7 : (s : Int) < (q : Int) := by omega
              have HTL : Hid (t < f.code.length ∧ (s : Int) < f.slots) := ⟨by have := HV.out.2.2.2.1; omega, by have := HV.out.2.2.2.2.1; omega⟩
              have hkw := H7.out.1.trans hks (fun _ f _ => f)
              have hfb := blk_kept H7.out.2.2.2.1 hks (fun f => f)
              have hp := blk_kept H7.out.2.2.1 hks (fun f => f)
              have F0 := (cell_of_heap hfb 0).trans rfl
              have F1 := (cell_of_heap hfb 1).trans rfl
              have F2 := (cell_of_heap hfb 2).trans rfl
              have F3 := (cell_of_heap hfb 3).trans rfl
              have P2 := (cell_of_heap hp 2).trans rfl
              have htr2 := trail_two l f (some ⟨bI, oI, none⟩) cc t s 2 wr (HS.out.1.more hkw) (by rw [← HV.out.2.2.2.1]; exact HV.out.2.2.2.2.2.1.more hkw) HV.out.2.2.2.2.2.2.2.2 HV.out.1 HV.out.2.1 HTL.out.1 HTL.out.2 (.inr (.inl rfl))
              unfold fnV at htr2
              rw [← HV.out.2.2.2.1, ← HV.out.2.2.2.2.1, show ((2 : Nat) : Int) = 2 from rfl] at htr2
              have HK : Hid _ := And.intro hkw hks
              clear hkw hks hfb hp
              go_upto_region 13 with fail
              go_cut [7, 8] (fun s7 s8 wx => TrailR f s t 2 wx s7 s8 ∧ Keeps None wr wx)
              case first =>
                go_wp2_with (go_at_call 8; refine htr2.mono ?_; rintro _ w13 ⟨hk13, tv, tc, rfl, hR13⟩)
                go_meet
                exact ⟨hR13, hk13⟩
              case rest =>
                obtain ⟨hR2, hk13⟩ := hcut
                have hkw := HK.out.1.trans hk13 (fun _ f _ => f)
                have hks := HK.out.2.trans hk13 (fun _ f _ => f)
                replace F0 := hk13.cell F0 (fun f => f)
                replace F1 := hk13.cell F1 (fun f => f)
                replace F2 := hk13.cell F2 (fun f => f)
                replace F3 := hk13.cell F3 (fun f => f)
                replace P2 := hk13.cell P2 (fun f => f)
                have htr1 := trail_two l f (some ⟨bI, oI, none⟩) cc t s 1 wc (HS.out.1.more hkw) (by rw [← HV.out.2.2.2.1]; exact HV.out.2.2.2.2.2.1.more hkw) HV.out.2.2.2.2.2.2.2.2 HV.out.1 HV.out.2.1 HTL.out.1 HTL.out.2 (.inl rfl)
                unfold fnV at htr1
                rw [← HV.out.2.2.2.1, ← HV.out.2.2.2.2.1, show ((1 : Nat) : Int) = 1 from rfl] at htr1
                have HK1 : Hid _ := And.intro hkw hks
                have HT2 : Hid (TrailR f s t 2 wc u7 u8) := hR2
                clear hkw hks hR2 hk13 htr2
                go_upto_region 14 with fail
                go_cut [9, 10] (fun s9 s10 wx => TrailR f s t 1 wx s9 s10 ∧ Keeps None wc wx)
                case first =>
                  go_wp2_with (go_at_call 8; refine htr1.mono ?_; rintro _ w14 ⟨hk14, tv, tc, rfl, hR14⟩)
                  go_meet
                  exact ⟨hR14, hk14⟩
                case rest =>
                  obtain ⟨hR1, hk14⟩ := hcut
                  have hR2 : TrailR f s t 2 wc u7 u8 := TrailR.kept (Hid.out HT2) hk14
                  have hkw := HK1.out.1.trans hk14 (fun _ f _ => f)
                  have hks := HK1.out.2.trans hk14 (fun _ f _ => f)
                  replace F0 := hk14.cell F0 (fun f => f)
                  replace F1 := hk14.cell F1 (fun f => f)
                  replace F2 := hk14.cell F2 (fun f => f)
                  replace F3 := hk14.cell F3 (fun f => f)
                  replace P2 := hk14.cell P2 (fun f => f)
                  have B0 := (cell_of_heap (blk_kept H7.out.2.1 hks (fun f => f)) 0).trans rfl
                  obtain ⟨m2, hm2⟩ : ∃ m2, m2 = metV (searchV f s (0, 0)) ((t : Int), 2) := ⟨_, rfl⟩
                  obtain ⟨m1, hm1⟩ : ∃ m1, m1 = metV (searchV f s (0, 0)) ((t : Int), 1) := ⟨_, rfl⟩
                  have HM : Hid (m2 = metV (searchV f s (0, 0)) ((t : Int), 2) ∧ m1 = metV (searchV f s (0, 0)) ((t : Int), 1)) := ⟨hm2, hm1⟩
                  have HK2 : Hid _ := And.intro hkw hks
                  have HT1 : Hid (TrailR f s t 1 wc u9 u10) := hR1
                  have HT3 : Hid (TrailR f s t 2 wc u7 u8) := hR2
                  clear hkw hks hR1 hR2 hk14 htr1 hm2 hm1
                  go_upto_region 15 with fail
                  go_cut [11] (fun s11 wx => s11 = .bool m2 ∧ Keeps None wc wx)
                  case first =>
                    have hR := HT3.out
                    rcases hR with ⟨hm, rfl, rfl⟩ | ⟨hm, gp, cap, Q, rfl, rfl, hQ, hP⟩
                    · obtain rfl : m2 = false := HM.out.1.trans hm
                      clear hm
                      go_wp2_with fail
                      go_meet
                      exact ⟨rfl, Keeps.refl _ _⟩
                    · obtain rfl : m2 = true := HM.out.1.trans hm
                      have hld := leads_any (some ⟨b, off, none⟩) n c l f (some ⟨bI, oI, none⟩) cc gp cap s t 2 Q wc (HS.out.2.1.more HK2.out.1) (by rw [← HV.out.2.2.2.1]; exact HV.out.2.2.2.2.2.1.more HK2.out.1) HV.out.1 HV.out.2.1 HV.out.2.2.1 HTL.out.2 hQ hP
                      unfold fnV at hld
                      rw [← HV.out.2.2.2.1, ← HV.out.2.2.2.2.1, show ((2 : Nat) : Int) = 2 from rfl] at hld
                      clear hm hQ hP
                      go_wp2_with (go_at_call 9; refine hld.mono ?_; rintro _ w15 ⟨rfl, hk15⟩)
                      go_meet
                      exact ⟨rfl, hk15⟩
                  case rest =>
                    obtain ⟨rfl, hk15⟩ := hcut
                    have hR1 : TrailR f s t 1 wc u9 u10 := TrailR.kept (Hid.out HT1) hk15
                    have hkw := HK2.out.1.trans hk15 (fun _ f _ => f)
                    have hks := HK2.out.2.trans hk15 (fun _ f _ => f)
                    replace F0 := hk15.cell F0 (fun f => f)
                    replace F1 := hk15.cell F1 (fun f => f)
                    replace F2 := hk15.cell F2 (fun f => f)
                    replace F3 := hk15.cell F3 (fun f => f)
                    replace P2 := hk15.cell P2 (fun f => f)
                    replace B0 := hk15.cell B0 (fun f => f)
                    have HK3 : Hid _ := And.intro hkw hks
                    have HT4 : Hid (TrailR f s t 1 wc u9 u10) := hR1
                    clear hkw hks hR1 hk15
                    go_upto_region 16 with fail
                    go_cut [12] (fun s12 wx => s12 = .bool m1 ∧ Keeps None wc wx)
                    case first =>
                      have hR := HT4.out
                      rcases hR with ⟨hm, rfl, rfl⟩ | ⟨hm, gp, cap, Q, rfl, rfl, hQ, hP⟩
                      · obtain rfl : m1 = false := HM.out.2.trans hm
                        clear hm
                        go_wp2_with fail
                        go_meet
                        exact ⟨rfl, Keeps.refl _ _⟩
                      · obtain rfl : m1 = true := HM.out.2.trans hm
                        have hld := leads_any (some ⟨b, off, none⟩) n c l f (some ⟨bI, oI, none⟩) cc gp cap s t 1 Q wc (HS.out.2.1.more HK3.out.1) (by rw [← HV.out.2.2.2.1]; exact HV.out.2.2.2.2.2.1.more HK3.out.1) HV.out.1 HV.out.2.1 HV.out.2.2.1 HTL.out.2 hQ hP
                        unfold fnV at hld
                        rw [← HV.out.2.2.2.1, ← HV.out.2.2.2.2.1, show ((1 : Nat) : Int) = 1 from rfl] at hld
                        clear hm hQ hP
                        go_wp2_with (go_at_call 9; refine hld.mono ?_; rintro _ w16 ⟨rfl, hk16⟩)
                        go_meet
                        exact ⟨rfl, hk16⟩
                    case rest =>
                      obtain ⟨rfl, hk16⟩ := hcut
                      have hkw := HK3.out.1.trans hk16 (fun _ f _ => f)
                      have hks := HK3.out.2.trans hk16 (fun _ f _ => f)
                      have hp := blk_kept H7.out.2.2.1 hks (fun f => f)
                      have hy := blk_kept H7.out.2.2.2.2 hks (fun f => f)
                      have P0 := (cell_of_heap hp 0).trans rfl
                      have Y0 := (cell_of_heap hy 0).trans rfl
                      have Y1 := (cell_of_heap hy 1).trans rfl
                      have Y2 := (cell_of_heap hy 2).trans rfl
                      have HE : Hid _ := And.intro hkw hks
                      have hto := HV.out.2.2.2.2.2.2.2.1
                      have hM := HM.out
                      clear hkw hks hk16 hp hy F0 F1 F2 F3 P2 B0
                      rcases hto with ⟨he, hkd, ha, hm⟩ | ⟨he, hkd, ha, hm⟩ | ⟨he, hkd, hm⟩
                      · by_cases hss : s = s0
                        · have h2 : m2 = true := by rw [hM.1, hss]; exact hm
                          subst h2
                          rw [he] at P0
                          rw [hkd] at Y0
                          rw [ha, ← hss] at Y1
                          clear hM hn4 he hkd ha hm hss
                          go_wp2_with fail
                          go_ret
                          exact ⟨rfl, HE.out.1⟩
                        · have bq : ((s0 : Int) == (s : Int)) = false := by simp; omega
                          rw [he] at P0
                          rw [hkd] at Y0
                          rw [ha] at Y1
                          clear hM hn4 he hkd ha hm
                          go_wp2_with fail
                          exact ⟨⟨s + 1, by omega, by simp, HE.out.2⟩, by simp [intOf]; omega⟩
                      · by_cases hss : s = s0
                        · have h2 : m2 = true ∨ m1 = true := by rw [hM.1, hM.2, hss]; exact hm
                          rw [he] at P0
                          rw [hkd] at Y0
                          rw [ha, ← hss] at Y2
                          clear hM hn4 he hkd ha hm hss HM
                          rcases h2 with rfl | rfl
                          · go_wp2_with fail
                            go_ret
                            exact ⟨rfl, HE.out.1⟩
                          · cases m2
                            all_goals go_wp2_with fail
                            all_goals go_ret
                            all_goals exact ⟨rfl, HE.out.1⟩
                        · have bq : ((s0 : Int) == (s : Int)) = false := by simp; omega
                          rw [he] at P0
                          rw [hkd] at Y0
                          rw [ha] at Y2
                          clear hM hn4 he hkd ha hm
                          go_wp2_with fail
                          exact ⟨⟨s + 1, by omega, by simp, HE.out.2⟩, by simp [intOf]; omega⟩
                      · rw [he] at P0
                        rw [hkd] at Y0
                        cases hc : m2 with
                        | true =>
                          subst hc
                          clear hM hn4 he hkd hm
                          go_wp2_with fail
                          go_ret
                          exact ⟨rfl, HE.out.1⟩
                        | false =>
                          have hss : ¬ s = s0 := fun h => by rw [h] at hM; rw [hM.1, hm] at hc; cases hc
                          subst hc
                          clear hM hn4 he hkd hm
                          go_wp2_with fail
                          exact ⟨⟨s + 1, by omega, by simp, HE.out.2⟩, by simp [intOf]; omega⟩
  · have he1 : (e != 54) = true := by simpa using (fun h => hn4 (.inl h))
    have he2 : (e != 55) = true := by simpa using (fun h => hn4 (.inr (.inl h)))
    have he3 : (e != 56) = true := by simpa using (fun h => hn4 (.inr (.inr h)))
    have hhd := head_any w4 (HS.out.1.more H4.out.1)
    go_wp2_with (go_at_call 7; refine hhd.mono ?_; rintro _ w6 ⟨rfl, hk6⟩)
    go_ret
    exact ⟨rfl, H4.out.1.trans hk6 (fun _ f _ => f)⟩
end Go.Proofs.YtahoodfdcpgikaaDoor
