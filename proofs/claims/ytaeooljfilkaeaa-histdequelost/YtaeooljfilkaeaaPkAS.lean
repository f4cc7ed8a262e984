import Derived.Test.YtaeooljfilkaeaaPkAR
/-! HistDequeLost, walked. -/
namespace Go.Proofs.Ytaeooljfilkaeaa
set_option linter.unusedVariables false
set_option maxRecDepth 20000
set_option linter.unusedSimpArgs false
open Go.RowKit Go.HeapKit Go.IntWalk Go.PlainOps

set_option maxHeartbeats 4000000 in
set_option maxRecDepth 100000 in
theorem lost_walk (f m : Int) (ao : Option Addr) (n c : Nat) (l : List Tod) (t : Int) (bo : Option Addr) (k e : Nat) (z : List Int) (w : World) (hn : n = l.length) (hT : TodoAt w ao l) (hk : k = z.length) (hZ : Ints w bo z) :
    Calls Try.prog 5 #[.agg #[.int .i64 f, .int .i64 m, .slice ao n c, .int .i64 t, .slice bo k e]] w fun e w' => e = .returned (.bool true) ∧ Below w.heap.size w w' := by
  have hkX := Keeps.alloc None w (.cells #[.int .i64 f, .int .i64 m, .slice ao n c, .int .i64 t, .slice bo k e] 25)
  have hfit := fit_ok f m t ao bo n c k e 200 2000 l z _ hn hk (hT.kept hkX) (hZ.kept hkX) (by omega) (by omega)
  have hfit : Calls Try.prog 8 #[.agg #[.int .i64 f, .int .i64 m, .slice ao n c, .int .i64 t, .slice bo k e], .int .i64 200, .int .i64 2000] _ _ := hfit
  have HK : Hid _ := hkX
  have hcap := caps_fit f m
  have hkd := kinds_fit (l.take 200)
  have hpk := picks_fit t (z.take 2000)
  have hTl : (fitT (l.take 200)).length ≤ 200 := by simp [fitT]; omega
  have hPl : (fitP t (z.take 2000)).length ≤ 2000 := by simp [fitP]; omega
  have hth := mdN_lt t (n := 4) (by omega)
  generalize fitF f = F at hfit hcap
  generalize fitM f m = M at hfit hcap
  generalize mdN t 4 = th at hfit hpk hth
  generalize fitT (l.take 200) = T at hfit hkd hTl
  generalize fitP t (z.take 2000) = P at hfit hpk hPl
  have HC : Hid _ := And.intro hcap (And.intro hkd (And.intro hpk hth))
  clear hkX hcap hkd hpk hn hT hk hZ hth
  go_enter Try.func5, Try.ntmps5
  go_wp2_with fail
  refine hfit.mono ?_
  rintro e1 w1 ⟨vT, vP, rfl, hQ⟩
  obtain ⟨ta, tc, hvT⟩ := own_shape hQ.oT
  obtain ⟨pa, pc, hvP⟩ := own_shape hQ.oP
  subst hvT hvP
  obtain ⟨PI, hPI⟩ : ∃ PI, PI = P.map (fun x : Nat => (x : Int)) := ⟨_, rfl⟩
  rw [← hPI] at hQ ⊢
  obtain ⟨hT1, hTc⟩ := todo_of_row hQ.oT
  obtain ⟨hI1, hPc⟩ := ints_of_row hQ.oP
  have hPIl : PI.length ≤ 2000 := by rw [hPI, List.length_map]; exact hPl
  have hwho : whoS th PI = P := by rw [hPI]; exact whoS_fit HC.out.2.2.1
  have hkG := Keeps.alloc None w1 (.cells #[.int .i64 (F : Int), .int .i64 (M : Int), .slice ta T.length tc, .int .i64 (th : Int), .slice pa PI.length pc] 25)
  have hbG := new_at w1 (.cells #[.int .i64 (F : Int), .int .i64 (M : Int), .slice ta T.length tc, .int .i64 (th : Int), .slice pa PI.length pc] 25) _ rfl
  have hT2 := hT1.kept hkG
  have hI2 := hI1.kept hkG
  have HQ : Hid _ := And.intro (HK.out.trans (hQ.kp) (fun _ f _ => f)) (And.intro hkG hbG)
  have HL : Hid _ := And.intro hPIl (And.intro hTc (And.intro hPc hTl))
  have HW : Hid _ := hwho
  have HPI : Hid _ := hPI
  have HI2 : Hid _ := hI2
  clear hQ hT1 hI1 hkG hbG hPI hPl hTl hPIl hTc hPc hfit hwho
  go_wp2_with fail
  generalize (w1.alloc (.cells #[.int .i64 (F : Int), .int .i64 (M : Int), .slice ta T.length tc, .int .i64 (th : Int), .slice pa PI.length pc] 25)) = w2 at HQ hT2 hI2 HI2 ⊢
  generalize w1.heap.size = G at HQ ⊢
  have hplay := gplay_ok F M th ta pa pa T tc pc PI.length pc PI w2 HC.out.1 (by have := HC.out.2.2.2; omega) (by have := HL.out.2.2.2; omega) (by have := HL.out.1; omega) HC.out.2.1 hT2 HL.out.2.1 hI2
  rw [HW.out] at hplay
  generalize hsize : cellsFrom M F (4 + F) = size at hplay
  have HSZ : Hid _ := hsize
  clear hsize hT2 hI2
  have g0 := (cell_of_block HQ.out.2.2 0).trans rfl
  have g1 := (cell_of_block HQ.out.2.2 1).trans rfl
  have g2 := (cell_of_block HQ.out.2.2 2).trans rfl
  have g3 := (cell_of_block HQ.out.2.2 3).trans rfl
  have g4 := (cell_of_block HQ.out.2.2 4).trans rfl
  go_wp2_with fail
  refine hplay.mono ?_
  rintro e3 w3 ⟨va, vr, vl, q1, rfl, hD1, hP1⟩
  obtain ⟨xa, ca, hva⟩ := own_shape hD1.ca
  obtain ⟨xr, cr, hvr⟩ := own_shape hD1.re
  obtain ⟨gl, hvl, -, -⟩ := hD1.lo
  subst hva hvr hvl
  generalize hS1 : (startS size F M th T).picks 0 P = S1 at hD1 hP1 ⊢
  have HSS : Hid _ := And.intro hS1 hP1
  have hkD := Keeps.alloc None w3 (.cells #[.slice xa S1.calls.length ca, .slice xr (restL q1).length cr, .slice (some ⟨gl, 0, none⟩) S1.A.log.length S1.A.log.length] 32)
  have hbD := new_at w3 (.cells #[.slice xa S1.calls.length ca, .slice xr (restL q1).length cr, .slice (some ⟨gl, 0, none⟩) S1.A.log.length S1.A.log.length] 32) _ rfl
  have hk4 := hD1.kp.trans hkD (fun _ f _ => f)
  have hca := hkD.own hD1.ca (fun _ _ f => f)
  have k0 := hk4.cell g0 (fun f => f)
  have k1 := hk4.cell g1 (fun f => f)
  have k2 := hk4.cell g2 (fun f => f)
  have k3 := hk4.cell g3 (fun f => f)
  have k4 := hk4.cell g4 (fun f => f)
  have d0 := (cell_of_block hbD 0).trans rfl
  have hPlen : P.length = PI.length := by rw [HPI.out, List.length_map]
  have hcn1 : S1.calls.length ≤ 2000 := by have := HSS.out.2.cn; have := HL.out.1; omega
  have hseen1 := seen_calls rfl hca
  have hcap : 1 ≤ F ∧ F ≤ M ∧ M ≤ 4096 := by have := HC.out.1; unfold CapOK at this; omega
  have hbeg := begun_ok4 F M ta pa xa T.length tc pc S1.calls.length ca th P S1.calls _ hseen1 (by rw [← HPI.out]; exact Ints.kept HI2.out hk4) (by omega) (by have := HL.out.1; omega) (by have := HC.out.2.2.2; omega) (fun a ha hc i hi hj => by
    rw [← HSS.out.1, ← HSZ.out]
    exact begun_all hcap.1 hcap.2.1 hcap.2.2 P HC.out.2.2.1 (by have := HL.out.1; omega) a i (by rcases hc with h | h; exact .inl h; exact .inr (fun e => h (by rw [e]; rfl))) hi hj)
  rw [hPlen] at hbeg
  have HLO : Hid (∀ (k : Nat) (c : Cal), S1.calls[k]? = some c → c.code = 6 → ∃ (j : Nat) (x : Cal), j ≠ k ∧ S1.calls[j]? = some x ∧ tookB x c.bg c.en = true) := by
    intro k c hc h6
    rw [← HSS.out.1, ← HSZ.out] at hc ⊢
    exact lost_picks hcap.1 hcap.2.1 hcap.2.2 P HC.out.2.2.1 (by have := HL.out.1; omega) k c hc h6
  have HE : Hid _ := (HQ.out.1.trans HQ.out.2.1 (fun _ f _ => f)).trans hk4 (fun _ f _ => f)
  clear hD1 hP1 hS1 hkD hbD hca hplay g0 g1 g2 g3 g4 hPlen hcap hk4 HQ HL HC HW HSZ HPI HI2 HSS
  generalize S1.calls = L at *
  go_upto_region 3 with fail
  generalize (w3.alloc (.cells #[.slice xa L.length ca, .slice xr (restL q1).length cr, .slice (some ⟨gl, 0, none⟩) S1.A.log.length S1.A.log.length] 32)) = w4 at *
  generalize w3.heap.size = D at *
  generalize hN : L.length = N at *
  have HN : Hid _ := And.intro hN hcn1
  have HSE : Hid _ := hseen1
  clear hN hcn1 hseen1
  go_wp2_with fail
  refine hbeg.mono ?_
  rintro e6 w7 ⟨rfl, hk7⟩
  have HD : Hid _ := And.intro (hk7.cell d0 (fun f => f)) (And.intro (HSE.out.more hk7) (HE.out.trans hk7 (fun _ f _ => f)))
  have jN : (N : Int) ≤ 2000 := by have := HN.out.2; omega
  clear hbeg k0 k1 k2 k3 k4 d0 hk7 HSE HE
  go_wp2_with fail
  go_loopw [6, 7, 8, 9] (fun s6 _ _ _ wr => ∃ i : Nat, i ≤ N ∧ s6 = .int .i64 i ∧ Hid (Keeps None w7 wr)) (fun s6 _ _ _ _ => N - (intOf s6).toNat)
  case atStart => exact ⟨0, Nat.zero_le _, rfl, Keeps.refl _ _⟩
  case round =>
    obtain ⟨i, hi, rfl, hK⟩ := hrel
    have d0 := hK.out.cell HD.out.1 (fun f => f)
    by_cases hil : i < N
    · have j1 : (i : Int) < (N : Int) := by omega
      have hse := HD.out.2.1.more hK.out
      obtain ⟨ga, oa, rfl, -, hca⟩ := hse.ex (by omega)
      obtain ⟨x, hx⟩ : ∃ x, L[i]? = some x := ⟨_, List.getElem?_eq_getElem (by have := HN.out.1; omega)⟩
      obtain ⟨y0, y1, y2, y3, y4, y5, y6⟩ := hca i x.cl (by simp [hx])
      have HX : Hid _ := HLO.out i x hx
      obtain ⟨x0, x1, x2, x3, x4, x5, x6⟩ := x
      simp only [Cal.cl] at y0 y1 y2 y3 y4 y5 y6
      have hkC := Keeps.alloc None wr (.cells #[.int .i64 x0, .int .i64 x1, .int .i64 x2, .int .i64 x3, .int .i64 x4, .int .i64 x5, .int .i64 x6] 45)
      have hbC := new_at wr (.cells #[.int .i64 x0, .int .i64 x1, .int .i64 x2, .int .i64 x3, .int .i64 x4, .int .i64 x5, .int .i64 x6] 45) _ rfl
      have e3 := (cell_of_block hbC 3).trans rfl
      have e4 := (cell_of_block hbC 4).trans rfl
      have e5 := (cell_of_block hbC 5).trans rfl
      have d1 := hkC.cell d0 (fun f => f)
      have HC2 : Hid _ := And.intro (hK.out.trans hkC (fun _ f _ => f)) (And.intro hil (And.intro e3 (And.intro e4 d1)))
      clear hse hca hx hi hil hkC hbC hK
      by_cases h6 : x5 = 6
      · subst h6
        obtain ⟨jw, y, hjw, hy, ht⟩ := HX.out rfl
        dsimp only at ht
        have HY : Hid _ := And.intro hjw (And.intro hy (And.intro ht (show jw < N by have := (List.getElem?_eq_some_iff.1 hy).1; have := HN.out.1; omega)))
        clear hjw hy ht HX
        go_wp2_with fail
        generalize (wr.alloc (.cells #[.int .i64 x0, .int .i64 x1, .int .i64 x2, .int .i64 x3, .int .i64 x4, .int .i64 6, .int .i64 x6] 45)) = w8 at *
        generalize wr.heap.size = C at *
        clear y0 y1 y2 y3 y4 y5 y6 e3 e4 e5 d0 d1 j1
        go_loopw [8, 9] (fun s8 s9 wx => ∃ (j : Nat) (fb : Bool), j ≤ N ∧ s8 = .bool fb ∧ s9 = .int .i64 j ∧ Hid (jw < j → fb = true) ∧ Hid (Keeps None w8 wx)) (fun _ s9 _ => N - (intOf s9).toNat)
        case atStart => exact ⟨0, false, Nat.zero_le _, rfl, rfl, fun h => absurd h (Nat.not_lt_zero _), Keeps.refl _ _⟩
        case round =>
          obtain ⟨j, fb, hj, rfl, rfl, hfb, hkx⟩ := hrel
          have c0 := hkx.out.cell HC2.out.2.2.2.2 (fun f => f)
          by_cases hjl : j < N
          · have i1 : (j : Int) < (N : Int) := by omega
            cases fb with
            | true =>
              clear hj
              have HJ : Hid _ := hjl
              clear hjl
              go_upto_block 3 with fail
              go_cut [8] (fun s8 wy => s8 = .bool true ∧ Hid (Keeps None wr wy))
              case first =>
                go_upto_region 14 with fail
                go_quiet (fail)
                all_goals (go_wp2_with fail; go_meet)
                all_goals exact ⟨rfl, keeps_drewN4 _ _ _⟩
              case rest =>
                obtain ⟨rfl, hky⟩ := hcut
                have HKY : Hid _ := hkx.out.trans hky.out (fun _ f _ => f)
                clear hky hkx c0
                go_wp2_with fail
                go_roundw
                case rel => exact ⟨j + 1, true, HJ.out, rfl, by go_num, fun _ => rfl, HKY.out⟩
                case measure => simp only [intOf]; have := HJ.out; omega
            | false =>
              by_cases hji : j = i
              · have b1 : ((j : Int) != (i : Int)) = false := by simp [hji]
                have HJ : Hid _ := And.intro hjl (And.intro hfb.out hji)
                clear hjl hj hfb hji
                go_upto_block 3 with fail
                go_cut [8] (fun s8 wy => s8 = .bool false ∧ Hid (Keeps None wr wy))
                case first =>
                  go_upto_region 14 with fail
                  go_quiet (fail)
                  all_goals (go_wp2_with fail; go_meet)
                  all_goals exact ⟨by first | rfl | simp, keeps_drewN4 _ _ _⟩
                case rest =>
                  obtain ⟨rfl, hky⟩ := hcut
                  have HKY : Hid _ := hkx.out.trans hky.out (fun _ f _ => f)
                  clear hky hkx c0
                  go_wp2_with fail
                  go_roundw
                  case rel => exact ⟨j + 1, false, HJ.out.1, rfl, by go_num, fun h => HJ.out.2.1 (by have := HJ.out.2.2; have := HY.out.1; omega), HKY.out⟩
                  case measure => simp only [intOf]; have := HJ.out.1; omega
              · have b1 : ((j : Int) != (i : Int)) = true := by simp; omega
                have hse := HD.out.2.1.more (HC2.out.1.trans hkx.out (fun _ f _ => f))
                obtain ⟨ga', oa', hga, -, hca⟩ := hse.ex (by omega)
                injection hga with hga
                injection hga with hg1 hg2
                subst hg1 hg2
                obtain ⟨u, hu⟩ : ∃ u, L[j]? = some u := ⟨_, List.getElem?_eq_getElem (by have := HN.out.1; omega)⟩
                obtain ⟨z0, z1, z2, z3, z4, z5, z6⟩ := hca j u.cl (by simp [hu])
                have c3 := hkx.out.cell HC2.out.2.2.1 (fun f => f)
                have c4 := hkx.out.cell HC2.out.2.2.2.1 (fun f => f)
                have hres : jw = j → tookB u x3 x4 = true := fun e => by
                  subst e
                  have h1 := HY.out.2.1
                  rw [hu] at h1
                  injection h1 with h1
                  rw [h1]
                  exact HY.out.2.2.1
                obtain ⟨u0, u1, u2, u3, u4, u5, u6⟩ := u
                simp only [Cal.cl] at z0 z1 z2 z3 z4 z5 z6
                have HJ : Hid _ := And.intro hjl (And.intro hfb.out (And.intro hji hres))
                clear hse hca hu hres hjl hj hfb hji
                have hs := And.intro c0 (And.intro c3 (And.intro c4 (And.intro z0 (And.intro z1 (And.intro z2 (And.intro z3 (And.intro z4 (And.intro z5 z6))))))))
                go_upto_block 3 with fail
                go_cut [8] (fun s8 wy => s8 = .bool (tookI u1 u3 u4 u5 x3 x4) ∧ Hid (Keeps None wr wy))
                case first =>
                  go_upto_region 14 with fail
                  refine wp_region_held_drew (S := (fun w' => w'.cell? ⟨D, 0, none⟩ = some (.slice (some ⟨ga, oa, none⟩) N ca) ∧ w'.cell? ⟨C, 3, none⟩ = some (.int .i64 x3) ∧ w'.cell? ⟨C, 4, none⟩ = some (.int .i64 x4) ∧ w'.cell? ⟨ga, oa + j * 7, none⟩ = some (.int .i64 u0) ∧ w'.cell? ⟨ga, oa + j * 7 + 1, none⟩ = some (.int .i64 u1) ∧ w'.cell? ⟨ga, oa + j * 7 + 2, none⟩ = some (.int .i64 u2) ∧ w'.cell? ⟨ga, oa + j * 7 + 3, none⟩ = some (.int .i64 u3) ∧ w'.cell? ⟨ga, oa + j * 7 + 4, none⟩ = some (.int .i64 u4) ∧ w'.cell? ⟨ga, oa + j * 7 + 5, none⟩ = some (.int .i64 u5) ∧ w'.cell? ⟨ga, oa + j * 7 + 6, none⟩ = some (.int .i64 u6))) (by kernel_rfl) ?_ (fun hHeld => ?_)
                  · (try dsimp only); (first | with_reducible exact hs | with_reducible exact hs9 | go_keep)
                  refine wpAnyH_take (i := 0) (oi := { dst := some 50, op := Op.move (Operand.tmp 8), type := 4, pos := "outright.go:162", after := #[], guard := none }) (v := ?_) rfl (by kernel_rfl) (by kernel_rfl) (by kernel_rfl) (fun _ _ _ h => h) (Or.inl ⟨by rfl, ?_⟩) (by assumption) ?_
                  rotate_left
                  · (intro wz hSw; (try dsimp only at hSw); go_simp; try with_reducible rfl)
                  simp only [Act.put, List.setIfInBounds_toArray, List.set_cons_zero, List.set_cons_succ]
                  refine wpAnyH_take (i := 1) (oi := { dst := some 51, op := Op.move (Operand.tmp 50), type := 4, pos := "outright.go:162", after := #[{ on := 0, ground := Ground.data }], guard := none }) (v := ?_) rfl (by kernel_rfl) (by kernel_rfl) (by kernel_rfl) (fun _ _ _ h => h) (Or.inl ⟨by rfl, ?_⟩) (by assumption) ?_
                  rotate_left
                  · (intro wz hSw; (try dsimp only at hSw); go_simp; try with_reducible rfl)
                  simp only [Act.put, List.setIfInBounds_toArray, List.set_cons_zero, List.set_cons_succ]
                  first | (refine wpAnyH_take (i := 2) (oi := { dst := some 52, op := Op.move (Operand.tmp 9), type := 3, pos := "outright.go:162", after := #[{ on := 1, ground := Ground.guard }], guard := some (1, false) }) (v := undef) rfl (by kernel_rfl) (by kernel_rfl) (by kernel_rfl) (fun _ _ _ h => h) (Or.inr ⟨by rfl, rfl⟩) (by assumption) ?_) | (refine wpAnyH_take (i := 2) (oi := { dst := some 52, op := Op.move (Operand.tmp 9), type := 3, pos := "outright.go:162", after := #[{ on := 1, ground := Ground.guard }], guard := some (1, false) }) (v := ?_) rfl (by kernel_rfl) (by kernel_rfl) (by kernel_rfl) (fun _ _ _ h => h) (Or.inl ⟨by rfl, ?_⟩) (by assumption) ?_; rotate_left; (· (intro wz hSw; (try dsimp only at hSw); go_simp; try with_reducible rfl)))
                  simp only [Act.put, List.setIfInBounds_toArray, List.set_cons_zero, List.set_cons_succ]
                  first | (refine wpAnyH_take (i := 3) (oi := { dst := some 53, op := Op.move (Operand.tmp 6), type := 3, pos := "outright.go:162", after := #[{ on := 1, ground := Ground.guard }], guard := some (1, false) }) (v := undef) rfl (by kernel_rfl) (by kernel_rfl) (by kernel_rfl) (fun _ _ _ h => h) (Or.inr ⟨by rfl, rfl⟩) (by assumption) ?_) | (refine wpAnyH_take (i := 3) (oi := { dst := some 53, op := Op.move (Operand.tmp 6), type := 3, pos := "outright.go:162", after := #[{ on := 1, ground := Ground.guard }], guard := some (1, false) }) (v := ?_) rfl (by kernel_rfl) (by kernel_rfl) (by kernel_rfl) (fun _ _ _ h => h) (Or.inl ⟨by rfl, ?_⟩) (by assumption) ?_; rotate_left; (· (intro wz hSw; (try dsimp only at hSw); go_simp; try with_reducible rfl)))
                  simp only [Act.put, List.setIfInBounds_toArray, List.set_cons_zero, List.set_cons_succ]
                  first | (refine wpAnyH_take (i := 4) (oi := { dst := some 54, op := Op.binOp BinOp.neq 3 (Operand.tmp 52) (Operand.tmp 53) 3, type := 4, pos := "outright.go:162", after := #[{ on := 2, ground := Ground.data }, { on := 3, ground := Ground.data }, { on := 1, ground := Ground.guard }], guard := some (1, false) }) (v := undef) rfl (by kernel_rfl) (by kernel_rfl) (by kernel_rfl) (fun _ _ _ h => h) (Or.inr ⟨by rfl, rfl⟩) (by assumption) ?_) | (refine wpAnyH_take (i := 4) (oi := { dst := some 54, op := Op.binOp BinOp.neq 3 (Operand.tmp 52) (Operand.tmp 53) 3, type := 4, pos := "outright.go:162", after := #[{ on := 2, ground := Ground.data }, { on := 3, ground := Ground.data }, { on := 1, ground := Ground.guard }], guard := some (1, false) }) (v := ?_) rfl (by kernel_rfl) (by kernel_rfl) (by kernel_rfl) (fun _ _ _ h => h) (Or.inl ⟨by rfl, ?_⟩) (by assumption) ?_; rotate_left; (· (intro wz hSw; (try dsimp only at hSw); go_simp; try with_reducible rfl)))
                  simp only [Act.put, List.setIfInBounds_toArray, List.set_cons_zero, List.set_cons_succ]
                  first | (refine wpAnyH_take (i := 5) (oi := { dst := some 55, op := Op.move (Operand.tmp 54), type := 4, pos := "outright.go:162", after := #[{ on := 4, ground := Ground.data }, { on := 1, ground := Ground.chain }, { on := 1, ground := Ground.guard }], guard := some (1, false) }) (v := undef) rfl (by kernel_rfl) (by kernel_rfl) (by kernel_rfl) (fun _ _ _ h => h) (Or.inr ⟨by rfl, rfl⟩) (by assumption) ?_) | (refine wpAnyH_take (i := 5) (oi := { dst := some 55, op := Op.move (Operand.tmp 54), type := 4, pos := "outright.go:162", after := #[{ on := 4, ground := Ground.data }, { on := 1, ground := Ground.chain }, { on := 1, ground := Ground.guard }], guard := some (1, false) }) (v := ?_) rfl (by kernel_rfl) (by kernel_rfl) (by kernel_rfl) (fun _ _ _ h => h) (Or.inl ⟨by rfl, ?_⟩) (by assumption) ?_; rotate_left; (· (intro wz hSw; (try dsimp only at hSw); go_simp; try with_reducible rfl)))
                  simp only [Act.put, List.setIfInBounds_toArray, List.set_cons_zero, List.set_cons_succ]
                  first | (refine wpAnyH_take (i := 6) (oi := { dst := some 56, op := Op.fieldAddr 32 (Operand.tmp 4) 0, type := 0, pos := "outright.go:162", after := #[{ on := 5, ground := Ground.guard }], guard := some (5, true) }) (v := undef) rfl (by kernel_rfl) (by kernel_rfl) (by kernel_rfl) (fun _ _ _ h => h) (Or.inr ⟨by rfl, rfl⟩) (by assumption) ?_) | (refine wpAnyH_take (i := 6) (oi := { dst := some 56, op := Op.fieldAddr 32 (Operand.tmp 4) 0, type := 0, pos := "outright.go:162", after := #[{ on := 5, ground := Ground.guard }], guard := some (5, true) }) (v := ?_) rfl (by kernel_rfl) (by kernel_rfl) (by kernel_rfl) (fun _ _ _ h => h) (Or.inl ⟨by rfl, ?_⟩) (by assumption) ?_; rotate_left; (· (intro wz hSw; (try dsimp only at hSw); go_simp; try with_reducible rfl)))
                  simp only [Act.put, List.setIfInBounds_toArray, List.set_cons_zero, List.set_cons_succ]
                  first | (refine wpAnyH_take (i := 7) (oi := { dst := some 57, op := Op.load 28 (Operand.tmp 56), type := 28, pos := "outright.go:162", after := #[{ on := 6, ground := Ground.data }, { on := 5, ground := Ground.guard }], guard := some (5, true) }) (v := undef) rfl (by kernel_rfl) (by kernel_rfl) (by kernel_rfl) (fun _ _ _ h => h) (Or.inr ⟨by rfl, rfl⟩) (by assumption) ?_) | (refine wpAnyH_take (i := 7) (oi := { dst := some 57, op := Op.load 28 (Operand.tmp 56), type := 28, pos := "outright.go:162", after := #[{ on := 6, ground := Ground.data }, { on := 5, ground := Ground.guard }], guard := some (5, true) }) (v := ?_) rfl (by kernel_rfl) (by kernel_rfl) (by kernel_rfl) (fun _ _ _ h => h) (Or.inl ⟨by rfl, ?_⟩) (by assumption) ?_; rotate_left; (· (intro wz hSw; (try dsimp only at hSw); go_simp; try with_reducible rfl)))
                  simp only [Act.put, List.setIfInBounds_toArray, List.set_cons_zero, List.set_cons_succ]
                  first | (refine wpAnyH_take (i := 8) (oi := { dst := some 58, op := Op.move (Operand.tmp 9), type := 3, pos := "outright.go:162", after := #[{ on := 5, ground := Ground.guard }], guard := some (5, true) }) (v := undef) rfl (by kernel_rfl) (by kernel_rfl) (by kernel_rfl) (fun _ _ _ h => h) (Or.inr ⟨by rfl, rfl⟩) (by assumption) ?_) | (refine wpAnyH_take (i := 8) (oi := { dst := some 58, op := Op.move (Operand.tmp 9), type := 3, pos := "outright.go:162", after := #[{ on := 5, ground := Ground.guard }], guard := some (5, true) }) (v := ?_) rfl (by kernel_rfl) (by kernel_rfl) (by kernel_rfl) (fun _ _ _ h => h) (Or.inl ⟨by rfl, ?_⟩) (by assumption) ?_; rotate_left; (· (intro wz hSw; (try dsimp only at hSw); go_simp; try with_reducible rfl)))
                  simp only [Act.put, List.setIfInBounds_toArray, List.set_cons_zero, List.set_cons_succ]
                  first | (refine wpAnyH_take (i := 9) (oi := { dst := some 59, op := Op.indexAddr 28 (Operand.tmp 57) (Operand.tmp 58), type := 0, pos := "outright.go:162", after := #[{ on := 7, ground := Ground.data }, { on := 8, ground := Ground.data }, { on := 5, ground := Ground.guard }], guard := some (5, true) }) (v := undef) rfl (by kernel_rfl) (by kernel_rfl) (by kernel_rfl) (fun _ _ _ h => h) (Or.inr ⟨by rfl, rfl⟩) (by assumption) ?_) | (refine wpAnyH_take (i := 9) (oi := { dst := some 59, op := Op.indexAddr 28 (Operand.tmp 57) (Operand.tmp 58), type := 0, pos := "outright.go:162", after := #[{ on := 7, ground := Ground.data }, { on := 8, ground := Ground.data }, { on := 5, ground := Ground.guard }], guard := some (5, true) }) (v := ?_) rfl (by kernel_rfl) (by kernel_rfl) (by kernel_rfl) (fun _ _ _ h => h) (Or.inl ⟨by rfl, ?_⟩) (by assumption) ?_; rotate_left; (· (intro wz hSw; (try dsimp only at hSw); go_simp; try with_reducible rfl)))
                  simp only [Act.put, List.setIfInBounds_toArray, List.set_cons_zero, List.set_cons_succ]
                  first | (refine wpAnyH_take (i := 10) (oi := { dst := some 60, op := Op.load 45 (Operand.tmp 59), type := 45, pos := "outright.go:162", after := #[{ on := 9, ground := Ground.data }, { on := 5, ground := Ground.guard }], guard := some (5, true) }) (v := undef) rfl (by kernel_rfl) (by kernel_rfl) (by kernel_rfl) (fun _ _ _ h => h) (Or.inr ⟨by rfl, rfl⟩) (by assumption) ?_) | (refine wpAnyH_take (i := 10) (oi := { dst := some 60, op := Op.load 45 (Operand.tmp 59), type := 45, pos := "outright.go:162", after := #[{ on := 9, ground := Ground.data }, { on := 5, ground := Ground.guard }], guard := some (5, true) }) (v := ?_) rfl (by kernel_rfl) (by kernel_rfl) (by kernel_rfl) (fun _ _ _ h => h) (Or.inl ⟨by rfl, ?_⟩) (by assumption) ?_; rotate_left; (· (intro wz hSw; (try dsimp only at hSw); go_simp; try with_reducible rfl)))
                  simp only [Act.put, List.setIfInBounds_toArray, List.set_cons_zero, List.set_cons_succ]
                  first | (refine wpAnyH_take (i := 11) (oi := { dst := some 61, op := Op.fieldAddr 45 (Operand.tmp 7) 3, type := 0, pos := "outright.go:162", after := #[{ on := 5, ground := Ground.guard }], guard := some (5, true) }) (v := undef) rfl (by kernel_rfl) (by kernel_rfl) (by kernel_rfl) (fun _ _ _ h => h) (Or.inr ⟨by rfl, rfl⟩) (by assumption) ?_) | (refine wpAnyH_take (i := 11) (oi := { dst := some 61, op := Op.fieldAddr 45 (Operand.tmp 7) 3, type := 0, pos := "outright.go:162", after := #[{ on := 5, ground := Ground.guard }], guard := some (5, true) }) (v := ?_) rfl (by kernel_rfl) (by kernel_rfl) (by kernel_rfl) (fun _ _ _ h => h) (Or.inl ⟨by rfl, ?_⟩) (by assumption) ?_; rotate_left; (· (intro wz hSw; (try dsimp only at hSw); go_simp; try with_reducible rfl)))
                  simp only [Act.put, List.setIfInBounds_toArray, List.set_cons_zero, List.set_cons_succ]
                  first | (refine wpAnyH_take (i := 12) (oi := { dst := some 62, op := Op.load 3 (Operand.tmp 61), type := 3, pos := "outright.go:162", after := #[{ on := 11, ground := Ground.data }, { on := 5, ground := Ground.guard }], guard := some (5, true) }) (v := undef) rfl (by kernel_rfl) (by kernel_rfl) (by kernel_rfl) (fun _ _ _ h => h) (Or.inr ⟨by rfl, rfl⟩) (by assumption) ?_) | (refine wpAnyH_take (i := 12) (oi := { dst := some 62, op := Op.load 3 (Operand.tmp 61), type := 3, pos := "outright.go:162", after := #[{ on := 11, ground := Ground.data }, { on := 5, ground := Ground.guard }], guard := some (5, true) }) (v := ?_) rfl (by kernel_rfl) (by kernel_rfl) (by kernel_rfl) (fun _ _ _ h => h) (Or.inl ⟨by rfl, ?_⟩) (by assumption) ?_; rotate_left; (· (intro wz hSw; (try dsimp only at hSw); go_simp; try with_reducible rfl)))
                  simp only [Act.put, List.setIfInBounds_toArray, List.set_cons_zero, List.set_cons_succ]
                  first | (refine wpAnyH_take (i := 13) (oi := { dst := some 63, op := Op.fieldAddr 45 (Operand.tmp 7) 4, type := 0, pos := "outright.go:162", after := #[{ on := 5, ground := Ground.guard }], guard := some (5, true) }) (v := undef) rfl (by kernel_rfl) (by kernel_rfl) (by kernel_rfl) (fun _ _ _ h => h) (Or.inr ⟨by rfl, rfl⟩) (by assumption) ?_) | (refine wpAnyH_take (i := 13) (oi := { dst := some 63, op := Op.fieldAddr 45 (Operand.tmp 7) 4, type := 0, pos := "outright.go:162", after := #[{ on := 5, ground := Ground.guard }], guard := some (5, true) }) (v := ?_) rfl (by kernel_rfl) (by kernel_rfl) (by kernel_rfl) (fun _ _ _ h => h) (Or.inl ⟨by rfl, ?_⟩) (by assumption) ?_; rotate_left; (· (intro wz hSw; (try dsimp only at hSw); go_simp; try with_reducible rfl)))
                  simp only [Act.put, List.setIfInBounds_toArray, List.set_cons_zero, List.set_cons_succ]
                  first | (refine wpAnyH_take (i := 14) (oi := { dst := some 64, op := Op.load 3 (Operand.tmp 63), type := 3, pos := "outright.go:162", after := #[{ on := 13, ground := Ground.data }, { on := 5, ground := Ground.guard }], guard := some (5, true) }) (v := undef) rfl (by kernel_rfl) (by kernel_rfl) (by kernel_rfl) (fun _ _ _ h => h) (Or.inr ⟨by rfl, rfl⟩) (by assumption) ?_) | (refine wpAnyH_take (i := 14) (oi := { dst := some 64, op := Op.load 3 (Operand.tmp 63), type := 3, pos := "outright.go:162", after := #[{ on := 13, ground := Ground.data }, { on := 5, ground := Ground.guard }], guard := some (5, true) }) (v := ?_) rfl (by kernel_rfl) (by kernel_rfl) (by kernel_rfl) (fun _ _ _ h => h) (Or.inl ⟨by rfl, ?_⟩) (by assumption) ?_; rotate_left; (· (intro wz hSw; (try dsimp only at hSw); go_simp; try with_reducible rfl)))
                  simp only [Act.put, List.setIfInBounds_toArray, List.set_cons_zero, List.set_cons_succ]
                  refine wpAnyH_ready (rs := [15]) (by kernel_rfl) (by simp) ?_
                  refine AllReadyH.cons (o := { dst := some 65, op := Op.call { callee := Callee.value (Operand.func 17), args := #[Operand.tmp 60, Operand.tmp 62, Operand.tmp 64], argTypes := #[45, 3, 3] }, type := 4, pos := "outright.go:162", after := #[{ on := 10, ground := Ground.data }, { on := 12, ground := Ground.data }, { on := 14, ground := Ground.data }, { on := 5, ground := Ground.chain }, { on := 5, ground := Ground.guard }], guard := some (5, true) }) rfl (fun K hK => ?_) ?_
                  · go_simp
                    refine (took_ok u0 u1 u2 u3 u4 u5 u6 x3 x4 _).mono ?_
                    rintro _ w9 ⟨rfl, hk9⟩
                    have hkz : Keeps None wr w9 := (Keeps.drew None wr).trans hk9 (fun _ f _ => f)
                    have hs9 := And.intro (hkz.cell c0 (fun f => f)) (And.intro (hkz.cell c3 (fun f => f)) (And.intro (hkz.cell c4 (fun f => f)) (And.intro (hkz.cell z0 (fun f => f)) (And.intro (hkz.cell z1 (fun f => f)) (And.intro (hkz.cell z2 (fun f => f)) (And.intro (hkz.cell z3 (fun f => f)) (And.intro (hkz.cell z4 (fun f => f)) (And.intro (hkz.cell z5 (fun f => f)) (hkz.cell z6 (fun f => f))))))))))
                    have HZ : Hid _ := hkz
                    clear hk9 hkz
                    refine hK.out _ _ ?_ (fun hHeld2 => ?_)
                    · (try dsimp only); (first | with_reducible exact hs | with_reducible exact hs9 | go_keep)
                    clear hK K
                    try simp only [Act.put, List.setIfInBounds_toArray, List.set_cons_zero, List.set_cons_succ]
                    first | (refine wpAnyH_take (i := 16) (oi := { dst := some 66, op := Op.pick (Operand.tmp 55) (Operand.tmp 65) (Operand.const (Value.bool false)), type := 4, pos := "outright.go:162", after := #[{ on := 5, ground := Ground.data }, { on := 15, ground := Ground.data }, { on := 1, ground := Ground.guard }], guard := some (1, false) }) (v := undef) rfl (by kernel_rfl) (by kernel_rfl) (by kernel_rfl) (fun _ _ _ h => h) (Or.inr ⟨by rfl, rfl⟩) (by assumption) ?_) | (refine wpAnyH_take (i := 16) (oi := { dst := some 66, op := Op.pick (Operand.tmp 55) (Operand.tmp 65) (Operand.const (Value.bool false)), type := 4, pos := "outright.go:162", after := #[{ on := 5, ground := Ground.data }, { on := 15, ground := Ground.data }, { on := 1, ground := Ground.guard }], guard := some (1, false) }) (v := ?_) rfl (by kernel_rfl) (by kernel_rfl) (by kernel_rfl) (fun _ _ _ h => h) (Or.inl ⟨by rfl, ?_⟩) (by assumption) ?_; rotate_left; (· (intro wz hSw; (try dsimp only at hSw); go_simp; try with_reducible rfl)))
                    simp only [Act.put, List.setIfInBounds_toArray, List.set_cons_zero, List.set_cons_succ]
                    refine wpAnyH_take (i := 17) (oi := { dst := some 67, op := Op.pick (Operand.tmp 51) (Operand.const (Value.bool true)) (Operand.tmp 66), type := 4, pos := "outright.go:162", after := #[{ on := 1, ground := Ground.data }, { on := 16, ground := Ground.data }], guard := none }) (v := ?_) rfl (by kernel_rfl) (by kernel_rfl) (by kernel_rfl) (fun _ _ _ h => h) (Or.inl ⟨by rfl, ?_⟩) (by assumption) ?_
                    rotate_left
                    · (intro wz hSw; (try dsimp only at hSw); go_simp; try with_reducible rfl)
                    simp only [Act.put, List.setIfInBounds_toArray, List.set_cons_zero, List.set_cons_succ]
                    refine wpAnyH_take (i := 18) (oi := { dst := some 8, op := Op.assign (Operand.tmp 67), type := 4, pos := "outright.go:162", after := #[{ on := 17, ground := Ground.data }, { on := 15, ground := Ground.chain }, { on := 0, ground := Ground.phase }, { on := 1, ground := Ground.phase }, { on := 2, ground := Ground.phase }, { on := 3, ground := Ground.phase }, { on := 4, ground := Ground.phase }, { on := 5, ground := Ground.phase }, { on := 6, ground := Ground.phase }, { on := 7, ground := Ground.phase }, { on := 8, ground := Ground.phase }, { on := 9, ground := Ground.phase }, { on := 10, ground := Ground.phase }, { on := 11, ground := Ground.phase }, { on := 12, ground := Ground.phase }, { on := 13, ground := Ground.phase }, { on := 14, ground := Ground.phase }, { on := 15, ground := Ground.phase }, { on := 16, ground := Ground.phase }, { on := 17, ground := Ground.phase }], guard := none }) (v := ?_) rfl (by kernel_rfl) (by kernel_rfl) (by kernel_rfl) (fun _ _ _ h => h) (Or.inl ⟨by rfl, ?_⟩) (by assumption) ?_
                    rotate_left
                    · (intro wz hSw; (try dsimp only at hSw); go_simp; try with_reducible rfl)
                    simp only [Act.put, List.setIfInBounds_toArray, List.set_cons_zero, List.set_cons_succ]
                    refine wpAnyH_done (by kernel_rfl) ?_ _
                    go_wp2_with fail
                    go_meet
                    exact ⟨rfl, HZ.out⟩
                  exact AllReadyH.nil
                case rest =>
                  obtain ⟨rfl, hky⟩ := hcut
                  have HKY : Hid _ := hkx.out.trans hky.out (fun _ f _ => f)
                  have HR : Hid (jw < j + 1 → tookI u1 u3 u4 u5 x3 x4 = true) := fun h => by
                    by_cases e : jw = j
                    · exact HJ.out.2.2.2 e
                    · exact absurd (HJ.out.2.1 (by omega)) (by simp)
                  generalize tookI u1 u3 u4 u5 x3 x4 = fb at HR ⊢
                  clear hky hkx c0 c3 c4 z0 z1 z2 z3 z4 z5 z6 hs b1
                  go_wp2_with fail
                  go_roundw
                  case rel => exact ⟨j + 1, fb, HJ.out.1, rfl, by go_num, HR.out, HKY.out⟩
                  case measure => simp only [intOf]; have := HJ.out.1; omega
          · have i1 : ¬ (j : Int) < (N : Int) := by omega
            have : fb = true := hfb.out (by have := HY.out.2.2.2; omega)
            subst this
            have HKY : Hid _ := HC2.out.1.trans hkx.out (fun _ f _ => f)
            have HI : Hid _ := HC2.out.2.1
            have i2 : (i : Int) < (N : Int) := by have := HC2.out.2.1; omega
            clear hkx hj hjl hfb HC2
            go_wp2_with fail
            go_roundw
            case rel => exact ⟨i + 1, HI.out, by go_num, HKY.out⟩
            case measure => simp only [intOf]; have := HI.out; omega
      · have b6 : (x5 != 6) = true := by simpa using h6
        clear h6 HX
        go_wp2_with fail
        go_roundw
        case rel => exact ⟨i + 1, HC2.out.2.1, by go_num, HC2.out.1⟩
        case measure => simp only [intOf]; have := HC2.out.2.1; omega
    · have j1 : ¬ (i : Int) < (N : Int) := by omega
      have HF : Hid _ := (HD.out.2.2.trans hK.out (fun _ f _ => f)).below w.heap.size (Nat.le_refl _) (fun _ f => f.elim)
      clear hi hil hK
      go_wp2_with fail
      go_ret
      exact ⟨rfl, HF.out⟩
end Go.Proofs.Ytaeooljfilkaeaa
