import Derived.Test.YtocfcdnbielbiaaDoorSrSum
/-! SerialSum: the walk. -/
namespace Go.Proofs.YtocfcdnbielbiaaDoor
set_option linter.unusedVariables false
set_option maxRecDepth 20000
open Go.RowKit Go.HeapKit Go.PlainOps
set_option maxHeartbeats 2000000 in
theorem sumP_any (w : World) : Calls Tryd.prog 21 #[] w fun e w' => ∃ h, e = .returned (.agg #[.slice (some ⟨h, 0, none⟩) 1 1]) ∧ SeenF w' (some ⟨h, 0, none⟩) 1 [sumF] ∧ Keeps None w w' := by
  obtain ⟨b0, b1, b2⟩ := three_boxes w #[.slice (some ⟨w.heap.size + 1 + 1, 0, none⟩) 1 1] (codeC sumF.code).toArray #[.int .i64 1, .int .i64 4, .int .i64 2, .slice (some ⟨w.heap.size + 1, 0, none⟩) 9 9] 24 46 44
  have hk : Keeps None w (((w.alloc (.cells #[.slice (some ⟨w.heap.size + 1 + 1, 0, none⟩) 1 1] 24)).alloc (.cells (codeC sumF.code).toArray 46)).alloc (.cells #[.int .i64 1, .int .i64 4, .int .i64 2, .slice (some ⟨w.heap.size + 1, 0, none⟩) 9 9] 44)) := (((Keeps.refl _ w).andAlloc _).andAlloc _).andAlloc _
  have hse := seen_one (f := sumF) (cc := 9) b1 b2
  have hld := run_loadVar_row (P := Tryd.prog) _ w.heap.size _ 24 _ _ _ b0 Tryd.underlying24 rfl (by kernel_rfl)
  have HS : Hid _ := And.intro hse (And.intro hk hld)
  clear b0 b1 b2 hk hse hld
  go_enter Tryd.func21, Tryd.ntmps21
  go_wp2_with fail
  exact bodyPost_ret (results_one (q := 0) (ty := 24) rfl rfl HS.out.2.2) rfl ⟨w.heap.size + 1 + 1, rfl, HS.out.1, HS.out.2.1⟩
theorem tri_int (n : Nat) (hn : n ≤ 4095) : ((n : Int) * ((n : Int) + 1)).tdiv 2 = (tri n : Int) := by
  unfold tri
  have : (n : Int) * ((n : Int) + 1) = ((n * (n + 1) : Nat) : Int) := by rw [Int.natCast_mul]; rfl
  rw [this]
  exact Int.ofNat_tdiv (n * (n + 1)) 2
set_option maxHeartbeats 2000000 in
theorem sum_walk (n fuel : Int) (w : World) (hT : Tabs w) (hn : okI n) (hfu : okI fuel) :
    Calls Tryd.prog 8 #[.int .i64 n, .int .i64 fuel] w fun e w' => e = .returned (.bool true) ∧ Keeps None w w' := by
  by_cases hr : fuel < 0 ∨ 4194304 < fuel
  · have hlv := lives_any n hn w hT
    clear hT hn hfu
    rcases hr with h | h
    · go_enter Tryd.func8, Tryd.ntmps8
      go_wp2_with (go_at_call 19; refine hlv.mono ?_; rintro _ w5 ⟨rfl, hk5⟩)
      go_ret
      exact ⟨rfl, hk5⟩
    · have h2 : ¬ fuel < 0 := by omega
      go_enter Tryd.func8, Tryd.ntmps8
      go_wp2_with (go_at_call 19; refine hlv.mono ?_; rintro _ w5 ⟨rfl, hk5⟩)
      go_ret
      exact ⟨rfl, hk5⟩
  · have f1 : ¬ fuel < 0 := by omega
    have f2 : ¬ 4194304 < fuel := by omega
    have HT : Hid (Tabs w ∧ okI n ∧ okI fuel) := ⟨hT, hn, hfu⟩
    have hsp := sumP_any w
    obtain ⟨E, hE⟩ : ∃ E, E = evalV [sumF] [n] fuel := ⟨_, rfl⟩
    have hval : E = (if n < 0 ∨ 4095 < n then (if fuel < 16384 then (zeroVal, 62) else (zeroVal, 63)) else (if fuel < 8 * n + 2 then (zeroVal, 62) else (⟨(tri n.toNat : Int), 8 * n + 2, n + 1, n + 1, 8 * n + 2⟩, 0))) := by
      rw [hE]
      by_cases h : n < 0 ∨ 4095 < n
      · rw [if_pos h]; exact sum_out hn h (by omega) (by omega)
      · rw [if_neg h]
        obtain ⟨k, rfl⟩ := Int.eq_ofNat_of_zero_le (show 0 ≤ n by omega)
        exact sum_in (by omega) (by omega) (by omega)
    have HV : Hid _ := hval
    obtain ⟨⟨v, wk, tk, dp, sp⟩, er⟩ := E
    have hev := fun (h : Nat) (wx : World) (hx : Keeps None w wx) (hs : SeenF wx (some ⟨h, 0, none⟩) 1 [sumF]) => eval_any (some ⟨h, 0, none⟩) 1 1 [sumF] (some ⟨wx.heap.size, 0, none⟩) 1 1 [n] fuel (wx.alloc (.cells (ints [n]).toArray 2)) ((hT.more hx).more (Keeps.alloc None wx _)) (hs.more (Keeps.alloc None wx _)) sum_okf (seen_args (l := [n]) (heap_alloc_new wx _) (one_ok hn) (by simp)) (by omega) hfu
    rw [← hE] at hev
    unfold valC at hev
    have HEV : Hid _ := hev
    clear hval hE hT hn hfu hr hev
    go_enter Tryd.func8, Tryd.ntmps8
    go_upto_region 3 with fail
    go_cut [5, 6] (fun s5 s6 wx => ∃ G, s5 = .pointer (some ⟨G, 0, none⟩) ∧ s6 = .int .i64 er ∧ wx.heap[G]? = some (.cells #[.int .i64 v, .int .i64 wk, .int .i64 tk, .int .i64 dp, .int .i64 sp] 28 (0, 0)) ∧ Keeps None w wx)
    case first =>
      go_wp2_with (first
        | (go_at_call 21; refine hsp.mono ?_; rintro _ w2 ⟨h, rfl, hse, hk2⟩)
        | (go_at_call 10; refine (HEV.out _ w2 hk2 hse).mono ?_; rintro _ w3 ⟨rfl, hk3⟩))
      go_meet
      exact ⟨w3.heap.size, rfl, rfl, heap_alloc_new _ _, ((hk2.andAlloc _).trans hk3 (fun _ f _ => f)).andAlloc _⟩
    case rest =>
      obtain ⟨G, rfl, rfl, bG, hkc⟩ := hcut
      have hV := HV.out
      have x0 : wc.cell? ⟨G, 0, none⟩ = some (.int .i64 v) := (blk_cell bG 0).trans rfl
      have x1 : wc.cell? ⟨G, 1, none⟩ = some (.int .i64 wk) := (blk_cell bG 1).trans rfl
      have x2 : wc.cell? ⟨G, 2, none⟩ = some (.int .i64 tk) := (blk_cell bG 2).trans rfl
      have x3 : wc.cell? ⟨G, 3, none⟩ = some (.int .i64 dp) := (blk_cell bG 3).trans rfl
      have x4 : wc.cell? ⟨G, 4, none⟩ = some (.int .i64 sp) := (blk_cell bG 4).trans rfl
      have HK : Hid (Keeps None w wc) := hkc
      unfold zeroVal at hV
      clear bG hkc HV HEV
      by_cases h : n < 0 ∨ 4095 < n
      · rw [if_pos h] at hV
        by_cases hf : fuel < 16384
        · rw [if_pos hf] at hV
          injection hV with p1 p2
          injection p1 with p3 p4 p5 p6 p7
          subst p2 p3 p4 p5 p6 p7
          rcases h with h | h
          · go_wp2_with fail
            go_ret
            exact ⟨rfl, HK.out⟩
          · have h2 : ¬ n < 0 := by omega
            go_wp2_with fail
            go_ret
            exact ⟨rfl, HK.out⟩
        · rw [if_neg hf] at hV
          injection hV with p1 p2
          injection p1 with p3 p4 p5 p6 p7
          subst p2 p3 p4 p5 p6 p7
          rcases h with h | h
          · go_wp2_with fail
            go_ret
            exact ⟨rfl, HK.out⟩
          · have h2 : ¬ n < 0 := by omega
            go_wp2_with fail
            go_ret
            exact ⟨rfl, HK.out⟩
      · rw [if_neg h] at hV
        have n1 : ¬ n < 0 := by omega
        have n2 : ¬ 4095 < n := by omega
        by_cases hf : fuel < 8 * n + 2
        · rw [if_pos hf] at hV
          injection hV with p1 p2
          injection p1 with p3 p4 p5 p6 p7
          subst p2 p3 p4 p5 p6 p7
          clear h
          go_wp2_with fail
          go_ret
          exact ⟨rfl, HK.out⟩
        · rw [if_neg hf] at hV
          injection hV with p1 p2
          injection p1 with p3 p4 p5 p6 p7
          subst p2 p3 p4 p5 p6 p7
          have HTR : Hid ((tri n.toNat : Int) = wrap64 ((wrap64 (n * (n + 1))).tdiv 2)) := by
            obtain ⟨k, rfl⟩ := Int.eq_ofNat_of_zero_le (show 0 ≤ n by omega)
            have hk : k ≤ 4095 := by omega
            have e1 : (k : Int) * ((k : Int) + 1) = ((k * (k + 1) : Nat) : Int) := by rw [Int.natCast_mul]; rfl
            have e2 : k * (k + 1) ≤ 4095 * 4096 := Nat.mul_le_mul hk (by omega)
            have e3 : wrap64 ((k : Int) * ((k : Int) + 1)) = (k : Int) * ((k : Int) + 1) := by rw [e1]; unfold wrap64; omega
            have e4 := tri_le k hk
            show (tri k : Int) = _
            rw [e3, tri_int k hk]
            unfold wrap64
            omega
          clear h
          go_wp2_with fail
          all_goals first
            | (rename_i hx; exact absurd HTR.out hx)
            | (go_ret; exact ⟨rfl, HK.out⟩)
end Go.Proofs.YtocfcdnbielbiaaDoor
