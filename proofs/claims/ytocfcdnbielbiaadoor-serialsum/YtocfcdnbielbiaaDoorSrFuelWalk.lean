import Derived.Test.YtocfcdnbielbiaaDoorSrFuel
import Derived.Test.YtocfcdnbielbiaaDoorSrLives
/-! SerialFuel: the walk. -/
namespace Go.Proofs.YtocfcdnbielbiaaDoor
set_option linter.unusedVariables false
set_option maxRecDepth 20000
open Go.RowKit Go.HeapKit Go.PlainOps

section
variable {fs : List Fn} {zs : List Int} (hok : ∀ f ∈ fs, f.Ok) (hz : ∀ x ∈ zs, okI x)
theorem refused_other {fuel other : Int} (h : refusedV fs zs fuel = 0) (h0 : 0 ≤ other) (h1 : other ≤ 4194304) : refusedV fs zs other = 0 := by
  obtain ⟨k1, k2, _, _⟩ := refused_zero h
  unfold refusedV
  rw [k1, if_neg (by simp), if_neg (by simpa using k2), if_neg (by omega)]
theorem eval_run {F : Nat} (h : refusedV fs zs (F : Int) = 0) : evalV fs zs (F : Int) = (match runV fs false zs F with
    | .gave e => (zeroVal, e)
    | .done v sp s => (⟨v, (F : Int) - s.fuel, s.tasks, s.depth, sp⟩, 0)) := by
  unfold evalV
  rw [if_neg (by simpa using h)]
  rfl
theorem ran {fuel : Int} (h : (evalV fs zs fuel).2 = 0 ∨ (evalV fs zs fuel).2 = 62 ∨ (evalV fs zs fuel).2 = 63) : refusedV fs zs fuel = 0 := by
  by_cases h1 : refusedV fs zs fuel = 0
  · exact h1
  · unfold evalV at h
    rw [if_pos h1] at h
    have : refusedV fs zs fuel = 60 ∨ refusedV fs zs fuel = 61 ∨ refusedV fs zs fuel = 3 ∨ refusedV fs zs fuel = 0 := by
      unfold refusedV
      by_cases a1 : (checkV fs).1 ≠ 0
      · rw [if_pos a1]; simp
      · rw [if_neg a1]
        by_cases a2 : ((zs.length : Int)) ≠ parV fs 0
        · rw [if_pos a2]; simp
        · rw [if_neg a2]
          by_cases a3 : fuel < 0 ∨ 4194304 < fuel
          · rw [if_pos a3]; simp
          · rw [if_neg a3]; simp
    simp only at h
    omega
include hok hz
theorem fuel_ok {fuel other : Int} (h : (evalV fs zs fuel).2 = 0) (h0 : 0 ≤ other) (h1 : other ≤ 4194304) :
    1 ≤ (evalV fs zs fuel).1.work ∧ (evalV fs zs fuel).1.work ≤ fuel ∧ fuel ≤ 4194304 ∧ ((evalV fs zs fuel).1.work ≤ other → evalV fs zs other = evalV fs zs fuel) ∧ (other < (evalV fs zs fuel).1.work → evalV fs zs other = (zeroVal, 62)) ∧ evalV fs zs (evalV fs zs fuel).1.work = evalV fs zs fuel := by
  have hr := ran (.inl h)
  obtain ⟨hcz, hpz, hf0, hf1⟩ := refused_zero hr
  have hA := allV_of hcz hok
  obtain ⟨F, rfl⟩ := Int.eq_ofNat_of_zero_le hf0
  obtain ⟨O, rfl⟩ := Int.eq_ofNat_of_zero_le h0
  have hsz := eval_sizes hok hz h
  have hev := eval_run hr
  have heo := eval_run (refused_other hr h0 h1)
  cases hq : runV fs false zs F with
  | gave e =>
    rw [hq] at hev
    rw [hev] at h
    rcases run_gave hA hz (by omega) hq with e1 | e1
    · simp only at h; omega
    · simp only at h; omega
  | done v sp s =>
    rw [hq] at hev
    obtain ⟨_, _, _, d4, _, _⟩ := child_done hA (root_begins hA false hz F (by omega)) rfl hq
    have d4' : s.fuel ≤ F := d4
    rw [hev] at hsz ⊢
    simp only at hsz ⊢
    have shift : ∀ F2 : Nat, F - s.fuel ≤ F2 → (F2 : Int) ≤ 4194304 → evalV fs zs (F2 : Int) = (⟨v, (F : Int) - s.fuel, s.tasks, s.depth, sp⟩, 0) := by
      intro F2 k1 k2
      rw [eval_run (refused_other hr (by omega) k2), run_shift hA hz (by omega) hq F2 k1]
      show ((⟨v, (F2 : Int) - ((F2 - (F - s.fuel) : Nat) : Int), s.tasks, s.depth, sp⟩ : Val), (0 : Int)) = _
      rw [show (F2 : Int) - ((F2 - (F - s.fuel) : Nat) : Int) = (F : Int) - s.fuel by omega]
    refine ⟨by omega, by omega, by omega, fun k => shift O (by omega) h1, fun k => ?_, ?_⟩
    · rw [heo]
      cases ho : runV fs false zs O with
      | gave e =>
        rcases run_gave hA hz (by omega) ho with e1 | e1
        · rw [e1]
        · rw [e1] at ho
          have := run_deep hA hz (by omega) ho F (by omega)
          rw [hq] at this
          cases this
      | done v2 sp2 s3 =>
        have k2 := run_shift hA hz (by omega) ho F (by omega)
        obtain ⟨_, _, _, c4, _, _⟩ := child_done hA (root_begins hA false hz O (by omega)) rfl ho
        have c4' : s3.fuel ≤ O := c4
        rw [hq] at k2
        injection k2 with q1 q2 q3
        have q4 : s.fuel = F - (O - s3.fuel) := by rw [q3]; rfl
        omega
    · have := shift (F - s.fuel) (Nat.le_refl _) (by omega)
      rw [show ((F - s.fuel : Nat) : Int) = (F : Int) - s.fuel by omega] at this
      exact this
theorem fuel_out {fuel other : Int} (h : (evalV fs zs fuel).2 = 62) (h0 : 0 ≤ other) (h2 : other ≤ fuel) : (evalV fs zs other).2 = 62 := by
  have hr := ran (.inr (.inl h))
  obtain ⟨hcz, hpz, hf0, hf1⟩ := refused_zero hr
  have hA := allV_of hcz hok
  obtain ⟨F, rfl⟩ := Int.eq_ofNat_of_zero_le hf0
  obtain ⟨O, rfl⟩ := Int.eq_ofNat_of_zero_le h0
  have hev := eval_run hr
  rw [eval_run (refused_other hr h0 (by omega))]
  cases ho : runV fs false zs O with
  | gave e =>
    rcases run_gave hA hz (by omega) ho with e1 | e1
    · exact e1
    · rw [e1] at ho
      rw [run_deep hA hz (by omega) ho F (by omega)] at hev
      rw [hev] at h
      simp only at h
      omega
  | done v2 sp2 s3 =>
    rw [run_shift hA hz (by omega) ho F (by omega)] at hev
    rw [hev] at h
    simp only at h
    omega
theorem fuel_deep {fuel other : Int} (h : (evalV fs zs fuel).2 = 63) (h1 : other ≤ 4194304) (h2 : fuel ≤ other) : (evalV fs zs other).2 = 63 := by
  have hr := ran (.inr (.inr h))
  obtain ⟨hcz, hpz, hf0, hf1⟩ := refused_zero hr
  have hA := allV_of hcz hok
  obtain ⟨F, rfl⟩ := Int.eq_ofNat_of_zero_le hf0
  obtain ⟨O, rfl⟩ := Int.eq_ofNat_of_zero_le (show 0 ≤ other by omega)
  have hev := eval_run hr
  cases hq : runV fs false zs F with
  | gave e =>
    rw [hq] at hev
    rw [hev] at h
    have h' : e = 63 := h
    subst h'
    rw [eval_run (refused_other hr (by omega) h1), run_deep hA hz (by omega) hq O (by omega)]
  | done v2 sp2 s3 =>
    rw [hq] at hev
    rw [hev] at h
    simp only at h
    omega
end
set_option maxHeartbeats 4000000 in
theorem fuel_walk (a : Option Addr) (n c : Nat) (l : List Fn) (aa : Option Addr) (an ac : Nat) (zs : List Int) (fuel other : Int) (w : World) (hT : Tabs w) (hS : SeenF w a n l) (hok : ∀ f ∈ l, f.Ok) (hZ : SeenA w aa an zs) (hfu : okI fuel) (hot : okI other) :
    Calls Tryd.prog 5 #[.agg #[.slice a n c], .slice aa an ac, .int .i64 fuel, .int .i64 other] w fun e w' => e = .returned (.bool true) ∧ Keeps None w w' := by
  obtain ⟨B, hB⟩ : ∃ B, B = w.heap.size := ⟨_, rfl⟩
  have b1 := heap_alloc_new w (.cells #[.slice a n c] 24)
  have hk1 := Keeps.alloc None w (.cells #[.slice a n c] 24)
  obtain ⟨W, hW⟩ : ∃ W, W = w.alloc (.cells #[.slice a n c] 24) := ⟨_, rfl⟩
  rw [← hW, ← hB] at b1
  rw [← hW] at hk1
  have hev := fun fu (hfu : okI fu) wx (hx : Keeps None w wx) => eval_any a n c l aa an ac zs fu wx (hT.more hx) (hS.more hx) hok (hZ.more hx) hZ.most hfu
  have hlv := lives_any other hot W (hT.more hk1)
  have HEV : Hid _ := hev
  have HX : Hid (Keeps None w W ∧ W.heap[B]? = some (.cells #[.slice a n c] 24 (0, 0)) ∧ (∀ f ∈ l, f.Ok) ∧ (∀ x ∈ zs, okI x) ∧ okI fuel ∧ okI other) := ⟨hk1, b1, hok, hZ.ok, hfu, hot⟩
  unfold valC at HEV
  clear hev hT hS hok hZ hk1 b1 hfu hot
  obtain ⟨E, hE⟩ : ∃ E, E = evalV l zs fuel := ⟨_, rfl⟩
  obtain ⟨⟨v, wk, tk, dp, sp⟩, er⟩ := E
  go_enter Tryd.func5, Tryd.ntmps5
  go_upto_region 1 with fail
  rw [← hW, ← hB]
  clear hW hB
  go_upto_region 3 with (go_at_call 19; refine hlv.mono ?_; rintro _ w2 ⟨rfl, hk2⟩)
  have hkw2 := HX.out.1.trans hk2 (fun _ f _ => f)
  have d0 : w2.cell? ⟨B, 0, none⟩ = some (.slice a n c) := (blk_cell (blk_kept HX.out.2.1 hk2 (fun f => f)) 0).trans rfl
  have hev := HEV.out fuel HX.out.2.2.2.2.1 w2 hkw2
  rw [← hE] at hev
  have HE : Hid _ := hE
  have H2 : Hid (Keeps None w w2 ∧ w2.heap[B]? = some (.cells #[.slice a n c] 24 (0, 0))) := ⟨hkw2, blk_kept HX.out.2.1 hk2 (fun f => f)⟩
  clear hlv hk2 hkw2 hE
  simp only at hev
  go_upto_region 4 with (go_at_call 10; refine hev.mono ?_; rintro _ w3 ⟨rfl, hk3⟩)
  have bG := heap_alloc_new w3 (.cells #[.int .i64 v, .int .i64 wk, .int .i64 tk, .int .i64 dp, .int .i64 sp] 28)
  have hal := Keeps.alloc None w3 (.cells #[.int .i64 v, .int .i64 wk, .int .i64 tk, .int .i64 dp, .int .i64 sp] 28)
  obtain ⟨U, hU⟩ : ∃ U, U = w3.alloc (.cells #[.int .i64 v, .int .i64 wk, .int .i64 tk, .int .i64 dp, .int .i64 sp] 28) := ⟨_, rfl⟩
  obtain ⟨G, hG⟩ : ∃ G, G = w3.heap.size := ⟨_, rfl⟩
  rw [← hU] at hal bG
  rw [← hG] at bG
  rw [← hU, ← hG]
  have H3 : Hid (Keeps None w U ∧ U.heap[B]? = some (.cells #[.slice a n c] 24 (0, 0)) ∧ U.heap[G]? = some (.cells #[.int .i64 v, .int .i64 wk, .int .i64 tk, .int .i64 dp, .int .i64 sp] 28 (0, 0))) := ⟨(H2.out.1.trans hk3 (fun _ f _ => f)).trans hal (fun _ f _ => f), blk_kept (blk_kept H2.out.2 hk3 (fun f => f)) hal (fun f => f), bG⟩
  clear hU hG bG hal hk3 hev d0
  by_cases hoo : other < 0
  · go_wp2_with fail
    go_ret
    exact ⟨rfl, H3.out.1⟩
  · by_cases ho2 : 4194304 < other
    · go_wp2_with fail
      go_ret
      exact ⟨rfl, H3.out.1⟩
    · have hev2 := HEV.out other HX.out.2.2.2.2.2 U H3.out.1
      obtain ⟨E2, hE2⟩ : ∃ E2, E2 = evalV l zs other := ⟨_, rfl⟩
      obtain ⟨⟨v2, wk2, tk2, dp2, sp2⟩, er2⟩ := E2
      rw [← hE2] at hev2
      simp only at hev2
      have HE2 : Hid _ := hE2
      have d1 : U.cell? ⟨B, 0, none⟩ = some (.slice a n c) := (blk_cell H3.out.2.1 0).trans rfl
      clear hE2
      go_upto_region 7 with (go_at_call 10; refine hev2.mono ?_; rintro _ w5 ⟨rfl, hk5⟩)
      have bK := heap_alloc_new w5 (.cells #[.int .i64 v2, .int .i64 wk2, .int .i64 tk2, .int .i64 dp2, .int .i64 sp2] 28)
      have hal := Keeps.alloc None w5 (.cells #[.int .i64 v2, .int .i64 wk2, .int .i64 tk2, .int .i64 dp2, .int .i64 sp2] 28)
      obtain ⟨Y, hY⟩ : ∃ Y, Y = w5.alloc (.cells #[.int .i64 v2, .int .i64 wk2, .int .i64 tk2, .int .i64 dp2, .int .i64 sp2] 28) := ⟨_, rfl⟩
      obtain ⟨K, hK⟩ : ∃ K, K = w5.heap.size := ⟨_, rfl⟩
      rw [← hY] at hal bK
      rw [← hK] at bK
      rw [← hY, ← hK]
      have kk := hk5.trans hal (fun _ f _ => f)
      have bB := blk_kept H3.out.2.1 kk (fun f => f)
      have bG := blk_kept H3.out.2.2 kk (fun f => f)
      have H5 : Hid (Keeps None w Y ∧ Y.heap[G]? = some (.cells #[.int .i64 v, .int .i64 wk, .int .i64 tk, .int .i64 dp, .int .i64 sp] 28 (0, 0)) ∧ Y.heap[K]? = some (.cells #[.int .i64 v2, .int .i64 wk2, .int .i64 tk2, .int .i64 dp2, .int .i64 sp2] 28 (0, 0))) := ⟨H3.out.1.trans kk (fun _ f _ => f), bG, bK⟩
      have d2 : Y.cell? ⟨B, 0, none⟩ = some (.slice a n c) := (blk_cell bB 0).trans rfl
      have g0 : Y.cell? ⟨G, 0, none⟩ = some (.int .i64 v) := (blk_cell bG 0).trans rfl
      have g1 : Y.cell? ⟨G, 1, none⟩ = some (.int .i64 wk) := (blk_cell bG 1).trans rfl
      have g2 : Y.cell? ⟨G, 2, none⟩ = some (.int .i64 tk) := (blk_cell bG 2).trans rfl
      have g3 : Y.cell? ⟨G, 3, none⟩ = some (.int .i64 dp) := (blk_cell bG 3).trans rfl
      have g4 : Y.cell? ⟨G, 4, none⟩ = some (.int .i64 sp) := (blk_cell bG 4).trans rfl
      have k0 : Y.cell? ⟨K, 0, none⟩ = some (.int .i64 v2) := (blk_cell bK 0).trans rfl
      have k1 : Y.cell? ⟨K, 1, none⟩ = some (.int .i64 wk2) := (blk_cell bK 1).trans rfl
      have k2 : Y.cell? ⟨K, 2, none⟩ = some (.int .i64 tk2) := (blk_cell bK 2).trans rfl
      have k3 : Y.cell? ⟨K, 3, none⟩ = some (.int .i64 dp2) := (blk_cell bK 3).trans rfl
      have k4 : Y.cell? ⟨K, 4, none⟩ = some (.int .i64 sp2) := (blk_cell bK 4).trans rfl
      clear hY hK bK hal kk bB bG hk5 hev2 d1
      by_cases e0 : er = 0
      · have hz : (evalV l zs fuel).2 = 0 := by rw [← HE.out]; exact e0
        obtain ⟨q1, q2, q3, q4, q5, q6⟩ := fuel_ok HX.out.2.2.1 HX.out.2.2.2.1 hz (show 0 ≤ other by omega) (show other ≤ 4194304 by omega)
        rw [← HE.out] at q1 q2 q4 q5 q6
        simp only at q1 q2 q4 q5 q6
        rw [← HE2.out] at q4 q5
        have HQ4 : Hid _ := q4
        have HQ5 : Hid _ := q5
        subst e0
        clear q4 q5 hz
        by_cases how : wk ≤ other
        · have := HQ4.out how
          injection this with p1 p2
          injection p1 with p3 p4 p5 p6 p7
          subst p2 p3 p4 p5 p6 p7
          clear q6
          go_wp2_with fail
          go_ret
          exact ⟨rfl, H5.out.1⟩
        · have := HQ5.out (by omega)
          unfold zeroVal at this
          injection this with p1 p2
          injection p1 with p3 p4 p5 p6 p7
          subst p2 p3 p4 p5 p6 p7
          have hev3 := HEV.out wk (by unfold okI; omega) Y H5.out.1
          rw [q6] at hev3
          simp only at hev3
          clear q6
          go_upto_region 14 with (go_at_call 10; refine hev3.mono ?_; rintro _ w7 ⟨rfl, hk7⟩)
          have hal := Keeps.alloc None w7 (.cells #[.int .i64 v, .int .i64 wk, .int .i64 tk, .int .i64 dp, .int .i64 sp] 28)
          have bM := heap_alloc_new w7 (.cells #[.int .i64 v, .int .i64 wk, .int .i64 tk, .int .i64 dp, .int .i64 sp] 28)
          obtain ⟨Z, hZ⟩ : ∃ Z, Z = w7.alloc (.cells #[.int .i64 v, .int .i64 wk, .int .i64 tk, .int .i64 dp, .int .i64 sp] 28) := ⟨_, rfl⟩
          obtain ⟨M, hM⟩ : ∃ M, M = w7.heap.size := ⟨_, rfl⟩
          rw [← hZ] at hal bM
          rw [← hM] at bM
          rw [← hZ, ← hM]
          have kk := hk7.trans hal (fun _ f _ => f)
          have m0 := kk.cell g0 (fun f => f)
          have m1 := kk.cell g1 (fun f => f)
          have m2 := kk.cell g2 (fun f => f)
          have m3 := kk.cell g3 (fun f => f)
          have m4 := kk.cell g4 (fun f => f)
          have n0 := kk.cell k0 (fun f => f)
          have n1 := kk.cell k1 (fun f => f)
          have n2 := kk.cell k2 (fun f => f)
          have n3 := kk.cell k3 (fun f => f)
          have n4 := kk.cell k4 (fun f => f)
          have o0 : Z.cell? ⟨M, 0, none⟩ = some (.int .i64 v) := (blk_cell bM 0).trans rfl
          have o1 : Z.cell? ⟨M, 1, none⟩ = some (.int .i64 wk) := (blk_cell bM 1).trans rfl
          have o2 : Z.cell? ⟨M, 2, none⟩ = some (.int .i64 tk) := (blk_cell bM 2).trans rfl
          have o3 : Z.cell? ⟨M, 3, none⟩ = some (.int .i64 dp) := (blk_cell bM 3).trans rfl
          have o4 : Z.cell? ⟨M, 4, none⟩ = some (.int .i64 sp) := (blk_cell bM 4).trans rfl
          have H7 : Hid (Keeps None w Z) := H5.out.1.trans kk (fun _ f _ => f)
          clear hZ hM hal bM kk hk7 hev3 g0 g1 g2 g3 g4 k0 k1 k2 k3 k4
          go_wp2_with fail
          go_ret
          exact ⟨rfl, H7.out⟩
      · have hz : (evalV l zs fuel).2 ≠ 0 := by rw [← HE.out]; exact e0
        have hvz := eval_not hz
        rw [← HE.out] at hvz
        unfold zeroVal at hvz
        simp only at hvz
        injection hvz with p3 p4 p5 p6 p7
        subst p3 p4 p5 p6 p7
        have e0b : (er == 0) = false := by simpa using e0
        by_cases e62 : er = 62
        · subst e62
          by_cases hle : other ≤ fuel
          · have hx := fuel_out HX.out.2.2.1 HX.out.2.2.2.1 (by rw [← HE.out]) (show 0 ≤ other by omega) hle
            rw [← HE2.out] at hx
            simp only at hx
            subst hx
            clear hz
            go_wp2_with fail
            go_ret
            exact ⟨rfl, H5.out.1⟩
          · have hlt : fuel < other := by omega
            clear hz hle
            go_wp2_with fail
            go_ret
            exact ⟨rfl, H5.out.1⟩
        · have e62b : (er == 62) = false := by simpa using e62
          by_cases e63 : er = 63
          · subst e63
            by_cases hle : fuel ≤ other
            · have hx := fuel_deep HX.out.2.2.1 HX.out.2.2.2.1 (by rw [← HE.out]) (show other ≤ 4194304 by omega) hle
              rw [← HE2.out] at hx
              simp only at hx
              subst hx
              clear hz
              go_wp2_with fail
              go_ret
              exact ⟨rfl, H5.out.1⟩
            · have hlt : other < fuel := by omega
              clear hz hle
              go_wp2_with fail
              go_ret
              exact ⟨rfl, H5.out.1⟩
          · have e63b : (er == 63) = false := by simpa using e63
            clear hz
            go_wp2_with fail
            go_ret
            exact ⟨rfl, H5.out.1⟩
end Go.Proofs.YtocfcdnbielbiaaDoor
