import Derived.Test.YtocfcdnbielbiaaDoorPkAW
/-! SerialFuel: the walk. -/
namespace Go.Proofs.YtocfcdnbielbiaaDoor
set_option linter.unusedVariables false
set_option maxRecDepth 20000
open Go.RowKit Go.HeapKit Go.PlainOps

section
variable {fs : List Fn} {zs : List Int} (hok : ∀ f ∈ fs, f.Ok) (hz : ∀ x ∈ zs, okI x)
theorem refused_other {fuel other : Int} (h : refusedV fs zs fuel = 0) (h0 : 0 ≤ other) (h1 : other ≤ 4194304) : refusedV fs zs other = 0 := by
  obtain ⟨k1, k2, _, _⟩ := refused_zero h
  unfold refusedV
  rw [k1, if_neg (by simp), if_neg (by simpa using k2), if_neg (by omega)]
theorem eval_run {F : Nat} (h : refusedV fs zs (F : Int) = 0) : evalV fs zs (F : Int) = (match runV fs false zs F with
    | .gave e => (zeroVal, e)
    | .done v sp s => (⟨v, (F : Int) - s.fuel, s.tasks, s.depth, sp⟩, 0)) := by
  unfold evalV
  rw [if_neg (by simpa using h)]
  rfl
theorem ran {fuel : Int} (h : (evalV fs zs fuel).2 = 0 ∨ (evalV fs zs fuel).2 = 62 ∨ (evalV fs zs fuel).2 = 63) : refusedV fs zs fuel = 0 := by
  by_cases h1 : refusedV fs zs fuel = 0
  · exact h1
  · unfold evalV at h
    rw [if_pos h1] at h
    have : refusedV fs zs fuel = 60 ∨ refusedV fs zs fuel = 61 ∨ refusedV fs zs fuel = 3 ∨ refusedV fs zs fuel = 0 := by
      unfold refusedV
      by_cases a1 : (checkV fs).1 ≠ 0
      · rw [if_pos a1]; simp
      · rw [if_neg a1]
        by_cases a2 : ((zs.length : Int)) ≠ parV fs 0
        · rw [if_pos a2]; simp
        · rw [if_neg a2]
          by_cases a3 : fuel < 0 ∨ 4194304 < fuel
          · rw [if_pos a3]; simp
          · rw [if_neg a3]; simp
    simp only at h
    omega
include hok hz
theorem fuel_ok {fuel other : Int} (h : (evalV fs zs fuel).2 = 0) (h0 : 0 ≤ other) (h1 : other ≤ 4194304) :
    1 ≤ (evalV fs zs fuel).1.work ∧ (evalV fs zs fuel).1.work ≤ fuel ∧ fuel ≤ 4194304 ∧ ((evalV fs zs fuel).1.work ≤ other → evalV fs zs other = evalV fs zs fuel) ∧ (other < (evalV fs zs fuel).1.work → evalV fs zs other = (zeroVal, 62)) ∧ evalV fs zs (evalV fs zs fuel).1.work = evalV fs zs fuel := by
  have hr := ran (.inl h)
  obtain ⟨hcz, hpz, hf0, hf1⟩ := refused_zero hr
  have hA := allV_of hcz hok
  obtain ⟨F, rfl⟩ := Int.eq_ofNat_of_zero_le hf0
  obtain ⟨O, rfl⟩ := Int.eq_ofNat_of_zero_le h0
  have hsz := eval_sizes hok hz h
  have hev := eval_run hr
  have heo := eval_run (refused_other hr h0 h1)
  cases hq : runV fs false zs F with
  | gave e =>
    rw [hq] at hev
    rw [hev] at h
    rcases run_gave hA hz (by omega) hq with e1 | e1
    · simp only at h; omega
    · simp only at h; omega
  | done v sp s =>
    rw [hq] at hev
    obtain ⟨_, _, _, d4, _, _⟩ := child_done hA (root_begins hA false hz F (by omega)) rfl hq
    have d4' : s.fuel ≤ F := d4
    rw [hev] at hsz ⊢
    simp only at hsz ⊢
    have shift : ∀ F2 : Nat, F - s.fuel ≤ F2 → (F2 : Int) ≤ 4194304 → evalV fs zs (F2 : Int) = (⟨v, (F : Int) - s.fuel, s.tasks, s.depth, sp⟩, 0) := by
      intro F2 k1 k2
      rw [eval_run (refused_other hr (by omega) k2), run_shift hA hz (by omega) hq F2 k1]
      show ((⟨v, (F2 : Int) - ((F2 - (F - s.fuel) : Nat) : Int), s.tasks, s.depth, sp⟩ : Val), (0 : Int)) = _
      rw [show (F2 : Int) - ((F2 - (F - s.fuel) : Nat) : Int) = (F : Int) - s.fuel by omega]
    refine ⟨by omega, by omega, by omega, fun k => shift O (by omega) h1, fun k => ?_, ?_⟩
    · rw [heo]
      cases ho : runV fs false zs O with
      | gave e =>
        rcases run_gave hA hz (by omega) ho with e1 | e1
        · rw [e1]
        · rw [e1] at ho
          have := run_deep hA hz (by omega) ho F (by omega)
          rw [hq] at this
          cases this
      | done v2 sp2 s3 =>
        have k2 := run_shift hA hz (by omega) ho F (by omega)
        obtain ⟨_, _, _, c4, _, _⟩ := child_done hA (root_begins hA false hz O (by omega)) rfl ho
        have c4' : s3.fuel ≤ O := c4
        rw [hq] at k2
        injection k2 with q1 q2 q3
        have q4 : s.fuel = F - (O - s3.fuel) := by rw [q3]; rfl
        omega
    · have := shift (F - s.fuel) (Nat.le_refl _) (by omega)
      rw [show ((F - s.fuel : Nat) : Int) = (F : Int) - s.fuel by omega] at this
      exact this
theorem fuel_out {fuel other : Int} (h : (evalV fs zs fuel).2 = 62) (h0 : 0 ≤ other) (h2 : other ≤ fuel) : (evalV fs zs other).2 = 62 := by
  have hr := ran (.inr (.inl h))
  obtain ⟨hcz, hpz, hf0, hf1⟩ := refused_zero hr
  have hA := allV_of hcz hok
  obtain ⟨F, rfl⟩ := Int.eq_ofNat_of_zero_le hf0
  obtain ⟨O, rfl⟩ := Int.eq_ofNat_of_zero_le h0
  have hev := eval_run hr
  rw [eval_run (refused_other hr h0 (by omega))]
  cases ho : runV fs false zs O with
  | gave e =>
    rcases run_gave hA hz (by omega) ho with e1 | e1
    · exact e1
    · rw [e1] at ho
      rw [run_deep hA hz (by omega) ho F (by omega)] at hev
      rw [hev] at h
      simp only at h
      omega
  | done v2 sp2 s3 =>
    rw [run_shift hA hz (by omega) ho F (by omega)] at hev
    rw [hev] at h
    simp only at h
    omega
theorem fuel_deep {fuel other : Int} (h : (evalV fs zs fuel).2 = 63) (h1 : other ≤ 4194304) (h2 : fuel ≤ other) : (evalV fs zs other).2 = 63 := by
  have hr := ran (.inr (.inr h))
  obtain ⟨hcz, hpz, hf0, hf1⟩ := refused_zero hr
  have hA := allV_of hcz hok
  obtain ⟨F, rfl⟩ := Int.eq_ofNat_of_zero_le hf0
  obtain ⟨O, rfl⟩ := Int.eq_ofNat_of_zero_le (show 0 ≤ other by omega)
  have hev := eval_run hr
  cases hq : runV fs false zs F with
  | gave e =>
    rw [hq] at hev
    rw [hev] at h
    have h' : e = 63 := h
    subst h'
    rw [eval_run (refused_other hr (by omega) h1), run_deep hA hz (by omega) hq O (by omega)]
  | done v2 sp2 s3 =>
    rw [hq] at hev
    rw [hev] at h
    simp only at h
    omega
end
set_option maxHeartbeats 4000000 in
theorem fuel_walk (a : Option Addr) (n c : Nat) (l : List Fn) (aa : Option Addr) (an ac : Nat) (zs : List Int) (fuel other : Int) (w : World) (hT : Tabs w) (hS : SeenF w a n l) (hok : ∀ f ∈ l, f.Ok) (hZ : SeenA w aa an zs) (hfu : okI fuel) (hot : okI other) :
    Calls Tryd.prog 5 #[.agg #[.slice a n c], .slice aa an ac, .int .i64 fuel, .int .i64 other] w fun e w' => e = .returned (.bool true) ∧ Keeps None w w' := by
  obtain ⟨B, hB⟩ : ∃ B, B = w.heap.size := ⟨_, rfl⟩
  have b1 := heap_alloc_new w (.cells #[.slice a n c] 24)
  have hk1 := Keeps.alloc None w (.cells #[.slice a n c] 24)
  obtain ⟨W, hW⟩ : ∃ W, W = w.alloc (.cells #[.slice a n c] 24) := ⟨_, rfl⟩
  rw [← hW, ← hB] at b1
  rw [← hW] at hk1
  have hev := fun fu (hfu : okI fu) wx (hx : Keeps None w wx) => eval_any a n c l aa an ac zs fu wx (hT.more hx) (hS.more hx) hok (hZ.more hx) hZ.most hfu
  have hlv := lives_any other hot W (hT.more hk1)
  have HEV : Hid _ := hev
  have HX : Hid (Keeps None w W ∧ W.heap[B]? = some (.cells #[.slice a n c] 24 (0, 0)) ∧ (∀ f ∈ l, f.Ok) ∧ (∀ x ∈ zs, okI x) ∧ okI fuel ∧ okI other) := ⟨hk1, b1, hok, hZ.ok, hfu, hot⟩
  unfold valC at HEV
  clear hev hT hS hok hZ hk1 b1 hfu hot
  obtain ⟨E, hE⟩ : ∃ E, E = evalV l zs fuel := ⟨_, rfl⟩
  obtain ⟨⟨v, wk, tk, dp, sp⟩, er⟩ := E
  go_enter Tryd.func5, Tryd.ntmps5
  go_upto_region 1 with fail
  rw [← hW, ← hB]
  clear hW hB
  go_upto_region 3 with (go_at_call 19; refine hlv.mono ?_; rintro _ w2 ⟨rfl, hk2⟩)
  have hkw2 := HX.out.1.trans hk2 (fun _ f _ => f)
  have d0 : w2.cell? ⟨B, 0, none⟩ = some (.slice a n c) := (blk_cell (blk_kept HX.out.2.1 hk2 (fun f => f)) 0).trans rfl
  have hev := HEV.out fuel HX.out.2.2.2.2.1 w2 hkw2
  rw [← hE] at hev
  have HE : Hid _ := hE
  have H2 : Hid (Keeps None w w2 ∧ w2.heap[B]? = some (.cells #[.slice a n c] 24 (0, 0))) := ⟨hkw2, blk_kept HX.out.2.1 hk2 (fun f => f)⟩
  clear hlv hk2 hkw2 hE
  simp only at hev
  go_upto_region 4 with (go_at_call 10; refine hev.mono ?_; rintro _ w3 ⟨rfl, hk3⟩)
  have bG := heap_alloc_new w3 (.cells #[.int .i64 v, .int .i64 wk, .int .i64 tk, .int .i64 dp, .int .i64 sp] 28)
  have hal := Keeps.alloc None w3 (.cells #[.int .i64 v, .int .i64 wk, .int .i64 tk, .int .i64 dp, .int .i64 sp] 28)
  obtain ⟨U, hU⟩ : ∃ U, U = w3.alloc (.cells #[.int .i64 v, .int .i64 wk, .int .i64 tk, .int .i64 dp, .int .i64 sp] 28) := ⟨_, rfl⟩
  obtain ⟨G, hG⟩ : ∃ G, G = w3.heap.size := ⟨_, rfl⟩
  rw [← hU] at hal bG
  rw [← hG] at bG
  rw [← hU, ← hG]
  have H3 : Hid (Keeps None w U ∧ U.heap[B]? = some (.cells #[.slice a n c] 24 (0, 0)) ∧ U.heap[G]? = some (.cells #[.int .i64 v, .int .i64 wk, .int .i64 tk, .int .i64 dp, .int .i64 sp] 28 (0, 0))) := ⟨(H2.out.1.trans hk3 (fun _ f _ => f)).trans hal (fun _ f _ => f), blk_kept (blk_kept H2.out.2 hk3 (fun f => f)) hal (fun f => f), bG⟩
  clear hU hG bG hal hk3 hev d0
  by_cases hoo : other < 0
  · go_wp2_with fail
    go_ret
    exact ⟨rfl, H3.out.1⟩
  · by_cases ho2 : 4194304 < other
    · go_wp2_with fail
      go_ret
      exact ⟨rfl, H3.out.1⟩
    · have hev2 := HEV.out other HX.out.2.2.2.2.2 U H3.out.1
      obtain ⟨E2, hE2⟩ : ∃ E2, E2 = evalV l zs other := ⟨_, rfl⟩
      obtain ⟨⟨v2, wk2, tk2, dp2, sp2⟩, er2⟩ := E2
      rw [← hE2] at hev2
      simp only at hev2
      have HE2 : Hid _ := hE2
      have d1 : U.cell? ⟨B, 0, none⟩ = some (.slice a n c) := (blk_cell H3.out.2.1 0).trans rfl
      clear hE2
      go_upto_region 7 with (go_at_call 10; refine hev2.mono ?_; rintro _ w5 ⟨rfl, hk5⟩)
      have bK := heap_alloc_new w5 (.cells #[.int .i64 v2, .int .i64 wk2, .int .i64 tk2, .int .i64 dp2, .int .i64 sp2] 28)
      have hal := Keeps.alloc None w5 (.cells #[.int .i64 v2, .int .i64 wk2, .int .i64 tk2, .int .i64 dp2, .int .i64 sp2] 28)
      obtain ⟨Y, hY⟩ : ∃ Y, Y = w5.alloc (.cells #[.int .i64 v2, .int .i64 wk2, .int .i64 tk2, .int .i64 dp2, .int .i64 sp2] 28) := ⟨_, rfl⟩
      obtain ⟨K, hK⟩ : ∃ K, K = w5.heap.size := ⟨_, rfl⟩
      rw [← hY] at hal bK
      rw [← hK] at bK
      rw [← hY, ← hK]
      have kk := hk5.trans hal (fun _ f _ => f)
      have bB := blk_kept H3.out.2.1 kk (fun f => f)
      have bG := blk_kept H3.out.2.2 kk (fun f => f)
      have H5 : Hid (Keeps None w Y ∧ Y.heap[G]? = some (.cells #[.int .i64 v, .int .i64 wk, .int .i64 tk, .int .i64 dp, .int .i64 sp] 28 (0, 0)) ∧ Y.heap[K]? = some (.cells #[.int .i64 v2, .int .i64 wk2, .int .i64 tk2, .int .i64 dp2, .int .i64 sp2] 28 (0, 0))) := ⟨H3.out.1.trans kk (fun _ f _ => f), bG, bK⟩
      have d2 : Y.cell? ⟨B, 0, none⟩ = some (.slice a n c) := (blk_cell bB 0).trans rfl
      have g0 : Y.cell? ⟨G, 0, none⟩ = some (.int .i64 v) := (blk_cell bG 0).trans rfl
      have g1 : Y.cell? ⟨G, 1, none⟩ = some (.int .i64 wk) := (blk_cell bG 1).trans rfl
      have g2 : Y.cell? ⟨G, 2, none⟩ = some (.int .i64 tk) := (blk_cell bG 2).trans rfl
      have g3 : Y.cell? ⟨G, 3, none⟩ = some (.int .i64 dp) := (blk_cell bG 3).trans rfl
      have g4 : Y.cell? ⟨G, 4, none⟩ = some (.int .i64 sp) := (blk_cell bG 4).trans rfl
      have k0 : Y.cell? ⟨K, 0, none⟩ = some (.int .i64 v2) := (blk_cell bK 0).trans rfl
      have k1 : Y.cell? ⟨K, 1, none⟩ = some (.int .i64 wk2) := (blk_cell bK 1).trans rfl
      have k2 : Y.cell? ⟨K, 2, none⟩ = some (.int .i64 tk2) := (blk_cell bK 2).trans rfl
      have k3 : Y.cell? ⟨K, 3, none⟩ = some (.int .i64 dp2) := (blk_cell bK 3).trans rfl
      have k4 : Y.cell? ⟨K, 4, none⟩ = some (.int .i64 sp2) := (blk_cell bK 4).trans rfl
      clear hY hK bK hal kk bB bG hk5 hev2 d1
      by_cases e0 : er = 0
      · have hz : (evalV l zs fuel).2 = 0 := by rw [← HE.out]; exact e0
        obtain ⟨q1, q2, q3, q4, q5, q6⟩ := fuel_ok HX.out.2.2.1 HX.out.2.2.2.1 hz (show 0 ≤ other by omega) (show other ≤ 4194304 by omega)
        rw [← HE.out] at q1 q2 q4 q5 q6
        simp only at q1 q2 q4 q5 q6
        rw [← HE2.out] at q4 q5
        have HQ4 : Hid _ := q4
        have HQ5 : Hid _ := q5
        subst e0
        clear q4 q5 hz
        by_cases how : wk ≤ other
        · have := HQ4.out how
          injection this with p1 p2
          injection p1 with p3 p4 p5 p6 p7
          subst p2 p3 p4 p5 p6 p7
          clear q6
          go_wp2_with fail
          go_ret
          exact ⟨rfl, H5.out.1⟩
        · have := HQ5.out (by omega)
          unfold zeroVal at this
          injection this with p1 p2
          injection p1 with p3 p4 p5 p6 p7
          subst p2 p3 p4 p5 p6 p7
          have hev3 := HEV.out wk (by unfold okI; omega) Y H5.out.1
          rw [q6] at hev3
          simp only at hev3
          clear q6
          go_upto_region 14 with (go_at_call 10; refine hev3.mono ?_; rintro _ w7 ⟨rfl, hk7⟩)
          have hal := Keeps.alloc None w7 (.cells #[.int .i64 v, .int .i64 wk, .int .i64 tk, .int .i64 dp, .int .i64 sp] 28)
          have bM := heap_alloc_new w7 (.cells #[.int .i64 v, .int .i64 wk, .int .i64 tk, .int .i64 dp, .int .i64 sp] 28)
          obtain ⟨Z, hZ⟩ : ∃ Z, Z = w7.alloc (.cells #[.int .i64 v, .int .i64 wk, .int .i64 tk, .int .i64 dp, .int .i64 sp] 28) := ⟨_, rfl⟩
          obtain ⟨M, hM⟩ : ∃ M, M = w7.heap.size := ⟨_, rfl⟩
          rw [← hZ] at hal bM
          rw [← hM] at bM
          rw [← hZ, ← hM]
          have kk := hk7.trans hal (fun _ f _ => f)
          have m0 := kk.cell g0 (fun f => f)
          have m1 := kk.cell g1 (fun f => f)
          have m2 := kk.cell g2 (fun f => f)
          have m3 := kk.cell g3 (fun f => f)
          have m4 := kk.cell g4 (fun f => f)
          have n0 := kk.cell k0 (fun f => f)
          have n1 := kk.cell k1 (fun f => f)
          have n2 := kk.cell k2 (fun f => f)
          have n3 := kk.cell k3 (fun f => f)
          have n4 := kk.cell k4 (fun f => f)
          have o0 : Z.cell? ⟨M, 0, none⟩ = some (.int .i64 v) := (blk_cell bM 0).trans rfl
          have o1 : Z.cell? ⟨M, 1, none⟩ = some (.int .i64 wk) := (blk_cell bM 1).trans rfl
          have o2 : Z.cell? ⟨M, 2, none⟩ = some (.int .i64 tk) := (blk_cell bM 2).trans rfl
          have o3 : Z.cell? ⟨M, 3, none⟩ = some (.int .i64 dp) := (blk_cell bM 3).trans rfl
          have o4 : Z.cell? ⟨M, 4, none⟩ = some (.int .i64 sp) := (blk_cell bM 4).trans rfl
          have H7 : Hid (Keeps None w Z) := H5.out.1.trans kk (fun _ f _ => f)
          clear hZ hM hal bM kk hk7 hev3 g0 g1 g2 g3 g4 k0 k1 k2 k3 k4
          go_wp2_with fail
          go_ret
          exact ⟨rfl, H7.out⟩
      · have hz : (evalV l zs fuel).2 ≠ 0 := by rw [← HE.out]; exact e0
        have hvz := eval_not hz
        rw [← HE.out] at hvz
        unfold zeroVal at hvz
        simp only at hvz
        injection hvz with p3 p4 p5 p6 p7
        subst p3 p4 p5 p6 p7
        have e0b : (er == 0) = false := by simpa using e0
        by_cases e62 : er = 62
        · subst e62
          by_cases hle : other ≤ fuel
          · have hx := fuel_out HX.out.2.2.1 HX.out.2.2.2.1 (by rw [← HE.out]) (show 0 ≤ other by omega) hle
            rw [← HE2.out] at hx
            simp only at hx
            subst hx
            clear hz
            go_wp2_with fail
            go_ret
            exact ⟨rfl, H5.out.1⟩
          · have hlt : fuel < other := by omega
            clear hz hle
            go_wp2_with fail
            go_ret
            exact ⟨rfl, H5.out.1⟩
        · have e62b : (er == 62) = false := by simpa using e62
          by_cases e63 : er = 63
          · subst e63
            by_cases hle : fuel ≤ other
            · have hx := fuel_deep HX.out.2.2.1 HX.out.2.2.2.1 (by rw [← HE.out]) (show other ≤ 4194304 by omega) hle
              rw [← HE2.out] at hx
              simp only at hx
              subst hx
              clear hz
              go_wp2_with fail
              go_ret
              exact ⟨rfl, H5.out.1⟩
            · have hlt : other < fuel := by omega
              clear hz hle
              go_wp2_with fail
              go_ret
              exact ⟨rfl, H5.out.1⟩
          · have e63b : (er == 63) = false := by simpa using e63
            clear hz
            go_wp2_with fail
            go_ret
            exact ⟨rfl, H5.out.1⟩
end Go.Proofs.YtocfcdnbielbiaaDoor
/-! Programs that are written out, in memory. -/
namespace Go.Proofs.YtocfcdnbielbiaaDoor
set_option linter.unusedVariables false
set_option maxRecDepth 20000
open Go.RowKit Go.HeapKit Go.PlainOps

def codeC (l : List Ins) : List Value := l.flatMap insCells
theorem codeC_at (l : List Ins) (k : Nat) (i : Ins) (h : l[k]? = some i) (j : Nat) (v : Value) (hj : (insCells i)[j]? = some v) : (codeC l)[k * 5 + j]? = some v := by
  have hj5 : j < 5 := (List.getElem?_eq_some_iff.1 hj).1
  induction l generalizing k with
  | nil => simp at h
  | cons z l ih =>
    have e : codeC (z :: l) = insCells z ++ codeC l := rfl
    have hz : (insCells z).length = 5 := rfl
    rw [e]
    cases k with
    | zero =>
      simp at h
      subst h
      rw [List.getElem?_append_left (by omega), Nat.zero_mul, Nat.zero_add]
      exact hj
    | succ k =>
      rw [List.getElem?_append_right (by omega), show (k + 1) * 5 + j - (insCells z).length = k * 5 + j by omega]
      exact ih k (by simpa using h)
theorem seen_code {w : World} {g : Nat} {l : List Ins} {t : TypeId} {z : Nat × Nat} (hb : w.heap[g]? = some (.cells (codeC l).toArray t z)) : SeenI w (some ⟨g, 0, none⟩) l.length l := by
  refine ⟨rfl, fun _ => ⟨g, 0, rfl, blk_lt hb, fun k i hi => ?_⟩⟩
  have hc : ∀ j v, (insCells i)[j]? = some v → w.cell? ⟨g, 0 + k * 5 + j, none⟩ = some v := fun j v hv => by
    rw [blk_cell hb, Nat.zero_add]
    simpa using codeC_at l k i hi j v hv
  exact ⟨hc 0 _ rfl, hc 1 _ rfl, hc 2 _ rfl, hc 3 _ rfl, hc 4 _ rfl⟩
theorem seen_one {w : World} {g h : Nat} {f : Fn} {t t2 : TypeId} {z z2 : Nat × Nat} {cc : Nat} (hb : w.heap[g]? = some (.cells (codeC f.code).toArray t z)) (hc : w.heap[h]? = some (.cells #[.int .i64 f.params, .int .i64 f.regs, .int .i64 f.slots, .slice (some ⟨g, 0, none⟩) f.code.length cc] t2 z2)) : SeenF w (some ⟨h, 0, none⟩) 1 [f] := by
  refine ⟨rfl, fun _ => ⟨_, 0, rfl, blk_lt hc, fun k f' hf => ?_⟩⟩
  cases k with
  | succ k => simp at hf
  | zero =>
    simp at hf
    subst hf
    exact ⟨_, cc, ⟨(cell_of_heap hc 0).trans rfl, (cell_of_heap hc 1).trans rfl, (cell_of_heap hc 2).trans rfl, (cell_of_heap hc 3).trans rfl, seen_code hb⟩⟩
theorem seen_args {w : World} {g : Nat} {l : List Int} {t : TypeId} {z : Nat × Nat} (hb : w.heap[g]? = some (.cells (ints l).toArray t z)) (hl : ∀ x ∈ l, okI x) (hn : l.length ≤ 9223372036854775807) : SeenA w (some ⟨g, 0, none⟩) l.length l := by
  refine ⟨rfl, hn, hl, fun _ => ⟨g, 0, rfl, blk_lt hb, fun k x hx => ?_⟩⟩
  rw [blk_cell hb, Nat.zero_add]
  simpa using ints_at l k x hx
end Go.Proofs.YtocfcdnbielbiaaDoor
/-! The chain of sums, plainly. -/
namespace Go.Proofs.YtocfcdnbielbiaaDoor
set_option linter.unusedVariables false
set_option maxRecDepth 20000
open Go.RowKit Go.PlainOps

def sumF : Fn := ⟨1, 4, 2, [⟨4, 0, 2, 0, 0⟩, ⟨9, 0, 0, 0, 0⟩, ⟨0, 1, 0, 0, 1⟩, ⟨2, 2, 0, 1, 1⟩, ⟨5, 0, 0, 2, 0⟩, ⟨6, 0, 0, 0, 0⟩, ⟨7, 3, 0, 0, 0⟩, ⟨2, 3, 3, 0, 0⟩, ⟨9, 3, 0, 0, 0⟩]⟩
theorem sum_check : checkV [sumF] = (0, 0, 0) := by rfl
theorem sum_okf : ∀ f ∈ [sumF], f.Ok := by
  intro f hf
  simp at hf
  subst hf
  refine ⟨by simp [sumF, okI], by simp [sumF, okI], by simp [sumF, okI], fun i hi => ?_⟩
  simp [sumF] at hi
  rcases hi with rfl | rfl | rfl | rfl | rfl | rfl | rfl | rfl | rfl <;> exact ⟨by simp [okI], by simp [okI], by simp [okI], by simp [okI], by simp [okI]⟩
/-- A task of the chain that begins. -/
def sumT (x : Int) (nd : Nd) (num d : Int) : Tk := ⟨[x, 0, 0, 0, 0, 0, 0, 0, 0, 0, 0, 0, 0, 0, 0, 0], [0, 0, 0, 0, 0, 0, 0, 0], nd, num, d, 0, 0, 0⟩
def midT (x y : Int) (nd : Nd) (num d : Int) : Tk := ⟨[x, 1, y, 0, 0, 0, 0, 0, 0, 0, 0, 0, 0, 0, 0, 0], [0, 0, 0, 0, 0, 0, 0, 0], nd, num, d, 0, 3, 0⟩
section
variable (L : Bool)
theorem sum_code {nd : Nd} (h : nd.func = 0) : codeOf [sumF] nd.func = sumF.code := by rw [h]; rfl
/-- The three instructions ahead of the spawn. -/
theorem sum_ahead (g : Nat) (s : Rn) (F : Nat) (x : Int) (nd : Nd) (num d : Int) (hf : nd.func = 0) (hx : x ≠ 0) : loopV [sumF] L (g + 3) (s.at (F + 3)) (sumT x nd num d) 0 = loopV [sumF] L g (s.at F) (midT x (wrap64 (x - 1)) { nd with work := nd.work + 1 + 1 + 1 } num d) 4 := by
  have c0 : ∀ {nd' : Nd}, nd'.func = nd.func → codeOf [sumF] nd'.func = sumF.code := fun e => sum_code (e.trans hf)
  rw [loop_branch (g := g + 2) (s := s.at (F + 3)) (i := ⟨4, 0, 2, 0, 0⟩) (by show F + 3 ≠ 0; omega) (by show (codeOf [sumF] nd.func)[0]? = _; rw [c0 rfl]; rfl) rfl]
  rw [if_neg (by exact hx)]
  rw [loop_comp (g := g + 1) (i := ⟨0, 1, 0, 0, 1⟩) (by show F + 3 - 1 ≠ 0; omega) (by show (codeOf [sumF] nd.func)[2]? = _; rw [c0 rfl]; rfl) (.inl rfl)]
  rw [loop_comp (g := g) (i := ⟨2, 2, 0, 1, 1⟩) (by show F + 3 - 1 - 1 ≠ 0; omega) (by show (codeOf [sumF] nd.func)[3]? = _; rw [c0 rfl]; rfl) (.inr (.inr (.inl rfl)))]
  rfl
/-- The five behind it. -/
theorem sum_behind (g : Nat) (s : Rn) (F : Nat) (x y v sp : Int) (nd : Nd) (num d : Int) (hf : nd.func = 0) (hsp : 0 ≤ sp) : loopV [sumF] false (g + 4) (s.at (F + 4)) (gotT (spawnT (payT (midT x y nd num d))) 0 v sp) 5 = .done (wrap64 (v + x)) (sp + 8) (s.at F) := by
  have c0 : codeOf [sumF] nd.func = sumF.code := sum_code hf
  rw [loop_sync (g := g + 3) (i := ⟨6, 0, 0, 0, 0⟩) (by show F + 4 ≠ 0; omega) (by show (codeOf [sumF] nd.func)[5]? = _; rw [c0]; rfl) rfl]
  rw [loop_comp (g := g + 2) (i := ⟨7, 3, 0, 0, 0⟩) (by show F + 4 - 1 ≠ 0; omega) (by show (codeOf [sumF] nd.func)[6]? = _; rw [c0]; rfl) (.inr (.inr (.inr (.inl rfl))))]
  rw [loop_comp (g := g + 1) (i := ⟨2, 3, 3, 0, 0⟩) (by show F + 4 - 1 - 1 ≠ 0; omega) (by show (codeOf [sumF] nd.func)[7]? = _; rw [c0]; rfl) (.inr (.inr (.inl rfl)))]
  rw [loop_ret (g := g) (i := ⟨9, 3, 0, 0, 0⟩) (by show F + 4 - 1 - 1 - 1 ≠ 0; omega) (by show (codeOf [sumF] nd.func)[8]? = _; rw [c0]; rfl) rfl]
  have e0 : imax 0 (3 + 1 + sp) = 3 + 1 + sp := if_pos (by omega)
  have e : imax (3 + 1 + 1) (imax 0 (3 + 1 + sp) + 1) + 1 + 1 + 1 = sp + 8 := by
    rw [e0]
    by_cases h0 : sp = 0
    · subst h0; rfl
    · have : imax (3 + 1 + 1) (3 + 1 + sp + 1) = 3 + 1 + sp + 1 := if_pos (by omega)
      rw [this]
      omega
  show Res.done (wrap64 (v + x)) (imax (3 + 1 + 1) (imax 0 (3 + 1 + sp) + 1) + 1 + 1 + 1) (s.at (F + 4 - 1 - 1 - 1 - 1)) = _
  rw [e]
  rfl
theorem sum_spawn (g : Nat) (s : Rn) (F : Nat) (x y : Int) (nd : Nd) (num d : Int) (hf : nd.func = 0) : loopV [sumF] L (g + 1) (s.at (F + 1)) (midT x y nd num d) 4 = (match playV [sumF] L g (s.at F) (sumT y ⟨num, 0, 0, 0, pedV nd.ped 0, 0, 0⟩ 0 (d + 1)) with
    | .gave e => .gave e
    | .done v sp s2 => loopV [sumF] L g s2 (gotT (spawnT (payT (midT x y nd num d))) 0 v sp) 5) := by
  have c0 : codeOf [sumF] nd.func = sumF.code := sum_code hf
  rw [loop_spawn (g := g) (i := ⟨5, 0, 0, 2, 0⟩) (by show F + 1 ≠ 0; omega) (by show (codeOf [sumF] nd.func)[4]? = _; rw [c0]; rfl) rfl]
  rfl
end
def tri (x : Nat) : Nat := x * (x + 1) / 2
theorem tri_succ (x : Nat) : tri (x + 1) = tri x + (x + 1) := by
  unfold tri
  have h : (x + 1) * (x + 1 + 1) = x * (x + 1) + (x + 1) * 2 := by
    rw [Nat.mul_comm x (x + 1), ← Nat.mul_add]
  rw [h, Nat.add_mul_div_right _ _ (by omega)]
theorem tri_le (x : Nat) (h : x ≤ 4095) : tri x ≤ 8386560 := by
  unfold tri
  have : x * (x + 1) ≤ 4095 * 4096 := Nat.mul_le_mul h (by omega)
  omega
/-- The chain that ends. -/
theorem sum_good : ∀ (x : Nat) (g : Nat) (s : Rn) (F : Nat) (nd : Nd) (num : Int) (d : Nat), nd.func = 0 → 1 ≤ d → d + x ≤ 4096 → F + 8 * x + 2 < g → (d : Int) ≤ s.depth →
    loopV [sumF] false g (s.at (F + 8 * x + 2)) (sumT (x : Int) nd num d) 0 = .done (tri x) (8 * x + 2) { s with fuel := F, tasks := s.tasks + x, depth := imax s.depth ((d : Int) + x) }
  | 0, g, s, F, nd, num, d, hf, hd, hdx, hg, hs => by
    obtain ⟨g, rfl⟩ : ∃ g', g = g' + 2 := ⟨g - 2, by omega⟩
    have c0 : codeOf [sumF] nd.func = sumF.code := sum_code hf
    rw [loop_branch (g := g + 1) (i := ⟨4, 0, 2, 0, 0⟩) (by show F + 8 * 0 + 2 ≠ 0; omega) (by show (codeOf [sumF] nd.func)[0]? = _; rw [c0]; rfl) rfl]
    rw [if_pos (by rfl)]
    rw [loop_ret (g := g) (i := ⟨9, 0, 0, 0, 0⟩) (by show F + 8 * 0 + 2 - 1 ≠ 0; omega) (by show (codeOf [sumF] nd.func)[1]? = _; rw [c0]; rfl) rfl]
    have e : imax s.depth ((d : Int) + ((0 : Nat) : Int)) = s.depth := if_neg (by omega)
    rw [e]
    rfl
  | x + 1, g, s, F, nd, num, d, hf, hd, hdx, hg, hs => by
    obtain ⟨g, rfl⟩ : ∃ g', g = g' + 4 := ⟨g - 4, by omega⟩
    have hx : ((x + 1 : Nat) : Int) ≠ 0 := by omega
    have hw : wrap64 (((x + 1 : Nat) : Int) - 1) = (x : Int) := by unfold wrap64; omega
    have e1 : F + 8 * (x + 1) + 2 = (F + 4 + 8 * x + 2 + 1) + 3 := by omega
    rw [e1, show g + 4 = (g + 1) + 3 from rfl, sum_ahead false (g + 1) s (F + 4 + 8 * x + 2 + 1) _ nd num d hf hx, hw, sum_spawn false g s (F + 4 + 8 * x + 2) _ _ { nd with work := nd.work + 1 + 1 + 1 } num d hf]
    have hp : playV [sumF] false g (s.at (F + 4 + 8 * x + 2)) (sumT (x : Int) ⟨num, 0, 0, 0, pedV nd.ped 0, 0, 0⟩ 0 ((d : Int) + 1)) = .done (tri x) (8 * x + 2) { s with fuel := F + 4, tasks := s.tasks + 1 + x, depth := imax (imax s.depth ((d : Int) + 1)) ((d : Int) + 1 + x) } := by
      unfold playV
      rw [if_neg (by show ¬ (4096 : Int) < (d : Int) + 1; omega)]
      have ih := sum_good x g { s with tasks := s.tasks + 1, depth := imax s.depth ((d : Int) + 1) } (F + 4) ⟨num, 0, 0, 0, pedV nd.ped 0, (x : Int), 0⟩ (s.tasks : Int) (d + 1) rfl (by omega) (by omega) (by omega) (by have := le_imax s.depth ((d : Int) + 1); simp only; omega)
      exact ih
    rw [hp]
    obtain ⟨g, rfl⟩ : ∃ g', g = g' + 4 := ⟨g - 4, by omega⟩
    show loopV [sumF] false (g + 4) (Rn.at { s with fuel := F + 4, tasks := s.tasks + 1 + x, depth := imax (imax s.depth ((d : Int) + 1)) ((d : Int) + 1 + x) } (F + 4)) _ 5 = _
    rw [sum_behind g _ F _ _ _ _ { nd with work := nd.work + 1 + 1 + 1 } num d hf (by omega)]
    have e2 : wrap64 (((tri x : Nat) : Int) + ((x + 1 : Nat) : Int)) = ((tri (x + 1) : Nat) : Int) := by
      have := tri_le x (by omega)
      rw [tri_succ]
      unfold wrap64
      omega
    have e3 : imax (imax s.depth ((d : Int) + 1)) ((d : Int) + 1 + x) = imax s.depth ((d : Int) + ((x + 1 : Nat) : Int)) := by
      have l1 := le_imax s.depth ((d : Int) + 1)
      have l2 := le_imax (imax s.depth ((d : Int) + 1)) ((d : Int) + 1 + x)
      have l3 := le_imax s.depth ((d : Int) + ((x + 1 : Nat) : Int))
      apply Int.le_antisymm
      · exact imax_le (imax_le (by omega) (by omega)) (by omega)
      · exact imax_le (by omega) (by omega)
    rw [e2, e3]
    show Res.done _ (8 * (x : Int) + 2 + 8) { s with fuel := F, tasks := s.tasks + 1 + x, depth := _ } = Res.done _ (8 * ((x + 1 : Nat) : Int) + 2) { s with fuel := F, tasks := s.tasks + (x + 1), depth := _ }
    rw [show 8 * (x : Int) + 2 + 8 = 8 * ((x + 1 : Nat) : Int) + 2 by omega, show s.tasks + 1 + x = s.tasks + (x + 1) by omega]
/-- The chain that is too deep; with one less of fuel. -/
theorem sum_deep : ∀ (k : Nat) (g : Nat) (s : Rn) (x : Int) (nd : Nd) (num d : Int), nd.func = 0 → 1 ≤ d → d + k = 4096 → okI x → (x < 0 ∨ (k : Int) < x) → 4 * k + 4 < g →
    loopV [sumF] false g (s.at (4 * k + 4)) (sumT x nd num d) 0 = .gave 63
  | 0, g, s, x, nd, num, d, hf, hd1, hd, hx, hxk, hg => by
    obtain ⟨g, rfl⟩ : ∃ g', g = (g' + 1) + 3 := ⟨g - 4, by omega⟩
    have hx0 : x ≠ 0 := by omega
    rw [show 4 * 0 + 4 = 1 + 3 from rfl, sum_ahead false (g + 1) s 1 x nd num d hf hx0]
    have h := sum_spawn false g s 0 x (wrap64 (x - 1)) { nd with work := nd.work + 1 + 1 + 1 } num d hf
    rw [Nat.zero_add] at h
    rw [h]
    unfold playV
    rw [if_pos (by show (4096 : Int) < d + 1; omega)]
  | k + 1, g, s, x, nd, num, d, hf, hd1, hd, hx, hxk, hg => by
    obtain ⟨g, rfl⟩ : ∃ g', g = (g' + 1) + 3 := ⟨g - 4, by omega⟩
    have hx0 : x ≠ 0 := by omega
    have hw : okI (wrap64 (x - 1)) := wrap_ok _
    have hstep : wrap64 (x - 1) < 0 ∨ (k : Int) < wrap64 (x - 1) := by
      unfold okI at hx
      unfold wrap64
      omega
    rw [show 4 * (k + 1) + 4 = (4 * k + 4 + 1) + 3 by omega, sum_ahead false (g + 1) s (4 * k + 4 + 1) x nd num d hf hx0, sum_spawn false g s (4 * k + 4) _ _ { nd with work := nd.work + 1 + 1 + 1 } num d hf]
    generalize wrap64 (x - 1) = y at *
    have hp : playV [sumF] false g (s.at (4 * k + 4)) (sumT y ⟨num, 0, 0, 0, pedV nd.ped 0, 0, 0⟩ 0 (d + 1)) = .gave 63 := by
      unfold playV
      rw [if_neg (by show ¬ (4096 : Int) < d + 1; omega)]
      exact sum_deep k g (enterS false (s.at (4 * k + 4)) (sumT y ⟨num, 0, 0, 0, pedV nd.ped 0, 0, 0⟩ 0 (d + 1))) y ⟨num, 0, 0, 0, pedV nd.ped 0, y, 0⟩ (s.tasks : Int) (d + 1) rfl (by omega) (by omega) hw hstep (by omega)
    rw [hp]
theorem sum_short : ∀ (k : Nat) (g : Nat) (s : Rn) (x : Int) (nd : Nd) (num d : Int), nd.func = 0 → 1 ≤ d → d + k = 4096 → okI x → (x < 0 ∨ (k : Int) < x) → 4 * k + 3 < g →
    loopV [sumF] false g (s.at (4 * k + 3)) (sumT x nd num d) 0 = .gave 62
  | 0, g, s, x, nd, num, d, hf, hd1, hd, hx, hxk, hg => by
    obtain ⟨g, rfl⟩ : ∃ g', g = (g' + 1) + 3 := ⟨g - 4, by omega⟩
    have hx0 : x ≠ 0 := by omega
    rw [show 4 * 0 + 3 = 0 + 3 from rfl, sum_ahead false (g + 1) s 0 x nd num d hf hx0]
    exact loop_out rfl
  | k + 1, g, s, x, nd, num, d, hf, hd1, hd, hx, hxk, hg => by
    obtain ⟨g, rfl⟩ : ∃ g', g = (g' + 1) + 3 := ⟨g - 4, by omega⟩
    have hx0 : x ≠ 0 := by omega
    have hw : okI (wrap64 (x - 1)) := wrap_ok _
    have hstep : wrap64 (x - 1) < 0 ∨ (k : Int) < wrap64 (x - 1) := by
      unfold okI at hx
      unfold wrap64
      omega
    rw [show 4 * (k + 1) + 3 = (4 * k + 3 + 1) + 3 by omega, sum_ahead false (g + 1) s (4 * k + 3 + 1) x nd num d hf hx0, sum_spawn false g s (4 * k + 3) _ _ { nd with work := nd.work + 1 + 1 + 1 } num d hf]
    generalize wrap64 (x - 1) = y at *
    have hp : playV [sumF] false g (s.at (4 * k + 3)) (sumT y ⟨num, 0, 0, 0, pedV nd.ped 0, 0, 0⟩ 0 (d + 1)) = .gave 62 := by
      unfold playV
      rw [if_neg (by show ¬ (4096 : Int) < d + 1; omega)]
      exact sum_short k g (enterS false (s.at (4 * k + 3)) (sumT y ⟨num, 0, 0, 0, pedV nd.ped 0, 0, 0⟩ 0 (d + 1))) y ⟨num, 0, 0, 0, pedV nd.ped 0, y, 0⟩ (s.tasks : Int) (d + 1) rfl (by omega) (by omega) hw hstep (by omega)
    rw [hp]
/-! ### Eval of it -/
theorem sum_refused (n : Int) (F : Nat) (hF : F ≤ 4194304) : refusedV [sumF] [n] (F : Int) = 0 := by
  unfold refusedV
  rw [sum_check, if_neg (by simp), if_neg (fun h => h rfl), if_neg (by omega)]
theorem sum_root (n : Int) (F : Nat) : runV [sumF] false [n] F = loopV [sumF] false (F + 1) (Rn.at ⟨0, 1, 1, []⟩ F) (sumT n ⟨-1, 0, 0, 0, 1, n, 0⟩ 0 1) 0 := by
  unfold runV playV
  rw [if_neg (by simp [rootT])]
  rfl
theorem sum_eval (n : Nat) (hn : n ≤ 4095) : evalV [sumF] [(n : Int)] ((8 * n + 2 : Nat) : Int) = (⟨tri n, 8 * n + 2, n + 1, n + 1, 8 * n + 2⟩, 0) := by
  rw [eval_run (sum_refused _ _ (by omega)), sum_root]
  have h := sum_good n (8 * n + 2 + 1) ⟨0, 1, 1, []⟩ 0 ⟨-1, 0, 0, 0, 1, (n : Int), 0⟩ 0 1 rfl (by omega) (by omega) (by omega) (by simp)
  rw [Nat.zero_add] at h
  rw [show ((1 : Nat) : Int) = 1 from rfl] at h
  rw [h]
  have e : imax (1 : Int) (1 + (n : Int)) = (n : Int) + 1 := by unfold imax; by_cases h0 : n = 0; subst h0; rfl; rw [if_pos (by omega)]; omega
  show ((⟨(tri n : Int), ((8 * n + 2 : Nat) : Int) - ((0 : Nat) : Int), ((1 + n : Nat) : Int), imax (1 : Int) (1 + (n : Int)), 8 * (n : Int) + 2⟩ : Val), (0 : Int)) = _
  rw [e, show ((8 * n + 2 : Nat) : Int) - ((0 : Nat) : Int) = 8 * (n : Int) + 2 by omega, show ((1 + n : Nat) : Int) = (n : Int) + 1 by omega]
theorem one_ok {n : Int} (h : okI n) : ∀ x ∈ [n], okI x := fun x hx => by simp at hx; subst hx; exact h
/-- What the statement asks. -/
theorem sum_in {n : Nat} (hn : n ≤ 4095) {fuel : Int} (h0 : 0 ≤ fuel) (h1 : fuel ≤ 4194304) : evalV [sumF] [(n : Int)] fuel = if fuel < 8 * n + 2 then (zeroVal, 62) else (⟨tri n, 8 * n + 2, n + 1, n + 1, 8 * n + 2⟩, 0) := by
  have he := sum_eval n hn
  obtain ⟨_, _, _, q4, q5, _⟩ := fuel_ok (fuel := ((8 * n + 2 : Nat) : Int)) (other := fuel) sum_okf (one_ok (n := (n : Int)) (by unfold okI; omega)) (by rw [he]) h0 h1
  rw [he] at q4 q5
  simp only at q4 q5
  by_cases h : fuel < 8 * n + 2
  · rw [if_pos h]; exact q5 h
  · rw [if_neg h]; exact q4 (by omega)
theorem sum_out {n : Int} (hok : okI n) (hn : n < 0 ∨ 4095 < n) {fuel : Int} (h0 : 0 ≤ fuel) (h1 : fuel ≤ 4194304) : evalV [sumF] [n] fuel = if fuel < 16384 then (zeroVal, 62) else (zeroVal, 63) := by
  have k1 : (evalV [sumF] [n] ((16384 : Nat) : Int)).2 = 63 := by
    rw [eval_run (sum_refused _ _ (by omega)), sum_root]
    have := sum_deep 4095 16385 ⟨0, 1, 1, []⟩ n ⟨-1, 0, 0, 0, 1, n, 0⟩ 0 1 rfl (by omega) (by omega) hok (by omega) (by omega)
    rw [show 4 * 4095 + 4 = 16384 from rfl] at this
    rw [this]
  have k2 : (evalV [sumF] [n] ((16383 : Nat) : Int)).2 = 62 := by
    rw [eval_run (sum_refused _ _ (by omega)), sum_root]
    have := sum_short 4095 16384 ⟨0, 1, 1, []⟩ n ⟨-1, 0, 0, 0, 1, n, 0⟩ 0 1 rfl (by omega) (by omega) hok (by omega) (by omega)
    rw [show 4 * 4095 + 3 = 16383 from rfl] at this
    rw [this]
  by_cases h : fuel < 16384
  · rw [if_pos h]
    have h2 := fuel_out sum_okf (one_ok hok) k2 h0 (by omega)
    have h3 := eval_not (fs := [sumF]) (zs := [n]) (fuel := fuel) (by omega)
    exact Prod.ext h3 h2
  · rw [if_neg h]
    have h2 := fuel_deep sum_okf (one_ok hok) k1 h1 (by omega)
    have h3 := eval_not (fs := [sumF]) (zs := [n]) (fuel := fuel) (by omega)
    exact Prod.ext h3 h2
end Go.Proofs.YtocfcdnbielbiaaDoor
/-! SerialSum: the walk. -/
namespace Go.Proofs.YtocfcdnbielbiaaDoor
set_option linter.unusedVariables false
set_option maxRecDepth 20000
open Go.RowKit Go.HeapKit Go.PlainOps
set_option maxHeartbeats 2000000 in
theorem sumP_any (w : World) : Calls Tryd.prog 21 #[] w fun e w' => ∃ h, e = .returned (.agg #[.slice (some ⟨h, 0, none⟩) 1 1]) ∧ SeenF w' (some ⟨h, 0, none⟩) 1 [sumF] ∧ Keeps None w w' := by
  obtain ⟨b0, b1, b2⟩ := three_boxes w #[.slice (some ⟨w.heap.size + 1 + 1, 0, none⟩) 1 1] (codeC sumF.code).toArray #[.int .i64 1, .int .i64 4, .int .i64 2, .slice (some ⟨w.heap.size + 1, 0, none⟩) 9 9] 24 46 44
  have hk : Keeps None w (((w.alloc (.cells #[.slice (some ⟨w.heap.size + 1 + 1, 0, none⟩) 1 1] 24)).alloc (.cells (codeC sumF.code).toArray 46)).alloc (.cells #[.int .i64 1, .int .i64 4, .int .i64 2, .slice (some ⟨w.heap.size + 1, 0, none⟩) 9 9] 44)) := (((Keeps.refl _ w).andAlloc _).andAlloc _).andAlloc _
  have hse := seen_one (f := sumF) (cc := 9) b1 b2
  have hld := run_loadVar_row (P := Tryd.prog) _ w.heap.size _ 24 _ _ _ b0 Tryd.underlying24 rfl (by kernel_rfl)
  have HS : Hid _ := And.intro hse (And.intro hk hld)
  clear b0 b1 b2 hk hse hld
  go_enter Tryd.func21, Tryd.ntmps21
  go_wp2_with fail
  exact bodyPost_ret (results_one (q := 0) (ty := 24) rfl rfl HS.out.2.2) rfl ⟨w.heap.size + 1 + 1, rfl, HS.out.1, HS.out.2.1⟩
theorem tri_int (n : Nat) (hn : n ≤ 4095) : ((n : Int) * ((n : Int) + 1)).tdiv 2 = (tri n : Int) := by
  unfold tri
  have : (n : Int) * ((n : Int) + 1) = ((n * (n + 1) : Nat) : Int) := by rw [Int.natCast_mul]; rfl
  rw [this]
  exact Int.ofNat_tdiv (n * (n + 1)) 2
set_option maxHeartbeats 2000000 in
theorem sum_walk (n fuel : Int) (w : World) (hT : Tabs w) (hn : okI n) (hfu : okI fuel) :
    Calls Tryd.prog 8 #[.int .i64 n, .int .i64 fuel] w fun e w' => e = .returned (.bool true) ∧ Keeps None w w' := by
  by_cases hr : fuel < 0 ∨ 4194304 < fuel
  · have hlv := lives_any n hn w hT
    clear hT hn hfu
    rcases hr with h | h
    · go_enter Tryd.func8, Tryd.ntmps8
      go_wp2_with (go_at_call 19; refine hlv.mono ?_; rintro _ w5 ⟨rfl, hk5⟩)
      go_ret
      exact ⟨rfl, hk5⟩
    · have h2 : ¬ fuel < 0 := by omega
      go_enter Tryd.func8, Tryd.ntmps8
      go_wp2_with (go_at_call 19; refine hlv.mono ?_; rintro _ w5 ⟨rfl, hk5⟩)
      go_ret
      exact ⟨rfl, hk5⟩
  · have f1 : ¬ fuel < 0 := by omega
    have f2 : ¬ 4194304 < fuel := by omega
    have HT : Hid (Tabs w ∧ okI n ∧ okI fuel) := ⟨hT, hn, hfu⟩
    have hsp := sumP_any w
    obtain ⟨E, hE⟩ : ∃ E, E = evalV [sumF] [n] fuel := ⟨_, rfl⟩
    have hval : E = (if n < 0 ∨ 4095 < n then (if fuel < 16384 then (zeroVal, 62) else (zeroVal, 63)) else (if fuel < 8 * n + 2 then (zeroVal, 62) else (⟨(tri n.toNat : Int), 8 * n + 2, n + 1, n + 1, 8 * n + 2⟩, 0))) := by
      rw [hE]
      by_cases h : n < 0 ∨ 4095 < n
      · rw [if_pos h]; exact sum_out hn h (by omega) (by omega)
      · rw [if_neg h]
        obtain ⟨k, rfl⟩ := Int.eq_ofNat_of_zero_le (show 0 ≤ n by omega)
        exact sum_in (by omega) (by omega) (by omega)
    have HV : Hid _ := hval
    obtain ⟨⟨v, wk, tk, dp, sp⟩, er⟩ := E
    have hev := fun (h : Nat) (wx : World) (hx : Keeps None w wx) (hs : SeenF wx (some ⟨h, 0, none⟩) 1 [sumF]) => eval_any (some ⟨h, 0, none⟩) 1 1 [sumF] (some ⟨wx.heap.size, 0, none⟩) 1 1 [n] fuel (wx.alloc (.cells (ints [n]).toArray 2)) ((hT.more hx).more (Keeps.alloc None wx _)) (hs.more (Keeps.alloc None wx _)) sum_okf (seen_args (l := [n]) (heap_alloc_new wx _) (one_ok hn) (by simp)) (by omega) hfu
    rw [← hE] at hev
    unfold valC at hev
    have HEV : Hid _ := hev
    clear hval hE hT hn hfu hr hev
    go_enter Tryd.func8, Tryd.ntmps8
    go_upto_region 3 with fail
    go_cut [5, 6] (fun s5 s6 wx => ∃ G, s5 = .pointer (some ⟨G, 0, none⟩) ∧ s6 = .int .i64 er ∧ wx.heap[G]? = some (.cells #[.int .i64 v, .int .i64 wk, .int .i64 tk, .int .i64 dp, .int .i64 sp] 28 (0, 0)) ∧ Keeps None w wx)
    case first =>
      go_wp2_with (first
        | (go_at_call 21; refine hsp.mono ?_; rintro _ w2 ⟨h, rfl, hse, hk2⟩)
        | (go_at_call 10; refine (HEV.out _ w2 hk2 hse).mono ?_; rintro _ w3 ⟨rfl, hk3⟩))
      go_meet
      exact ⟨w3.heap.size, rfl, rfl, heap_alloc_new _ _, ((hk2.andAlloc _).trans hk3 (fun _ f _ => f)).andAlloc _⟩
    case rest =>
      obtain ⟨G, rfl, rfl, bG, hkc⟩ := hcut
      have hV := HV.out
      have x0 : wc.cell? ⟨G, 0, none⟩ = some (.int .i64 v) := (blk_cell bG 0).trans rfl
      have x1 : wc.cell? ⟨G, 1, none⟩ = some (.int .i64 wk) := (blk_cell bG 1).trans rfl
      have x2 : wc.cell? ⟨G, 2, none⟩ = some (.int .i64 tk) := (blk_cell bG 2).trans rfl
      have x3 : wc.cell? ⟨G, 3, none⟩ = some (.int .i64 dp) := (blk_cell bG 3).trans rfl
      have x4 : wc.cell? ⟨G, 4, none⟩ = some (.int .i64 sp) := (blk_cell bG 4).trans rfl
      have HK : Hid (Keeps None w wc) := hkc
      unfold zeroVal at hV
      clear bG hkc HV HEV
      by_cases h : n < 0 ∨ 4095 < n
      · rw [if_pos h] at hV
        by_cases hf : fuel < 16384
        · rw [if_pos hf] at hV
          injection hV with p1 p2
          injection p1 with p3 p4 p5 p6 p7
          subst p2 p3 p4 p5 p6 p7
          rcases h with h | h
          · go_wp2_with fail
            go_ret
            exact ⟨rfl, HK.out⟩
          · have h2 : ¬ n < 0 := by omega
            go_wp2_with fail
            go_ret
            exact ⟨rfl, HK.out⟩
        · rw [if_neg hf] at hV
          injection hV with p1 p2
          injection p1 with p3 p4 p5 p6 p7
          subst p2 p3 p4 p5 p6 p7
          rcases h with h | h
          · go_wp2_with fail
            go_ret
            exact ⟨rfl, HK.out⟩
          · have h2 : ¬ n < 0 := by omega
            go_wp2_with fail
            go_ret
            exact ⟨rfl, HK.out⟩
      · rw [if_neg h] at hV
        have n1 : ¬ n < 0 := by omega
        have n2 : ¬ 4095 < n := by omega
        by_cases hf : fuel < 8 * n + 2
        · rw [if_pos hf] at hV
          injection hV with p1 p2
          injection p1 with p3 p4 p5 p6 p7
          subst p2 p3 p4 p5 p6 p7
          clear h
          go_wp2_with fail
          go_ret
          exact ⟨rfl, HK.out⟩
        · rw [if_neg hf] at hV
          injection hV with p1 p2
          injection p1 with p3 p4 p5 p6 p7
          subst p2 p3 p4 p5 p6 p7
          have HTR : Hid ((tri n.toNat : Int) = wrap64 ((wrap64 (n * (n + 1))).tdiv 2)) := by
            obtain ⟨k, rfl⟩ := Int.eq_ofNat_of_zero_le (show 0 ≤ n by omega)
            have hk : k ≤ 4095 := by omega
            have e1 : (k : Int) * ((k : Int) + 1) = ((k * (k + 1) : Nat) : Int) := by rw [Int.natCast_mul]; rfl
            have e2 : k * (k + 1) ≤ 4095 * 4096 := Nat.mul_le_mul hk (by omega)
            have e3 : wrap64 ((k : Int) * ((k : Int) + 1)) = (k : Int) * ((k : Int) + 1) := by rw [e1]; unfold wrap64; omega
            have e4 := tri_le k hk
            show (tri k : Int) = _
            rw [e3, tri_int k hk]
            unfold wrap64
            omega
          clear h
          go_wp2_with fail
          all_goals first
            | (rename_i hx; exact absurd HTR.out hx)
            | (go_ret; exact ⟨rfl, HK.out⟩)
end Go.Proofs.YtocfcdnbielbiaaDoor
