import Derived.Test.YtdpljbdnbmdokaaDoorPkAW
import Derived.Test.YtdpljbdnbmdokaaDoorPkAX
/-! The statements' makers of functions. -/
namespace Go.Proofs.YtdpljbdnbmdokaaDoor
set_option linter.unusedVariables false
set_option maxRecDepth 20000
open Go.RowKit Go.HeapKit Go.PlainOps

structure FSt (w0 W : World) (R F : Nat) (p r : Int) (v : Value) (l : List Ins) : Prop where
  keep : Keeps None w0 W
  blkR : W.heap[R]? = some (.cells #[.int .i64 0, .int .i64 0, .int .i64 0, .slice none 0 0] 28 (0, 0))
  blkF : W.heap[F]? = some (.cells #[.int .i64 p, .int .i64 r, .int .i64 0, v] 28 (0, 0))
  own : OwnC W w0.heap.size v l
  r : w0.heap.size ≤ R
  f : w0.heap.size ≤ F
  ne : R ≠ F
theorem field_step {w0 W : World} {R F : Nat} {p r : Int} {a : Option Addr} {n c : Nat} {l : List Ins} (h : FSt w0 W R F p r (.slice a n c) l) (hn : n = l.length) (hl : l.length ≤ 100) (i : Ins) :
    ∃ a' c' V, (Builtin.append_ #[26, 26] 26 #[.slice a n c, .slice (some ⟨W.heap.size, 0, none⟩) 1 1]).run Tryd.prog (W.alloc (.cells #[.int .i64 i.kind, .int .i64 i.a, .int .i64 i.b, .int .i64 i.c, .int .i64 i.k] 47)) = .ok (.slice a' (n + 1) c') V ∧
      V.cell? ⟨F, 3, none⟩ = some (.slice a n c) ∧ V.frozen? ⟨F, 3, none⟩ = false ∧ FSt w0 (V.setCell ⟨F, 3, none⟩ (.slice a' (n + 1) c')) R F p r (.slice a' (n + 1) c') (l ++ [i]) := by
  obtain ⟨i0, hi, hz0, hz1, hz2⟩ := info_parts Tryd.plIns
  subst hn
  have hal := Keeps.alloc None W (.cells #[.int .i64 i.kind, .int .i64 i.a, .int .i64 i.b, .int .i64 i.c, .int .i64 i.k] 47)
  have hg := heap_alloc_new W (.cells #[.int .i64 i.kind, .int .i64 i.a, .int .i64 i.b, .int .i64 i.c, .int .i64 i.k] 47)
  have h1 := h.own.more hal
  have hsz := h.keep.size
  obtain ⟨v', V, hr, ho, hgr, hm, -⟩ := run_append_moved (P := Tryd.prog) _ w0.heap.size 26 26 47 i0 _ 5 40 Tryd.underlying26 hi hz0 hz1 hz2 rfl (by decide) _ l.length (codeC l) h1
    ⟨W.heap.size, 0, none⟩ 1 1 (insCells i) rfl (by
      intro j u hu
      rw [show (⟨W.heap.size, 0, none⟩ : Addr).add j = ⟨W.heap.size, j, none⟩ by unfold Addr.add; split <;> simp_all, blk_cell hg]
      simpa [insCells] using hu) (by
      intro u hu
      simp [insCells] at hu
      rcases hu with rfl | rfl | rfl | rfl | rfl <;> rfl) (by unfold maxLen; omega) (by omega) (by simp; omega)
  have hsh : ∃ a' c', v' = .slice a' (l.length + 1) c' := by
    rcases ho.2 with ⟨hv, h0⟩ | ⟨g', cap', _, e, _⟩
    · omega
    · exact ⟨_, cap', e⟩
  obtain ⟨a', c', rfl⟩ := hsh
  have hkp : Keeps (fun k => (Value.slice a l.length c).ownBlock = some k) W V := ((Keeps.refl _ W).andAlloc _).andGrown hgr (fun k e => .inl e)
  have apart : ∀ {k : Nat} {cs : Array Value}, W.heap[k]? = some (.cells cs 28 (0, 0)) → ¬ (Value.slice a l.length c).ownBlock = some k := fun hb e => by
    have := own_type h.own e hb
    exact absurd this (by decide)
  have bR := blk_kept h.blkR hkp (apart h.blkR)
  have bF := blk_kept h.blkF hkp (apart h.blkF)
  have kS := Keeps.setCell (S := (· = F)) V (a := ⟨F, 3, none⟩) rfl (.slice a' (l.length + 1) c')
  have ho' : OwnC V w0.heap.size (.slice a' (l.length + 1) c') (l ++ [i]) := by
    have e : codeC (l ++ [i]) = codeC l ++ insCells i := by simp [codeC]
    show V.ownsRow _ _ _ _ (l ++ [i]).length (codeC (l ++ [i]))
    rw [e, List.length_append]
    exact ho
  refine ⟨a', c', V, hr, (blk_cell bF 3).trans rfl, blk_free bF 3, ?_⟩
  refine ⟨(h.keep.trans hkp (fun k e hk => ?_)).trans kS (fun k e hk => ?_), blk_kept bR kS h.ne, ?_, ho'.kept kS (fun k e hk => ?_), h.r, h.f, h.ne⟩
  · have := (h.own.base e).1
    omega
  · have := h.f
    have e' : k = F := e
    omega
  · have := blk_set (i := 3) bF (.slice a' (l.length + 1) c')
    exact this
  · subst hk
    have := own_type ho' e bF
    exact absurd this (by decide)
/-- The beginning: a result and a function without code. -/
theorem field_start (w : World) (p r : Int) : FSt w ((w.alloc (.cells #[.int .i64 0, .int .i64 0, .int .i64 0, .slice none 0 0] 28)).alloc (.cells #[.int .i64 p, .int .i64 r, .int .i64 0, .slice none 0 0] 28)) w.heap.size (w.heap.size + 1) p r (.slice none 0 0) [] := by
  have b1 := heap_alloc_new w (.cells #[.int .i64 0, .int .i64 0, .int .i64 0, .slice none 0 0] 28)
  have q2 := Keeps.alloc None (w.alloc (.cells #[.int .i64 0, .int .i64 0, .int .i64 0, .slice none 0 0] 28)) (.cells #[.int .i64 p, .int .i64 r, .int .i64 0, .slice none 0 0] 28)
  have b2 := heap_alloc_new (w.alloc (.cells #[.int .i64 0, .int .i64 0, .int .i64 0, .slice none 0 0] 28)) (.cells #[.int .i64 p, .int .i64 r, .int .i64 0, .slice none 0 0] 28)
  rw [show (w.alloc (.cells #[.int .i64 0, .int .i64 0, .int .i64 0, .slice none 0 0] 28)).heap.size = w.heap.size + 1 by simp] at b2
  exact ⟨((Keeps.refl _ w).andAlloc _).andAlloc _, blk_kept b1 q2 (fun f => f), b2, own_nil _ _, Nat.le_refl _, by omega, by omega⟩
set_option maxHeartbeats 2000000 in
theorem at_any (op k : Int) (w : World) : Calls Tryd.prog 9 #[.int .i64 op, .int .i64 k] w fun e w' => ∃ v, e = .returned (.agg #[.int .i64 1, .int .i64 2, .int .i64 0, v]) ∧ OwnC w' w.heap.size v (atF op k).code ∧ Keeps None w w' := by
  obtain ⟨B, hB⟩ : ∃ B, B = w.heap.size := ⟨_, rfl⟩
  have S0 := field_start w 1 2
  obtain ⟨W0, hW0⟩ : ∃ W0, W0 = (w.alloc (.cells #[.int .i64 0, .int .i64 0, .int .i64 0, .slice none 0 0] 28)).alloc (.cells #[.int .i64 1, .int .i64 2, .int .i64 0, .slice none 0 0] 28) := ⟨_, rfl⟩
  rw [← hW0, ← hB] at S0
  go_enter Tryd.func9, Tryd.ntmps9
  go_upto_region 2 with fail
  rw [← hW0, ← hB]
  clear hW0
  have HB : Hid (B = w.heap.size) := hB
  clear hB
  have d0 : W0.cell? ⟨B + 1, 3, none⟩ = some (.slice none 0 0) := (blk_cell S0.blkF 3).trans rfl
  obtain ⟨a1, c1, V1, hr1, x1, z1, S1⟩ := field_step S0 rfl (by simp) ⟨0, 1, 0, 0, k⟩
  obtain ⟨W1, hW1⟩ : ∃ W, W = V1.setCell ⟨B + 1, 3, none⟩ (.slice a1 (0 + 1) c1) := ⟨_, rfl⟩
  rw [← hW1] at S1
  have d1 : W1.cell? ⟨B + 1, 3, none⟩ = some (.slice a1 1 c1) := (blk_cell S1.blkF 3).trans rfl
  have H1 : Hid _ := S1
  clear S0
  simp only at hr1
  go_upto_region 3 with (at_builtin; refine wpList_append_run rfl (.tmp 8) (.tmp 11) 26 26 rfl rfl rfl hr1 ?_)
  rw [← hW1]
  clear hW1 hr1 d0 x1 z1
  obtain ⟨a2, c2, V2, hr2, x2, z2, S2⟩ := field_step S1 rfl (by simp) ⟨2, 0, 0, 1, op⟩
  obtain ⟨W2, hW2⟩ : ∃ W, W = V2.setCell ⟨B + 1, 3, none⟩ (.slice a2 (1 + 1) c2) := ⟨_, rfl⟩
  rw [← hW2] at S2
  have d2 : W2.cell? ⟨B + 1, 3, none⟩ = some (.slice a2 2 c2) := (blk_cell S2.blkF 3).trans rfl
  have H2 : Hid _ := S2
  clear S1
  simp only at hr2
  go_upto_region 4 with (at_builtin; refine wpList_append_run rfl (.tmp 15) (.tmp 18) 26 26 rfl rfl rfl hr2 ?_)
  rw [← hW2]
  clear hW2 hr2 d1 x2 z2
  obtain ⟨a3, c3, V3, hr3, x3, z3, S3⟩ := field_step S2 rfl (by simp) ⟨9, 0, 0, 0, 0⟩
  obtain ⟨W3, hW3⟩ : ∃ W, W = V3.setCell ⟨B + 1, 3, none⟩ (.slice a3 (2 + 1) c3) := ⟨_, rfl⟩
  rw [← hW3] at S3
  have d3 : W3.cell? ⟨B + 1, 3, none⟩ = some (.slice a3 3 c3) := (blk_cell S3.blkF 3).trans rfl
  have H3 : Hid _ := S3
  clear S2
  simp only at hr3
  go_upto_region 5 with (at_builtin; refine wpList_append_run rfl (.tmp 22) (.tmp 24) 26 26 rfl rfl rfl hr3 ?_)
  rw [← hW3]
  clear hW3 hr3 d2 x3 z3
  have c0 : W3.cell? ⟨B + 1, 0, none⟩ = some (.int .i64 1) := (blk_cell S3.blkF 0).trans rfl
  have c1 : W3.cell? ⟨B + 1, 1, none⟩ = some (.int .i64 2) := (blk_cell S3.blkF 1).trans rfl
  have c2 : W3.cell? ⟨B + 1, 2, none⟩ = some (.int .i64 0) := (blk_cell S3.blkF 2).trans rfl
  have e0 : W3.cell? ⟨B, 0, none⟩ = some (.int .i64 0) := (blk_cell S3.blkR 0).trans rfl
  have z0 := blk_free S3.blkR 0
  have e1 : W3.cell? ⟨B, 1, none⟩ = some (.int .i64 0) := (blk_cell S3.blkR 1).trans rfl
  have z1 := blk_free S3.blkR 1
  have e2 : W3.cell? ⟨B, 2, none⟩ = some (.int .i64 0) := (blk_cell S3.blkR 2).trans rfl
  have z2 := blk_free S3.blkR 2
  have e3 : W3.cell? ⟨B, 3, none⟩ = some (.slice none 0 0) := (blk_cell S3.blkR 3).trans rfl
  have z3 := blk_free S3.blkR 3
  have HS : Hid _ := S3
  clear S3
  go_wp2
  refine fn_end 4 rfl rfl HS.out.blkR rfl rfl _ _ _ _ (fun w' hw' => ?_)
  refine ⟨_, rfl, HS.out.own.kept hw' (fun g e q => ?_), HS.out.keep.trans hw' (fun i e hi => ?_)⟩
  · subst q
    have := own_type HS.out.own e HS.out.blkR
    exact absurd this (by decide)
  · have e' : i = B := e
    have := HB.out
    omega
set_option maxHeartbeats 2000000 in
theorem slow_any (r : Int) (w : World) : Calls Tryd.prog 6 #[.int .i64 r] w fun e w' => ∃ v, e = .returned (.agg #[.int .i64 1, .int .i64 3, .int .i64 0, v]) ∧ OwnC w' w.heap.size v (slowF r).code ∧ Keeps None w w' := by
  obtain ⟨B, hB⟩ : ∃ B, B = w.heap.size := ⟨_, rfl⟩
  have S0 := field_start w 1 3
  obtain ⟨W0, hW0⟩ : ∃ W0, W0 = (w.alloc (.cells #[.int .i64 0, .int .i64 0, .int .i64 0, .slice none 0 0] 28)).alloc (.cells #[.int .i64 1, .int .i64 3, .int .i64 0, .slice none 0 0] 28) := ⟨_, rfl⟩
  rw [← hW0, ← hB] at S0
  go_enter Tryd.func6, Tryd.ntmps6
  go_upto_region 2 with fail
  rw [← hW0, ← hB]
  clear hW0
  have HB : Hid (B = w.heap.size) := hB
  clear hB
  have d0 : W0.cell? ⟨B + 1, 3, none⟩ = some (.slice none 0 0) := (blk_cell S0.blkF 3).trans rfl
  obtain ⟨a1, c1, V1, hr1, x1, z1, S1⟩ := field_step S0 rfl (by simp) ⟨0, 1, 0, 0, r⟩
  obtain ⟨W1, hW1⟩ : ∃ W, W = V1.setCell ⟨B + 1, 3, none⟩ (.slice a1 (0 + 1) c1) := ⟨_, rfl⟩
  rw [← hW1] at S1
  have d1 : W1.cell? ⟨B + 1, 3, none⟩ = some (.slice a1 1 c1) := (blk_cell S1.blkF 3).trans rfl
  have H1 : Hid _ := S1
  clear S0
  simp only at hr1
  go_upto_region 3 with (at_builtin; refine wpList_append_run rfl (.tmp 6) (.tmp 9) 26 26 rfl rfl rfl hr1 ?_)
  rw [← hW1]
  clear hW1 hr1 d0 x1 z1
  obtain ⟨a2, c2, V2, hr2, x2, z2, S2⟩ := field_step S1 rfl (by simp) ⟨0, 2, 0, 0, 1⟩
  obtain ⟨W2, hW2⟩ : ∃ W, W = V2.setCell ⟨B + 1, 3, none⟩ (.slice a2 (1 + 1) c2) := ⟨_, rfl⟩
  rw [← hW2] at S2
  have d2 : W2.cell? ⟨B + 1, 3, none⟩ = some (.slice a2 2 c2) := (blk_cell S2.blkF 3).trans rfl
  have H2 : Hid _ := S2
  clear S1
  simp only at hr2
  go_upto_region 4 with (at_builtin; refine wpList_append_run rfl (.tmp 13) (.tmp 15) 26 26 rfl rfl rfl hr2 ?_)
  rw [← hW2]
  clear hW2 hr2 d1 x2 z2
  obtain ⟨a3, c3, V3, hr3, x3, z3, S3⟩ := field_step S2 rfl (by simp) ⟨2, 1, 1, 2, 1⟩
  obtain ⟨W3, hW3⟩ : ∃ W, W = V3.setCell ⟨B + 1, 3, none⟩ (.slice a3 (2 + 1) c3) := ⟨_, rfl⟩
  rw [← hW3] at S3
  have d3 : W3.cell? ⟨B + 1, 3, none⟩ = some (.slice a3 3 c3) := (blk_cell S3.blkF 3).trans rfl
  have H3 : Hid _ := S3
  clear S2
  simp only at hr3
  go_upto_region 5 with (at_builtin; refine wpList_append_run rfl (.tmp 19) (.tmp 21) 26 26 rfl rfl rfl hr3 ?_)
  rw [← hW3]
  clear hW3 hr3 d2 x3 z3
  obtain ⟨a4, c4, V4, hr4, x4, z4, S4⟩ := field_step S3 rfl (by simp) ⟨4, 1, 2, 0, 0⟩
  obtain ⟨W4, hW4⟩ : ∃ W, W = V4.setCell ⟨B + 1, 3, none⟩ (.slice a4 (3 + 1) c4) := ⟨_, rfl⟩
  rw [← hW4] at S4
  have d4 : W4.cell? ⟨B + 1, 3, none⟩ = some (.slice a4 4 c4) := (blk_cell S4.blkF 3).trans rfl
  have H4 : Hid _ := S4
  clear S3
  simp only at hr4
  go_upto_region 6 with (at_builtin; refine wpList_append_run rfl (.tmp 25) (.tmp 27) 26 26 rfl rfl rfl hr4 ?_)
  rw [← hW4]
  clear hW4 hr4 d3 x4 z4
  obtain ⟨a5, c5, V5, hr5, x5, z5, S5⟩ := field_step S4 rfl (by simp) ⟨9, 0, 0, 0, 0⟩
  obtain ⟨W5, hW5⟩ : ∃ W, W = V5.setCell ⟨B + 1, 3, none⟩ (.slice a5 (4 + 1) c5) := ⟨_, rfl⟩
  rw [← hW5] at S5
  have d5 : W5.cell? ⟨B + 1, 3, none⟩ = some (.slice a5 5 c5) := (blk_cell S5.blkF 3).trans rfl
  have H5 : Hid _ := S5
  clear S4
  simp only at hr5
  go_upto_region 7 with (at_builtin; refine wpList_append_run rfl (.tmp 31) (.tmp 33) 26 26 rfl rfl rfl hr5 ?_)
  rw [← hW5]
  clear hW5 hr5 d4 x5 z5
  have c0 : W5.cell? ⟨B + 1, 0, none⟩ = some (.int .i64 1) := (blk_cell S5.blkF 0).trans rfl
  have c1 : W5.cell? ⟨B + 1, 1, none⟩ = some (.int .i64 3) := (blk_cell S5.blkF 1).trans rfl
  have c2 : W5.cell? ⟨B + 1, 2, none⟩ = some (.int .i64 0) := (blk_cell S5.blkF 2).trans rfl
  have e0 : W5.cell? ⟨B, 0, none⟩ = some (.int .i64 0) := (blk_cell S5.blkR 0).trans rfl
  have z0 := blk_free S5.blkR 0
  have e1 : W5.cell? ⟨B, 1, none⟩ = some (.int .i64 0) := (blk_cell S5.blkR 1).trans rfl
  have z1 := blk_free S5.blkR 1
  have e2 : W5.cell? ⟨B, 2, none⟩ = some (.int .i64 0) := (blk_cell S5.blkR 2).trans rfl
  have z2 := blk_free S5.blkR 2
  have e3 : W5.cell? ⟨B, 3, none⟩ = some (.slice none 0 0) := (blk_cell S5.blkR 3).trans rfl
  have z3 := blk_free S5.blkR 3
  have HS : Hid _ := S5
  clear S5
  go_wp2
  refine fn_end 2 rfl rfl HS.out.blkR rfl rfl _ _ _ _ (fun w' hw' => ?_)
  refine ⟨_, rfl, HS.out.own.kept hw' (fun g e q => ?_), HS.out.keep.trans hw' (fun i e hi => ?_)⟩
  · subst q
    have := own_type HS.out.own e HS.out.blkR
    exact absurd this (by decide)
  · have e' : i = B := e
    have := HB.out
    omega
end Go.Proofs.YtdpljbdnbmdokaaDoor
/-! ParlibLog: the walk. -/
namespace Go.Proofs.YtdpljbdnbmdokaaDoor
set_option linter.unusedVariables false
set_option maxRecDepth 20000
open Go.RowKit Go.HeapKit Go.PlainOps

def modP (x : Int) (n : Nat) : Nat := (x % (n : Int)).toNat
theorem modP_lt (x : Int) {n : Nat} (h : 0 < n) : modP x n < n := by
  unfold modP
  have h2 := Int.emod_nonneg x (show (n : Int) ≠ 0 by omega)
  have h3 := Int.emod_lt_of_pos x (show (0 : Int) < n by omega)
  omega
theorem mod13_any (x : Int) (n : Nat) (w : World) (hx : okI x) (h0 : 0 < n) (h1 : n ≤ 1000) : Calls Tryd.prog 5 #[.int .i64 x, .int .i64 n] w fun e w' => e = .returned (.int .i64 (modP x n : Nat)) ∧ Keeps None w w' := by
  have hm : (modP x n : Int) = x % (n : Int) := by
    unfold modP
    have h2 := Int.emod_nonneg x (show (n : Int) ≠ 0 by omega)
    omega
  have h2 := Go.PlainOps.tmod_mod x n (by omega)
  obtain ⟨b0, b1⟩ := Go.PlainOps.tmod_bounds x n (by omega)
  have E : Hid ((modP x n : Int) = (if x.tmod n < 0 then x.tmod n + n else x.tmod n)) := by unfold Hid; rw [hm, h2]
  have hn : ¬ (n : Int) = 0 := by omega
  have hn2 : (n : Int) ≤ 1000 := by omega
  have b2 : -1001 ≤ x.tmod n := by omega
  clear hm h2
  unfold okI at hx
  obtain ⟨R, hR⟩ : ∃ R, R = modP x n := ⟨_, rfl⟩
  rw [← hR] at E ⊢
  clear hR
  by_cases hr : x.tmod n < 0
  · go_enter Tryd.func5, Tryd.ntmps5
    go_wp2
    go_ret
    exact ⟨by rw [E.out, if_pos hr]; rfl, Keeps.refl _ _⟩
  · go_enter Tryd.func5, Tryd.ntmps5
    go_wp2
    go_ret
    exact ⟨by rw [E.out, if_neg (by omega)]; rfl, Keeps.refl _ _⟩
/-- 'append(nil, f)'. -/
theorem fn_first (f : Fn) (cv : Value) (g0 base : Nat) (w : World) (hcv : OwnC w base cv f.code) (hg0 : w.heap[g0]? = some (.cells #[.int .i64 f.params, .int .i64 f.regs, .int .i64 f.slots, cv] 28 (0, 0))) (hb : base ≤ w.heap.size) :
    ∃ a' c' w', (Builtin.append_ #[23, 23] 23 #[.slice none 0 0, .slice (some ⟨g0, 0, none⟩) 1 1]).run Tryd.prog w = .ok (.slice a' 1 c') w' ∧ OwnF w' base (.slice a' 1 c') [(f, cv)] ∧ Keeps None w w' := by
  obtain ⟨i0, hi, hz0, hz1, hz2⟩ := info_parts Tryd.plFn
  obtain ⟨ca, cc, ecv, -⟩ := hcv.shape
  obtain ⟨v', w', hr, ho, hgr, hmv, -⟩ := run_append_moved (P := Tryd.prog) w base 23 23 28 i0 _ 4 48 Tryd.underlying23 hi hz0 hz1 hz2 rfl (by decide) (.slice none 0 0) 0 [] ⟨rfl, .inl ⟨rfl, rfl⟩⟩
    ⟨g0, 0, none⟩ 1 1 (fnC (f, cv)) rfl (fun j u hu => by
      rw [show (⟨g0, 0, none⟩ : Addr).add j = ⟨g0, j, none⟩ by unfold Addr.add; split <;> simp_all, blk_cell hg0]
      simpa [fnC] using hu) (by
      intro u hu
      simp [fnC] at hu
      rcases hu with rfl | rfl | rfl | rfl
      · rfl
      · rfl
      · rfl
      · rw [ecv]; rfl) (by unfold maxLen; omega) (by omega) hb
  have hsh : ∃ a' c', v' = .slice a' 1 c' := by
    rcases ho.2 with ⟨hv, h0⟩ | ⟨g', cap', _, e, _⟩
    · omega
    · exact ⟨_, cap', e⟩
  obtain ⟨a', c', rfl⟩ := hsh
  have hkp : Keeps None w w' := (Keeps.refl _ w).andGrown hgr (fun k e => by simp [Value.ownBlock] at e)
  refine ⟨a', c', w', hr, ⟨?_, fun x hx => ?_⟩, hkp⟩
  · show w'.ownsRow base _ 4 _ 1 (fnsC [(f, cv)])
    rw [show fnsC [(f, cv)] = [] ++ fnC (f, cv) by simp [fnsC]]
    exact ho
  · simp at hx
    subst hx
    exact hcv.more hkp
theorem slow_ok (r : Int) (h : okI r) : ∀ f ∈ [slowF r], f.Ok := by
  intro f hf
  simp at hf
  subst hf
  refine ⟨by simp [slowF, okI], by simp [slowF, okI], by simp [slowF, okI], fun i hi => ?_⟩
  simp [slowF] at hi
  rcases hi with rfl | rfl | rfl | rfl | rfl
  · exact ⟨by simp [okI], by simp [okI], by simp [okI], by simp [okI], h⟩
  all_goals exact ⟨by simp [okI], by simp [okI], by simp [okI], by simp [okI], by simp [okI]⟩
theorem at_ok (op k : Int) (h : okI op) (hk : okI k) : ∀ f ∈ [atF op k], f.Ok := by
  intro f hf
  simp at hf
  subst hf
  refine ⟨by simp [atF, okI], by simp [atF, okI], by simp [atF, okI], fun i hi => ?_⟩
  simp [atF] at hi
  rcases hi with rfl | rfl | rfl
  · exact ⟨by simp [okI], by simp [okI], by simp [okI], by simp [okI], hk⟩
  · exact ⟨by simp [okI], by simp [okI], by simp [okI], by simp [okI], h⟩
  · exact ⟨by simp [okI], by simp [okI], by simp [okI], by simp [okI], by simp [okI]⟩
theorem ins_ok (i : Ins) (h : -1000 ≤ i.kind ∧ i.kind ≤ 1000) (ha : -1000 ≤ i.a ∧ i.a ≤ 1000) (hb : -1000 ≤ i.b ∧ i.b ≤ 1000) (hc : -1000 ≤ i.c ∧ i.c ≤ 1000) (hk : -1000 ≤ i.k ∧ i.k ≤ 1000) : i.Ok := ⟨by unfold okI; omega, by unfold okI; omega, by unfold okI; omega, by unfold okI; omega, by unfold okI; omega⟩
/-- For's program has numbers that fit. -/
theorem forP_ok (l : List Fn) (hl : ∀ f ∈ l, f.Ok) (hs : ∀ f ∈ l, ∀ i ∈ f.code, i.kind = 5 → 0 ≤ i.b ∧ i.b ≤ 1000) (b : Int) (hb : 0 ≤ b ∧ b ≤ 100) : ∀ f ∈ forP l b, f.Ok := by
  intro f hf
  unfold forP at hf
  rcases List.mem_cons.1 hf with rfl | hf
  · refine ⟨by simp [entF, okI], by simp [entF, okI], by simp [entF, okI], fun i hi => ?_⟩
    simp [entF, entC] at hi
    rcases hi with rfl | rfl | rfl | rfl | rfl | rfl | rfl | rfl | rfl | rfl | rfl <;> exact ins_ok _ (by simp) (by simp) (by simp) (by simp) (by simp)
  · rcases List.mem_cons.1 hf with rfl | hf
    · refine ⟨by simp [rnF, okI], by simp [rnF, okI], by simp [rnF, okI], fun i hi => ?_⟩
      simp [rnF, rnC, choC, lfC, hvC] at hi
      rcases hi with rfl | rfl | rfl | rfl | rfl | rfl | rfl | rfl | rfl | rfl | rfl | rfl | rfl | rfl | rfl | rfl | rfl | rfl | rfl | rfl | rfl <;> exact ins_ok _ (by simp) (by simp) (by simp <;> omega) (by simp) (by simp)
    · obtain ⟨g, hg, rfl⟩ := List.mem_map.1 hf
      have h := hl g hg
      refine ⟨h.params, h.regs, h.slots, fun i hi => ?_⟩
      obtain ⟨j, hj, rfl⟩ := List.mem_map.1 hi
      have hj2 := h.code j hj
      unfold shI
      split
      · rename_i h5
        have := hs g hg j hj h5
        exact ⟨hj2.kind, hj2.a, by show okI (j.b + 2); unfold okI; omega, hj2.c, hj2.k⟩
      · exact hj2
end Go.Proofs.YtdpljbdnbmdokaaDoor
/-! ParlibLog: the statement's walk. -/
namespace Go.Proofs.YtdpljbdnbmdokaaDoor
set_option linter.unusedVariables false
set_option maxRecDepth 20000
open Go.RowKit Go.HeapKit Go.PlainOps

theorem slow_forE (r : Int) : forE [slowF r] 0 = 0 := by rfl
/-- The program that For has made, in memory. -/
def Made (w' : World) (l : List Fn) (v : Value) : Prop := ∃ a n c, v = .slice a n c ∧ SeenF w' a n l ∧ n = l.length
theorem made_of {w w' : World} {l : List Fn} {b : Int} {e : Ending} (hz : forE l b = 0) (h : ForPost l b w e w') : ∃ a n c, e = .returned (.tuple #[.agg #[.slice a n c], .int .i64 0]) ∧ SeenF w' a n (forP l b) ∧ Keeps None w w' := by
  obtain ⟨hk, h⟩ := h
  rcases h with ⟨h0, _⟩ | ⟨_, v, L', rfl, ho, hm⟩
  · exact absurd hz h0
  · obtain ⟨a, c, rfl, hs⟩ := ho.seen
    rw [hm] at hs
    exact ⟨a, _, c, rfl, hs, hk⟩
set_option maxHeartbeats 4000000 in
theorem log_walk (power rounds : Int) (w : World) (hT : Tabs w) (hp : okI power) (hr : okI rounds) :
    Calls Tryd.prog 3 #[.int .i64 power, .int .i64 rounds] w fun e w' => e = .returned (.bool true) ∧ Keeps None w w' := by
  obtain ⟨KK, hK⟩ : ∃ KK, KK = modP power 8 := ⟨_, rfl⟩
  obtain ⟨R, hR⟩ : ∃ R, R = modP rounds 300 := ⟨_, rfl⟩
  have hK8 : KK < 8 := by rw [hK]; exact modP_lt _ (by omega)
  have hR3 : R < 300 := by rw [hR]; exact modP_lt _ (by omega)
  have m1 := mod13_any power 8 w hp (by omega) (by omega)
  rw [← hK] at m1
  have m2 : ∀ w', Keeps None w w' → Calls Tryd.prog 5 #[.int .i64 rounds, .int .i64 300] w' fun e w'' => e = .returned (.int .i64 R) ∧ Keeps None w' w'' := fun w' _ => by
    have := mod13_any rounds 300 w' hr (by omega) (by omega)
    rw [← hR] at this
    exact this
  have M2 : Hid _ := m2
  have HT : Hid (Tabs w) := hT
  have i1 : (KK : Int) < 8 := by omega
  have i2 : (R : Int) < 300 := by omega
  clear hK hR m2 hp hr hT
  go_enter Tryd.func3, Tryd.ntmps3
  go_wp2_with fail
  refine m1.mono ?_
  rintro _ w1 ⟨rfl, k1⟩
  clear m1
  have bP := heap_alloc_new w1 (.cells #[.slice none 0 0] 25)
  have kP := Keeps.alloc None w1 (.cells #[.slice none 0 0] 25)
  obtain ⟨W, hW⟩ : ∃ W, W = w1.alloc (.cells #[.slice none 0 0] 25) := ⟨_, rfl⟩
  obtain ⟨P, hP⟩ : ∃ P, P = w1.heap.size := ⟨_, rfl⟩
  rw [← hW] at bP kP
  rw [← hP] at bP
  have HW : Hid (Keeps None w W ∧ W.heap[P]? = some (.cells #[.slice none 0 0] 25 (0, 0)) ∧ w.heap.size ≤ P) := ⟨k1.trans kP (fun _ f _ => f), bP, by have := k1.size; omega⟩
  clear bP kP k1
  go_upto_region 3 with fail
  rw [← hW, ← hP]
  clear hW hP
  have r00 : W.cell? ⟨P, 0, none⟩ = some (.slice none 0 0) := (blk_cell HW.out.2.1 0).trans rfl
  have r0 : W.drew.cell? ⟨P, 0, none⟩ = some (.slice none 0 0) := (Keeps.drew None W).cell r00 (fun f => f)
  have i3 : IntKind.i64.wrap (1 + (R : Int)) = (R : Int) + 1 := by rw [IntKind.wrap_i64]; omega
  go_cut [] (fun wc => ∃ a c, wc.heap[P]? = some (.cells #[.slice a 1 c] 25 (0, 0)) ∧ SeenF wc a 1 [slowF ((R : Int) + 1)] ∧ Keeps None w wc)
  case first =>
    refine wp_region_held_drew (S := (fun w' => True)) (by kernel_rfl) ?_ (fun hHeld => ?_)
    · (try dsimp only); all_goals trivial
    refine wpAnyH_take (i := 0) (oi := { dst := some 17, op := Op.fieldAddr 25 (Operand.tmp 6) 0, type := 0, pos := "outright.go:123", after := #[], guard := none }) (v := ?_) rfl (by kernel_rfl) (by kernel_rfl) (by kernel_rfl) (fun _ _ _ h => h) (Or.inl ⟨by rfl, ?_⟩) (by assumption) ?_
    rotate_left
    · (intro wz hSw; (try dsimp only at hSw); go_simp; try with_reducible rfl)
    simp only [Act.put, List.setIfInBounds_toArray, List.set_cons_zero, List.set_cons_succ]
    refine wpAnyH_take (i := 2) (oi := { dst := some 19, op := Op.move (Operand.tmp 1), type := 3, pos := "outright.go:123", after := #[], guard := none }) (v := ?_) rfl (by kernel_rfl) (by kernel_rfl) (by kernel_rfl) (fun _ _ _ h => h) (Or.inl ⟨by rfl, ?_⟩) (by assumption) ?_
    rotate_left
    · (intro wz hSw; (try dsimp only at hSw); go_simp; try with_reducible rfl)
    simp only [Act.put, List.setIfInBounds_toArray, List.set_cons_zero, List.set_cons_succ]
    refine wpAnyH_ready (rs := [1, 3]) (by kernel_rfl) (by simp) ?_
    refine AllReadyH.cons (o := { dst := some 18, op := Op.load 23 (Operand.tmp 17), type := 23, pos := "outright.go:123", after := #[{ on := 0, ground := Ground.data }], guard := none }) rfl (fun K hK => ?_) ?_
    · go_simp
      refine hK.out _ _ ?_ (fun hHeld2 => ?_)
      · (try dsimp only); all_goals trivial
      clear hK K
      try simp only [Act.put, List.setIfInBounds_toArray, List.set_cons_zero, List.set_cons_succ]
      refine wpAnyH_ready (rs := [3]) (by kernel_rfl) (by simp) ?_
      refine AllReadyH.cons (o := { dst := some 20, op := Op.call { callee := Callee.value (Operand.func 5), args := #[Operand.tmp 19, Operand.const (Value.int IntKind.i64 300)], argTypes := #[3, 3] }, type := 3, pos := "outright.go:123", after := #[{ on := 2, ground := Ground.data }], guard := none }) rfl (fun K hK => ?_) ?_
      · go_simp
        refine (M2.out _ (HW.out.1.andDrew)).mono ?_
        rintro _ w3 ⟨rfl, k3⟩
        have j3 : Keeps None W w3 := (Keeps.drew None W).trans k3 (fun _ f _ => f)
        have r3 := j3.cell r00 (fun f => f)
        refine hK.out _ _ ?_ (fun hHeld2 => ?_)
        · (try dsimp only); all_goals trivial
        clear hK K
        try simp only [Act.put, List.setIfInBounds_toArray, List.set_cons_zero, List.set_cons_succ]
        refine wpAnyH_take (i := 4) (oi := { dst := some 21, op := Op.binOp BinOp.add 3 (Operand.const (Value.int IntKind.i64 1)) (Operand.tmp 20) 3, type := 3, pos := "outright.go:123", after := #[{ on := 3, ground := Ground.data }], guard := none }) (v := ?_) rfl (by kernel_rfl) (by kernel_rfl) (by kernel_rfl) (fun _ _ _ h => h) (Or.inl ⟨by rfl, ?_⟩) (by assumption) ?_
        rotate_left
        · (intro wz hSw; (try dsimp only at hSw); go_simp; try with_reducible rfl)
        simp only [Act.put, List.setIfInBounds_toArray, List.set_cons_zero, List.set_cons_succ]
        refine wpAnyH_ready (rs := [5]) (by kernel_rfl) (by simp) ?_
        refine AllReadyH.cons (o := { dst := some 22, op := Op.call { callee := Callee.value (Operand.func 6), args := #[Operand.tmp 21], argTypes := #[3] }, type := 28, pos := "outright.go:123", after := #[{ on := 4, ground := Ground.data }, { on := 3, ground := Ground.chain }], guard := none }) rfl (fun K hK => ?_) ?_
        · go_simp
          refine (slow_any _ _).mono ?_
          rintro _ w5 ⟨v5, rfl, o5, k5⟩
          obtain ⟨ca5, cc5, rfl, -⟩ := o5.shape
          have j5 : Keeps None W w5 := j3.trans k5 (fun _ f _ => f)
          have r5 := j5.cell r00 (fun f => f)
          have j6 := j5.andAlloc (.cells #[.int .i64 1, .int .i64 3, .int .i64 0, .slice ca5 (slowF ((R : Int) + 1)).code.length cc5] 28)
          have r6 := j6.cell r00 (fun f => f)
          have b6 := heap_alloc_new w5 (.cells #[.int .i64 1, .int .i64 3, .int .i64 0, .slice ca5 (slowF ((R : Int) + 1)).code.length cc5] 28)
          obtain ⟨a7, c7, w7, hr7, o7, k7⟩ := fn_first (slowF ((R : Int) + 1)) _ w5.heap.size w.heap.size _ ((o5.low (by have := j3.size; have := HW.out.1.size; omega)).more (Keeps.alloc None _ _)) b6 (by have := j6.size; have := HW.out.1.size; omega)
          have b7 := blk_kept (blk_kept HW.out.2.1 j6 (fun f => f)) k7 (fun f => f)
          have z7 : w7.cell? ⟨P, 0, none⟩ = some (.slice none 0 0) := (blk_cell b7 0).trans rfl
          have f7 := blk_free b7 0
          have k9 := Keeps.setCell (S := (· = P)) w7 (a := ⟨P, 0, none⟩) rfl (.slice a7 1 c7)
          have b9 := blk_set (i := 0) b7 (.slice a7 1 c7)
          have hs9 : OwnF (w7.setCell ⟨P, 0, none⟩ (.slice a7 1 c7)) w.heap.size (.slice a7 1 c7) [(slowF ((R : Int) + 1), .slice ca5 (slowF ((R : Int) + 1)).code.length cc5)] := ⟨k9.own o7.row (fun q e hq => by subst hq; exact absurd (own_type o7.row e b7) (by decide)), fun x hx => (o7.codes x hx).kept k9 (fun q e hq => by subst hq; exact absurd (own_type (o7.codes x hx) e b7) (by decide))⟩
          have HZ : Hid (∃ a c, (w7.setCell ⟨P, 0, none⟩ (.slice a7 1 c7)).heap[P]? = some (.cells #[.slice a 1 c] 25 (0, 0)) ∧ SeenF (w7.setCell ⟨P, 0, none⟩ (.slice a7 1 c7)) a 1 [slowF ((R : Int) + 1)] ∧ Keeps None w (w7.setCell ⟨P, 0, none⟩ (.slice a7 1 c7))) := by
            obtain ⟨a', c', e', hs'⟩ := hs9.seen
            injection e' with e1 e2 e3
            subst e1
            exact ⟨_, _, b9, hs', ((HW.out.1.trans j6 (fun _ f _ => f)).trans k7 (fun _ f _ => f)).trans k9 (fun i e hi => by have e' : i = P := e; have := HW.out.2.2; omega)⟩
          have HR7 : Hid _ := hr7
          clear hs9 b9 k9 b7 o7 k7 b6 o5 hr7
          refine hK.out _ _ ?_ (fun hHeld2 => ?_)
          · (try dsimp only); all_goals trivial
          clear hK K
          try simp only [Act.put, List.setIfInBounds_toArray, List.set_cons_zero, List.set_cons_succ]
          refine wpAnyH_ready (rs := [6]) (by kernel_rfl) (by simp) ?_
          refine AllReadyH.cons (o := { dst := some 23, op := Op.buildSlice 23 1 #[(0, Operand.tmp 22)], type := 23, pos := "outright.go:123", after := #[{ on := 5, ground := Ground.data }], guard := none }) rfl (fun K hK => ?_) ?_
          · go_simp
            refine hK.out _ _ ?_ (fun hHeld2 => ?_)
            · (try dsimp only); all_goals trivial
            clear hK K
            try simp only [Act.put, List.setIfInBounds_toArray, List.set_cons_zero, List.set_cons_succ]
            refine wpAnyH_ready (rs := [7]) (by kernel_rfl) (by simp) ?_
            refine AllReadyH.cons (o := { dst := some 24, op := Op.call { callee := Callee.builtin Builtin.append, args := #[Operand.tmp 18, Operand.tmp 23], argTypes := #[23, 23] }, type := 23, pos := "outright.go:123", after := #[{ on := 1, ground := Ground.data }, { on := 6, ground := Ground.data }, { on := 5, ground := Ground.chain }], guard := none }) rfl (fun K hK => ?_) ?_
            · refine step_append_run rfl (.tmp 18) (.tmp 23) 23 23 rfl rfl rfl HR7.out ?_
              refine hK.out _ _ ?_ (fun hHeld2 => ?_)
              · (try dsimp only); all_goals trivial
              clear hK K
              try simp only [Act.put, List.setIfInBounds_toArray, List.set_cons_zero, List.set_cons_succ]
              refine wpAnyH_take (i := 8) (oi := { dst := some 25, op := Op.fieldAddr 25 (Operand.tmp 6) 0, type := 0, pos := "outright.go:123", after := #[{ on := 0, ground := Ground.phase }, { on := 1, ground := Ground.phase }, { on := 2, ground := Ground.phase }, { on := 3, ground := Ground.phase }, { on := 4, ground := Ground.phase }, { on := 5, ground := Ground.phase }, { on := 6, ground := Ground.phase }, { on := 7, ground := Ground.phase }], guard := none }) (v := ?_) rfl (by kernel_rfl) (by kernel_rfl) (by kernel_rfl) (fun _ _ _ h => h) (Or.inl ⟨by rfl, ?_⟩) (by assumption) ?_
              rotate_left
              · (intro wz hSw; (try dsimp only at hSw); go_simp; try with_reducible rfl)
              simp only [Act.put, List.setIfInBounds_toArray, List.set_cons_zero, List.set_cons_succ]
              refine wpAnyH_ready (rs := [9]) (by kernel_rfl) (by simp) ?_
              refine AllReadyH.cons (o := { dst := none, op := Op.store 23 (Operand.tmp 25) (Operand.tmp 24), type := 0, pos := "outright.go:123", after := #[{ on := 8, ground := Ground.data }, { on := 7, ground := Ground.data }, { on := 7, ground := Ground.chain }, { on := 0, ground := Ground.phase }, { on := 1, ground := Ground.phase }, { on := 2, ground := Ground.phase }, { on := 3, ground := Ground.phase }, { on := 4, ground := Ground.phase }, { on := 5, ground := Ground.phase }, { on := 6, ground := Ground.phase }, { on := 7, ground := Ground.phase }], guard := none }) rfl (fun K hK => ?_) ?_
              · go_simp
                refine hK.out _ _ ?_ (fun hHeld2 => ?_)
                · (try dsimp only); all_goals trivial
                clear hK K
                try simp only [Act.put, List.setIfInBounds_toArray, List.set_cons_zero, List.set_cons_succ]
                refine wpAnyH_done (by kernel_rfl) ?_ _
                go_wp2_with fail
                go_meet
                exact HZ.out
              exact AllReadyH.nil
            exact AllReadyH.nil
          exact AllReadyH.nil
        exact AllReadyH.nil
      exact AllReadyH.nil
    refine AllReadyH.cons (o := { dst := some 20, op := Op.call { callee := Callee.value (Operand.func 5), args := #[Operand.tmp 19, Operand.const (Value.int IntKind.i64 300)], argTypes := #[3, 3] }, type := 3, pos := "outright.go:123", after := #[{ on := 2, ground := Ground.data }], guard := none }) rfl (fun K hK => ?_) ?_
    · go_simp
      refine (M2.out _ (HW.out.1.andDrew)).mono ?_
      rintro _ w3 ⟨rfl, k3⟩
      have j3 : Keeps None W w3 := (Keeps.drew None W).trans k3 (fun _ f _ => f)
      have r3 := j3.cell r00 (fun f => f)
      refine hK.out _ _ ?_ (fun hHeld2 => ?_)
      · (try dsimp only); all_goals trivial
      clear hK K
      try simp only [Act.put, List.setIfInBounds_toArray, List.set_cons_zero, List.set_cons_succ]
      refine wpAnyH_take (i := 4) (oi := { dst := some 21, op := Op.binOp BinOp.add 3 (Operand.const (Value.int IntKind.i64 1)) (Operand.tmp 20) 3, type := 3, pos := "outright.go:123", after := #[{ on := 3, ground := Ground.data }], guard := none }) (v := ?_) rfl (by kernel_rfl) (by kernel_rfl) (by kernel_rfl) (fun _ _ _ h => h) (Or.inl ⟨by rfl, ?_⟩) (by assumption) ?_
      rotate_left
      · (intro wz hSw; (try dsimp only at hSw); go_simp; try with_reducible rfl)
      simp only [Act.put, List.setIfInBounds_toArray, List.set_cons_zero, List.set_cons_succ]
      refine wpAnyH_ready (rs := [1, 5]) (by kernel_rfl) (by simp) ?_
      refine AllReadyH.cons (o := { dst := some 18, op := Op.load 23 (Operand.tmp 17), type := 23, pos := "outright.go:123", after := #[{ on := 0, ground := Ground.data }], guard := none }) rfl (fun K hK => ?_) ?_
      · go_simp
        refine hK.out _ _ ?_ (fun hHeld2 => ?_)
        · (try dsimp only); all_goals trivial
        clear hK K
        try simp only [Act.put, List.setIfInBounds_toArray, List.set_cons_zero, List.set_cons_succ]
        refine wpAnyH_ready (rs := [5]) (by kernel_rfl) (by simp) ?_
        refine AllReadyH.cons (o := { dst := some 22, op := Op.call { callee := Callee.value (Operand.func 6), args := #[Operand.tmp 21], argTypes := #[3] }, type := 28, pos := "outright.go:123", after := #[{ on := 4, ground := Ground.data }, { on := 3, ground := Ground.chain }], guard := none }) rfl (fun K hK => ?_) ?_
        · go_simp
          refine (slow_any _ _).mono ?_
          rintro _ w5 ⟨v5, rfl, o5, k5⟩
          obtain ⟨ca5, cc5, rfl, -⟩ := o5.shape
          have j5 : Keeps None W w5 := j3.trans k5 (fun _ f _ => f)
          have r5 := j5.cell r00 (fun f => f)
          have j6 := j5.andAlloc (.cells #[.int .i64 1, .int .i64 3, .int .i64 0, .slice ca5 (slowF ((R : Int) + 1)).code.length cc5] 28)
          have r6 := j6.cell r00 (fun f => f)
          have b6 := heap_alloc_new w5 (.cells #[.int .i64 1, .int .i64 3, .int .i64 0, .slice ca5 (slowF ((R : Int) + 1)).code.length cc5] 28)
          obtain ⟨a7, c7, w7, hr7, o7, k7⟩ := fn_first (slowF ((R : Int) + 1)) _ w5.heap.size w.heap.size _ ((o5.low (by have := j3.size; have := HW.out.1.size; omega)).more (Keeps.alloc None _ _)) b6 (by have := j6.size; have := HW.out.1.size; omega)
          have b7 := blk_kept (blk_kept HW.out.2.1 j6 (fun f => f)) k7 (fun f => f)
          have z7 : w7.cell? ⟨P, 0, none⟩ = some (.slice none 0 0) := (blk_cell b7 0).trans rfl
          have f7 := blk_free b7 0
          have k9 := Keeps.setCell (S := (· = P)) w7 (a := ⟨P, 0, none⟩) rfl (.slice a7 1 c7)
          have b9 := blk_set (i := 0) b7 (.slice a7 1 c7)
          have hs9 : OwnF (w7.setCell ⟨P, 0, none⟩ (.slice a7 1 c7)) w.heap.size (.slice a7 1 c7) [(slowF ((R : Int) + 1), .slice ca5 (slowF ((R : Int) + 1)).code.length cc5)] := ⟨k9.own o7.row (fun q e hq => by subst hq; exact absurd (own_type o7.row e b7) (by decide)), fun x hx => (o7.codes x hx).kept k9 (fun q e hq => by subst hq; exact absurd (own_type (o7.codes x hx) e b7) (by decide))⟩
          have HZ : Hid (∃ a c, (w7.setCell ⟨P, 0, none⟩ (.slice a7 1 c7)).heap[P]? = some (.cells #[.slice a 1 c] 25 (0, 0)) ∧ SeenF (w7.setCell ⟨P, 0, none⟩ (.slice a7 1 c7)) a 1 [slowF ((R : Int) + 1)] ∧ Keeps None w (w7.setCell ⟨P, 0, none⟩ (.slice a7 1 c7))) := by
            obtain ⟨a', c', e', hs'⟩ := hs9.seen
            injection e' with e1 e2 e3
            subst e1
            exact ⟨_, _, b9, hs', ((HW.out.1.trans j6 (fun _ f _ => f)).trans k7 (fun _ f _ => f)).trans k9 (fun i e hi => by have e' : i = P := e; have := HW.out.2.2; omega)⟩
          have HR7 : Hid _ := hr7
          clear hs9 b9 k9 b7 o7 k7 b6 o5 hr7
          refine hK.out _ _ ?_ (fun hHeld2 => ?_)
          · (try dsimp only); all_goals trivial
          clear hK K
          try simp only [Act.put, List.setIfInBounds_toArray, List.set_cons_zero, List.set_cons_succ]
          refine wpAnyH_ready (rs := [6]) (by kernel_rfl) (by simp) ?_
          refine AllReadyH.cons (o := { dst := some 23, op := Op.buildSlice 23 1 #[(0, Operand.tmp 22)], type := 23, pos := "outright.go:123", after := #[{ on := 5, ground := Ground.data }], guard := none }) rfl (fun K hK => ?_) ?_
          · go_simp
            refine hK.out _ _ ?_ (fun hHeld2 => ?_)
            · (try dsimp only); all_goals trivial
            clear hK K
            try simp only [Act.put, List.setIfInBounds_toArray, List.set_cons_zero, List.set_cons_succ]
            refine wpAnyH_ready (rs := [7]) (by kernel_rfl) (by simp) ?_
            refine AllReadyH.cons (o := { dst := some 24, op := Op.call { callee := Callee.builtin Builtin.append, args := #[Operand.tmp 18, Operand.tmp 23], argTypes := #[23, 23] }, type := 23, pos := "outright.go:123", after := #[{ on := 1, ground := Ground.data }, { on := 6, ground := Ground.data }, { on := 5, ground := Ground.chain }], guard := none }) rfl (fun K hK => ?_) ?_
            · refine step_append_run rfl (.tmp 18) (.tmp 23) 23 23 rfl rfl rfl HR7.out ?_
              refine hK.out _ _ ?_ (fun hHeld2 => ?_)
              · (try dsimp only); all_goals trivial
              clear hK K
              try simp only [Act.put, List.setIfInBounds_toArray, List.set_cons_zero, List.set_cons_succ]
              refine wpAnyH_take (i := 8) (oi := { dst := some 25, op := Op.fieldAddr 25 (Operand.tmp 6) 0, type := 0, pos := "outright.go:123", after := #[{ on := 0, ground := Ground.phase }, { on := 1, ground := Ground.phase }, { on := 2, ground := Ground.phase }, { on := 3, ground := Ground.phase }, { on := 4, ground := Ground.phase }, { on := 5, ground := Ground.phase }, { on := 6, ground := Ground.phase }, { on := 7, ground := Ground.phase }], guard := none }) (v := ?_) rfl (by kernel_rfl) (by kernel_rfl) (by kernel_rfl) (fun _ _ _ h => h) (Or.inl ⟨by rfl, ?_⟩) (by assumption) ?_
              rotate_left
              · (intro wz hSw; (try dsimp only at hSw); go_simp; try with_reducible rfl)
              simp only [Act.put, List.setIfInBounds_toArray, List.set_cons_zero, List.set_cons_succ]
              refine wpAnyH_ready (rs := [9]) (by kernel_rfl) (by simp) ?_
              refine AllReadyH.cons (o := { dst := none, op := Op.store 23 (Operand.tmp 25) (Operand.tmp 24), type := 0, pos := "outright.go:123", after := #[{ on := 8, ground := Ground.data }, { on := 7, ground := Ground.data }, { on := 7, ground := Ground.chain }, { on := 0, ground := Ground.phase }, { on := 1, ground := Ground.phase }, { on := 2, ground := Ground.phase }, { on := 3, ground := Ground.phase }, { on := 4, ground := Ground.phase }, { on := 5, ground := Ground.phase }, { on := 6, ground := Ground.phase }, { on := 7, ground := Ground.phase }], guard := none }) rfl (fun K hK => ?_) ?_
              · go_simp
                refine hK.out _ _ ?_ (fun hHeld2 => ?_)
                · (try dsimp only); all_goals trivial
                clear hK K
                try simp only [Act.put, List.setIfInBounds_toArray, List.set_cons_zero, List.set_cons_succ]
                refine wpAnyH_done (by kernel_rfl) ?_ _
                go_wp2_with fail
                go_meet
                exact HZ.out
              exact AllReadyH.nil
            exact AllReadyH.nil
          exact AllReadyH.nil
        exact AllReadyH.nil
      refine AllReadyH.cons (o := { dst := some 22, op := Op.call { callee := Callee.value (Operand.func 6), args := #[Operand.tmp 21], argTypes := #[3] }, type := 28, pos := "outright.go:123", after := #[{ on := 4, ground := Ground.data }, { on := 3, ground := Ground.chain }], guard := none }) rfl (fun K hK => ?_) ?_
      · go_simp
        refine (slow_any _ _).mono ?_
        rintro _ w5 ⟨v5, rfl, o5, k5⟩
        obtain ⟨ca5, cc5, rfl, -⟩ := o5.shape
        have j5 : Keeps None W w5 := j3.trans k5 (fun _ f _ => f)
        have r5 := j5.cell r00 (fun f => f)
        have j6 := j5.andAlloc (.cells #[.int .i64 1, .int .i64 3, .int .i64 0, .slice ca5 (slowF ((R : Int) + 1)).code.length cc5] 28)
        have r6 := j6.cell r00 (fun f => f)
        have b6 := heap_alloc_new w5 (.cells #[.int .i64 1, .int .i64 3, .int .i64 0, .slice ca5 (slowF ((R : Int) + 1)).code.length cc5] 28)
        obtain ⟨a7, c7, w7, hr7, o7, k7⟩ := fn_first (slowF ((R : Int) + 1)) _ w5.heap.size w.heap.size _ ((o5.low (by have := j3.size; have := HW.out.1.size; omega)).more (Keeps.alloc None _ _)) b6 (by have := j6.size; have := HW.out.1.size; omega)
        have b7 := blk_kept (blk_kept HW.out.2.1 j6 (fun f => f)) k7 (fun f => f)
        have z7 : w7.cell? ⟨P, 0, none⟩ = some (.slice none 0 0) := (blk_cell b7 0).trans rfl
        have f7 := blk_free b7 0
        have k9 := Keeps.setCell (S := (· = P)) w7 (a := ⟨P, 0, none⟩) rfl (.slice a7 1 c7)
        have b9 := blk_set (i := 0) b7 (.slice a7 1 c7)
        have hs9 : OwnF (w7.setCell ⟨P, 0, none⟩ (.slice a7 1 c7)) w.heap.size (.slice a7 1 c7) [(slowF ((R : Int) + 1), .slice ca5 (slowF ((R : Int) + 1)).code.length cc5)] := ⟨k9.own o7.row (fun q e hq => by subst hq; exact absurd (own_type o7.row e b7) (by decide)), fun x hx => (o7.codes x hx).kept k9 (fun q e hq => by subst hq; exact absurd (own_type (o7.codes x hx) e b7) (by decide))⟩
        have HZ : Hid (∃ a c, (w7.setCell ⟨P, 0, none⟩ (.slice a7 1 c7)).heap[P]? = some (.cells #[.slice a 1 c] 25 (0, 0)) ∧ SeenF (w7.setCell ⟨P, 0, none⟩ (.slice a7 1 c7)) a 1 [slowF ((R : Int) + 1)] ∧ Keeps None w (w7.setCell ⟨P, 0, none⟩ (.slice a7 1 c7))) := by
          obtain ⟨a', c', e', hs'⟩ := hs9.seen
          injection e' with e1 e2 e3
          subst e1
          exact ⟨_, _, b9, hs', ((HW.out.1.trans j6 (fun _ f _ => f)).trans k7 (fun _ f _ => f)).trans k9 (fun i e hi => by have e' : i = P := e; have := HW.out.2.2; omega)⟩
        have HR7 : Hid _ := hr7
        clear hs9 b9 k9 b7 o7 k7 b6 o5 hr7
        refine hK.out _ _ ?_ (fun hHeld2 => ?_)
        · (try dsimp only); all_goals trivial
        clear hK K
        try simp only [Act.put, List.setIfInBounds_toArray, List.set_cons_zero, List.set_cons_succ]
        refine wpAnyH_ready (rs := [1, 6]) (by kernel_rfl) (by simp) ?_
        refine AllReadyH.cons (o := { dst := some 18, op := Op.load 23 (Operand.tmp 17), type := 23, pos := "outright.go:123", after := #[{ on := 0, ground := Ground.data }], guard := none }) rfl (fun K hK => ?_) ?_
        · go_simp
          refine hK.out _ _ ?_ (fun hHeld2 => ?_)
          · (try dsimp only); all_goals trivial
          clear hK K
          try simp only [Act.put, List.setIfInBounds_toArray, List.set_cons_zero, List.set_cons_succ]
          refine wpAnyH_ready (rs := [6]) (by kernel_rfl) (by simp) ?_
          refine AllReadyH.cons (o := { dst := some 23, op := Op.buildSlice 23 1 #[(0, Operand.tmp 22)], type := 23, pos := "outright.go:123", after := #[{ on := 5, ground := Ground.data }], guard := none }) rfl (fun K hK => ?_) ?_
          · go_simp
            refine hK.out _ _ ?_ (fun hHeld2 => ?_)
            · (try dsimp only); all_goals trivial
            clear hK K
            try simp only [Act.put, List.setIfInBounds_toArray, List.set_cons_zero, List.set_cons_succ]
            refine wpAnyH_ready (rs := [7]) (by kernel_rfl) (by simp) ?_
            refine AllReadyH.cons (o := { dst := some 24, op := Op.call { callee := Callee.builtin Builtin.append, args := #[Operand.tmp 18, Operand.tmp 23], argTypes := #[23, 23] }, type := 23, pos := "outright.go:123", after := #[{ on := 1, ground := Ground.data }, { on := 6, ground := Ground.data }, { on := 5, ground := Ground.chain }], guard := none }) rfl (fun K hK => ?_) ?_
            · refine step_append_run rfl (.tmp 18) (.tmp 23) 23 23 rfl rfl rfl HR7.out ?_
              refine hK.out _ _ ?_ (fun hHeld2 => ?_)
              · (try dsimp only); all_goals trivial
              clear hK K
              try simp only [Act.put, List.setIfInBounds_toArray, List.set_cons_zero, List.set_cons_succ]
              refine wpAnyH_take (i := 8) (oi := { dst := some 25, op := Op.fieldAddr 25 (Operand.tmp 6) 0, type := 0, pos := "outright.go:123", after := #[{ on := 0, ground := Ground.phase }, { on := 1, ground := Ground.phase }, { on := 2, ground := Ground.phase }, { on := 3, ground := Ground.phase }, { on := 4, ground := Ground.phase }, { on := 5, ground := Ground.phase }, { on := 6, ground := Ground.phase }, { on := 7, ground := Ground.phase }], guard := none }) (v := ?_) rfl (by kernel_rfl) (by kernel_rfl) (by kernel_rfl) (fun _ _ _ h => h) (Or.inl ⟨by rfl, ?_⟩) (by assumption) ?_
              rotate_left
              · (intro wz hSw; (try dsimp only at hSw); go_simp; try with_reducible rfl)
              simp only [Act.put, List.setIfInBounds_toArray, List.set_cons_zero, List.set_cons_succ]
              refine wpAnyH_ready (rs := [9]) (by kernel_rfl) (by simp) ?_
              refine AllReadyH.cons (o := { dst := none, op := Op.store 23 (Operand.tmp 25) (Operand.tmp 24), type := 0, pos := "outright.go:123", after := #[{ on := 8, ground := Ground.data }, { on := 7, ground := Ground.data }, { on := 7, ground := Ground.chain }, { on := 0, ground := Ground.phase }, { on := 1, ground := Ground.phase }, { on := 2, ground := Ground.phase }, { on := 3, ground := Ground.phase }, { on := 4, ground := Ground.phase }, { on := 5, ground := Ground.phase }, { on := 6, ground := Ground.phase }, { on := 7, ground := Ground.phase }], guard := none }) rfl (fun K hK => ?_) ?_
              · go_simp
                refine hK.out _ _ ?_ (fun hHeld2 => ?_)
                · (try dsimp only); all_goals trivial
                clear hK K
                try simp only [Act.put, List.setIfInBounds_toArray, List.set_cons_zero, List.set_cons_succ]
                refine wpAnyH_done (by kernel_rfl) ?_ _
                go_wp2_with fail
                go_meet
                exact HZ.out
              exact AllReadyH.nil
            exact AllReadyH.nil
          exact AllReadyH.nil
        refine AllReadyH.cons (o := { dst := some 23, op := Op.buildSlice 23 1 #[(0, Operand.tmp 22)], type := 23, pos := "outright.go:123", after := #[{ on := 5, ground := Ground.data }], guard := none }) rfl (fun K hK => ?_) ?_
        · go_simp
          refine hK.out _ _ ?_ (fun hHeld2 => ?_)
          · (try dsimp only); all_goals trivial
          clear hK K
          try simp only [Act.put, List.setIfInBounds_toArray, List.set_cons_zero, List.set_cons_succ]
          refine wpAnyH_ready (rs := [1]) (by kernel_rfl) (by simp) ?_
          refine AllReadyH.cons (o := { dst := some 18, op := Op.load 23 (Operand.tmp 17), type := 23, pos := "outright.go:123", after := #[{ on := 0, ground := Ground.data }], guard := none }) rfl (fun K hK => ?_) ?_
          · go_simp
            refine hK.out _ _ ?_ (fun hHeld2 => ?_)
            · (try dsimp only); all_goals trivial
            clear hK K
            try simp only [Act.put, List.setIfInBounds_toArray, List.set_cons_zero, List.set_cons_succ]
            refine wpAnyH_ready (rs := [7]) (by kernel_rfl) (by simp) ?_
            refine AllReadyH.cons (o := { dst := some 24, op := Op.call { callee := Callee.builtin Builtin.append, args := #[Operand.tmp 18, Operand.tmp 23], argTypes := #[23, 23] }, type := 23, pos := "outright.go:123", after := #[{ on := 1, ground := Ground.data }, { on := 6, ground := Ground.data }, { on := 5, ground := Ground.chain }], guard := none }) rfl (fun K hK => ?_) ?_
            · refine step_append_run rfl (.tmp 18) (.tmp 23) 23 23 rfl rfl rfl HR7.out ?_
              refine hK.out _ _ ?_ (fun hHeld2 => ?_)
              · (try dsimp only); all_goals trivial
              clear hK K
              try simp only [Act.put, List.setIfInBounds_toArray, List.set_cons_zero, List.set_cons_succ]
              refine wpAnyH_take (i := 8) (oi := { dst := some 25, op := Op.fieldAddr 25 (Operand.tmp 6) 0, type := 0, pos := "outright.go:123", after := #[{ on := 0, ground := Ground.phase }, { on := 1, ground := Ground.phase }, { on := 2, ground := Ground.phase }, { on := 3, ground := Ground.phase }, { on := 4, ground := Ground.phase }, { on := 5, ground := Ground.phase }, { on := 6, ground := Ground.phase }, { on := 7, ground := Ground.phase }], guard := none }) (v := ?_) rfl (by kernel_rfl) (by kernel_rfl) (by kernel_rfl) (fun _ _ _ h => h) (Or.inl ⟨by rfl, ?_⟩) (by assumption) ?_
              rotate_left
              · (intro wz hSw; (try dsimp only at hSw); go_simp; try with_reducible rfl)
              simp only [Act.put, List.setIfInBounds_toArray, List.set_cons_zero, List.set_cons_succ]
              refine wpAnyH_ready (rs := [9]) (by kernel_rfl) (by simp) ?_
              refine AllReadyH.cons (o := { dst := none, op := Op.store 23 (Operand.tmp 25) (Operand.tmp 24), type := 0, pos := "outright.go:123", after := #[{ on := 8, ground := Ground.data }, { on := 7, ground := Ground.data }, { on := 7, ground := Ground.chain }, { on := 0, ground := Ground.phase }, { on := 1, ground := Ground.phase }, { on := 2, ground := Ground.phase }, { on := 3, ground := Ground.phase }, { on := 4, ground := Ground.phase }, { on := 5, ground := Ground.phase }, { on := 6, ground := Ground.phase }, { on := 7, ground := Ground.phase }], guard := none }) rfl (fun K hK => ?_) ?_
              · go_simp
                refine hK.out _ _ ?_ (fun hHeld2 => ?_)
                · (try dsimp only); all_goals trivial
                clear hK K
                try simp only [Act.put, List.setIfInBounds_toArray, List.set_cons_zero, List.set_cons_succ]
                refine wpAnyH_done (by kernel_rfl) ?_ _
                go_wp2_with fail
                go_meet
                exact HZ.out
              exact AllReadyH.nil
            exact AllReadyH.nil
          exact AllReadyH.nil
        exact AllReadyH.nil
      exact AllReadyH.nil
    exact AllReadyH.nil
  case rest =>
    obtain ⟨a, c, bP, hs, hk⟩ := hcut
    clear r00 r0 i3
    obtain ⟨A, hA⟩ : ∃ A : Int, A = 2 * (R : Int) + 5 := ⟨_, rfl⟩
    obtain ⟨d1, q1, he1⟩ := slow_one R (by omega) 5
    rw [← hA] at he1
    have hrok : okI ((R : Int) + 1) := by unfold okI; omega
    have c0 : wc.cell? ⟨P, 0, none⟩ = some (.slice a 1 c) := (blk_cell bP 0).trans rfl
    have hal := Keeps.alloc None wc (.cells (ints [5]).toArray 2)
    have hev := eval_any a 1 c [slowF ((R : Int) + 1)] (some ⟨wc.heap.size, 0, none⟩) 1 1 [5] 10000 (wc.alloc (.cells (ints [5]).toArray 2)) ((HT.out.more hk).more hal) (hs.more hal) (slow_ok _ hrok) (seen_args (l := [5]) (heap_alloc_new wc _) (fun x hx => by simp at hx; subst hx; simp [okI]) (by simp)) (by omega) (by simp [okI])
    rw [he1] at hev
    unfold valC at hev
    simp only at hev
    change Calls _ _ _ (wc.alloc (.cells #[.int .i64 5] 2)) _ at hev
    have HA : Hid (A = 2 * (R : Int) + 5 ∧ Keeps None wc (wc.alloc (.cells #[.int .i64 5] 2)) ∧ wc.heap[P]? = some (.cells #[.slice a 1 c] 25 (0, 0)) ∧ SeenF wc a 1 [slowF ((R : Int) + 1)] ∧ Keeps None w wc ∧ okI ((R : Int) + 1)) := ⟨hA, hal, bP, hs, hk, hrok⟩
    have iA : A ≤ 605 := by omega
    have iA0 : 0 ≤ A := by omega
    clear hA hal bP hs hk he1 hrok
    go_upto_region 5 with (go_at_call 7; refine hev.mono ?_; rintro _ w2 ⟨rfl, k2⟩)
    clear hev c0
    have bV := heap_alloc_new w2 (.cells #[.int .i64 5, .int .i64 A, .int .i64 q1, .int .i64 d1, .int .i64 A] 31)
    have kV := Keeps.alloc None w2 (.cells #[.int .i64 5, .int .i64 A, .int .i64 q1, .int .i64 d1, .int .i64 A] 31)
    obtain ⟨U, hU⟩ : ∃ U, U = w2.alloc (.cells #[.int .i64 5, .int .i64 A, .int .i64 q1, .int .i64 d1, .int .i64 A] 31) := ⟨_, rfl⟩
    obtain ⟨G, hG⟩ : ∃ G, G = w2.heap.size := ⟨_, rfl⟩
    rw [← hU] at kV bV
    rw [← hG] at bV
    rw [← hU, ← hG]
    clear hU hG
    obtain ⟨A1, A2, A3, A4, A5, A6⟩ := HA.out
    have kU : Keeps None wc U := (A2.trans k2 (fun _ f _ => f)).trans kV (fun _ f _ => f)
    have bP := blk_kept A3 kU (fun f => f)
    have c0 : U.cell? ⟨P, 0, none⟩ = some (.slice a 1 c) := (blk_cell bP 0).trans rfl
    have hfor := for_any a 1 c [slowF ((R : Int) + 1)] 0 U (HT.out.more (A5.trans kU (fun _ f _ => f))) (A4.more kU) (slow_ok _ A6)
    have HU : Hid (Keeps None w U ∧ U.heap[G]? = some (.cells #[.int .i64 5, .int .i64 A, .int .i64 q1, .int .i64 d1, .int .i64 A] 31 (0, 0))) := ⟨A5.trans kU (fun _ f _ => f), bV⟩
    clear A1 A2 A3 A4 A5 A6 kU bP kV bV k2
    go_upto_region 6 with (go_at_call 8; refine hfor.mono ?_; intro e w3 hpost; obtain ⟨a3, n3, c3, he3, hs3, k3⟩ := made_of (slow_forE _) hpost; rw [he3]; clear hpost he3)
    clear hfor c0
    have b3 := heap_alloc_new w3 (.cells #[.slice a3 n3 c3] 25)
    have kQ := Keeps.alloc None w3 (.cells #[.slice a3 n3 c3] 25)
    obtain ⟨U2, hU2⟩ : ∃ U2, U2 = w3.alloc (.cells #[.slice a3 n3 c3] 25) := ⟨_, rfl⟩
    obtain ⟨Q, hQ⟩ : ∃ Q, Q = w3.heap.size := ⟨_, rfl⟩
    rw [← hU2] at b3 kQ
    rw [← hQ] at b3
    rw [← hU2, ← hQ]
    have kU2 : Keeps None U U2 := k3.trans kQ (fun _ f _ => f)
    have HV : Hid (Keeps None w U2 ∧ U2.heap[G]? = some (.cells #[.int .i64 5, .int .i64 A, .int .i64 q1, .int .i64 d1, .int .i64 A] 31 (0, 0)) ∧ U2.heap[Q]? = some (.cells #[.slice a3 n3 c3] 25 (0, 0)) ∧ SeenF U2 a3 n3 (forP [slowF ((R : Int) + 1)] 0)) := ⟨HU.out.1.trans kU2 (fun _ f _ => f), blk_kept HU.out.2 kU2 (fun f => f), b3, hs3.more kQ⟩
    clear hU2 hQ b3 kQ kU2 hs3 k3
    go_wp2_with fail
    go_loopw [11, 12] (fun s11 s12 wr => ∃ j M : Nat, j ≤ KK ∧ s12 = .int .i64 j ∧ s11 = .int .i64 M ∧ M = 2 ^ j ∧ wr = U2) (fun _ i _ => KK - (intOf i).toNat)
    case atStart => exact ⟨0, 1, Nat.zero_le _, rfl, rfl, rfl, rfl⟩
    case round =>
      obtain ⟨j, M, hj, rfl, rfl, hM, hwr⟩ := hrel
      have hw2 := hwr.symm
      subst hw2
      have hM8 : M ≤ 128 := by
        have : 2 ^ j ≤ 2 ^ 7 := Nat.pow_le_pow_right (by omega) (by omega)
        omega
      have iM : (M : Int) ≤ 128 := by omega
      have iM0 : (0 : Int) ≤ (M : Int) := by omega
      by_cases hjk : j < KK
      · have j1 : (j : Int) < (KK : Int) := by omega
        have HM : Hid (2 * M = 2 ^ (j + 1)) := by rw [hM, Nat.pow_succ]; exact Nat.mul_comm _ _
        clear hM
        go_wp2
        exact ⟨⟨j + 1, 2 * M, by omega, by simp, by simp, HM.out, trivial⟩, by simp [intOf]; omega⟩
      · have j1 : ¬ ((j : Int) < (KK : Int)) := by omega
        obtain rfl : j = KK := by omega
        obtain ⟨Wk, T, dd, sp, he2, h1, h2⟩ := log_ok R j hR3 hK8
        rw [← hM] at he2 h1
        rw [← HA.out.1] at h1 h2
        obtain ⟨V1, V2, V3, V4⟩ := HV.out
        have c0 : U2.cell? ⟨Q, 0, none⟩ = some (.slice a3 n3 c3) := (blk_cell V3 0).trans rfl
        have hal := Keeps.alloc None U2 (.cells (ints [(M : Int), 1]).toArray 2)
        have hev := eval_any a3 n3 c3 (forP [slowF ((R : Int) + 1)] 0) (some ⟨U2.heap.size, 0, none⟩) 2 2 [(M : Int), 1] 1000000 (U2.alloc (.cells (ints [(M : Int), 1]).toArray 2)) ((HT.out.more V1).more hal) (V4.more hal) (forP_ok _ (slow_ok _ HA.out.2.2.2.2.2) (fun f hf i hi h5 => by
          simp at hf
          subst hf
          simp [slowF] at hi
          rcases hi with rfl | rfl | rfl | rfl | rfl <;> simp at h5) 0 (by omega)) (seen_args (l := [(M : Int), 1]) (heap_alloc_new U2 _) (fun x hx => by simp at hx; rcases hx with rfl | rfl; unfold okI; omega; simp [okI]) (by simp)) (by omega) (by simp [okI])
        rw [he2] at hev
        unfold valC at hev
        simp only at hev
        change Calls _ _ _ (U2.alloc (.cells #[.int .i64 (M : Int), .int .i64 1] 2)) _ at hev
        have HK : Hid (Keeps None U2 (U2.alloc (.cells #[.int .i64 (M : Int), .int .i64 1] 2))) := hal
        have HE : Hid ((M : Int) * A ≤ Wk ∧ sp ≤ 40 + 40 * (j : Int) + 40 + A) := ⟨h1, h2⟩
        clear hal he2 h1 h2 V1 V2 V3 V4 hM hM8
        go_upto_region 12 with (go_at_call 7; refine hev.mono ?_; rintro _ w5 ⟨rfl, k5⟩)
        clear hev c0
        have bV := heap_alloc_new w5 (.cells #[.int .i64 0, .int .i64 Wk, .int .i64 T, .int .i64 dd, .int .i64 sp] 31)
        have kV := Keeps.alloc None w5 (.cells #[.int .i64 0, .int .i64 Wk, .int .i64 T, .int .i64 dd, .int .i64 sp] 31)
        obtain ⟨U5, hU5⟩ : ∃ U5, U5 = w5.alloc (.cells #[.int .i64 0, .int .i64 Wk, .int .i64 T, .int .i64 dd, .int .i64 sp] 31) := ⟨_, rfl⟩
        obtain ⟨G5, hG5⟩ : ∃ G5, G5 = w5.heap.size := ⟨_, rfl⟩
        rw [← hU5] at kV bV
        rw [← hG5] at bV
        rw [← hU5, ← hG5]
        have kU5 : Keeps None U2 U5 := (HK.out.trans k5 (fun _ f _ => f)).trans kV (fun _ f _ => f)
        have bG := blk_kept HV.out.2.1 kU5 (fun f => f)
        have g0 : U5.cell? ⟨G, 0, none⟩ = some (.int .i64 5) := (blk_cell bG 0).trans rfl
        have g1 : U5.cell? ⟨G, 1, none⟩ = some (.int .i64 A) := (blk_cell bG 1).trans rfl
        have g4 : U5.cell? ⟨G, 4, none⟩ = some (.int .i64 A) := (blk_cell bG 4).trans rfl
        have y0 : U5.cell? ⟨G5, 0, none⟩ = some (.int .i64 0) := (blk_cell bV 0).trans rfl
        have y1 : U5.cell? ⟨G5, 1, none⟩ = some (.int .i64 Wk) := (blk_cell bV 1).trans rfl
        have y4 : U5.cell? ⟨G5, 4, none⟩ = some (.int .i64 sp) := (blk_cell bV 4).trans rfl
        have HZ : Hid (Keeps None w U5) := HV.out.1.trans kU5 (fun _ f _ => f)
        have n0 : 0 ≤ (M : Int) * A := Int.mul_nonneg iM0 iA0
        have n1 : (M : Int) * A ≤ 128 * 605 := Int.mul_le_mul iM iA iA0 (by omega)
        have n2 := HE.out.1
        have n3' := HE.out.2
        clear hU5 hG5 bV kV kU5 bG k5
        go_wp2
        go_ret
        exact ⟨rfl, HZ.out⟩
end Go.Proofs.YtdpljbdnbmdokaaDoor
