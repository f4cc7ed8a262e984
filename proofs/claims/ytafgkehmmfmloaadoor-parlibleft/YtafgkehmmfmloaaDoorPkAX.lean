import Derived.Test.YtafgkehmmfmloaaDoorPkAP
import Derived.Test.YtafgkehmmfmloaaDoorPkAW
import Derived.Test.YtafgkehmmfmloaaDoorPkAV
import Derived.Test.YtafgkehmmfmloaaDoorPkAN
import Derived.Test.YtafgkehmmfmloaaDoorPkAO
/-! The statements' makers of functions. -/
namespace Go.Proofs.YtafgkehmmfmloaaDoor
set_option linter.unusedVariables false
set_option maxRecDepth 20000
open Go.RowKit Go.HeapKit Go.PlainOps

structure FSt (w0 W : World) (R F : Nat) (p r : Int) (v : Value) (l : List Ins) : Prop where
  keep : Keeps None w0 W
  blkR : W.heap[R]? = some (.cells #[.int .i64 0, .int .i64 0, .int .i64 0, .slice none 0 0] 29 (0, 0))
  blkF : W.heap[F]? = some (.cells #[.int .i64 p, .int .i64 r, .int .i64 0, v] 29 (0, 0))
  own : OwnC W w0.heap.size v l
  r : w0.heap.size ≤ R
  f : w0.heap.size ≤ F
  ne : R ≠ F
theorem field_step {w0 W : World} {R F : Nat} {p r : Int} {a : Option Addr} {n c : Nat} {l : List Ins} (h : FSt w0 W R F p r (.slice a n c) l) (hn : n = l.length) (hl : l.length ≤ 100) (i : Ins) :
    ∃ a' c' V, (Builtin.append_ #[27, 27] 27 #[.slice a n c, .slice (some ⟨W.heap.size, 0, none⟩) 1 1]).run Tryd.prog (W.alloc (.cells #[.int .i64 i.kind, .int .i64 i.a, .int .i64 i.b, .int .i64 i.c, .int .i64 i.k] 48)) = .ok (.slice a' (n + 1) c') V ∧
      V.cell? ⟨F, 3, none⟩ = some (.slice a n c) ∧ V.frozen? ⟨F, 3, none⟩ = false ∧ FSt w0 (V.setCell ⟨F, 3, none⟩ (.slice a' (n + 1) c')) R F p r (.slice a' (n + 1) c') (l ++ [i]) := by
  obtain ⟨i0, hi, hz0, hz1, hz2⟩ := info_parts Tryd.plIns
  subst hn
  have hal := Keeps.alloc None W (.cells #[.int .i64 i.kind, .int .i64 i.a, .int .i64 i.b, .int .i64 i.c, .int .i64 i.k] 48)
  have hg := heap_alloc_new W (.cells #[.int .i64 i.kind, .int .i64 i.a, .int .i64 i.b, .int .i64 i.c, .int .i64 i.k] 48)
  have h1 := h.own.more hal
  have hsz := h.keep.size
  obtain ⟨v', V, hr, ho, hgr, hm, -⟩ := run_append_moved (P := Tryd.prog) _ w0.heap.size 27 27 48 i0 _ 5 40 Tryd.underlying27 hi hz0 hz1 hz2 rfl (by decide) _ l.length (codeC l) h1
    ⟨W.heap.size, 0, none⟩ 1 1 (insCells i) rfl (by
      intro j u hu
      rw [show (⟨W.heap.size, 0, none⟩ : Addr).add j = ⟨W.heap.size, j, none⟩ by unfold Addr.add; split <;> simp_all, blk_cell hg]
      simpa [insCells] using hu) (by
      intro u hu
      simp [insCells] at hu
      rcases hu with rfl | rfl | rfl | rfl | rfl <;> rfl) (by unfold maxLen; omega) (by omega) (by simp; omega)
  have hsh : ∃ a' c', v' = .slice a' (l.length + 1) c' := by
    rcases ho.2 with ⟨hv, h0⟩ | ⟨g', cap', _, e, _⟩
    · omega
    · exact ⟨_, cap', e⟩
  obtain ⟨a', c', rfl⟩ := hsh
  have hkp : Keeps (fun k => (Value.slice a l.length c).ownBlock = some k) W V := ((Keeps.refl _ W).andAlloc _).andGrown hgr (fun k e => .inl e)
  have apart : ∀ {k : Nat} {cs : Array Value}, W.heap[k]? = some (.cells cs 29 (0, 0)) → ¬ (Value.slice a l.length c).ownBlock = some k := fun hb e => by
    have := own_type h.own e hb
    exact absurd this (by decide)
  have bR := blk_kept h.blkR hkp (apart h.blkR)
  have bF := blk_kept h.blkF hkp (apart h.blkF)
  have kS := Keeps.setCell (S := (· = F)) V (a := ⟨F, 3, none⟩) rfl (.slice a' (l.length + 1) c')
  have ho' : OwnC V w0.heap.size (.slice a' (l.length + 1) c') (l ++ [i]) := by
    have e : codeC (l ++ [i]) = codeC l ++ insCells i := by simp [codeC]
    show V.ownsRow _ _ _ _ (l ++ [i]).length (codeC (l ++ [i]))
    rw [e, List.length_append]
    exact ho
  refine ⟨a', c', V, hr, (blk_cell bF 3).trans rfl, blk_free bF 3, ?_⟩
  refine ⟨(h.keep.trans hkp (fun k e hk => ?_)).trans kS (fun k e hk => ?_), blk_kept bR kS h.ne, ?_, ho'.kept kS (fun k e hk => ?_), h.r, h.f, h.ne⟩
  · have := (h.own.base e).1
    omega
  · have := h.f
    have e' : k = F := e
    omega
  · have := blk_set (i := 3) bF (.slice a' (l.length + 1) c')
    exact this
  · subst hk
    have := own_type ho' e bF
    exact absurd this (by decide)
/-- The beginning: a result and a function without code. -/
theorem field_start (w : World) (p r : Int) : FSt w ((w.alloc (.cells #[.int .i64 0, .int .i64 0, .int .i64 0, .slice none 0 0] 29)).alloc (.cells #[.int .i64 p, .int .i64 r, .int .i64 0, .slice none 0 0] 29)) w.heap.size (w.heap.size + 1) p r (.slice none 0 0) [] := by
  have b1 := heap_alloc_new w (.cells #[.int .i64 0, .int .i64 0, .int .i64 0, .slice none 0 0] 29)
  have q2 := Keeps.alloc None (w.alloc (.cells #[.int .i64 0, .int .i64 0, .int .i64 0, .slice none 0 0] 29)) (.cells #[.int .i64 p, .int .i64 r, .int .i64 0, .slice none 0 0] 29)
  have b2 := heap_alloc_new (w.alloc (.cells #[.int .i64 0, .int .i64 0, .int .i64 0, .slice none 0 0] 29)) (.cells #[.int .i64 p, .int .i64 r, .int .i64 0, .slice none 0 0] 29)
  rw [show (w.alloc (.cells #[.int .i64 0, .int .i64 0, .int .i64 0, .slice none 0 0] 29)).heap.size = w.heap.size + 1 by simp] at b2
  exact ⟨((Keeps.refl _ w).andAlloc _).andAlloc _, blk_kept b1 q2 (fun f => f), b2, own_nil _ _, Nat.le_refl _, by omega, by omega⟩
set_option maxHeartbeats 2000000 in
theorem at_any (op k : Int) (w : World) : Calls Tryd.prog 6 #[.int .i64 op, .int .i64 k] w fun e w' => ∃ v, e = .returned (.agg #[.int .i64 1, .int .i64 2, .int .i64 0, v]) ∧ OwnC w' w.heap.size v (atF op k).code ∧ Keeps None w w' := by
  obtain ⟨B, hB⟩ : ∃ B, B = w.heap.size := ⟨_, rfl⟩
  have S0 := field_start w 1 2
  obtain ⟨W0, hW0⟩ : ∃ W0, W0 = (w.alloc (.cells #[.int .i64 0, .int .i64 0, .int .i64 0, .slice none 0 0] 29)).alloc (.cells #[.int .i64 1, .int .i64 2, .int .i64 0, .slice none 0 0] 29) := ⟨_, rfl⟩
  rw [← hW0, ← hB] at S0
  go_enter Tryd.func6, Tryd.ntmps6
  go_upto_region 2 with fail
  rw [← hW0, ← hB]
  clear hW0
  have HB : Hid (B = w.heap.size) := hB
  clear hB
  have d0 : W0.cell? ⟨B + 1, 3, none⟩ = some (.slice none 0 0) := (blk_cell S0.blkF 3).trans rfl
  obtain ⟨a1, c1, V1, hr1, x1, z1, S1⟩ := field_step S0 rfl (by simp) ⟨0, 1, 0, 0, k⟩
  obtain ⟨W1, hW1⟩ : ∃ W, W = V1.setCell ⟨B + 1, 3, none⟩ (.slice a1 (0 + 1) c1) := ⟨_, rfl⟩
  rw [← hW1] at S1
  have d1 : W1.cell? ⟨B + 1, 3, none⟩ = some (.slice a1 1 c1) := (blk_cell S1.blkF 3).trans rfl
  have H1 : Hid _ := S1
  clear S0
  simp only at hr1
  go_upto_region 3 with (at_builtin; refine wpList_append_run rfl (.tmp 8) (.tmp 11) 27 27 rfl rfl rfl hr1 ?_)
  rw [← hW1]
  clear hW1 hr1 d0 x1 z1
  obtain ⟨a2, c2, V2, hr2, x2, z2, S2⟩ := field_step S1 rfl (by simp) ⟨2, 0, 0, 1, op⟩
  obtain ⟨W2, hW2⟩ : ∃ W, W = V2.setCell ⟨B + 1, 3, none⟩ (.slice a2 (1 + 1) c2) := ⟨_, rfl⟩
  rw [← hW2] at S2
  have d2 : W2.cell? ⟨B + 1, 3, none⟩ = some (.slice a2 2 c2) := (blk_cell S2.blkF 3).trans rfl
  have H2 : Hid _ := S2
  clear S1
  simp only at hr2
  go_upto_region 4 with (at_builtin; refine wpList_append_run rfl (.tmp 15) (.tmp 18) 27 27 rfl rfl rfl hr2 ?_)
  rw [← hW2]
  clear hW2 hr2 d1 x2 z2
  obtain ⟨a3, c3, V3, hr3, x3, z3, S3⟩ := field_step S2 rfl (by simp) ⟨9, 0, 0, 0, 0⟩
  obtain ⟨W3, hW3⟩ : ∃ W, W = V3.setCell ⟨B + 1, 3, none⟩ (.slice a3 (2 + 1) c3) := ⟨_, rfl⟩
  rw [← hW3] at S3
  have d3 : W3.cell? ⟨B + 1, 3, none⟩ = some (.slice a3 3 c3) := (blk_cell S3.blkF 3).trans rfl
  have H3 : Hid _ := S3
  clear S2
  simp only at hr3
  go_upto_region 5 with (at_builtin; refine wpList_append_run rfl (.tmp 22) (.tmp 24) 27 27 rfl rfl rfl hr3 ?_)
  rw [← hW3]
  clear hW3 hr3 d2 x3 z3
  have c0 : W3.cell? ⟨B + 1, 0, none⟩ = some (.int .i64 1) := (blk_cell S3.blkF 0).trans rfl
  have c1 : W3.cell? ⟨B + 1, 1, none⟩ = some (.int .i64 2) := (blk_cell S3.blkF 1).trans rfl
  have c2 : W3.cell? ⟨B + 1, 2, none⟩ = some (.int .i64 0) := (blk_cell S3.blkF 2).trans rfl
  have e0 : W3.cell? ⟨B, 0, none⟩ = some (.int .i64 0) := (blk_cell S3.blkR 0).trans rfl
  have z0 := blk_free S3.blkR 0
  have e1 : W3.cell? ⟨B, 1, none⟩ = some (.int .i64 0) := (blk_cell S3.blkR 1).trans rfl
  have z1 := blk_free S3.blkR 1
  have e2 : W3.cell? ⟨B, 2, none⟩ = some (.int .i64 0) := (blk_cell S3.blkR 2).trans rfl
  have z2 := blk_free S3.blkR 2
  have e3 : W3.cell? ⟨B, 3, none⟩ = some (.slice none 0 0) := (blk_cell S3.blkR 3).trans rfl
  have z3 := blk_free S3.blkR 3
  have HS : Hid _ := S3
  clear S3
  go_wp2
  refine fn_end 4 rfl rfl HS.out.blkR rfl rfl _ _ _ _ (fun w' hw' => ?_)
  refine ⟨_, rfl, HS.out.own.kept hw' (fun g e q => ?_), HS.out.keep.trans hw' (fun i e hi => ?_)⟩
  · subst q
    have := own_type HS.out.own e HS.out.blkR
    exact absurd this (by decide)
  · have e' : i = B := e
    have := HB.out
    omega
end Go.Proofs.YtafgkehmmfmloaaDoor
/-! Arguments that are written out, in memory. -/
namespace Go.Proofs.YtafgkehmmfmloaaDoor
set_option linter.unusedVariables false
set_option maxRecDepth 20000
open Go.RowKit Go.HeapKit Go.PlainOps

theorem seen_args {w : World} {g : Nat} {l : List Int} {t : TypeId} {z : Nat × Nat} (hb : w.heap[g]? = some (.cells (ints l).toArray t z)) (hl : ∀ x ∈ l, okI x) (hn : l.length ≤ 9223372036854775807) : SeenA w (some ⟨g, 0, none⟩) l.length l := by
  refine ⟨rfl, hn, hl, fun _ => ⟨g, 0, rfl, blk_lt hb, fun k x hx => ?_⟩⟩
  rw [blk_cell hb, Nat.zero_add]
  simpa using ints_at l k x hx
end Go.Proofs.YtafgkehmmfmloaaDoor
/-! ParlibLog: the walk. -/
namespace Go.Proofs.YtafgkehmmfmloaaDoor
set_option linter.unusedVariables false
set_option maxRecDepth 20000
open Go.RowKit Go.HeapKit Go.PlainOps

def modP (x : Int) (n : Nat) : Nat := (x % (n : Int)).toNat
theorem modP_lt (x : Int) {n : Nat} (h : 0 < n) : modP x n < n := by
  unfold modP
  have h2 := Int.emod_nonneg x (show (n : Int) ≠ 0 by omega)
  have h3 := Int.emod_lt_of_pos x (show (0 : Int) < n by omega)
  omega
theorem mod13_any (x : Int) (n : Nat) (w : World) (hx : okI x) (h0 : 0 < n) (h1 : n ≤ 1000) : Calls Tryd.prog 5 #[.int .i64 x, .int .i64 n] w fun e w' => e = .returned (.int .i64 (modP x n : Nat)) ∧ Keeps None w w' := by
  have hm : (modP x n : Int) = x % (n : Int) := by
    unfold modP
    have h2 := Int.emod_nonneg x (show (n : Int) ≠ 0 by omega)
    omega
  have h2 := Go.PlainOps.tmod_mod x n (by omega)
  obtain ⟨b0, b1⟩ := Go.PlainOps.tmod_bounds x n (by omega)
  have E : Hid ((modP x n : Int) = (if x.tmod n < 0 then x.tmod n + n else x.tmod n)) := by unfold Hid; rw [hm, h2]
  have hn : ¬ (n : Int) = 0 := by omega
  have hn2 : (n : Int) ≤ 1000 := by omega
  have b2 : -1001 ≤ x.tmod n := by omega
  clear hm h2
  unfold okI at hx
  obtain ⟨R, hR⟩ : ∃ R, R = modP x n := ⟨_, rfl⟩
  rw [← hR] at E ⊢
  clear hR
  by_cases hr : x.tmod n < 0
  · go_enter Tryd.func5, Tryd.ntmps5
    go_wp2
    go_ret
    exact ⟨by rw [E.out, if_pos hr]; rfl, Keeps.refl _ _⟩
  · go_enter Tryd.func5, Tryd.ntmps5
    go_wp2
    go_ret
    exact ⟨by rw [E.out, if_neg (by omega)]; rfl, Keeps.refl _ _⟩
/-- 'append(nil, f)'. -/
theorem fn_first (f : Fn) (cv : Value) (g0 base : Nat) (w : World) (hcv : OwnC w base cv f.code) (hg0 : w.heap[g0]? = some (.cells #[.int .i64 f.params, .int .i64 f.regs, .int .i64 f.slots, cv] 29 (0, 0))) (hb : base ≤ w.heap.size) :
    ∃ a' c' w', (Builtin.append_ #[24, 24] 24 #[.slice none 0 0, .slice (some ⟨g0, 0, none⟩) 1 1]).run Tryd.prog w = .ok (.slice a' 1 c') w' ∧ OwnF w' base (.slice a' 1 c') [(f, cv)] ∧ Keeps None w w' := by
  obtain ⟨i0, hi, hz0, hz1, hz2⟩ := info_parts Tryd.plFn
  obtain ⟨ca, cc, ecv, -⟩ := hcv.shape
  obtain ⟨v', w', hr, ho, hgr, hmv, -⟩ := run_append_moved (P := Tryd.prog) w base 24 24 29 i0 _ 4 48 Tryd.underlying24 hi hz0 hz1 hz2 rfl (by decide) (.slice none 0 0) 0 [] ⟨rfl, .inl ⟨rfl, rfl⟩⟩
    ⟨g0, 0, none⟩ 1 1 (fnC (f, cv)) rfl (fun j u hu => by
      rw [show (⟨g0, 0, none⟩ : Addr).add j = ⟨g0, j, none⟩ by unfold Addr.add; split <;> simp_all, blk_cell hg0]
      simpa [fnC] using hu) (by
      intro u hu
      simp [fnC] at hu
      rcases hu with rfl | rfl | rfl | rfl
      · rfl
      · rfl
      · rfl
      · rw [ecv]; rfl) (by unfold maxLen; omega) (by omega) hb
  have hsh : ∃ a' c', v' = .slice a' 1 c' := by
    rcases ho.2 with ⟨hv, h0⟩ | ⟨g', cap', _, e, _⟩
    · omega
    · exact ⟨_, cap', e⟩
  obtain ⟨a', c', rfl⟩ := hsh
  have hkp : Keeps None w w' := (Keeps.refl _ w).andGrown hgr (fun k e => by simp [Value.ownBlock] at e)
  refine ⟨a', c', w', hr, ⟨?_, fun x hx => ?_⟩, hkp⟩
  · show w'.ownsRow base _ 4 _ 1 (fnsC [(f, cv)])
    rw [show fnsC [(f, cv)] = [] ++ fnC (f, cv) by simp [fnsC]]
    exact ho
  · simp at hx
    subst hx
    exact hcv.more hkp
theorem slow_ok (r : Int) (h : okI r) : ∀ f ∈ [slowF r], f.Ok := by
  intro f hf
  simp at hf
  subst hf
  refine ⟨by simp [slowF, okI], by simp [slowF, okI], by simp [slowF, okI], fun i hi => ?_⟩
  simp [slowF] at hi
  rcases hi with rfl | rfl | rfl | rfl | rfl
  · exact ⟨by simp [okI], by simp [okI], by simp [okI], by simp [okI], h⟩
  all_goals exact ⟨by simp [okI], by simp [okI], by simp [okI], by simp [okI], by simp [okI]⟩
theorem at_ok (op k : Int) (h : okI op) (hk : okI k) : ∀ f ∈ [atF op k], f.Ok := by
  intro f hf
  simp at hf
  subst hf
  refine ⟨by simp [atF, okI], by simp [atF, okI], by simp [atF, okI], fun i hi => ?_⟩
  simp [atF] at hi
  rcases hi with rfl | rfl | rfl
  · exact ⟨by simp [okI], by simp [okI], by simp [okI], by simp [okI], hk⟩
  · exact ⟨by simp [okI], by simp [okI], by simp [okI], by simp [okI], h⟩
  · exact ⟨by simp [okI], by simp [okI], by simp [okI], by simp [okI], by simp [okI]⟩
theorem ins_ok (i : Ins) (h : -1000 ≤ i.kind ∧ i.kind ≤ 1000) (ha : -1000 ≤ i.a ∧ i.a ≤ 1000) (hb : -1000 ≤ i.b ∧ i.b ≤ 1000) (hc : -1000 ≤ i.c ∧ i.c ≤ 1000) (hk : -1000 ≤ i.k ∧ i.k ≤ 1000) : i.Ok := ⟨by unfold okI; omega, by unfold okI; omega, by unfold okI; omega, by unfold okI; omega, by unfold okI; omega⟩
/-- For's program has numbers that fit. -/
theorem forP_ok (l : List Fn) (hl : ∀ f ∈ l, f.Ok) (hs : ∀ f ∈ l, ∀ i ∈ f.code, i.kind = 5 → 0 ≤ i.b ∧ i.b ≤ 1000) (b : Int) (hb : 0 ≤ b ∧ b ≤ 100) : ∀ f ∈ forP l b, f.Ok := by
  intro f hf
  unfold forP at hf
  rcases List.mem_cons.1 hf with rfl | hf
  · refine ⟨by simp [entF, okI], by simp [entF, okI], by simp [entF, okI], fun i hi => ?_⟩
    simp [entF, entC] at hi
    rcases hi with rfl | rfl | rfl | rfl | rfl | rfl | rfl | rfl | rfl | rfl | rfl <;> exact ins_ok _ (by simp) (by simp) (by simp) (by simp) (by simp)
  · rcases List.mem_cons.1 hf with rfl | hf
    · refine ⟨by simp [rnF, okI], by simp [rnF, okI], by simp [rnF, okI], fun i hi => ?_⟩
      simp [rnF, rnC, choC, lfC, hvC] at hi
      rcases hi with rfl | rfl | rfl | rfl | rfl | rfl | rfl | rfl | rfl | rfl | rfl | rfl | rfl | rfl | rfl | rfl | rfl | rfl | rfl | rfl | rfl <;> exact ins_ok _ (by simp) (by simp) (by simp <;> omega) (by simp) (by simp)
    · obtain ⟨g, hg, rfl⟩ := List.mem_map.1 hf
      have h := hl g hg
      refine ⟨h.params, h.regs, h.slots, fun i hi => ?_⟩
      obtain ⟨j, hj, rfl⟩ := List.mem_map.1 hi
      have hj2 := h.code j hj
      unfold shI
      split
      · rename_i h5
        have := hs g hg j hj h5
        exact ⟨hj2.kind, hj2.a, by show okI (j.b + 2); unfold okI; omega, hj2.c, hj2.k⟩
      · exact hj2
end Go.Proofs.YtafgkehmmfmloaaDoor
/-! parlib.alone of a function without spawns. -/
namespace Go.Proofs.YtafgkehmmfmloaaDoor
set_option linter.unusedVariables false
set_option maxRecDepth 20000
open Go.RowKit Go.HeapKit Go.PlainOps

set_option maxHeartbeats 4000000 in
theorem alone_any (a : Option Addr) (n c : Nat) (l : List Fn) (e : Nat) (f : Fn) (w : World) (hS : SeenF w a n l) (he : l[e]? = some f) (hn : n ≤ 100) (h5 : ∀ i ∈ f.code, i.kind ≠ 5) (hl : f.code.length ≤ 1000) :
    Calls Tryd.prog 29 #[.agg #[.slice a n c], .int .i64 e] w fun r w' => ∃ v cv, r = .returned (.agg #[v]) ∧ OwnF w' w.heap.size v [(f, cv)] ∧ Keeps None w w' := by
  have hen : e < n := by rw [hS.len]; exact (List.getElem?_eq_some_iff.1 he).1
  obtain ⟨W1, B, hW1, hB, bP, q1, d0, s1⟩ := box_prog w a n c
  have b2 := heap_alloc_new W1 (.cells #[.slice none 0 0] 26)
  have q2 := Keeps.alloc None W1 (.cells #[.slice none 0 0] 26)
  obtain ⟨W2, hW2⟩ : ∃ W2, W2 = W1.alloc (.cells #[.slice none 0 0] 26) := ⟨_, rfl⟩
  have s2 : W2.heap.size = B + 2 := by rw [hW2]; simp [s1]
  rw [← hW2] at b2 q2
  rw [s1] at b2
  have b3 := heap_alloc_new W2 (.cells #[.int .i64 (e : Int)] 3)
  have q3 := Keeps.alloc None W2 (.cells #[.int .i64 (e : Int)] 3)
  obtain ⟨W3, hW3⟩ : ∃ W3, W3 = W2.alloc (.cells #[.int .i64 (e : Int)] 3) := ⟨_, rfl⟩
  have s3 : W3.heap.size = B + 3 := by rw [hW3]; simp [s2]
  rw [← hW3] at b3 q3
  rw [s2] at b3
  have b4 := heap_alloc_new W3 (.cells #[.slice (some ⟨B + 2, 0, none⟩) 1 1] 103)
  have q4 := Keeps.alloc None W3 (.cells #[.slice (some ⟨B + 2, 0, none⟩) 1 1] 103)
  obtain ⟨W4, hW4⟩ : ∃ W4, W4 = W3.alloc (.cells #[.slice (some ⟨B + 2, 0, none⟩) 1 1] 103) := ⟨_, rfl⟩
  rw [← hW4] at b4 q4
  rw [s3] at b4
  have k24 : Keeps None W2 W4 := q3.trans q4 (fun _ f _ => f)
  have k4 : Keeps None w W4 := (q1.trans q2 (fun _ f _ => f)).trans k24 (fun _ f _ => f)
  have HX : Hid (Keeps None w W4 ∧ W4.heap[B]? = some (.cells #[.slice a n c] 26 (0, 0)) ∧ W4.heap[B + 1]? = some (.cells #[.slice none 0 0] 26 (0, 0)) ∧ W4.heap[B + 2]? = some (.cells #[.int .i64 (e : Int)] 3 (0, 0)) ∧ W4.heap[B + 3]? = some (.cells #[.slice (some ⟨B + 2, 0, none⟩) 1 1] 103 (0, 0)) ∧ B = w.heap.size ∧ SeenF W4 a n l) := ⟨k4, blk_kept (blk_kept bP q2 (fun f => f)) k24 (fun f => f), blk_kept b2 k24 (fun f => f), blk_kept b3 q4 (fun f => f), b4, hB, hS.more k4⟩
  have HE : Hid (l[e]? = some f ∧ (∀ i ∈ f.code, i.kind ≠ 5) ∧ f.code.length ≤ 1000) := ⟨he, h5, hl⟩
  have ie : (e : Int) < (n : Int) := by omega
  have ie0 : (0 : Int) ≤ (e : Int) := by omega
  clear b2 b3 b4 bP q1 q2 q3 q4 k24 k4 hS d0 he h5 hl
  go_enter Tryd.func29, Tryd.ntmps29
  go_upto_region 2 with fail
  rw [show w.heap.size + 1 + 1 + 1 = B + 3 by omega, show w.heap.size + 1 + 1 = B + 2 by omega, show w.heap.size + 1 = B + 1 by omega, ← hB]
  rw [← hW1, ← hW2, ← hW3, ← hW4]
  clear hW1 hW2 hW3 hW4 hB s1 s2 s3
  go_wp2_with fail
  go_loopw [6, 8, 29, 30, 31] (fun s6 _ _ _ _ wr => ∃ k : Nat, k ≤ 1 ∧ s6 = .int .i64 k ∧ Keeps None W4 wr) (fun i _ _ _ _ _ => 1 - (intOf i).toNat)
  case atStart => exact ⟨0, Nat.zero_le _, rfl, Keeps.refl _ _⟩
  case round =>
    obtain ⟨k, hk, rfl, hkr⟩ := hrel
    obtain ⟨X1, X2, X3, X4, X5, X6, X7⟩ := HX.out
    have cK : wr.cell? ⟨B + 3, 0, none⟩ = some (.slice (some ⟨B + 2, 0, none⟩) 1 1) := (blk_cell (blk_kept X5 hkr (fun f => f)) 0).trans rfl
    by_cases hk0 : k = 0
    · subst hk0
      have cB : wr.cell? ⟨B, 0, none⟩ = some (.slice a n c) := (blk_cell (blk_kept X2 hkr (fun f => f)) 0).trans rfl
      have cE : wr.cell? ⟨B + 2, 0, none⟩ = some (.int .i64 (e : Int)) := (blk_cell (blk_kept X4 hkr (fun f => f)) 0).trans rfl
      obtain ⟨bb, off, f', ca, cc, rfl, ef, hfa⟩ := (X7.more hkr).at hen
      obtain rfl : f' = f := Option.some.inj (ef.symm.trans HE.out.1)
      obtain ⟨N, hN⟩ : ∃ N, N = f'.code.length := ⟨_, rfl⟩
      have cF := hfa.code
      have hsn := hfa.seen
      rw [← hN] at cF hsn
      have iN : (N : Int) ≤ 1000 := by have := HE.out.2.2; omega
      have HI : Hid (SeenI wr ca N f'.code ∧ N = f'.code.length ∧ Keeps None W4 wr) := ⟨hsn, hN, hkr⟩
      clear X1 X2 X3 X4 X5 X6 X7 hfa hsn hN ef hkr
      go_upto_region 5 with fail
      go_cut [29, 30, 31] (fun s29 s30 s31 wc => s29 = .slice ca N cc ∧ s30 = .int .i64 N ∧ s31 = .int .i64 0 ∧ Keeps None wr wc)
      case first =>
        go_region_held3 (fun w' => w'.cell? ⟨B, 0, none⟩ = some (.slice (some ⟨bb, off, none⟩) n c) ∧ w'.cell? ⟨B + 3, 0, none⟩ = some (.slice (some ⟨B + 2, 0, none⟩) 1 1) ∧ w'.cell? ⟨B + 2, 0, none⟩ = some (.int .i64 (e : Int)) ∧ w'.cell? ⟨bb, off + e * 4 + 3, none⟩ = some (.slice ca N cc)) (go_keep) (fail)
        all_goals (go_wp2_with fail; go_meet)
        all_goals exact ⟨rfl, rfl, rfl, Keeps.drew _ _⟩
      case rest =>
        obtain ⟨rfl, rfl, rfl, hkc⟩ := hcut
        have HJ : Hid (SeenI wc ca N f'.code ∧ N = f'.code.length ∧ Keeps None W4 wc) := ⟨HI.out.1.more hkc, HI.out.2.1, HI.out.2.2.trans hkc (fun _ f _ => f)⟩
        clear hkc cK cB cE cF
        go_wp2_with fail
        go_loopw [8, 31] (fun _ s31 wx => ∃ k : Nat, k ≤ N ∧ s31 = .int .i64 k ∧ Keeps None wc wx) (fun _ i _ => N - (intOf i).toNat)
        case atStart => exact ⟨0, Nat.zero_le _, rfl, Keeps.refl _ _⟩
        case round =>
          obtain ⟨k, hk, rfl, hkx⟩ := hrel
          by_cases hkN : k < N
          · have j1 : (k : Int) < (N : Int) := by omega
            have j2 : (0 : Int) ≤ (k : Int) := by omega
            obtain ⟨cb, co, x, rfl, hx, hins⟩ := (HJ.out.1.more hkx).at hkN
            have y0 := hins.kind
            have y1 := hins.a
            have y2 := hins.b
            have y3 := hins.c
            have y4 := hins.k
            have hx5 := HE.out.2.1 x (List.mem_of_getElem? hx)
            have t5 : (x.kind == 5) = false := by simp [hx5]
            have hal := Keeps.alloc None wr (.cells #[.int .i64 x.kind, .int .i64 x.a, .int .i64 x.b, .int .i64 x.c, .int .i64 x.k] 48)
            have bN := heap_alloc_new wr (.cells #[.int .i64 x.kind, .int .i64 x.a, .int .i64 x.b, .int .i64 x.c, .int .i64 x.k] 48)
            obtain ⟨V2, hV⟩ : ∃ V2, V2 = wr.alloc (.cells #[.int .i64 x.kind, .int .i64 x.a, .int .i64 x.b, .int .i64 x.c, .int .i64 x.k] 48) := ⟨_, rfl⟩
            obtain ⟨D2, hD⟩ : ∃ D2, D2 = wr.heap.size := ⟨_, rfl⟩
            rw [← hV] at hal bN
            rw [← hD] at bN
            have z0 : V2.cell? ⟨D2, 0, none⟩ = some (.int .i64 x.kind) := (blk_cell bN 0).trans rfl
            have HK : Hid (Keeps None wc V2) := hkx.trans hal (fun _ f _ => f)
            clear hins hx hkx hal bN hx5
            go_upto_region 8 with fail
            rw [← hV, ← hD]
            clear hV hD y0 y1 y2 y3 y4
            go_wp2_with fail
            exact ⟨⟨k + 1, by omega, by simp, HK.out⟩, by simp [intOf]; omega⟩
          · have j1 : ¬ ((k : Int) < (N : Int)) := by omega
            have HK : Hid (Keeps None W4 wr) := HJ.out.2.2.trans hkx (fun _ f _ => f)
            clear hkx
            go_wp2_with fail
            exact ⟨⟨1, by omega, by simp, HK.out⟩, by simp [intOf]⟩
    · obtain rfl : k = 1 := by omega
      have bU := heap_alloc_new wr (.cells #[.slice none 0 0] 26)
      have kU := Keeps.alloc None wr (.cells #[.slice none 0 0] 26)
      obtain ⟨U, hU⟩ : ∃ U, U = wr.alloc (.cells #[.slice none 0 0] 26) := ⟨_, rfl⟩
      obtain ⟨P, hP⟩ : ∃ P, P = wr.heap.size := ⟨_, rfl⟩
      rw [← hU] at bU kU
      rw [← hP] at bU
      have k4U : Keeps None W4 U := hkr.trans kU (fun _ f _ => f)
      have HU : Hid (Keeps None W4 U ∧ U.heap[P]? = some (.cells #[.slice none 0 0] 26 (0, 0)) ∧ W4.heap.size ≤ P) := ⟨k4U, bU, by have := hkr.size; omega⟩
      have uK : U.cell? ⟨B + 3, 0, none⟩ = some (.slice (some ⟨B + 2, 0, none⟩) 1 1) := (blk_cell (blk_kept X5 k4U (fun f => f)) 0).trans rfl
      clear X1 X2 X3 X4 X5 X6 X7 hkr kU bU k4U
      go_upto_region 13 with fail
      rw [← hU, ← hP]
      clear hU hP cK
      go_wp2_with fail
      clear uK
      go_loopw [12, 55] (fun _ s55 wx => (s55 = .int .i64 0 ∧ wx = U) ∨ (s55 = .int .i64 1 ∧ ∃ a' c' cv, wx.heap[P]? = some (.cells #[.slice a' 1 c'] 26 (0, 0)) ∧ OwnF wx w.heap.size (.slice a' 1 c') [(f, cv)] ∧ wx.heap[B + 1]? = some (.cells #[.slice none 0 0] 26 (0, 0)) ∧ Keeps None w wx)) (fun _ i _ => 1 - (intOf i).toNat)
      case atStart => exact .inl ⟨rfl, rfl⟩
      case round =>
        rcases hrel with ⟨rfl, hwr⟩ | ⟨rfl, a', c', cv, bP', oF', bR', kw'⟩
        · have hw2 := hwr.symm
          subst hw2
          obtain ⟨X1, X2, X3, X4, X5, X6, X7⟩ := HX.out
          obtain ⟨U1, U2, U3⟩ := HU.out
          have cE : U.cell? ⟨B + 2, 0, none⟩ = some (.int .i64 (e : Int)) := (blk_cell (blk_kept X4 U1 (fun f => f)) 0).trans rfl
          have cB : U.cell? ⟨B, 0, none⟩ = some (.slice a n c) := (blk_cell (blk_kept X2 U1 (fun f => f)) 0).trans rfl
          obtain ⟨bb, off, f', ca, cc, rfl, ef, hfa⟩ := (X7.more U1).at hen
          obtain rfl : f' = f := Option.some.inj (ef.symm.trans HE.out.1)
          have y0 := hfa.params
          have y1 := hfa.regs
          have y2 := hfa.slots
          have y3 := hfa.code
          have kd := Keeps.drew None U
          have cBd := kd.cell cB (fun f => f)
          have y0d := kd.cell y0 (fun f => f)
          have y1d := kd.cell y1 (fun f => f)
          have y2d := kd.cell y2 (fun f => f)
          have y3d := kd.cell y3 (fun f => f)
          have r00 : U.cell? ⟨P, 0, none⟩ = some (.slice none 0 0) := (blk_cell U2 0).trans rfl
          have r0 := kd.cell r00 (fun f => f)
          have HF : Hid (SeenI U ca f'.code.length f'.code ∧ Keeps None w U ∧ U.heap[B + 1]? = some (.cells #[.slice none 0 0] 26 (0, 0)) ∧ B + 1 ≠ P ∧ w.heap.size ≤ P) := ⟨hfa.seen, X1.trans U1 (fun _ f _ => f), blk_kept X3 U1 (fun f => f), by have : B + 1 < W4.heap.size := blk_lt X3; omega, by have := X1.size; omega⟩
          have HNB : Hid ((¬ B = P) ∧ ¬ bb = P) := by
            refine ⟨by have : B < W4.heap.size := blk_lt X2; omega, fun h => ?_⟩
            obtain ⟨b0, off0, e0, hb0, _⟩ := X7.ex (by omega)
            injection e0 with e0
            injection e0 with e1
            omega
          have HP : Hid (U.heap[P]? = some (.cells #[.slice none 0 0] 26 (0, 0))) := U2
          have HL : Hid ((∀ i ∈ f'.code, i.kind ≠ 5) ∧ f'.code.length ≤ 1000) := HE.out.2
          clear X1 X2 X3 X4 X5 X6 X7 U1 U2 U3 hfa ef kd
          go_upto_region 16 with fail
          clear cE
          refine wp_region_held_drew (S := (fun w' => w'.cell? ⟨B, 0, none⟩ = some (.slice (some ⟨bb, off, none⟩) n c) ∧ w'.cell? ⟨bb, off + e * 4, none⟩ = some (.int .i64 f'.params) ∧ w'.cell? ⟨bb, off + e * 4 + 1, none⟩ = some (.int .i64 f'.regs) ∧ w'.cell? ⟨bb, off + e * 4 + 2, none⟩ = some (.int .i64 f'.slots) ∧ w'.cell? ⟨bb, off + e * 4 + 3, none⟩ = some (.slice ca f'.code.length cc))) (by kernel_rfl) ?_ (fun hHeld => ?_)
          · (try dsimp only); first | with_reducible exact ⟨cBd, y0d, y1d, y2d, y3d⟩ | with_reducible exact S8 | with_reducible exact S9 | with_reducible exact S10 | with_reducible exact S12
          refine wpAnyH_take (i := 0) (oi := { dst := some 59, op := Op.fieldAddr 26 (Operand.tmp 10) 0, type := 0, pos := "copies.go:43", after := #[], guard := none }) (v := ?_) rfl (by kernel_rfl) (by kernel_rfl) (by kernel_rfl) (fun _ _ _ h => h) (Or.inl ⟨by rfl, ?_⟩) (by assumption) ?_
          rotate_left
          · (intro wz hSw; (try dsimp only at hSw); go_simp; try with_reducible rfl)
          simp only [Act.put, List.setIfInBounds_toArray, List.set_cons_zero, List.set_cons_succ]
          refine wpAnyH_take (i := 2) (oi := { dst := some 61, op := Op.fieldAddr 26 (Operand.tmp 2) 0, type := 0, pos := "copies.go:43", after := #[], guard := none }) (v := ?_) rfl (by kernel_rfl) (by kernel_rfl) (by kernel_rfl) (fun _ _ _ h => h) (Or.inl ⟨by rfl, ?_⟩) (by assumption) ?_
          rotate_left
          · (intro wz hSw; (try dsimp only at hSw); go_simp; try with_reducible rfl)
          simp only [Act.put, List.setIfInBounds_toArray, List.set_cons_zero, List.set_cons_succ]
          refine wpAnyH_take (i := 3) (oi := { dst := some 62, op := Op.load 24 (Operand.tmp 61), type := 24, pos := "copies.go:43", after := #[{ on := 2, ground := Ground.data }], guard := none }) (v := ?_) rfl (by kernel_rfl) (by kernel_rfl) (by kernel_rfl) (fun _ _ _ h => h) (Or.inl ⟨by rfl, ?_⟩) (by assumption) ?_
          rotate_left
          · (intro wz hSw; (try dsimp only at hSw); go_simp; try with_reducible rfl)
          simp only [Act.put, List.setIfInBounds_toArray, List.set_cons_zero, List.set_cons_succ]
          refine wpAnyH_take (i := 4) (oi := { dst := some 63, op := Op.move (Operand.tmp 12), type := 3, pos := "copies.go:43", after := #[], guard := none }) (v := ?_) rfl (by kernel_rfl) (by kernel_rfl) (by kernel_rfl) (fun _ _ _ h => h) (Or.inl ⟨by rfl, ?_⟩) (by assumption) ?_
          rotate_left
          · (intro wz hSw; (try dsimp only at hSw); go_simp; try with_reducible rfl)
          simp only [Act.put, List.setIfInBounds_toArray, List.set_cons_zero, List.set_cons_succ]
          refine wpAnyH_take (i := 5) (oi := { dst := some 64, op := Op.indexAddr 24 (Operand.tmp 62) (Operand.tmp 63), type := 0, pos := "copies.go:43", after := #[{ on := 3, ground := Ground.data }, { on := 4, ground := Ground.data }], guard := none }) (v := ?_) rfl (by kernel_rfl) (by kernel_rfl) (by kernel_rfl) (fun _ _ _ h => h) (Or.inl ⟨by rfl, ?_⟩) (by assumption) ?_
          rotate_left
          · (intro wz hSw; (try dsimp only at hSw); go_simp; try with_reducible rfl)
          simp only [Act.put, List.setIfInBounds_toArray, List.set_cons_zero, List.set_cons_succ]
          refine wpAnyH_take (i := 6) (oi := { dst := some 65, op := Op.load 29 (Operand.tmp 64), type := 29, pos := "copies.go:43", after := #[{ on := 5, ground := Ground.data }], guard := none }) (v := ?_) rfl (by kernel_rfl) (by kernel_rfl) (by kernel_rfl) (fun _ _ _ h => h) (Or.inl ⟨by rfl, ?_⟩) (by assumption) ?_
          rotate_left
          · (intro wz hSw; (try dsimp only at hSw); go_simp; try with_reducible rfl)
          simp only [Act.put, List.setIfInBounds_toArray, List.set_cons_zero, List.set_cons_succ]
          refine wpAnyH_take (i := 7) (oi := { dst := some 66, op := Op.move (Operand.tmp 9), type := 22, pos := "copies.go:43", after := #[], guard := none }) (v := ?_) rfl (by kernel_rfl) (by kernel_rfl) (by kernel_rfl) (fun _ _ _ h => h) (Or.inl ⟨by rfl, ?_⟩) (by assumption) ?_
          rotate_left
          · (intro wz hSw; (try dsimp only at hSw); go_simp; try with_reducible rfl)
          simp only [Act.put, List.setIfInBounds_toArray, List.set_cons_zero, List.set_cons_succ]
          refine wpAnyH_ready (rs := [1, 8]) (by kernel_rfl) (by simp) ?_
          refine AllReadyH.cons (o := { dst := some 60, op := Op.load 24 (Operand.tmp 59), type := 24, pos := "copies.go:43", after := #[{ on := 0, ground := Ground.data }], guard := none }) rfl (fun K hK => ?_) ?_
          · go_simp
            refine hK.out _ _ ?_ (fun hHeld2 => ?_)
            · (try dsimp only); first | with_reducible exact ⟨cBd, y0d, y1d, y2d, y3d⟩ | with_reducible exact S8 | with_reducible exact S9 | with_reducible exact S10 | with_reducible exact S12
            clear hK K
            try simp only [Act.put, List.setIfInBounds_toArray, List.set_cons_zero, List.set_cons_succ]
            refine wpAnyH_ready (rs := [8]) (by kernel_rfl) (by simp) ?_
            refine AllReadyH.cons (o := { dst := some 67, op := Op.call { callee := Callee.value (Operand.func 56), args := #[Operand.tmp 65, Operand.tmp 66], argTypes := #[29, 88] }, type := 29, pos := "copies.go:43", after := #[{ on := 6, ground := Ground.data }, { on := 7, ground := Ground.data }], guard := none }) rfl (fun K hK => ?_) ?_
            · go_simp
              refine (copied2_any f' ca cc _ U.drew (HF.out.1.more (Keeps.drew None U)) HL.out.1 HL.out.2).mono ?_
              rintro _ w8 ⟨g8, c8, rfl, o8, k8⟩
              have j8 : Keeps None U w8 := (Keeps.drew None U).trans k8 (fun _ f _ => f)
              have S8 := And.intro (j8.cell cB (fun f => f)) (And.intro (j8.cell y0 (fun f => f)) (And.intro (j8.cell y1 (fun f => f)) (And.intro (j8.cell y2 (fun f => f)) (j8.cell y3 (fun f => f)))))
              have r8 := j8.cell r00 (fun f => f)
              have j9 := j8.andAlloc (.cells #[.int .i64 f'.params, .int .i64 f'.regs, .int .i64 f'.slots, .slice (some ⟨g8, 0, none⟩) f'.code.length c8] 29)
              have S9 := And.intro (j9.cell cB (fun f => f)) (And.intro (j9.cell y0 (fun f => f)) (And.intro (j9.cell y1 (fun f => f)) (And.intro (j9.cell y2 (fun f => f)) (j9.cell y3 (fun f => f)))))
              have r9 := j9.cell r00 (fun f => f)
              have b9 := heap_alloc_new w8 (.cells #[.int .i64 f'.params, .int .i64 f'.regs, .int .i64 f'.slots, .slice (some ⟨g8, 0, none⟩) f'.code.length c8] 29)
              obtain ⟨a10, c10, w10, hr10, o10, k10⟩ := fn_first f' (.slice (some ⟨g8, 0, none⟩) f'.code.length c8) w8.heap.size w.heap.size _ ((o8.low (by have := HF.out.2.1.size; exact this)).more (Keeps.alloc None _ _)) b9 (by have := j9.size; have := HF.out.2.1.size; omega)
              have j10 := j9.trans k10 (fun _ f _ => f)
              have S10 := And.intro (j10.cell cB (fun f => f)) (And.intro (j10.cell y0 (fun f => f)) (And.intro (j10.cell y1 (fun f => f)) (And.intro (j10.cell y2 (fun f => f)) (j10.cell y3 (fun f => f)))))
              have b10 := blk_kept HP.out j10 (fun f => f)
              have z10 : w10.cell? ⟨P, 0, none⟩ = some (.slice none 0 0) := (blk_cell b10 0).trans rfl
              have f10 := blk_free b10 0
              have k12 := Keeps.setCell (S := (· = P)) w10 (a := ⟨P, 0, none⟩) rfl (.slice a10 1 c10)
              have hs12 : OwnF (w10.setCell ⟨P, 0, none⟩ (.slice a10 1 c10)) w.heap.size (.slice a10 1 c10) [(f', .slice (some ⟨g8, 0, none⟩) f'.code.length c8)] := ⟨k12.own o10.row (fun q e hq => by subst hq; exact absurd (own_type o10.row e b10) (by decide)), fun x hx => (o10.codes x hx).kept k12 (fun q e hq => by subst hq; exact absurd (own_type (o10.codes x hx) e b10) (by decide))⟩
              have kw12 : Keeps None w (w10.setCell ⟨P, 0, none⟩ (.slice a10 1 c10)) := (HF.out.2.1.trans j10 (fun _ f _ => f)).trans k12 (fun i e hi => by have e' : i = P := e; have := HF.out.2.2.2.2; omega)
              have HZ : Hid (∃ a' c' cv, (w10.setCell ⟨P, 0, none⟩ (.slice a10 1 c10)).heap[P]? = some (.cells #[.slice a' 1 c'] 26 (0, 0)) ∧ OwnF (w10.setCell ⟨P, 0, none⟩ (.slice a10 1 c10)) w.heap.size (.slice a' 1 c') [(f', cv)] ∧ (w10.setCell ⟨P, 0, none⟩ (.slice a10 1 c10)).heap[B + 1]? = some (.cells #[.slice none 0 0] 26 (0, 0)) ∧ Keeps None w (w10.setCell ⟨P, 0, none⟩ (.slice a10 1 c10))) := ⟨_, _, _, blk_set (i := 0) b10 _, hs12, blk_kept (blk_kept HF.out.2.2.1 j10 (fun f => f)) k12 (by have := HF.out.2.2.2.1; simpa using this), kw12⟩
              have S12 : (w10.setCell ⟨P, 0, none⟩ (.slice a10 1 c10)).cell? ⟨B, 0, none⟩ = some (.slice (some ⟨bb, off, none⟩) n c) ∧ (w10.setCell ⟨P, 0, none⟩ (.slice a10 1 c10)).cell? ⟨bb, off + e * 4, none⟩ = some (.int .i64 f'.params) ∧ (w10.setCell ⟨P, 0, none⟩ (.slice a10 1 c10)).cell? ⟨bb, off + e * 4 + 1, none⟩ = some (.int .i64 f'.regs) ∧ (w10.setCell ⟨P, 0, none⟩ (.slice a10 1 c10)).cell? ⟨bb, off + e * 4 + 2, none⟩ = some (.int .i64 f'.slots) ∧ (w10.setCell ⟨P, 0, none⟩ (.slice a10 1 c10)).cell? ⟨bb, off + e * 4 + 3, none⟩ = some (.slice ca f'.code.length cc) := ⟨k12.cell S10.1 HNB.out.1, k12.cell S10.2.1 HNB.out.2, k12.cell S10.2.2.1 HNB.out.2, k12.cell S10.2.2.2.1 HNB.out.2, k12.cell S10.2.2.2.2 HNB.out.2⟩
              have HR10 : Hid ((Builtin.append_ #[24, 24] 24 #[.slice none 0 0, .slice (some ⟨w8.heap.size, 0, none⟩) 1 1]).run Tryd.prog (w8.alloc (.cells #[.int .i64 f'.params, .int .i64 f'.regs, .int .i64 f'.slots, .slice (some ⟨g8, 0, none⟩) f'.code.length c8] 29)) = .ok (.slice a10 1 c10) w10) := hr10
              clear hs12 kw12 k12 b10 o10 k10 b9 o8 hr10
              refine hK.out _ _ ?_ (fun hHeld2 => ?_)
              · (try dsimp only); first | with_reducible exact ⟨cBd, y0d, y1d, y2d, y3d⟩ | with_reducible exact S8 | with_reducible exact S9 | with_reducible exact S10 | with_reducible exact S12
              clear hK K
              try simp only [Act.put, List.setIfInBounds_toArray, List.set_cons_zero, List.set_cons_succ]
              refine wpAnyH_ready (rs := [9]) (by kernel_rfl) (by simp) ?_
              refine AllReadyH.cons (o := { dst := some 68, op := Op.buildSlice 24 1 #[(0, Operand.tmp 67)], type := 24, pos := "copies.go:43", after := #[{ on := 8, ground := Ground.data }], guard := none }) rfl (fun K hK => ?_) ?_
              · go_simp
                refine hK.out _ _ ?_ (fun hHeld2 => ?_)
                · (try dsimp only); first | with_reducible exact ⟨cBd, y0d, y1d, y2d, y3d⟩ | with_reducible exact S8 | with_reducible exact S9 | with_reducible exact S10 | with_reducible exact S12
                clear hK K
                try simp only [Act.put, List.setIfInBounds_toArray, List.set_cons_zero, List.set_cons_succ]
                refine wpAnyH_ready (rs := [10]) (by kernel_rfl) (by simp) ?_
                refine AllReadyH.cons (o := { dst := some 69, op := Op.call { callee := Callee.builtin Builtin.append, args := #[Operand.tmp 60, Operand.tmp 68], argTypes := #[24, 24] }, type := 24, pos := "copies.go:43", after := #[{ on := 1, ground := Ground.data }, { on := 9, ground := Ground.data }, { on := 8, ground := Ground.chain }], guard := none }) rfl (fun K hK => ?_) ?_
                · refine step_append_run rfl (.tmp 60) (.tmp 68) 24 24 rfl rfl rfl HR10.out ?_
                  refine hK.out _ _ ?_ (fun hHeld2 => ?_)
                  · (try dsimp only); first | with_reducible exact ⟨cBd, y0d, y1d, y2d, y3d⟩ | with_reducible exact S8 | with_reducible exact S9 | with_reducible exact S10 | with_reducible exact S12
                  clear hK K
                  try simp only [Act.put, List.setIfInBounds_toArray, List.set_cons_zero, List.set_cons_succ]
                  refine wpAnyH_take (i := 11) (oi := { dst := some 70, op := Op.fieldAddr 26 (Operand.tmp 10) 0, type := 0, pos := "copies.go:43", after := #[{ on := 0, ground := Ground.phase }, { on := 1, ground := Ground.phase }, { on := 2, ground := Ground.phase }, { on := 3, ground := Ground.phase }, { on := 4, ground := Ground.phase }, { on := 5, ground := Ground.phase }, { on := 6, ground := Ground.phase }, { on := 7, ground := Ground.phase }, { on := 8, ground := Ground.phase }, { on := 9, ground := Ground.phase }, { on := 10, ground := Ground.phase }], guard := none }) (v := ?_) rfl (by kernel_rfl) (by kernel_rfl) (by kernel_rfl) (fun _ _ _ h => h) (Or.inl ⟨by rfl, ?_⟩) (by assumption) ?_
                  rotate_left
                  · (intro wz hSw; (try dsimp only at hSw); go_simp; try with_reducible rfl)
                  simp only [Act.put, List.setIfInBounds_toArray, List.set_cons_zero, List.set_cons_succ]
                  refine wpAnyH_ready (rs := [12]) (by kernel_rfl) (by simp) ?_
                  refine AllReadyH.cons (o := { dst := none, op := Op.store 24 (Operand.tmp 70) (Operand.tmp 69), type := 0, pos := "copies.go:43", after := #[{ on := 11, ground := Ground.data }, { on := 10, ground := Ground.data }, { on := 10, ground := Ground.chain }, { on := 0, ground := Ground.phase }, { on := 1, ground := Ground.phase }, { on := 2, ground := Ground.phase }, { on := 3, ground := Ground.phase }, { on := 4, ground := Ground.phase }, { on := 5, ground := Ground.phase }, { on := 6, ground := Ground.phase }, { on := 7, ground := Ground.phase }, { on := 8, ground := Ground.phase }, { on := 9, ground := Ground.phase }, { on := 10, ground := Ground.phase }], guard := none }) rfl (fun K hK => ?_) ?_
                  · go_simp
                    refine hK.out _ _ ?_ (fun hHeld2 => ?_)
                    · (try dsimp only); first | with_reducible exact ⟨cBd, y0d, y1d, y2d, y3d⟩ | with_reducible exact S8 | with_reducible exact S9 | with_reducible exact S10 | with_reducible exact S12
                    clear hK K
                    try simp only [Act.put, List.setIfInBounds_toArray, List.set_cons_zero, List.set_cons_succ]
                    refine wpAnyH_done (by kernel_rfl) ?_ _
                    clear cB y0 y1 y2 y3 cBd y0d y1d y2d y3d r00 r0
                    go_wp2
                    exact HZ.out.elim fun a' h => h.elim fun c' h => h.elim fun cv h => ⟨⟨a', c', h.1, ⟨cv, h.2.1⟩, h.2.2⟩, by simp [intOf]⟩
                  exact AllReadyH.nil
                exact AllReadyH.nil
              exact AllReadyH.nil
            exact AllReadyH.nil
          refine AllReadyH.cons (o := { dst := some 67, op := Op.call { callee := Callee.value (Operand.func 56), args := #[Operand.tmp 65, Operand.tmp 66], argTypes := #[29, 88] }, type := 29, pos := "copies.go:43", after := #[{ on := 6, ground := Ground.data }, { on := 7, ground := Ground.data }], guard := none }) rfl (fun K hK => ?_) ?_
          · go_simp
            refine (copied2_any f' ca cc _ U.drew (HF.out.1.more (Keeps.drew None U)) HL.out.1 HL.out.2).mono ?_
            rintro _ w8 ⟨g8, c8, rfl, o8, k8⟩
            have j8 : Keeps None U w8 := (Keeps.drew None U).trans k8 (fun _ f _ => f)
            have S8 := And.intro (j8.cell cB (fun f => f)) (And.intro (j8.cell y0 (fun f => f)) (And.intro (j8.cell y1 (fun f => f)) (And.intro (j8.cell y2 (fun f => f)) (j8.cell y3 (fun f => f)))))
            have r8 := j8.cell r00 (fun f => f)
            have j9 := j8.andAlloc (.cells #[.int .i64 f'.params, .int .i64 f'.regs, .int .i64 f'.slots, .slice (some ⟨g8, 0, none⟩) f'.code.length c8] 29)
            have S9 := And.intro (j9.cell cB (fun f => f)) (And.intro (j9.cell y0 (fun f => f)) (And.intro (j9.cell y1 (fun f => f)) (And.intro (j9.cell y2 (fun f => f)) (j9.cell y3 (fun f => f)))))
            have r9 := j9.cell r00 (fun f => f)
            have b9 := heap_alloc_new w8 (.cells #[.int .i64 f'.params, .int .i64 f'.regs, .int .i64 f'.slots, .slice (some ⟨g8, 0, none⟩) f'.code.length c8] 29)
            obtain ⟨a10, c10, w10, hr10, o10, k10⟩ := fn_first f' (.slice (some ⟨g8, 0, none⟩) f'.code.length c8) w8.heap.size w.heap.size _ ((o8.low (by have := HF.out.2.1.size; exact this)).more (Keeps.alloc None _ _)) b9 (by have := j9.size; have := HF.out.2.1.size; omega)
            have j10 := j9.trans k10 (fun _ f _ => f)
            have S10 := And.intro (j10.cell cB (fun f => f)) (And.intro (j10.cell y0 (fun f => f)) (And.intro (j10.cell y1 (fun f => f)) (And.intro (j10.cell y2 (fun f => f)) (j10.cell y3 (fun f => f)))))
            have b10 := blk_kept HP.out j10 (fun f => f)
            have z10 : w10.cell? ⟨P, 0, none⟩ = some (.slice none 0 0) := (blk_cell b10 0).trans rfl
            have f10 := blk_free b10 0
            have k12 := Keeps.setCell (S := (· = P)) w10 (a := ⟨P, 0, none⟩) rfl (.slice a10 1 c10)
            have hs12 : OwnF (w10.setCell ⟨P, 0, none⟩ (.slice a10 1 c10)) w.heap.size (.slice a10 1 c10) [(f', .slice (some ⟨g8, 0, none⟩) f'.code.length c8)] := ⟨k12.own o10.row (fun q e hq => by subst hq; exact absurd (own_type o10.row e b10) (by decide)), fun x hx => (o10.codes x hx).kept k12 (fun q e hq => by subst hq; exact absurd (own_type (o10.codes x hx) e b10) (by decide))⟩
            have kw12 : Keeps None w (w10.setCell ⟨P, 0, none⟩ (.slice a10 1 c10)) := (HF.out.2.1.trans j10 (fun _ f _ => f)).trans k12 (fun i e hi => by have e' : i = P := e; have := HF.out.2.2.2.2; omega)
            have HZ : Hid (∃ a' c' cv, (w10.setCell ⟨P, 0, none⟩ (.slice a10 1 c10)).heap[P]? = some (.cells #[.slice a' 1 c'] 26 (0, 0)) ∧ OwnF (w10.setCell ⟨P, 0, none⟩ (.slice a10 1 c10)) w.heap.size (.slice a' 1 c') [(f', cv)] ∧ (w10.setCell ⟨P, 0, none⟩ (.slice a10 1 c10)).heap[B + 1]? = some (.cells #[.slice none 0 0] 26 (0, 0)) ∧ Keeps None w (w10.setCell ⟨P, 0, none⟩ (.slice a10 1 c10))) := ⟨_, _, _, blk_set (i := 0) b10 _, hs12, blk_kept (blk_kept HF.out.2.2.1 j10 (fun f => f)) k12 (by have := HF.out.2.2.2.1; simpa using this), kw12⟩
            have S12 : (w10.setCell ⟨P, 0, none⟩ (.slice a10 1 c10)).cell? ⟨B, 0, none⟩ = some (.slice (some ⟨bb, off, none⟩) n c) ∧ (w10.setCell ⟨P, 0, none⟩ (.slice a10 1 c10)).cell? ⟨bb, off + e * 4, none⟩ = some (.int .i64 f'.params) ∧ (w10.setCell ⟨P, 0, none⟩ (.slice a10 1 c10)).cell? ⟨bb, off + e * 4 + 1, none⟩ = some (.int .i64 f'.regs) ∧ (w10.setCell ⟨P, 0, none⟩ (.slice a10 1 c10)).cell? ⟨bb, off + e * 4 + 2, none⟩ = some (.int .i64 f'.slots) ∧ (w10.setCell ⟨P, 0, none⟩ (.slice a10 1 c10)).cell? ⟨bb, off + e * 4 + 3, none⟩ = some (.slice ca f'.code.length cc) := ⟨k12.cell S10.1 HNB.out.1, k12.cell S10.2.1 HNB.out.2, k12.cell S10.2.2.1 HNB.out.2, k12.cell S10.2.2.2.1 HNB.out.2, k12.cell S10.2.2.2.2 HNB.out.2⟩
            have HR10 : Hid ((Builtin.append_ #[24, 24] 24 #[.slice none 0 0, .slice (some ⟨w8.heap.size, 0, none⟩) 1 1]).run Tryd.prog (w8.alloc (.cells #[.int .i64 f'.params, .int .i64 f'.regs, .int .i64 f'.slots, .slice (some ⟨g8, 0, none⟩) f'.code.length c8] 29)) = .ok (.slice a10 1 c10) w10) := hr10
            clear hs12 kw12 k12 b10 o10 k10 b9 o8 hr10
            refine hK.out _ _ ?_ (fun hHeld2 => ?_)
            · (try dsimp only); first | with_reducible exact ⟨cBd, y0d, y1d, y2d, y3d⟩ | with_reducible exact S8 | with_reducible exact S9 | with_reducible exact S10 | with_reducible exact S12
            clear hK K
            try simp only [Act.put, List.setIfInBounds_toArray, List.set_cons_zero, List.set_cons_succ]
            refine wpAnyH_ready (rs := [1, 9]) (by kernel_rfl) (by simp) ?_
            refine AllReadyH.cons (o := { dst := some 60, op := Op.load 24 (Operand.tmp 59), type := 24, pos := "copies.go:43", after := #[{ on := 0, ground := Ground.data }], guard := none }) rfl (fun K hK => ?_) ?_
            · go_simp
              refine hK.out _ _ ?_ (fun hHeld2 => ?_)
              · (try dsimp only); first | with_reducible exact ⟨cBd, y0d, y1d, y2d, y3d⟩ | with_reducible exact S8 | with_reducible exact S9 | with_reducible exact S10 | with_reducible exact S12
              clear hK K
              try simp only [Act.put, List.setIfInBounds_toArray, List.set_cons_zero, List.set_cons_succ]
              refine wpAnyH_ready (rs := [9]) (by kernel_rfl) (by simp) ?_
              refine AllReadyH.cons (o := { dst := some 68, op := Op.buildSlice 24 1 #[(0, Operand.tmp 67)], type := 24, pos := "copies.go:43", after := #[{ on := 8, ground := Ground.data }], guard := none }) rfl (fun K hK => ?_) ?_
              · go_simp
                refine hK.out _ _ ?_ (fun hHeld2 => ?_)
                · (try dsimp only); first | with_reducible exact ⟨cBd, y0d, y1d, y2d, y3d⟩ | with_reducible exact S8 | with_reducible exact S9 | with_reducible exact S10 | with_reducible exact S12
                clear hK K
                try simp only [Act.put, List.setIfInBounds_toArray, List.set_cons_zero, List.set_cons_succ]
                refine wpAnyH_ready (rs := [10]) (by kernel_rfl) (by simp) ?_
                refine AllReadyH.cons (o := { dst := some 69, op := Op.call { callee := Callee.builtin Builtin.append, args := #[Operand.tmp 60, Operand.tmp 68], argTypes := #[24, 24] }, type := 24, pos := "copies.go:43", after := #[{ on := 1, ground := Ground.data }, { on := 9, ground := Ground.data }, { on := 8, ground := Ground.chain }], guard := none }) rfl (fun K hK => ?_) ?_
                · refine step_append_run rfl (.tmp 60) (.tmp 68) 24 24 rfl rfl rfl HR10.out ?_
                  refine hK.out _ _ ?_ (fun hHeld2 => ?_)
                  · (try dsimp only); first | with_reducible exact ⟨cBd, y0d, y1d, y2d, y3d⟩ | with_reducible exact S8 | with_reducible exact S9 | with_reducible exact S10 | with_reducible exact S12
                  clear hK K
                  try simp only [Act.put, List.setIfInBounds_toArray, List.set_cons_zero, List.set_cons_succ]
                  refine wpAnyH_take (i := 11) (oi := { dst := some 70, op := Op.fieldAddr 26 (Operand.tmp 10) 0, type := 0, pos := "copies.go:43", after := #[{ on := 0, ground := Ground.phase }, { on := 1, ground := Ground.phase }, { on := 2, ground := Ground.phase }, { on := 3, ground := Ground.phase }, { on := 4, ground := Ground.phase }, { on := 5, ground := Ground.phase }, { on := 6, ground := Ground.phase }, { on := 7, ground := Ground.phase }, { on := 8, ground := Ground.phase }, { on := 9, ground := Ground.phase }, { on := 10, ground := Ground.phase }], guard := none }) (v := ?_) rfl (by kernel_rfl) (by kernel_rfl) (by kernel_rfl) (fun _ _ _ h => h) (Or.inl ⟨by rfl, ?_⟩) (by assumption) ?_
                  rotate_left
                  · (intro wz hSw; (try dsimp only at hSw); go_simp; try with_reducible rfl)
                  simp only [Act.put, List.setIfInBounds_toArray, List.set_cons_zero, List.set_cons_succ]
                  refine wpAnyH_ready (rs := [12]) (by kernel_rfl) (by simp) ?_
                  refine AllReadyH.cons (o := { dst := none, op := Op.store 24 (Operand.tmp 70) (Operand.tmp 69), type := 0, pos := "copies.go:43", after := #[{ on := 11, ground := Ground.data }, { on := 10, ground := Ground.data }, { on := 10, ground := Ground.chain }, { on := 0, ground := Ground.phase }, { on := 1, ground := Ground.phase }, { on := 2, ground := Ground.phase }, { on := 3, ground := Ground.phase }, { on := 4, ground := Ground.phase }, { on := 5, ground := Ground.phase }, { on := 6, ground := Ground.phase }, { on := 7, ground := Ground.phase }, { on := 8, ground := Ground.phase }, { on := 9, ground := Ground.phase }, { on := 10, ground := Ground.phase }], guard := none }) rfl (fun K hK => ?_) ?_
                  · go_simp
                    refine hK.out _ _ ?_ (fun hHeld2 => ?_)
                    · (try dsimp only); first | with_reducible exact ⟨cBd, y0d, y1d, y2d, y3d⟩ | with_reducible exact S8 | with_reducible exact S9 | with_reducible exact S10 | with_reducible exact S12
                    clear hK K
                    try simp only [Act.put, List.setIfInBounds_toArray, List.set_cons_zero, List.set_cons_succ]
                    refine wpAnyH_done (by kernel_rfl) ?_ _
                    clear cB y0 y1 y2 y3 cBd y0d y1d y2d y3d r00 r0
                    go_wp2
                    exact HZ.out.elim fun a' h => h.elim fun c' h => h.elim fun cv h => ⟨⟨a', c', h.1, ⟨cv, h.2.1⟩, h.2.2⟩, by simp [intOf]⟩
                  exact AllReadyH.nil
                exact AllReadyH.nil
              exact AllReadyH.nil
            refine AllReadyH.cons (o := { dst := some 68, op := Op.buildSlice 24 1 #[(0, Operand.tmp 67)], type := 24, pos := "copies.go:43", after := #[{ on := 8, ground := Ground.data }], guard := none }) rfl (fun K hK => ?_) ?_
            · go_simp
              refine hK.out _ _ ?_ (fun hHeld2 => ?_)
              · (try dsimp only); first | with_reducible exact ⟨cBd, y0d, y1d, y2d, y3d⟩ | with_reducible exact S8 | with_reducible exact S9 | with_reducible exact S10 | with_reducible exact S12
              clear hK K
              try simp only [Act.put, List.setIfInBounds_toArray, List.set_cons_zero, List.set_cons_succ]
              refine wpAnyH_ready (rs := [1]) (by kernel_rfl) (by simp) ?_
              refine AllReadyH.cons (o := { dst := some 60, op := Op.load 24 (Operand.tmp 59), type := 24, pos := "copies.go:43", after := #[{ on := 0, ground := Ground.data }], guard := none }) rfl (fun K hK => ?_) ?_
              · go_simp
                refine hK.out _ _ ?_ (fun hHeld2 => ?_)
                · (try dsimp only); first | with_reducible exact ⟨cBd, y0d, y1d, y2d, y3d⟩ | with_reducible exact S8 | with_reducible exact S9 | with_reducible exact S10 | with_reducible exact S12
                clear hK K
                try simp only [Act.put, List.setIfInBounds_toArray, List.set_cons_zero, List.set_cons_succ]
                refine wpAnyH_ready (rs := [10]) (by kernel_rfl) (by simp) ?_
                refine AllReadyH.cons (o := { dst := some 69, op := Op.call { callee := Callee.builtin Builtin.append, args := #[Operand.tmp 60, Operand.tmp 68], argTypes := #[24, 24] }, type := 24, pos := "copies.go:43", after := #[{ on := 1, ground := Ground.data }, { on := 9, ground := Ground.data }, { on := 8, ground := Ground.chain }], guard := none }) rfl (fun K hK => ?_) ?_
                · refine step_append_run rfl (.tmp 60) (.tmp 68) 24 24 rfl rfl rfl HR10.out ?_
                  refine hK.out _ _ ?_ (fun hHeld2 => ?_)
                  · (try dsimp only); first | with_reducible exact ⟨cBd, y0d, y1d, y2d, y3d⟩ | with_reducible exact S8 | with_reducible exact S9 | with_reducible exact S10 | with_reducible exact S12
                  clear hK K
                  try simp only [Act.put, List.setIfInBounds_toArray, List.set_cons_zero, List.set_cons_succ]
                  refine wpAnyH_take (i := 11) (oi := { dst := some 70, op := Op.fieldAddr 26 (Operand.tmp 10) 0, type := 0, pos := "copies.go:43", after := #[{ on := 0, ground := Ground.phase }, { on := 1, ground := Ground.phase }, { on := 2, ground := Ground.phase }, { on := 3, ground := Ground.phase }, { on := 4, ground := Ground.phase }, { on := 5, ground := Ground.phase }, { on := 6, ground := Ground.phase }, { on := 7, ground := Ground.phase }, { on := 8, ground := Ground.phase }, { on := 9, ground := Ground.phase }, { on := 10, ground := Ground.phase }], guard := none }) (v := ?_) rfl (by kernel_rfl) (by kernel_rfl) (by kernel_rfl) (fun _ _ _ h => h) (Or.inl ⟨by rfl, ?_⟩) (by assumption) ?_
                  rotate_left
                  · (intro wz hSw; (try dsimp only at hSw); go_simp; try with_reducible rfl)
                  simp only [Act.put, List.setIfInBounds_toArray, List.set_cons_zero, List.set_cons_succ]
                  refine wpAnyH_ready (rs := [12]) (by kernel_rfl) (by simp) ?_
                  refine AllReadyH.cons (o := { dst := none, op := Op.store 24 (Operand.tmp 70) (Operand.tmp 69), type := 0, pos := "copies.go:43", after := #[{ on := 11, ground := Ground.data }, { on := 10, ground := Ground.data }, { on := 10, ground := Ground.chain }, { on := 0, ground := Ground.phase }, { on := 1, ground := Ground.phase }, { on := 2, ground := Ground.phase }, { on := 3, ground := Ground.phase }, { on := 4, ground := Ground.phase }, { on := 5, ground := Ground.phase }, { on := 6, ground := Ground.phase }, { on := 7, ground := Ground.phase }, { on := 8, ground := Ground.phase }, { on := 9, ground := Ground.phase }, { on := 10, ground := Ground.phase }], guard := none }) rfl (fun K hK => ?_) ?_
                  · go_simp
                    refine hK.out _ _ ?_ (fun hHeld2 => ?_)
                    · (try dsimp only); first | with_reducible exact ⟨cBd, y0d, y1d, y2d, y3d⟩ | with_reducible exact S8 | with_reducible exact S9 | with_reducible exact S10 | with_reducible exact S12
                    clear hK K
                    try simp only [Act.put, List.setIfInBounds_toArray, List.set_cons_zero, List.set_cons_succ]
                    refine wpAnyH_done (by kernel_rfl) ?_ _
                    clear cB y0 y1 y2 y3 cBd y0d y1d y2d y3d r00 r0
                    go_wp2
                    exact HZ.out.elim fun a' h => h.elim fun c' h => h.elim fun cv h => ⟨⟨a', c', h.1, ⟨cv, h.2.1⟩, h.2.2⟩, by simp [intOf]⟩
                  exact AllReadyH.nil
                exact AllReadyH.nil
              exact AllReadyH.nil
            exact AllReadyH.nil
          exact AllReadyH.nil
        · obtain ⟨X1, X2, X3, X4, X5, X6, X7⟩ := HX.out
          have p0 : wr.cell? ⟨P, 0, none⟩ = some (.slice a' 1 c') := (blk_cell bP' 0).trans rfl
          have z0 : wr.cell? ⟨B + 1, 0, none⟩ = some (.slice none 0 0) := (blk_cell bR' 0).trans rfl
          have z1 := blk_free bR' 0
          have HR : Hid (OwnF wr w.heap.size (.slice a' 1 c') [(f, cv)] ∧ wr.heap[B + 1]? = some (.cells #[.slice none 0 0] 26 (0, 0)) ∧ Keeps None w wr ∧ B = w.heap.size) := ⟨oF', bR', kw', X6⟩
          clear bP' oF' bR' kw' X1 X2 X3 X4 X5 X6 X7
          go_wp2
          refine prog_end 4 rfl HR.out.2.1 rfl rfl _ (fun w' hw' => ?_)
          obtain ⟨P1, P2, P3, P4⟩ := HR.out
          refine ⟨_, cv, rfl, ?_, P3.trans hw' (fun i e hi => ?_)⟩
          · refine ⟨hw'.own P1.row (fun q e hq => ?_), fun x hx => (P1.codes x hx).kept hw' (fun q e hq => ?_)⟩
            · subst hq
              have := own_type P1.row e P2
              exact absurd this (by decide)
            · subst hq
              have := own_type (P1.codes x hx) e P2
              exact absurd this (by decide)
          · have e' : i = B + 1 := e
            omega
end Go.Proofs.YtafgkehmmfmloaaDoor
