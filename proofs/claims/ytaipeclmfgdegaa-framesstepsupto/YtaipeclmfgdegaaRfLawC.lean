import Derived.Test.YtaipeclmfgdegaaRfLawB
/-! FramesSteps: the law's own beginRef. -/
namespace Go.Proofs.Ytaipeclmfgdegaa
open Go.RowKit Go.HeapKit Go.IntWalk

theorem rop_set (w1 : World) (g : Nat) (v0 v1 v2 v3 v4 v5 v6 v7 v8 : Value) :
    Keeps (· = g) w1 (((((((((w1.setCell ⟨g, 0, none⟩ v0).setCell ⟨g, 1, none⟩ v1).setCell ⟨g, 2, none⟩ v2).setCell ⟨g, 3, none⟩ v3).setCell ⟨g, 4, none⟩ v4).setCell ⟨g, 5, none⟩ v5).setCell ⟨g, 6, none⟩ v6).setCell ⟨g, 7, none⟩ v7).setCell ⟨g, 8, none⟩ v8) :=
  setsFrom_keeps g [v0, v1, v2, v3, v4, v5, v6, v7, v8] 0 w1
theorem keep6 {S : Nat → Prop} {w w' : World} {B X : Nat} {c0 c1 x0 x1 x2 x3 : Value} (hk : Keeps S w w') (hB : ¬ S B) (hX : ¬ S X)
    (h : w.cell? ⟨B, 0, none⟩ = some c0 ∧ w.cell? ⟨B, 1, none⟩ = some c1 ∧ w.cell? ⟨X, 0, none⟩ = some x0 ∧ w.cell? ⟨X, 1, none⟩ = some x1 ∧ w.cell? ⟨X, 2, none⟩ = some x2 ∧ w.cell? ⟨X, 3, none⟩ = some x3) :
    w'.cell? ⟨B, 0, none⟩ = some c0 ∧ w'.cell? ⟨B, 1, none⟩ = some c1 ∧ w'.cell? ⟨X, 0, none⟩ = some x0 ∧ w'.cell? ⟨X, 1, none⟩ = some x1 ∧ w'.cell? ⟨X, 2, none⟩ = some x2 ∧ w'.cell? ⟨X, 3, none⟩ = some x3 :=
  ⟨hk.cell h.1 hB, hk.cell h.2.1 hB, hk.cell h.2.2.1 hX, hk.cell h.2.2.2.1 hX, hk.cell h.2.2.2.2.1 hX, hk.cell h.2.2.2.2.2 hX⟩
theorem _root_.Go.World.size_alloc8 (w : World) (o : Obj) : (w.alloc o).heap.size = w.heap.size + 1 := by simp
set_option maxHeartbeats 4000000 in
set_option maxRecDepth 100000 in
theorem lref_any (tb tf kd fr sl v xb xf : Int) (od : Bool) (w : World) : Calls Try.prog 22 #[.agg #[.int .i64 tb, .int .i64 tf], .agg #[.int .i64 kd, .int .i64 fr, .int .i64 sl, .int .i64 v, .bool od, .int .i64 xb, .int .i64 xf]] w fun e w' => e = .returned (ROp.beg (kd % 6) (if od then xb else tb) (if od then xf else tf) fr sl v).value ∧ Keeps None w w' := by
  have hm := mod8_any kd 6 (by omega) (by omega)
  rw [show kd % ((6 : Nat) : Int) = kd % 6 from rfl] at hm
  generalize kd % 6 = K at hm ⊢
  obtain ⟨b, hb⟩ : ∃ b, b = (if od then xb else tb) := ⟨_, rfl⟩
  obtain ⟨f, hf⟩ : ∃ f, f = (if od then xf else tf) := ⟨_, rfl⟩
  rw [← hb, ← hf]
  have hn := rbegin_any K b f fr sl v
  generalize ROp.beg K b f fr sl v = R at hn ⊢
  obtain ⟨r0, r1, r2, r3, r4, r5, r6, r7, r8⟩ := R
  simp only [ROp.value, ROp.vals] at hn ⊢
  obtain ⟨W3, hW3⟩ : ∃ W3, W3 = ((w.alloc (.cells #[.int .i64 b, .int .i64 f] 36)).alloc (.cells #[.int .i64 kd, .int .i64 fr, .int .i64 sl, .int .i64 v, .bool od, .int .i64 xb, .int .i64 xf] 66)).alloc (.cells #[.int .i64 0, .int .i64 0, .int .i64 0, .int .i64 0, .int .i64 0, .int .i64 0, .int .i64 0, .int .i64 0, .int .i64 0] 68) := ⟨_, rfl⟩
  have hres := three_last w (.cells #[.int .i64 b, .int .i64 f] 36) (.cells #[.int .i64 kd, .int .i64 fr, .int .i64 sl, .int .i64 v, .bool od, .int .i64 xb, .int .i64 xf] 66) (.cells #[.int .i64 0, .int .i64 0, .int .i64 0, .int .i64 0, .int .i64 0, .int .i64 0, .int .i64 0, .int .i64 0, .int .i64 0] 68)
  have hx := three_at w (.cells #[.int .i64 b, .int .i64 f] 36) (.cells #[.int .i64 kd, .int .i64 fr, .int .i64 sl, .int .i64 v, .bool od, .int .i64 xb, .int .i64 xf] 66) (.cells #[.int .i64 0, .int .i64 0, .int .i64 0, .int .i64 0, .int .i64 0, .int .i64 0, .int .i64 0, .int .i64 0, .int .i64 0] 68)
  have ht : W3.heap[w.heap.size]? = some (.cells #[.int .i64 b, .int .i64 f] 36 (0, 0)) := by rw [hW3]; exact (Below.heap_alloc _ _ _ (by simp only [World.size_alloc8]; omega)).trans (two_at w _ _).1
  have hK : Keeps None w W3 := by rw [hW3]; exact (((Keeps.refl None w).andAlloc _).andAlloc _).andAlloc _
  rw [← hW3] at hres hx
  have hS : W3.cell? ⟨w.heap.size, 0, none⟩ = some (.int .i64 b) ∧ W3.cell? ⟨w.heap.size, 1, none⟩ = some (.int .i64 f) ∧ W3.cell? ⟨w.heap.size + 1, 0, none⟩ = some (.int .i64 kd) ∧ W3.cell? ⟨w.heap.size + 1, 1, none⟩ = some (.int .i64 fr) ∧ W3.cell? ⟨w.heap.size + 1, 2, none⟩ = some (.int .i64 sl) ∧ W3.cell? ⟨w.heap.size + 1, 3, none⟩ = some (.int .i64 v) :=
    ⟨cell_of_block ht 0, cell_of_block ht 1, cell_of_block hx 0, cell_of_block hx 1, cell_of_block hx 2, cell_of_block hx 3⟩
  have hlt : w.heap.size + 1 + 1 < W3.heap.size := (Array.getElem?_eq_some_iff.1 hres).1
  have HW : Hid _ := And.intro hW3 (And.intro hb hf)
  have HK : Hid _ := And.intro hK (And.intro hres hS)
  clear hW3 hb hf hK hres hx ht hS
  obtain ⟨gB, hgB⟩ : ∃ g, g = w.heap.size := ⟨_, rfl⟩
  go_enter Try.func22, Try.ntmps22
  go_upto_if 6 with fail
  go_cut [6] (fun s6 wx => wx = W3)
  case first =>
    clear hm hn
    cases od with
    | true =>
      go_wp2_with fail
      go_meet
      obtain ⟨h1, h2, h3⟩ := HW.out
      rw [h1, h2, h3]
      rfl
    | false =>
      go_wp2_with fail
      go_meet
      obtain ⟨h1, h2, h3⟩ := HW.out
      rw [h1, h2, h3]
      rfl
  case rest =>
    have hwc := hcut
    subst hwc
    obtain ⟨y0, y1, y2, y3, y4, y5⟩ := HK.out.2.2
    have HN : Hid _ := hn
    clear HW
    have n1 : ¬ w.heap.size + 1 + 1 = w.heap.size := by omega
    have n2 : ¬ w.heap.size + 1 + 1 = w.heap.size + 1 := by omega
    have n3 : ¬ w.heap.size = w.heap.size + 1 + 1 := by omega
    have n4 : ¬ w.heap.size + 1 = w.heap.size + 1 + 1 := by omega
    go_upto_region 3 with fail
    go_region_held3 (fun w' => w'.cell? ⟨w.heap.size, 0, none⟩ = some (.int .i64 b) ∧ w'.cell? ⟨w.heap.size, 1, none⟩ = some (.int .i64 f) ∧ w'.cell? ⟨w.heap.size + 1, 0, none⟩ = some (.int .i64 kd) ∧ w'.cell? ⟨w.heap.size + 1, 1, none⟩ = some (.int .i64 fr) ∧ w'.cell? ⟨w.heap.size + 1, 2, none⟩ = some (.int .i64 sl) ∧ w'.cell? ⟨w.heap.size + 1, 3, none⟩ = some (.int .i64 v))
      (first | with_reducible exact hS7 | with_reducible exact hS5 | go_keep)
      (first
        | (go_at_call 18; refine (hm _).mono ?_; rintro e w' ⟨rfl, hw⟩; have hw2 := hw.symm; subst hw2; clear hw)
        | (go_at_call 41; refine (HN.out _).mono ?_; rintro e w5 ⟨rfl, hk5⟩; have hS5 := keep6 hk5 (fun f => f) (fun f => f) (keep6 (Keeps.drew None wc) (fun f => f) (fun f => f) HK.out.2.2); have hr5 := (hk5.block (w.heap.size + 1 + 1) hlt (fun f => f)).trans (((Keeps.drew None wc).block (w.heap.size + 1 + 1) hlt (fun f => f)).trans HK.out.2.1); obtain ⟨z0, z1, z2, z3, z4, z5, z6, z7, z8⟩ := cells9 hr5; obtain ⟨f0, f1, f2, f3, f4, f5, f6, f7, f8⟩ := free9 hr5; have hS7 := keep6 (rop_set w5 (w.heap.size + 1 + 1) (.int .i64 r0) (.int .i64 r1) (.int .i64 r2) (.int .i64 r3) (.int .i64 r4) (.int .i64 r5) (.int .i64 r6) (.int .i64 r7) (.int .i64 r8)) n3 n4 hS5))
    all_goals go_wp2_with fail
    all_goals exact rop_end 4 rfl rfl hr5 rfl rfl _ _ _ _ _ _ _ _ _ (fun w' hk => ⟨rfl, ((HK.out.1.trans (Keeps.drew None wc) (fun _ f _ => f)).trans hk5 (fun _ f _ => f)).trans hk (fun i e hi => by omega)⟩)
end Go.Proofs.Ytaipeclmfgdegaa
