import Derived.Test.YtlbkfehakomicaaDoorPkBD
import Derived.Test.YtlbkfehakomicaaDoorPkBH
/-! DagSpans: the walk. -/
namespace Go.Proofs.YtlbkfehakomicaaDoor
set_option linter.unusedVariables false
set_option maxRecDepth 20000
open Go.RowKit Go.HeapKit Go.PlainOps

set_option maxHeartbeats 4000000 in
theorem spans_walk (a : Option Addr) (n c : Nat) (l : List Fn) (aa : Option Addr) (an ac : Nat) (zs : List Int) (fuel pr : Int) (w : World) (hT : Tabs w) (hS : SeenF w a n l) (hok : ∀ f ∈ l, f.Ok) (hZ : SeenA w aa an zs) (hfu : okI fuel) (hpr : okI pr) :
    Calls Tryd.prog 3 #[.agg #[.slice a n c], .slice aa an ac, .int .i64 fuel, .int .i64 pr] w fun e w' => e = .returned (.bool true) ∧ Keeps None w w' := by
  obtain ⟨B, hB⟩ : ∃ B, B = w.heap.size := ⟨_, rfl⟩
  have k0 := Keeps.alloc None w (.cells #[.slice a n c] 24)
  have n0 := heap_alloc_new w (.cells #[.slice a n c] 24)
  obtain ⟨W, hW⟩ : ∃ W, W = w.alloc (.cells #[.slice a n c] 24) := ⟨_, rfl⟩
  rw [← hW] at k0 n0
  rw [← hB] at n0
  have hso := sound_any W (hT.more k0)
  have H0 : Hid (Tabs W ∧ SeenF W a n l ∧ SeenA W aa an zs ∧ (∀ f ∈ l, f.Ok) ∧ okI fuel ∧ okI pr ∧ Keeps None w W ∧ W.heap[B]? = some (.cells #[.slice a n c] 24 (0, 0))) := ⟨hT.more k0, hS.more k0, hZ.more k0, hok, hfu, hpr, k0, n0⟩
  clear hT hS hok hZ hfu hpr k0 n0
  go_enter Tryd.func3, Tryd.ntmps3
  go_upto_region 1 with fail
  rw [← hW, ← hB]
  clear hW hB
  go_upto_region 3 with (go_at_call 4; refine hso.mono ?_; rintro _ w1 ⟨rfl, k1⟩)
  have H1 : Hid (Tabs w1 ∧ SeenF w1 a n l ∧ SeenA w1 aa an zs ∧ Keeps None w w1 ∧ w1.heap[B]? = some (.cells #[.slice a n c] 24 (0, 0))) := ⟨H0.out.1.more k1, H0.out.2.1.more k1, H0.out.2.2.1.more k1, H0.out.2.2.2.2.2.2.1.trans k1 (fun _ f _ => f), blk_kept H0.out.2.2.2.2.2.2.2 k1 (fun f => f)⟩
  have p1 : w1.cell? ⟨B, 0, none⟩ = some (.slice a n c) := (blk_cell H1.out.2.2.2.2 0).trans rfl
  have hev := eval_any a n c l aa an ac zs fuel w1 H1.out.1 H1.out.2.1 H0.out.2.2.2.1 H1.out.2.2.1 H1.out.2.2.1.most H0.out.2.2.2.2.1
  obtain ⟨V, hV⟩ : ∃ V, V = (evalV l zs fuel).1 := ⟨_, rfl⟩
  obtain ⟨E, hE⟩ : ∃ E, E = (evalV l zs fuel).2 := ⟨_, rfl⟩
  rw [← hV, ← hE] at hev
  have HV : Hid (V = (evalV l zs fuel).1 ∧ E = (evalV l zs fuel).2) := ⟨hV, hE⟩
  unfold valC at hev
  clear hV hE k1 hso
  go_upto_region 4 with (go_at_call 5; refine hev.mono ?_; rintro _ w2 ⟨rfl, k2⟩)
  have k3 := Keeps.alloc None w2 (.cells #[.int .i64 V.v, .int .i64 V.work, .int .i64 V.tasks, .int .i64 V.depth, .int .i64 V.span] 28)
  have n3 := heap_alloc_new w2 (.cells #[.int .i64 V.v, .int .i64 V.work, .int .i64 V.tasks, .int .i64 V.depth, .int .i64 V.span] 28)
  obtain ⟨W3, hW3⟩ : ∃ W3, W3 = w2.alloc (.cells #[.int .i64 V.v, .int .i64 V.work, .int .i64 V.tasks, .int .i64 V.depth, .int .i64 V.span] 28) := ⟨_, rfl⟩
  obtain ⟨X, hX⟩ : ∃ X, X = w2.heap.size := ⟨_, rfl⟩
  rw [← hW3, ← hX]
  rw [← hW3] at k3 n3
  rw [← hX] at n3
  clear hW3 hX
  have k4 : Keeps None w1 W3 := k2.trans k3 (fun _ f _ => f)
  have hof := of_any a n c l aa an ac zs fuel W3 (H1.out.1.more k4) (H1.out.2.1.more k4) H0.out.2.2.2.1 (H1.out.2.2.1.more k4) H1.out.2.2.1.ok H1.out.2.2.1.most H0.out.2.2.2.2.1
  unfold OfPost at hof
  rw [← HV.out.1, ← HV.out.2] at hof
  have H3 : Hid (Keeps None w W3 ∧ W3.heap[X]? = some (.cells #[.int .i64 V.v, .int .i64 V.work, .int .i64 V.tasks, .int .i64 V.depth, .int .i64 V.span] 28 (0, 0))) := ⟨H1.out.2.2.2.1.trans k4 (fun _ f _ => f), n3⟩
  have p3 : W3.cell? ⟨B, 0, none⟩ = some (.slice a n c) := k4.cell p1 (fun f => f)
  clear k2 k3 k4 n3 p1 hev H1
  by_cases hE0 : E = 0
  · subst hE0
    by_cases hw4 : 4096 < V.work
    · have hof2 : Calls Tryd.prog 6 #[.agg #[.slice a n c], .slice aa an ac, .int .i64 fuel] W3 fun e w' => e = .returned (.tuple #[.agg #[.int .i64 0, .slice none 0 0], .int .i64 70]) ∧ Keeps None W3 w' := by
        refine hof.mono ?_
        rintro e w4 ⟨k4, h⟩
        rcases h with ⟨h, _⟩ | ⟨_, _, h⟩ | ⟨_, h, _⟩
        · exact absurd rfl h
        · exact ⟨h, k4⟩
        · omega
      clear hof
      go_upto_region 5 with (go_at_call 6; refine hof2.mono ?_; rintro _ w4 ⟨rfl, k4⟩)
      have k5 := Keeps.alloc None w4 (.cells #[.int .i64 0, .slice none 0 0] 34)
      generalize w4.alloc (.cells #[.int .i64 0, .slice none 0 0] 34) = W5 at k5 ⊢
      have k6 : Keeps None W3 W5 := k4.trans k5 (fun _ f _ => f)
      have v1 : W5.cell? ⟨X, 1, none⟩ = some (.int .i64 V.work) := (blk_cell (blk_kept H3.out.2 k6 (fun f => f)) 1).trans rfl
      have H5 : Hid (Keeps None w W5) := H3.out.1.trans k6 (fun _ f _ => f)
      clear k4 k5 k6 hof2 p3
      go_wp2_with fail
      go_ret
      exact ⟨rfl, H5.out⟩
    · have hof2 : Calls Tryd.prog 6 #[.agg #[.slice a n c], .slice aa an ac, .int .i64 fuel] W3 fun e w' => Keeps None W3 w' ∧ ∃ T DD ra rc, e = .returned (.tuple #[.agg #[.int .i64 (T.n : Int), .slice ra T.es.length rc], .int .i64 0]) ∧ w'.ownsRow W3.heap.size 70 2 (.slice ra T.es.length rc) T.es.length (edV T.es) ∧ OfOk V T DD := by
        refine hof.mono ?_
        rintro e w4 ⟨k4, h⟩
        rcases h with ⟨h, _⟩ | ⟨_, h, _⟩ | ⟨_, _, h⟩
        · exact absurd rfl h
        · omega
        · exact ⟨k4, h⟩
      clear hof
      go_upto_region 5 with (go_at_call 6; refine hof2.mono ?_; rintro _ w4 ⟨k4, T, DD, ra, rc, rfl, hrow, hok⟩)
      have k5 := Keeps.alloc None w4 (.cells #[.int .i64 (T.n : Int), .slice ra T.es.length rc] 34)
      have n5 := heap_alloc_new w4 (.cells #[.int .i64 (T.n : Int), .slice ra T.es.length rc] 34)
      obtain ⟨D, hD⟩ : ∃ D, D = w4.heap.size := ⟨_, rfl⟩
      rw [← hD] at n5 ⊢
      clear hD
      generalize w4.alloc (.cells #[.int .i64 (T.n : Int), .slice ra T.es.length rc] 34) = W5 at k5 n5 ⊢
      have k6 : Keeps None W3 W5 := k4.trans k5 (fun _ f _ => f)
      have hse := (OfOk.seen hrow).more k5
      have hdag := hok.dag
      have hspan := hok.span
      have hin : ∀ k : Nat, k < T.n → 0 < k → ∃ e ∈ T.es.map edOf, e.t = (k : Int) := fun k h1 h2 => by
        obtain ⟨x, hx, e⟩ := hok.ins k h1 h2
        exact ⟨edOf x, List.mem_map.2 ⟨x, hx, rfl⟩, by show ((x.2 : Nat) : Int) = _; rw [e]⟩
      have hou : ∀ k : Nat, k + 1 < T.n → ∃ e ∈ T.es.map edOf, e.f = (k : Int) := fun k h1 => by
        obtain ⟨x, hx, e⟩ := hok.outs k h1
        exact ⟨edOf x, List.mem_map.2 ⟨x, hx, rfl⟩, by show ((x.1 : Nat) : Int) = _; rw [e]⟩
      obtain ⟨L, hL⟩ : ∃ L, L = T.es.map edOf := ⟨_, rfl⟩
      obtain ⟨N, hN⟩ : ∃ N, N = T.n := ⟨_, rfl⟩
      obtain ⟨m, hm⟩ : ∃ m, m = T.es.length := ⟨_, rfl⟩
      have hN4 : N ≤ 4096 := by rw [hN]; exact hok.n4
      have hm4 : m ≤ 16384 := by rw [hm]; exact hok.e4
      have hwk : V.work = (N : Int) := by rw [hN]; exact hok.n.symm
      have hes : (m : Int) + 2 = (N : Int) + V.tasks := by have := hok.es; rw [hm, ← hwk]; exact this
      have hmL : m = L.length := by rw [hm, hL, List.length_map]
      rw [← hL, ← hN] at hdag hspan
      rw [← hL, ← hN] at hin hou
      rw [← hL, ← hm] at hse
      rw [← hN, ← hm] at n5 ⊢
      have HL : Hid (Dg.SeenE W5 ra m L ∧ Dg.Dag (N : Int) L ∧ Dg.spanV (N : Int) L = V.span ∧ (∀ k : Nat, k < N → 0 < k → ∃ e ∈ L, e.t = (k : Int)) ∧ (∀ k : Nat, k + 1 < N → ∃ e ∈ L, e.f = (k : Int)) ∧ W5.heap[D]? = some (.cells #[.int .i64 (N : Int), .slice ra m rc] 34 (0, 0)) ∧ Keeps None w W5 ∧ okI pr) := ⟨hse, hdag, hspan, hin, hou, n5, H3.out.1.trans k6 (fun _ f _ => f), H0.out.2.2.2.2.2.1⟩
      have hX := blk_kept H3.out.2 k6 (fun f => f)
      rw [hwk] at hX
      have HX : Hid (W5.heap[X]? = some (.cells #[.int .i64 V.v, .int .i64 (N : Int), .int .i64 V.tasks, .int .i64 V.depth, .int .i64 V.span] 28 (0, 0))) := hX
      have v1 : W5.cell? ⟨X, 1, none⟩ = some (.int .i64 (N : Int)) := (blk_cell hX 1).trans rfl
      have v2 : W5.cell? ⟨X, 2, none⟩ = some (.int .i64 V.tasks) := (blk_cell hX 2).trans rfl
      have d0 : W5.cell? ⟨D, 0, none⟩ = some (.int .i64 (N : Int)) := (blk_cell n5 0).trans rfl
      have d1 : W5.cell? ⟨D, 1, none⟩ = some (.slice ra m rc) := (blk_cell n5 1).trans rfl
      have hen := Dg.lends_any N ra m rc L W5 hse hdag hin hou
      unfold Dg.dagV at hen
      clear k4 k5 k6 hof2 p3 hrow hok hse hdag hspan hin hou hL hN hm n5 hX hw4 hmL
      obtain ⟨TK, hTK⟩ : ∃ TK, TK = V.tasks := ⟨_, rfl⟩
      rw [← hTK] at v2 hes
      clear hTK
      go_upto_region 11 with (go_at_call 7; refine hen.mono ?_; rintro _ w6 ⟨rfl, k6⟩)
      have H6 : Hid (Dg.SeenE w6 ra m L ∧ w6.heap[D]? = some (.cells #[.int .i64 (N : Int), .slice ra m rc] 34 (0, 0)) ∧ w6.heap[X]? = some (.cells #[.int .i64 V.v, .int .i64 (N : Int), .int .i64 V.tasks, .int .i64 V.depth, .int .i64 V.span] 28 (0, 0)) ∧ Keeps None w w6) := ⟨HL.out.1.more k6, blk_kept HL.out.2.2.2.2.2.1 k6 (fun f => f), blk_kept HX.out k6 (fun f => f), HL.out.2.2.2.2.2.2.1.trans k6 (fun _ f _ => f)⟩
      clear k6 hen d0 d1 v1 v2 hes
      have hmo := Dg.mod_any pr 64 w6 HL.out.2.2.2.2.2.2.2 (by omega) (by omega)
      have hM := Dg.modN_lt pr (n := 64) (by omega)
      obtain ⟨M, hMe⟩ : ∃ M, M = Dg.modN pr 64 := ⟨_, rfl⟩
      rw [← hMe] at hM hmo
      clear hMe
      go_upto_region 12 with (go_at_call 8; refine hmo.mono ?_; rintro _ wz ⟨rfl, hwz⟩; have hw2 := hwz.symm; subst hw2; clear hwz)
      obtain ⟨P, hPe⟩ : ∃ P, P = M + 1 := ⟨_, rfl⟩
      have hPI : (1 : Int) + (M : Int) = (P : Int) := by omega
      have hP1 : 1 ≤ P := by omega
      have hP2 : P ≤ 64 := by omega
      rw [hPI]
      clear hPI hPe hmo
      have d0 : w6.cell? ⟨D, 0, none⟩ = some (.int .i64 (N : Int)) := (blk_cell H6.out.2.1 0).trans rfl
      have d1 : w6.cell? ⟨D, 1, none⟩ = some (.slice ra m rc) := (blk_cell H6.out.2.1 1).trans rfl
      have hsp := Dg.span_any (N : Int) ra m rc L w6 H6.out.1 (by omega)
      rw [HL.out.2.2.1, Dg.dag_check HL.out.2.1] at hsp
      unfold Dg.dagV at hsp
      go_upto_region 13 with (go_at_call 9; refine hsp.mono ?_; rintro _ w7 ⟨rfl, k7⟩)
      have H7 : Hid (Dg.SeenE w7 ra m L ∧ w7.heap[X]? = some (.cells #[.int .i64 V.v, .int .i64 (N : Int), .int .i64 V.tasks, .int .i64 V.depth, .int .i64 V.span] 28 (0, 0)) ∧ Keeps None w w7) := ⟨H6.out.1.more k7, blk_kept H6.out.2.2.1 k7 (fun f => f), H6.out.2.2.2.trans k7 (fun _ f _ => f)⟩
      have e0 : w7.cell? ⟨D, 0, none⟩ = some (.int .i64 (N : Int)) := k7.cell d0 (fun f => f)
      have e1 : w7.cell? ⟨D, 1, none⟩ = some (.slice ra m rc) := k7.cell d1 (fun f => f)
      clear d0 d1 k7 hsp H6
      have hgr := Dg.gre_any (N : Int) ra m rc L (P : Int) w7 H7.out.1 (by omega)
      rw [Dg.greE_ok HL.out.2.1 hP1 hP2, Dg.gre_ok (Dg.greE_ok HL.out.2.1 hP1 hP2)] at hgr
      unfold Dg.dagV at hgr
      obtain ⟨tz, htz⟩ : ∃ tz, tz = (List.range N).map (Dg.timesV N P L) := ⟨_, rfl⟩
      have hzl : tz.length = N := by rw [htz]; simp
      rw [← htz, hzl] at hgr
      have hgr2 : Calls Tryd.prog 10 #[.agg #[.int .i64 (N : Int), .slice ra m rc], .int .i64 (P : Int)] w7 fun e w' => ∃ va vc, e = .returned (.tuple #[.slice va N vc, .int .i64 0]) ∧ Dg.SeenZ w' va N tz ∧ Keeps None w7 w' := by
        refine hgr.mono ?_
        rintro _ w8 ⟨v, rfl, hr, k8⟩
        obtain ⟨va, vc, rfl⟩ := Dg.row_shape hr
        refine ⟨va, vc, rfl, Dg.row_seenZ hr (fun x hx => ?_), k8⟩
        rw [htz, List.mem_map] at hx
        obtain ⟨i, hi, rfl⟩ := hx
        have := Dg.times_one HL.out.2.1 hP1 i (List.mem_range.1 hi)
        unfold Dg.okI
        omega
      clear hgr
      go_upto_region 14 with (go_at_call 10; refine hgr2.mono ?_; rintro _ w8 ⟨va, vc, rfl, hsz, k8⟩)
      have hX8 := blk_kept H7.out.2.1 k8 (fun f => f)
      have H8 : Hid (Dg.SeenZ w8 va N tz ∧ Keeps None w w8) := ⟨hsz, H7.out.2.2.trans k8 (fun _ f _ => f)⟩
      have v1 : w8.cell? ⟨X, 1, none⟩ = some (.int .i64 (N : Int)) := (blk_cell hX8 1).trans rfl
      have v4 : w8.cell? ⟨X, 4, none⟩ = some (.int .i64 V.span) := (blk_cell hX8 4).trans rfl
      clear hX8 e0 e1 hsz k8 hgr2 H7
      obtain ⟨t, htt⟩ : ∃ t : Nat, Dg.grt tz = t := Int.eq_ofNat_of_zero_le (Dg.grt_ge tz).1
      obtain ⟨S, hSS⟩ : ∃ S : Nat, Dg.spanV N L = S := Int.eq_ofNat_of_zero_le (Dg.crit_len N L).1
      have hS4 : S ≤ 4096 := by have := (Dg.crit_len N L).2; unfold Dg.spanV at hSS; omega
      have hpl := Dg.graham_bounds HL.out.2.1 hP1 tz htz t S htt hSS
      have ht4 : t ≤ 4096 := by have := hpl.2.2.2; omega
      have hVs : V.span = (S : Int) := by rw [← HL.out.2.2.1]; exact hSS
      rw [hVs] at v4 ⊢
      have hlen : ∀ wz, Keeps None w8 wz → Calls Tryd.prog 12 #[.slice va N vc] wz fun e w' => e = .returned (.int .i64 (t : Int)) ∧ Keeps None wz w' := fun wz hk => by
        have h := Dg.length_any va N vc tz wz (H8.out.1.more hk) (by omega)
        rw [htt] at h
        exact h
      have HLN : Hid _ := hlen
      have hbo : ∀ w9, Calls Tryd.prog 11 #[.int .i64 (N : Int), .int .i64 (S : Int), .int .i64 (P : Int), .int .i64 (t : Int)] w9 fun e w' => e = .returned (.bool true) ∧ w' = w9 := fun w9 => Dg.bounds_any (N : Int) S P t w9 (by omega) (by omega) (by omega) (by omega) (by have := hpl.1; omega) (by
        have h1 := hpl.2.1
        rw [← Int.natCast_mul]
        omega) (by
        have h1 := hpl.2.2.1
        have e : (P : Int) - 1 = ((P - 1 : Nat) : Int) := by omega
        rw [e, ← Int.natCast_mul, ← Int.natCast_mul]
        omega)
      have HBO : Hid _ := hbo
      clear hbo hpl htt hSS htz hzl hVs hlen
      go_upto_region 16 with fail
      have x1 := (Keeps.drew None w8).cell v1 (fun f => f)
      have x4 := (Keeps.drew None w8).cell v4 (fun f => f)
      go_region_held3 (fun w' => w'.cell? ⟨X, 1, none⟩ = some (.int .i64 (N : Int)) ∧ w'.cell? ⟨X, 4, none⟩ = some (.int .i64 (S : Int))) (first | exact ⟨u1, u4⟩ | go_keep) (first
        | (go_at_call 12; refine (HLN.out _ (Keeps.drew None w8)).mono ?_; rintro _ w9 ⟨rfl, k9⟩; have u1 := k9.cell x1 (fun f => f); have u4 := k9.cell x4 (fun f => f); have HK9 : Hid (Keeps None w8.drew w9) := k9; clear k9)
        | (go_at_call 11; refine (HBO.out _).mono ?_; rintro _ wb ⟨rfl, hw⟩; have hw2 := hw.symm; subst hw2; clear hw))
      all_goals go_wp2_with fail
      all_goals go_ret
      all_goals exact ⟨rfl, (H8.out.2.andDrew).trans HK9.out (fun _ f _ => f)⟩
  · have hof2 : Calls Tryd.prog 6 #[.agg #[.slice a n c], .slice aa an ac, .int .i64 fuel] W3 fun e w' => e = .returned (.tuple #[.agg #[.int .i64 0, .slice none 0 0], .int .i64 E]) ∧ Keeps None W3 w' := by
      refine hof.mono ?_
      rintro e w4 ⟨k4, h⟩
      rcases h with ⟨_, h⟩ | ⟨h, _⟩ | ⟨h, _⟩
      · exact ⟨h, k4⟩
      · exact absurd h hE0
      · exact absurd h hE0
    clear hof
    go_wp2_with (go_at_call 6; refine hof2.mono ?_; rintro _ w4 ⟨rfl, k4⟩; have HK4 : Hid (Keeps None w w4) := H3.out.1.trans k4 (fun _ f _ => f); clear k4)
    go_ret
    exact ⟨rfl, HK4.out.trans (Keeps.alloc None _ _) (fun _ f _ => f)⟩
end Go.Proofs.YtlbkfehakomicaaDoor
