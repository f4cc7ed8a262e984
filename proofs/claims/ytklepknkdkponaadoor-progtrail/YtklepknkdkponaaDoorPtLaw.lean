import Derived.Test.YtklepknkdkponaaDoorPtPlaced
import Derived.Test.YtklepknkdkponaaDoorPwSame
/-! ProgTrail. -/
namespace Go.Proofs.YtklepknkdkponaaDoor
set_option linter.unusedVariables false
set_option maxRecDepth 20000
open Go.RowKit Go.HeapKit

theorem eqIns' (a b c d e : Int) (w : World) : (binOp .eql 47 (.agg #[.int .i64 a, .int .i64 b, .int .i64 c, .int .i64 d, .int .i64 e]) (.agg #[.int .i64 a, .int .i64 b, .int .i64 c, .int .i64 d, .int .i64 e])).run Tryd.prog w = .ok (.bool true) w := by
  have u3 := Tryd.underlying3
  have a3 := Tryd.isAgg3
  have z3 := Tryd.sizeOf3
  have u2 := Tryd.underlying2
  have a2 := Tryd.isAgg2
  have z2 := Tryd.sizeOf2
  have hS : Tryd.prog.underlying 47 = some (.struct (Tryd.prog.fieldsOf 47)) := by kernel_rfl
  have hp : Tryd.prog.stoodInHeld 47 = false := by kernel_rfl
  rw [run_eql_struct, show (10000 : Nat) = 9999 + 1 from rfl, run_equalIn_agg w 9999 47 _ _ hS hp]
  simp only [Program.fieldsOf, Tryd.underlying47]
  go_simp
theorem odd_at0 (l : List Ins) (n : Nat) (hn : n = l.length) : (oddL l)[n]? = some (oddI 0) := by subst hn; simp [oddL]
theorem odd_at1 (l : List Ins) (n : Nat) (hn : n = l.length) : (oddL l)[n + 1]? = some (oddI 1) := by subst hn; simp [oddL]
set_option maxRecDepth 20000 in
set_option maxHeartbeats 4000000 in
theorem progTrail_walk (f : Fn) (ca : Option Addr) (n cc : Nat) (t s q : Int) (w : World) (hT : Tabs w) (hn : n = f.code.length) (hC : SeenI w ca n f.code) (hok : ∀ i ∈ f.code, i.Ok) (hr : n * 40 ≤ 140737488351232) (_ht : okI t) (_hs : okI s) (_hq : okI q) :
    Calls Tryd.prog 5 #[.agg #[.int .i64 f.params, .int .i64 f.regs, .int .i64 f.slots, .slice ca n cc], .int .i64 t, .int .i64 s, .int .i64 q] w fun e w' => e = .returned (.bool true) ∧ Keeps None w w' := by
  have b1 := heap_alloc_new w (.cells #[.int .i64 f.params, .int .i64 f.regs, .int .i64 f.slots, .slice ca n cc] 36)
  have k1 := Keeps.alloc None w (.cells #[.int .i64 f.params, .int .i64 f.regs, .int .i64 f.slots, .slice ca n cc] 36)
  obtain ⟨B, hB⟩ : ∃ B, B = w.heap.size := ⟨_, rfl⟩
  obtain ⟨w3, hw1⟩ : ∃ w3, w3 = w.alloc (.cells #[.int .i64 f.params, .int .i64 f.regs, .int .i64 f.slots, .slice ca n cc] 36) := ⟨_, rfl⟩
  rw [← hw1] at b1 k1
  rw [← hB] at b1
  have HC : Hid (Tabs w ∧ SeenI w ca n f.code ∧ (∀ i ∈ f.code, i.Ok) ∧ n = f.code.length) := ⟨hT, hC, hok, hn⟩
  have H3 : Hid (Keeps None w w3 ∧ w3.heap[B]? = some (.cells #[.int .i64 f.params, .int .i64 f.regs, .int .i64 f.slots, .slice ca n cc] 36 (0, 0))) := ⟨k1, b1⟩
  have hsp := spare_any f ca cc w3 (by rw [← hn]; exact hC.more k1) (by rw [← hn]; exact hr) n hn
  have d0 : w3.cell? ⟨B, 0, none⟩ = some (.int .i64 f.params) := (cell_of_heap b1 0).trans rfl
  have d1 : w3.cell? ⟨B, 1, none⟩ = some (.int .i64 f.regs) := (cell_of_heap b1 1).trans rfl
  have d2 : w3.cell? ⟨B, 2, none⟩ = some (.int .i64 f.slots) := (cell_of_heap b1 2).trans rfl
  have d3 : w3.cell? ⟨B, 3, none⟩ = some (.slice ca n cc) := (cell_of_heap b1 3).trans rfl
  clear hT hC hok hn b1 k1 _ht _hs _hq
  go_enter Tryd.func5, Tryd.ntmps5
  go_upto_region 1 with fail
  rw [← hw1, ← hB]
  clear hw1 hB
  go_wp2_with fail
  refine hsp.mono ?_
  rintro e w4 ⟨G, rfl, hI4, hk4, -⟩
  clear d0 d1 d2 d3 hsp
  have k5 := Keeps.alloc None w4 (.cells #[.int .i64 f.params, .int .i64 f.regs, .int .i64 f.slots, .slice (some ⟨G, 0, none⟩) n (n + 2)] 36)
  have b5 := heap_alloc_new w4 (.cells #[.int .i64 f.params, .int .i64 f.regs, .int .i64 f.slots, .slice (some ⟨G, 0, none⟩) n (n + 2)] 36)
  obtain ⟨D, hD⟩ : ∃ D, D = w4.heap.size := ⟨_, rfl⟩
  obtain ⟨w5, hw5⟩ : ∃ w5, w5 = w4.alloc (.cells #[.int .i64 f.params, .int .i64 f.regs, .int .i64 f.slots, .slice (some ⟨G, 0, none⟩) n (n + 2)] 36) := ⟨_, rfl⟩
  rw [← hw5] at k5 b5
  rw [← hD] at b5
  have k35 := hk4.trans k5 (fun _ f _ => f)
  have hI5 := hI4.kept k5 (fun f => f)
  have k05 := H3.out.1.trans k35 (fun _ f _ => f)
  have hfl := trail_at f (some ⟨G, 0, none⟩) (n + 2) t s q w5 (HC.out.1.more k05) (hI5.seen rfl (fun k i hi => odd_first _ k i hi)) HC.out.2.2.1
  unfold fnV at hfl
  rw [← HC.out.2.2.2] at hfl
  have H5 : Hid (IsC w5 G (oddL f.code) ∧ Keeps None w w5 ∧ w5.heap[D]? = some (.cells #[.int .i64 f.params, .int .i64 f.regs, .int .i64 f.slots, .slice (some ⟨G, 0, none⟩) n (n + 2)] 36 (0, 0)) ∧ w5.heap[B]? = some (.cells #[.int .i64 f.params, .int .i64 f.regs, .int .i64 f.slots, .slice ca n cc] 36 (0, 0))) := ⟨hI5, k05, b5, blk_kept H3.out.2 k35 (fun f => f)⟩
  clear k5 b5 k35 hI5 k05 hI4 hk4
  go_upto_region 2 with fail
  rw [← hw5, ← hD]
  clear hw5 hD
  have d0 : w5.cell? ⟨D, 0, none⟩ = some (.int .i64 f.params) := (cell_of_heap H5.out.2.2.1 0).trans rfl
  have d1 : w5.cell? ⟨D, 1, none⟩ = some (.int .i64 f.regs) := (cell_of_heap H5.out.2.2.1 1).trans rfl
  have d2 : w5.cell? ⟨D, 2, none⟩ = some (.int .i64 f.slots) := (cell_of_heap H5.out.2.2.1 2).trans rfl
  have d3 : w5.cell? ⟨D, 3, none⟩ = some (.slice (some ⟨G, 0, none⟩) n (n + 2)) := (cell_of_heap H5.out.2.2.1 3).trans rfl
  go_wp2_with fail
  refine hfl.mono ?_
  rintro _ W ⟨y1, N, c1, er, rfl, hA1, k5⟩
  clear d0 d1 d2 d3 hfl
  have k0 := H5.out.2.1.trans k5 (fun _ f _ => f)
  have hI := H5.out.1.kept k5 (fun f => f)
  have bD := blk_kept H5.out.2.2.1 k5 (fun f => f)
  have bB := blk_kept H5.out.2.2.2 k5 (fun f => f)
  have hSG : SeenI W (some ⟨G, 0, none⟩) n f.code := hI.seen HC.out.2.2.2 (fun k i hi => odd_first _ k i hi)
  have hSf : SeenI W ca n f.code := HC.out.2.1.more k0
  have hTR := fun wx (hk : Keeps None W wx) => rtrails_at f ca n cc t s q y1 N c1 er wx HC.out.2.2.2 (hSf.more hk) (hA1.more hk)
  have hSF := fun wx (hk : Keeps None W wx) => sameFunc_wide f (some ⟨G, 0, none⟩) (n + 2) ca cc wx (by rw [← HC.out.2.2.2]; exact hSG.more hk) (by rw [← HC.out.2.2.2]; exact hSf.more hk) (by rw [← HC.out.2.2.2]; omega)
  unfold fnV at hSF
  rw [← HC.out.2.2.2] at hSF
  have hO0 : ∀ wx (hk : Keeps None W wx), Calls Tryd.prog 22 #[.int .i64 0] wx fun e w' => e = .returned (.agg #[.int .i64 (oddI 0).kind, .int .i64 (oddI 0).a, .int .i64 (oddI 0).b, .int .i64 (oddI 0).c, .int .i64 (oddI 0).k]) ∧ Keeps None wx w' := fun wx _ => odd_any 0 wx (by omega)
  have hO1 : ∀ wx (hk : Keeps None W wx), Calls Tryd.prog 22 #[.int .i64 1] wx fun e w' => e = .returned (.agg #[.int .i64 (oddI 1).kind, .int .i64 (oddI 1).a, .int .i64 (oddI 1).b, .int .i64 (oddI 1).c, .int .i64 (oddI 1).k]) ∧ Keeps None wx w' := fun wx _ => odd_any 1 wx (by omega)
  have hTP := fun wx (hk : Keeps None W wx) => trailPlaced_any f ca n cc t s q wx (HC.out.1.more (k0.trans hk (fun _ f _ => f))) HC.out.2.2.2 (hSf.more hk) HC.out.2.2.1 hr
  obtain ⟨u0, u1, u2, u3, u4⟩ := hI.at (odd_at0 f.code n HC.out.2.2.2)
  obtain ⟨x0, x1, x2, x3, x4⟩ := hI.at (odd_at1 f.code n HC.out.2.2.2)
  have hq0 := eqIns' (oddI 0).kind (oddI 0).a (oddI 0).b (oddI 0).c (oddI 0).k
  have hq1 := eqIns' (oddI 1).kind (oddI 1).a (oddI 1).b (oddI 1).c (oddI 1).k
  obtain ⟨N1, hN1⟩ : ∃ N1, N1 = n + 1 := ⟨_, rfl⟩
  obtain ⟨N2, hN2⟩ : ∃ N2, N2 = n + 2 := ⟨_, rfl⟩
  rw [← hN1] at x0 x1 x2 x3 x4
  rw [← hN2] at hSF bD
  rw [← hN2]
  have e0 : W.cell? ⟨B, 0, none⟩ = some (.int .i64 f.params) := (cell_of_heap bB 0).trans rfl
  have e1 : W.cell? ⟨B, 1, none⟩ = some (.int .i64 f.regs) := (cell_of_heap bB 1).trans rfl
  have e2 : W.cell? ⟨B, 2, none⟩ = some (.int .i64 f.slots) := (cell_of_heap bB 2).trans rfl
  have e3 : W.cell? ⟨B, 3, none⟩ = some (.slice ca n cc) := (cell_of_heap bB 3).trans rfl
  have d0 : W.cell? ⟨D, 0, none⟩ = some (.int .i64 f.params) := (cell_of_heap bD 0).trans rfl
  have d1 : W.cell? ⟨D, 1, none⟩ = some (.int .i64 f.regs) := (cell_of_heap bD 1).trans rfl
  have d2 : W.cell? ⟨D, 2, none⟩ = some (.int .i64 f.slots) := (cell_of_heap bD 2).trans rfl
  have d3 : W.cell? ⟨D, 3, none⟩ = some (.slice (some ⟨G, 0, none⟩) n N2) := (cell_of_heap bD 3).trans rfl
  have i4 : (n : Int) < (N2 : Int) := by omega
  have i5 : (N1 : Int) < (N2 : Int) := by omega
  have i4' : n < N2 := by omega
  have i5' : N1 < N2 := by omega
  have hnb : (n : Int) ≤ 4611686018427387904 := by omega
  have e57 : IntKind.i64.wrap ((n : Int) + 1) = (N1 : Int) := by rw [Go.IntWalk.i64_in _ (by omega)]; omega
  generalize (oddI 0).kind = A0 at *
  generalize (oddI 0).a = A1 at *
  generalize (oddI 0).b = A2 at *
  generalize (oddI 0).c = A3 at *
  generalize (oddI 0).k = A4 at *
  generalize (oddI 1).kind = B0 at *
  generalize (oddI 1).a = B1 at *
  generalize (oddI 1).b = B2 at *
  generalize (oddI 1).c = B3 at *
  generalize (oddI 1).k = B4 at *
  have HTR : Hid _ := hTR
  have HSF : Hid _ := hSF
  have HO0 : Hid _ := hO0
  have HO1 : Hid _ := hO1
  have HTP : Hid _ := hTP
  have HK0 : Hid (Keeps None w W) := k0
  clear hTR hSF hO0 hO1 hTP k0 k5 hA1 hI bD bB hSG hSf hN1 hN2 H3 H5 HC
  go_upto_region 3 with fail
  go_upto_region 4 with fail
  go_cut [14] (fun s14 wx => s14 = .bool true ∧ Keeps None W wx)
  case first =>
    go_region_held3 (fun w' => w'.cell? ⟨D, 0, none⟩ = some (.int .i64 f.params) ∧ w'.cell? ⟨D, 1, none⟩ = some (.int .i64 f.regs) ∧ w'.cell? ⟨D, 2, none⟩ = some (.int .i64 f.slots) ∧ w'.cell? ⟨D, 3, none⟩ = some (.slice (some ⟨G, 0, none⟩) n N2) ∧ w'.cell? ⟨B, 0, none⟩ = some (.int .i64 f.params) ∧ w'.cell? ⟨B, 1, none⟩ = some (.int .i64 f.regs) ∧ w'.cell? ⟨B, 2, none⟩ = some (.int .i64 f.slots) ∧ w'.cell? ⟨B, 3, none⟩ = some (.slice ca n cc) ∧ w'.cell? ⟨G, n * 5, none⟩ = some (.int .i64 A0) ∧ w'.cell? ⟨G, n * 5 + 1, none⟩ = some (.int .i64 A1) ∧ w'.cell? ⟨G, n * 5 + 2, none⟩ = some (.int .i64 A2) ∧ w'.cell? ⟨G, n * 5 + 3, none⟩ = some (.int .i64 A3) ∧ w'.cell? ⟨G, n * 5 + 4, none⟩ = some (.int .i64 A4) ∧ w'.cell? ⟨G, N1 * 5, none⟩ = some (.int .i64 B0) ∧ w'.cell? ⟨G, N1 * 5 + 1, none⟩ = some (.int .i64 B1) ∧ w'.cell? ⟨G, N1 * 5 + 2, none⟩ = some (.int .i64 B2) ∧ w'.cell? ⟨G, N1 * 5 + 3, none⟩ = some (.int .i64 B3) ∧ w'.cell? ⟨G, N1 * 5 + 4, none⟩ = some (.int .i64 B4)) (first | go_keep | with_reducible exact s0 | with_reducible exact s1 | with_reducible exact s2) (first
      | ((go_at_call 21; refine (HSF.out _ (Keeps.drew None _)).mono ?_; rintro _ v0 ⟨rfl, q0⟩; have k0 : Keeps None W v0 := (Keeps.drew None W).trans q0 (fun _ f _ => f); have s0 := (And.intro (k0.cell d0 (fun f => f)) (And.intro (k0.cell d1 (fun f => f)) (And.intro (k0.cell d2 (fun f => f)) (And.intro (k0.cell d3 (fun f => f)) (And.intro (k0.cell e0 (fun f => f)) (And.intro (k0.cell e1 (fun f => f)) (And.intro (k0.cell e2 (fun f => f)) (And.intro (k0.cell e3 (fun f => f)) (And.intro (k0.cell u0 (fun f => f)) (And.intro (k0.cell u1 (fun f => f)) (And.intro (k0.cell u2 (fun f => f)) (And.intro (k0.cell u3 (fun f => f)) (And.intro (k0.cell u4 (fun f => f)) (And.intro (k0.cell x0 (fun f => f)) (And.intro (k0.cell x1 (fun f => f)) (And.intro (k0.cell x2 (fun f => f)) (And.intro (k0.cell x3 (fun f => f)) (k0.cell x4 (fun f => f)))))))))))))))))))))
      | ((go_at_call_of 22 (Value.int IntKind.i64 0); refine (HO0.out _ k0).mono ?_; rintro _ v1 ⟨rfl, q1⟩; have k1 : Keeps None W v1 := k0.trans q1 (fun _ f _ => f); have s1 := (And.intro (k1.cell d0 (fun f => f)) (And.intro (k1.cell d1 (fun f => f)) (And.intro (k1.cell d2 (fun f => f)) (And.intro (k1.cell d3 (fun f => f)) (And.intro (k1.cell e0 (fun f => f)) (And.intro (k1.cell e1 (fun f => f)) (And.intro (k1.cell e2 (fun f => f)) (And.intro (k1.cell e3 (fun f => f)) (And.intro (k1.cell u0 (fun f => f)) (And.intro (k1.cell u1 (fun f => f)) (And.intro (k1.cell u2 (fun f => f)) (And.intro (k1.cell u3 (fun f => f)) (And.intro (k1.cell u4 (fun f => f)) (And.intro (k1.cell x0 (fun f => f)) (And.intro (k1.cell x1 (fun f => f)) (And.intro (k1.cell x2 (fun f => f)) (And.intro (k1.cell x3 (fun f => f)) (k1.cell x4 (fun f => f)))))))))))))))))))))
      | ((go_at_call_of 22 (Value.int IntKind.i64 1); refine (HO1.out _ k1).mono ?_; rintro _ v2 ⟨rfl, q2⟩; have k2 : Keeps None W v2 := k1.trans q2 (fun _ f _ => f); have s2 := (And.intro (k2.cell d0 (fun f => f)) (And.intro (k2.cell d1 (fun f => f)) (And.intro (k2.cell d2 (fun f => f)) (And.intro (k2.cell d3 (fun f => f)) (And.intro (k2.cell e0 (fun f => f)) (And.intro (k2.cell e1 (fun f => f)) (And.intro (k2.cell e2 (fun f => f)) (And.intro (k2.cell e3 (fun f => f)) (And.intro (k2.cell u0 (fun f => f)) (And.intro (k2.cell u1 (fun f => f)) (And.intro (k2.cell u2 (fun f => f)) (And.intro (k2.cell u3 (fun f => f)) (And.intro (k2.cell u4 (fun f => f)) (And.intro (k2.cell x0 (fun f => f)) (And.intro (k2.cell x1 (fun f => f)) (And.intro (k2.cell x2 (fun f => f)) (And.intro (k2.cell x3 (fun f => f)) (k2.cell x4 (fun f => f))))))))))))))))))))))
    all_goals (go_wp2_with fail; go_meet)
    all_goals exact ⟨rfl, k2⟩
  case rest =>
  obtain ⟨rfl, hkc⟩ := hcut
  have p0 := hkc.cell e0 (fun f => f)
  have p1 := hkc.cell e1 (fun f => f)
  have p2 := hkc.cell e2 (fun f => f)
  have p3 := hkc.cell e3 (fun f => f)
  have htr := HTR.out wc hkc
  have HKC : Hid (Keeps None W wc) := hkc
  clear hkc d0 d1 d2 d3 e0 e1 e2 e3 u0 u1 u2 u3 u4 x0 x1 x2 x3 x4
  go_wp2_with fail
  refine htr.mono ?_
  rintro e w6 ⟨rfl, hk6⟩
  have k6 := HKC.out.trans hk6 (fun _ f _ => f)
  replace p0 := hk6.cell p0 (fun f => f)
  replace p1 := hk6.cell p1 (fun f => f)
  replace p2 := hk6.cell p2 (fun f => f)
  replace p3 := hk6.cell p3 (fun f => f)
  have htp := HTP.out w6 k6
  have H6 : Hid (Keeps None w w6) := HK0.out.trans k6 (fun _ f _ => f)
  clear hk6 k6 htr
  go_wp2_with fail
  refine htp.mono ?_
  rintro e w7 ⟨rfl, hk7⟩
  have H7 : Hid (Keeps None w w7) := H6.out.trans hk7 (fun _ f _ => f)
  clear hk7 htp
  go_wp2_with fail
  go_ret
  exact ⟨rfl, H7.out⟩
end Go.Proofs.YtklepknkdkponaaDoor
