import Derived.Test.YtklepknkdkponaaDoorPwLay
import Derived.Test.YtklepknkdkponaaDoorPwSame
import Derived.Deep.RegionHeld3
/-! untouched. -/
namespace Go.Proofs.YtklepknkdkponaaDoor
set_option linter.unusedVariables false
set_option maxRecDepth 20000
open Go.RowKit Go.HeapKit

theorem IsGift.odds {base : Nat} {w : World} {G : Nat} {cv : Value} {cs : List Nat} {l : List Fn} {R : List (List Value)} (h : IsGift base w G cv cs l R) {k : Nat} {f : Fn} (hf : l[k]? = some f) : ∃ c gv cap, cv = .slice (some ⟨gv, 0, none⟩) l.length cap ∧ w.cell? ⟨gv, k, none⟩ = some (.slice (some ⟨c, 0, none⟩) (f.code.length + 2) (f.code.length + 2)) ∧ InsAt w c (f.code.length * 5) (oddI 0) ∧ InsAt w c ((f.code.length + 1) * 5) (oddI 1) := by
  obtain ⟨c, hc, _, hC⟩ := h.fn hf
  have hk := (List.getElem?_eq_some_iff.1 hf).1
  have hz := zip_at gcV l cs k f c hf hc
  rcases h.codes.2 with ⟨rfl, h0⟩ | ⟨g, cap, cur, rfl, hb, hg, hn, hm, hcc, ht⟩
  · omega
  · refine ⟨c, g, cap, rfl, ?_, hC.at (by unfold oddL; rw [List.getElem?_append_right (Nat.le_refl _), Nat.sub_self]; rfl), hC.at (by unfold oddL; rw [List.getElem?_append_right (by omega), show f.code.length + 1 - f.code.length = 1 by omega]; rfl)⟩
    rw [blk_cell hg]
    have : (List.zipWith gcV l cs)[k]? = some (.slice (some ⟨c, 0, none⟩) (f.code.length + 2) (f.code.length + 2)) := hz
    rw [← ht, List.getElem?_take, Nat.mul_one, if_pos hk] at this
    simpa using this
set_option maxHeartbeats 2000000 in
theorem untouched_any (a : Option Addr) (n c : Nat) (l : List Fn) (w : World) (base G : Nat) (cv : Value) (cs : List Nat) (hS : SeenF w a n l) (hg : IsGift base w G cv cs l [oddFc]) (hr : n * 48 ≤ 140737488351232) (hrc : ∀ f ∈ l, f.code.length * 40 ≤ 140737488351232) :
    Calls Tryd.prog 12 #[.agg #[.slice (some ⟨G, 0, none⟩) n (n + 1), .slice (some ⟨G, 0, none⟩) (n + 1) (n + 1), cv], .agg #[.slice a n c]] w fun e w' => e = .returned (.bool true) ∧ Keeps None w w' := by
  have hn := hS.len
  obtain ⟨xa, xm, xc, hcv⟩ : ∃ xa xm xc, cv = .slice xa xm xc := by
    rcases hg.codes.2 with ⟨rfl, h0⟩ | ⟨g, cap, cur, rfl, _⟩
    · exact ⟨none, 0, 0, rfl⟩
    · exact ⟨_, _, cap, rfl⟩
  subst hcv
  obtain ⟨N1, hN1⟩ : ∃ N1, N1 = n + 1 := ⟨_, rfl⟩
  rw [← hN1]
  obtain ⟨B, hB⟩ : ∃ B, B = w.heap.size := ⟨_, rfl⟩
  obtain ⟨p1, p2⟩ := two_boxes w #[.slice (some ⟨G, 0, none⟩) n N1, .slice (some ⟨G, 0, none⟩) N1 N1, .slice xa xm xc] #[.slice a n c] 31 24
  have hk2 := keeps2 w (.cells #[.slice (some ⟨G, 0, none⟩) n N1, .slice (some ⟨G, 0, none⟩) N1 N1, .slice xa xm xc] 31) (.cells #[.slice a n c] 24)
  obtain ⟨w2, hw2⟩ : ∃ w2, w2 = (w.alloc (.cells #[.slice (some ⟨G, 0, none⟩) n N1, .slice (some ⟨G, 0, none⟩) N1 N1, .slice xa xm xc] 31)).alloc (.cells #[.slice a n c] 24) := ⟨_, rfl⟩
  rw [← hw2] at p1 p2 hk2
  rw [← hB] at p1 p2
  have hg2 := hg.more hk2
  have hS2 := hS.more hk2
  have hzl : (List.zipWith gfCells l cs ++ [oddFc])[n]? = some oddFc := by
    have := hg.len
    rw [List.getElem?_append_right (by rw [List.length_zipWith]; omega), List.length_zipWith, show n - min l.length cs.length = 0 by omega]; rfl
  obtain ⟨q0, q1, q2, q3⟩ := hg2.fb.at (k := n) (a := .int .i64 (-5)) (b := .int .i64 0) (c := .int .i64 0) (d := .slice none 0 0) hzl
  have hgs := hg2.seen
  rw [← hn] at hgs
  have hsm := fun wx (hk : Keeps None w2 wx) => same_wide (some ⟨G, 0, none⟩) n N1 a c l wx (hgs.more hk) (hS2.more hk) (fun f hf => by have := hrc f hf; omega) (by omega)
  have H2 : Hid (IsGift base w2 G (.slice xa xm xc) cs l [oddFc] ∧ SeenF w2 a n l ∧ n = l.length ∧ (∀ f ∈ l, f.code.length * 40 ≤ 140737488351232) ∧ w2.heap[B]? = some (.cells #[.slice (some ⟨G, 0, none⟩) n N1, .slice (some ⟨G, 0, none⟩) N1 N1, .slice xa xm xc] 31 (0, 0)) ∧ w2.heap[B + 1]? = some (.cells #[.slice a n c] 24 (0, 0)) ∧ Keeps None w w2) := ⟨hg2, hS2, hn, hrc, p1, p2, hk2⟩
  have HSM : Hid _ := hsm
  have d1 : w2.cell? ⟨B, 1, none⟩ = some (.slice (some ⟨G, 0, none⟩) N1 N1) := (cell_of_heap p1 1).trans rfl
  have e0 : w2.cell? ⟨B + 1, 0, none⟩ = some (.slice a n c) := (cell_of_heap p2 0).trans rfl
  have hnb : (n : Int) ≤ 4611686018427387904 := by omega
  have i1 : (n : Int) < (N1 : Int) := by omega
  have i2 : (n : Int) ≤ (N1 : Int) := by omega
  have i1' : n < N1 := by omega
  have i2' : n ≤ N1 := by omega
  clear hS hn hrc hg p1 p2 hk2 hg2 hS2 hzl hgs hsm q1 q2 q3 hN1
  go_enter Tryd.func12, Tryd.ntmps12
  go_upto_region 1 with fail
  rw [← hw2, ← hB]
  clear hw2 hB
  go_upto_region 2 with fail
  go_cut [27] (fun s27 wx => s27 = .bool false ∧ Keeps None w2 wx)
  case first =>
    go_region_held3 (fun w' => w'.cell? ⟨B, 1, none⟩ = some (.slice (some ⟨G, 0, none⟩) N1 N1) ∧ w'.cell? ⟨G, n * 4, none⟩ = some (.int .i64 (-5)) ∧ w'.cell? ⟨B + 1, 0, none⟩ = some (.slice a n c)) (first | go_keep | with_reducible exact hS5) ((go_at_call 33; refine (HSM.out _ (Keeps.drew None _)).mono ?_; rintro _ w4 ⟨rfl, hk4⟩; have hkP : Keeps None w2 w4 := (Keeps.drew None w2).trans hk4 (fun _ f _ => f); have hS5 := And.intro (hkP.cell d1 (fun f => f)) (And.intro (hkP.cell q0 (fun f => f)) (hkP.cell e0 (fun f => f)))))
    all_goals (go_wp2_with fail; go_meet)
    all_goals exact ⟨rfl, hkP⟩
  case rest =>
    obtain ⟨rfl, hkc⟩ := hcut
    have HKC : Hid _ := hkc
    clear hkc d1 e0 q0
    go_wp2_with fail
    go_loopw [6] (fun s6 wr => ∃ k : Nat, k ≤ n ∧ s6 = .int .i64 k ∧ Keeps None w2 wr) (fun i _ => n - (intOf i).toNat)
    case atStart => exact ⟨0, Nat.zero_le _, rfl, HKC.out⟩
    case round =>
      obtain ⟨k, hk, rfl, hkr⟩ := hrel
      by_cases hkn : k < n
      · obtain ⟨b, off, f, ca, cc, rfl, hf, hat⟩ := (H2.out.2.1.more hkr).at hkn
        have y3 := hat.code
        obtain ⟨cb, gv, cap, hcv, hcell, ho0, ho1⟩ := (H2.out.1.more hkr).odds hf
        injection hcv with v1 v2 v3
        subst v1 v2 v3
        have d2 : wr.cell? ⟨B, 2, none⟩ = some (.slice (some ⟨gv, 0, none⟩) l.length xc) := (cell_of_heap (blk_kept H2.out.2.2.2.2.1 hkr (fun f => f)) 2).trans rfl
        have e0 : wr.cell? ⟨B + 1, 0, none⟩ = some (.slice (some ⟨b, off, none⟩) n c) := (cell_of_heap (blk_kept H2.out.2.2.2.2.2.1 hkr (fun f => f)) 0).trans rfl
        rw [← H2.out.2.2.1] at d2
        have hrf := H2.out.2.2.2.1 f (List.mem_of_getElem? hf)
        obtain ⟨m, hm⟩ : ∃ m, m = f.code.length := ⟨_, rfl⟩
        rw [← hm] at y3 hcell ho0 ho1 hrf
        obtain ⟨u0, u1, u2, u3, u4⟩ := ho0
        obtain ⟨x0, x1, x2, x3, x4⟩ := ho1
        have hn0 := neqIns' (oddI 0).kind (oddI 0).a (oddI 0).b (oddI 0).c (oddI 0).k
        have hn1 := neqIns' (oddI 1).kind (oddI 1).a (oddI 1).b (oddI 1).c (oddI 1).k
        have i3 : (k : Int) < (n : Int) := by omega
        obtain ⟨M1, hM1⟩ : ∃ M1, M1 = m + 1 := ⟨_, rfl⟩
        obtain ⟨M2, hM2⟩ : ∃ M2, M2 = m + 2 := ⟨_, rfl⟩
        rw [← hM2] at hcell
        rw [← hM1] at x0 x1 x2 x3 x4
        have i4 : (m : Int) < (M2 : Int) := by omega
        have i5 : (M1 : Int) < (M2 : Int) := by omega
        have i4' : m < M2 := by omega
        have i5' : M1 < M2 := by omega
        have hmb : (m : Int) ≤ 4611686018427387904 := by omega
        have ho0 : ∀ wx, Calls Tryd.prog 22 #[.int .i64 0] wx fun e w' => e = .returned (.agg #[.int .i64 (oddI 0).kind, .int .i64 (oddI 0).a, .int .i64 (oddI 0).b, .int .i64 (oddI 0).c, .int .i64 (oddI 0).k]) ∧ Keeps None wx w' := fun wx => odd_any 0 wx (by omega)
        have ho1 : ∀ wx, Calls Tryd.prog 22 #[.int .i64 1] wx fun e w' => e = .returned (.agg #[.int .i64 (oddI 1).kind, .int .i64 (oddI 1).a, .int .i64 (oddI 1).b, .int .i64 (oddI 1).c, .int .i64 (oddI 1).k]) ∧ Keeps None wx w' := fun wx => odd_any 1 wx (by omega)
        have HK : Hid (Keeps None w2 wr) := hkr
        generalize (oddI 0).kind = A0 at *
        generalize (oddI 0).a = A1 at *
        generalize (oddI 0).b = A2 at *
        generalize (oddI 0).c = A3 at *
        generalize (oddI 0).k = A4 at *
        generalize (oddI 1).kind = B0 at *
        generalize (oddI 1).a = B1 at *
        generalize (oddI 1).b = B2 at *
        generalize (oddI 1).c = B3 at *
        generalize (oddI 1).k = B4 at *
        have HO0 : Hid _ := ho0
        have HO1 : Hid _ := ho1
        have e57 : IntKind.i64.wrap ((m : Int) + 1) = (M1 : Int) := by rw [Go.IntWalk.i64_in _ (by omega)]; omega
        have gD : wr.cell? ⟨B, 2, none⟩ = some (.slice (some ⟨gv, 0, none⟩) n xc) := d2
        clear hkr hf hat hm ho0 ho1 hrf hM1 hM2
        go_upto_region 8 with fail
        go_cut [62] (fun s62 wx => s62 = .bool false ∧ Keeps None wr wx)
        case first =>
          go_region_held3 (fun w' => w'.cell? ⟨B, 2, none⟩ = some (.slice (some ⟨gv, 0, none⟩) n xc) ∧ w'.cell? ⟨gv, k, none⟩ = some (.slice (some ⟨cb, 0, none⟩) M2 M2) ∧ w'.cell? ⟨cb, m * 5, none⟩ = some (.int .i64 A0) ∧ w'.cell? ⟨cb, m * 5 + 1, none⟩ = some (.int .i64 A1) ∧ w'.cell? ⟨cb, m * 5 + 2, none⟩ = some (.int .i64 A2) ∧ w'.cell? ⟨cb, m * 5 + 3, none⟩ = some (.int .i64 A3) ∧ w'.cell? ⟨cb, m * 5 + 4, none⟩ = some (.int .i64 A4) ∧ w'.cell? ⟨cb, M1 * 5, none⟩ = some (.int .i64 B0) ∧ w'.cell? ⟨cb, M1 * 5 + 1, none⟩ = some (.int .i64 B1) ∧ w'.cell? ⟨cb, M1 * 5 + 2, none⟩ = some (.int .i64 B2) ∧ w'.cell? ⟨cb, M1 * 5 + 3, none⟩ = some (.int .i64 B3) ∧ w'.cell? ⟨cb, M1 * 5 + 4, none⟩ = some (.int .i64 B4)) (first | go_keep | with_reducible exact hS5 | with_reducible exact hS6) (first
            | (go_at_call_of 22 (Value.int IntKind.i64 0); refine (HO0.out _).mono ?_; rintro _ w4 ⟨rfl, hk4⟩; have hkP : Keeps None wr w4 := (Keeps.drew None wr).trans hk4 (fun _ f _ => f); have hS5 := (And.intro (hkP.cell d2 (fun f => f)) (And.intro (hkP.cell hcell (fun f => f)) (And.intro (hkP.cell u0 (fun f => f)) (And.intro (hkP.cell u1 (fun f => f)) (And.intro (hkP.cell u2 (fun f => f)) (And.intro (hkP.cell u3 (fun f => f)) (And.intro (hkP.cell u4 (fun f => f)) (And.intro (hkP.cell x0 (fun f => f)) (And.intro (hkP.cell x1 (fun f => f)) (And.intro (hkP.cell x2 (fun f => f)) (And.intro (hkP.cell x3 (fun f => f)) (hkP.cell x4 (fun f => f))))))))))))))
            | (go_at_call_of 22 (Value.int IntKind.i64 1); refine (HO1.out _).mono ?_; rintro _ w6 ⟨rfl, hk6⟩; have hkQ : Keeps None wr w6 := hkP.trans hk6 (fun _ f _ => f); have hS6 := (And.intro (hkQ.cell d2 (fun f => f)) (And.intro (hkQ.cell hcell (fun f => f)) (And.intro (hkQ.cell u0 (fun f => f)) (And.intro (hkQ.cell u1 (fun f => f)) (And.intro (hkQ.cell u2 (fun f => f)) (And.intro (hkQ.cell u3 (fun f => f)) (And.intro (hkQ.cell u4 (fun f => f)) (And.intro (hkQ.cell x0 (fun f => f)) (And.intro (hkQ.cell x1 (fun f => f)) (And.intro (hkQ.cell x2 (fun f => f)) (And.intro (hkQ.cell x3 (fun f => f)) (hkQ.cell x4 (fun f => f)))))))))))))))
          all_goals (go_wp2_with fail; go_meet)
          all_goals exact ⟨rfl, hkQ⟩
        case rest =>
          obtain ⟨rfl, hkY⟩ := hcut
          have HY : Hid _ := hkY
          clear hkY
          go_wp2_with fail
          exact ⟨⟨k + 1, by omega, by simp, HK.out.trans HY.out (fun _ f _ => f)⟩, by simp [intOf]; omega⟩
      · have i3 : ¬ (k : Int) < (n : Int) := by omega
        have HQ : Hid (Keeps None w wr) := H2.out.2.2.2.2.2.2.trans hkr (fun _ f _ => f)
        clear hkr
        go_wp2_with fail
        go_ret
        exact ⟨rfl, HQ.out⟩
end Go.Proofs.YtklepknkdkponaaDoor
