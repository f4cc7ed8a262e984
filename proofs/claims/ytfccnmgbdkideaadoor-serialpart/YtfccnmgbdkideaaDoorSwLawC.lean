import Derived.Test.YtfccnmgbdkideaaDoorSwTail
/-! SerialPart: the walk, from region 20 on. -/
namespace Go.Proofs.YtfccnmgbdkideaaDoor
set_option linter.unusedVariables false
set_option maxRecDepth 20000
open Go.RowKit Go.HeapKit Go.PlainOps

set_option maxHeartbeats 8000000 in
set_option maxRecDepth 1000000 in
theorem part_C (a : Option Addr) (n c : Nat) (l : List Fn) (fuel : Int) (w w5 : World) (B lb N tc j F G : Nat) (x : Nd) (L : List Nd) (ga : Option Addr) (gn gc e : Nat) (HC : Hid (Keeps None w w5 ∧ SeenF w a n l ∧ Tabs w ∧ (∀ f ∈ l, f.Ok) ∧ okI fuel ∧ AllV l ∧ N = L.length ∧ x.func = (F : Int) ∧ F < l.length ∧ L[j]? = some x ∧ (∀ (j : Nat) (y : Nd), L[j]? = some y → 1 ≤ y.work) ∧ sumW L ≤ 4194304 ∧ (∀ f ∈ l, f.code.length ≤ 512) ∧ n ≤ 32)) (HM : Hid (w5.cell? ⟨B, 0, none⟩ = some (.slice a n c) ∧ (∀ k z, L[k]? = some z → ∀ q y, z.l[q]? = some y → w5.cell? ⟨lb, k * 7 + q, none⟩ = some (.int .i64 y)) ∧ w5.heap[G]? = some (.cells #[.int .i64 x.parent, .int .i64 x.idx, .int .i64 x.func, .int .i64 x.work, .int .i64 x.ped, .int .i64 x.arg, .int .i64 x.v] 33 (0, 0)))) (hjN : j < N) (hNb : N ≤ 8388608) (hga : SeenA w5 ga gn (argOf l x)) (hP : PartOk l L j e x fuel.toNat) (hf0 : 0 ≤ fuel) {u0 u1 u3 u5 u6 u7 u8 u10 u15 u16 u17 u18 u19 u20 u21 u22 u23 u24 u25 u26 u27 u28 u29 u30 u31 u32 u33 u34 u35 u36 u37 u38 u39 u40 u41 u42 u43 u44 u45 u46 u47 u48 u49 u50 u51 u52 u53 u54 u55 u56 u57 u58 u59 u60 u61 u62 u63 u64 u65 u66 u67 u68 u69 u70 u71 u72 u73 u74 u75 u76 u77 u78 u79 u80 u81 u82 u83 u84 u85 u86 u87 u88 u89 u90 u91 u92 u93 u94 u95 u96 u97 u98 u99 u100 u101 u102 u103 u104 u105 u106 u107 u108 u109 u110 u111 u112 u113 u114 u115 u116 u117 u118 u119 u120 u121 u122 u123 u124 u125 u126 u127 u128 u129 u130 u131 u132 u133 u134 u135 u136 u137 u138 u139 u140 u141 u142 : Value} :
    Code.wp Tryd.prog (partTail 20) (bodyPost Tryd.prog Tryd.f3 fun e w' => e = .returned (.bool true) ∧ Keeps None w w') ⟨#[u0, u1, .int .i64 fuel, u3, .pointer (some ⟨B, 0, none⟩), u5, u6, u7, u8, .slice (some ⟨lb, 0, none⟩) N tc, u10, .int .i64 (j : Int), .pointer (some ⟨G, 0, none⟩), .slice ga gn gc, .int .i64 1, u15, u16, u17, u18, u19, u20, u21, u22, u23, u24, u25, u26, u27, u28, u29, u30, u31, u32, u33, u34, u35, u36, u37, u38, u39, u40, u41, u42, u43, u44, u45, u46, u47, u48, u49, u50, u51, u52, u53, u54, u55, u56, u57, u58, u59, u60, u61, u62, u63, u64, u65, u66, u67, u68, u69, u70, u71, u72, u73, u74, u75, u76, u77, u78, u79, u80, u81, u82, u83, u84, u85, u86, u87, u88, u89, u90, u91, u92, u93, u94, u95, u96, u97, u98, u99, u100, u101, u102, u103, u104, u105, u106, u107, u108, u109, u110, u111, u112, u113, u114, u115, u116, u117, u118, u119, u120, u121, u122, u123, u124, u125, u126, u127, u128, u129, u130, u131, u132, u133, u134, u135, u136, u137, u138, u139, u140, u141, u142], []⟩ w5 := by
  obtain ⟨dp, sp, hev⟩ := hP.ev
  have hFn : x.func.toNat = F := by have := HC.out.2.2.2.2.2.2.2.1; omega
  rw [hFn, Int.toNat_of_nonneg hf0] at hev
  have HP : Hid (PartOk l L j e x fuel.toNat ∧ evalV (swapL l F) (argOf l x) fuel = (⟨x.v, sumW ((L.drop j).take (e - j)), ((e - j : Nat) : Int), dp, sp⟩, 0) ∧ SeenA w5 ga gn (argOf l x)) := ⟨hP, hev, hga⟩
  have hsb := sum_take_bound HC.out.2.2.2.2.2.2.2.2.2.2.1
  have hpart : ∀ k, j ≤ k → 0 ≤ sumW ((L.drop j).take (k - j)) ∧ sumW ((L.drop j).take (k - j)) ≤ 4194304 := fun k hk => by
    have h1 := sum_app (L.take j) ((L.drop j).take (k - j))
    have h2 : L.take j ++ (L.drop j).take (k - j) = L.take k := by
      rw [show k = j + (k - j) by omega, List.take_add, show j + (k - j) - j = k - j by omega]
    rw [h2] at h1
    have h3 := hsb k
    have h4 := hsb j
    have h5 := (sum_take_bound (l := L.drop j) (fun q y hy => HC.out.2.2.2.2.2.2.2.2.2.2.1 (j + q) y (by rw [List.getElem?_drop] at hy; exact hy)) (k - j)).1
    have h6 := HC.out.2.2.2.2.2.2.2.2.2.2.2.1
    omega
  have HB : Hid _ := hpart
  have g3 : w5.cell? ⟨G, 3, none⟩ = some (.int .i64 x.work) := (blk_cell HM.out.2.2 3).trans rfl
  have hjb : (j : Int) ≤ 8388608 := by omega
  have hNi : (N : Int) ≤ 8388608 := by omega
  clear hP hev hga hsb hpart hFn
  conv => arg 2; whnf
  go_wp2_with fail
  clear g3
  go_loopw [14, 15, 16] (fun s14 s15 s16 wr => ∃ k : Nat, j < k ∧ k ≤ e ∧ s16 = .int .i64 k ∧ s14 = .int .i64 ((k : Int) - (j : Int)) ∧ s15 = .int .i64 (sumW ((L.drop j).take (k - j))) ∧ wr = w5) (fun _ _ i _ => N - (intOf i).toNat)
  case atStart =>
    refine ⟨j + 1, by omega, HP.out.1.lt, by simp, by simp; omega, ?_, rfl⟩
    rw [show j + 1 - j = 1 by omega]
    have h1 : (L.drop j).take 1 = [x] := by
      rw [List.drop_eq_getElem_cons (by have := HC.out.2.2.2.2.2.2.1; omega)]
      have h2 := HC.out.2.2.2.2.2.2.2.2.2.1
      rw [List.getElem?_eq_getElem (by have := HC.out.2.2.2.2.2.2.1; omega)] at h2
      simp [Option.some.inj h2]
    rw [h1]
    simp [sumW]
  case round =>
    obtain ⟨k, hjk, hke, rfl, rfl, rfl, hwr⟩ := hrel
    subst hwr
    have hle := HP.out.1.le
    have hNe : Hid (N = L.length) := HC.out.2.2.2.2.2.2.1
    by_cases hk : k < e
    · obtain ⟨z, hz⟩ : ∃ z, L[k]? = some z := ⟨L[k]'(by omega), by simp⟩
      have hlow := HP.out.1.low k z hjk hk hz
      have y0 := HM.out.2.1 k z hz 0 z.parent rfl
      have y3 := HM.out.2.1 k z hz 3 z.work rfl
      simp only [Nat.add_zero] at y0
      have hb1 := HB.out k (by omega)
      have hb2 := HB.out (k + 1) (by omega)
      have hst : sumW ((L.drop j).take (k + 1 - j)) = sumW ((L.drop j).take (k - j)) + z.work := by
        rw [show k + 1 - j = (k - j) + 1 by omega]
        exact sum_take_step (by rw [List.getElem?_drop, show j + (k - j) = k by omega]; exact hz)
      have HST : Hid _ := hst
      rw [hst] at hb2
      have hw1 := HC.out.2.2.2.2.2.2.2.2.2.2.1 k z hz
      generalize sumW ((L.drop j).take (k - j)) = S at *
      have i1 : (k : Int) < (N : Int) := by have := hNe.out; omega
      have i2 : (j : Int) ≤ z.parent := hlow
      have i3 : (0 : Int) ≤ (k : Int) - (j : Int) := by omega
      clear hst hz hlow
      go_wp2_with fail
      refine ⟨⟨k + 1, by omega, by omega, by simp, by congr 1; omega, by rw [HST.out], trivial⟩, by simp [intOf]; omega⟩
    · have hke2 : k = e := by omega
      subst hke2
      have hcase : (¬ (k : Int) < (N : Int)) ∨ ∃ z, L[k]? = some z ∧ z.parent < (j : Int) ∧ (k : Int) < (N : Int) := by
        by_cases hkN : k < N
        · obtain ⟨z, hz⟩ : ∃ z, L[k]? = some z := ⟨L[k]'(by have := hNe.out; omega), by simp⟩
          exact .inr ⟨z, hz, HP.out.1.next z hz, by omega⟩
        · exact .inl (by omega)
      have hsw := swapped_any a n c l F wr (HC.out.2.1.more HC.out.1) (by have := HC.out.2.2.2.2.2.2.2.2.1; have := HC.out.2.1.len; omega) HC.out.2.2.2.2.2.2.2.2.2.2.2.2.2 HC.out.2.2.2.2.2.2.2.2.2.2.2.2.1
      unfold SwapPost at hsw
      have d0 := HM.out.1
      have g2 : wr.cell? ⟨G, 2, none⟩ = some (.int .i64 (F : Int)) := by rw [← HC.out.2.2.2.2.2.2.2.1]; exact (blk_cell HM.out.2.2 2).trans rfl
      have hev := fun (qa : Option Addr) (qc : Nat) wx (hx : Keeps None wr wx) (hs : SeenF wx qa n (swapL l F)) => eval_any qa n qc (swapL l F) ga gn gc (argOf l x) fuel wx (HC.out.2.2.1.more (HC.out.1.trans hx (fun _ f _ => f))) hs (ok_swap HC.out.2.2.2.2.2.2.2.2.1 (by have := HC.out.2.2.2.2.2.1.len; omega) HC.out.2.2.2.1) (HP.out.2.2.more hx) HP.out.2.2.most HC.out.2.2.2.2.1
      rw [HP.out.2.1] at hev
      unfold valC at hev
      simp only at hev
      have HEV : Hid _ := hev
      have eT : ((k - j : Nat) : Int) = (k : Int) - (j : Int) := by omega
      have hb1 := HB.out k (by omega)
      rw [eT] at HEV
      generalize sumW ((L.drop j).take (k - j)) = S at *
      clear hev eT hle
      rcases hcase with i1 | ⟨z, hz, hzp, i1⟩
      · go_upto_region 26 with fail
        go_wp2_with (first
          | (go_at_call 8; refine hsw.mono ?_; rintro _ w7 ⟨qa, qc, rfl, hs7, hk7⟩)
          | (go_at_call 7; refine (HEV.out qa qc _ hk7 hs7).mono ?_; rintro _ w8 ⟨rfl, hk8⟩; have k9 := (hk7.trans hk8 (fun _ f _ => f)).andAlloc (.cells #[.int .i64 x.v, .int .i64 S, .int .i64 ((k : Int) - (j : Int)), .int .i64 dp, .int .i64 sp] 38); have b9 := heap_alloc_new w8 (.cells #[.int .i64 x.v, .int .i64 S, .int .i64 ((k : Int) - (j : Int)), .int .i64 dp, .int .i64 sp] 38); have e0 := (blk_cell b9 0).trans rfl; have e1 := (blk_cell b9 1).trans rfl; have e2 := (blk_cell b9 2).trans rfl; have v6 := (blk_cell (blk_kept HM.out.2.2 k9 (fun f => f)) 6).trans rfl; have HK9 : Hid _ := k9; clear k9 b9))
        go_ret
        exact ⟨rfl, HC.out.1.trans HK9.out (fun _ f _ => f)⟩
      · have y0 := HM.out.2.1 k z hz 0 z.parent rfl
        simp only [Nat.add_zero] at y0
        have i2 : ¬ ((j : Int) ≤ z.parent) := by omega
        clear hz
        go_upto_region 26 with fail
        clear y0
        go_wp2_with (first
          | (go_at_call 8; refine hsw.mono ?_; rintro _ w7 ⟨qa, qc, rfl, hs7, hk7⟩)
          | (go_at_call 7; refine (HEV.out qa qc _ hk7 hs7).mono ?_; rintro _ w8 ⟨rfl, hk8⟩; have k9 := (hk7.trans hk8 (fun _ f _ => f)).andAlloc (.cells #[.int .i64 x.v, .int .i64 S, .int .i64 ((k : Int) - (j : Int)), .int .i64 dp, .int .i64 sp] 38); have b9 := heap_alloc_new w8 (.cells #[.int .i64 x.v, .int .i64 S, .int .i64 ((k : Int) - (j : Int)), .int .i64 dp, .int .i64 sp] 38); have e0 := (blk_cell b9 0).trans rfl; have e1 := (blk_cell b9 1).trans rfl; have e2 := (blk_cell b9 2).trans rfl; have v6 := (blk_cell (blk_kept HM.out.2.2 k9 (fun f => f)) 6).trans rfl; have HK9 : Hid _ := k9; clear k9 b9))
        go_ret
        exact ⟨rfl, HC.out.1.trans HK9.out (fun _ f _ => f)⟩
end Go.Proofs.YtfccnmgbdkideaaDoor
