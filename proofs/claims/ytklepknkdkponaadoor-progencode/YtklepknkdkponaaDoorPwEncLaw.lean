import Derived.Test.YtklepknkdkponaaDoorPwEnc
/-! ProgEncode. -/
namespace Go.Proofs.YtklepknkdkponaaDoor
set_option linter.unusedVariables false
set_option maxRecDepth 20000
open Go.RowKit Go.HeapKit

theorem words_set {w : World} {base g n cap : Nat} {xs : List Int} (h : w.ownsRow base 2 1 (.slice (some ⟨g, 0, none⟩) n cap) n (xs.map (Value.int .i64))) (k : Nat) (x : Int) :
    (w.setCell ⟨g, k, none⟩ (.int .i64 x)).ownsRow base 2 1 (.slice (some ⟨g, 0, none⟩) n cap) n ((xs.set k x).map (Value.int .i64)) := by
  rcases h.2 with ⟨h0, _⟩ | ⟨g', cap', cur, he, hb, hg, hn, hm, hcs, ht⟩
  · cases h0
  · injection he with e1 e2 e3
    injection e1 with e1
    injection e1 with e1
    subst e1 e3
    refine ⟨by simpa using h.1, .inr ⟨g, cap, cur.setIfInBounds k (.int .i64 x), rfl, hb, blk_set hg _, hn, hm, by simpa using hcs, ?_⟩⟩
    rw [Array.toList_setIfInBounds, List.take_set, ht, List.map_set]
/-- One word behind words; the row stays or is new. -/
theorem word_more (base : Nat) (s : Value) (zs : List Int) (x : Int) (n ty g0 : Nat) (w : World) (hn : n = zs.length) (h : w.ownsRow base 2 1 s n (zs.map (Value.int .i64))) (hb : base ≤ w.heap.size) (hlen : (n + 1) * 8 ≤ 140737488355328)
    (hg0 : w.heap[g0]? = some (.cells #[.int .i64 x] 2 (0, 0))) :
    ∃ g cap w', (Builtin.append_ #[55, 55] ty #[s, .slice (some ⟨g0, 0, none⟩) 1 1]).run Tryd.prog w = .ok (.slice (some ⟨g, 0, none⟩) (n + 1) cap) w' ∧
      w'.ownsRow base 2 1 (.slice (some ⟨g, 0, none⟩) (n + 1) cap) (n + 1) ((zs ++ [x]).map (Value.int .i64)) ∧ Keeps (fun k => s.ownBlock = some k) w w' ∧ Moved w s (.slice (some ⟨g, 0, none⟩) (n + 1) cap) := by
  obtain ⟨i0, hi, hz0, hz1, hz2⟩ := info_parts Tryd.infoI64
  obtain ⟨v', w1, hr, ho, hgr, hmv, -⟩ := run_append_moved (P := Tryd.prog) w base 55 ty 2 i0 _ 1 8 Tryd.underlying55 hi hz0 hz1 hz2 rfl (by decide) s n _ h
    ⟨g0, 0, none⟩ 1 1 [.int .i64 x] (by simp) (by
      intro j u hu
      rw [show (⟨g0, 0, none⟩ : Addr).add j = ⟨g0, j, none⟩ by unfold Addr.add; split <;> simp_all, blk_cell hg0]
      simpa using hu) (by
      intro u hu
      simp only [List.mem_singleton] at hu
      subst hu
      rfl) (by unfold maxLen; omega) hlen hb
  obtain ⟨g, cap, rfl⟩ : ∃ g cap, v' = .slice (some ⟨g, 0, none⟩) (n + 1) cap := by
    rcases ho.2 with ⟨_, h0⟩ | ⟨b, cap, cur, rfl, _⟩
    · omega
    · exact ⟨b, cap, rfl⟩
  exact ⟨g, cap, w1, hr, by rw [List.map_append]; exact ho, (Keeps.refl _ w).andGrown hgr (fun k e => .inl e), hmv⟩
theorem words_at {w : World} {base : Nat} {a : Option Addr} {n cap : Nat} {xs : List Int} (h : w.ownsRow base 2 1 (.slice a n cap) n (xs.map (Value.int .i64))) {k : Nat} (hk : k < n) : ∃ g x, a = some ⟨g, 0, none⟩ ∧ w.cell? ⟨g, k, none⟩ = some (.int .i64 x) ∧ w.frozen? ⟨g, k, none⟩ = false := by
  have hl := h.1
  rw [List.length_map] at hl
  rcases h.2 with ⟨_, h1⟩ | ⟨g, cap', cur, h1, _⟩
  · omega
  · simp only [Value.slice.injEq] at h1
    obtain ⟨rfl, -, -⟩ := h1
    obtain ⟨cur, hb⟩ := own_block h (g := g) rfl
    have := own_at h k (xs[k]'(by omega)) (List.getElem?_eq_getElem _)
    rw [Nat.zero_add] at this
    exact ⟨g, _, rfl, this, blk_free hb k⟩
set_option maxHeartbeats 4000000 in
theorem progEncode_walk (a : Option Addr) (n c : Nat) (l : List Fn) (w : World) (hT : Tabs w) (hS : SeenF w a n l) (hok : ∀ f ∈ l, f.Ok) (hr : n * 48 ≤ 140737488351232 ∧ ∀ f ∈ l, f.code.length * 40 ≤ 140737488351232) :
    Calls Tryd.prog 6 #[.agg #[.slice a n c]] w fun e w' => e = .returned (.bool true) ∧ Keeps None w w' := by
  obtain ⟨hr, hrc⟩ := hr
  have hn := hS.len
  obtain ⟨e2, h2⟩ : ∃ e2, e2 = (checkV l).1 := ⟨_, rfl⟩
  have b1 := heap_alloc_new w (.cells #[.slice a n c] 24)
  have k1 := Keeps.alloc None w (.cells #[.slice a n c] 24)
  obtain ⟨B, hB⟩ : ∃ B, B = w.heap.size := ⟨_, rfl⟩
  obtain ⟨w1, hw1⟩ : ∃ w1, w1 = w.alloc (.cells #[.slice a n c] 24) := ⟨_, rfl⟩
  rw [← hw1] at b1 k1
  rw [← hB] at b1
  have hrf := rencode_ans a n c l w1 (hS.more k1) hok
  rw [← h2] at hrf
  have HC : Hid (Tabs w ∧ SeenF w a n l ∧ (∀ f ∈ l, f.Ok) ∧ (∀ f ∈ l, f.code.length * 40 ≤ 140737488351232) ∧ n = l.length ∧ e2 = (checkV l).1) := ⟨hT, hS, hok, hrc, hn, h2⟩
  have H1 : Hid (w1.heap[B]? = some (.cells #[.slice a n c] 24 (0, 0)) ∧ Keeps None w w1) := ⟨b1, k1⟩
  have d0 : w1.cell? ⟨B, 0, none⟩ = some (.slice a n c) := (cell_of_heap b1 0).trans rfl
  clear hT hS hok hrc h2 b1 k1 hn
  go_enter Tryd.func6, Tryd.ntmps6
  go_upto_region 1 with fail
  rw [← hw1, ← hB]
  clear hw1 hB
  go_wp2_with fail
  refine hrf.mono ?_
  rintro e w3 ⟨x0, N, c0, rfl, hk3, hA0⟩
  clear d0 hrf
  have H3 : Hid (Keeps None w w3 ∧ AnsW w1.heap.size w3 l x0 N c0 ∧ w3.heap[B]? = some (.cells #[.slice a n c] 24 (0, 0))) := ⟨H1.out.2.trans hk3 (fun _ f _ => f), hA0, blk_kept H1.out.1 hk3 (fun f => f)⟩
  have hNm := hA0.most
  clear hk3 hA0
  go_upto_region 2 with fail
  have d0 : w3.cell? ⟨B, 0, none⟩ = some (.slice a n c) := (cell_of_heap H3.out.2.2 0).trans rfl
  have hwr := wrap_any a n c l w3 (HC.out.2.1.more H3.out.1) hr HC.out.2.2.2.1
  go_wp2_with fail
  refine hwr.mono ?_
  rintro e w4 ⟨G, cv, cs, rfl, hg4, hk4⟩
  clear d0 hwr
  obtain ⟨xa, xm, xc, hcv⟩ : ∃ xa xm xc, cv = .slice xa xm xc := by
    rcases hg4.codes.2 with ⟨rfl, h0⟩ | ⟨g, cap, cur, rfl, _⟩
    · exact ⟨none, 0, 0, rfl⟩
    · exact ⟨_, _, cap, rfl⟩
  subst hcv
  have k5 := Keeps.alloc None w4 (.cells #[.slice (some ⟨G, 0, none⟩) n (n + 1), .slice (some ⟨G, 0, none⟩) (n + 1) (n + 1), .slice xa xm xc] 31)
  have b5 := heap_alloc_new w4 (.cells #[.slice (some ⟨G, 0, none⟩) n (n + 1), .slice (some ⟨G, 0, none⟩) (n + 1) (n + 1), .slice xa xm xc] 31)
  obtain ⟨D, hD⟩ : ∃ D, D = w4.heap.size := ⟨_, rfl⟩
  rw [← hD] at b5
  have k45 := hk4.trans k5 (fun _ f _ => f)
  have H5 : Hid (IsGift w3.heap.size (w4.alloc (.cells #[.slice (some ⟨G, 0, none⟩) n (n + 1), .slice (some ⟨G, 0, none⟩) (n + 1) (n + 1), .slice xa xm xc] 31)) G (.slice xa xm xc) cs l [oddFc] ∧ Keeps None w3 (w4.alloc (.cells #[.slice (some ⟨G, 0, none⟩) n (n + 1), .slice (some ⟨G, 0, none⟩) (n + 1) (n + 1), .slice xa xm xc] 31)) ∧ (w4.alloc (.cells #[.slice (some ⟨G, 0, none⟩) n (n + 1), .slice (some ⟨G, 0, none⟩) (n + 1) (n + 1), .slice xa xm xc] 31)).heap[D]? = some (.cells #[.slice (some ⟨G, 0, none⟩) n (n + 1), .slice (some ⟨G, 0, none⟩) (n + 1) (n + 1), .slice xa xm xc] 31 (0, 0))) := ⟨hg4.more k5, k45, b5⟩
  clear k5 b5 k45 hg4 hk4
  go_upto_region 3 with fail
  rw [← hD]
  clear hD
  generalize w4.alloc (.cells #[.slice (some ⟨G, 0, none⟩) n (n + 1), .slice (some ⟨G, 0, none⟩) (n + 1) (n + 1), .slice xa xm xc] 31) = w5 at *
  have d0 : w5.cell? ⟨D, 0, none⟩ = some (.slice (some ⟨G, 0, none⟩) n (n + 1)) := (cell_of_heap H5.out.2.2 0).trans rfl
  have k05 : Keeps None w w5 := H3.out.1.trans H5.out.2.1 (fun _ f _ => f)
  have hsg := H5.out.1.seen
  rw [← HC.out.2.2.2.2.1] at hsg
  have hck := fun wx (hk : Keeps None w5 wx) => encode_ans (some ⟨G, 0, none⟩) n (n + 1) l wx (HC.out.1.more (k05.trans hk (fun _ f _ => f))) (hsg.more hk) HC.out.2.2.1
  rw [← HC.out.2.2.2.2.2] at hck
  have HCK : Hid _ := hck
  have HK5 : Hid _ := k05
  clear k05 hsg hck
  go_wp2_with fail
  refine (HCK.out w5 (Keeps.refl _ _)).mono ?_
  rintro e w6 ⟨x1, N1, c1, rfl, hk6, hA1⟩
  clear d0
  have nn : N1 = N := by rw [hA1.len, H3.out.2.1.len]
  subst nn
  have H6 : Hid (Keeps None w5 w6 ∧ AnsW w5.heap.size w6 l x1 N1 c1) := ⟨hk6, hA1⟩
  clear hk6 hA1
  go_upto_region 4 with fail
  have d0 : w6.cell? ⟨D, 0, none⟩ = some (.slice (some ⟨G, 0, none⟩) n (n + 1)) := (cell_of_heap (blk_kept H5.out.2.2 H6.out.1 (fun f => f)) 0).trans rfl
  go_wp2_with fail
  refine (HCK.out w6 H6.out.1).mono ?_
  rintro e w7 ⟨x2, N2, c2, rfl, hk7, hA2⟩
  clear d0
  have nn : N2 = N1 := by rw [hA2.len, H3.out.2.1.len]
  subst nn
  have k57 := H6.out.1.trans hk7 (fun _ f _ => f)
  have k37 := H5.out.2.1.trans k57 (fun _ f _ => f)
  have k07 := HK5.out.trans k57 (fun _ f _ => f)
  have hs1 := sameWords_any x1 x0 N2 c1 c0 (ansW l) w7 (H6.out.2.more hk7).seen (H3.out.2.1.more k37).seen
  have H7 : Hid (Keeps None w6 w7 ∧ Keeps None w5 w7 ∧ AnsW w6.heap.size w7 l x2 N2 c2 ∧ AnsW w5.heap.size w7 l x1 N2 c1) := ⟨hk7, k57, hA2, H6.out.2.more hk7⟩
  clear hk7 hA2 k57 k37 k07
  go_upto_region 5 with fail
  go_wp2_with fail
  refine hs1.mono ?_
  rintro e w8 ⟨rfl, hk8⟩
  clear hs1
  have H8 : Hid (Keeps None w5 w8 ∧ AnsW w6.heap.size w8 l x2 N2 c2 ∧ AnsW w5.heap.size w8 l x1 N2 c1 ∧ w6.heap.size ≤ w8.heap.size ∧ ∀ g, (Value.slice x1 N2 c1).ownBlock = some g → g < w6.heap.size) := ⟨H7.out.2.1.trans hk8 (fun _ f _ => f), H7.out.2.2.1.more hk8, H7.out.2.2.2.more hk8, Nat.le_trans H7.out.1.size hk8.size, fun g hg => own_lt H6.out.2.own hg⟩
  clear hk8
  go_upto_region 7 with fail
  go_wp2_with fail
  go_loopw [10] (fun s10 wr => ∃ (k : Nat) (ys : List Int), s10 = .int .i64 k ∧ k ≤ N2 ∧ ys.length = N2 ∧ wr.ownsRow w5.heap.size 2 1 (.slice x1 N2 c1) N2 (ys.map (Value.int .i64)) ∧ Keeps (fun q => w5.heap.size ≤ q ∧ q < w6.heap.size) w8 wr) (fun i _ => N2 - (intOf i).toNat)
  case atStart => exact ⟨0, ansW l, rfl, Nat.zero_le _, H8.out.2.2.1.len.symm, H8.out.2.2.1.own, Keeps.refl _ _⟩
  case round =>
    obtain ⟨k, ys, rfl, hk, hys, hrow, hkp⟩ := hrel
    by_cases hkn : k < N2
    · obtain ⟨g, x, rfl, e0, z0⟩ := words_at hrow hkn
      have i1 : (k : Int) < (N2 : Int) := by omega
      have hr2 := words_set hrow k (-7)
      have HN : Hid (∃ ys : List Int, ys.length = N2 ∧ (wr.setCell ⟨g, k, none⟩ (.int .i64 (-7))).ownsRow w5.heap.size 2 1 (.slice (some ⟨g, 0, none⟩) N2 c1) N2 (ys.map (Value.int .i64)) ∧ Keeps (fun q => w5.heap.size ≤ q ∧ q < w6.heap.size) w8 (wr.setCell ⟨g, k, none⟩ (.int .i64 (-7)))) :=
        ⟨_, by simpa using hys, hr2, hkp.andSet (x := ⟨g, k, none⟩) (.inl ⟨own_low hrow rfl, H8.out.2.2.2.2 g rfl⟩) _⟩
      clear hrow hkp hr2 hys
      go_wp2_with fail
      obtain ⟨l2, h1, h2, h3⟩ := HN.out
      exact ⟨⟨k + 1, l2, by simp, by omega, h1, h2, h3⟩, by simp [intOf]; omega⟩
    · have i1 : ¬ (k : Int) < (N2 : Int) := by omega
      have H9 : Hid (wr.ownsRow w5.heap.size 2 1 (.slice x1 N2 c1) N2 (ys.map (Value.int .i64)) ∧ Keeps (fun q => w5.heap.size ≤ q ∧ q < w6.heap.size) w8 wr ∧ ys.length = N2) := ⟨hrow, hkp, hys⟩
      clear hrow hkp hys
      go_upto_region 11 with fail
      go_wp2_with fail
      go_loopw [11, 6] (fun s11 s6 wx => ∃ (j M : Nat) (zs : List Int), s11 = .int .i64 j ∧ j ≤ 64 ∧ M = N2 + j ∧ zs.length = M ∧ wx.ownsRow w5.heap.size 2 1 s6 M (zs.map (Value.int .i64)) ∧ Keeps (fun q => w5.heap.size ≤ q ∧ q < w6.heap.size) w8 wx ∧ (∀ g, s6.ownBlock = some g → g < w6.heap.size ∨ w8.heap.size ≤ g)) (fun i _ _ => 64 - (intOf i).toNat)
      case atStart => exact ⟨0, N2, ys, rfl, by omega, rfl, H9.out.2.2, H9.out.1, H9.out.2.1, fun g hg => .inl (H8.out.2.2.2.2 g hg)⟩
      case round =>
        obtain ⟨j, M, zs, rfl, hj, hM, hzs, hrow, hkp, hlow⟩ := hrel
        by_cases hj64 : j < 64
        · have i2 : (j : Int) < 64 := by omega
          have hal := Keeps.alloc None wr (.cells #[.int .i64 (-8)] 2)
          obtain ⟨g7, cap7, w9, hr7, ho7, hk7, hmv⟩ := word_more w5.heap.size u6 zs (-8) M 55 wr.heap.size _ hzs.symm (hal.own hrow (fun _ _ f => f)) (Nat.le_trans (Nat.le_trans H8.out.1.size hkp.size) hal.size) (by omega) (heap_alloc_new wr (.cells #[.int .i64 (-8)] 2))
          have HQ : Hid (w9.ownsRow w5.heap.size 2 1 (.slice (some ⟨g7, 0, none⟩) (M + 1) cap7) (M + 1) ((zs ++ [-8]).map (Value.int .i64)) ∧ Keeps (fun q => w5.heap.size ≤ q ∧ q < w6.heap.size) w8 w9 ∧ (∀ g, (Value.slice (some ⟨g7, 0, none⟩) (M + 1) cap7).ownBlock = some g → g < w6.heap.size ∨ w8.heap.size ≤ g) ∧ (zs ++ [-8]).length = M + 1) := by
            refine ⟨ho7, (hkp.andAlloc _).trans hk7 (fun i e hi => ?_), fun g hg => ?_, by simp [hzs]⟩
            · refine ⟨own_low hrow e, ?_⟩
              rcases hlow i e with h | h
              · exact h
              · omega
            · rcases hmv with h | ⟨g', h, h'⟩
              · rw [h] at hg; exact hlow g hg
              · rw [h] at hg
                obtain rfl := Option.some.inj hg
                exact .inr (Nat.le_trans (Nat.le_trans hkp.size hal.size) h')
          have HM : Hid (M = N2 + j) := hM
          clear hrow hkp hal ho7 hk7 hmv hlow hzs hM
          go_wp2_with (at_builtin; refine wpList_append_run rfl (.tmp 58) (.tmp 59) 55 55 rfl rfl rfl hr7 ?_)
          exact ⟨⟨j + 1, M + 1, _, by simp, by omega, by have := HM.out; omega, HQ.out.2.2.2, HQ.out.1, HQ.out.2.1, HQ.out.2.2.1⟩, by simp [intOf]; omega⟩
        · have i2 : ¬ (j : Int) < 64 := by omega
          have k5r : Keeps None w5 wr := keeps_low H8.out.1 hkp (fun k e => e.1)
          have k3r := H5.out.2.1.trans k5r (fun _ f _ => f)
          have k0r := HK5.out.trans k5r (fun _ f _ => f)
          have hz2 : SeenZ wr x2 N2 (ansW l) := (show AnsW w6.heap.size wr l x2 N2 c2 from ⟨H8.out.2.1.len, hkp.own H8.out.2.1.own (fun g hg hin => by have := own_low H8.out.2.1.own hg; omega)⟩).seen
          have hs2 := sameWords_any x2 x0 N2 c2 c0 (ansW l) wr hz2 (H3.out.2.1.more k3r).seen
          have hun := fun wx (hk : Keeps None wr wx) => untouched_any a n c l wx w3.heap.size G (.slice xa xm xc) cs (HC.out.2.1.more (k0r.trans hk (fun _ f _ => f))) (H5.out.1.more (k5r.trans hk (fun _ f _ => f))) hr HC.out.2.2.2.1
          have hep := fun wx (hk : Keeps None wr wx) => encodePlaced_any a n c l wx (HC.out.1.more (k0r.trans hk (fun _ f _ => f))) (HC.out.2.1.more (k0r.trans hk (fun _ f _ => f))) HC.out.2.2.1 hr HC.out.2.2.2.1
          have bD := blk_kept H5.out.2.2 k5r (fun f => f)
          have bB := blk_kept H3.out.2.2 k3r (fun f => f)
          have H10 : Hid (Keeps None w wr ∧ wr.heap[D]? = some (.cells #[.slice (some ⟨G, 0, none⟩) n (n + 1), .slice (some ⟨G, 0, none⟩) (n + 1) (n + 1), .slice xa xm xc] 31 (0, 0)) ∧ wr.heap[B]? = some (.cells #[.slice a n c] 24 (0, 0))) := ⟨k0r, bD, bB⟩
          have HUN : Hid _ := hun
          have HEP : Hid _ := hep
          clear hrow hkp hlow k5r k3r k0r hz2 bD bB hun hep hzs hM
          go_upto_region 15 with fail
          go_wp2_with fail
          refine hs2.mono ?_
          rintro e w10 ⟨rfl, hk10⟩
          clear hs2
          have bD := blk_kept H10.out.2.1 hk10 (fun f => f)
          have g0 : w10.cell? ⟨D, 0, none⟩ = some (.slice (some ⟨G, 0, none⟩) n (n + 1)) := (cell_of_heap bD 0).trans rfl
          have g1 : w10.cell? ⟨D, 1, none⟩ = some (.slice (some ⟨G, 0, none⟩) (n + 1) (n + 1)) := (cell_of_heap bD 1).trans rfl
          have g2 : w10.cell? ⟨D, 2, none⟩ = some (.slice xa xm xc) := (cell_of_heap bD 2).trans rfl
          have p0 : w10.cell? ⟨B, 0, none⟩ = some (.slice a n c) := (cell_of_heap (blk_kept H10.out.2.2 hk10 (fun f => f)) 0).trans rfl
          have hun := HUN.out w10 hk10
          have H11 : Hid (Keeps None wr w10) := hk10
          clear bD hk10
          go_wp2_with fail
          refine hun.mono ?_
          rintro e w11 ⟨rfl, hk11⟩
          have p1 : w11.cell? ⟨B, 0, none⟩ = some (.slice a n c) := hk11.cell p0 (fun f => f)
          have kr11 := H11.out.trans hk11 (fun _ f _ => f)
          have hep := HEP.out w11 kr11
          have H12 : Hid (Keeps None w w11) := H10.out.1.trans kr11 (fun _ f _ => f)
          clear g0 g1 g2 p0 hk11 kr11 hun
          go_wp2_with fail
          refine hep.mono ?_
          rintro e w12 ⟨rfl, hk12⟩
          have H13 : Hid (Keeps None w w12) := H12.out.trans hk12 (fun _ f _ => f)
          clear hk12 hep
          go_wp2_with fail
          go_ret
          exact ⟨rfl, H13.out⟩
end Go.Proofs.YtklepknkdkponaaDoor
