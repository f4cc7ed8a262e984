import Derived.Test.YtcjmceedkfjbeaaDoorPkAM
/-! readProgram and Decode of an image. -/
namespace Go.Proofs.YtcjmceedkfjbeaaDoor
set_option linter.unusedVariables false
set_option maxRecDepth 20000
open Go.RowKit Go.HeapKit

theorem SeenW.first {w : World} {a : Option Addr} {n : Nat} {zs : List Int} (h : SeenW w a n zs) (k : Nat) (hk : k ≤ n) : SeenW w a k (zs.take k) := by
  have hl := h.len
  have hm := h.most
  refine ⟨by simp; omega, by omega, fun x hx => h.ok x (List.mem_of_mem_take hx), fun h0 => ?_⟩
  obtain ⟨b, off, rfl, hb, hc⟩ := h.ex (by omega)
  refine ⟨b, off, rfl, hb, fun j x hx => hc j x ?_⟩
  rw [List.getElem?_take] at hx
  split at hx
  · exact hx
  · cases hx
set_option maxHeartbeats 4000000 in
theorem read_good (b off n c : Nat) (zs r : List Int) (m : Nat) (fs : List Fn) (x : Int) (w : World) (hS : SeenW w (some ⟨b, off, none⟩) (n + 1) zs) (hn : 2 ≤ n) (hc : n + 1 ≤ c) (hcm : c ≤ maxLen) (hx : zs[n]? = some x) (hb : x = sumV (zs.take n)) (hz : zs.take n = 1886156142 :: (m : Int) :: r)
    (hm1 : 1 ≤ m) (hm2 : m ≤ 32) (hr : readFns m r = some (fs, [])) (hf : fs.length = m) :
    Calls Tryd.prog 21 #[.slice (some ⟨b, off, none⟩) (n + 1) c] w fun e w' => ∃ gb, e = .returned (.agg #[.slice (some ⟨gb, 0, none⟩) m m]) ∧ (∀ (S : Nat → Prop) w'', Keeps S w' w'' → (∀ k, S k → k < w.heap.size) → SeenF w'' (some ⟨gb, 0, none⟩) m fs) ∧ Keeps None w w' ∧ w.heap.size ≤ gb := by
  obtain ⟨_, _, e0, hlt, hcell⟩ := hS.ex (by omega)
  injection e0 with e0
  injection e0 with e1 e2 _
  subst e1 e2
  have hal := Keeps.alloc None w (.cells #[.slice none 0 0] 25)
  have bA := heap_alloc_new w (.cells #[.slice none 0 0] 25)
  have y := hal.cell (hcell n x hx) (fun f => f)
  have hsm := fun wx (hk : Keeps None w wx) => sum_any (some ⟨b, off, none⟩) n c (zs.take n) wx ((hS.more hk).first n (by omega))
  rw [← hb] at hsm
  obtain ⟨wa, hwa⟩ : ∃ wa, wa = w.alloc (.cells #[.slice none 0 0] 25) := ⟨_, rfl⟩
  obtain ⟨A1, hA1⟩ : ∃ A1, A1 = w.heap.size := ⟨_, rfl⟩
  rw [← hwa] at hal bA y
  rw [← hA1] at bA
  have hmost := hS.most
  have i1 : (3 : Int) ≤ ((n + 1 : Nat) : Int) := by omega
  have i2 : wrap64 (((n + 1 : Nat) : Int) - 1) = (n : Int) := by unfold wrap64; omega
  have i3 : (n : Int) < ((n + 1 : Nat) : Int) := by omega
  have i4 : (n : Int) ≤ (c : Int) := by omega
  have i5 : (0 : Int) ≤ (n : Int) := by omega
  have hS2 := hS.first n (by omega)
  rw [hz] at hS2
  have HS : Hid (SeenW w (some ⟨b, off, none⟩) n (1886156142 :: (m : Int) :: r) ∧ readFns m r = some (fs, []) ∧ fs.length = m ∧ Keeps None w wa ∧ wa.heap[A1]? = some (.cells #[.slice none 0 0] 25 (0, 0)) ∧ A1 = w.heap.size ∧ n ≤ c ∧ c ≤ maxLen) := ⟨hS2, hr, hf, hal, bA, hA1, by omega, hcm⟩
  have HSM : Hid _ := hsm
  clear hS hcell hx hb hz hr hf hal bA hsm hS2
  go_enter Tryd.func21, Tryd.ntmps21
  go_upto_region 4 with fail
  rw [← hwa, ← hA1]
  clear hwa hA1
  go_quiet ((go_at_call 26; exact Calls.quiet_of_same (HSM.out _ (HS.out.2.2.2.1.trans (Keeps.drewN None _ _) (fun _ f _ => f)))))
  go_upto_region 6 with fail
  obtain ⟨wq, hwq⟩ : ∃ wq, wq = wa.drewN nq := ⟨_, rfl⟩
  have hkq : Keeps None wa wq := by rw [hwq]; exact Keeps.drewN None wa nq
  rw [← hwq]
  obtain ⟨R, hR⟩ : ∃ R, R = wq.heap.size := ⟨_, rfl⟩
  have HQ : Hid (Keeps None wa wq ∧ R = wq.heap.size) := ⟨hkq, hR⟩
  clear hwq hkq hR y
  go_cut [4] (fun s4 wx => s4 = .pointer (some ⟨R, 0, none⟩) ∧ wx.heap[R]? = some (.cells #[.slice (some ⟨b, off, none⟩) n c] 67 (0, 0)) ∧ Keeps None wq wx)
  case first =>
    go_wp2_with fail
    go_meet
    rw [HQ.out.2]
    exact ⟨rfl, heap_alloc_new _ _, Keeps.alloc None _ _⟩
  case rest =>
    obtain ⟨rfl, hRb, hk6⟩ := hcut
    have hkA := HQ.out.1.trans hk6 (fun _ f _ => f)
    have hkw := HS.out.2.2.2.1.trans hkA (fun _ f _ => f)
    have hRlow : w.heap.size ≤ R := by have h1 := HS.out.2.2.2.1.size; have h2 := HQ.out.1.size; have h3 := HQ.out.2; omega
    have h0 : IsRd w wc R (1886156142 :: (m : Int) :: r) := ⟨hkw, hRlow, some ⟨b, off, none⟩, n, c, hRb, HS.out.1, HS.out.2.2.2.2.2.2.1, HS.out.2.2.2.2.2.2.2⟩
    have hA0 := blk_kept HS.out.2.2.2.2.1 hkA (fun f => f)
    have nRA : ¬ A1 = R := blk_ne hA0 hRb (by decide)
    have HW : Hid (wc.heap[A1]? = some (.cells #[.slice none 0 0] 25 (0, 0)) ∧ Keeps None w wc ∧ ¬ A1 = R ∧ w.heap.size ≤ R ∧ w.heap.size ≤ A1 ∧ R < wc.heap.size) := ⟨hA0, hkw, nRA, hRlow, by have := HS.out.2.2.2.2.2.1; omega, blk_lt hRb⟩
    have hwd := word_some w R 1886156142 ((m : Int) :: r) wc h0
    clear hRb hk6 hkA hkw hRlow h0 hA0 nRA
    have j1 : (1 : Int) ≤ (m : Int) := by omega
    have j2 : (m : Int) ≤ 32 := by omega
    have HMK : Hid (∀ wx, _) := fun wx => fs_made wx m hm2
    go_upto_region 10 with (first
      | (go_at_call 36; refine hwd.mono ?_; rintro _ w1 ⟨rfl, h1, k1⟩)
      | (go_at_call 37; refine (count_some w R 32 m r w1 h1 j1 j2).mono ?_; rintro _ w2 ⟨rfl, h2, k2⟩; obtain ⟨w3, hr3, hF3, k3, z3⟩ := HMK.out w2)
      | (at_make; refine wpList_make_run rfl (.tmp 31) (.tmp 31) 23 rfl rfl rfl hr3 ?_))
    obtain ⟨gb, hgb⟩ : ∃ gb, gb = w2.heap.size := ⟨_, rfl⟩
    obtain ⟨PB, hPB⟩ : ∃ PB, PB = w2.heap.size + 1 := ⟨_, rfl⟩
    have hal4 := Keeps.alloc None w3 (.cells #[.slice (some ⟨w2.heap.size, 0, none⟩) m m] 25)
    have b4 := heap_alloc_new w3 (.cells #[.slice (some ⟨w2.heap.size, 0, none⟩) m m] 25)
    obtain ⟨w4, hw4⟩ : ∃ w4, w4 = w3.alloc (.cells #[.slice (some ⟨w2.heap.size, 0, none⟩) m m] 25) := ⟨_, rfl⟩
    rw [← hw4] at hal4 b4
    rw [z3, ← hPB, ← hgb] at b4
    rw [← hgb] at hF3
    have hk34 := k3.trans hal4 (fun _ f _ => f)
    have hk12 : Keeps (· = R) wc w2 := k1.trans k2 (fun _ e _ => e)
    have h4 : IsRd w w4 R r := h2.kept hk34 (fun _ f => f.elim)
    have s12 := hk12.size
    have s4 := hal4.size
    have nG : gb ≠ R := by have := HW.out.2.2.2.2.2; omega
    have nP : PB ≠ R := by have := HW.out.2.2.2.2.2; omega
    have nA1 := blk_lt HW.out.1
    have nAG : A1 ≠ gb := by omega
    have nAP : A1 ≠ PB := by omega
    have nGP : gb ≠ PB := by omega
    have H4 : Hid (IsRd w w4 R r ∧ IsFs w4 gb (List.replicate m z4) ∧ w4.heap[PB]? = some (.cells #[.slice (some ⟨gb, 0, none⟩) m m] 25 (0, 0)) ∧ w4.heap[A1]? = some (.cells #[.slice none 0 0] 25 (0, 0)) ∧ R < w4.heap.size ∧ gb ≠ R ∧ PB ≠ R ∧ A1 ≠ gb ∧ A1 ≠ PB ∧ gb ≠ PB ∧ w.heap.size ≤ gb ∧ w.heap.size ≤ PB) := by
      refine ⟨h4, hF3.kept hal4 (fun f => f), b4, blk_kept (blk_kept HW.out.1 hk12 HW.out.2.2.1) hk34 (fun f => f), by have := HW.out.2.2.2.2.2; omega, nG, nP, nAG, nAP, nGP, by have := HW.out.2.1.size; omega, by have := HW.out.2.1.size; omega⟩
    rw [← hw4, ← hPB, ← hgb]
    have d4 := (cell_of_heap b4 0).trans rfl
    clear hw4 hgb hPB hal4 b4 hk34 hk12 h4 s12 s4 nG nP nA1 nAG nAP nGP h1 h2 k1 k2 hr3 hF3 k3 z3 hwd
    go_wp2_with fail
    clear d4
    go_loopw [37] (fun s37 wr => ∃ (k : Nat) (E : List V4) (zk : List Int), k ≤ m ∧ s37 = .int .i64 k ∧ IsRd w wr R zk ∧ readFns (m - k) zk = some (fs.drop k, []) ∧ IsFs wr gb E ∧ E.length = m ∧ Laid w.heap.size wr E fs k ∧ wr.heap[PB]? = some (.cells #[.slice (some ⟨gb, 0, none⟩) m m] 25 (0, 0)) ∧ wr.heap[A1]? = some (.cells #[.slice none 0 0] 25 (0, 0)) ∧ R < wr.heap.size) (fun i _ => m - (intOf i).toNat)
    case atStart => exact ⟨0, _, r, Nat.zero_le _, rfl, H4.out.1, by simpa using HS.out.2.1, H4.out.2.1, by simp, fun j f h => by omega, H4.out.2.2.1, H4.out.2.2.2.1, H4.out.2.2.2.2.1⟩
    case round =>
      obtain ⟨k, E, zk, hk, rfl, h0, hread, hE, hEl, hL, hP, hA, hRlt⟩ := hrel
      have d0 := (cell_of_heap hP 0).trans rfl
      by_cases hkm : k < m
      · have i6 : (k : Int) < (m : Int) := by omega
        obtain ⟨f, r1, hfk, hrf, hrest⟩ := fns_step hkm hread HS.out.2.2.1
        have hfn0 := fn_any w R zk wr.drew (h0.kept (Keeps.drew None wr) (fun _ f => f.elim)) hRlt (by rw [hrf]; simp)
        rw [hrf] at hfn0
        have hfn : Calls Tryd.prog 38 #[.pointer (some ⟨R, 0, none⟩)] wr.drew fun e w' => ∃ cb, e = .returned (.agg #[.int .i64 f.params, .int .i64 f.regs, .int .i64 f.slots, .slice (some ⟨cb, 0, none⟩) f.code.length f.code.length]) ∧ IsCode w' cb f.code ∧ IsRd w w' R r1 ∧ Keeps (· = R) wr.drew w' ∧ wr.drew.heap.size ≤ cb := hfn0.mono fun e w' h => h
        have nPG : PB ≠ gb := H4.out.2.2.2.2.2.2.2.2.2.1.symm
        have hRt : ∃ c t z, wr.heap[R]? = some (.cells c t z) ∧ t ≠ 42 := by
          obtain ⟨a', n', c', hb', _⟩ := h0.ex
          exact ⟨_, _, _, hb', by decide⟩
        have s0 : wr.drew.cell? ⟨PB, 0, none⟩ = some (.slice (some ⟨gb, 0, none⟩) m m) := d0
        have HK : Hid (fs[k]? = some f ∧ readFns (m - (k + 1)) r1 = some (fs.drop (k + 1), []) ∧ IsFs wr gb E ∧ E.length = m ∧ Laid w.heap.size wr E fs k ∧ wr.heap[PB]? = some (.cells #[.slice (some ⟨gb, 0, none⟩) m m] 25 (0, 0)) ∧ wr.heap[A1]? = some (.cells #[.slice none 0 0] 25 (0, 0)) ∧ R < wr.heap.size ∧ (∃ c t z, wr.heap[R]? = some (.cells c t z) ∧ t ≠ 42) ∧ w.heap.size ≤ wr.drew.heap.size) := ⟨hfk, hrest, hE, hEl, hL, hP, hA, hRlt, hRt, h0.base.size⟩
        clear hfk hrest hE hEl hL hP hA hRlt hRt hread hrf hfn0 h0
        go_upto_region 13 with fail
        go_region_held3 (fun w' => w'.cell? ⟨PB, 0, none⟩ = some (.slice (some ⟨gb, 0, none⟩) m m)) (first | with_reducible exact sE | with_reducible exact s5 | go_keep) (first
          | (go_at_call 38; refine hfn.mono ?_; rintro _ w5 ⟨cb, rfl, hc5, h5, k5, hcb⟩; have s5 : w5.cell? ⟨PB, 0, none⟩ = some (.slice (some ⟨gb, 0, none⟩) m m) := k5.cell s0 H4.out.2.2.2.2.2.2.1; have k05 : Keeps (· = R) wr w5 := (Keeps.drew (· = R) wr).trans k5 (fun _ e _ => e); have hE5 : IsFs w5 gb E := HK.out.2.2.1.kept k05 H4.out.2.2.2.2.2.1; obtain ⟨y0, y1, y2, y3⟩ := v4_at E k _ (List.getElem?_eq_getElem (by have := HK.out.2.2.2.1; omega)); have Y0 := (blk_cell hE5.blk (k * 4)).trans (by simpa using y0); have Y1 := (blk_cell hE5.blk (k * 4 + 1)).trans (by simpa using y1); have Y2 := (blk_cell hE5.blk (k * 4 + 2)).trans (by simpa using y2); have Y3 := (blk_cell hE5.blk (k * 4 + 3)).trans (by simpa using y3); have Z0 := blk_free hE5.blk (k * 4); have Z1 := blk_free hE5.blk (k * 4 + 1); have Z2 := blk_free hE5.blk (k * 4 + 2); have Z3 := blk_free hE5.blk (k * 4 + 3); have sE : ((((w5.setCell ⟨gb, k * 4, none⟩ (.int .i64 f.params)).setCell ⟨gb, k * 4 + 1, none⟩ (.int .i64 f.regs)).setCell ⟨gb, k * 4 + 2, none⟩ (.int .i64 f.slots)).setCell ⟨gb, k * 4 + 3, none⟩ (.slice (some ⟨cb, 0, none⟩) f.code.length f.code.length)).cell? ⟨PB, 0, none⟩ = some (.slice (some ⟨gb, 0, none⟩) m m) := (hE5.set k (by have := HK.out.2.2.2.1; omega) (e4 f cb)).2.cell s5 nPG))
        all_goals go_wp2_with fail
        all_goals
          have hkl : k < E.length := by have := HK.out.2.2.2.1; omega
          obtain ⟨hEE, kE⟩ := hE5.set k hkl (e4 f cb)
          have hL5 : Laid w.heap.size w5 E fs k := HK.out.2.2.2.2.1.kept k05 (fun g e => by subst e; exact .inr HK.out.2.2.2.2.2.2.2.2.1)
          have hgt : w5.heap[gb]? = some (.cells (E.flatMap v4).toArray 40 (0, 0)) := hE5.blk
          have hL6 := hL5.kept kE (fun g e => by subst e; exact .inr ⟨_, _, _, hgt, by decide⟩)
          have ncb : ¬ cb = gb := blk_ne hc5.blk hgt (by decide)
          have hc6 := hc5.kept kE ncb
          refine ⟨⟨k + 1, E.set k (e4 f cb), r1, by omega, by simp, h5.kept kE (fun i e => by subst e; exact ⟨H4.out.2.2.2.2.2.2.2.2.2.2.1, H4.out.2.2.2.2.2.1⟩), HK.out.2.1, hEE, by simpa using HK.out.2.2.2.1, fun j f' hj hf' => ?_, blk_kept (blk_kept HK.out.2.2.2.2.2.1 k05 H4.out.2.2.2.2.2.2.1) kE nPG, blk_kept (blk_kept HK.out.2.2.2.2.2.2.1 k05 HW.out.2.2.1) kE H4.out.2.2.2.2.2.2.2.1, Nat.lt_of_lt_of_le HK.out.2.2.2.2.2.2.2.1 (Nat.le_trans k05.size kE.size)⟩, by simp [intOf]; omega⟩
          by_cases ej : j = k
          · subst ej
            rw [HK.out.1] at hf'
            obtain rfl := Option.some.inj hf'
            exact ⟨cb, by rw [List.getElem?_set_self hkl], hc6, Nat.le_trans HK.out.2.2.2.2.2.2.2.2.2 hcb⟩
          · obtain ⟨cb', h1, h2, h3⟩ := hL6 j f' (by omega) hf'
            exact ⟨cb', by rw [List.getElem?_set_ne (Ne.symm ej)]; exact h1, h2, h3⟩
      · have hkm2 : k = m := by omega
        subst hkm2
        have i6 : ¬ ((k : Int) < (k : Int)) := by omega
        have hzk : zk = [] := by
          rw [Nat.sub_self] at hread
          simp [readFns] at hread
          exact hread.2
        subst hzk
        obtain ⟨a', n', c', hRb, hsw, _⟩ := h0.ex
        have hn0 : n' = 0 := hsw.len
        subst hn0
        have dR := (cell_of_heap hRb 0).trans rfl
        have a0 := (cell_of_heap hA 0).trans rfl
        have z0 := blk_free hA 0
        have bE := blk_set (i := 0) hA (.slice (some ⟨gb, 0, none⟩) k k)
        have kE : Keeps (· = A1) wr (wr.setCell ⟨A1, 0, none⟩ (.slice (some ⟨gb, 0, none⟩) k k)) := Keeps.setCell (S := (· = A1)) wr (a := ⟨A1, 0, none⟩) rfl _
        have hL6 := hL.kept kE (fun g e => by subst e; exact .inr ⟨_, _, _, hA, by decide⟩)
        have hEE := hE.kept kE H4.out.2.2.2.2.2.2.2.1.symm
        have hsf : ∀ (S : Nat → Prop) w'', Keeps S (wr.setCell ⟨A1, 0, none⟩ (.slice (some ⟨gb, 0, none⟩) k k)) w'' → (∀ i, S i → i < w.heap.size) → SeenF w'' (some ⟨gb, 0, none⟩) k fs := fun S w'' hk hS => laid_seen (hEE.kept hk (fun h => by have := hS _ h; have := H4.out.2.2.2.2.2.2.2.2.2.2.1; omega)) (hL6.kept hk (fun g h => .inl (hS g h))) HS.out.2.2.1.symm
        have HE : Hid ((∀ (S : Nat → Prop) w'', Keeps S _ w'' → (∀ i, S i → i < w.heap.size) → SeenF w'' (some ⟨gb, 0, none⟩) k fs) ∧ Keeps None w _ ∧ _) := ⟨hsf, h0.base.trans kE (fun i e hi => by have := HW.out.2.2.2.2.1; omega), bE⟩
        clear hread hsw h0 hRb hE hEl hL hP hA bE kE hL6 hsf hEE
        go_wp2_with fail
        refine bodyPost_ret (results_one (q := 2) (ty := 25) rfl rfl (run_loadVar_row _ A1 _ 25 _ _ _ HE.out.2.2 Tryd.underlying25 rfl (by kernel_rfl))) rfl ?_
        exact ⟨gb, rfl, HE.out.1, HE.out.2.1, H4.out.2.2.2.2.2.2.2.2.2.2.1⟩
end Go.Proofs.YtcjmceedkfjbeaaDoor
