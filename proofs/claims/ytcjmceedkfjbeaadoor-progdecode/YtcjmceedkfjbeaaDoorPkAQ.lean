import Derived.Test.YtcjmceedkfjbeaaDoorPkAO
import Derived.Test.YtcjmceedkfjbeaaDoorPkAP
/-! Decode's answer with its memory. -/
namespace Go.Proofs.YtcjmceedkfjbeaaDoor
set_option linter.unusedVariables false
set_option maxRecDepth 20000
open Go.RowKit Go.HeapKit

/-- The codes of the first k functions lie in blocks of their own. -/
def Dis (E : List V4) (k : Nat) : Prop := ∀ i j f f' cb cb', i < k → j < k → i ≠ j → E[i]? = some (e4 f cb) → E[j]? = some (e4 f' cb') → cb ≠ cb'
theorem e4_inj {f f' : Fn} {cb cb' : Nat} (h : e4 f cb = e4 f' cb') : cb = cb' := by
  have h1 := congrArg (fun e : V4 => e.2.2.2) h
  simp only [e4, Value.slice.injEq, Option.some.injEq] at h1
  have h2 := congrArg Addr.block h1.1
  exact h2
theorem Dis.set {E : List V4} {fs : List Fn} {lo : Nat} {w : World} {k : Nat} {f : Fn} {cb : Nat} (h : Dis E k) (hL : Laid lo w E fs k) (hk : k < fs.length) (hE : k < E.length) (hcb : w.heap.size ≤ cb) : Dis (E.set k (e4 f cb)) (k + 1) := by
  have low : ∀ i f1 c1, i < k → E[i]? = some (e4 f1 c1) → c1 < w.heap.size := fun i f1 c1 hi he => by
    obtain ⟨c2, q1, q2, _⟩ := hL i (fs[i]'(by omega)) hi (by simp)
    rw [he] at q1
    rw [e4_inj (Option.some.inj q1)]
    exact blk_lt q2.blk
  intro i j f1 f2 c1 c2 hi hj hij h1 h2
  by_cases ei : i = k
  · subst ei
    rw [List.getElem?_set_self hE] at h1
    rw [List.getElem?_set_ne hij] at h2
    have := e4_inj (Option.some.inj h1)
    have := low j f2 c2 (by omega) h2
    omega
  · rw [List.getElem?_set_ne (Ne.symm ei)] at h1
    by_cases ej : j = k
    · subst ej
      rw [List.getElem?_set_self hE] at h2
      have := e4_inj (Option.some.inj h2)
      have := low i f1 c1 (by omega) h1
      omega
    · rw [List.getElem?_set_ne (Ne.symm ej)] at h2
      exact h i j f1 f2 c1 c2 (by omega) (by omega) hij h1 h2
/-- A program in memory that was made from lo on. -/
structure DecM (lo : Nat) (w : World) (gb m : Nat) (E : List V4) (fs : List Fn) : Prop where
  blk : IsFs w gb E
  len : E.length = m
  num : m = fs.length
  laid : Laid lo w E fs m
  low : lo ≤ gb
  dis : Dis E m
theorem DecM.kept {lo : Nat} {w w' : World} {gb m : Nat} {E : List V4} {fs : List Fn} {S : Nat → Prop} (h : DecM lo w gb m E fs) (hk : Keeps S w w') (hS : ∀ k, S k → k < lo) : DecM lo w' gb m E fs :=
  ⟨h.blk.kept hk (fun e => by have := hS _ e; have := h.low; omega), h.len, h.num, h.laid.kept hk (fun g e => .inl (hS g e)), h.low, h.dis⟩
theorem DecM.more {lo : Nat} {w w' : World} {gb m : Nat} {E : List V4} {fs : List Fn} (h : DecM lo w gb m E fs) (hk : Keeps None w w') : DecM lo w' gb m E fs := h.kept hk (fun _ f => f.elim)
theorem DecM.seen {lo : Nat} {w : World} {gb m : Nat} {E : List V4} {fs : List Fn} (h : DecM lo w gb m E fs) : SeenF w (some ⟨gb, 0, none⟩) m fs := laid_seen h.blk h.laid h.num
set_option maxHeartbeats 4000000 in
theorem read_goodM (b off n c : Nat) (zs r : List Int) (m : Nat) (fs : List Fn) (x : Int) (w : World) (hS : SeenW w (some ⟨b, off, none⟩) (n + 1) zs) (hn : 2 ≤ n) (hc : n + 1 ≤ c) (hcm : c ≤ maxLen) (hx : zs[n]? = some x) (hb : x = sumV (zs.take n)) (hz : zs.take n = 1886156142 :: (m : Int) :: r)
    (hm1 : 1 ≤ m) (hm2 : m ≤ 32) (hr : readFns m r = some (fs, [])) (hf : fs.length = m) :
    Calls Tryd.prog 21 #[.slice (some ⟨b, off, none⟩) (n + 1) c] w fun e w' => ∃ gb E, e = .returned (.agg #[.slice (some ⟨gb, 0, none⟩) m m]) ∧ DecM w.heap.size w' gb m E fs ∧ Keeps None w w' := by
  obtain ⟨_, _, e0, hlt, hcell⟩ := hS.ex (by omega)
  injection e0 with e0
  injection e0 with e1 e2 _
  subst e1 e2
  have hal := Keeps.alloc None w (.cells #[.slice none 0 0] 25)
  have bA := heap_alloc_new w (.cells #[.slice none 0 0] 25)
  have y := hal.cell (hcell n x hx) (fun f => f)
  have hsm := fun wx (hk : Keeps None w wx) => sum_any (some ⟨b, off, none⟩) n c (zs.take n) wx ((hS.more hk).first n (by omega))
  rw [← hb] at hsm
  obtain ⟨wa, hwa⟩ : ∃ wa, wa = w.alloc (.cells #[.slice none 0 0] 25) := ⟨_, rfl⟩
  obtain ⟨A1, hA1⟩ : ∃ A1, A1 = w.heap.size := ⟨_, rfl⟩
  rw [← hwa] at hal bA y
  rw [← hA1] at bA
  have hmost := hS.most
  have i1 : (3 : Int) ≤ ((n + 1 : Nat) : Int) := by omega
  have i2 : wrap64 (((n + 1 : Nat) : Int) - 1) = (n : Int) := by unfold wrap64; omega
  have i3 : (n : Int) < ((n + 1 : Nat) : Int) := by omega
  have i4 : (n : Int) ≤ (c : Int) := by omega
  have i5 : (0 : Int) ≤ (n : Int) := by omega
  have hS2 := hS.first n (by omega)
  rw [hz] at hS2
  have HS : Hid (SeenW w (some ⟨b, off, none⟩) n (1886156142 :: (m : Int) :: r) ∧ readFns m r = some (fs, []) ∧ fs.length = m ∧ Keeps None w wa ∧ wa.heap[A1]? = some (.cells #[.slice none 0 0] 25 (0, 0)) ∧ A1 = w.heap.size ∧ n ≤ c ∧ c ≤ maxLen) := ⟨hS2, hr, hf, hal, bA, hA1, by omega, hcm⟩
  have HSM : Hid _ := hsm
  clear hS hcell hx hb hz hr hf hal bA hsm hS2
  go_enter Tryd.func21, Tryd.ntmps21
  go_upto_region 4 with fail
  rw [← hwa, ← hA1]
  clear hwa hA1
  go_quiet ((go_at_call 26; exact Calls.quiet_of_same (HSM.out _ (HS.out.2.2.2.1.trans (Keeps.drewN None _ _) (fun _ f _ => f)))))
  go_upto_region 6 with fail
  obtain ⟨wq, hwq⟩ : ∃ wq, wq = wa.drewN nq := ⟨_, rfl⟩
  have hkq : Keeps None wa wq := by rw [hwq]; exact Keeps.drewN None wa nq
  rw [← hwq]
  obtain ⟨R, hR⟩ : ∃ R, R = wq.heap.size := ⟨_, rfl⟩
  have HQ : Hid (Keeps None wa wq ∧ R = wq.heap.size) := ⟨hkq, hR⟩
  clear hwq hkq hR y
  go_cut [4] (fun s4 wx => s4 = .pointer (some ⟨R, 0, none⟩) ∧ wx.heap[R]? = some (.cells #[.slice (some ⟨b, off, none⟩) n c] 67 (0, 0)) ∧ Keeps None wq wx)
  case first =>
    go_wp2_with fail
    go_meet
    rw [HQ.out.2]
    exact ⟨rfl, heap_alloc_new _ _, Keeps.alloc None _ _⟩
  case rest =>
    obtain ⟨rfl, hRb, hk6⟩ := hcut
    have hkA := HQ.out.1.trans hk6 (fun _ f _ => f)
    have hkw := HS.out.2.2.2.1.trans hkA (fun _ f _ => f)
    have hRlow : w.heap.size ≤ R := by have h1 := HS.out.2.2.2.1.size; have h2 := HQ.out.1.size; have h3 := HQ.out.2; omega
    have h0 : IsRd w wc R (1886156142 :: (m : Int) :: r) := ⟨hkw, hRlow, some ⟨b, off, none⟩, n, c, hRb, HS.out.1, HS.out.2.2.2.2.2.2.1, HS.out.2.2.2.2.2.2.2⟩
    have hA0 := blk_kept HS.out.2.2.2.2.1 hkA (fun f => f)
    have nRA : ¬ A1 = R := blk_ne hA0 hRb (by decide)
    have HW : Hid (wc.heap[A1]? = some (.cells #[.slice none 0 0] 25 (0, 0)) ∧ Keeps None w wc ∧ ¬ A1 = R ∧ w.heap.size ≤ R ∧ w.heap.size ≤ A1 ∧ R < wc.heap.size) := ⟨hA0, hkw, nRA, hRlow, by have := HS.out.2.2.2.2.2.1; omega, blk_lt hRb⟩
    have hwd := word_some w R 1886156142 ((m : Int) :: r) wc h0
    clear hRb hk6 hkA hkw hRlow h0 hA0 nRA
    have j1 : (1 : Int) ≤ (m : Int) := by omega
    have j2 : (m : Int) ≤ 32 := by omega
    have HMK : Hid (∀ wx, _) := fun wx => fs_made wx m hm2
    go_upto_region 10 with (first
      | (go_at_call 36; refine hwd.mono ?_; rintro _ w1 ⟨rfl, h1, k1⟩)
      | (go_at_call 37; refine (count_some w R 32 m r w1 h1 j1 j2).mono ?_; rintro _ w2 ⟨rfl, h2, k2⟩; obtain ⟨w3, hr3, hF3, k3, z3⟩ := HMK.out w2)
      | (at_make; refine wpList_make_run rfl (.tmp 31) (.tmp 31) 23 rfl rfl rfl hr3 ?_))
    obtain ⟨gb, hgb⟩ : ∃ gb, gb = w2.heap.size := ⟨_, rfl⟩
    obtain ⟨PB, hPB⟩ : ∃ PB, PB = w2.heap.size + 1 := ⟨_, rfl⟩
    have hal4 := Keeps.alloc None w3 (.cells #[.slice (some ⟨w2.heap.size, 0, none⟩) m m] 25)
    have b4 := heap_alloc_new w3 (.cells #[.slice (some ⟨w2.heap.size, 0, none⟩) m m] 25)
    obtain ⟨w4, hw4⟩ : ∃ w4, w4 = w3.alloc (.cells #[.slice (some ⟨w2.heap.size, 0, none⟩) m m] 25) := ⟨_, rfl⟩
    rw [← hw4] at hal4 b4
    rw [z3, ← hPB, ← hgb] at b4
    rw [← hgb] at hF3
    have hk34 := k3.trans hal4 (fun _ f _ => f)
    have hk12 : Keeps (· = R) wc w2 := k1.trans k2 (fun _ e _ => e)
    have h4 : IsRd w w4 R r := h2.kept hk34 (fun _ f => f.elim)
    have s12 := hk12.size
    have s4 := hal4.size
    have nG : gb ≠ R := by have := HW.out.2.2.2.2.2; omega
    have nP : PB ≠ R := by have := HW.out.2.2.2.2.2; omega
    have nA1 := blk_lt HW.out.1
    have nAG : A1 ≠ gb := by omega
    have nAP : A1 ≠ PB := by omega
    have nGP : gb ≠ PB := by omega
    have H4 : Hid (IsRd w w4 R r ∧ IsFs w4 gb (List.replicate m z4) ∧ w4.heap[PB]? = some (.cells #[.slice (some ⟨gb, 0, none⟩) m m] 25 (0, 0)) ∧ w4.heap[A1]? = some (.cells #[.slice none 0 0] 25 (0, 0)) ∧ R < w4.heap.size ∧ gb ≠ R ∧ PB ≠ R ∧ A1 ≠ gb ∧ A1 ≠ PB ∧ gb ≠ PB ∧ w.heap.size ≤ gb ∧ w.heap.size ≤ PB) := by
      refine ⟨h4, hF3.kept hal4 (fun f => f), b4, blk_kept (blk_kept HW.out.1 hk12 HW.out.2.2.1) hk34 (fun f => f), by have := HW.out.2.2.2.2.2; omega, nG, nP, nAG, nAP, nGP, by have := HW.out.2.1.size; omega, by have := HW.out.2.1.size; omega⟩
    rw [← hw4, ← hPB, ← hgb]
    have d4 := (cell_of_heap b4 0).trans rfl
    clear hw4 hgb hPB hal4 b4 hk34 hk12 h4 s12 s4 nG nP nA1 nAG nAP nGP h1 h2 k1 k2 hr3 hF3 k3 z3 hwd
    go_wp2_with fail
    clear d4
    go_loopw [37] (fun s37 wr => ∃ (k : Nat) (E : List V4) (zk : List Int), k ≤ m ∧ s37 = .int .i64 k ∧ IsRd w wr R zk ∧ readFns (m - k) zk = some (fs.drop k, []) ∧ IsFs wr gb E ∧ E.length = m ∧ Laid w.heap.size wr E fs k ∧ wr.heap[PB]? = some (.cells #[.slice (some ⟨gb, 0, none⟩) m m] 25 (0, 0)) ∧ wr.heap[A1]? = some (.cells #[.slice none 0 0] 25 (0, 0)) ∧ R < wr.heap.size ∧ Dis E k) (fun i _ => m - (intOf i).toNat)
    case atStart => exact ⟨0, _, r, Nat.zero_le _, rfl, H4.out.1, by simpa using HS.out.2.1, H4.out.2.1, by simp, fun j f h => by omega, H4.out.2.2.1, H4.out.2.2.2.1, H4.out.2.2.2.2.1, fun i j f f' cb cb' hi => by omega⟩
    case round =>
      obtain ⟨k, E, zk, hk, rfl, h0, hread, hE, hEl, hL, hP, hA, hRlt, hDs⟩ := hrel
      have HDS : Hid (Dis E k) := hDs
      clear hDs
      have d0 := (cell_of_heap hP 0).trans rfl
      by_cases hkm : k < m
      · have i6 : (k : Int) < (m : Int) := by omega
        obtain ⟨f, r1, hfk, hrf, hrest⟩ := fns_step hkm hread HS.out.2.2.1
        have hfn0 := fn_any w R zk wr.drew (h0.kept (Keeps.drew None wr) (fun _ f => f.elim)) hRlt (by rw [hrf]; simp)
        rw [hrf] at hfn0
        have hfn : Calls Tryd.prog 38 #[.pointer (some ⟨R, 0, none⟩)] wr.drew fun e w' => ∃ cb, e = .returned (.agg #[.int .i64 f.params, .int .i64 f.regs, .int .i64 f.slots, .slice (some ⟨cb, 0, none⟩) f.code.length f.code.length]) ∧ IsCode w' cb f.code ∧ IsRd w w' R r1 ∧ Keeps (· = R) wr.drew w' ∧ wr.drew.heap.size ≤ cb := hfn0.mono fun e w' h => h
        have nPG : PB ≠ gb := H4.out.2.2.2.2.2.2.2.2.2.1.symm
        have hRt : ∃ c t z, wr.heap[R]? = some (.cells c t z) ∧ t ≠ 42 := by
          obtain ⟨a', n', c', hb', _⟩ := h0.ex
          exact ⟨_, _, _, hb', by decide⟩
        have s0 : wr.drew.cell? ⟨PB, 0, none⟩ = some (.slice (some ⟨gb, 0, none⟩) m m) := d0
        have HK : Hid (fs[k]? = some f ∧ readFns (m - (k + 1)) r1 = some (fs.drop (k + 1), []) ∧ IsFs wr gb E ∧ E.length = m ∧ Laid w.heap.size wr E fs k ∧ wr.heap[PB]? = some (.cells #[.slice (some ⟨gb, 0, none⟩) m m] 25 (0, 0)) ∧ wr.heap[A1]? = some (.cells #[.slice none 0 0] 25 (0, 0)) ∧ R < wr.heap.size ∧ (∃ c t z, wr.heap[R]? = some (.cells c t z) ∧ t ≠ 42) ∧ w.heap.size ≤ wr.drew.heap.size) := ⟨hfk, hrest, hE, hEl, hL, hP, hA, hRlt, hRt, h0.base.size⟩
        clear hfk hrest hE hEl hL hP hA hRlt hRt hread hrf hfn0 h0
        go_upto_region 13 with fail
        go_region_held3 (fun w' => w'.cell? ⟨PB, 0, none⟩ = some (.slice (some ⟨gb, 0, none⟩) m m)) (first | with_reducible exact sE | with_reducible exact s5 | go_keep) (first
          | (go_at_call 38; refine hfn.mono ?_; rintro _ w5 ⟨cb, rfl, hc5, h5, k5, hcb⟩; have s5 : w5.cell? ⟨PB, 0, none⟩ = some (.slice (some ⟨gb, 0, none⟩) m m) := k5.cell s0 H4.out.2.2.2.2.2.2.1; have k05 : Keeps (· = R) wr w5 := (Keeps.drew (· = R) wr).trans k5 (fun _ e _ => e); have hE5 : IsFs w5 gb E := HK.out.2.2.1.kept k05 H4.out.2.2.2.2.2.1; obtain ⟨y0, y1, y2, y3⟩ := v4_at E k _ (List.getElem?_eq_getElem (by have := HK.out.2.2.2.1; omega)); have Y0 := (blk_cell hE5.blk (k * 4)).trans (by simpa using y0); have Y1 := (blk_cell hE5.blk (k * 4 + 1)).trans (by simpa using y1); have Y2 := (blk_cell hE5.blk (k * 4 + 2)).trans (by simpa using y2); have Y3 := (blk_cell hE5.blk (k * 4 + 3)).trans (by simpa using y3); have Z0 := blk_free hE5.blk (k * 4); have Z1 := blk_free hE5.blk (k * 4 + 1); have Z2 := blk_free hE5.blk (k * 4 + 2); have Z3 := blk_free hE5.blk (k * 4 + 3); have sE : ((((w5.setCell ⟨gb, k * 4, none⟩ (.int .i64 f.params)).setCell ⟨gb, k * 4 + 1, none⟩ (.int .i64 f.regs)).setCell ⟨gb, k * 4 + 2, none⟩ (.int .i64 f.slots)).setCell ⟨gb, k * 4 + 3, none⟩ (.slice (some ⟨cb, 0, none⟩) f.code.length f.code.length)).cell? ⟨PB, 0, none⟩ = some (.slice (some ⟨gb, 0, none⟩) m m) := (hE5.set k (by have := HK.out.2.2.2.1; omega) (e4 f cb)).2.cell s5 nPG))
        all_goals go_wp2_with fail
        all_goals
          have hkl : k < E.length := by have := HK.out.2.2.2.1; omega
          obtain ⟨hEE, kE⟩ := hE5.set k hkl (e4 f cb)
          have hL5 : Laid w.heap.size w5 E fs k := HK.out.2.2.2.2.1.kept k05 (fun g e => by subst e; exact .inr HK.out.2.2.2.2.2.2.2.2.1)
          have hgt : w5.heap[gb]? = some (.cells (E.flatMap v4).toArray 40 (0, 0)) := hE5.blk
          have hL6 := hL5.kept kE (fun g e => by subst e; exact .inr ⟨_, _, _, hgt, by decide⟩)
          have ncb : ¬ cb = gb := blk_ne hc5.blk hgt (by decide)
          have hc6 := hc5.kept kE ncb
          refine ⟨⟨k + 1, E.set k (e4 f cb), r1, by omega, by simp, h5.kept kE (fun i e => by subst e; exact ⟨H4.out.2.2.2.2.2.2.2.2.2.2.1, H4.out.2.2.2.2.2.1⟩), HK.out.2.1, hEE, by simpa using HK.out.2.2.2.1, fun j f' hj hf' => ?_, blk_kept (blk_kept HK.out.2.2.2.2.2.1 k05 H4.out.2.2.2.2.2.2.1) kE nPG, blk_kept (blk_kept HK.out.2.2.2.2.2.2.1 k05 HW.out.2.2.1) kE H4.out.2.2.2.2.2.2.2.1, Nat.lt_of_lt_of_le HK.out.2.2.2.2.2.2.2.1 (Nat.le_trans k05.size kE.size), HDS.out.set HK.out.2.2.2.2.1 (by have := HS.out.2.2.1; omega) hkl (by have h1 : wr.drew.heap.size = wr.heap.size := rfl; omega)⟩, by simp [intOf]; omega⟩
          by_cases ej : j = k
          · subst ej
            rw [HK.out.1] at hf'
            obtain rfl := Option.some.inj hf'
            exact ⟨cb, by rw [List.getElem?_set_self hkl], hc6, Nat.le_trans HK.out.2.2.2.2.2.2.2.2.2 hcb⟩
          · obtain ⟨cb', h1, h2, h3⟩ := hL6 j f' (by omega) hf'
            exact ⟨cb', by rw [List.getElem?_set_ne (Ne.symm ej)]; exact h1, h2, h3⟩
      · have hkm2 : k = m := by omega
        subst hkm2
        have i6 : ¬ ((k : Int) < (k : Int)) := by omega
        have hzk : zk = [] := by
          rw [Nat.sub_self] at hread
          simp [readFns] at hread
          exact hread.2
        subst hzk
        obtain ⟨a', n', c', hRb, hsw, _⟩ := h0.ex
        have hn0 : n' = 0 := hsw.len
        subst hn0
        have dR := (cell_of_heap hRb 0).trans rfl
        have a0 := (cell_of_heap hA 0).trans rfl
        have z0 := blk_free hA 0
        have bE := blk_set (i := 0) hA (.slice (some ⟨gb, 0, none⟩) k k)
        have kE : Keeps (· = A1) wr (wr.setCell ⟨A1, 0, none⟩ (.slice (some ⟨gb, 0, none⟩) k k)) := Keeps.setCell (S := (· = A1)) wr (a := ⟨A1, 0, none⟩) rfl _
        have hL6 := hL.kept kE (fun g e => by subst e; exact .inr ⟨_, _, _, hA, by decide⟩)
        have hEE := hE.kept kE H4.out.2.2.2.2.2.2.2.1.symm
        have HE : Hid (DecM w.heap.size _ gb k E fs ∧ Keeps None w _ ∧ _) := ⟨⟨hEE, hEl, HS.out.2.2.1.symm, hL6, H4.out.2.2.2.2.2.2.2.2.2.2.1, HDS.out⟩, h0.base.trans kE (fun i e hi => by have := HW.out.2.2.2.2.1; omega), bE⟩
        clear hread hsw h0 hRb hE hEl hL hP hA bE kE hL6 hEE
        go_wp2_with fail
        refine bodyPost_ret (results_one (q := 2) (ty := 25) rfl rfl (run_loadVar_row _ A1 _ 25 _ _ _ HE.out.2.2 Tryd.underlying25 rfl (by kernel_rfl))) rfl ?_
        exact ⟨gb, rfl, ⟨E, HE.out.1⟩, HE.out.2.1⟩
set_option maxHeartbeats 2000000 in
theorem decode_goodM (b off n c : Nat) (zs r : List Int) (m : Nat) (fs : List Fn) (x : Int) (w : World) (hT : Tabs w) (hS : SeenW w (some ⟨b, off, none⟩) (n + 1) zs) (hn : 2 ≤ n) (hc : n + 1 ≤ c) (hcm : c ≤ maxLen) (hx : zs[n]? = some x) (hb : x = sumV (zs.take n)) (hz : zs.take n = 1886156142 :: (m : Int) :: r)
    (hm1 : 1 ≤ m) (hm2 : m ≤ 32) (hr : readFns m r = some (fs, [])) (hf : fs.length = m) (hok : ∀ f ∈ fs, f.Ok) (hck : checkV fs = (0, 0, 0)) :
    Calls Tryd.prog 6 #[.slice (some ⟨b, off, none⟩) (n + 1) c] w fun e w' => ∃ gb E, e = .returned (.tuple #[.agg #[.slice (some ⟨gb, 0, none⟩) m m], .int .i64 0]) ∧ DecM w.heap.size w' gb m E fs ∧ Keeps None w w' := by
  have hmf : ∀ (fn : Go.Fn) (first cap : Array Value) (w : World), (Instr.makeFunc fn first cap).run Tryd.prog w = .ok (.func fn first cap) w := fun _ _ _ _ => rfl
  obtain ⟨b1, b2⟩ := two_boxes w #[.slice none 0 0] #[.int .i64 0] 25 26
  have hk2 := keeps2 w (.cells #[.slice none 0 0] 25) (.cells #[.int .i64 0] 26)
  have hrd := read_goodM b off n c zs r m fs x _ (hS.more hk2) hn hc hcm hx hb hz hm1 hm2 hr hf
  have HO : Hid (IsOut ((w.alloc (.cells #[.slice none 0 0] 25)).alloc (.cells #[.int .i64 0] 26)) w.heap.size (w.heap.size + 1) (.slice none 0 0) 0 ∧ Keeps None w ((w.alloc (.cells #[.slice none 0 0] 25)).alloc (.cells #[.int .i64 0] 26)) ∧ Tabs w ∧ (∀ f ∈ fs, f.Ok) ∧ checkV fs = (0, 0, 0)) := ⟨⟨b1, b2⟩, hk2, hT, hok, hck⟩
  clear b1 b2 hk2 hS hx hb hz hr hT hok hck
  go_enter_defers Tryd.func6, Tryd.ntmps6
  go_upto_region 3 with (go_at_call 21; refine hrd.mono ?_; rintro _ w3 ⟨gb, E, rfl, hs3, hk3⟩)
  obtain ⟨p, hp⟩ : ∃ p, p = w.heap.size := ⟨_, rfl⟩
  have hal := Keeps.alloc None w3 (.cells #[.slice (some ⟨gb, 0, none⟩) m m] 25)
  have b4 := heap_alloc_new w3 (.cells #[.slice (some ⟨gb, 0, none⟩) m m] 25)
  obtain ⟨w4, hw4⟩ : ∃ w4, w4 = w3.alloc (.cells #[.slice (some ⟨gb, 0, none⟩) m m] 25) := ⟨_, rfl⟩
  obtain ⟨X, hX⟩ : ∃ X, X = w3.heap.size := ⟨_, rfl⟩
  rw [← hw4] at hal b4
  rw [← hX] at b4
  rw [← hw4, ← hX, ← hp]
  have hk4 := hk3.trans hal (fun _ f _ => f)
  have hO4 := HO.out.1.kept hk4
  rw [← hp] at hO4
  have hkw4 := HO.out.2.1.trans hk4 (fun _ f _ => f)
  have d4 := (cell_of_heap b4 0).trans rfl
  have hck := check_any (some ⟨gb, 0, none⟩) m m fs w4 (HO.out.2.2.1.more hkw4) (hs3.more hal).seen HO.out.2.2.2.1
  unfold checkF faultV at hck
  rw [HO.out.2.2.2.2] at hck
  simp only at hck
  have H4 : Hid (IsOut w4 p (p + 1) (.slice none 0 0) 0 ∧ Keeps None w w4 ∧ w4.heap[X]? = some (.cells #[.slice (some ⟨gb, 0, none⟩) m m] 25 (0, 0)) ∧ DecM (p + 2) w4 gb m E fs ∧ p = w.heap.size) := ⟨hO4, hkw4, b4, by have h5 := hs3.more hal; rw [show ((w.alloc (.cells #[.slice none 0 0] 25)).alloc (.cells #[.int .i64 0] 26)).heap.size = w.heap.size + 2 by simp] at h5; rw [hp]; exact h5, hp⟩
  clear hw4 hX hp hal b4 hk4 hO4 hkw4 hs3 hk3 hrd
  go_upto_region 4 with (go_at_call 8; refine hck.mono ?_; rintro _ w5 ⟨rfl, hk5⟩)
  have hal := Keeps.alloc None w5 (.cells #[.int .i64 0, .int .i64 0, .int .i64 0] 31)
  have b6 := heap_alloc_new w5 (.cells #[.int .i64 0, .int .i64 0, .int .i64 0] 31)
  obtain ⟨w6, hw6⟩ : ∃ w6, w6 = w5.alloc (.cells #[.int .i64 0, .int .i64 0, .int .i64 0] 31) := ⟨_, rfl⟩
  obtain ⟨Y, hY⟩ : ∃ Y, Y = w5.heap.size := ⟨_, rfl⟩
  rw [← hw6] at hal b6
  rw [← hY] at b6
  rw [← hw6, ← hY]
  have hk6 := hk5.trans hal (fun _ f _ => f)
  have hO6 := H4.out.1.kept hk6
  have d6 := (cell_of_heap (blk_kept H4.out.2.2.1 hk6 (fun f => f)) 0).trans rfl
  have f6 := (cell_of_heap b6 0).trans rfl
  have p0 := (cell_of_heap hO6.prog 0).trans rfl
  have q0 := (cell_of_heap hO6.err 0).trans rfl
  have zp := blk_free hO6.prog 0
  have zq := blk_free hO6.err 0
  obtain ⟨hfin, hkf⟩ := hO6.set (.slice (some ⟨gb, 0, none⟩) m m) 0
  have hkw : Keeps None w ((w6.setCell ⟨p, 0, none⟩ (.slice (some ⟨gb, 0, none⟩) m m)).setCell ⟨p + 1, 0, none⟩ (.int .i64 0)) := (H4.out.2.1.trans hk6 (fun _ f _ => f)).trans hkf (fun i e hi => by have := H4.out.2.2.2.2; omega)
  have H6 : Hid (IsOut ((w6.setCell ⟨p, 0, none⟩ (.slice (some ⟨gb, 0, none⟩) m m)).setCell ⟨p + 1, 0, none⟩ (.int .i64 0)) p (p + 1) (.slice (some ⟨gb, 0, none⟩) m m) 0 ∧ Keeps None w ((w6.setCell ⟨p, 0, none⟩ (.slice (some ⟨gb, 0, none⟩) m m)).setCell ⟨p + 1, 0, none⟩ (.int .i64 0)) ∧ DecM (p + 2) w6 gb m E fs ∧ Keeps (fun k => k = p ∨ k = p + 1) w6 ((w6.setCell ⟨p, 0, none⟩ (.slice (some ⟨gb, 0, none⟩) m m)).setCell ⟨p + 1, 0, none⟩ (.int .i64 0)) ∧ IsOut w6 p (p + 1) (.slice none 0 0) 0) := ⟨hfin, hkw, H4.out.2.2.2.1.more hk6, hkf, hO6⟩
  have HP : Hid (p = w.heap.size) := H4.out.2.2.2.2
  clear hw6 hY hal b6 hk6 hO6 hfin hkf hkw hk5 hck d4
  go_wp2_with fail
  exact dout_ret rfl rfl H6.out.1 (fun w' hk => ⟨gb, E, rfl, by
    have h7 := H6.out.2.2.1.kept (H6.out.2.2.2.1.trans hk (fun _ f _ => f.elim)) (fun k e => by omega)
    have hp := HP.out
    exact ⟨h7.blk, h7.len, h7.num, fun j f hj hf => by obtain ⟨cb, q1, q2, q3⟩ := h7.laid j f hj hf; exact ⟨cb, q1, q2, by omega⟩, by have := h7.low; omega, h7.dis⟩, H6.out.2.1.trans hk (fun _ f _ => f)⟩)
end Go.Proofs.YtcjmceedkfjbeaaDoor
