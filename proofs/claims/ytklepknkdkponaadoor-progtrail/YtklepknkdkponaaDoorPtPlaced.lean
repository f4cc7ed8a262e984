import Derived.Test.YtklepknkdkponaaDoorPtRef2
import Derived.Test.YtklepknkdkponaaDoorPfPlaced
/-! trailPlaced. -/
namespace Go.Proofs.YtklepknkdkponaaDoor
set_option linter.unusedVariables false
set_option maxRecDepth 20000
open Go.RowKit Go.HeapKit

theorem rtrails_at (f : Fn) (ca : Option Addr) (n cc : Nat) (t s q : Int) (x : Option Addr) (N cap : Nat) (e : Int) (w : World) (hn : n = f.code.length) (hC : SeenI w ca n f.code) (h : TrailA f t s q w x N e) :
    Calls Tryd.prog 25 #[.agg #[.int .i64 f.params, .int .i64 f.regs, .int .i64 f.slots, .slice ca n cc], .int .i64 t, .int .i64 s, .int .i64 q, .slice x N cap, .int .i64 e] w fun e' w' => e' = .returned (.bool true) ∧ Keeps None w w' := by
  rcases h with ⟨h0, rfl, rfl⟩ | ⟨h0, t', s', q', rfl, rfl, rfl, hE⟩
  · exact rtrails_arg f ca n cc t s q x cap w hn hC h0
  · exact rtrails_good f ca n cc t' s' q' x N cap e w hn hC h0 hE
set_option maxHeartbeats 4000000 in
theorem trailPlaced_any (f : Fn) (ca : Option Addr) (n cc : Nat) (t s q : Int) (w : World) (hT : Tabs w) (hn : n = f.code.length) (hC : SeenI w ca n f.code) (hok : ∀ i ∈ f.code, i.Ok) (hr : n * 40 ≤ 140737488351232) :
    Calls Tryd.prog 26 #[.agg #[.int .i64 f.params, .int .i64 f.regs, .int .i64 f.slots, .slice ca n cc], .int .i64 t, .int .i64 s, .int .i64 q] w fun e w' => e = .returned (.bool true) ∧ Keeps None w w' := by
  obtain ⟨ft, hft⟩ : ∃ ft, ft = turnF f := ⟨_, rfl⟩
  have p1 : ft.params = f.params := by rw [hft]; rfl
  have p2 : ft.regs = f.regs := by rw [hft]; rfl
  have p3 : ft.slots = f.slots := by rw [hft]; rfl
  have p4 : ft.code.length = n := by rw [hft, hn]; simp [turnF]
  have hokt : ∀ i ∈ ft.code, i.Ok := by rw [hft]; exact turn_code_ok hok
  have b1 := heap_alloc_new w (.cells #[.int .i64 f.params, .int .i64 f.regs, .int .i64 f.slots, .slice ca n cc] 36)
  have k1 := Keeps.alloc None w (.cells #[.int .i64 f.params, .int .i64 f.regs, .int .i64 f.slots, .slice ca n cc] 36)
  obtain ⟨B, hB⟩ : ∃ B, B = w.heap.size := ⟨_, rfl⟩
  obtain ⟨w1, hw1⟩ : ∃ w1, w1 = w.alloc (.cells #[.int .i64 f.params, .int .i64 f.regs, .int .i64 f.slots, .slice ca n cc] 36) := ⟨_, rfl⟩
  rw [← hw1] at b1 k1
  rw [← hB] at b1
  have hta := turned_any f ca cc w1 (by rw [← hn]; exact hC.more k1) (by rw [← hn]; exact hr)
  rw [← hft] at hta
  unfold fnV at hta
  rw [← hn, p1, p2, p3, p4] at hta
  have HC : Hid (Tabs w ∧ SeenI w ca n f.code ∧ (∀ i ∈ f.code, i.Ok) ∧ (∀ i ∈ ft.code, i.Ok) ∧ n = f.code.length ∧ ft.code.length = n ∧ ft.params = f.params ∧ ft.regs = f.regs ∧ ft.slots = f.slots) := ⟨hT, hC, hok, hokt, hn, p4, p1, p2, p3⟩
  have H1 : Hid (w1.heap[B]? = some (.cells #[.int .i64 f.params, .int .i64 f.regs, .int .i64 f.slots, .slice ca n cc] 36 (0, 0)) ∧ Keeps None w w1) := ⟨b1, k1⟩
  have d0 : w1.cell? ⟨B, 0, none⟩ = some (.int .i64 f.params) := (cell_of_heap b1 0).trans rfl
  have d1 : w1.cell? ⟨B, 1, none⟩ = some (.int .i64 f.regs) := (cell_of_heap b1 1).trans rfl
  have d2 : w1.cell? ⟨B, 2, none⟩ = some (.int .i64 f.slots) := (cell_of_heap b1 2).trans rfl
  have d3 : w1.cell? ⟨B, 3, none⟩ = some (.slice ca n cc) := (cell_of_heap b1 3).trans rfl
  clear hT hC hok hokt hn hft p1 p2 p3 p4 b1 k1
  go_enter Tryd.func26, Tryd.ntmps26
  go_upto_region 1 with fail
  rw [← hw1, ← hB]
  clear hw1 hB
  go_wp2_with fail
  refine hta.mono ?_
  rintro e w2 ⟨ta, tc, rfl, hown, hk2, -⟩
  clear d0 d1 d2 d3 hta
  have hSt : SeenI w2 ta n ft.code := by
    have h4 := HC.out.2.2.2.2.2.1
    obtain ⟨ca', cc', e, hs⟩ := codes_seen (l := ft.code) (v := .slice ta n tc) (by rw [h4]; exact hown)
    simp only [Value.slice.injEq] at e
    obtain ⟨rfl, -, -⟩ := e
    rw [h4] at hs
    exact hs
  have k3 := Keeps.alloc None w2 (.cells #[.int .i64 f.params, .int .i64 f.regs, .int .i64 f.slots, .slice ta n tc] 36)
  have b3 := heap_alloc_new w2 (.cells #[.int .i64 f.params, .int .i64 f.regs, .int .i64 f.slots, .slice ta n tc] 36)
  obtain ⟨T, hTb⟩ : ∃ T, T = w2.heap.size := ⟨_, rfl⟩
  obtain ⟨w3, hw3⟩ : ∃ w3, w3 = w2.alloc (.cells #[.int .i64 f.params, .int .i64 f.regs, .int .i64 f.slots, .slice ta n tc] 36) := ⟨_, rfl⟩
  rw [← hw3] at k3 b3
  rw [← hTb] at b3
  have k13 := hk2.trans k3 (fun _ f _ => f)
  have hsp := spare_any ft ta tc w3 (by rw [HC.out.2.2.2.2.2.1]; exact hSt.more k3) (by rw [HC.out.2.2.2.2.2.1]; exact hr) n HC.out.2.2.2.2.2.1.symm
  rw [HC.out.2.2.2.2.2.2.1, HC.out.2.2.2.2.2.2.2.1, HC.out.2.2.2.2.2.2.2.2] at hsp
  have H3 : Hid (w3.heap[T]? = some (.cells #[.int .i64 f.params, .int .i64 f.regs, .int .i64 f.slots, .slice ta n tc] 36 (0, 0)) ∧ Keeps None w w3 ∧ SeenI w3 ta n ft.code ∧ w3.heap[B]? = some (.cells #[.int .i64 f.params, .int .i64 f.regs, .int .i64 f.slots, .slice ca n cc] 36 (0, 0))) := ⟨b3, H1.out.2.trans k13 (fun _ f _ => f), hSt.more k3, blk_kept H1.out.1 k13 (fun f => f)⟩
  clear k3 b3 k13 hSt hk2 hown
  go_upto_region 2 with fail
  rw [← hw3, ← hTb]
  clear hw3 hTb
  have d0 : w3.cell? ⟨T, 0, none⟩ = some (.int .i64 f.params) := (cell_of_heap H3.out.1 0).trans rfl
  have d1 : w3.cell? ⟨T, 1, none⟩ = some (.int .i64 f.regs) := (cell_of_heap H3.out.1 1).trans rfl
  have d2 : w3.cell? ⟨T, 2, none⟩ = some (.int .i64 f.slots) := (cell_of_heap H3.out.1 2).trans rfl
  have d3 : w3.cell? ⟨T, 3, none⟩ = some (.slice ta n tc) := (cell_of_heap H3.out.1 3).trans rfl
  go_wp2_with fail
  refine hsp.mono ?_
  rintro e w4 ⟨G, rfl, hI4, hk4, hG⟩
  clear d0 d1 d2 d3 hsp
  have k5 := Keeps.alloc None w4 (.cells #[.int .i64 f.params, .int .i64 f.regs, .int .i64 f.slots, .slice (some ⟨G, 0, none⟩) n (n + 2)] 36)
  have b5 := heap_alloc_new w4 (.cells #[.int .i64 f.params, .int .i64 f.regs, .int .i64 f.slots, .slice (some ⟨G, 0, none⟩) n (n + 2)] 36)
  obtain ⟨D, hD⟩ : ∃ D, D = w4.heap.size := ⟨_, rfl⟩
  obtain ⟨w5, hw5⟩ : ∃ w5, w5 = w4.alloc (.cells #[.int .i64 f.params, .int .i64 f.regs, .int .i64 f.slots, .slice (some ⟨G, 0, none⟩) n (n + 2)] 36) := ⟨_, rfl⟩
  rw [← hw5] at k5 b5
  rw [← hD] at b5
  have k35 := hk4.trans k5 (fun _ f _ => f)
  have hI5 := hI4.kept k5 (fun f => f)
  have k05 := H3.out.2.1.trans k35 (fun _ f _ => f)
  have hfl := trail_at ft (some ⟨G, 0, none⟩) (n + 2) t s q w5 (HC.out.1.more k05) (hI5.seen rfl (fun k i hi => odd_first _ k i hi)) HC.out.2.2.2.1
  unfold fnV at hfl
  rw [HC.out.2.2.2.2.2.1, HC.out.2.2.2.2.2.2.1, HC.out.2.2.2.2.2.2.2.1, HC.out.2.2.2.2.2.2.2.2] at hfl
  have H5 : Hid (IsC w5 G (oddL ft.code) ∧ Keeps None w3 w5 ∧ Keeps None w w5 ∧ w5.heap[D]? = some (.cells #[.int .i64 f.params, .int .i64 f.regs, .int .i64 f.slots, .slice (some ⟨G, 0, none⟩) n (n + 2)] 36 (0, 0)) ∧ w3.heap.size ≤ G) := ⟨hI5, k35, k05, b5, hG⟩
  clear k5 b5 k35 hI5 k05 hI4 hk4 hG
  go_upto_region 3 with fail
  rw [← hw5, ← hD]
  clear hw5 hD
  have d0 : w5.cell? ⟨D, 0, none⟩ = some (.int .i64 f.params) := (cell_of_heap H5.out.2.2.2.1 0).trans rfl
  have d1 : w5.cell? ⟨D, 1, none⟩ = some (.int .i64 f.regs) := (cell_of_heap H5.out.2.2.2.1 1).trans rfl
  have d2 : w5.cell? ⟨D, 2, none⟩ = some (.int .i64 f.slots) := (cell_of_heap H5.out.2.2.2.1 2).trans rfl
  have d3 : w5.cell? ⟨D, 3, none⟩ = some (.slice (some ⟨G, 0, none⟩) n (n + 2)) := (cell_of_heap H5.out.2.2.2.1 3).trans rfl
  go_wp2_with fail
  refine hfl.mono ?_
  rintro e w6 ⟨x1, N1, c1, e1, rfl, hA1, hk6⟩
  clear d0 d1 d2 d3 hfl
  have H6 : Hid (TrailA ft t s q w6 x1 N1 e1 ∧ Keeps None w5 w6 ∧ True ∧ IsC w6 G (mixL f.code (oddL ft.code) 0) ∧ G < w5.heap.size ∧ (oddL ft.code).length = n + 2) := by
    refine ⟨hA1, hk6, trivial, ?_, blk_lt H5.out.1, by simp only [oddL, List.length_append, HC.out.2.2.2.2.2.1]; rfl⟩
    have := H5.out.1.kept hk6 (fun f => f)
    simpa [mixL] using this
  clear hA1 hk6
  have hnb : (n : Int) ≤ 4611686018427387904 := by omega
  go_upto_region 4 with fail
  go_wp2_with fail
  go_loopw [14] (fun s14 wr => ∃ k : Nat, k ≤ n ∧ s14 = .int .i64 k ∧ IsC wr G (mixL f.code (oddL ft.code) k) ∧ Keeps (· = G) w6 wr) (fun i _ => n - (intOf i).toNat)
  case atStart => exact ⟨0, Nat.zero_le _, rfl, H6.out.2.2.2.1, Keeps.refl _ _⟩
  case round =>
    obtain ⟨k, hk, rfl, hI, hkp⟩ := hrel
    have k5r : Keeps (· = G) w5 wr := (H6.out.2.1.mono (fun _ f _ => f.elim)).trans hkp (fun _ e _ => e)
    have k3r : Keeps None w3 wr := H5.out.2.1.trans k5r (fun i e hi => by have := H5.out.2.2.2.2; omega)
    have k0r : Keeps None w wr := H3.out.2.1.trans k3r (fun _ f _ => f)
    have bB := blk_kept H3.out.2.2.2 k3r (fun f => f)
    have e3 : wr.cell? ⟨B, 3, none⟩ = some (.slice ca n cc) := (cell_of_heap bB 3).trans rfl
    by_cases hkn : k < n
    · obtain ⟨b, off, x, rfl, hx, hat⟩ := (HC.out.2.1.more k0r).at hkn
      obtain ⟨y0, y1, y2, y3, y4⟩ := hat
      have hfl2 : f.code.length = n := HC.out.2.2.2.2.1.symm
      have hml : (mixL f.code (oddL ft.code) k).length = n + 2 := by rw [mix_len _ _ k (by omega) (by rw [H6.out.2.2.2.2.2]; omega), H6.out.2.2.2.2.2]
      obtain ⟨z, hz, hfr⟩ := hI.cells (k := k) (by omega)
      obtain ⟨u0, u1, u2, u3, u4⟩ := hz
      have t0 := hfr (k * 5)
      have t1 := hfr (k * 5 + 1)
      have t2 := hfr (k * 5 + 2)
      have t3 := hfr (k * 5 + 3)
      have t4 := hfr (k * 5 + 4)
      have hI2 := hI.set k x (by omega)
      rw [mix_step _ _ k x hx (by rw [H6.out.2.2.2.2.2]; omega)] at hI2
      have i1 : (k : Int) < (n : Int) := by omega
      have i2 : (k : Int) < (n : Int) + 2 := by omega
      have i3 : (k : Int) < ((n + 2 : Nat) : Int) := by omega
      have HN : Hid (IsC (set5 wr G (k * 5) x) G (mixL f.code (oddL ft.code) (k + 1)) ∧ Keeps (· = G) w6 (set5 wr G (k * 5) x)) := ⟨hI2, hkp.trans (set5_keeps wr G (k * 5) x) (fun _ e _ => e)⟩
      clear hI hI2 hkp k5r k3r k0r bB hx hfr hml hfl2
      go_wp2_with fail
      exact ⟨⟨k + 1, by omega, by simp, HN.out.1, HN.out.2⟩, by simp [intOf]; omega⟩
    · have hkn2 : k = n := by omega
      subst hkn2
      have i1 : ¬ (k : Int) < (k : Int) := by omega
      have hA1 := H6.out.1.kept hkp (fun p cur hp e => by
        have hb := H6.out.2.2.2.1
        subst e
        exact blk_ne hp hb (by decide) rfl)
      have bD := blk_kept H5.out.2.2.2.1 k5r (fun e => blk_ne H5.out.2.2.2.1 H5.out.1 (by decide) e)
      have bT := blk_kept H3.out.1 k3r (fun f => f)
      have hfl := trail_at f (some ⟨G, 0, none⟩) (k + 2) t s q wr (HC.out.1.more k0r) (hI.seen rfl (fun j i hi => by rw [HC.out.2.2.2.2.1]; exact mix_end _ _ j i hi)) HC.out.2.2.1
      unfold fnV at hfl
      rw [← HC.out.2.2.2.2.1] at hfl
      have d0 : wr.cell? ⟨D, 0, none⟩ = some (.int .i64 f.params) := (cell_of_heap bD 0).trans rfl
      have d1 : wr.cell? ⟨D, 1, none⟩ = some (.int .i64 f.regs) := (cell_of_heap bD 1).trans rfl
      have d2 : wr.cell? ⟨D, 2, none⟩ = some (.int .i64 f.slots) := (cell_of_heap bD 2).trans rfl
      have d3 : wr.cell? ⟨D, 3, none⟩ = some (.slice (some ⟨G, 0, none⟩) k (k + 2)) := (cell_of_heap bD 3).trans rfl
      have H7 : Hid (Keeps None w3 wr ∧ Keeps None w wr ∧ TrailA ft t s q wr x1 N1 e1 ∧ wr.heap[B]? = some (.cells #[.int .i64 f.params, .int .i64 f.regs, .int .i64 f.slots, .slice ca k cc] 36 (0, 0)) ∧ wr.heap[T]? = some (.cells #[.int .i64 f.params, .int .i64 f.regs, .int .i64 f.slots, .slice ta k tc] 36 (0, 0))) := ⟨k3r, k0r, hA1, bB, bT⟩
      clear hI hkp k5r k3r k0r bB bT bD hA1
      go_upto_region 8 with fail
      clear e3
      go_wp2_with fail
      refine hfl.mono ?_
      rintro e w8 ⟨x2, N2, c2, e2, rfl, hA2, hk8⟩
      clear d0 d1 d2 d3 hfl
      have bT8 := blk_kept H7.out.2.2.2.2 hk8 (fun f => f)
      have bB8 := blk_kept H7.out.2.2.2.1 hk8 (fun f => f)
      have d0 : w8.cell? ⟨T, 0, none⟩ = some (.int .i64 f.params) := (cell_of_heap bT8 0).trans rfl
      have d1 : w8.cell? ⟨T, 1, none⟩ = some (.int .i64 f.regs) := (cell_of_heap bT8 1).trans rfl
      have d2 : w8.cell? ⟨T, 2, none⟩ = some (.int .i64 f.slots) := (cell_of_heap bT8 2).trans rfl
      have d3 : w8.cell? ⟨T, 3, none⟩ = some (.slice ta k tc) := (cell_of_heap bT8 3).trans rfl
      have hrf := rtrails_at ft ta k tc t s q x1 N1 c1 e1 w8 HC.out.2.2.2.2.2.1.symm (H3.out.2.2.1.more (H7.out.1.trans hk8 (fun _ f _ => f))) (H7.out.2.2.1.more hk8)
      rw [HC.out.2.2.2.2.2.2.1, HC.out.2.2.2.2.2.2.2.1, HC.out.2.2.2.2.2.2.2.2] at hrf
      have H8 : Hid (Keeps None w w8 ∧ TrailA f t s q w8 x2 N2 e2 ∧ w8.heap[B]? = some (.cells #[.int .i64 f.params, .int .i64 f.regs, .int .i64 f.slots, .slice ca k cc] 36 (0, 0))) := ⟨H7.out.2.1.trans hk8 (fun _ f _ => f), hA2, bB8⟩
      clear hk8 hA2 bT8 bB8
      go_upto_region 9 with fail
      go_wp2_with fail
      refine hrf.mono ?_
      rintro e w9 ⟨rfl, hk9⟩
      clear d0 d1 d2 d3 hrf
      have bB9 := blk_kept H8.out.2.2 hk9 (fun f => f)
      have d0 : w9.cell? ⟨B, 0, none⟩ = some (.int .i64 f.params) := (cell_of_heap bB9 0).trans rfl
      have d1 : w9.cell? ⟨B, 1, none⟩ = some (.int .i64 f.regs) := (cell_of_heap bB9 1).trans rfl
      have d2 : w9.cell? ⟨B, 2, none⟩ = some (.int .i64 f.slots) := (cell_of_heap bB9 2).trans rfl
      have d3 : w9.cell? ⟨B, 3, none⟩ = some (.slice ca k cc) := (cell_of_heap bB9 3).trans rfl
      have k09 := H8.out.1.trans hk9 (fun _ f _ => f)
      have hrg := rtrails_at f ca k cc t s q x2 N2 c2 e2 w9 HC.out.2.2.2.2.1 (HC.out.2.1.more k09) (H8.out.2.1.more hk9)
      have H9 : Hid (Keeps None w w9) := k09
      clear k09 hk9 bB9
      go_wp2_with fail
      refine hrg.mono ?_
      rintro e w10 ⟨rfl, hk10⟩
      have H10 : Hid (Keeps None w w10) := H9.out.trans hk10 (fun _ f _ => f)
      clear hk10 hrg
      go_wp2_with fail
      go_ret
      exact ⟨rfl, H10.out⟩
end Go.Proofs.YtklepknkdkponaaDoor
