import Derived.Test.YtcjmceedkfjbeaaDoorPkAT
/-! spare: a function in new memory, with room behind its code. -/
namespace Go.Proofs.YtcjmceedkfjbeaaDoor
set_option linter.unusedVariables false
set_option maxRecDepth 20000
open Go.RowKit Go.HeapKit

def oddL (l : List Ins) : List Ins := l ++ [oddI 0, oddI 1]
/-- The list while it is copied. -/
def partL (l : List Ins) (k : Nat) : List Ins := l.take k ++ List.replicate (l.length + 2 - k) zeroI
theorem part_len (l : List Ins) (k : Nat) (hk : k ≤ l.length) : (partL l k).length = l.length + 2 := by simp [partL]; omega
theorem part_zero (l : List Ins) : partL l 0 = List.replicate (l.length + 2) zeroI := by simp [partL]
theorem part_step (l : List Ins) (k : Nat) (x : Ins) (hx : l[k]? = some x) : (partL l k).set k x = partL l (k + 1) := by
  have hk := (List.getElem?_eq_some_iff.1 hx).1
  unfold partL
  rw [List.set_append_right _ _ (by simp; omega), show k - (l.take k).length = 0 by simp; omega, show l.length + 2 - k = (l.length + 2 - (k + 1)) + 1 by omega, List.replicate_succ, List.set_cons_zero, List.take_add_one, hx]
  simp
theorem part_end (l : List Ins) : ((partL l l.length).set l.length (oddI 0)).set (l.length + 1) (oddI 1) = oddL l := by
  unfold partL oddL
  rw [List.take_of_length_le (Nat.le_refl _), show l.length + 2 - l.length = 2 by omega, List.set_append_right _ _ (by omega), List.set_append_right _ _ (by omega)]
  simp [List.replicate]
structure Sp (w wr : World) (B n G : Nat) (fv : Array Value) (l : List Ins) : Prop where
  keep : Keeps None w wr
  box : wr.heap[B]? = some (.cells fv 40 (0, 0))
  res : wr.heap[B + 1]? = some (.cells #[.int .i64 0, .int .i64 0, .int .i64 0, .slice none 0 0] 40 (0, 0))
  code : IsC wr G l
  hB : w.heap.size ≤ B
  hG : B + 1 < G
theorem Sp.more {w wr w' : World} {B n G : Nat} {fv : Array Value} {l : List Ins} (h : Sp w wr B n G fv l) (hk : Keeps None wr w') : Sp w w' B n G fv l :=
  ⟨h.keep.trans hk (fun _ f _ => f), blk_kept h.box hk (fun f => f), blk_kept h.res hk (fun f => f), h.code.kept hk (fun f => f), h.hB, h.hG⟩
theorem Sp.set {w wr : World} {B n G : Nat} {fv : Array Value} {l : List Ins} (h : Sp w wr B n G fv l) (k : Nat) (x : Ins) (hk : k < l.length) : Sp w (set5 wr G (k * 5) x) B n G fv (l.set k x) := by
  have hks := set5_keeps wr G (k * 5) x
  have h1 := h.hG
  have h2 := h.hB
  exact ⟨h.keep.trans hks (fun i e hi => by omega), blk_kept h.box hks (by omega), blk_kept h.res hks (by omega), h.code.set k x hk, h.hB, h.hG⟩
theorem IsC.cells {w : World} {g : Nat} {l : List Ins} (h : IsC w g l) {k : Nat} (hk : k < l.length) : ∃ x, InsAt w g (k * 5) x ∧ ∀ j, w.frozen? ⟨g, j, none⟩ = false := ⟨l[k], h.at (by simp), fun j => blk_free h j⟩
set_option maxHeartbeats 2000000 in
theorem spare_any (f : Fn) (ca : Option Addr) (cc : Nat) (w : World) (hC : SeenI w ca f.code.length f.code) (hr : f.code.length * 40 ≤ 140737488351232) (n : Nat) (hn : n = f.code.length) :
    Calls Tryd.prog 32 #[.agg #[.int .i64 f.params, .int .i64 f.regs, .int .i64 f.slots, .slice ca n cc]] w fun e w' => ∃ g, e = .returned (.tuple #[.agg #[.int .i64 f.params, .int .i64 f.regs, .int .i64 f.slots, .slice (some ⟨g, 0, none⟩) n (n + 2)], .slice (some ⟨g, 0, none⟩) (n + 2) (n + 2)]) ∧ IsC w' g (oddL f.code) ∧ Keeps None w w' ∧ w.heap.size ≤ g := by
  rw [← hn] at hC hr
  obtain ⟨B, hB⟩ : ∃ B, B = w.heap.size := ⟨_, rfl⟩
  obtain ⟨fv, hfv⟩ : ∃ fv : Array Value, fv = #[.int .i64 f.params, .int .i64 f.regs, .int .i64 f.slots, .slice ca n cc] := ⟨_, rfl⟩
  obtain ⟨p1, p2⟩ := two_boxes w #[.int .i64 f.params, .int .i64 f.regs, .int .i64 f.slots, .slice ca n cc] #[.int .i64 0, .int .i64 0, .int .i64 0, .slice none 0 0] 40 40
  have hk2 := keeps2 w (.cells #[.int .i64 f.params, .int .i64 f.regs, .int .i64 f.slots, .slice ca n cc] 40) (.cells #[.int .i64 0, .int .i64 0, .int .i64 0, .slice none 0 0] 40)
  have s2 : ((w.alloc (.cells #[.int .i64 f.params, .int .i64 f.regs, .int .i64 f.slots, .slice ca n cc] 40)).alloc (.cells #[.int .i64 0, .int .i64 0, .int .i64 0, .slice none 0 0] 40)).heap.size = B + 2 := by rw [hB]; simp
  obtain ⟨w2, hw2⟩ : ∃ w2, w2 = (w.alloc (.cells #[.int .i64 f.params, .int .i64 f.regs, .int .i64 f.slots, .slice ca n cc] 40)).alloc (.cells #[.int .i64 0, .int .i64 0, .int .i64 0, .slice none 0 0] 40) := ⟨_, rfl⟩
  rw [← hw2] at p1 p2 hk2 s2
  rw [← hB] at p1 p2
  obtain ⟨w3, hmk, hC3, hk3⟩ := codes_made w2 (n + 2) (by omega)
  rw [s2] at hmk hC3
  have HS : Hid (Sp w w3 B n (B + 2) fv (partL f.code 0)) := ⟨hk2.trans hk3 (fun _ f _ => f), by rw [hfv]; exact blk_kept p1 hk3 (fun f => f), blk_kept p2 hk3 (fun f => f), by rw [part_zero, ← hn]; exact hC3, by omega, by omega⟩
  have HC : Hid (SeenI w ca n f.code ∧ n = f.code.length) := ⟨hC, hn⟩
  have HF : Hid _ := hfv
  have d3 : w2.cell? ⟨B, 3, none⟩ = some (.slice ca n cc) := (cell_of_heap p1 3).trans rfl
  have hnb : (n : Int) ≤ 4611686018427387904 := by omega
  rw [show ((n + 2 : Nat) : Int) = (n : Int) + 2 by omega] at hmk
  clear hC hn hfv p1 p2 hk2 hk3 hC3 s2
  go_enter Tryd.func32, Tryd.ntmps32
  go_upto_region 1 with fail
  rw [← hw2, ← hB]
  have HBE : Hid _ := hB
  clear hw2 hB
  go_upto_region 2 with fail
  clear d3
  go_upto_region 3 with (at_make; refine wpList_make_run rfl (.tmp 12) (.tmp 12) 38 rfl rfl rfl hmk ?_)
  clear hmk
  go_wp2_with fail
  go_loopw [6] (fun s6 wr => ∃ k : Nat, k ≤ n ∧ s6 = .int .i64 k ∧ Sp w wr B n (B + 2) fv (partL f.code k)) (fun i _ => n - (intOf i).toNat)
  case atStart => exact ⟨0, Nat.zero_le _, rfl, HS.out⟩
  case round =>
    obtain ⟨k, hk, rfl, hT⟩ := hrel
    by_cases hkn : k < n
    · obtain ⟨b, off, x, rfl, hx, hat⟩ := (HC.out.1.more hT.keep).at hkn
      obtain ⟨y0, y1, y2, y3, y4⟩ := hat
      have hbx := hT.box
      rw [HF.out] at hbx
      have d3 : wr.cell? ⟨B, 3, none⟩ = some (.slice (some ⟨b, off, none⟩) n cc) := (cell_of_heap hbx 3).trans rfl
      have hpl : (partL f.code k).length = n + 2 := by rw [part_len f.code k (by have := HC.out.2; omega), ← HC.out.2]
      obtain ⟨z, hz, hfr⟩ := hT.code.cells (k := k) (by omega)
      obtain ⟨u0, u1, u2, u3, u4⟩ := hz
      have t0 := hfr (k * 5)
      have t1 := hfr (k * 5 + 1)
      have t2 := hfr (k * 5 + 2)
      have t3 := hfr (k * 5 + 3)
      have t4 := hfr (k * 5 + 4)
      have hS := hT.set k x (by omega)
      rw [part_step f.code k x hx] at hS
      have i1 : (k : Int) < (n : Int) := by omega
      have i2 : (k : Int) < (n : Int) + 2 := by omega
      have i3 : (k : Int) < ((n + 2 : Nat) : Int) := by omega
      have HN : Hid _ := hS
      clear hT hbx hx hpl hfr hS
      go_wp2_with fail
      exact ⟨⟨k + 1, by omega, by simp, HN.out⟩, by simp [intOf]; omega⟩
    · have hkn2 : k = n := by omega
      have hkl : k = f.code.length := by have := HC.out.2; omega
      subst hkn2
      have i1 : ¬ (k : Int) < (k : Int) := by omega
      have ho0 := odd_any 0 wr (by omega)
      have HT : Hid (Sp w wr B k (B + 2) fv (partL f.code k) ∧ (partL f.code k).length = k + 2) := ⟨hT, by rw [part_len f.code k (by omega), ← hkl]⟩
      have HKL : Hid _ := hkl
      clear hT hkl
      unfold insV at ho0
      go_wp2_with fail
      refine ho0.mono ?_
      rintro e w4 ⟨rfl, hk4⟩
      have hT4 := HT.out.1.more hk4
      obtain ⟨z, hz, hfr⟩ := hT4.code.cells (k := k) (by have := HT.out.2; omega)
      obtain ⟨u0, u1, u2, u3, u4⟩ := hz
      have t0 := hfr (k * 5)
      have t1 := hfr (k * 5 + 1)
      have t2 := hfr (k * 5 + 2)
      have t3 := hfr (k * 5 + 3)
      have t4 := hfr (k * 5 + 4)
      have hS4 := hT4.set k (oddI 0) (by have := HT.out.2; omega)
      have i2 : (k : Int) < ((k + 2 : Nat) : Int) := by omega
      have H4 : Hid _ := hS4
      have ho1 := odd_any 1 (set5 w4 (B + 2) (k * 5) (oddI 0)) (by omega)
      unfold insV at ho1
      clear hT4 hfr hS4 hk4 ho0
      go_upto_region 8 with fail
      go_wp2_with fail
      refine ho1.mono ?_
      rintro e w5 ⟨rfl, hk5⟩
      have hT5 := H4.out.more hk5
      obtain ⟨z5, hz5, hfr⟩ := hT5.code.cells (k := k + 1) (by have := HT.out.2; simp only [List.length_set]; omega)
      obtain ⟨v0, v1, v2, v3, v4⟩ := hz5
      have t0 := hfr ((k + 1) * 5)
      have t1 := hfr ((k + 1) * 5 + 1)
      have t2 := hfr ((k + 1) * 5 + 2)
      have t3 := hfr ((k + 1) * 5 + 3)
      have t4 := hfr ((k + 1) * 5 + 4)
      have hS5 := hT5.set (k + 1) (oddI 1) (by have := HT.out.2; simp only [List.length_set]; omega)
      have i3 : (k : Int) + 1 < ((k + 2 : Nat) : Int) := by omega
      have hpe := part_end f.code
      rw [← HKL.out] at hpe
      rw [hpe] at hS5
      have H5 : Hid _ := hS5
      clear hT5 hfr hS5 hk5 ho1 hpe
      go_upto_region 9 with fail
      obtain ⟨W, hW⟩ : ∃ W, W = set5 w5 (B + 2) ((k + 1) * 5) (oddI 1) := ⟨_, rfl⟩
      change Code.wp _ _ _ _ (set5 w5 (B + 2) ((k + 1) * 5) (oddI 1))
      rw [← hW] at H5 ⊢
      clear hW t0 t1 t2 t3 t4 v0 v1 v2 v3 v4 u0 u1 u2 u3 u4
      have hbx := H5.out.box
      rw [HF.out] at hbx
      have d0 : W.cell? ⟨B, 0, none⟩ = some (.int .i64 f.params) := (cell_of_heap hbx 0).trans rfl
      have d1 : W.cell? ⟨B, 1, none⟩ = some (.int .i64 f.regs) := (cell_of_heap hbx 1).trans rfl
      have d2 : W.cell? ⟨B, 2, none⟩ = some (.int .i64 f.slots) := (cell_of_heap hbx 2).trans rfl
      have d3 : W.cell? ⟨B, 3, none⟩ = some (.slice ca k cc) := (cell_of_heap hbx 3).trans rfl
      have i4 : (k : Int) ≤ ((k + 2 : Nat) : Int) := by omega
      have hal := Keeps.alloc None W (.cells #[.int .i64 f.params, .int .i64 f.regs, .int .i64 f.slots, .slice (some ⟨B + 2, 0, none⟩) k (k + 2)] 40)
      have hT6 := H5.out.more hal
      have r0 := (cell_of_heap hT6.res 0).trans rfl
      have r1 := (cell_of_heap hT6.res 1).trans rfl
      have r2 := (cell_of_heap hT6.res 2).trans rfl
      have r3 := (cell_of_heap hT6.res 3).trans rfl
      have z0 := blk_free hT6.res 0
      have z1 := blk_free hT6.res 1
      have z2 := blk_free hT6.res 2
      have z3 := blk_free hT6.res 3
      have hkS : Keeps (· = B + 1) (W.alloc (.cells #[.int .i64 f.params, .int .i64 f.regs, .int .i64 f.slots, .slice (some ⟨B + 2, 0, none⟩) k (k + 2)] 40)) _ := ((((Keeps.refl (· = B + 1) _).andSet (x := ⟨B + 1, 0, none⟩) (.inl rfl) (.int .i64 f.params)).andSet (x := ⟨B + 1, 1, none⟩) (.inl rfl) (.int .i64 f.regs)).andSet (x := ⟨B + 1, 2, none⟩) (.inl rfl) (.int .i64 f.slots)).andSet (x := ⟨B + 1, 3, none⟩) (.inl rfl) (.slice (some ⟨B + 2, 0, none⟩) k (k + 2))
      have hb4 := blk_set (i := 3) (blk_set (i := 2) (blk_set (i := 1) (blk_set (i := 0) hT6.res (.int .i64 f.params)) (.int .i64 f.regs)) (.int .i64 f.slots)) (.slice (some ⟨B + 2, 0, none⟩) k (k + 2))
      have HQ : Hid (_ ∧ _ ∧ _) := And.intro hb4 (And.intro (hT6.code.kept hkS (by omega)) (hT6.keep.trans hkS (fun i e hi => by have := hT6.hB; omega)))
      clear hbx hal hT6 hkS hb4
      go_wp2_with fail
      exact bodyPost_ret (results_cell_tmp (q := 2) (u := 3) (ty := 40) rfl rfl (load_fnv _ _ _ f.params f.regs f.slots (.slice (some ⟨B + 2, 0, none⟩) k (k + 2)) HQ.out.1)) rfl ⟨B + 2, rfl, HQ.out.2.1, HQ.out.2.2, by have := HBE.out; omega⟩
end Go.Proofs.YtcjmceedkfjbeaaDoor
