import Derived.Test.YtlligclkoecknaaFrNext
import Derived.Test.YtlligclkoecknaaModWalks
/-! marks; what Play refuses. -/
namespace Go.Proofs.Ytlligclkoecknaa
open Go.RowKit Go.HeapKit Go.IntWalk

theorem fault_ok (ao bo : Option Addr) (c m d : Nat) (l : List Nat) (w : World) (hz : Ints w ao (l.map (fun n : Nat => (n : Int)))) (hl : Rounds l) (hm : m ≤ 1048576) :
    Calls Try.prog 33 #[.slice ao l.length c, .slice bo m d] w fun e w' => e = .returned (.int .i64 0) ∧ w' = w := by
  have h64 := hl.len
  have i1 : ¬ (64 : Int) < (l.length : Int) := by omega
  have i2 : ¬ (1048576 : Int) < (m : Int) := by omega
  have HF : Hid _ := hl
  have HZ : Hid _ := hz
  clear hl hz
  go_enter Try.func33, Try.ntmps33
  go_wp2_with fail
  go_loopw [17] (fun s wr => wr = w ∧ ∃ k : Nat, k ≤ l.length ∧ s = .int .i64 k) (fun s _ => l.length - (intOf s).toNat)
  case atStart => exact ⟨rfl, 0, Nat.zero_le _, rfl⟩
  case round =>
    obtain ⟨rfl, k, hk, rfl⟩ := hrel
    by_cases hkl : k < l.length
    · obtain ⟨b, off, rfl, hb, hc⟩ := HZ.out (by simp; omega)
      have c0 := hc k (by simpa using hkl)
      rw [getD_map] at c0
      have h8 := HF.out.few k
      generalize l.getD k 0 = n at c0 h8
      have j1 : (k : Int) < (l.length : Int) := by omega
      have j2 : ¬ (n : Int) < 0 := by omega
      have j3 : ¬ (8 : Int) < (n : Int) := by omega
      clear hc
      go_wp2_with fail
      go_roundw
      case rel => first | exact ⟨rfl, k + 1, by omega, by go_num⟩ | exact ⟨trivial, k + 1, by omega, by go_num⟩
      case measure => simp only [intOf]; omega
    · have j1 : ¬ (k : Int) < (l.length : Int) := by omega
      go_wp2_with fail
      go_ret
      exact ⟨rfl, rfl⟩
theorem marksOf_get (A : Ar) (F f : Nat) (h : f < F) : (marksOf A F)[f]? = some (A.val (2 + 10 * f)) := by simp [marksOf, h]
theorem row_set (xs : List Int) (F k : Nat) (hk : k < F) (hx : xs.length = F) : ((xs.take k ++ List.replicate (F - k) 0).map (Value.int .i64)).set k (.int .i64 (xs.getD k 0)) = (xs.take (k + 1) ++ List.replicate (F - (k + 1)) 0).map (Value.int .i64) := by
  have hl : (xs.take k).length = k := by simp; omega
  have e1 : xs.take (k + 1) = xs.take k ++ [xs.getD k 0] := by
    rw [List.take_succ_eq_append_getElem (by omega), List.getD_eq_getElem?_getD, List.getElem?_eq_getElem (by omega)]
    simp
  have e2 : List.replicate (F - k) (0 : Int) = 0 :: List.replicate (F - (k + 1)) 0 := by rw [show F - k = (F - (k + 1)) + 1 by omega, List.replicate_succ]
  rw [e1, e2, ← List.map_set]
  congr 1
  generalize xs.take k = l1 at hl
  subst hl
  simp
set_option maxHeartbeats 2000000 in
theorem marks_any (w0 w : World) (P p : Nat) (F : Nat → Prop) (ao : Option Addr) (cap : Nat) (va vh vd : Value) (rs : List Value) (S : Pl) (N : Nat) (h : IsPlay w0 w P p F ao cap va vh vd rs S) (hf : S.frames = N) (hN : N ≤ 4096) (hlen : S.A.cells.length = 1 + 10 * N) :
    Calls Try.prog 39 #[.pointer (some ⟨P, 0, none⟩)] w fun e w' => ∃ g, e = .returned (.slice (some ⟨g, 0, none⟩) N N) ∧ w.heap.size ≤ g ∧ w'.heap[g]? = some (.cells ((marksOf S.A N).map (Value.int .i64)).toArray 2 (0, 0)) ∧ Keeps None w w' := by
  obtain ⟨vc, vl, hA, -⟩ := h.ar
  have hcl := cells_any p vc vl S.A w hA
  rw [hlen] at hcl
  have c0 := h.c0
  have HH : Hid _ := h
  have HF : Hid (∀ wx, Keeps None w wx → wx.cell? ⟨P, 1, none⟩ = some (.int .i64 0) ∧ wx.cell? ⟨P, 2, none⟩ = some (.int .i64 N)) := fun wx hk => ⟨(h.kept hk).c1, by have := (h.kept hk).c2; rw [hf] at this; exact this⟩
  clear h hA
  go_enter Try.func39, Try.ntmps39
  go_wp2_with fail
  refine hcl.mono ?_
  rintro e w1 ⟨rfl, hb1, hk1⟩
  obtain ⟨i0, hi, hz0, hz1, hz2⟩ := info_parts Try.infoI64
  obtain ⟨M, hMl, hM, hmk⟩ := run_make_block (P := Try.prog) (w := w1) 48 2 i0 _ 1 8 Try.underlying48 hi hz0 hz1 hz2 N (by omega) (by omega)
  have hMe : M = ((List.replicate N (0 : Int)).map (Value.int .i64)).toArray := by
    rw [hMl, Nat.mul_one]
    apply Array.ext
    · simp [madeCells, Value.cells]
    · intro i h1 h2
      simp [madeCells, Value.cells, Nat.mod_one]
  subst hMe
  have HB1 : Hid _ := hb1
  have HK1 : Hid _ := hk1
  obtain ⟨p1, p2⟩ := HF.out w1 hk1
  clear hb1 hk1 hMl hM hi hz0 hz1 hz2 i0 hcl
  have hsz := HK1.out.size
  go_wp2_with fail
  go_loopw [19] (fun s wr => ∃ k : Nat, k ≤ N ∧ s = .int .i64 k ∧ Keeps None w wr ∧ wr.heap[w.heap.size]? = some (.cells (S.A.cells.map (Value.int .i64)).toArray 2 (0, 0)) ∧ wr.heap[w1.heap.size]? = some (.cells (((marksOf S.A N).take k ++ List.replicate (N - k) 0).map (Value.int .i64)).toArray 2 (0, 0))) (fun s _ => N - (intOf s).toNat)
  case atStart => exact ⟨0, Nat.zero_le _, rfl, HK1.out.andAlloc _, ((Keeps.alloc None w1 _).block _ (Array.getElem?_eq_some_iff.1 HB1.out).1 (fun f => f)).trans HB1.out, by simpa using new_at w1 _ _ rfl⟩
  case round =>
    obtain ⟨k, hk, rfl, hkr, hbr, hmr⟩ := hrel
    by_cases hkN : k < N
    · have j1 : (k : Int) < (N : Int) := by omega
      obtain ⟨p1, p2⟩ := HF.out wr hkr
      have hmk2 := markAt_any 0 N k
      rw [mark_at k (by omega)] at hmk2
      have HR : Hid _ := And.intro hkr (And.intro hbr hmr)
      clear hkr hbr hmr
      go_wp2_with fail
      refine (hmk2 _).mono ?_
      rintro e w3 ⟨rfl, hk3⟩
      obtain ⟨hkr, hbr, hmr⟩ := HR.out
      have hb3 := (hk3.block _ (Array.getElem?_eq_some_iff.1 hbr).1 (fun f => f)).trans hbr
      have hm3 := (hk3.block _ (Array.getElem?_eq_some_iff.1 hmr).1 (fun f => f)).trans hmr
      have r1 : w3.cell? ⟨w.heap.size, 2 + 10 * k, none⟩ = some (.int .i64 (S.A.val (2 + 10 * k))) := by
        rw [cell_of_block hb3]
        have : 2 + 10 * k < S.A.cells.length := by omega
        simp [Ar.val, List.getD_eq_getElem?_getD, this]
      have r2 : ∃ u, w3.cell? ⟨w1.heap.size, k, none⟩ = some u := by
        rw [cell_of_block hm3]
        have : k < ((((marksOf S.A N).take k ++ List.replicate (N - k) 0).map (Value.int .i64)).toArray).size := by simp [marksOf]; omega
        exact ⟨_, Array.getElem?_eq_getElem this⟩
      obtain ⟨u, r2⟩ := r2
      have r3 := free_of_block hm3 k
      have hset := row_set (marksOf S.A N) N k hkN (by simp [marksOf])
      rw [marksOf_at S.A N k hkN] at hset
      have hne : w.heap.size ≠ w1.heap.size := by have := (Array.getElem?_eq_some_iff.1 HB1.out).1; omega
      have HE : Hid (Keeps None w (w3.setCell ⟨w1.heap.size, k, none⟩ (.int .i64 (S.A.val (2 + 10 * k)))) ∧ (w3.setCell ⟨w1.heap.size, k, none⟩ (.int .i64 (S.A.val (2 + 10 * k)))).heap[w.heap.size]? = some (.cells (S.A.cells.map (Value.int .i64)).toArray 2 (0, 0)) ∧ (w3.setCell ⟨w1.heap.size, k, none⟩ (.int .i64 (S.A.val (2 + 10 * k)))).heap[w1.heap.size]? = some (.cells (((marksOf S.A N).take (k + 1) ++ List.replicate (N - (k + 1)) 0).map (Value.int .i64)).toArray 2 (0, 0))) := by
        refine ⟨(hkr.trans hk3 (fun _ f _ => f)).andSet (.inr hsz) _, ((Keeps.setCell (S := (· = w1.heap.size)) w3 (a := ⟨w1.heap.size, k, none⟩) rfl _).block _ (Array.getElem?_eq_some_iff.1 hb3).1 hne).trans hb3, ?_⟩
        rw [setCell_block hm3, ← hset]
        simp
      have q1 : ((2 + 10 * k : Nat) : Int) < ((1 + 10 * N : Nat) : Int) := by omega
      generalize S.A.val (2 + 10 * k) = y at r1 HE
      generalize hq : 2 + 10 * k = q at r1 q1 ⊢
      have HQ : Hid _ := hq
      clear hq hb3 hm3 hset hmk2 hkr hbr hmr hk3
      go_wp2_with fail
      go_roundw
      case rel => exact ⟨k + 1, by omega, by go_num, HE.out.1, HE.out.2.1, HE.out.2.2⟩
      case measure => simp only [intOf]; omega
    · have j1 : ¬ (k : Int) < (N : Int) := by omega
      obtain rfl : k = N := by omega
      have HR : Hid _ := And.intro hkr hmr
      clear hkr hbr hmr
      go_wp2_with fail
      go_ret
      refine ⟨_, rfl, hsz, ?_, HR.out.1⟩
      have := HR.out.2
      simpa [marksOf, List.take_of_length_le] using this
end Go.Proofs.Ytlligclkoecknaa
