import Derived.Test.YtlajblbfelcalaaScRound
import Derived.Test.YtlajblbfelcalaaScCopied
import Derived.Test.YtlajblbfelcalaaScLaw
/-! Each. -/
namespace Go.Proofs.Ytlajblbfelcalaa
set_option linter.unusedVariables false
set_option maxRecDepth 20000
open Go.RowKit Go.HeapKit

/-- What Each hands back: its two boxes, and a list of its own. -/
structure EachB (w w' : World) (V : Int) (ap : Option Addr) (len cap : Nat) (xs : List Int) : Prop where
  bw : w'.cell? ⟨w.heap.size + 1, 0, none⟩ = some (.int .i64 V)
  bs : w'.cell? ⟨w.heap.size + 1 + 1, 0, none⟩ = some (.slice ap len cap)
  sn : SeenN w' ap len xs
  lo : ∀ x, ap = some x → 0 < len → w.heap.size ≤ x.block
  kp : Keeps None w w'
  sz : w.heap.size + 1 + 1 < w'.heap.size
set_option maxHeartbeats 1600000 in
theorem each_any (a a2 : Option Addr) (m c m2 c2 : Nat) (V : Int) (l : List Int) (w : World) (h : SeenN w a m l) (hs : m * 8 ≤ 140737488351232) (len : Nat) (xs : List Int) (hx : (goodB V = true ∧ len = m ∧ xs = l) ∨ (goodB V = false ∧ len = 0 ∧ xs = [])) :
    Calls Try.prog 16 #[.agg #[.slice a m c, .slice a2 m2 c2], .int .i64 V] w fun e w' => ∃ ap cap, e = .returned (.func (.func 32) #[] #[.pointer (some ⟨w.heap.size + 1 + 1, 0, none⟩), .pointer (some ⟨w.heap.size + 1, 0, none⟩)]) ∧ EachB w w' V ap len cap xs := by
  have HS : Hid (SeenN w a m l) := h
  clear h
  obtain ⟨s0, hs0⟩ : ∃ s0, s0 = w.heap.size := ⟨_, rfl⟩
  obtain ⟨wb, hwb⟩ : ∃ wb, ((w.alloc (.cells #[.slice a m c, .slice a2 m2 c2] 37)).alloc (.cells #[.int .i64 V] 3)).alloc (.cells #[.slice none 0 0] 25) = wb := ⟨_, rfl⟩
  have hb0 : wb.heap[s0]? = some (.cells #[.slice a m c, .slice a2 m2 c2] 37 (0, 0)) := by rw [← hwb]; exact blk_old (blk_old (blk_new w _ s0 hs0.symm) _) _
  have hb1 : wb.heap[s0 + 1]? = some (.cells #[.int .i64 V] 3 (0, 0)) := by rw [← hwb]; exact blk_old (blk_new _ _ (s0 + 1) (by simp; omega)) _
  have hb2 : wb.heap[s0 + 1 + 1]? = some (.cells #[.slice none 0 0] 25 (0, 0)) := by rw [← hwb]; exact blk_new _ _ (s0 + 1 + 1) (by simp; omega)
  have hkb : Keeps None w wb := by rw [← hwb]; exact ((keeps1 w _).andAlloc _).andAlloc _
  have hsz : wb.heap.size = s0 + 1 + 1 + 1 := by rw [← hwb]; simp; omega
  have c0 : wb.cell? ⟨s0, 0, none⟩ = some (.slice a m c) := (blk_cell hb0 0).trans rfl
  have c1 : wb.cell? ⟨s0 + 1, 0, none⟩ = some (.int .i64 V) := (blk_cell hb1 0).trans rfl
  have d2 : wb.cell? ⟨s0 + 1 + 1, 0, none⟩ = some (.slice none 0 0) := (blk_cell hb2 0).trans rfl
  have HB : Hid (wb.heap[s0 + 1]? = some (.cells #[.int .i64 V] 3 (0, 0)) ∧ wb.heap[s0 + 1 + 1]? = some (.cells #[.slice none 0 0] 25 (0, 0)) ∧ Keeps None w wb ∧ wb.heap.size = s0 + 1 + 1 + 1 ∧ s0 = w.heap.size) := ⟨hb1, hb2, hkb, hsz, hs0⟩
  clear hb0 hb1 hb2 hkb hsz
  go_enter Try.func16, Try.ntmps16
  go_upto_region 2 with fail
  rw [← hs0]
  try rw [hwb]
  clear hwb hs0
  rcases hx with ⟨hg, rfl, rfl⟩ | ⟨hg, rfl, rfl⟩
  · have hG : ∀ wz, Calls Try.prog 29 #[.int .i64 V] wz fun e w' => e = .returned (.bool true) ∧ w' = wz := fun wz => by have := good_any V wz; rwa [hg] at this
    have hC : Hid (Calls Try.prog 31 #[.slice a len c] wb fun e w' => ∃ va vc, e = .returned (.slice va len vc) ∧ w'.ownsRow wb.heap.size 3 1 (.slice va len vc) len (iv xs) ∧ Keeps None wb w') := by
      refine (clone_any a len c xs wb (HS.out.more HB.out.2.2.1) hs).mono ?_
      rintro _ w' ⟨v, rfl, h1, h2⟩
      obtain ⟨va, vc, rfl⟩ := row_shape h1
      exact ⟨va, vc, rfl, h1, h2⟩
    go_wp2_with (first
      | (go_at_call 29; refine (hG _).mono ?_; rintro _ _ ⟨rfl, rfl⟩)
      | (go_at_call 31; refine hC.out.mono ?_; rintro _ w5 ⟨va, vc, rfl, hr5, hk5⟩; have b5 := blk_kept HB.out.2.1 hk5 (fun f => f); have r50 := (blk_cell b5 0).trans rfl; have f50 := blk_free b5 0))
    go_ret
    have e := HB.out
    have hz := hk5.size
    have hkS : Keeps (· = s0 + 1 + 1) w5 (w5.setCell ⟨s0 + 1 + 1, 0, none⟩ (.slice va len vc)) := Keeps.setCell (S := (· = s0 + 1 + 1)) w5 rfl _
    have hr6 := row_kept hr5 hkS (fun g e1 e2 => by have := row_low hr5 e1; omega)
    rw [← e.2.2.2.2]
    refine ⟨va, vc, rfl, ?_, ?_, row_seen hr6, fun x hx h0 => ?_, (e.2.2.1.trans hk5 (fun _ f _ => f)).trans hkS (fun i e1 hi => by omega), by have := hkS.size; omega⟩
    · rw [← e.2.2.2.2]; exact hkS.cell ((blk_cell (blk_kept e.1 hk5 (fun f => f)) 0).trans rfl) (by simp)
    · rw [← e.2.2.2.2]; exact (blk_cell (blk_set b5 _) 0).trans rfl
    · subst hx
      rcases hr5.2 with ⟨h1, _⟩ | ⟨g, cap, cur, h1, hbg, _⟩
      · cases h1
      · injection h1 with h1
        injection h1 with h1
        subst h1
        show w.heap.size ≤ g
        omega
  · have hG : ∀ wz, Calls Try.prog 29 #[.int .i64 V] wz fun e w' => e = .returned (.bool false) ∧ w' = wz := fun wz => by have := good_any V wz; rwa [hg] at this
    go_wp2_with (go_at_call 29; refine (hG _).mono ?_; rintro _ _ ⟨rfl, rfl⟩)
    go_ret
    have e := HB.out
    rw [← e.2.2.2.2]
    exact ⟨none, 0, rfl, by rw [← e.2.2.2.2]; exact c1, by rw [← e.2.2.2.2]; exact d2, ⟨rfl, fun h => by omega⟩, fun x hx h0 => by omega, e.2.2.1, by omega⟩
end Go.Proofs.Ytlajblbfelcalaa
