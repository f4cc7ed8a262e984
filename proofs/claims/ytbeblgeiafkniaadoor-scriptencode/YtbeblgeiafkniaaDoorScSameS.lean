import Derived.Test.YtbeblgeiafkniaaDoorScCut
import Derived.Test.YtbeblgeiafkniaaDoorScLaw
/-! Two scripts compared; an append to a full list. -/
namespace Go.Proofs.YtbeblgeiafkniaaDoor
set_option linter.unusedVariables false
set_option maxRecDepth 20000
open Go.RowKit Go.HeapKit

set_option maxHeartbeats 1600000 in
theorem sameScript_any (a0 a1 b0 b1 : Option Addr) (n m c0 c1 d0 d1 : Nat) (l0 l1 : List Int) (w : World) (h0 : SeenN w a0 n l0) (h1 : SeenN w a1 m l1) (k0 : SeenN w b0 n l0) (k1 : SeenN w b1 m l1) (hs : n * 8 ≤ 140737488351232) (hs2 : m * 8 ≤ 140737488351232) :
    Calls Tryd.prog 9 #[.agg #[.slice a0 n c0, .slice a1 m c1], .agg #[.slice b0 n d0, .slice b1 m d1]] w fun e w' => e = .returned (.bool true) ∧ Keeps None w w' := by
  obtain ⟨s0, hs0⟩ : ∃ s0, s0 = w.heap.size := ⟨_, rfl⟩
  have hb0 := blk_old (blk_new w (.cells #[.slice a0 n c0, .slice a1 m c1] 24) s0 hs0.symm) (.cells #[.slice b0 n d0, .slice b1 m d1] 24)
  have hb1 := blk_new (w.alloc (.cells #[.slice a0 n c0, .slice a1 m c1] 24)) (.cells #[.slice b0 n d0, .slice b1 m d1] 24) (s0 + 1) (by simp; omega)
  have hkb := (keeps1 w (.cells #[.slice a0 n c0, .slice a1 m c1] 24)).andAlloc (.cells #[.slice b0 n d0, .slice b1 m d1] 24)
  go_enter Tryd.func9, Tryd.ntmps9
  go_upto_region 1 with fail
  rw [← hs0]
  generalize (w.alloc (.cells #[.slice a0 n c0, .slice a1 m c1] 24)).alloc (.cells #[.slice b0 n d0, .slice b1 m d1] 24) = wb at *
  have e0 : wb.cell? ⟨s0, 0, none⟩ = some (.slice a0 n c0) := (blk_cell hb0 0).trans rfl
  have e1 : wb.cell? ⟨s0, 1, none⟩ = some (.slice a1 m c1) := (blk_cell hb0 1).trans rfl
  have f0 : wb.cell? ⟨s0 + 1, 0, none⟩ = some (.slice b0 n d0) := (blk_cell hb1 0).trans rfl
  have f1 : wb.cell? ⟨s0 + 1, 1, none⟩ = some (.slice b1 m d1) := (blk_cell hb1 1).trans rfl
  have HH : Hid (SeenN wb a0 n l0 ∧ SeenN wb a1 m l1 ∧ SeenN wb b0 n l0 ∧ SeenN wb b1 m l1 ∧ Keeps None w wb) := ⟨h0.more hkb, h1.more hkb, k0.more hkb, k1.more hkb, hkb⟩
  clear h0 h1 k0 k1 hb0 hb1 hkb hs0
  go_wp2_with fail
  refine (same_any a0 b0 n c0 d0 l0 _ HH.out.1 HH.out.2.2.1 hs).mono ?_
  rintro _ w1 ⟨rfl, q1, rfl⟩
  go_wp2_with fail
  refine (same_any a1 b1 m c1 d1 l1 _ (HH.out.2.1.more (Keeps.drewN None _ _)) (HH.out.2.2.2.1.more (Keeps.drewN None _ _)) hs2).mono ?_
  rintro _ w2 ⟨rfl, q2, rfl⟩
  go_wp2_with fail
  go_ret
  exact ⟨rfl, HH.out.2.2.2.2.trans (Keeps.drewN None _ _) (fun _ f _ => f)⟩
/-- 'append(l, x)' where l is full: new memory. -/
theorem int_grow (g n : Nat) (F : Nat → Int) (x : Int) (ty g0 : Nat) (w : World) (h : IsN w g n F) (hn : n ≤ 1048576) (hg0 : w.heap[g0]? = some (.cells #[.int .i64 x] 3 (0, 0))) :
    ∃ cap w', (Builtin.append_ #[22, 22] ty #[.slice (some ⟨g, 0, none⟩) n n, .slice (some ⟨g0, 0, none⟩) 1 1]).run Tryd.prog w = .ok (.slice (some ⟨w.heap.size, 0, none⟩) (n + 1) cap) w' ∧ Keeps None w w' := by
  obtain ⟨i0, hi, hz0, hz1, hz2⟩ := info_parts Tryd.infoInt
  have hrow := h.row 0 (Nat.zero_le _) (by omega)
  refine ⟨_, _, run_append_grow (P := Tryd.prog) w 22 ty 3 i0 _ Tryd.underlying22 hi hz0 ⟨g, 0, none⟩ n n (iv ((List.range n).map F)) (by rw [hz1]; simp [iv]) (hrow.cells (g := g) rfl) ⟨g0, 0, none⟩ 1 1 [.int .i64 x] (by rw [hz1]; rfl) (by
      intro j u hu
      rw [show (⟨g0, 0, none⟩ : Addr).add j = ⟨g0, j, none⟩ by unfold Addr.add; split <;> simp_all, blk_cell hg0]
      simpa using hu) (by omega) (by omega) (growslice_fits (by omega) (by rw [hz2]; omega)), (Keeps.drew None _).andAlloc _⟩
end Go.Proofs.YtbeblgeiafkniaaDoor
