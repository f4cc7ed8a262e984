import Derived.Test.YtoglgifmgpogjabRefFoldWalks
import Derived.Test.YtoglgifmgpogjabBackWalks
/-! The walks of OpsFold and OpsTree. -/
namespace Go.Proofs.Ytoglgifmgpogjab
open Go.RowKit Go.PlainOps

def foldRes (op : Int) (zs : List Int) : Int := if foldErr op (zs.length : Nat) = 0 then foldV op zs else 0
def treeRes (op : Int) (zs : List Int) : Int := if foldErr op (zs.length : Nat) = 0 then treeR op zs else 0
theorem fold_res (op : Int) (a : Option Addr) (n cap : Nat) (zs : List Int) (w : World) (hn : zs.length = n) (hs : Seg w a cap zs) : Calls Try.prog 9 #[.int .i64 op, .slice a n cap] w fun e w' => e = .returned (.tuple #[.int .i64 (foldRes op zs), .int .i64 (foldErr op n)]) ∧ w' = w := by
  unfold foldRes
  rw [hn]
  split
  · rename_i h; rw [h]; exact fold_ok op a n cap zs w h hn hs
  · rename_i h; exact fold_err op a n cap w h
theorem refFold_res (op : Int) (a : Option Addr) (n cap : Nat) (zs : List Int) (w : World) (hn : zs.length = n) (hf : Fits zs) (hs : Seg w a cap zs) : Calls Try.prog 15 #[.int .i64 op, .slice a n cap] w fun e w' => e = .returned (.tuple #[.int .i64 (foldRes op zs), .int .i64 (foldErr op n)]) ∧ w' = w := by
  unfold foldRes
  rw [hn]
  split
  · rename_i h; rw [h]; exact refFold_ok op a n cap zs w h hn hf hs
  · rename_i h; exact refFold_err op a n cap w h
theorem tree_res (op : Int) (a : Option Addr) (n cap : Nat) (zs : List Int) (w : World) (hn : zs.length = n) (hs : Seg w a cap zs) : Calls Try.prog 10 #[.int .i64 op, .slice a n cap] w fun e w' => e = .returned (.tuple #[.int .i64 (treeRes op zs), .int .i64 (foldErr op n)]) ∧ ∃ m, w' = w.drewN m := by
  unfold treeRes
  rw [hn]
  split
  · rename_i h; rw [h]; exact tree_ok op a n cap zs w h hn hs
  · rename_i h; exact tree_err op a n cap w h
theorem refTree_res (op : Int) (a : Option Addr) (n cap : Nat) (zs : List Int) (w : World) (hn : zs.length = n) (hf : Fits zs) (hs : Seg w a cap zs) : Calls Try.prog 18 #[.int .i64 op, .slice a n cap] w fun e w' => e = .returned (.tuple #[.int .i64 (treeRes op zs), .int .i64 (foldErr op n)]) ∧ w' = w := by
  unfold treeRes
  rw [hn]
  split
  · rename_i h; rw [h]; exact refTree_ok op a n cap zs w h hn hf hs
  · rename_i h; exact refTree_err op a n cap w h
theorem mine_of_moved {w : World} {B g cp n : Nat} {zs : List Int} (hn : zs.length = n) (h : w.ownsRow B 2 1 (.slice (some ⟨g, 0, none⟩) (n + 1) cp) (n + 1) (movedK zs n ++ [.int .i64 (-77)])) (hr : n + 1 ≤ cp) (hm : cp ≤ maxLen) :
    Mine w B g cp (zs.map fun x => wrap64 (x + 1)) (-77) := by
  subst hn
  refine ⟨?_, by rw [List.length_map]; exact hr, hm⟩
  rw [List.length_map, List.map_map]
  have e : movedK zs zs.length = zs.map fun x => Value.int .i64 (wrap64 (x + 1)) := by unfold movedK; rw [List.take_of_length_le (Nat.le_refl _)]
  rw [e] at h
  exact h
theorem below_drewN {B : Nat} {a w : World} (h : Below B a w) (n : Nat) : Below B a (w.drewN n) := ⟨h.os, h.tape, h.output, h.size, h.block⟩
theorem Seg.below {B : Nat} {w w' : World} {b off cap : Nat} {zs : List Int} (hc : zs.length ≤ cap) (hm : cap ≤ maxLen) (h : CellsAt w' b off zs) (_hb : Below B w w') : Seg w' (some ⟨b, off, none⟩) cap zs := ⟨hc, hm, .inr ⟨b, off, rfl, h⟩⟩
section
set_option maxHeartbeats 800000
theorem opsFold_some (op : Int) (b off n cap : Nat) (zs : List Int) (w : World) (hn : zs.length = n) (h1 : 1 ≤ n) (hc : n ≤ cap) (hm : cap ≤ maxLen) (hcell : CellsAt w b off zs) (hbB : b < w.heap.size) (hr : n * 8 ≤ 140737488351232) (hf : Fits zs) :
    Calls Try.prog 5 #[.int .i64 op, .slice (some ⟨b, off, none⟩) n cap] w fun e w' => e = .returned (.bool true) ∧ Below w.heap.size w w' := by
  have HN : Hid (zs.length = n) := hn
  have HC : Hid (CellsAt w b off zs) := hcell
  have HF : Hid (Fits zs) := hf
  have HM : Hid (cap ≤ maxLen) := hm
  clear hn hcell hf hm
  go_enter Try.func5, Try.ntmps5
  go_wp2_with fail
  refine (moved_some b off n cap zs w HN.out h1 hc HC.out hbB hr).mono ?_
  rintro e w1 ⟨g, cp, rfl, hcp, hmp, hown, hb1⟩
  have M1 : Hid (Mine w1 w.heap.size g cp (zs.map fun x => wrap64 (x + 1)) (-77)) := mine_of_moved HN.out hown hcp hmp
  have B1 : Hid (Below w.heap.size w w1) := hb1
  clear hown hb1 hmp
  go_wp2_with fail
  refine (fold_res op _ n cp _ _ (by rw [List.length_map]; exact HN.out) M1.out.seg).mono ?_
  rintro e w2 ⟨rfl, hw⟩
  subst hw
  go_wp2_with fail
  refine (back_some w.heap.size g cp b off n cap zs _ (-77) _ M1.out (by rw [List.length_map]; exact HN.out) HN.out hc hr (HC.out.below B1.out hbB) hbB).mono ?_
  rintro e w3 ⟨rfl, hM3, hb3⟩
  have M3 : Hid (Mine w3 w.heap.size g cp zs (-77)) := hM3
  have B3 : Hid (Below w.heap.size w w3) := B1.out.trans hb3
  clear hM3 hb3
  go_wp2_with fail
  refine (fold_res op _ n cp zs _ HN.out M3.out.seg).mono ?_
  rintro e w4 ⟨rfl, hw⟩
  subst hw
  go_wp2_with fail
  refine (refFold_res op _ n cap zs _ HN.out HF.out (Seg.below (by rw [HN.out]; exact hc) HM.out (HC.out.below B3.out hbB) B3.out)).mono ?_
  rintro e w5 ⟨rfl, hw⟩
  subst hw
  go_wp2_with (first
    | (go_at_call 16; refine (same_some g 0 cp b off n cap zs _ HN.out hr M3.out.cells (HC.out.below B3.out hbB)).mono ?_; rintro e w6 ⟨rfl, m3, rfl⟩)
    | (go_at_call 17; refine (marked_any w.heap.size g cp n zs _ (M3.out.drewN _) HN.out hr).mono ?_; rintro e w7 ⟨rfl, rfl⟩))
  go_ret
  exact ⟨rfl, below_drewN B3.out _⟩
theorem opsFold_empty (op : Int) (a : Option Addr) (cap : Nat) (w : World) (hm : cap ≤ maxLen) :
    Calls Try.prog 5 #[.int .i64 op, .slice a 0 cap] w fun e w' => e = .returned (.bool true) ∧ Below w.heap.size w w' := by
  have HM : Hid (∀ w, Seg w a cap []) := fun _ => ⟨by simp, hm, .inl rfl⟩
  have HF : Hid (Fits []) := fun _ h => by cases h
  clear hm
  go_enter Try.func5, Try.ntmps5
  go_wp2_with fail
  refine (moved_empty a cap w).mono ?_
  rintro e w1 ⟨g, cp, rfl, hcp, hmp, hown, hb1⟩
  have M1 : Hid (Mine w1 w.heap.size g cp [] (-77)) := ⟨hown, hcp, hmp⟩
  have B1 : Hid (Below w.heap.size w w1) := hb1
  clear hown hb1 hmp
  go_wp2_with fail
  refine (fold_res op _ 0 cp [] _ rfl M1.out.seg).mono ?_
  rintro e w2 ⟨rfl, hw⟩
  subst hw
  go_wp2_with fail
  refine (back_empty _ a cap _).mono ?_
  rintro e w3 ⟨rfl, hw⟩
  subst hw
  go_wp2_with fail
  refine (fold_res op _ 0 cp [] _ rfl M1.out.seg).mono ?_
  rintro e w4 ⟨rfl, hw⟩
  subst hw
  go_wp2_with fail
  refine (refFold_res op _ 0 cap [] _ rfl HF.out (HM.out _)).mono ?_
  rintro e w5 ⟨rfl, hw⟩
  subst hw
  go_wp2_with (first
    | (go_at_call 16; refine (same_empty _ _ _ _ _).mono ?_; rintro e w6 ⟨rfl, m3, rfl⟩)
    | (go_at_call 17; refine (marked_any w.heap.size g cp 0 [] _ (M1.out.drewN _) rfl (by omega)).mono ?_; rintro e w7 ⟨rfl, rfl⟩))
  go_ret
  exact ⟨rfl, below_drewN B1.out _⟩
theorem opsFold_walk (op : Int) (a : Option Addr) (n cap : Nat) (zs : List Int) (w : World) (hn : zs.length = n) (hs : Seg w a cap zs) (hf : Fits zs) (hr : cap * 8 ≤ 140737488351232) :
    Calls Try.prog 5 #[.int .i64 op, .slice a n cap] w fun e w' => e = .returned (.bool true) ∧ Below w.heap.size w w' := by
  obtain ⟨hc, hm, hcell⟩ := hs
  by_cases h0 : n = 0
  · subst h0; exact opsFold_empty op a cap w hm
  · rcases hcell with rfl | ⟨b, off, rfl, hcell⟩
    · exact absurd hn.symm h0
    · have hb : b < w.heap.size := by
        have h := hcell 0 (by omega)
        simp only [World.cell?] at h
        by_cases hlt : b < w.heap.size
        · exact hlt
        · rw [Array.getElem?_eq_none (by omega)] at h
          simp at h
      exact opsFold_some op b off n cap zs w hn (by omega) (by omega) hm hcell hb (by omega) hf
theorem opsTree_some (op : Int) (b off n cap : Nat) (zs : List Int) (w : World) (hn : zs.length = n) (h1 : 1 ≤ n) (hc : n ≤ cap) (hm : cap ≤ maxLen) (hcell : CellsAt w b off zs) (hbB : b < w.heap.size) (hr : n * 8 ≤ 140737488351232) (hf : Fits zs) :
    Calls Try.prog 6 #[.int .i64 op, .slice (some ⟨b, off, none⟩) n cap] w fun e w' => e = .returned (.bool true) ∧ Below w.heap.size w w' := by
  have HN : Hid (zs.length = n) := hn
  have HC : Hid (CellsAt w b off zs) := hcell
  have HF : Hid (Fits zs) := hf
  have HM : Hid (cap ≤ maxLen) := hm
  clear hn hcell hf hm
  go_enter Try.func6, Try.ntmps6
  go_wp2_with fail
  refine (moved_some b off n cap zs w HN.out h1 hc HC.out hbB hr).mono ?_
  rintro e w1 ⟨g, cp, rfl, hcp, hmp, hown, hb1⟩
  have M1 : Hid (Mine w1 w.heap.size g cp (zs.map fun x => wrap64 (x + 1)) (-77)) := mine_of_moved HN.out hown hcp hmp
  have B1 : Hid (Below w.heap.size w w1) := hb1
  clear hown hb1 hmp
  go_wp2_with fail
  refine (tree_res op _ n cp _ _ (by rw [List.length_map]; exact HN.out) M1.out.seg).mono ?_
  rintro e w2 ⟨rfl, m1, rfl⟩
  go_wp2_with fail
  refine (back_some w.heap.size g cp b off n cap zs _ (-77) _ (M1.out.drewN m1) (by rw [List.length_map]; exact HN.out) HN.out hc hr (HC.out.below (below_drewN B1.out m1) hbB) hbB).mono ?_
  rintro e w3 ⟨rfl, hM3, hb3⟩
  have M3 : Hid (Mine w3 w.heap.size g cp zs (-77)) := hM3
  have B3 : Hid (Below w.heap.size w w3) := (below_drewN B1.out m1).trans hb3
  clear hM3 hb3
  go_wp2_with fail
  refine (tree_res op _ n cp zs _ HN.out M3.out.seg).mono ?_
  rintro e w4 ⟨rfl, m2, rfl⟩
  go_wp2_with fail
  refine (refTree_res op _ n cap zs _ HN.out HF.out (Seg.below (by rw [HN.out]; exact hc) HM.out (HC.out.below (below_drewN B3.out m2) hbB) (below_drewN B3.out m2))).mono ?_
  rintro e w5 ⟨rfl, hw⟩
  subst hw
  go_wp2_with (first
    | (go_at_call 16; refine (same_some g 0 cp b off n cap zs _ HN.out hr (M3.out.drewN m2).cells (HC.out.below (below_drewN B3.out m2) hbB)).mono ?_; rintro e w6 ⟨rfl, m3, rfl⟩)
    | (go_at_call 17; refine (marked_any w.heap.size g cp n zs _ (M3.out.drewN _) HN.out hr).mono ?_; rintro e w7 ⟨rfl, rfl⟩))
  go_ret
  exact ⟨rfl, below_drewN B3.out _⟩
theorem opsTree_empty (op : Int) (a : Option Addr) (cap : Nat) (w : World) (hm : cap ≤ maxLen) :
    Calls Try.prog 6 #[.int .i64 op, .slice a 0 cap] w fun e w' => e = .returned (.bool true) ∧ Below w.heap.size w w' := by
  have HM : Hid (∀ w, Seg w a cap []) := fun _ => ⟨by simp, hm, .inl rfl⟩
  have HF : Hid (Fits []) := fun _ h => by cases h
  clear hm
  go_enter Try.func6, Try.ntmps6
  go_wp2_with fail
  refine (moved_empty a cap w).mono ?_
  rintro e w1 ⟨g, cp, rfl, hcp, hmp, hown, hb1⟩
  have M1 : Hid (Mine w1 w.heap.size g cp [] (-77)) := ⟨hown, hcp, hmp⟩
  have B1 : Hid (Below w.heap.size w w1) := hb1
  clear hown hb1 hmp
  go_wp2_with fail
  refine (tree_res op _ 0 cp [] _ rfl M1.out.seg).mono ?_
  rintro e w2 ⟨rfl, m1, rfl⟩
  go_wp2_with fail
  refine (back_empty _ a cap _).mono ?_
  rintro e w3 ⟨rfl, hw⟩
  subst hw
  go_wp2_with fail
  refine (tree_res op _ 0 cp [] _ rfl (M1.out.drewN m1).seg).mono ?_
  rintro e w4 ⟨rfl, m2, rfl⟩
  go_wp2_with fail
  refine (refTree_res op _ 0 cap [] _ rfl HF.out (HM.out _)).mono ?_
  rintro e w5 ⟨rfl, hw⟩
  subst hw
  go_wp2_with (first
    | (go_at_call 16; refine (same_empty _ _ _ _ _).mono ?_; rintro e w6 ⟨rfl, m3, rfl⟩)
    | (go_at_call 17; refine (marked_any w.heap.size g cp 0 [] _ (M1.out.drewN _) rfl (by omega)).mono ?_; rintro e w7 ⟨rfl, rfl⟩))
  go_ret
  exact ⟨rfl, below_drewN B1.out _⟩
theorem opsTree_walk (op : Int) (a : Option Addr) (n cap : Nat) (zs : List Int) (w : World) (hn : zs.length = n) (hs : Seg w a cap zs) (hf : Fits zs) (hr : cap * 8 ≤ 140737488351232) :
    Calls Try.prog 6 #[.int .i64 op, .slice a n cap] w fun e w' => e = .returned (.bool true) ∧ Below w.heap.size w w' := by
  obtain ⟨hc, hm, hcell⟩ := hs
  by_cases h0 : n = 0
  · subst h0; exact opsTree_empty op a cap w hm
  · rcases hcell with rfl | ⟨b, off, rfl, hcell⟩
    · exact absurd hn.symm h0
    · have hb : b < w.heap.size := by
        have h := hcell 0 (by omega)
        simp only [World.cell?] at h
        by_cases hlt : b < w.heap.size
        · exact hlt
        · rw [Array.getElem?_eq_none (by omega)] at h
          simp at h
      exact opsTree_some op b off n cap zs w hn (by omega) (by omega) hm hcell hb (by omega) hf
end
end Go.Proofs.Ytoglgifmgpogjab
