import Derived.Test.YtbeblgeiafkniaaDoorScEnc2
import Derived.Test.YtbeblgeiafkniaaDoorRefFormatWalks
import Derived.Laws.IdiomStrings
/-! The document's rows and its Encode. -/
namespace Go.Proofs.YtbeblgeiafkniaaDoor
set_option linter.unusedVariables false
set_option maxRecDepth 20000
open Go.RowKit Go.HeapKit Go.Sc

def IsBy (w : World) (B : Nat) (v : Value) (l : List UInt8) : Prop := w.ownsRow B 5 1 v l.length (Lib.byteCells l)
theorem grown_below {w w' : World} {B : Nat} {v : Value} {l : List UInt8} (h : IsBy w B v l) (hB : B ≤ w.heap.size) (hg : w.grownBy w' v.ownBlock) : Below B w w' :=
  (Below.refl B w).grown hg hB (fun k hk => (h.lt k hk).1)
theorem by_shape {w : World} {B : Nat} {v : Value} {l : List UInt8} (h : IsBy w B v l) : ∃ ao cap, v = .slice ao l.length cap := row_shape h
/-- 'append(b, c)'. -/
theorem byte_more (B : Nat) (v : Value) (l : List UInt8) (c : UInt8) (ci : Int) (hci : ci = c.toNat) (w : World) (h : IsBy w B v l) (hB : B ≤ w.heap.size) (hlen : l.length + 1 ≤ 140737488355328) :
    ∃ v' w', (Builtin.append_ #[39, 39] 39 #[v, .slice (some ⟨w.heap.size, 0, none⟩) 1 1]).run Tryd.prog (w.alloc (.cells #[.int .u8 ci] 5)) = .ok v' w' ∧ IsBy w' B v' (l ++ [c]) ∧ Below B w w' := by
  obtain ⟨i0, hi, hz0, hz1, hz2⟩ := info_parts Tryd.infoByte
  have hk := keeps1 w (.cells #[.int .u8 ci] 5)
  have hg0 : (w.alloc (.cells #[.int .u8 ci] 5)).heap[w.heap.size]? = some (.cells #[.int .u8 ci] 5 (0, 0)) := blk_new _ _ _ rfl
  have h1 : IsBy (w.alloc (.cells #[.int .u8 ci] 5)) B v l := row_more h hk
  have hB1 : B ≤ (w.alloc (.cells #[.int .u8 ci] 5)).heap.size := by rw [alloc_size]; omega
  obtain ⟨v', w1, hr, ho, hgr, hm, -⟩ := run_append_moved (P := Tryd.prog) (w.alloc (.cells #[.int .u8 ci] 5)) B 39 39 5 i0 _ 1 1 Tryd.underlying39 hi hz0 hz1 hz2 rfl (by decide) v l.length _ h1
    ⟨w.heap.size, 0, none⟩ 1 1 [.int .u8 ci] rfl (by
      intro j u hu
      rw [show (⟨w.heap.size, 0, none⟩ : Addr).add j = ⟨w.heap.size, j, none⟩ by unfold Addr.add; split <;> simp_all, blk_cell hg0]
      simpa using hu) (by
      intro u hu
      simp at hu
      subst hu; rfl) (by unfold maxLen; omega) (by omega) hB1
  refine ⟨v', w1, hr, ?_, ((Below.refl B w).alloc hB _).trans (grown_below h1 hB1 hgr)⟩
  have e : Lib.byteCells (l ++ [c]) = Lib.byteCells l ++ [.int .u8 ci] := by rw [Lib.byteCells_append, hci]; rfl
  unfold IsBy
  rw [e, List.length_append]
  exact ho
/-- 'append(b, s...)'. -/
theorem str_more (B : Nat) (v : Value) (l s : List UInt8) (w : World) (h : IsBy w B v l) (hB : B ≤ w.heap.size) (hlen : l.length + s.length ≤ 140737488355328) :
    ∃ v' w', (Builtin.append_ #[39, 9] 39 #[v, .string ⟨s.toArray⟩]).run Tryd.prog w = .ok v' w' ∧ IsBy w' B v' (l ++ s) ∧ Below B w w' := by
  obtain ⟨i0, hi, hz0, hz1, hz2⟩ := info_parts Tryd.infoByte
  obtain ⟨v', w1, hr, ho, hgr, -⟩ := Lib.run_append_own_string (P := Tryd.prog) w B 39 9 39 5 i0 Tryd.underlying39 Tryd.underlying9 hi hz0 hz1 hz2 v l.length _ h ⟨s.toArray⟩
    (by rw [str_sz]; unfold maxLen; omega) (by rw [str_sz]; omega) hB
  refine ⟨v', w1, hr, ?_, grown_below h hB hgr⟩
  rw [str_cells, ← Lib.byteCells_append, str_sz] at ho
  unfold IsBy
  rw [List.length_append]
  exact ho
theorem by_conv (B : Nat) (ao : Option Addr) (cap : Nat) (l : List UInt8) (w : World) (h : IsBy w B (.slice ao l.length cap) l) (h0 : l ≠ []) : (convert 39 9 (.slice ao l.length cap)).run Tryd.prog w = .ok (.string ⟨l.toArray⟩) w := by
  rcases h.2 with ⟨h1, h2⟩ | ⟨g, cap', cur, e, _, hg, _, _, _, ht⟩
  · exact absurd (List.eq_nil_of_length_eq_zero h2) h0
  · injection e with e1 e2 e3
    subst e1
    refine run_convert_bytes_back w 39 9 5 ⟨g, 0, none⟩ cap l Tryd.underlying39 Tryd.underlying5 Tryd.underlying9 (fun j hj => ?_)
    rw [show (⟨g, 0, none⟩ : Addr).add j = ⟨g, j, none⟩ by unfold Addr.add; split <;> simp_all, blk_cell hg]
    have h3 : (Lib.byteCells l)[j]? = some (.int .u8 (l[j].toNat : Int)) := by simp [Lib.byteCells, hj]
    rw [← ht, List.getElem?_take] at h3
    split at h3
    · simpa using h3
    · cases h3
end Go.Proofs.YtbeblgeiafkniaaDoor
