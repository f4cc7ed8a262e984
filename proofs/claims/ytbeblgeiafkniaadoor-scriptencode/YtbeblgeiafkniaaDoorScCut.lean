import Derived.Test.YtbeblgeiafkniaaDoorScEnd
/-! slices.Clone of a list of numbers; Cut. -/
namespace Go.Proofs.YtbeblgeiafkniaaDoor
set_option linter.unusedVariables false
set_option maxRecDepth 20000
open Go.RowKit Go.HeapKit

theorem add_none {b o : Nat} (k : Nat) : (⟨b, o, none⟩ : Addr).add k = ⟨b, o + k, none⟩ := by unfold Addr.add; split <;> simp_all
/-- 'append([]int{}, l...)'. -/
theorem ints_copied (x : Addr) (m c : Nat) (l : List Int) (w : World) (ty : TypeId) (h : SeenN w (some x) m l) (hs : m * 8 ≤ 140737488351232) :
    ∃ v w', (Builtin.append_ #[22, 22] ty #[.slice (some ⟨w.heap.size, 0, none⟩) 0 0, .slice (some x) m c]).run Tryd.prog (w.alloc (.cells #[] 3)) = .ok v w' ∧
      w'.ownsRow w.heap.size 3 1 v m (iv l) ∧ Keeps None w w' := by
  obtain ⟨i0, hi, hz0, hz1, hz2⟩ := info_parts Tryd.infoInt
  have hl := h.len
  have h2 := h.more (keeps1 w (.cells #[] 3))
  have hrow : (w.alloc (.cells #[] 3)).ownsRow w.heap.size 3 1 (.slice (some ⟨w.heap.size, 0, none⟩) 0 0) 0 [] :=
    ⟨by simp, .inr ⟨w.heap.size, 0, #[], rfl, Nat.le_refl _, blk_new _ _ _ rfl, Nat.le_refl _, by unfold maxLen; omega, rfl, rfl⟩⟩
  obtain ⟨v', w1, hr, ho, hgr, hm, -⟩ := run_append_moved (P := Tryd.prog) (w.alloc (.cells #[] 3)) w.heap.size 22 ty 3 i0 _ 1 8 Tryd.underlying22 hi hz0 hz1 hz2 rfl (by decide) _ 0 _ hrow
    x m c (iv l) (by rw [iv_len]; omega) (by
      intro j u hu
      have hj : j < m := by have := (List.getElem?_eq_some_iff.1 hu).1; rw [iv_len] at this; omega
      obtain ⟨b, off, e, _, hc⟩ := h2.ex (by omega)
      injection e with e
      subst e
      rw [add_none]
      have hlj : l[j]? = some (l[j]'(by omega)) := List.getElem?_eq_getElem _
      rw [hc j _ hlj]
      rw [iv_at l j _ hlj] at hu
      exact hu) (by
      intro u hu
      simp [iv] at hu
      obtain ⟨y, _, rfl⟩ := hu
      rfl) (by unfold maxLen; omega) (by omega) (by simp)
  rw [Nat.zero_add, List.nil_append] at ho
  exact ⟨v', w1, hr, ho, ((keeps1 w _).andGrown hgr (fun k e => .inr (by simp [Value.ownBlock] at e; omega)))⟩
def cutN (n : Int) (m : Nat) : Nat := (max 0 (min n (m : Int))).toNat
theorem cutN_le (n : Int) (m : Nat) : cutN n m ≤ m := by unfold cutN; omega
/-- A script of two rows of our own, in blocks of their own. -/
structure TwoR (w : World) (base : Nat) (v0 v1 : Value) (n0 n1 : Nat) (l0 l1 : List Int) : Prop where
  r0 : w.ownsRow base 3 1 v0 n0 (iv l0)
  r1 : w.ownsRow base 3 1 v1 n1 (iv l1)
  ap : ∀ g, v0.ownBlock = some g → v1.ownBlock ≠ some g
theorem TwoR.more {w w' : World} {base : Nat} {v0 v1 : Value} {n0 n1 : Nat} {l0 l1 : List Int} (h : TwoR w base v0 v1 n0 n1 l0 l1) (hk : Keeps None w w') : TwoR w' base v0 v1 n0 n1 l0 l1 := ⟨row_more h.r0 hk, row_more h.r1 hk, h.ap⟩
theorem TwoR.kept {S : Nat → Prop} {w w' : World} {base : Nat} {v0 v1 : Value} {n0 n1 : Nat} {l0 l1 : List Int} (h : TwoR w base v0 v1 n0 n1 l0 l1) (hk : Keeps S w w') (hS : ∀ g, base ≤ g → g < w.heap.size → (v0.ownBlock = some g ∨ v1.ownBlock = some g) → ¬ S g) : TwoR w' base v0 v1 n0 n1 l0 l1 :=
  ⟨row_kept h.r0 hk (fun g e => hS g (row_low h.r0 e) (own_lt h.r0 e) (.inl e)), row_kept h.r1 hk (fun g e => hS g (row_low h.r1 e) (own_lt h.r1 e) (.inr e)), h.ap⟩
theorem TwoR.base {w : World} {base base' : Nat} {v0 v1 : Value} {n0 n1 : Nat} {l0 l1 : List Int} (h : TwoR w base v0 v1 n0 n1 l0 l1) (hb : base' ≤ base) : TwoR w base' v0 v1 n0 n1 l0 l1 := ⟨row_base h.r0 hb, row_base h.r1 hb, h.ap⟩
/-- Two rows that were made one behind the other. -/
theorem twoR_ab {wa wb w' : World} {base : Nat} {v0 v1 : Value} {n0 n1 : Nat} {l0 l1 : List Int} (h0 : wa.ownsRow base 3 1 v0 n0 (iv l0)) (h1 : wb.ownsRow wa.heap.size 3 1 v1 n1 (iv l1)) (hb : base ≤ wa.heap.size) (hk : Keeps None wa wb) (hk2 : Keeps None wb w') : TwoR w' base v0 v1 n0 n1 l0 l1 :=
  ⟨row_more (row_more h0 hk) hk2, row_base (row_more h1 hk2) hb, fun g e0 e1 => by have := own_lt h0 e0; have := row_low h1 e1; omega⟩
theorem twoR_ba {wa wb w' : World} {base : Nat} {v0 v1 : Value} {n0 n1 : Nat} {l0 l1 : List Int} (h1 : wa.ownsRow base 3 1 v1 n1 (iv l1)) (h0 : wb.ownsRow wa.heap.size 3 1 v0 n0 (iv l0)) (hb : base ≤ wa.heap.size) (hk : Keeps None wa wb) (hk2 : Keeps None wb w') : TwoR w' base v0 v1 n0 n1 l0 l1 :=
  ⟨row_base (row_more h0 hk2) hb, row_more (row_more h1 hk) hk2, fun g e0 e1 => by have := own_lt h1 e1; have := row_low h0 e0; omega⟩
end Go.Proofs.YtbeblgeiafkniaaDoor
