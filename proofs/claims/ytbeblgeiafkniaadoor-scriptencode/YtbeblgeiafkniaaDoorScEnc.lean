import Derived.Test.YtbeblgeiafkniaaDoorScBld
import Derived.Test.YtbeblgeiafkniaaDoorScEncP
/-! The program's rows and its Encode. -/
namespace Go.Proofs.YtbeblgeiafkniaaDoor
set_option linter.unusedVariables false
set_option maxRecDepth 20000
open Go.RowKit Go.HeapKit Go.Sc

set_option maxHeartbeats 1600000 in
theorem row_any (a : Option Addr) (n c : Nat) (x : Int) (l : List Int) (w : World) (h : SeenN w a n l) (hx : l[0]? = some x) (hn : n ≤ 1048576) :
    Calls Tryd.prog 23 #[.slice a n c] w fun e w' => e = .returned (.int .i64 (eqN x l : Nat)) ∧ w' = w := by
  have hl := h.len
  have hl0 : 0 < l.length := (List.getElem?_eq_some_iff.1 hx).1
  obtain ⟨b, off, x', rfl, hx', c0⟩ := h.at (k := 0) (by omega)
  rw [hx] at hx'
  injection hx' with hx'
  subst hx'
  rw [Nat.add_zero] at c0
  have HS : Hid (SeenN w (some ⟨b, off, none⟩) n l ∧ n = l.length ∧ l[0]? = some x) := ⟨h, hl, hx⟩
  have n0 : ¬ n = 0 := by omega
  have n1 : (0 : Int) < (n : Int) := by omega
  clear h hl hx hl0
  go_enter Tryd.func23, Tryd.ntmps23
  go_wp2_with fail
  go_loopw [7] (fun s7 wr => ∃ k : Nat, s7 = .int .i64 k ∧ k ≤ n ∧ wr = w ∧ ∀ i, i < k → l[i]? = some x) (fun s7 _ => n - (intOf s7).toNat)
  case atStart => exact ⟨0, rfl, Nat.zero_le _, rfl, fun i hi => by omega⟩
  case round =>
    obtain ⟨k, rfl, hk, rfl, hall⟩ := hrel
    have HA : Hid (∀ i, i < k → l[i]? = some x) := hall
    clear hall
    by_cases hkn : k < n
    · obtain ⟨b', off', y, e, hy, c1⟩ := HS.out.1.at hkn
      injection e with e
      injection e with e1 e2
      subst e1 e2
      have i1 : (k : Int) < (n : Int) := by omega
      have HY : Hid (l[k]? = some y) := hy
      clear hy
      by_cases hyx : y = x
      · have q1 : (y != x) = false := by simp [hyx]
        have HQ : Hid (∀ i, i < k + 1 → l[i]? = some x) := by
          intro i hi
          by_cases e : i = k
          · subst e; rw [HY.out, hyx]
          · exact HA.out i (by omega)
        subst hyx
        go_wp2_with fail
        exact ⟨⟨k + 1, by go_num, by omega, trivial, HQ.out⟩, by simp [intOf]; omega⟩
      · have q1 : (y != x) = true := by simp [hyx]
        have HQ : Hid (eqN x l = k) := eqN_is x l k (by have := HS.out.2.1; omega) HA.out (.inr ⟨y, HY.out, hyx⟩)
        clear hyx
        go_wp2_with fail
        go_ret
        exact ⟨by rw [HQ.out]; rfl, rfl⟩
    · have i1 : ¬ (k : Int) < (n : Int) := by omega
      obtain rfl : k = n := by omega
      have HQ : Hid (eqN x l = k) := eqN_is x l k (by have := HS.out.2.1; omega) HA.out (.inl HS.out.2.1)
      go_wp2_with fail
      go_ret
      exact ⟨by rw [HQ.out]; rfl, rfl⟩

theorem SeenN.below {w w' : World} {a : Option Addr} {n B : Nat} {l : List Int} (h : SeenN w a n l) (hb : Below B w w') (ha : 0 < n → ∀ x, a = some x → x.block < B) : SeenN w' a n l := by
  refine ⟨h.len, fun h0 => ?_⟩
  obtain ⟨b, off, rfl, hlt, hc⟩ := h.ex h0
  have h1 := ha h0 _ rfl
  refine ⟨b, off, rfl, Nat.lt_of_lt_of_le hlt hb.size, fun k i hi => ?_⟩
  rw [← hc k i hi]
  unfold World.cell?
  rw [hb.block b h1]
theorem SeenN.drop {w : World} {b off : Nat} {n c : Nat} {l : List Int} (h : SeenN w (some ⟨b, off, none⟩) n l) {m : Nat} (hm : m ≤ n) (hc : n ≤ c) : SeenN w (if c = m then some ⟨b, off, none⟩ else some ⟨b, off + m, none⟩) (n - m) (l.drop m) := by
  have hl := h.len
  refine ⟨by simp; omega, fun h0 => ?_⟩
  obtain ⟨b', off', e, hb, hcell⟩ := h.ex (by omega)
  injection e with e
  injection e with e1 e2
  subst e1 e2
  rw [if_neg (by omega)]
  refine ⟨b, off + m, rfl, hb, fun k i hi => ?_⟩
  rw [List.getElem?_drop] at hi
  have := hcell _ _ hi
  rwa [← Nat.add_assoc] at this
def IsBd (w : World) (B b : Nat) (l : List UInt8) : Prop := Lib.IsBuilderF 41 5 B b (Lib.byteCells l) w
theorem str_cells (l : List UInt8) : Lib.strCells ⟨l.toArray⟩ = Lib.byteCells l := by simp [Lib.strCells, Lib.byteCells]
theorem str_sz (l : List UInt8) : (⟨l.toArray⟩ : ByteArray).size = l.length := by simp [ByteArray.size]
theorem bwrite (B b : Nat) (l s : List UInt8) (w : World) (h : IsBd w B b l) (hlen : l.length + s.length ≤ 140737488355328) (hBw : B ≤ w.heap.size) :
    Calls Tryd.prog 12 #[.pointer (some ⟨b, 0, none⟩), .string ⟨s.toArray⟩] w fun e w' => e = .returned (.tuple #[.int .i64 s.length, .nilIface]) ∧ IsBd w' B b (l ++ s) ∧ Below B w w' := by
  refine (write_any B b (Lib.byteCells l) ⟨s.toArray⟩ w h (by rw [Lib.byteCells_length, str_sz]; omega) hBw).mono ?_
  rintro e w' ⟨rfl, h1, h2⟩
  rw [str_cells, ← Lib.byteCells_append] at h1
  exact ⟨by rw [str_sz], .inr h1, h2⟩
theorem blen (B b : Nat) (l : List UInt8) (w : World) (h : IsBd w B b l) : Calls Tryd.prog 14 #[.pointer (some ⟨b, 0, none⟩)] w fun e w' => e = .returned (.int .i64 l.length) ∧ w' = w := by
  refine (Tryd.Builder_Len_f B b (Lib.byteCells l) w h).mono ?_
  rintro e w' ⟨rfl, rfl⟩
  exact ⟨by rw [Lib.byteCells_length], rfl⟩
theorem cat_one (c : UInt8) (l : List UInt8) : (⟨#[c]⟩ : ByteArray) ++ ⟨l.toArray⟩ = ⟨(c :: l).toArray⟩ := by
  apply ByteArray.ext
  simp
theorem IsBd.up {w w' : World} {B b : Nat} {l : List UInt8} (h : IsBd w B b l) (hb : Below w.heap.size w w') : IsBd w' B b l := by
  have key : ∀ p, Lib.BuilderAtF 41 5 B b p (Lib.byteCells l) w → Lib.BuilderAtF 41 5 B b p (Lib.byteCells l) w' := by
    rintro p ⟨h1, v, h2, h3, h4⟩
    have hlt : b < w.heap.size := blk_lt h2
    refine ⟨h1, v, (hb.block b hlt).trans h2, ?_, h4⟩
    refine h3.kept (row := none) ⟨hb.os, hb.tape, hb.output, hb.size, fun k hk _ => hb.block k hk⟩ ?_
    cases hv : v.ownBlock <;> simp
  exact h.elim (fun h => .inl (key _ h)) (fun h => .inr (key _ h))
theorem IsBd.lt {w : World} {B b : Nat} {l : List UInt8} (h : IsBd w B b l) : b < w.heap.size ∧ B ≤ b := by
  rcases h with h | h
  · exact ⟨h.lt, h.1⟩
  · exact ⟨h.lt, h.1⟩
end Go.Proofs.YtbeblgeiafkniaaDoor
