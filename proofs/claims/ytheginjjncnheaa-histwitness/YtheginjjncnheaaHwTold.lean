import Derived.Test.YtheginjjncnheaaHwPlain2
import Derived.Test.YtheginjjncnheaaHoOrder
import Derived.Test.YtheginjjncnheaaHiLegal
import Derived.Test.YtheginjjncnheaaHiSerial
import Derived.Test.YtheginjjncnheaaHiCut
/-! hist.Order of a history that has an order. -/
namespace Go.Proofs.Ytheginjjncnheaa
set_option linter.unusedVariables false
set_option maxRecDepth 20000
set_option linter.unusedSimpArgs false
open Go.RowKit Go.HeapKit

theorem Ords.sum {l : List Cl} {most : Nat} {x : C4} {zs os : List Int} (h : Ords l most x zs os) : os.length = x.sum := by
  induction h with
  | nil => rfl
  | more _ hi _ _ _ _ ih => rw [C4.sum_inc _ hi, List.length_append, ih]; rfl
/-- What Order tells of a history that has an order. -/
def OrdGood (w : World) (l : List Cl) (m : Nat) (e : Ending) (w' : World) : Prop := ∃ (oa : Option Addr) (on : Nat) (os : List Int), e = .returned (.tuple #[.slice oa on on, .int .i64 0]) ∧ Keeps None w w' ∧ on ≤ 160 ∧ os.length = on ∧ SeenI w' oa on os ∧ LegOk l m os ∧ ((∀ x ∈ l, x.code ≠ 0) → on = l.length)
theorem seen_new {w : World} {g : Nat} {os : List Int} (hg : w.heap[g]? = some (.cells (os.map (Value.int .i64)).toArray 3 (0, 0))) : SeenI w (some ⟨g, 0, none⟩) os.length os :=
  ⟨rfl, fun h0 => ⟨g, 0, rfl, (Array.getElem?_eq_some_iff.1 hg).1, fun k z hz => by rw [Nat.zero_add, blk_cell hg]; simp [hz]⟩⟩
theorem order_good (a : Option Addr) (n c : Nat) (l : List Cl) (m : Nat) (w : World) (hS : Seen w a n l) (hn : n ≤ 40) (hb : badE l m = 0) {os0 : List Int} (h0 : LegOk l m os0) : Calls Try.prog 7 #[.slice a n c, .int .i64 (m : Int)] w (OrdGood w l m) :=
  (order_ok a n c l m w hS (by omega)).mono fun e w' h => by
    obtain ⟨v, er, rfl, hk, h1, h2⟩ := h
    have hh := (badE_zero hb).2.2
    have hmm : ((m : Int)).toNat = m := by omega
    rcases h2 hb with ⟨rfl, hs, rfl⟩ | ⟨rfl, x, zs, hr, hin, ht, g, os, M, rfl, hg, hlow, hway, hpath⟩
    · exfalso
      obtain ⟨x, zs, ho, ht⟩ := h0.ords hh
      rw [hmm] at hs
      rw [hs.none hh ho.rch] at ht
      cases ht
    · obtain ⟨zs2, ho⟩ := hway.ords hh hpath
      have hleg := (legal_parts (ho.legal hb ht)).2
      rw [hmm] at hleg
      exact ⟨_, os.length, os, rfl, hk, by rw [ho.sum]; exact hin.sum (badE_zero hb).1, rfl, seen_new hg, hleg, fun he => ho.full hh he hin ht ho.sum⟩
theorem badE_ok {l : List Cl} {m : Nat} (h1 : l.length ≤ 40) (h2 : 1 ≤ m) (h3 : m ≤ 4096) (hh : histB l = true) : badE l m = 0 := by
  unfold badE
  rw [if_neg (by omega), if_pos (by omega)]
  exact histE_ok hh
end Go.Proofs.Ytheginjjncnheaa
