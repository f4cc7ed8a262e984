import Derived.Test.YtcjmceedkfjbeaaDoorPgEnc2
import Derived.Deep.QuietTactic
import Derived.BigQuiet
/-! The document's sum of words; sameWords. -/
namespace Go.Proofs.YtcjmceedkfjbeaaDoor
set_option linter.unusedVariables false
set_option maxRecDepth 20000
open Go.RowKit Go.HeapKit

set_option maxHeartbeats 1000000 in
theorem rsum_any (a : Option Addr) (n c : Nat) (zs : List Int) (w : World) (hS : SeenW w a n zs) : Calls Tryd.prog 27 #[.slice a n c] w fun e w' => e = .returned (.int .i64 (sumV zs)) ∧ w' = w := by
  have HS : Hid (SeenW w a n zs) := hS
  have hm := hS.most
  clear hS
  go_enter Tryd.func27, Tryd.ntmps27
  go_wp2_with fail
  go_loop [3, 4] (fun s3 s4 => ∃ k : Nat, k ≤ n ∧ s4 = .int .i64 k ∧ s3 = .int .i64 (sumV (zs.take k))) (fun _ i => n - (intOf i).toNat)
  case atStart => exact ⟨0, Nat.zero_le _, rfl, by simp [sumV]⟩
  case round =>
    obtain ⟨k, hk, rfl, rfl⟩ := hrel
    by_cases hkn : k < n
    · obtain ⟨b, off, rfl, _, hc⟩ := HS.out.ex (by omega)
      obtain ⟨x, hx⟩ : ∃ x, zs[k]? = some x := ⟨zs[k]'(by have := HS.out.len; omega), List.getElem?_eq_getElem _⟩
      have y := hc k x hx
      have i1 : (k : Int) < (n : Int) := by omega
      obtain ⟨s, hs⟩ : ∃ s, s = sumV (zs.take k) := ⟨_, rfl⟩
      rw [← hs]
      have HX : Hid (sumV (zs.take (k + 1)) = stepS s x) := by
        have e : zs.take (k + 1) = zs.take k ++ [x] := by
          rw [List.take_add_one, hx]; rfl
        unfold Hid
        rw [e, sumV_snoc, hs]
      clear hc hx hs
      go_wp2_with fail
      refine ⟨⟨k + 1, by omega, by simp, ?_⟩, by simp [intOf]; omega⟩
      rw [HX.out]
      rfl
    · have i1 : ¬ ((k : Int) < (n : Int)) := by omega
      have HX : Hid (zs.take k = zs) := List.take_of_length_le (by have := HS.out.len; omega)
      go_wp2_with fail
      go_ret
      rw [HX.out]
      exact ⟨rfl, rfl⟩
/-- Words that stand in memory. -/
structure SeenZ (w : World) (a : Option Addr) (n : Nat) (zs : List Int) : Prop where
  len : n = zs.length
  most : n ≤ 4611686018427387904
  ex : 0 < n → ∃ b off, a = some ⟨b, off, none⟩ ∧ b < w.heap.size ∧ ∀ k x, zs[k]? = some x → w.cell? ⟨b, off + k, none⟩ = some (.int .i64 x)
theorem SeenZ.more {w w' : World} {a : Option Addr} {n : Nat} {zs : List Int} (h : SeenZ w a n zs) (hk : Keeps None w w') : SeenZ w' a n zs := by
  refine ⟨h.len, h.most, fun h0 => ?_⟩
  obtain ⟨b, off, rfl, hb, hc⟩ := h.ex h0
  exact ⟨b, off, rfl, Nat.lt_of_lt_of_le hb hk.size, fun k i hi => hk.cell (hc k i hi) (fun f => f)⟩
theorem SeenZ.kept {w w' : World} {S : Nat → Prop} {a : Option Addr} {n : Nat} {zs : List Int} (h : SeenZ w a n zs) (hk : Keeps S w w') (hS : ∀ b off, a = some ⟨b, off, none⟩ → ¬ S b) : SeenZ w' a n zs := by
  refine ⟨h.len, h.most, fun h0 => ?_⟩
  obtain ⟨b, off, rfl, hb, hc⟩ := h.ex h0
  exact ⟨b, off, rfl, Nat.lt_of_lt_of_le hb hk.size, fun k i hi => hk.cell (hc k i hi) (hS b off rfl)⟩
theorem SeenZ.at {w : World} {a : Option Addr} {n : Nat} {zs : List Int} (h : SeenZ w a n zs) {k : Nat} (hk : k < n) : ∃ b off x, a = some ⟨b, off, none⟩ ∧ zs[k]? = some x ∧ w.cell? ⟨b, off + k, none⟩ = some (.int .i64 x) := by
  obtain ⟨b, off, rfl, hb, hc⟩ := h.ex (by omega)
  obtain ⟨x, hx⟩ : ∃ x, zs[k]? = some x := ⟨zs[k]'(by have := h.len; omega), List.getElem?_eq_getElem _⟩
  exact ⟨b, off, x, rfl, hx, hc k x hx⟩
set_option maxHeartbeats 1000000 in
theorem sameWords_any (a b : Option Addr) (n c c2 : Nat) (zs : List Int) (w : World) (hA : SeenZ w a n zs) (hB : SeenZ w b n zs) : Calls Tryd.prog 10 #[.slice a n c, .slice b n c2] w fun e w' => e = .returned (.bool true) ∧ Keeps None w w' := by
  have hm := hA.most
  have HC : Hid (SeenZ w a n zs ∧ SeenZ w b n zs) := ⟨hA, hB⟩
  clear hA hB
  go_enter Tryd.func10, Tryd.ntmps10
  go_wp2_with fail
  go_loopw [5] (fun s5 wr => ∃ k : Nat, k ≤ n ∧ s5 = .int .i64 k ∧ Keeps None w wr) (fun i _ => n - (intOf i).toNat)
  case atStart => exact ⟨0, Nat.zero_le _, rfl, Keeps.refl _ _⟩
  case round =>
    obtain ⟨k, hk, rfl, hkp⟩ := hrel
    by_cases hkn : k < n
    · obtain ⟨b1, o1, x, rfl, hx, y1⟩ := (HC.out.1.more hkp).at hkn
      obtain ⟨b2, o2, x2, rfl, hx2, y2⟩ := (HC.out.2.more hkp).at hkn
      rw [hx] at hx2
      obtain rfl := Option.some.inj hx2
      have i1 : (k : Int) < (n : Int) := by omega
      have HK : Hid (Keeps None w wr) := hkp
      clear hkp hx
      go_upto_region 6 with fail
      go_quiet (fail)
      go_wp2_with fail
      exact ⟨⟨k + 1, by omega, by simp, HK.out.trans (Keeps.drewN None _ _) (fun _ f _ => f)⟩, by simp [intOf]; omega⟩
    · have i1 : ¬ ((k : Int) < (n : Int)) := by omega
      have HK : Hid (Keeps None w wr) := hkp
      clear hkp
      go_wp2_with fail
      go_ret
      exact ⟨rfl, HK.out⟩
end Go.Proofs.YtcjmceedkfjbeaaDoor
