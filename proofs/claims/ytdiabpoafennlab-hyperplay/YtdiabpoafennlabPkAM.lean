import Derived.Test.YtdiabpoafennlabPkAL
import Derived.Test.YtdiabpoafennlabPkAD
import Derived.Test.YtdiabpoafennlabProg
import Derived.WalkKit
import Derived.WalkSpells
import Derived.WalkLawsBesides
/-! The document's run: its next pick. -/
namespace Go.Proofs.Ytdiabpoafennlab.Rn
set_option linter.unusedVariables false
set_option maxRecDepth 20000
set_option linter.unusedSimpArgs false
open Go.RowKit Go.HeapKit Go.PlainOps

set_option maxHeartbeats 1600000 in
theorem pick_ok (base pb nx n : Nat) (K : RP) (X : RX) (L M R : Nat → Value) (s : PS) (w : World) (h : PM w base pb K X L M R nx s) (hn : 1 ≤ n) (hn2 : n ≤ 100000) (hk : K.pk.length ≤ 1048576) :
    Calls Try.prog 62 #[.pointer (some ⟨pb, 0, none⟩), .int .i64 n] w fun e w' => e = .returned (.int .i64 (s.pk.headD 0 % (n : Int))) ∧ (∃ nx', PM w' base pb K X L M R nx' { s with pk := s.pk.tail }) ∧ Keeps (· = pb) w w' := by
  obtain ⟨-, -, -, -, q4, q5, -, -, -⟩ := h.c0
  have hf5 := h.free 5
  have hle := h.ar.le
  have HP : Hid (PM w base pb K X L M R nx s) := h
  cases hp : s.pk with
  | nil =>
    have hge : K.pk.length ≤ nx := by
      have h1 := h.ar.rest
      rw [hp] at h1
      have h2 := congrArg List.length h1
      simp at h2
      omega
    have i1 : ¬ (nx : Int) < (K.pk.length : Int) := by omega
    have HX : Hid (s.pk = []) := hp
    have i2 : ¬ (n : Int) = 0 := by omega
    clear h hp
    go_enter Try.func62, Try.ntmps62
    go_upto_region 2 with fail
    go_quiet (fail)
    go_wp2
    go_ret
    have e : ({ s with pk := [] } : PS) = s := by rw [← HX.out]
    rw [e]
    exact ⟨rfl, ⟨nx, HP.out.more (keeps_drewN _ _)⟩, (keeps_drewN _ _).mono (fun _ f _ => f.elim)⟩
  | cons x pk =>
    obtain ⟨hx, hN⟩ := h.nextPick hp
    have hlt : nx < K.pk.length := (List.getElem?_eq_some_iff.1 hx).1
    obtain ⟨b, off, v, ha, -, hv, hc⟩ := h.ar.seen.at hlt
    rw [iv, List.getElem?_map, hx] at hv
    obtain rfl : Value.int .i64 x = v := Option.some.inj hv
    rw [ha] at q4
    have HN : Hid (∀ wx, Keeps None w wx → PM (wx.setCell ⟨pb, 5, none⟩ (.int .i64 ((nx + 1 : Nat) : Int))) base pb K X L M R (nx + 1) { s with pk := pk } ∧ wx.cell? ⟨pb, 4, none⟩ = some (.slice (some ⟨b, off, none⟩) K.pk.length K.pc) ∧ wx.cell? ⟨pb, 5, none⟩ = some (.int .i64 nx) ∧ wx.cell? ⟨b, off + nx, none⟩ = some (.int .i64 x) ∧ wx.frozen? ⟨pb, 5, none⟩ = false) := fun wx hw => ⟨((h.more hw).nextPick hp).2, hw.cell q4 (fun f => f), hw.cell q5 (fun f => f), hw.cell hc (fun f => f), (h.more hw).free 5⟩
    have i1 : (nx : Int) < (K.pk.length : Int) := by omega
    have i3 : (0 : Int) ≤ (nx : Int) := by omega
    have i2 : ¬ (n : Int) = 0 := by omega
    have hm := tmod_mod x n (by omega)
    have hb := tmod_bounds x n (by omega)
    obtain ⟨y, hy⟩ : ∃ y, y = x.tmod n := ⟨_, rfl⟩
    rw [← hy] at hm hb
    have HM : Hid ((if y < 0 then y + n else y) = x % n ∧ -(n : Int) < y ∧ y < n ∧ y = x.tmod n) := ⟨hm, hb.1, hb.2, hy⟩
    have hw1 : wrap64 ((nx : Int) + 1) = (nx : Int) + 1 := by unfold wrap64; omega
    clear h hp hx hN hv ha hm hb hy
    go_enter Try.func62, Try.ntmps62
    go_upto_region 2 with fail
    go_quiet (fail)
    obtain ⟨w1, hq1⟩ : ∃ w1, w1 = w.drewN nq := ⟨_, rfl⟩
    have hk1 : Keeps None w w1 := by rw [hq1]; exact keeps_drewN _ _
    rw [← hq1]
    clear hq1
    obtain ⟨-, z4, z5, zc, zf⟩ := HN.out w1 hk1
    go_upto_region 3 with fail
    go_quiet (fail)
    obtain ⟨w2, hq2⟩ : ∃ w2, w2 = w1.drewN nq := ⟨_, rfl⟩
    have hk2 : Keeps None w w2 := hk1.trans (by rw [hq2]; exact keeps_drewN _ _) (fun _ f _ => f)
    rw [← hq2]
    clear hq2 z4 z5 zc zf q4 q5 hf5 hc
    obtain ⟨hP, z4, z5, zc, zf⟩ := HN.out w2 hk2
    have HF : Hid (PM (w2.setCell ⟨pb, 5, none⟩ (.int .i64 ((nx : Int) + 1))) base pb K X L M R (nx + 1) { s with pk := pk } ∧ Keeps (· = pb) w (w2.setCell ⟨pb, 5, none⟩ (.int .i64 ((nx : Int) + 1)))) := ⟨hP, (hk2.mono (T := (· = pb)) (fun _ f _ => f.elim)).andSet (x := ⟨pb, 5, none⟩) (.inl rfl) _⟩
    have hm2 : x.tmod (n : Int) = y := HM.out.2.2.2.symm
    have hwy : wrap64 y = y := by have := HM.out.2; unfold wrap64; omega
    have hwz : wrap64 (y + (n : Int)) = y + (n : Int) := by have := HM.out.2; unfold wrap64; omega
    clear hP hk1 hk2
    by_cases hy0 : y < 0
    · have HY : Hid (wrap64 (y + (n : Int)) = x % n) := by have h := HM.out.1; rw [if_pos hy0] at h; exact hwz.trans h
      clear hwz
      go_wp2_with fail
      go_ret
      exact ⟨congrArg (fun v => Ending.returned (Value.int .i64 v)) HY.out, ⟨nx + 1, HF.out.1⟩, HF.out.2⟩
    · have HY : Hid (y = x % n) := by have h := HM.out.1; rw [if_neg hy0] at h; exact h
      go_wp2_with fail
      go_ret
      exact ⟨congrArg (fun v => Ending.returned (Value.int .i64 v)) HY.out, ⟨nx + 1, HF.out.1⟩, HF.out.2⟩
end Go.Proofs.Ytdiabpoafennlab.Rn
/-! Bits one at a time, doublings and halvings: the document's own ways, as plain functions. -/
namespace Go.PlainOps
open Go.RowKit

def oddV (a : Int) : Bool := decide (a % 2 = 1)
def halfV (a : Int) : Int := a / 2
def shrN (a : Int) (k : Nat) : Int := a / 2 ^ k
def shlN (a : Int) (k : Nat) : Int := wrap64 (a * 2 ^ k)
def unitP (k : Nat) : Int := wrap64 (2 ^ k)
def accV (X : BitVec 64) (k : Nat) : Int := wrap64 ((X.toNat % 2 ^ k : Nat) : Int)
def combV (both one x y : Bool) : Bool := (x && y && both) || ((x != y) && one)

theorem odd_tmod (a : Int) : (a.tmod 2 != 0) = oddV a := by
  unfold oddV
  rw [Int.tmod_eq_emod]
  rw [Bool.eq_iff_iff]
  simp only [bne_iff_ne, decide_eq_true_eq]
  split <;> omega
theorem half_neg (a : Int) (h : a < 0) (ho : oddV a = true) : a.tdiv 2 - 1 = halfV a := by
  unfold halfV
  simp only [oddV, decide_eq_true_eq] at ho
  have h1 := Int.tdiv_mul_add_tmod a 2
  have h2 := Int.tmod_eq_emod (a := a) (b := 2)
  split at h2 <;> omega
theorem half_pos (a : Int) (h : ¬ (a < 0 ∧ oddV a = true)) : a.tdiv 2 = halfV a := by
  unfold halfV
  simp only [oddV, decide_eq_true_eq] at h
  have h1 := Int.tdiv_mul_add_tmod a 2
  have h2 := Int.tmod_eq_emod (a := a) (b := 2)
  split at h2 <;> omega
theorem half_fits (a : Int) (h0 : -9223372036854775808 ≤ a) (h1 : a ≤ 9223372036854775807) : wrap64 (halfV a) = halfV a := by
  unfold wrap64 halfV; omega
theorem half_bounds (a : Int) (h0 : -9223372036854775808 ≤ a) (h1 : a ≤ 9223372036854775807) : -4611686018427387904 ≤ halfV a ∧ halfV a ≤ 4611686018427387903 := by
  unfold halfV; omega
theorem tdiv_two_bounds (a : Int) (h0 : -9223372036854775808 ≤ a) (h1 : a ≤ 9223372036854775807) : -4611686018427387904 ≤ a.tdiv 2 ∧ a.tdiv 2 ≤ 4611686018427387904 := by
  have h1 := Int.tdiv_mul_add_tmod a 2
  have h2 := Int.tmod_eq_emod (a := a) (b := 2)
  split at h2 <;> omega
theorem shr_zero (a : Int) : shrN a 0 = a := by simp [shrN]
theorem shr_succ (a : Int) (k : Nat) : halfV (shrN a k) = shrN a (k + 1) := by
  unfold halfV shrN
  rw [Int.ediv_ediv_of_nonneg (Int.le_of_lt (Int.pow_pos (by decide))), Int.pow_succ]
theorem shr_fits (a : Int) (k : Nat) (h0 : -9223372036854775808 ≤ a) (h1 : a ≤ 9223372036854775807) : -9223372036854775808 ≤ shrN a k ∧ shrN a k ≤ 9223372036854775807 := by
  induction k with
  | zero => rw [shr_zero]; exact ⟨h0, h1⟩
  | succ k ih => rw [← shr_succ]; have := half_bounds _ ih.1 ih.2; omega
theorem shl_zero (a : Int) (h0 : -9223372036854775808 ≤ a) (h1 : a ≤ 9223372036854775807) : shlN a 0 = a := by
  unfold shlN wrap64; rw [Int.pow_zero]; omega
theorem shl_succ (a : Int) (k : Nat) : wrap64 (shlN a k + shlN a k) = shlN a (k + 1) := by
  unfold shlN
  rw [Int.pow_succ, ← Int.mul_assoc]
  generalize a * 2 ^ k = p
  unfold wrap64; omega
theorem unit_zero : unitP 0 = 1 := by unfold unitP wrap64; rw [Int.pow_zero]; omega
theorem unit_succ (k : Nat) : wrap64 (unitP k + unitP k) = unitP (k + 1) := by
  unfold unitP
  rw [Int.pow_succ]
  generalize (2 : Int) ^ k = p
  unfold wrap64; omega
theorem acc_zero (X : BitVec 64) : accV X 0 = 0 := by
  unfold accV; rw [Nat.pow_zero, Nat.mod_one]; unfold wrap64; omega
theorem acc_set (X : BitVec 64) (k : Nat) (h : X.getLsbD k = true) : wrap64 (accV X k + unitP k) = accV X (k + 1) := by
  have e : X.toNat % 2 ^ (k + 1) = X.toNat % 2 ^ k + 2 ^ k := by
    rw [Nat.mod_pow_succ]
    have : X.toNat.testBit k = true := h
    rw [Nat.testBit_eq_decide_div_mod_eq, decide_eq_true_eq] at this
    rw [this, Nat.mul_one]
  unfold accV unitP
  rw [e]
  have e2 : ((X.toNat % 2 ^ k + 2 ^ k : Nat) : Int) = ((X.toNat % 2 ^ k : Nat) : Int) + 2 ^ k := by simp
  rw [e2]
  generalize ((X.toNat % 2 ^ k : Nat) : Int) = p
  generalize (2 : Int) ^ k = q
  unfold wrap64; omega
theorem acc_clear (X : BitVec 64) (k : Nat) (h : X.getLsbD k = false) : accV X k = accV X (k + 1) := by
  have e : X.toNat % 2 ^ (k + 1) = X.toNat % 2 ^ k := by
    rw [Nat.mod_pow_succ]
    have : X.toNat.testBit k = false := h
    rw [Nat.testBit_eq_decide_div_mod_eq, decide_eq_false_iff_not] at this
    have h0 : X.toNat / 2 ^ k % 2 = 0 := by omega
    rw [h0, Nat.mul_zero, Nat.add_zero]
  unfold accV
  rw [e]
theorem acc_end (X : BitVec 64) : accV X 64 = X.toInt := by
  unfold accV
  rw [Nat.mod_eq_of_lt X.isLt, wrap64_bv, bv_toNat]
theorem bit_odd (a : Int) (k : Nat) (hk : k < 64) : (bv a).getLsbD k = oddV (shrN a k) := by
  have h1 : (bv a).getLsbD k = (bv a).toNat.testBit k := rfl
  rw [h1, Nat.testBit_eq_decide_div_mod_eq]
  unfold oddV shrN
  have hn : ((bv a).toNat : Int) = a % 2 ^ 64 := by simp [bv]; omega
  have e : (((bv a).toNat / 2 ^ k % 2 : Nat) : Int) = a / 2 ^ k % 2 := by
    rw [Int.natCast_emod, Int.natCast_ediv, hn, Int.natCast_pow]
    have hs : (2 : Int) ^ 64 = 2 ^ k * (2 * 2 ^ (63 - k)) := by
      rw [← Int.pow_succ', ← Int.pow_add]; congr 1; omega
    have hp : (0 : Int) < 2 ^ k := Int.pow_pos (by decide)
    have hd := Int.mul_ediv_add_emod a (2 ^ 64)
    have h2 : a / 2 ^ k = a % 2 ^ 64 / 2 ^ k + (2 * 2 ^ (63 - k)) * (a / 2 ^ 64) := by
      conv => lhs; rw [← hd, Int.add_comm]
      rw [hs, Int.mul_assoc, Int.add_mul_ediv_left _ _ (by omega)]
    rw [h2, Int.mul_assoc]
    exact (Int.add_mul_emod_self_left _ 2 _).symm
  rw [Bool.eq_iff_iff]
  simp only [decide_eq_true_eq]
  omega
/-- A word read as a signed number: shut, so that no simp lays it open. -/
def bitsR (X : BitVec 64) : Int := X.toInt
theorem bitsR_eq (X : BitVec 64) : bitsR X = X.toInt := rfl
theorem and_R (a b : Int) : bits .and .i64 a b = bitsR (bv a &&& bv b) := bits_and a b
theorem or_R (a b : Int) : bits .or .i64 a b = bitsR (bv a ||| bv b) := bits_or a b
theorem xor_R (a b : Int) : bits .xor .i64 a b = bitsR (bv a ^^^ bv b) := bits_xor a b
/-- The document's quotient and rest are the operations'. -/
theorem quot_one (a : Int) : wrap64 (0 - a) = quotV a (-1) := by
  unfold quotV
  rw [if_neg (by decide), Int.tdiv_neg, Int.tdiv_one]
  congr 1
  omega
theorem rem_doc (a b : Int) (h0 : -9223372036854775808 ≤ a) (h1 : a ≤ 9223372036854775807) (hb0 : -9223372036854775808 ≤ b) (hb1 : b ≤ 9223372036854775807) : wrap64 (a - wrap64 (quotV a b * b)) = remV a b := by
  unfold quotV remV
  by_cases hb : b = 0
  · subst hb; simp [wrap64]; omega
  · rw [if_neg hb, if_neg hb]
    have e := Int.tdiv_mul_add_tmod a b
    have hr : -9223372036854775808 ≤ a.tmod b ∧ a.tmod b ≤ 9223372036854775807 := by
      rcases Int.lt_or_gt_of_ne hb with h | h
      · have := tmod_bounds a (-b) (by omega)
        rw [Int.tmod_neg] at this; omega
      · have := tmod_bounds a b (by omega); omega
    rw [← toInt_bv hr.1 hr.2]
    have e2 : a.tmod b = a - a.tdiv b * b := by omega
    rw [e2]
    simp only [wrap64_bv, bv_mul, bv_sub, bv_toInt]
end Go.PlainOps
/-! The contracts of the document's own operations. -/
namespace Go.Proofs.Ytdiabpoafennlab
open Go.RowKit Go.PlainOps
section
set_option maxHeartbeats 400000
theorem refOdd_any (a : Int) (w : World) : Calls Try.prog 78 #[.int .i64 a] w fun e w' => e = .returned (.bool (oddV a)) ∧ w' = w := by
  have h := odd_tmod a
  go_enter Try.func78, Try.ntmps78
  go_wp2
  go_ret
  exact ⟨rfl, rfl⟩
theorem refHalf_any (a : Int) (w : World) (h0 : -9223372036854775808 ≤ a) (h1 : a ≤ 9223372036854775807) : Calls Try.prog 79 #[.int .i64 a] w fun e w' => e = .returned (.int .i64 (halfV a)) ∧ w' = w := by
  have hb := tdiv_two_bounds a h0 h1
  obtain ⟨hb0, hb1⟩ := hb
  have ho := odd_tmod a
  by_cases hn : a < 0
  · cases hd : oddV a
    · rw [hd] at ho
      have E : Hid (halfV a = a.tdiv 2) := (half_pos a (by rw [hd]; simp)).symm
      clear hd
      go_enter Try.func79, Try.ntmps79
      go_wp2
      go_ret
      exact ⟨by rw [E.out]; rfl, rfl⟩
    · rw [hd] at ho
      have E : Hid (halfV a = a.tdiv 2 - 1) := (half_neg a hn hd).symm
      clear hd
      go_enter Try.func79, Try.ntmps79
      go_wp2
      go_ret
      exact ⟨by rw [E.out]; rfl, rfl⟩
  · have E : Hid (halfV a = a.tdiv 2) := (half_pos a (by omega)).symm
    clear ho
    go_enter Try.func79, Try.ntmps79
    go_wp2
    go_ret
    exact ⟨by rw [E.out]; rfl, rfl⟩
end
end Go.Proofs.Ytdiabpoafennlab
/-! The document's own bits, doublings, halvings, quotient, comparisons; its work and Apply. -/
namespace Go.Proofs.Ytdiabpoafennlab
open Go.RowKit Go.PlainOps
section
set_option maxHeartbeats 800000
theorem refBits_any (a b : Int) (both one : Bool) (X : BitVec 64) (w : World) (h0 : -9223372036854775808 ≤ a) (h1 : a ≤ 9223372036854775807) (hb0 : -9223372036854775808 ≤ b) (hb1 : b ≤ 9223372036854775807)
    (hX : ∀ i, i < 64 → X.getLsbD i = combV both one ((bv a).getLsbD i) ((bv b).getLsbD i)) :
    Calls Try.prog 73 #[.int .i64 a, .int .i64 b, .bool both, .bool one] w fun e w' => e = .returned (.int .i64 (bitsR X)) ∧ w' = w := by
  have HX : Hid (∀ i, i < 64 → X.getLsbD i = combV both one ((bv a).getLsbD i) ((bv b).getLsbD i)) := hX
  clear hX
  go_enter Try.func73, Try.ntmps73
  go_wp2
  go_loop [0, 1, 9, 10, 11] (fun x y v u i => ∃ k : Nat, k ≤ 64 ∧ i = .int .i64 k ∧ v = .int .i64 (accV X k) ∧ u = .int .i64 (unitP k) ∧ x = .int .i64 (shrN a k) ∧ y = .int .i64 (shrN b k)) (fun _ _ _ _ i => 64 - (intOf i).toNat)
  case atStart => exact ⟨0, by omega, rfl, by rw [acc_zero], by rw [unit_zero], by rw [shr_zero], by rw [shr_zero]⟩
  case round =>
    obtain ⟨k, hk, rfl, rfl, rfl, rfl, rfl⟩ := hrel
    by_cases hlt : k < 64
    · have hb := HX.out k hlt
      rw [bit_odd a k hlt, bit_odd b k hlt] at hb
      obtain ⟨fa0, fa1⟩ := shr_fits a k h0 h1
      obtain ⟨fb0, fb1⟩ := shr_fits b k hb0 hb1
      have U : Hid (wrap64 (unitP k + unitP k) = unitP (k + 1)) := unit_succ k
      have SA : Hid (halfV (shrN a k) = shrN a (k + 1)) := shr_succ a k
      have SB : Hid (halfV (shrN b k) = shrN b (k + 1)) := shr_succ b k
      cases hx : oddV (shrN a k) <;> cases hy : oddV (shrN b k) <;> cases both <;> cases one
      all_goals
        rw [hx, hy] at hb
        first
        | (have V : Hid (accV X k = accV X (k + 1)) := acc_clear X k (by rw [hb]; rfl)
           have HB : Hid True := trivial
           clear hb
           go_wp2_with (first | (go_at_call 78; refine (refOdd_any _ _).mono ?_; rintro e w' ⟨rfl, rfl⟩) | (go_at_call 79; refine (refHalf_any _ _ (by assumption) (by assumption)).mono ?_; rintro e w' ⟨rfl, rfl⟩))
           go_round
           case rel => exact ⟨k + 1, by omega, by go_num, by rw [← V.out], by rw [← U.out], by rw [← SA.out], by rw [← SB.out]⟩
           case measure => simp [intOf]; omega)
        | (have V : Hid (wrap64 (accV X k + unitP k) = accV X (k + 1)) := acc_set X k (by rw [hb]; rfl)
           clear hb
           go_wp2_with (first | (go_at_call 78; refine (refOdd_any _ _).mono ?_; rintro e w' ⟨rfl, rfl⟩) | (go_at_call 79; refine (refHalf_any _ _ (by assumption) (by assumption)).mono ?_; rintro e w' ⟨rfl, rfl⟩))
           go_round
           case rel => exact ⟨k + 1, by omega, by go_num, by rw [← V.out], by rw [← U.out], by rw [← SA.out], by rw [← SB.out]⟩
           case measure => simp [intOf]; omega)
    · have E : Hid (accV X k = bitsR X) := by
        have : k = 64 := by omega
        subst this
        exact acc_end X
      go_wp2
      go_ret
      exact ⟨by rw [← E.out]; rfl, rfl⟩
theorem refShl_any (a : Int) (s : Nat) (w : World) (h0 : -9223372036854775808 ≤ a) (h1 : a ≤ 9223372036854775807) (hs : s < 64) :
    Calls Try.prog 74 #[.int .i64 a, .int .i64 s, .bool true] w fun e w' => e = .returned (.int .i64 (shlN a s)) ∧ w' = w := by
  go_enter Try.func74, Try.ntmps74
  go_wp2
  go_loop [0, 7] (fun x i => ∃ k : Nat, k ≤ s ∧ i = .int .i64 k ∧ x = .int .i64 (shlN a k)) (fun _ i => s - (intOf i).toNat)
  case atStart => exact ⟨0, by omega, rfl, by rw [shl_zero a h0 h1]⟩
  case round =>
    obtain ⟨k, hk, rfl, rfl⟩ := hrel
    by_cases hlt : k < s
    · have U : Hid (wrap64 (shlN a k + shlN a k) = shlN a (k + 1)) := shl_succ a k
      go_wp2
      go_round
      case rel => exact ⟨k + 1, by omega, by go_num, by rw [← U.out]⟩
      case measure => simp [intOf]; omega
    · obtain rfl : k = s := by omega
      go_wp2
      go_ret
      exact ⟨rfl, rfl⟩
theorem refShr_any (a : Int) (s : Nat) (w : World) (h0 : -9223372036854775808 ≤ a) (h1 : a ≤ 9223372036854775807) (hs : s < 64) :
    Calls Try.prog 74 #[.int .i64 a, .int .i64 s, .bool false] w fun e w' => e = .returned (.int .i64 (shrN a s)) ∧ w' = w := by
  go_enter Try.func74, Try.ntmps74
  go_wp2
  go_loop [0, 7] (fun x i => ∃ k : Nat, k ≤ s ∧ i = .int .i64 k ∧ x = .int .i64 (shrN a k)) (fun _ i => s - (intOf i).toNat)
  case atStart => exact ⟨0, by omega, rfl, by rw [shr_zero]⟩
  case round =>
    obtain ⟨k, hk, rfl, rfl⟩ := hrel
    by_cases hlt : k < s
    · obtain ⟨fa0, fa1⟩ := shr_fits a k h0 h1
      have U : Hid (halfV (shrN a k) = shrN a (k + 1)) := shr_succ a k
      go_wp2_with (go_at_call 79; refine (refHalf_any _ _ (by assumption) (by assumption)).mono ?_; rintro e w' ⟨rfl, rfl⟩)
      go_round
      case rel => exact ⟨k + 1, by omega, by go_num, by rw [← U.out]⟩
      case measure => simp [intOf]; omega
    · obtain rfl : k = s := by omega
      go_wp2
      go_ret
      exact ⟨rfl, rfl⟩
end
end Go.Proofs.Ytdiabpoafennlab
/-! The document's own quotient, comparisons; its work and Apply. -/
namespace Go.Proofs.Ytdiabpoafennlab
open Go.RowKit Go.PlainOps
section
set_option maxHeartbeats 800000
set_option maxRecDepth 100000
theorem shift_doc (b : Int) : (if b.tmod 64 < 0 then b.tmod 64 + 64 else b.tmod 64) = b % 64 := tmod_mod b 64 (by decide)
theorem refShift_any (b : Int) (w : World) : Calls Try.prog 75 #[.int .i64 b] w fun e w' => e = .returned (.int .i64 (b % 64)) ∧ w' = w := by
  have E : Hid ((if b.tmod 64 < 0 then b.tmod 64 + 64 else b.tmod 64) = b % 64) := shift_doc b
  obtain ⟨t0, t1⟩ := tmod_bounds b 64 (by decide)
  by_cases h : b.tmod 64 < 0
  · have E2 : Hid (b.tmod 64 + 64 = b % 64) := by have := E.out; rw [if_pos h] at this; exact this
    go_enter Try.func75, Try.ntmps75
    go_wp2
    go_ret
    exact ⟨by rw [← E2.out]; rfl, rfl⟩
  · have E2 : Hid (b.tmod 64 = b % 64) := by have := E.out; rw [if_neg h] at this; exact this
    go_enter Try.func75, Try.ntmps75
    go_wp2
    go_ret
    exact ⟨by rw [← E2.out]; rfl, rfl⟩
theorem refQuot_any (a b : Int) (w : World) : Calls Try.prog 72 #[.int .i64 a, .int .i64 b] w fun e w' => e = .returned (.int .i64 (quotV a b)) ∧ w' = w := by
  by_cases hz : b = 0
  · subst hz
    go_enter Try.func72, Try.ntmps72
    go_wp2
    go_ret
    exact ⟨rfl, rfl⟩
  · by_cases ho : b = -1
    · have e1 : (b == 0) = false := beq_eq_false_iff_ne.2 hz
      have e2 : (b == -1) = true := beq_iff_eq.2 ho
      have E : Hid (wrap64 (0 - a) = quotV a b) := by rw [ho]; exact quot_one a
      clear hz ho
      go_enter Try.func72, Try.ntmps72
      go_wp2
      go_ret
      exact ⟨by rw [← E.out]; first | rfl | simp, rfl⟩
    · have e1 : (b == 0) = false := beq_eq_false_iff_ne.2 hz
      have e2 : (b == -1) = false := beq_eq_false_iff_ne.2 ho
      have E : Hid (wrap64 (a.tdiv b) = quotV a b) := by unfold quotV; rw [if_neg hz]; exact rfl
      clear ho
      go_enter Try.func72, Try.ntmps72
      go_wp2
      go_ret
      exact ⟨by rw [← E.out]; rfl, rfl⟩
theorem refTruth_any (x : Bool) (w : World) : Calls Try.prog 80 #[.bool x] w fun e w' => e = .returned (.int .i64 (truthV x)) ∧ w' = w := by
  cases x
  all_goals
    go_enter Try.func80, Try.ntmps80
    go_wp2
    go_ret
    exact ⟨rfl, rfl⟩
theorem refCompare12 (a b : Int) (w : World) : Calls Try.prog 76 #[.int .i64 12, .int .i64 a, .int .i64 b] w fun e w' => e = .returned (.int .i64 (truthV (decide (a < b)))) ∧ w' = w := by
  go_enter Try.func76, Try.ntmps76
  go_wp2_with (go_at_call 80; refine (refTruth_any _ _).mono ?_; rintro e w' ⟨rfl, rfl⟩)
  go_ret
  exact ⟨rfl, rfl⟩
theorem refCompare13 (a b : Int) (w : World) : Calls Try.prog 76 #[.int .i64 13, .int .i64 a, .int .i64 b] w fun e w' => e = .returned (.int .i64 (truthV (decide (a ≤ b)))) ∧ w' = w := by
  go_enter Try.func76, Try.ntmps76
  go_wp2_with (go_at_call 80; refine (refTruth_any _ _).mono ?_; rintro e w' ⟨rfl, rfl⟩)
  go_ret
  exact ⟨rfl, rfl⟩
theorem refCompare14 (a b : Int) (w : World) : Calls Try.prog 76 #[.int .i64 14, .int .i64 a, .int .i64 b] w fun e w' => e = .returned (.int .i64 (truthV (a == b))) ∧ w' = w := by
  go_enter Try.func76, Try.ntmps76
  go_wp2_with (go_at_call 80; refine (refTruth_any _ _).mono ?_; rintro e w' ⟨rfl, rfl⟩)
  go_ret
  exact ⟨rfl, rfl⟩
theorem refCompare15 (a b : Int) (w : World) : Calls Try.prog 76 #[.int .i64 15, .int .i64 a, .int .i64 b] w fun e w' => e = .returned (.int .i64 (truthV (a != b))) ∧ w' = w := by
  go_enter Try.func76, Try.ntmps76
  go_wp2_with (go_at_call 80; refine (refTruth_any _ _).mono ?_; rintro e w' ⟨rfl, rfl⟩)
  go_ret
  exact ⟨rfl, rfl⟩
theorem refCompare10 (a b : Int) (w : World) : Calls Try.prog 76 #[.int .i64 10, .int .i64 a, .int .i64 b] w fun e w' => e = .returned (.int .i64 (minV a b)) ∧ w' = w := by
  by_cases h : a < b
  · have e : minV a b = a := by unfold minV; split <;> omega
    rw [e]
    go_enter Try.func76, Try.ntmps76
    go_wp2
    go_ret
    exact ⟨rfl, rfl⟩
  · have e : minV a b = b := by unfold minV; split <;> omega
    rw [e]
    go_enter Try.func76, Try.ntmps76
    go_wp2
    go_ret
    exact ⟨rfl, rfl⟩
theorem refCompare11 (a b : Int) (w : World) : Calls Try.prog 76 #[.int .i64 11, .int .i64 a, .int .i64 b] w fun e w' => e = .returned (.int .i64 (maxV a b)) ∧ w' = w := by
  by_cases h : b < a
  · have e : maxV a b = a := by unfold maxV; split <;> omega
    rw [e]
    go_enter Try.func76, Try.ntmps76
    go_wp2
    go_ret
    exact ⟨rfl, rfl⟩
  · have e : maxV a b = b := by unfold maxV; split <;> omega
    rw [e]
    go_enter Try.func76, Try.ntmps76
    go_wp2
    go_ret
    exact ⟨rfl, rfl⟩
theorem refWork0 (a b : Int) (w : World) : Calls Try.prog 54 #[.int .i64 0, .int .i64 a, .int .i64 b] w fun e w' => e = .returned (.int .i64 (wrap64 (a + b))) ∧ w' = w := by
  go_enter Try.func54, Try.ntmps54
  go_wp2
  go_ret
  exact ⟨rfl, rfl⟩
theorem refWork1 (a b : Int) (w : World) : Calls Try.prog 54 #[.int .i64 1, .int .i64 a, .int .i64 b] w fun e w' => e = .returned (.int .i64 (wrap64 (a - b))) ∧ w' = w := by
  go_enter Try.func54, Try.ntmps54
  go_wp2
  go_ret
  exact ⟨rfl, rfl⟩
theorem refWork2 (a b : Int) (w : World) : Calls Try.prog 54 #[.int .i64 2, .int .i64 a, .int .i64 b] w fun e w' => e = .returned (.int .i64 (wrap64 (a * b))) ∧ w' = w := by
  go_enter Try.func54, Try.ntmps54
  go_wp2
  go_ret
  exact ⟨rfl, rfl⟩
theorem refWork3 (a b : Int) (w : World) : Calls Try.prog 54 #[.int .i64 3, .int .i64 a, .int .i64 b] w fun e w' => e = .returned (.int .i64 (quotV a b)) ∧ w' = w := by
  go_enter Try.func54, Try.ntmps54
  go_wp2_with (go_at_call 72; refine (refQuot_any _ _ _).mono ?_; rintro e w' ⟨rfl, rfl⟩)
  go_ret
  exact ⟨rfl, rfl⟩
theorem refWork4 (a b : Int) (w : World) (h0 : -9223372036854775808 ≤ a) (h1 : a ≤ 9223372036854775807) (hb0 : -9223372036854775808 ≤ b) (hb1 : b ≤ 9223372036854775807) : Calls Try.prog 54 #[.int .i64 4, .int .i64 a, .int .i64 b] w fun e w' => e = .returned (.int .i64 (remV a b)) ∧ w' = w := by
  have E : Hid (wrap64 (a - wrap64 (quotV a b * b)) = remV a b) := rem_doc a b h0 h1 hb0 hb1
  clear h0 h1 hb0 hb1
  go_enter Try.func54, Try.ntmps54
  go_wp2_with (go_at_call 72; refine (refQuot_any _ _ _).mono ?_; rintro e w' ⟨rfl, rfl⟩)
  go_ret
  exact ⟨by rw [← E.out]; rfl, rfl⟩
theorem comb5 (a b : Int) : ∀ i, i < 64 → (bv a &&& bv b).getLsbD i = combV true false ((bv a).getLsbD i) ((bv b).getLsbD i) := by
  intro i _
  rw [BitVec.getLsbD_and]
  cases (bv a).getLsbD i <;> cases (bv b).getLsbD i <;> rfl
theorem refWork5 (a b : Int) (w : World) (h0 : -9223372036854775808 ≤ a) (h1 : a ≤ 9223372036854775807) (hb0 : -9223372036854775808 ≤ b) (hb1 : b ≤ 9223372036854775807) : Calls Try.prog 54 #[.int .i64 5, .int .i64 a, .int .i64 b] w fun e w' => e = .returned (.int .i64 (bits .and .i64 a b)) ∧ w' = w := by
  rw [and_R]
  go_enter Try.func54, Try.ntmps54
  go_wp2_with (go_at_call 73; refine (refBits_any a b _ _ (bv a &&& bv b) _ h0 h1 hb0 hb1 (comb5 a b)).mono ?_; rintro e w' ⟨rfl, rfl⟩)
  go_ret
  exact ⟨rfl, rfl⟩
theorem comb6 (a b : Int) : ∀ i, i < 64 → (bv a ||| bv b).getLsbD i = combV true true ((bv a).getLsbD i) ((bv b).getLsbD i) := by
  intro i _
  rw [BitVec.getLsbD_or]
  cases (bv a).getLsbD i <;> cases (bv b).getLsbD i <;> rfl
theorem refWork6 (a b : Int) (w : World) (h0 : -9223372036854775808 ≤ a) (h1 : a ≤ 9223372036854775807) (hb0 : -9223372036854775808 ≤ b) (hb1 : b ≤ 9223372036854775807) : Calls Try.prog 54 #[.int .i64 6, .int .i64 a, .int .i64 b] w fun e w' => e = .returned (.int .i64 (bits .or .i64 a b)) ∧ w' = w := by
  rw [or_R]
  go_enter Try.func54, Try.ntmps54
  go_wp2_with (go_at_call 73; refine (refBits_any a b _ _ (bv a ||| bv b) _ h0 h1 hb0 hb1 (comb6 a b)).mono ?_; rintro e w' ⟨rfl, rfl⟩)
  go_ret
  exact ⟨rfl, rfl⟩
theorem comb7 (a b : Int) : ∀ i, i < 64 → (bv a ^^^ bv b).getLsbD i = combV false true ((bv a).getLsbD i) ((bv b).getLsbD i) := by
  intro i _
  rw [BitVec.getLsbD_xor]
  cases (bv a).getLsbD i <;> cases (bv b).getLsbD i <;> rfl
theorem refWork7 (a b : Int) (w : World) (h0 : -9223372036854775808 ≤ a) (h1 : a ≤ 9223372036854775807) (hb0 : -9223372036854775808 ≤ b) (hb1 : b ≤ 9223372036854775807) : Calls Try.prog 54 #[.int .i64 7, .int .i64 a, .int .i64 b] w fun e w' => e = .returned (.int .i64 (bits .xor .i64 a b)) ∧ w' = w := by
  rw [xor_R]
  go_enter Try.func54, Try.ntmps54
  go_wp2_with (go_at_call 73; refine (refBits_any a b _ _ (bv a ^^^ bv b) _ h0 h1 hb0 hb1 (comb7 a b)).mono ?_; rintro e w' ⟨rfl, rfl⟩)
  go_ret
  exact ⟨rfl, rfl⟩
theorem shlN_work (a b : Int) : shlN a (b % 64).toNat = shlV a b := rfl
theorem refWork8 (a b : Int) (w : World) (h0 : -9223372036854775808 ≤ a) (h1 : a ≤ 9223372036854775807) : Calls Try.prog 54 #[.int .i64 8, .int .i64 a, .int .i64 b] w fun e w' => e = .returned (.int .i64 (shlV a b)) ∧ w' = w := by
  have E : Hid (shlN a (b % 64).toNat = shlV a b) := shlN_work a b
  have G : Hid (∃ n : Nat, b % 64 = n ∧ n < 64 ∧ n = (b % 64).toNat) := ⟨(b % 64).toNat, by omega, by omega, rfl⟩
  go_enter Try.func54, Try.ntmps54
  go_wp2_with fail
  refine (refShift_any _ _).mono ?_
  rintro e w' ⟨rfl, rfl⟩
  go_wp2_with fail
  obtain ⟨n, hn, hl, ht⟩ := G.out
  rw [← ht] at E
  rw [hn]
  clear hn ht
  refine (refShl_any a n _ h0 h1 hl).mono ?_
  rintro e w' ⟨rfl, rfl⟩
  go_wp2
  go_ret
  exact ⟨by rw [← E.out]; rfl, rfl⟩
theorem shrN_work (a b : Int) : shrN a (b % 64).toNat = shrV a b := rfl
theorem refWork9 (a b : Int) (w : World) (h0 : -9223372036854775808 ≤ a) (h1 : a ≤ 9223372036854775807) : Calls Try.prog 54 #[.int .i64 9, .int .i64 a, .int .i64 b] w fun e w' => e = .returned (.int .i64 (shrV a b)) ∧ w' = w := by
  have E : Hid (shrN a (b % 64).toNat = shrV a b) := shrN_work a b
  have G : Hid (∃ n : Nat, b % 64 = n ∧ n < 64 ∧ n = (b % 64).toNat) := ⟨(b % 64).toNat, by omega, by omega, rfl⟩
  go_enter Try.func54, Try.ntmps54
  go_wp2_with fail
  refine (refShift_any _ _).mono ?_
  rintro e w' ⟨rfl, rfl⟩
  go_wp2_with fail
  obtain ⟨n, hn, hl, ht⟩ := G.out
  rw [← ht] at E
  rw [hn]
  clear hn ht
  refine (refShr_any a n _ h0 h1 hl).mono ?_
  rintro e w' ⟨rfl, rfl⟩
  go_wp2
  go_ret
  exact ⟨by rw [← E.out]; rfl, rfl⟩
theorem refWork10 (a b : Int) (w : World) : Calls Try.prog 54 #[.int .i64 10, .int .i64 a, .int .i64 b] w fun e w' => e = .returned (.int .i64 (minV a b)) ∧ w' = w := by
  go_enter Try.func54, Try.ntmps54
  go_wp2_with (go_at_call 76; refine (refCompare10 _ _ _).mono ?_; rintro e w' ⟨rfl, rfl⟩)
  go_ret
  exact ⟨rfl, rfl⟩
theorem refWork11 (a b : Int) (w : World) : Calls Try.prog 54 #[.int .i64 11, .int .i64 a, .int .i64 b] w fun e w' => e = .returned (.int .i64 (maxV a b)) ∧ w' = w := by
  go_enter Try.func54, Try.ntmps54
  go_wp2_with (go_at_call 76; refine (refCompare11 _ _ _).mono ?_; rintro e w' ⟨rfl, rfl⟩)
  go_ret
  exact ⟨rfl, rfl⟩
theorem refWork12 (a b : Int) (w : World) : Calls Try.prog 54 #[.int .i64 12, .int .i64 a, .int .i64 b] w fun e w' => e = .returned (.int .i64 (truthV (decide (a < b)))) ∧ w' = w := by
  go_enter Try.func54, Try.ntmps54
  go_wp2_with (go_at_call 76; refine (refCompare12 _ _ _).mono ?_; rintro e w' ⟨rfl, rfl⟩)
  go_ret
  exact ⟨rfl, rfl⟩
theorem refWork13 (a b : Int) (w : World) : Calls Try.prog 54 #[.int .i64 13, .int .i64 a, .int .i64 b] w fun e w' => e = .returned (.int .i64 (truthV (decide (a ≤ b)))) ∧ w' = w := by
  go_enter Try.func54, Try.ntmps54
  go_wp2_with (go_at_call 76; refine (refCompare13 _ _ _).mono ?_; rintro e w' ⟨rfl, rfl⟩)
  go_ret
  exact ⟨rfl, rfl⟩
theorem refWork14 (a b : Int) (w : World) : Calls Try.prog 54 #[.int .i64 14, .int .i64 a, .int .i64 b] w fun e w' => e = .returned (.int .i64 (truthV (a == b))) ∧ w' = w := by
  go_enter Try.func54, Try.ntmps54
  go_wp2_with (go_at_call 76; refine (refCompare14 _ _ _).mono ?_; rintro e w' ⟨rfl, rfl⟩)
  go_ret
  exact ⟨rfl, rfl⟩
theorem refWork15 (a b : Int) (w : World) : Calls Try.prog 54 #[.int .i64 15, .int .i64 a, .int .i64 b] w fun e w' => e = .returned (.int .i64 (truthV (a != b))) ∧ w' = w := by
  go_enter Try.func54, Try.ntmps54
  go_wp2_with (go_at_call 76; refine (refCompare15 _ _ _).mono ?_; rintro e w' ⟨rfl, rfl⟩)
  go_ret
  exact ⟨rfl, rfl⟩
theorem refWork_any (op a b : Int) (w : World) (h : isOpV op = true) (h0 : -9223372036854775808 ≤ a) (h1 : a ≤ 9223372036854775807) (hb0 : -9223372036854775808 ≤ b) (hb1 : b ≤ 9223372036854775807) : Calls Try.prog 54 #[.int .i64 op, .int .i64 a, .int .i64 b] w fun e w' => e = .returned (.int .i64 (workV op a b)) ∧ w' = w := by
  have h : 0 ≤ op ∧ op < 16 := by simpa [isOpV] using h
  have hc : op = 0 ∨ op = 1 ∨ op = 2 ∨ op = 3 ∨ op = 4 ∨ op = 5 ∨ op = 6 ∨ op = 7 ∨ op = 8 ∨ op = 9 ∨ op = 10 ∨ op = 11 ∨ op = 12 ∨ op = 13 ∨ op = 14 ∨ op = 15 := by omega
  rcases hc with rfl | rfl | rfl | rfl | rfl | rfl | rfl | rfl | rfl | rfl | rfl | rfl | rfl | rfl | rfl | rfl
  · exact refWork0 a b w
  · exact refWork1 a b w
  · exact refWork2 a b w
  · exact refWork3 a b w
  · exact refWork4 a b w h0 h1 hb0 hb1
  · exact refWork5 a b w h0 h1 hb0 hb1
  · exact refWork6 a b w h0 h1 hb0 hb1
  · exact refWork7 a b w h0 h1 hb0 hb1
  · exact refWork8 a b w h0 h1
  · exact refWork9 a b w h0 h1
  · exact refWork10 a b w
  · exact refWork11 a b w
  · exact refWork12 a b w
  · exact refWork13 a b w
  · exact refWork14 a b w
  · exact refWork15 a b w
theorem refApply_any (op a b : Int) (w : World) (h : isOpV op = true) (h0 : -9223372036854775808 ≤ a) (h1 : a ≤ 9223372036854775807) (hb0 : -9223372036854775808 ≤ b) (hb1 : b ≤ 9223372036854775807) : Calls Try.prog 77 #[.int .i64 op, .int .i64 a, .int .i64 b] w fun e w' => e = .returned (.tuple #[.int .i64 (workV op a b), .int .i64 0]) ∧ w' = w := by
  have H : Hid (isOpV op = true) := h
  have hr : 0 ≤ op ∧ op < 16 := by simpa [isOpV] using h
  obtain ⟨r0, r1⟩ := hr
  clear h
  go_enter Try.func77, Try.ntmps77
  go_wp2_with (go_at_call 54; refine (refWork_any _ _ _ _ H.out h0 h1 hb0 hb1).mono ?_; rintro e w' ⟨rfl, rfl⟩)
  go_ret2
  exact ⟨rfl, rfl⟩
theorem refApply_not (op a b : Int) (w : World) (h : isOpV op = false) : Calls Try.prog 77 #[.int .i64 op, .int .i64 a, .int .i64 b] w fun e w' => e = .returned (.tuple #[.int .i64 0, .int .i64 10]) ∧ w' = w := by
  have hr : ¬ (0 ≤ op ∧ op < 16) := by simpa [isOpV] using h
  clear h
  by_cases r0 : op < 0
  · clear hr
    go_enter Try.func77, Try.ntmps77
    go_wp2
    go_ret2
    exact ⟨rfl, rfl⟩
  · have r1 : 16 ≤ op := by omega
    clear hr
    go_enter Try.func77, Try.ntmps77
    go_wp2
    go_ret2
    exact ⟨rfl, rfl⟩
end
end Go.Proofs.Ytdiabpoafennlab
/-! The document's run: lists copied; what is appended; its operation. -/
namespace Go.Proofs.Ytdiabpoafennlab.Rn
set_option linter.unusedVariables false
set_option maxRecDepth 20000
set_option linter.unusedSimpArgs false
open Go.RowKit Go.HeapKit Go.PlainOps

theorem Try.infoView : (Try.prog.info? 83).map (fun i => (i.zero, i.size, i.bytes)) = some (some (.agg #[.slice none 0 0, .int .i64 0]), 2, 32) := by kernel_rfl
theorem Try.infoRTask : (Try.prog.info? 93).map (fun i => (i.zero, i.size, i.bytes)) = some (some (.agg #[.int .i64 0, .slice none 0 0]), 2, 32) := by kernel_rfl
/-- 'append(views, view)'. -/
theorem view_more (base : Nat) (sl V : Value) (x : Int) (n : Nat) (xs : List Value) (ty g0 : Nat) (w : World) (h : w.ownsRow base 83 2 sl n xs) (hb : base ≤ w.heap.size) (hlen : (n + 1) * 32 ≤ 140737488355328) (hV : V.oneCell' = true)
    (hg0 : w.heap[g0]? = some (.cells #[V, .int .i64 x] 83 (0, 0))) :
    ∃ g cap w', (Builtin.append_ #[62, 62] ty #[sl, .slice (some ⟨g0, 0, none⟩) 1 1]).run Try.prog w = .ok (.slice (some ⟨g, 0, none⟩) (n + 1) cap) w' ∧
      w'.ownsRow base 83 2 (.slice (some ⟨g, 0, none⟩) (n + 1) cap) (n + 1) (xs ++ [V, .int .i64 x]) ∧ Keeps (fun k => sl.ownBlock = some k) w w' := by
  obtain ⟨i0, hi, hz0, hz1, hz2⟩ := info_parts Try.infoView
  obtain ⟨v', w1, hr, ho, hgr, hm, -⟩ := run_append_moved (P := Try.prog) w base 62 ty 83 i0 _ 2 32 Try.underlying62 hi hz0 hz1 hz2 rfl (by decide) sl n _ h
    ⟨g0, 0, none⟩ 1 1 [V, .int .i64 x] rfl (by
      intro j u hu
      rw [addr_at, blk_cell hg0]
      simpa using hu) (by
      intro u hu
      simp at hu
      rcases hu with rfl | rfl
      · exact hV
      · rfl) (by unfold maxLen; omega) hlen hb
  obtain ⟨g, cap, rfl⟩ : ∃ g cap, v' = .slice (some ⟨g, 0, none⟩) (n + 1) cap := by
    rcases ho.2 with ⟨_, h0⟩ | ⟨b, cap, cur, rfl, _⟩
    · omega
    · exact ⟨b, cap, rfl⟩
  exact ⟨g, cap, w1, hr, ho, (Keeps.refl _ w).andGrown hgr (fun k e => .inl e)⟩
/-- 'append(tasks, task)'. -/
theorem rtask_more (base : Nat) (sl : Value) (x : Int) (V : Value) (n : Nat) (xs : List Value) (ty g0 : Nat) (w : World) (h : w.ownsRow base 93 2 sl n xs) (hb : base ≤ w.heap.size) (hlen : (n + 1) * 32 ≤ 140737488355328) (hV : V.oneCell' = true)
    (hg0 : w.heap[g0]? = some (.cells #[.int .i64 x, V] 93 (0, 0))) :
    ∃ g cap w', (Builtin.append_ #[63, 63] ty #[sl, .slice (some ⟨g0, 0, none⟩) 1 1]).run Try.prog w = .ok (.slice (some ⟨g, 0, none⟩) (n + 1) cap) w' ∧
      w'.ownsRow base 93 2 (.slice (some ⟨g, 0, none⟩) (n + 1) cap) (n + 1) (xs ++ [.int .i64 x, V]) ∧ Keeps (fun k => sl.ownBlock = some k) w w' := by
  obtain ⟨i0, hi, hz0, hz1, hz2⟩ := info_parts Try.infoRTask
  obtain ⟨v', w1, hr, ho, hgr, hm, -⟩ := run_append_moved (P := Try.prog) w base 63 ty 93 i0 _ 2 32 Try.underlying63 hi hz0 hz1 hz2 rfl (by decide) sl n _ h
    ⟨g0, 0, none⟩ 1 1 [.int .i64 x, V] rfl (by
      intro j u hu
      rw [addr_at, blk_cell hg0]
      simpa using hu) (by
      intro u hu
      simp at hu
      rcases hu with rfl | rfl
      · rfl
      · exact hV) (by unfold maxLen; omega) hlen hb
  obtain ⟨g, cap, rfl⟩ : ∃ g cap, v' = .slice (some ⟨g, 0, none⟩) (n + 1) cap := by
    rcases ho.2 with ⟨_, h0⟩ | ⟨b, cap, cur, rfl, _⟩
    · omega
    · exact ⟨b, cap, rfl⟩
  exact ⟨g, cap, w1, hr, ho, (Keeps.refl _ w).andGrown hgr (fun k e => .inl e)⟩
theorem own_lo {w : World} {b : Nat} {e : TypeId} {size : Nat} {v : Value} {n : Nat} {xs : List Value} (h : w.ownsRow b e size v n xs) : ∀ g, v.ownBlock = some g → b ≤ g := fun g hg => row_low h hg
/-- 'append([]int64{}, l...)'. -/
theorem copy64 (base : Nat) (w : World) (a : Option Addr) (n c : Nat) (l : List Int) (ty : TypeId) (h : SeenV w a n (iv l)) (hn : n * 8 ≤ 140737488355328) (hb : base ≤ w.heap.size) :
    ∃ x cap w', (Builtin.append_ #[28, 28] ty #[.slice (some ⟨w.heap.size, 0, none⟩) 0 0, .slice a n c]).run Try.prog (w.alloc (.cells #[] 2)) = .ok (.slice x n cap) w' ∧
      w'.ownsRow base 2 1 (.slice x n cap) n (iv l) ∧ Keeps None w w' ∧ ∀ b, (Value.slice x n cap).ownBlock = some b → w.heap.size ≤ b := by
  obtain ⟨i0, hi, hz0, hz1, hz2⟩ := info_parts Try.infoI64
  have kA := Keeps.alloc None w (.cells #[] 2)
  obtain ⟨v', w', hr, ho, hk, -, -⟩ := run_append_all (P := Try.prog) (w.alloc (.cells #[] 2)) w.heap.size 28 ty 2 i0 _ 1 8 Try.underlying28 hi hz0 hz1 hz2 rfl (by decide) _ 0 []
    (own_nilAny 2 1 (Nat.le_refl _)) a n c (iv l) (by have := h.len; omega) (fun h0 => by obtain ⟨b, off, e, _, hc⟩ := (h.more kA).ex h0; exact ⟨b, off, e, hc⟩) iv_one (by unfold maxLen; omega) (by omega) kA.size
  have ho2 : w'.ownsRow w.heap.size 2 1 v' n (iv l) := by simpa using ho
  obtain ⟨x, cap, rfl⟩ := row_shape ho2
  exact ⟨x, cap, w', hr, row_base ho2 hb, kA.trans hk (fun i e hi => by simp [Value.ownBlock] at e; omega), own_lo ho2⟩
/-- 'append([]int{}, l...)'. -/
theorem copyI (base : Nat) (w : World) (a : Option Addr) (n c : Nat) (l : List Int) (ty : TypeId) (h : SeenV w a n (iv l)) (hn : n * 8 ≤ 140737488355328) (hb : base ≤ w.heap.size) :
    ∃ x cap w', (Builtin.append_ #[24, 24] ty #[.slice (some ⟨w.heap.size, 0, none⟩) 0 0, .slice a n c]).run Try.prog (w.alloc (.cells #[] 3)) = .ok (.slice x n cap) w' ∧
      w'.ownsRow base 3 1 (.slice x n cap) n (iv l) ∧ Keeps None w w' ∧ ∀ b, (Value.slice x n cap).ownBlock = some b → w.heap.size ≤ b := by
  obtain ⟨v', w', hr, ho, hk⟩ := ints_copy w a n c l ty h hn
  obtain ⟨x, cap, rfl⟩ := row_shape ho
  exact ⟨x, cap, w', hr, row_base ho hb, hk, own_lo ho⟩
/-- 'append(l, r...)' behind a copy. -/
theorem join64 (base s0 : Nat) (w : World) (x : Option Addr) (m cap : Nat) (l : List Int) (a : Option Addr) (n c : Nat) (r : List Int) (ty : TypeId) (ho : w.ownsRow base 2 1 (.slice x m cap) m (iv l)) (h : SeenV w a n (iv r)) (hn : m + n ≤ 1000000) (hb : base ≤ w.heap.size) (h0 : s0 ≤ w.heap.size) (hx : ∀ b, (Value.slice x m cap).ownBlock = some b → s0 ≤ b) :
    ∃ y cap' w', (Builtin.append_ #[28, 28] ty #[.slice x m cap, .slice a n c]).run Try.prog w = .ok (.slice y (m + n) cap') w' ∧
      w'.ownsRow base 2 1 (.slice y (m + n) cap') (m + n) (iv (l ++ r)) ∧ Keeps (fun i => s0 ≤ i) w w' ∧ ∀ b, (Value.slice y (m + n) cap').ownBlock = some b → s0 ≤ b := by
  obtain ⟨i0, hi, hz0, hz1, hz2⟩ := info_parts Try.infoI64
  obtain ⟨v', w', hr, ho', hk, hm, -⟩ := run_append_all (P := Try.prog) w base 28 ty 2 i0 _ 1 8 Try.underlying28 hi hz0 hz1 hz2 rfl (by decide) _ m (iv l)
    ho a n c (iv r) (by have := h.len; omega) (fun h0 => by obtain ⟨b, off, e, _, hc⟩ := h.ex h0; exact ⟨b, off, e, hc⟩) iv_one (by unfold maxLen; omega) (by omega) hb
  obtain ⟨y, cap', rfl⟩ := row_shape ho'
  refine ⟨y, cap', w', hr, by rw [iv_app]; exact ho', hk.mono (fun i e _ => hx i e), fun b e => ?_⟩
  rcases hm with hm | ⟨g', e', hg⟩
  · exact hx b (hm ▸ e)
  · rw [e'] at e; injection e with e; omega
theorem joinI (base s0 : Nat) (w : World) (x : Option Addr) (m cap : Nat) (l : List Int) (a : Option Addr) (n c : Nat) (r : List Int) (ty : TypeId) (ho : w.ownsRow base 3 1 (.slice x m cap) m (iv l)) (h : SeenV w a n (iv r)) (hn : m + n ≤ 1000000) (hb : base ≤ w.heap.size) (h0 : s0 ≤ w.heap.size) (hx : ∀ b, (Value.slice x m cap).ownBlock = some b → s0 ≤ b) :
    ∃ y cap' w', (Builtin.append_ #[24, 24] ty #[.slice x m cap, .slice a n c]).run Try.prog w = .ok (.slice y (m + n) cap') w' ∧
      w'.ownsRow base 3 1 (.slice y (m + n) cap') (m + n) (iv (l ++ r)) ∧ Keeps (fun i => s0 ≤ i) w w' ∧ ∀ b, (Value.slice y (m + n) cap').ownBlock = some b → s0 ≤ b := by
  obtain ⟨i0, hi, hz0, hz1, hz2⟩ := info_parts Try.infoI
  obtain ⟨v', w', hr, ho', hk, hm, -⟩ := run_append_all (P := Try.prog) w base 24 ty 3 i0 _ 1 8 Try.underlying24 hi hz0 hz1 hz2 rfl (by decide) _ m (iv l)
    ho a n c (iv r) (by have := h.len; omega) (fun h0 => by obtain ⟨b, off, e, _, hc⟩ := h.ex h0; exact ⟨b, off, e, hc⟩) iv_one (by unfold maxLen; omega) (by omega) hb
  obtain ⟨y, cap', rfl⟩ := row_shape ho'
  refine ⟨y, cap', w', hr, by rw [iv_app]; exact ho', hk.mono (fun i e _ => hx i e), fun b e => ?_⟩
  rcases hm with hm | ⟨g', e', hg⟩
  · exact hx b (hm ▸ e)
  · rw [e'] at e; injection e with e; omega
/-- 'append([]Task{}, tasks...)'. -/
theorem copyT (base : Nat) (w : World) (a : Option Addr) (n c : Nat) (xs : List Value) (ty : TypeId) (hl : xs.length = n * 2) (h : 0 < n → ∃ b off, a = some ⟨b, off, none⟩ ∧ ∀ j u, xs[j]? = some u → w.cell? ⟨b, off + j, none⟩ = some u) (h1 : ∀ u ∈ xs, u.oneCell' = true) (hn : n ≤ 1000000) (hb : base ≤ w.heap.size) :
    ∃ x cap w', (Builtin.append_ #[63, 63] ty #[.slice (some ⟨w.heap.size, 0, none⟩) 0 0, .slice a n c]).run Try.prog (w.alloc (.cells #[] 93)) = .ok (.slice x n cap) w' ∧
      w'.ownsRow base 93 2 (.slice x n cap) n xs ∧ Keeps None w w' := by
  obtain ⟨i0, hi, hz0, hz1, hz2⟩ := info_parts Try.infoRTask
  have kA := Keeps.alloc None w (.cells #[] 93)
  obtain ⟨v', w', hr, ho, hk, -, -⟩ := run_append_all (P := Try.prog) (w.alloc (.cells #[] 93)) w.heap.size 63 ty 93 i0 _ 2 32 Try.underlying63 hi hz0 hz1 hz2 rfl (by decide) _ 0 []
    (own_nilAny 93 2 (Nat.le_refl _)) a n c xs hl (fun h0 => by obtain ⟨b, off, e, hc⟩ := h h0; exact ⟨b, off, e, fun j u hu => kA.cell (hc j u hu) (fun f => f)⟩) h1 (by unfold maxLen; omega) (by omega) kA.size
  have ho2 : w'.ownsRow w.heap.size 93 2 v' n xs := by simpa using ho
  obtain ⟨x, cap, rfl⟩ := row_shape ho2
  exact ⟨x, cap, w', hr, row_base ho2 hb, kA.trans hk (fun i e hi => by simp [Value.ownBlock] at e; omega)⟩
/-- A part of a list that can be read. -/
theorem seen_take {w : World} {a : Option Addr} {n : Nat} {vs : List Value} (h : SeenV w a n vs) {k : Nat} (hk : k ≤ n) : SeenV w a k (vs.take k) := by
  refine ⟨by rw [List.length_take]; have := h.len; omega, fun h0 => ?_⟩
  obtain ⟨b, off, e, hb, hc⟩ := h.ex (by omega)
  refine ⟨b, off, e, hb, fun j v hv => hc j v ?_⟩
  rw [List.getElem?_take] at hv
  split at hv
  · exact hv
  · cases hv
theorem seen_drop {w : World} {b off n : Nat} {vs : List Value} (h : SeenV w (some ⟨b, off, none⟩) n vs) {k : Nat} (hk : k ≤ n) : SeenV w (some ⟨b, off + k, none⟩) (n - k) (vs.drop k) := by
  refine ⟨by rw [List.length_drop]; have := h.len; omega, fun h0 => ?_⟩
  obtain ⟨b', off', e, hb, hc⟩ := h.ex (by omega)
  injection e with e
  injection e with e1 e2
  subst e1 e2
  refine ⟨b, off + k, rfl, hb, fun j v hv => ?_⟩
  rw [List.getElem?_drop] at hv
  rw [Nat.add_assoc]
  exact hc _ v hv
theorem iv_take (l : List Int) (k : Nat) : (iv l).take k = iv (l.take k) := by simp [iv, List.map_take]
theorem iv_drop (l : List Int) (k : Nat) : (iv l).drop k = iv (l.drop k) := by simp [iv, List.map_drop]
theorem erase_nI (r : List Nat) (j : Nat) : (nI r).take (j + 1) ++ (nI r).drop (j + 2) = nI (r.eraseIdx (j + 1)) := by
  unfold nI
  rw [List.eraseIdx_eq_take_drop_succ, List.map_append, List.map_take, List.map_drop]

/-! The operation. -/
def apV (K : RP) (a b : Int) : Int := if K.op < 0 then 0 else workV K.op a b
def OkK (K : RP) : Prop := (K.op < 0 ∧ K.unit = 0) ∨ (0 ≤ K.op ∧ hasU K.op = true ∧ K.unit = unitV K.op)
theorem OkK.unit0 {K : RP} (h : OkK K) : K.unit = gV K [] := by
  unfold gV
  rcases h with ⟨h1, h2⟩ | ⟨h0, h1, h2⟩
  · rw [if_pos h1, h2]
  · rw [if_neg (by omega), h2]; rfl
theorem gV_put {K : RP} (l : List Int) (x : Int) : apV K (gV K l) x = gV K (l ++ [x]) := by
  unfold apV gV
  by_cases h : K.op < 0
  · rw [if_pos h, if_pos h]
  · rw [if_neg h, if_neg h, if_neg h]; simp [foldV]
theorem gV_join {K : RP} (h : OkK K) (l r : List Int) (hl : Fits l) (hr : Fits r) : apV K (gV K l) (gV K r) = gV K (l ++ r) := by
  unfold apV gV
  rcases h with ⟨h1, -⟩ | ⟨h0, h1, -⟩
  · rw [if_pos h1, if_pos h1]
  · rw [if_neg (by omega), if_neg (by omega), if_neg (by omega), if_neg (by omega)]
    exact (foldV_append K.op h1 l r hl hr).symm
theorem gV_fits {K : RP} (h : OkK K) (l : List Int) (hl : Fits l) : -9223372036854775808 ≤ gV K l ∧ gV K l ≤ 9223372036854775807 := by
  unfold gV
  rcases h with ⟨h1, -⟩ | ⟨h0, h1, -⟩
  · rw [if_pos h1]; omega
  · rw [if_neg (by omega)]; exact foldV_fits K.op h1 l hl
theorem hasU_isOp {op : Int} (h : hasU op = true) : isOpV op = true := by
  unfold hasU at h
  unfold isOpV
  simp at h
  simp
  omega
set_option maxHeartbeats 800000 in
theorem apply_ok (base pb nx : Nat) (K : RP) (X : RX) (L M R : Nat → Value) (s : PS) (w : World) (a b : Int) (h : PM w base pb K X L M R nx s) (hK : OkK K) (ha : -9223372036854775808 ≤ a ∧ a ≤ 9223372036854775807) (hb : -9223372036854775808 ≤ b ∧ b ≤ 9223372036854775807) :
    Calls Try.prog 61 #[.pointer (some ⟨pb, 0, none⟩), .int .i64 a, .int .i64 b] w fun e w' => e = .returned (.int .i64 (apV K a b)) ∧ w' = w := by
  obtain ⟨q0, -, -, -, -, -, -, -, -⟩ := h.c0
  clear h
  rcases hK with ⟨h1, -⟩ | ⟨h0, h1, -⟩
  · have e : apV K a b = 0 := by unfold apV; rw [if_pos h1]
    rw [e]
    clear e ha hb
    go_enter Try.func61, Try.ntmps61
    go_wp2
    go_ret
    exact ⟨rfl, rfl⟩
  · have e : apV K a b = workV K.op a b := by unfold apV; rw [if_neg (by omega)]
    rw [e]
    have hop := hasU_isOp h1
    have HA : Hid (isOpV K.op = true ∧ (-9223372036854775808 ≤ a ∧ a ≤ 9223372036854775807) ∧ (-9223372036854775808 ≤ b ∧ b ≤ 9223372036854775807)) := ⟨hop, ha, hb⟩
    have h2 : ¬ K.op < 0 := by omega
    clear e ha hb hop h1 h0
    go_enter Try.func61, Try.ntmps61
    go_wp2_with fail
    refine (refApply_any K.op a b w HA.out.1 HA.out.2.1.1 HA.out.2.1.2 HA.out.2.2.1 HA.out.2.2.2).mono ?_
    rintro e w1 ⟨rfl, rfl⟩
    go_wp2
    go_ret
    exact ⟨rfl, rfl⟩
end Go.Proofs.Ytdiabpoafennlab.Rn
