import Derived.Test.YtdiabpoafennlabPkAA
import Derived.Lib.SliceRun
import Derived.Deep.RegionLaw
import Derived.Shelf.RegionOpenPlain
import Derived.Deep.RegionHeld3
import Derived.Deep.DeepCutAuto
import Derived.WalkKit
import Derived.Test.YtdiabpoafennlabProg
import Derived.WalkSpells
import Derived.WalkLawsBesides
import Derived.Test.YtdiabpoafennlabPkAC
import Derived.Deep.Cut
/-! slices.Delete of one number of a row. -/
namespace Go.Proofs.Ytdiabpoafennlab
set_option linter.unusedVariables false
set_option maxRecDepth 20000
set_option linter.unusedSimpArgs false
open Go.RowKit Go.HeapKit Go.IntWalk

def setsFrom (w : World) (g : Nat) : Nat → List Value → World
  | _, [] => w
  | i, v :: vs => setsFrom (w.setCell ⟨g, i, none⟩ v) g (i + 1) vs
theorem setsFrom_keeps (g : Nat) : ∀ (vs : List Value) (i : Nat) (w : World), Keeps (· = g) w (setsFrom w g i vs)
  | [], _, _ => Keeps.refl _ _
  | v :: vs, i, w => (Keeps.setCell (S := (· = g)) w (a := ⟨g, i, none⟩) rfl v).trans (setsFrom_keeps g vs (i + 1) _) (fun _ f _ => f)
theorem setsFrom_block (g : Nat) (t : TypeId) : ∀ (vs : List Value) (i : Nat) (w : World) (c : Array Value), w.heap[g]? = some (.cells c t (0, 0)) → i + vs.length ≤ c.size →
    ∃ c', (setsFrom w g i vs).heap[g]? = some (.cells c' t (0, 0)) ∧ c'.toList = c.toList.take i ++ vs ++ c.toList.drop (i + vs.length)
  | [], i, w, c, hb, _ => ⟨c, hb, by simp⟩
  | v :: vs, i, w, c, hb, hl => by
    simp only [List.length_cons] at hl
    obtain ⟨c', h1, h2⟩ := setsFrom_block g t vs (i + 1) (w.setCell ⟨g, i, none⟩ v) (c.setIfInBounds i v) (blk_set hb v) (by simp; omega)
    refine ⟨c', h1, h2.trans ?_⟩
    rw [Array.toList_setIfInBounds]
    have hi : i < c.toList.length := by simp; omega
    have e1 : (c.toList.set i v).take (i + 1) = c.toList.take i ++ [v] := by
      rw [List.set_eq_take_append_cons_drop, if_pos hi, List.take_append]
      have : (c.toList.take i).length = i := by simp; omega
      rw [List.take_of_length_le (by omega), this]
      simp
    have e2 : (c.toList.set i v).drop (i + 1 + vs.length) = c.toList.drop (i + (v :: vs).length) := by
      rw [List.drop_set_of_lt (by omega)]
      simp only [List.length_cons]
      congr 1
      omega
    rw [e1, e2]
    simp
theorem own_sets {w : World} {base : Nat} {e : TypeId} {s g n cap : Nat} {xs : List Value} (h : w.ownsRow base e s (.slice (some ⟨g, 0, none⟩) n cap) n xs) (k : Nat) (vs : List Value) (hk : k + vs.length ≤ n * s) :
    (setsFrom w g k vs).ownsRow base e s (.slice (some ⟨g, 0, none⟩) n cap) n (xs.take k ++ vs ++ xs.drop (k + vs.length)) := by
  rcases h.2 with ⟨h0, _⟩ | ⟨g', cap', cur, he, hb, hg, hn, hm, hcs, ht⟩
  · cases h0
  · injection he with e1 e2 e3
    injection e1 with e1
    injection e1 with e1
    subst e1 e3
    have hle : n * s ≤ cap * s := Nat.mul_le_mul_right _ hn
    obtain ⟨c', h1, h2⟩ := setsFrom_block g e vs k w cur hg (by rw [hcs]; omega)
    have hxl : xs.length = n * s := by rw [← ht]; simp; omega
    have hcl : cur.toList.length = cap * s := by simpa using hcs
    refine ⟨by simp only [List.length_append, List.length_take, List.length_drop]; omega, .inr ⟨g, cap, c', rfl, hb, h1, hn, hm, ?_, ?_⟩⟩
    · have := congrArg List.length h2
      simp only [List.length_append, List.length_take, List.length_drop, hcl, Array.length_toList] at this
      omega
    · rw [h2, ← ht]
      apply List.ext_getElem?
      intro i
      simp only [List.getElem?_take, List.getElem?_append, List.length_append, List.length_take, List.getElem?_drop, hcl]
      have e1 : min k (min (n * s) (cap * s)) = k := by omega
      have e2 : min k (cap * s) = k := by omega
      have e3 : min (n * s) (cap * s) = n * s := by omega
      simp only [e2, e3]
      have e4 : min k (n * s) = k := by omega
      simp only [e4]
      by_cases a1 : i < n * s
      · by_cases a2 : i < k + vs.length
        · by_cases a3 : i < k
          · simp [a1, a2, a3]
          · simp [a1, a2, a3]
        · have a4 : k + vs.length + (i - (k + vs.length)) < n * s := by omega
          simp [a1, a2, a4]
      · have a2 : ¬ i < k + vs.length := by omega
        have a4 : ¬ k + vs.length + (i - (k + vs.length)) < n * s := by omega
        simp [a1, a2, a4]
theorem setsFrom_eq (g : Nat) : ∀ (vs : List Value) (i : Nat) (w : World), w.setCells g i vs = setsFrom w g i vs
  | [], _, _ => rfl
  | _ :: vs, i, _ => setsFrom_eq g vs (i + 1) _
def zeroAct : List Value := [.int .i64 0]
theorem clear_act (W : World) (ty : TypeId) (g o c : Nat) (hc : ∀ j, j < 1 → (W.cell? ⟨g, o + j, none⟩).isSome = true) (hf : ∀ j, j < 1 → W.frozen? ⟨g, o + j, none⟩ = false) :
    (Builtin.clear_ #[24] ty #[.slice (some ⟨g, o, none⟩) 1 c]).run Try.prog W = .ok (.tuple #[]) (W.setCells g o zeroAct) := by
  have hzc : (Builtin.zeroCells (Value.int .i64 0).cells 1).toList = zeroAct := by kernel_rfl
  have hst := run_storeCells_cells (P := Try.prog) g o zeroAct 0 W (by intro j hj; exact hc j hj) (by intro j hj; exact hf j hj) (by intro v hv; simp [zeroAct] at hv; subst hv; rfl)
  simp only [Nat.add_zero] at hst
  simp [Builtin.clear_, run_underlying Try.underlying24, hzc, hst]
theorem Try.infoAct : (Try.prog.info? 3).map (fun i => i.size) = some 1 := by kernel_rfl
theorem erase_vals (l : List Int) (i : Nat) (hi : i < l.length) : iv (l.eraseIdx i) = (iv l).take (i * 1) ++ (iv l).drop ((i + 1) * 1) := by
  rw [Nat.mul_one, Nat.mul_one, iv, iv, List.eraseIdx_eq_take_drop_succ, List.map_append, List.map_take, List.map_drop]
theorem iv_length1 (l : List Int) : (iv l).length = l.length * 1 := by rw [iv_len, Nat.mul_one]
/-- The row behind the two writes of Delete. -/
theorem own_del {w : World} {base : Nat} {g n c i : Nat} {l : List Int} (h : w.ownsRow base 3 1 (.slice (some ⟨g, 0, none⟩) n c) n (iv l)) (hl : l.length = n) (hi : i < n) :
    (setsFrom (setsFrom w.drew g (i * 1) ((iv l).drop ((i + 1) * 1))) g ((n - 1) * 1) zeroAct).ownsRow base 3 1 (.slice (some ⟨g, 0, none⟩) (n - 1) c) (n - 1) (iv (l.eraseIdx i)) := by
  have hx : (iv l).length = n * 1 := by rw [iv_length1, hl]
  have hd : w.drew.ownsRow base 3 1 (.slice (some ⟨g, 0, none⟩) n c) n (iv l) := h
  have hdl : ((iv l).drop ((i + 1) * 1)).length = n * 1 - (i + 1) * 1 := by rw [List.length_drop, hx]
  have h1 := own_sets hd (i * 1) ((iv l).drop ((i + 1) * 1)) (by rw [hdl]; omega)
  have hz : zeroAct.length = 1 := rfl
  have h2 := own_sets h1 ((n - 1) * 1) zeroAct (by rw [hz]; omega)
  have he := erase_vals l i (by omega)
  have hel : (iv (l.eraseIdx i)).length = (n - 1) * 1 := by rw [iv_length1, List.length_eraseIdx]; rw [if_pos (by omega), hl]
  generalize setsFrom (setsFrom w.drew g (i * 1) ((iv l).drop ((i + 1) * 1))) g ((n - 1) * 1) zeroAct = W at h2
  rcases h2.2 with ⟨h0, _⟩ | ⟨g', cap', cur, e, hb, hg, hn, hm, hcs, ht⟩
  · cases h0
  · injection e with e1 e2 e3
    injection e1 with e1
    injection e1 with e1
    subst e1 e3
    refine ⟨hel, .inr ⟨g, c, cur, rfl, hb, hg, by omega, hm, hcs, ?_⟩⟩
    have hmin : List.take ((n - 1) * 1) cur.toList = List.take ((n - 1) * 1) (List.take (n * 1) cur.toList) := by rw [List.take_take]; congr 1; omega
    rw [hmin, ht, he]
    have e4 : ((iv l).take (i * 1)).length = i * 1 := by rw [List.length_take]; omega
    have hfirst : ((iv l).take (i * 1) ++ (iv l).drop ((i + 1) * 1)).length = (n - 1) * 1 := by rw [List.length_append, e4, hdl]; omega
    rw [List.take_append_of_le_length (by simp only [List.length_append, List.length_take, List.length_drop]; omega)]
    rw [List.take_append_of_le_length (by simp only [List.length_append, List.length_take, List.length_drop]; omega)]
    rw [List.take_take, show min ((n - 1) * 1) ((n - 1) * 1) = (n - 1) * 1 by omega]
    rw [List.take_append_of_le_length (by simp only [List.length_append, List.length_take, List.length_drop]; omega), ← hfirst, List.take_length]
set_option maxHeartbeats 4000000 in
set_option maxRecDepth 100000 in
theorem delete_any (base g n c i : Nat) (l : List Int) (w : World) (h : w.ownsRow base 3 1 (.slice (some ⟨g, 0, none⟩) n c) n (iv l)) (hl : l.length = n) (hi : i < n) (hsm : n ≤ 100000) :
    Calls Try.prog 59 #[.slice (some ⟨g, 0, none⟩) n c, .int .i64 i, .int .i64 ((i : Int) + 1)] w fun e w' => e = .returned (.slice (some ⟨g, 0, none⟩) (n - 1) c) ∧ w'.ownsRow base 3 1 (.slice (some ⟨g, 0, none⟩) (n - 1) c) (n - 1) (iv (l.eraseIdx i)) ∧ Keeps (· = g) w w' := by
  have hfin := own_del h hl hi
  simp only [Nat.mul_one] at hfin
  have hx : (iv l).length = n := by rw [iv_len, hl]
  have hdl : ((iv l).drop ((i + 1))).length = (n - (i + 1)) := by rw [List.length_drop, hx]
  obtain ⟨cur, hb, hcs, hnc, hmx, htk⟩ : ∃ cur, w.heap[g]? = some (.cells cur 3 (0, 0)) ∧ cur.size = c ∧ n ≤ c ∧ c ≤ maxLen ∧ List.take (n) cur.toList = iv l := by
    rcases h.2 with ⟨h0, _⟩ | ⟨g', cap', cur, e, hb, hg, hn, hm, hcs, ht⟩
    · cases h0
    · injection e with e1 e2 e3
      injection e1 with e1
      injection e1 with e1
      subst e1 e3
      exact ⟨cur, hg, by rw [hcs, Nat.mul_one], hn, hm, by rw [← ht, Nat.mul_one]⟩
  have hcell : ∀ j, j < c → (w.cell? ⟨g, j, none⟩).isSome = true := fun j hj => by rw [blk_cell hb]; simp [hcs]; omega
  have hval : ∀ j, j < n → w.cell? ⟨g, j, none⟩ = (iv l)[j]? := fun j hj => by
    rw [blk_cell hb, ← htk, List.getElem?_take, if_pos hj]
    simp
  have hfree : ∀ j, w.frozen? ⟨g, j, none⟩ = false := fun j => blk_free hb j
  generalize hnews : (iv l).drop ((i + 1)) = news at hfin hdl
  have hone : ∀ u ∈ news, u.oneCell' = true := by
    intro u hu
    rw [← hnews] at hu
    exact iv_one u (List.mem_of_mem_drop hu)
  obtain ⟨AD, hAD, hsrc⟩ : ∃ A : Addr, (if c = i + 1 then some (⟨g, 0, none⟩ : Addr) else some ⟨g, (i + 1), none⟩) = some A ∧ Hid (∀ t u, news[t]? = some u → w.drew.cell? (A.add t) = some u) := by
    by_cases hci : c = i + 1
    · refine ⟨⟨g, 0, none⟩, by simp [hci], fun t u hu => ?_⟩
      have h0 : news.length = 0 := by rw [hdl]; omega
      rw [List.length_eq_zero_iff.1 h0] at hu
      simp at hu
    · refine ⟨⟨g, (i + 1), none⟩, by simp [hci], fun t u hu => ?_⟩
      have ht : t < news.length := (List.getElem?_eq_some_iff.1 hu).1
      rw [hdl] at ht
      rw [addr_at]
      show w.cell? _ = _
      rw [hval _ (by omega), ← hu, ← hnews, List.getElem?_drop]
  obtain ⟨i0, hi0, hz1⟩ : ∃ i0, Try.prog.info? 3 = some i0 ∧ i0.size = 1 := by
    have := Try.infoAct
    cases h9 : Try.prog.info? 3 with
    | none => rw [h9] at this; cases this
    | some i0 => rw [h9] at this; exact ⟨i0, rfl, by simpa using this⟩
  have s3 : Hid (∀ t, t < news.length → (w.drew.cell? ⟨g, 0 + i * 1 + t, none⟩).isSome = true ∧ w.drew.frozen? ⟨g, 0 + i * 1 + t, none⟩ = false) := by
    intro t ht
    rw [hdl] at ht
    exact ⟨hcell _ (by omega), hfree _⟩
  obtain ⟨W1, hW1⟩ : ∃ W1, W1 = w.drew.setCells g (0 + i * 1) news := ⟨_, rfl⟩
  have hW1s : W1 = setsFrom w.drew g i news := by rw [hW1, setsFrom_eq, Nat.zero_add, Nat.mul_one]
  obtain ⟨cur2, hb2, hcs2⟩ : ∃ cur2, W1.heap[g]? = some (.cells cur2 3 (0, 0)) ∧ cur2.size = c := by
    have hbd : w.drew.heap[g]? = some (.cells cur 3 (0, 0)) := hb
    obtain ⟨c', h1, h2⟩ := setsFrom_block g 3 news i w.drew cur hbd (by rw [hdl, hcs]; omega)
    refine ⟨c', by rw [hW1s]; exact h1, ?_⟩
    have := congrArg List.length h2
    simp only [List.length_append, List.length_take, List.length_drop, Array.length_toList, hdl, hcs] at this
    omega
  have hcl : ∀ ty cc, (Builtin.clear_ #[24] ty #[.slice (some ⟨g, (n - 1), none⟩) 1 cc]).run Try.prog W1 = .ok (.tuple #[]) (W1.setCells g ((n - 1)) zeroAct) :=
    fun ty cc => clear_act W1 ty g _ cc (fun j hj => by rw [blk_cell hb2]; simp [hcs2]; omega) (fun j _ => blk_free hb2 _)
  have hE : Hid ((W1.setCells g ((n - 1)) zeroAct).ownsRow base 3 1 (.slice (some ⟨g, 0, none⟩) (n - 1) c) (n - 1) (iv (l.eraseIdx i)) ∧ Keeps (· = g) w (W1.setCells g ((n - 1)) zeroAct)) := by
    rw [setsFrom_eq, hW1s]
    exact ⟨hfin, ((Keeps.drew (· = g) w).trans (setsFrom_keeps g news i _) (fun _ f _ => f)).trans (setsFrom_keeps g zeroAct _ _) (fun _ f _ => f)⟩
  have hW : Hid (W1 = w.drew.setCells g (0 + i * 1) news) := hW1
  have hmix : Try.prog.follows Departure.mixedOrders = true := by kernel_rfl
  have q1 : (i : Int) < (n : Int) := by omega
  have q2 : (i : Int) + 1 ≤ (n : Int) := by omega
  have q3 : (n : Int) ≤ (c : Int) := by omega
  have q4 : i + 1 ≤ c := by omega
  have q0 : 0 ≤ (i : Int) + 1 := by omega
  have q7 : 0 ≤ (i : Int) := by omega
  have q5 : i ≤ c := by omega
  have q6 : i + 1 ≤ n := by omega
  have s1 : Hid (news.length = (n - (i + 1))) := hdl
  have HO : Hid _ := hone
  clear h hfin hx hdl hb hcs hmx htk hcell hval hfree hnews hone hW1 hW1s hb2 hcs2
  go_enter Try.func59, Try.ntmps59
  go_wp2_with fail
  go_region_law_o (refine step_append_room rfl (.tmp 22) (.tmp 25) 24 rfl 3 i0 1 Try.underlying24 hi0 hz1 g 0 i c (by simp [Act.eval, Act.put]) AD (n - (i + 1)) (c - (i + 1)) news (by simp [Act.eval, Act.put]) (by rw [Nat.mul_one]; exact s1.out) hsrc.out HO.out (by omega) s3.out ?_; rw [← hW.out])
  have E1 : i + (n - (i + 1)) = n - 1 := by omega
  rw [E1]
  have q8 : ¬ c = n - 1 := by omega
  have q9 : n - 1 ≤ n := by omega
  have qa : n - (n - 1) = 1 := by omega
  have qb : n ≤ c := by omega
  have qc : ((n - 1 : Nat) : Int) ≤ (n : Int) := by omega
  go_wp2_with fail
  go_ret
  exact ⟨rfl, hE.out.1, hE.out.2⟩
end Go.Proofs.Ytdiabpoafennlab
/-! Plain facts on 64-bit numbers and on the sixteen operations: no program in sight. -/
namespace Go.PlainOps
open Go.RowKit

abbrev bv (x : Int) : BitVec 64 := BitVec.ofInt 64 x
theorem toInt_bv {x : Int} (h0 : -9223372036854775808 ≤ x) (h1 : x ≤ 9223372036854775807) : (bv x).toInt = x := by
  apply BitVec.toInt_ofInt_eq_self (by decide) <;> omega
theorem bv_bounds (v : BitVec 64) : -9223372036854775808 ≤ v.toInt ∧ v.toInt ≤ 9223372036854775807 := by
  have h1 := BitVec.le_toInt v
  have h2 := BitVec.toInt_lt (x := v)
  constructor <;> omega
theorem wrap64_bv (x : Int) : wrap64 x = (bv x).toInt := by
  unfold bv
  rw [BitVec.toInt_ofInt]; unfold wrap64; simp [Int.bmod]; omega
theorem wrap_i64 (x : Int) : IntKind.i64.wrap x = (bv x).toInt := by
  rw [← wrap64_bv]; simp [IntKind.wrap, IntKind.bits, IntKind.signed, wrap64]; omega
theorem bv_toNat (v : BitVec 64) : bv (v.toNat : Int) = v := by
  apply BitVec.eq_of_toNat_eq; simp [bv]
theorem bits_and (a b : Int) : bits .and .i64 a b = (bv a &&& bv b).toInt := by
  show IntKind.i64.wrap ((bv a &&& bv b).toNat : Int) = _
  rw [wrap_i64, bv_toNat]
theorem bits_or (a b : Int) : bits .or .i64 a b = (bv a ||| bv b).toInt := by
  show IntKind.i64.wrap ((bv a ||| bv b).toNat : Int) = _
  rw [wrap_i64, bv_toNat]
theorem bits_xor (a b : Int) : bits .xor .i64 a b = (bv a ^^^ bv b).toInt := by
  show IntKind.i64.wrap ((bv a ^^^ bv b).toNat : Int) = _
  rw [wrap_i64, bv_toNat]
theorem bv_toInt (v : BitVec 64) : bv v.toInt = v := BitVec.ofInt_toInt
theorem bv_add (a b : Int) : bv (a + b) = bv a + bv b := BitVec.ofInt_add a b
theorem bv_mul (a b : Int) : bv (a * b) = bv a * bv b := BitVec.ofInt_mul a b
theorem bv_sub (a b : Int) : bv (a - b) = bv a - bv b := by
  rw [Int.sub_eq_add_neg, bv_add]; simp [bv, BitVec.ofInt_neg, BitVec.sub_eq_add_neg]
/-- The low six bits are the remainder modulo 64. -/
theorem and63 (x : Int) : bits .and .i64 x 63 = x % 64 := by
  rw [bits_and]
  have e : ((bv x) &&& (bv 63)).toNat = (bv x).toNat % 64 := by
    rw [BitVec.toNat_and]
    exact Nat.and_two_pow_sub_one_eq_mod _ 6
  have hx : ((bv x).toNat : Int) = x % 18446744073709551616 := by
    simp [bv]; omega
  rw [BitVec.toInt_eq_toNat_of_lt (by omega), e]
  omega

/-! The value of an operation. -/
def quotV (a b : Int) : Int := if b = 0 then 0 else wrap64 (a.tdiv b)
def remV (a b : Int) : Int := if b = 0 then a else a.tmod b
def shlV (a b : Int) : Int := wrap64 (a * 2 ^ (b % 64).toNat)
def shrV (a b : Int) : Int := a / 2 ^ (b % 64).toNat
def minV (a b : Int) : Int := if b < a then b else a
def maxV (a b : Int) : Int := if a < b then b else a
def truthV (b : Bool) : Int := if b then 1 else 0
def workV (op a b : Int) : Int :=
  if op = 0 then wrap64 (a + b)
  else if op = 1 then wrap64 (a - b)
  else if op = 2 then wrap64 (a * b)
  else if op = 3 then quotV a b
  else if op = 4 then remV a b
  else if op = 5 then bits .and .i64 a b
  else if op = 6 then bits .or .i64 a b
  else if op = 7 then bits .xor .i64 a b
  else if op = 8 then shlV a b
  else if op = 9 then shrV a b
  else if op = 10 then minV a b
  else if op = 11 then maxV a b
  else if op = 12 then truthV (decide (a < b))
  else if op = 13 then truthV (decide (a ≤ b))
  else if op = 14 then truthV (a == b)
  else truthV (a != b)
def isOpV (op : Int) : Bool := decide (0 ≤ op ∧ op < 16)
/-- Has the number a unit? -/
def hasU (op : Int) : Bool := op == 0 || op == 2 || op == 5 || op == 6 || op == 7 || op == 10 || op == 11
def unitV (op : Int) : Int :=
  if op = 2 then 1 else if op = 5 then -1 else if op = 10 then 9223372036854775807 else if op = 11 then -9223372036854775808 else 0
def modV (x n : Int) : Int := if n < 1 then 0 else x % n
theorem tmod_mod (x n : Int) (hn : 1 ≤ n) : (if x.tmod n < 0 then x.tmod n + n else x.tmod n) = x % n := by
  rw [Int.tmod_eq_emod]
  have h0 := Int.emod_nonneg x (b := n) (by omega)
  have h1 := Int.emod_lt_of_pos x (b := n) (by omega)
  have e : (n.natAbs : Int) = n := by omega
  split <;> split <;> rename_i h2
  · rename_i h3; omega
  · omega
  · omega
  · omega
theorem tmod_bounds (x n : Int) (hn : 1 ≤ n) : -n < x.tmod n ∧ x.tmod n < n := by
  rw [Int.tmod_eq_emod]
  have h0 := Int.emod_nonneg x (b := n) (by omega)
  have h1 := Int.emod_lt_of_pos x (b := n) (by omega)
  split <;> omega
end Go.PlainOps
/-! The contract of ops.Mod. -/
namespace Go.Proofs.Ytdiabpoafennlab
open Go.RowKit Go.PlainOps

set_option maxHeartbeats 400000 in
theorem mod_any (x n : Int) (w : World) (hn : n ≤ 9223372036854775807) : Calls Try.prog 57 #[.int .i64 x, .int .i64 n] w fun e w' => e = .returned (.int .i64 (modV x n)) ∧ w' = w := by
  by_cases h : n < 1
  · go_enter Try.func57, Try.ntmps57
    go_wp2
    go_ret
    exact ⟨by simp [modV, h], rfl⟩
  · have h1 := tmod_mod x n (by omega)
    obtain ⟨b0, b1⟩ := tmod_bounds x n (by omega)
    have e : modV x n = (if x.tmod n < 0 then x.tmod n + n else x.tmod n) := by rw [h1]; simp [modV, h]
    have E : Hid (modV x n = (if x.tmod n < 0 then x.tmod n + n else x.tmod n)) := e
    clear e h1
    by_cases hr : x.tmod n < 0
    · go_enter Try.func57, Try.ntmps57
      go_wp2
      go_ret
      exact ⟨by rw [E.out, if_pos hr]; rfl, rfl⟩
    · go_enter Try.func57, Try.ntmps57
      go_wp2
      go_ret
      exact ⟨by rw [E.out, if_neg (by omega)]; rfl, rfl⟩
end Go.Proofs.Ytdiabpoafennlab
/-! The current task's row is merged. -/
namespace Go.Proofs.Ytdiabpoafennlab
set_option linter.unusedVariables false
set_option maxRecDepth 20000
set_option linter.unusedSimpArgs false
open Go.RowKit Go.HeapKit Go.PlainOps

theorem keeps_tr {S : Nat → Prop} {a b c : World} (h : Keeps S a b) (k : Keeps None b c) : Keeps S a c := h.trans k (fun _ f _ => f.elim)
def psOf (s : PS) (tk : List (Nat × List Nat)) (sp : Nat) (m : MS (List Int)) : PS := ⟨m.vs, tk ++ [(sp, m.row)], m.pk, s.spn, m.mg, s.lk⟩
theorem all_step {V : Type} (K : Kd V) (n : Nat) {m : MS V} (h : 1 < m.row.length) : m.all K n = (m.one K n).all K n := by
  have h1 := m.one_len K n h
  unfold MS.all
  rw [show m.row.length - 1 = ((m.one K n).row.length - 1) + 1 by omega]
  rfl
theorem all_one {V : Type} (K : Kd V) (n : Nat) {m : MS V} (h : m.row.length = 1) : m.all K n = m := by
  unfold MS.all
  rw [h]
  rfl
def sliceLen : Value → Nat
  | .slice _ n _ => n
  | _ => 0
theorem delete_two (base g n c i : Nat) (l : List Nat) (w : World) (x y : Int) (h : w.ownsRow base 3 1 (.slice (some ⟨g, 0, none⟩) n c) n (nv l)) (hl : l.length = n) (hi : i < n) (hsm : n ≤ 100000) (hx : x = i) (hy : y = (i : Int) + 1) :
    Calls Try.prog 59 #[.slice (some ⟨g, 0, none⟩) n c, .int .i64 x, .int .i64 y] w fun e w' => e = .returned (.slice (some ⟨g, 0, none⟩) (n - 1) c) ∧ w'.ownsRow base 3 1 (.slice (some ⟨g, 0, none⟩) (n - 1) c) (n - 1) (nv (l.eraseIdx i)) ∧ Keeps (· = g) w w' := by
  subst hx hy
  have e : nI (l.eraseIdx i) = (nI l).eraseIdx i := by
    unfold nI
    rw [List.eraseIdx_eq_take_drop_succ, List.eraseIdx_eq_take_drop_succ, List.map_append, List.map_take, List.map_drop]
  have := delete_any base g n c i (nI l) w h (by simp [nI, hl]) hi hsm
  unfold nv
  rw [e]
  exact this
theorem LineOk.two {pre : List Nat} {P : List Int} {m : MS (List Int)} (h : LineOk pre P m) {A B : List Nat} {a b : Nat} (e : m.row = A ++ a :: b :: B) : (m.vs.getD a []).length + (m.vs.getD b []).length ≤ P.length ∧ a < m.vs.length ∧ b < m.vs.length ∧ a < b := by
  refine ⟨?_, h.low a (by rw [e]; simp), h.low b (by rw [e]; simp), ?_⟩
  · rw [← h.cat, e, show pre ++ (A ++ a :: b :: B) = (pre ++ A) ++ a :: b :: B by simp, catL_app, catL_cons, catL_cons]
    simp only [List.length_append]
    omega
  · have h2 := h.asc
    unfold Asc at h2
    rw [e, show pre ++ (A ++ a :: b :: B) = (pre ++ A) ++ a :: b :: B by simp, List.pairwise_append] at h2
    exact (List.pairwise_cons.1 h2.2.1).1 b (by simp)
/-- The views' block, and what stands in it. -/
theorem PM.viewAt {w : World} {base pb : Nat} {st : List Bool} {X : PX} {K : Ky → Value} {H R : Nat → Value} {s : PS} (h : PM w base pb st X K H R s) {a : Nat} (ha : a < s.vs.length) : ∃ vb, X.va = some ⟨vb, 0, none⟩ ∧ s.vs.length ≤ X.vc ∧ w.cell? ⟨vb, a, none⟩ = some (K (.inl a)) ∧ ∀ i, w.frozen? ⟨vb, i, none⟩ = false := by
  obtain ⟨g, e, _, _, h3, h4, h5⟩ := own_cellS h.vw.views (k := a) (range_get _ ha)
  exact ⟨g, e, h3, h4, h5⟩
theorem PM.viewAt2 {w : World} {base pb : Nat} {st : List Bool} {X : PX} {K : Ky → Value} {H R : Nat → Value} {s : PS} (h : PM w base pb st X K H R s) {a vb : Nat} (ha : a < s.vs.length) (e : X.va = some ⟨vb, 0, none⟩) : w.cell? ⟨vb, a, none⟩ = some (K (.inl a)) := by
  obtain ⟨g, e2, _, h4, _⟩ := h.viewAt ha
  rw [e] at e2
  injection e2 with e2
  injection e2 with e2
  subst e2
  exact h4
set_option maxHeartbeats 3200000 in
theorem join_region (base pb : Nat) (st : List Bool) (X : PX) (K : Ky → Value) (H R : Nat → Value) (s : PS) (w : World) (a b : Nat) (l r : List Int) (h : PM w base pb st X K H R s) (hb : base ≤ w.heap.size) (ha : a < s.vs.length) (hbb : b < s.vs.length) (hab : a ≠ b) (hl : s.vs.getD a [] = l) (hr : s.vs.getD b [] = r) (hlen : l.length + r.length ≤ 1000000) :
    Calls Try.prog 35 #[K (.inl a), K (.inl b)] w fun e w' => ∃ x n c vb, e = .returned (.slice x n c) ∧ X.va = some ⟨vb, 0, none⟩ ∧ PM (w'.setCell ⟨vb, a, none⟩ (.slice x n c)) base pb st X (upd K (.inl a) (.slice x n c)) H R { s with vs := s.vs.set a (l ++ r) } ∧ w'.heap[pb]? = some (.cells (X.cells st s) 59 (0, 0)) ∧ w'.cell? ⟨vb, b, none⟩ = some (K (.inl b)) ∧ w'.cell? ⟨vb, a, none⟩ = some (K (.inl a)) ∧ w'.frozen? ⟨vb, a, none⟩ = false ∧ Keeps (fun i => base ≤ i) w (w'.setCell ⟨vb, a, none⟩ (.slice x n c)) ∧ (w'.setCell ⟨vb, a, none⟩ (.slice x n c)).cell? ⟨vb, b, none⟩ = some (K (.inl b)) := by
  have h1 := h.vw.rows (.inl a)
  have h2 := h.vw.rows (.inl b)
  simp only [Lf] at h1 h2
  rw [hl] at h1
  rw [hr] at h2
  refine (join_ok base _ _ l r w h1 h2 hb hlen).mono ?_
  rintro e w' ⟨V', rfl, -, ho, hk, hm⟩
  obtain ⟨x, c, rfl⟩ := row_shape ho
  obtain ⟨vb, hva, hvc, c1, hf⟩ := h.viewAt ha
  have c2 := h.viewAt2 hbb hva
  have hT := onlyT_own h1
  have hP := h.putView ha hva ho hk hm
  have hv2 := row_other h.vw.views hk hT (by decide)
  obtain ⟨g1, e1, hlo, -, -, d1, hf1⟩ := own_cellS hv2 (k := a) (range_get _ ha)
  obtain ⟨g2, e2, -, -, -, d2, -⟩ := own_cellS hv2 (k := b) (range_get _ hbb)
  rw [hva] at e1 e2
  injection e1 with e1
  injection e1 with e1
  injection e2 with e2
  injection e2 with e2
  subst e1
  subst e2
  refine ⟨x, _, c, vb, rfl, hva, hP, blk_other h.blk hk hT (by decide), d2, d1, hf1 a, ((hk.mono (T := fun i => base ≤ i) (fun i e _ => row_low h1 e)).andSet (x := ⟨vb, a, none⟩) (.inl hlo) _), ?_⟩
  have := hP.viewAt2 (a := b) (by simpa using hbb) hva
  rwa [upd_ne (by simpa using fun e => hab e.symm)] at this
set_option maxHeartbeats 3200000 in
theorem merge_ok (base pb at0 : Nat) (st : List Bool) (X : PX) (K : Ky → Value) (R : Nat → Value) (s : PS) (w : World) (tk : List (Nat × List Nat)) (sp : Nat) (m0 : MS (List Int)) (pre : List Nat) (P : List Int) (h : PM w base pb st X K R R (psOf s tk sp m0)) (hb : base ≤ w.heap.size) (hline : LineOk pre P m0) (hP : P.length ≤ 4096) (h0 : 0 < m0.row.length) (hr : m0.row.length ≤ 5000) (hn : tk.length ≤ 5000) (hmg : m0.mg.length + m0.row.length ≤ 100000) :
    Calls Try.prog 31 #[.pointer (some ⟨pb, 0, none⟩), .int .i64 at0] w fun e w' => e = .returned (.tuple #[]) ∧ (∃ X' K' R', PM w' base pb st X' K' R' R' (psOf s tk sp (m0.all listK at0))) ∧ Keeps (fun i => base ≤ i) w w' := by
  obtain ⟨tb, hta, -, -, -, -, t1, -⟩ := h.cur rfl
  have HP : Hid (PM w base pb st X K R R (psOf s tk sp m0) ∧ X.ta = some ⟨tb, 0, none⟩ ∧ w.cell? ⟨tb, tk.length * 2 + 1, none⟩ = some (R tk.length)) := ⟨h, hta, t1⟩
  have HL : Hid (LineOk pre P m0 ∧ P.length ≤ 4096 ∧ 0 < m0.row.length ∧ m0.row.length ≤ 5000 ∧ base ≤ w.heap.size ∧ m0.mg.length + m0.row.length ≤ 100000) := ⟨hline, hP, h0, hr, hb, hmg⟩
  have hrow0 := h.curRow rfl
  obtain ⟨ra, rc, hRv⟩ := row_shape hrow0
  rw [hRv] at t1
  have HV : Hid (R tk.length = .slice ra m0.row.length rc) := hRv
  clear h hline hP h0 hr hta hrow0 hRv hb hmg
  go_enter Try.func31, Try.ntmps31
  go_wp2_with fail
  refine (current_ok base pb st X K R R (psOf s tk sp m0) w tb tk (sp, m0.row) HP.out.1 rfl HP.out.2.1 (by omega)).mono ?_
  rintro e w1 ⟨rfl, hk1⟩
  have HK1 : Hid (Keeps None w w1) := hk1
  have t2 := hk1.cell t1 (fun f => f)
  clear hk1 t1
  go_wp2_with fail
  clear t2
  go_loopw [4, 5, 6, 7] (fun r _ _ _ wr => ∃ m X' K' V, m0.all listK at0 = m.all listK at0 ∧ r = V ∧ PM wr base pb st X' K' R (upd R tk.length V) (psOf s tk sp m) ∧ LineOk pre P m ∧ 0 < m.row.length ∧ m.row.length ≤ 5000 ∧ m.mg.length + m.row.length ≤ 100000 ∧ X'.ta = some ⟨tb, 0, none⟩ ∧ Keeps (fun i => base ≤ i) w wr) (fun r _ _ _ _ => sliceLen r)
  case atStart =>
    refine ⟨m0, X, K, _, rfl, rfl, ?_, HL.out.1, HL.out.2.2.1, HL.out.2.2.2.1, HL.out.2.2.2.2.2, HP.out.2.1, HK1.out.mono (fun _ f _ => f.elim)⟩
    rw [← HV.out]
    have e : upd R tk.length (R tk.length) = R := by
      funext i
      by_cases h : i = tk.length
      · subst h; exact upd_eq _ _ _
      · exact upd_ne h
    rw [e]
    exact HP.out.1.more HK1.out
  case round =>
    clear HV HK1
    obtain ⟨m, X1, K1, V, hall, rfl, hM, hline, hpos, hlen, hmg, hta, hk⟩ := hrel
    have hrow := hM.curRow (tk := tk) (sp := sp) (r := m.row) rfl
    rw [upd_eq] at hrow
    obtain ⟨ra, rc, rfl⟩ := row_shape hrow
    have HM : Hid (PM wr base pb st X1 K1 R (upd R tk.length (.slice ra m.row.length rc)) (psOf s tk sp m) ∧ LineOk pre P m ∧ m0.all listK at0 = m.all listK at0 ∧ X1.ta = some ⟨tb, 0, none⟩ ∧ Keeps (fun i => base ≤ i) w wr ∧ m.mg.length + m.row.length ≤ 100000) := ⟨hM, hline, hall, hta, hk, hmg⟩
    by_cases h1 : 1 < m.row.length
    · have hi1 : (1 : Int) < (m.row.length : Int) := by omega
      clear hM hline hall hta hk hrow hmg
      go_wp2_with fail
      refine (pick_ok base pb st X1 K1 R _ (psOf s tk sp m) wr HM.out.1).mono ?_
      rintro e w2 ⟨rfl, ⟨X2, hM2, hta2⟩, hk2⟩
      have hw : wrap64 ((m.row.length : Int) - 1) = ((m.row.length - 1 : Nat) : Int) := by unfold wrap64; omega
      have HM2 : Hid (PM w2 base pb st X2 K1 R (upd R tk.length (.slice ra m.row.length rc)) (psOf s tk sp { m with pk := m.pk.tail }) ∧ X2.ta = some ⟨tb, 0, none⟩ ∧ Keeps (fun i => base ≤ i) w w2) := ⟨hM2, hta2.trans HM.out.2.2.2.1, HM.out.2.2.2.2.1.trans hk2 (fun i e _ => by have := HM.out.1.low; omega)⟩
      have hpk : (psOf s tk sp m).pk = m.pk := rfl
      rw [hpk]
      obtain ⟨pk, hp⟩ : ∃ pk, pk = m.pk.headD 0 := ⟨_, rfl⟩
      rw [← hp]
      have HPK : Hid (pk = m.pk.headD 0) := hp
      clear hM2 hta2 hk2 hpk hp
      have hw : wrap64 ((m.row.length : Int) - 1) = (m.row.length : Int) - 1 := by unfold wrap64; omega
      go_wp2_with fail
      refine (mod_any pk ((m.row.length : Int) - 1) w2 (by omega)).mono ?_
      rintro e w3 ⟨rfl, hw3⟩
      have hw4 := hw3.symm
      subst hw4
      clear hw3 hw
      have hj := MS.j_lt h1
      have hjv : modV pk ((m.row.length : Int) - 1) = ((m.j : Nat) : Int) := by
        unfold modV
        rw [if_neg (by omega), HPK.out]
        unfold MS.j
        rw [show ((m.row.length - 1 : Nat) : Int) = (m.row.length : Int) - 1 by omega, Int.toNat_of_nonneg (Int.emod_nonneg _ (by omega))]
      rw [hjv]
      obtain ⟨A, a, b, B, e1, e2, e3, e4, e5⟩ := row_split hj
      obtain ⟨j, hjj⟩ : ∃ j, j = m.j := ⟨_, rfl⟩
      rw [← hjj]
      rw [← hjj] at hj e2 e3 e4 e5
      have HJ : Hid (j = m.j ∧ m.row = A ++ a :: b :: B ∧ m.row.getD j 0 = a ∧ m.row.getD (j + 1) 0 = b) := ⟨hjj, e1, e3, e4⟩
      have hrow := HM2.out.1.curRow (tk := tk) (sp := sp) (r := m.row) rfl
      rw [upd_eq] at hrow
      have ha1 : m.row[j]? = some a := by rw [e1, ← e2]; simp
      have hb1 : m.row[j + 1]? = some b := by rw [e1, ← e2, List.getElem?_append_right (by omega)]; simp
      obtain ⟨g, rfl, -, -, -, c1, -⟩ := own_cellS hrow (k := j) (nv_at ha1)
      obtain ⟨g', e', -, -, -, c2, -⟩ := own_cellS hrow (k := j + 1) (nv_at hb1)
      injection e' with e'
      injection e' with e'
      subst e'
      have hw5 : IntKind.i64.wrap ((j : Int) + 1) = (j : Int) + 1 := by rw [IntKind.wrap_i64]; omega
      have hi2 : (j : Int) < (m.row.length : Int) := by omega
      have hi3 : (j : Int) + 1 < (m.row.length : Int) := by omega
      have hi4 : 0 ≤ (j : Int) + 1 := by omega
      have hi5 : ((j : Int) + 1).toNat = j + 1 := by omega
      clear hjv hjj e1 e2 e3 e4 e5 ha1 hb1 hrow
      go_upto_region 3 with fail
      go_quiet (fail)
      go_upto_region 4 with fail
      obtain ⟨w4, hw4⟩ : ∃ w4, w4 = w2.drewN nq := ⟨_, rfl⟩
      rw [← hw4]
      have HL4 : Hid (PM w4 base pb st X2 K1 R (upd R tk.length (.slice (some ⟨g, 0, none⟩) m.row.length rc)) (psOf s tk sp { m with pk := m.pk.tail }) ∧ X2.ta = some ⟨tb, 0, none⟩ ∧ Keeps (fun i => base ≤ i) w w4 ∧ base ≤ w4.heap.size) := by
        have hkd : Keeps None w2 w4 := by rw [hw4]; exact keeps_drewN _ _
        exact ⟨HM2.out.1.more hkd, HM2.out.2.1, keeps_tr HM2.out.2.2 hkd, Nat.le_trans HL.out.2.2.2.2.1 (Nat.le_trans HM2.out.2.2.size hkd.size)⟩
      clear hw4 HM2 c1 c2
      go_cut [] (fun wx => ∃ X3 K3, PM wx base pb st X3 K3 R (upd R tk.length (.slice (some ⟨g, 0, none⟩) m.row.length rc)) (psOf s tk sp { m with pk := m.pk.tail, vs := m.vs.set a (m.vs.getD a [] ++ m.vs.getD b []) }) ∧ X3.ta = some ⟨tb, 0, none⟩ ∧ Keeps (fun i => base ≤ i) w wx)
      case first =>
        obtain ⟨s1, s2, s3, s4⟩ := HM.out.2.1.two HJ.out.2.1
        have HJN := join_region base pb st X2 K1 R _ (psOf s tk sp { m with pk := m.pk.tail }) w4.drew a b (m.vs.getD a []) (m.vs.getD b []) (HL4.out.1.more (Keeps.drew None _)) HL4.out.2.2.2 s2 s3 (by omega) rfl rfl (by have := HL.out.2.1; omega)
        obtain ⟨vb, hva, hvc, u1, -⟩ := HL4.out.1.viewAt (a := a) s2
        have u2 := HL4.out.1.viewAt2 (a := b) s3 hva
        obtain ⟨-, -, q2, -, -, -, q6, -, -, -, -⟩ := HL4.out.1.c0
        rw [hva] at q6
        have HVA : Hid (X2.va = some ⟨vb, 0, none⟩) := hva
        have HJN2 : Hid _ := HJN
        have hlv : (psOf s tk sp { m with pk := m.pk.tail }).vs.length = m.vs.length := rfl
        rw [hlv] at q6
        have z1 : (a : Int) < (m.vs.length : Int) := by omega
        have z2 : (b : Int) < (m.vs.length : Int) := by omega
        obtain ⟨Ka, hKa⟩ : ∃ Ka, Ka = K1 (.inl a) := ⟨_, rfl⟩
        obtain ⟨Kb, hKb⟩ : ∃ Kb, Kb = K1 (.inl b) := ⟨_, rfl⟩
        rw [← hKa] at u1
        rw [← hKb] at u2
        have HKK : Hid (Ka = K1 (.inl a) ∧ Kb = K1 (.inl b)) := ⟨hKa, hKb⟩
        clear HJN hva hlv s1 s2 s3 s4 HM HP HL HJ HPK hvc hKa hKb
        refine wp_region_held_drew (S := (fun w' => w'.cell? ⟨pb, 6, none⟩ = some (.slice (some ⟨vb, 0, none⟩) m.vs.length X2.vc) ∧ w'.cell? ⟨pb, 2, none⟩ = some (.func (.func 35) #[] #[]) ∧ w'.cell? ⟨vb, b, none⟩ = some Kb)) (by kernel_rfl) ?_ (fun hHeld => ?_)
        · (try dsimp only); first | exact ⟨q6, q2, u2⟩ | exact ⟨r6, r2, y2⟩ | exact ⟨t6, t2, y3⟩
        refine wpAnyH_take (i := 0) (oi := { dst := some 31, op := Op.move (Operand.tmp 0), type := 48, pos := "play.go:92", after := #[], guard := none }) (v := ?_) rfl (by kernel_rfl) (by kernel_rfl) (by kernel_rfl) (fun _ _ _ h => h) (Or.inl ⟨by rfl, ?_⟩) (by assumption) ?_
        rotate_left
        · (intro wz hSw; (try dsimp only at hSw); go_simp; try with_reducible rfl)
        simp only [Act.put, List.setIfInBounds_toArray, List.set_cons_zero, List.set_cons_succ]
        refine wpAnyH_take (i := 1) (oi := { dst := some 32, op := Op.nilCheck (Operand.tmp 31), type := 0, pos := "play.go:92", after := #[{ on := 0, ground := Ground.data }], guard := none }) (v := ?_) rfl (by kernel_rfl) (by kernel_rfl) (by kernel_rfl) (fun _ _ _ h => h) (Or.inl ⟨by rfl, ?_⟩) (by assumption) ?_
        rotate_left
        · (intro wz hSw; (try dsimp only at hSw); go_simp; try with_reducible rfl)
        simp only [Act.put, List.setIfInBounds_toArray, List.set_cons_zero, List.set_cons_succ]
        refine wpAnyH_take (i := 2) (oi := { dst := some 33, op := Op.fieldAddr 59 (Operand.tmp 32) 3, type := 0, pos := "play.go:92", after := #[{ on := 1, ground := Ground.data }], guard := none }) (v := ?_) rfl (by kernel_rfl) (by kernel_rfl) (by kernel_rfl) (fun _ _ _ h => h) (Or.inl ⟨by rfl, ?_⟩) (by assumption) ?_
        rotate_left
        · (intro wz hSw; (try dsimp only at hSw); go_simp; try with_reducible rfl)
        simp only [Act.put, List.setIfInBounds_toArray, List.set_cons_zero, List.set_cons_succ]
        refine wpAnyH_take (i := 3) (oi := { dst := some 34, op := Op.load 30 (Operand.tmp 33), type := 30, pos := "play.go:92", after := #[{ on := 2, ground := Ground.data }], guard := none }) (v := ?_) rfl (by kernel_rfl) (by kernel_rfl) (by kernel_rfl) (fun _ _ _ h => h) (Or.inl ⟨by rfl, ?_⟩) (by assumption) ?_
        rotate_left
        · (intro wz hSw; (try dsimp only at hSw); go_simp; try with_reducible rfl)
        simp only [Act.put, List.setIfInBounds_toArray, List.set_cons_zero, List.set_cons_succ]
        refine wpAnyH_take (i := 4) (oi := { dst := some 35, op := Op.move (Operand.tmp 6), type := 3, pos := "play.go:92", after := #[], guard := none }) (v := ?_) rfl (by kernel_rfl) (by kernel_rfl) (by kernel_rfl) (fun _ _ _ h => h) (Or.inl ⟨by rfl, ?_⟩) (by assumption) ?_
        rotate_left
        · (intro wz hSw; (try dsimp only at hSw); go_simp; try with_reducible rfl)
        simp only [Act.put, List.setIfInBounds_toArray, List.set_cons_zero, List.set_cons_succ]
        refine wpAnyH_take (i := 5) (oi := { dst := some 36, op := Op.move (Operand.tmp 0), type := 48, pos := "play.go:92", after := #[], guard := none }) (v := ?_) rfl (by kernel_rfl) (by kernel_rfl) (by kernel_rfl) (fun _ _ _ h => h) (Or.inl ⟨by rfl, ?_⟩) (by assumption) ?_
        rotate_left
        · (intro wz hSw; (try dsimp only at hSw); go_simp; try with_reducible rfl)
        simp only [Act.put, List.setIfInBounds_toArray, List.set_cons_zero, List.set_cons_succ]
        refine wpAnyH_take (i := 6) (oi := { dst := some 37, op := Op.nilCheck (Operand.tmp 36), type := 0, pos := "play.go:92", after := #[{ on := 5, ground := Ground.data }], guard := none }) (v := ?_) rfl (by kernel_rfl) (by kernel_rfl) (by kernel_rfl) (fun _ _ _ h => h) (Or.inl ⟨by rfl, ?_⟩) (by assumption) ?_
        rotate_left
        · (intro wz hSw; (try dsimp only at hSw); go_simp; try with_reducible rfl)
        simp only [Act.put, List.setIfInBounds_toArray, List.set_cons_zero, List.set_cons_succ]
        refine wpAnyH_take (i := 7) (oi := { dst := some 38, op := Op.fieldAddr 59 (Operand.tmp 37) 0, type := 0, pos := "play.go:92", after := #[{ on := 6, ground := Ground.data }], guard := none }) (v := ?_) rfl (by kernel_rfl) (by kernel_rfl) (by kernel_rfl) (fun _ _ _ h => h) (Or.inl ⟨by rfl, ?_⟩) (by assumption) ?_
        rotate_left
        · (intro wz hSw; (try dsimp only at hSw); go_simp; try with_reducible rfl)
        simp only [Act.put, List.setIfInBounds_toArray, List.set_cons_zero, List.set_cons_succ]
        refine wpAnyH_take (i := 8) (oi := { dst := some 39, op := Op.fieldAddr 55 (Operand.tmp 38) 2, type := 0, pos := "play.go:92", after := #[{ on := 7, ground := Ground.data }], guard := none }) (v := ?_) rfl (by kernel_rfl) (by kernel_rfl) (by kernel_rfl) (fun _ _ _ h => h) (Or.inl ⟨by rfl, ?_⟩) (by assumption) ?_
        rotate_left
        · (intro wz hSw; (try dsimp only at hSw); go_simp; try with_reducible rfl)
        simp only [Act.put, List.setIfInBounds_toArray, List.set_cons_zero, List.set_cons_succ]
        refine wpAnyH_take (i := 9) (oi := { dst := some 40, op := Op.load 52 (Operand.tmp 39), type := 52, pos := "play.go:92", after := #[{ on := 8, ground := Ground.data }], guard := none }) (v := ?_) rfl (by kernel_rfl) (by kernel_rfl) (by kernel_rfl) (fun _ _ _ h => h) (Or.inl ⟨by rfl, ?_⟩) (by assumption) ?_
        rotate_left
        · (intro wz hSw; (try dsimp only at hSw); go_simp; try with_reducible rfl)
        simp only [Act.put, List.setIfInBounds_toArray, List.set_cons_zero, List.set_cons_succ]
        refine wpAnyH_take (i := 10) (oi := { dst := some 41, op := Op.move (Operand.tmp 0), type := 48, pos := "play.go:92", after := #[], guard := none }) (v := ?_) rfl (by kernel_rfl) (by kernel_rfl) (by kernel_rfl) (fun _ _ _ h => h) (Or.inl ⟨by rfl, ?_⟩) (by assumption) ?_
        rotate_left
        · (intro wz hSw; (try dsimp only at hSw); go_simp; try with_reducible rfl)
        simp only [Act.put, List.setIfInBounds_toArray, List.set_cons_zero, List.set_cons_succ]
        refine wpAnyH_take (i := 11) (oi := { dst := some 42, op := Op.nilCheck (Operand.tmp 41), type := 0, pos := "play.go:92", after := #[{ on := 10, ground := Ground.data }], guard := none }) (v := ?_) rfl (by kernel_rfl) (by kernel_rfl) (by kernel_rfl) (fun _ _ _ h => h) (Or.inl ⟨by rfl, ?_⟩) (by assumption) ?_
        rotate_left
        · (intro wz hSw; (try dsimp only at hSw); go_simp; try with_reducible rfl)
        simp only [Act.put, List.setIfInBounds_toArray, List.set_cons_zero, List.set_cons_succ]
        refine wpAnyH_take (i := 12) (oi := { dst := some 43, op := Op.fieldAddr 59 (Operand.tmp 42) 3, type := 0, pos := "play.go:92", after := #[{ on := 11, ground := Ground.data }], guard := none }) (v := ?_) rfl (by kernel_rfl) (by kernel_rfl) (by kernel_rfl) (fun _ _ _ h => h) (Or.inl ⟨by rfl, ?_⟩) (by assumption) ?_
        rotate_left
        · (intro wz hSw; (try dsimp only at hSw); go_simp; try with_reducible rfl)
        simp only [Act.put, List.setIfInBounds_toArray, List.set_cons_zero, List.set_cons_succ]
        refine wpAnyH_take (i := 13) (oi := { dst := some 44, op := Op.load 30 (Operand.tmp 43), type := 30, pos := "play.go:92", after := #[{ on := 12, ground := Ground.data }], guard := none }) (v := ?_) rfl (by kernel_rfl) (by kernel_rfl) (by kernel_rfl) (fun _ _ _ h => h) (Or.inl ⟨by rfl, ?_⟩) (by assumption) ?_
        rotate_left
        · (intro wz hSw; (try dsimp only at hSw); go_simp; try with_reducible rfl)
        simp only [Act.put, List.setIfInBounds_toArray, List.set_cons_zero, List.set_cons_succ]
        refine wpAnyH_take (i := 14) (oi := { dst := some 45, op := Op.move (Operand.tmp 6), type := 3, pos := "play.go:92", after := #[], guard := none }) (v := ?_) rfl (by kernel_rfl) (by kernel_rfl) (by kernel_rfl) (fun _ _ _ h => h) (Or.inl ⟨by rfl, ?_⟩) (by assumption) ?_
        rotate_left
        · (intro wz hSw; (try dsimp only at hSw); go_simp; try with_reducible rfl)
        simp only [Act.put, List.setIfInBounds_toArray, List.set_cons_zero, List.set_cons_succ]
        refine wpAnyH_take (i := 15) (oi := _) (v := ?_) rfl (by kernel_rfl) (by kernel_rfl) (by kernel_rfl) (fun _ _ _ h => h) (Or.inl ⟨by rfl, ?_⟩) (by assumption) ?_
        rotate_left
        · (intro wz hSw; (try dsimp only at hSw); go_simp; try with_reducible rfl)
        simp only [Act.put, List.setIfInBounds_toArray, List.set_cons_zero, List.set_cons_succ]
        refine wpAnyH_take (i := 17) (oi := { dst := some 48, op := Op.move (Operand.tmp 0), type := 48, pos := "play.go:92", after := #[], guard := none }) (v := ?_) rfl (by kernel_rfl) (by kernel_rfl) (by kernel_rfl) (fun _ _ _ h => h) (Or.inl ⟨by rfl, ?_⟩) (by assumption) ?_
        rotate_left
        · (intro wz hSw; (try dsimp only at hSw); go_simp; try with_reducible rfl)
        simp only [Act.put, List.setIfInBounds_toArray, List.set_cons_zero, List.set_cons_succ]
        refine wpAnyH_take (i := 18) (oi := { dst := some 49, op := Op.nilCheck (Operand.tmp 48), type := 0, pos := "play.go:92", after := #[{ on := 17, ground := Ground.data }], guard := none }) (v := ?_) rfl (by kernel_rfl) (by kernel_rfl) (by kernel_rfl) (fun _ _ _ h => h) (Or.inl ⟨by rfl, ?_⟩) (by assumption) ?_
        rotate_left
        · (intro wz hSw; (try dsimp only at hSw); go_simp; try with_reducible rfl)
        simp only [Act.put, List.setIfInBounds_toArray, List.set_cons_zero, List.set_cons_succ]
        refine wpAnyH_take (i := 19) (oi := { dst := some 50, op := Op.fieldAddr 59 (Operand.tmp 49) 3, type := 0, pos := "play.go:92", after := #[{ on := 18, ground := Ground.data }], guard := none }) (v := ?_) rfl (by kernel_rfl) (by kernel_rfl) (by kernel_rfl) (fun _ _ _ h => h) (Or.inl ⟨by rfl, ?_⟩) (by assumption) ?_
        rotate_left
        · (intro wz hSw; (try dsimp only at hSw); go_simp; try with_reducible rfl)
        simp only [Act.put, List.setIfInBounds_toArray, List.set_cons_zero, List.set_cons_succ]
        refine wpAnyH_take (i := 20) (oi := { dst := some 51, op := Op.load 30 (Operand.tmp 50), type := 30, pos := "play.go:92", after := #[{ on := 19, ground := Ground.data }], guard := none }) (v := ?_) rfl (by kernel_rfl) (by kernel_rfl) (by kernel_rfl) (fun _ _ _ h => h) (Or.inl ⟨by rfl, ?_⟩) (by assumption) ?_
        rotate_left
        · (intro wz hSw; (try dsimp only at hSw); go_simp; try with_reducible rfl)
        simp only [Act.put, List.setIfInBounds_toArray, List.set_cons_zero, List.set_cons_succ]
        refine wpAnyH_take (i := 21) (oi := { dst := some 52, op := Op.move (Operand.tmp 7), type := 3, pos := "play.go:92", after := #[], guard := none }) (v := ?_) rfl (by kernel_rfl) (by kernel_rfl) (by kernel_rfl) (fun _ _ _ h => h) (Or.inl ⟨by rfl, ?_⟩) (by assumption) ?_
        rotate_left
        · (intro wz hSw; (try dsimp only at hSw); go_simp; try with_reducible rfl)
        simp only [Act.put, List.setIfInBounds_toArray, List.set_cons_zero, List.set_cons_succ]
        refine wpAnyH_take (i := 22) (oi := _) (v := ?_) rfl (by kernel_rfl) (by kernel_rfl) (by kernel_rfl) (fun _ _ _ h => h) (Or.inl ⟨by rfl, ?_⟩) (by assumption) ?_
        rotate_left
        · (intro wz hSw; (try dsimp only at hSw); go_simp; try with_reducible rfl)
        simp only [Act.put, List.setIfInBounds_toArray, List.set_cons_zero, List.set_cons_succ]
        refine wpAnyH_take (i := 23) (oi := { dst := some 54, op := Op.load 28 (Operand.tmp 53), type := 28, pos := "play.go:92", after := #[{ on := 22, ground := Ground.data }], guard := none }) (v := ?_) rfl (by kernel_rfl) (by kernel_rfl) (by kernel_rfl) (fun _ _ _ h => h) (Or.inl ⟨by rfl, ?_⟩) (by assumption) ?_
        rotate_left
        · (intro wz hSw; (try dsimp only at hSw); go_simp; try with_reducible rfl)
        simp only [Act.put, List.setIfInBounds_toArray, List.set_cons_zero, List.set_cons_succ]
        refine wpAnyH_ready (rs := [16]) (by kernel_rfl) (by simp) ?_
        refine AllReadyH.cons (o := { dst := some 47, op := Op.load 28 (Operand.tmp 46), type := 28, pos := "play.go:92", after := #[{ on := 15, ground := Ground.data }], guard := none }) rfl (fun K hK => ?_) ?_
        · go_simp
          refine hK.out _ _ ?_ (fun hHeld2 => ?_)
          · (try dsimp only); first | exact ⟨q6, q2, u2⟩ | exact ⟨r6, r2, y2⟩ | exact ⟨t6, t2, y3⟩
          clear hK K
          try simp only [Act.put, List.setIfInBounds_toArray, List.set_cons_zero, List.set_cons_succ]
          refine wpAnyH_ready (rs := [24]) (by kernel_rfl) (by simp) ?_
          refine AllReadyH.cons (o := _) rfl (fun K hK => ?_) ?_
          · go_simp
            rw [HKK.out.1, HKK.out.2]
            refine Calls.mono HJN2.out ?_
            rintro _ w5 ⟨x, n, c, vb2, rfl, hv2, hP5, hb5, y2, y1, yf, hk5, y3⟩
            have hvv := hv2.symm.trans HVA.out; injection hvv with hvv; injection hvv with hvv; subst hvv
            rw [← HKK.out.2] at y2 y3
            have r6 : w5.cell? ⟨pb, 6, none⟩ = some (.slice X2.va m.vs.length X2.vc) := blk_cell hb5 6
            have r2 : w5.cell? ⟨pb, 2, none⟩ = some (.func (.func 35) #[] #[]) := blk_cell hb5 2
            rw [HVA.out] at r6
            have t6 : (w5.setCell ⟨vb2, a, none⟩ (.slice x n c)).cell? ⟨pb, 6, none⟩ = some (.slice X2.va (m.vs.set a (m.vs.getD a [] ++ m.vs.getD b [])).length X2.vc) := hP5.c0.2.2.2.2.2.2.1
            rw [HVA.out, List.length_set] at t6
            have t2 := hP5.c0.2.2.1
            have HF : Hid (PM (w5.setCell ⟨vb2, a, none⟩ (.slice x n c)) base pb st X2 (upd K1 (.inl a) (.slice x n c)) R (upd R tk.length (.slice (some ⟨g, 0, none⟩) m.row.length rc)) (psOf s tk sp { m with pk := m.pk.tail, vs := m.vs.set a (m.vs.getD a [] ++ m.vs.getD b []) }) ∧ Keeps (fun i => base ≤ i) w (w5.setCell ⟨vb2, a, none⟩ (.slice x n c))) := ⟨hP5, (HL4.out.2.2.1.andDrew).trans hk5 (fun i e _ => e)⟩
            clear hP5 hk5 hb5 hv2
            refine hK.out _ _ ?_ (fun hHeld2 => ?_)
            · (try dsimp only); first | exact ⟨q6, q2, u2⟩ | exact ⟨r6, r2, y2⟩ | exact ⟨t6, t2, y3⟩
            clear hK K
            try simp only [Act.put, List.setIfInBounds_toArray, List.set_cons_zero, List.set_cons_succ]
            refine wpAnyH_take (i := 25) (oi := _) (v := ?_) rfl (by kernel_rfl) (by kernel_rfl) (by kernel_rfl) (fun _ _ _ h => h) (Or.inl ⟨by rfl, ?_⟩) (by assumption) ?_
            rotate_left
            · (intro wz hSw; (try dsimp only at hSw); go_simp; try with_reducible rfl)
            simp only [Act.put, List.setIfInBounds_toArray, List.set_cons_zero, List.set_cons_succ]
            refine wpAnyH_ready (rs := [26]) (by kernel_rfl) (by simp) ?_
            refine AllReadyH.cons (o := _) rfl (fun K hK => ?_) ?_
            · go_simp
              refine hK.out _ _ ?_ (fun hHeld2 => ?_)
              · (try dsimp only); first | exact ⟨q6, q2, u2⟩ | exact ⟨r6, r2, y2⟩ | exact ⟨t6, t2, y3⟩
              clear hK K
              try simp only [Act.put, List.setIfInBounds_toArray, List.set_cons_zero, List.set_cons_succ]
              refine wpAnyH_done (by kernel_rfl) ?_ _
              go_wp2_with fail
              go_meet
              exact ⟨X2, _, HF.out.1, HL4.out.2.1, HF.out.2⟩
            exact AllReadyH.nil
          exact AllReadyH.nil
        exact AllReadyH.nil
      case rest =>
        obtain ⟨X3, K3, hM3, hta3, hkc⟩ := hcut
        have hd := hM3.more (Keeps.alloc None wc (.cells #[.int .i64 at0, .int .i64 a, .int .i64 b] 96))
        have hsz : base ≤ wc.heap.size := Nat.le_trans HL.out.2.2.2.2.1 hkc.size
        obtain ⟨gm, cp, w6, hr, ho, hk6⟩ := merge_more base (.slice X3.ma m.mg.length X3.mc) m.mg (at0, a, b) 29 wc.heap.size (wc.alloc (.cells #[.int .i64 at0, .int .i64 a, .int .i64 b] 96)) hd.mg (by simp; omega) (by have := HM.out.2.2.2.2.2; omega) (blk_new _ _ _ rfl)
        have hP6 := hd.newMerge (x := (at0, a, b)) ho hk6
        have hb6 := blk_other hd.blk hk6 (onlyT_own hd.mg) (by decide)
        have q9 : wc.cell? ⟨pb, 9, none⟩ = some (.slice X3.ma m.mg.length X3.mc) := hM3.c0.2.2.2.2.2.2.2.2.2.1
        have f9 : w6.frozen? ⟨pb, 9, none⟩ = false := blk_free hb6 9
        have q96 : w6.cell? ⟨pb, 9, none⟩ = some (.slice X3.ma m.mg.length X3.mc) := blk_cell hb6 9
        have HF6 : Hid (PM (w6.setCell ⟨pb, 9, none⟩ (.slice (some ⟨gm, 0, none⟩) (m.mg.length + 1) cp)) base pb st { X3 with ma := some ⟨gm, 0, none⟩, mc := cp } K3 R (upd R tk.length (.slice (some ⟨g, 0, none⟩) m.row.length rc)) (psOf s tk sp { m with pk := m.pk.tail, vs := m.vs.set a (m.vs.getD a [] ++ m.vs.getD b []), mg := m.mg ++ [(at0, a, b)] }) ∧ X3.ta = some ⟨tb, 0, none⟩ ∧ Keeps (fun i => base ≤ i) w (w6.setCell ⟨pb, 9, none⟩ (.slice (some ⟨gm, 0, none⟩) (m.mg.length + 1) cp))) :=
          ⟨hP6, hta3, ((hkc.andAlloc _).trans hk6 (fun i e _ => row_low hd.mg e)).andSet (x := ⟨pb, 9, none⟩) (.inl HM.out.1.low) _⟩
        have HSZ : Hid (base ≤ wc.heap.size) := hsz
        clear hd ho hk6 hP6 hb6 hM3 hta3 hkc hsz HL4
        go_upto_region 5 with fail
        go_wp2_with (at_builtin; refine wpList_append_run rfl (.tmp 61) (.tmp 66) 29 29 rfl rfl rfl hr ?_)
        obtain ⟨w7, hw7⟩ : ∃ w7, w7 = w6.setCell ⟨pb, 9, none⟩ (.slice (some ⟨gm, 0, none⟩) (m.mg.length + 1) cp) := ⟨_, rfl⟩
        rw [← hw7] at HF6 ⊢
        clear hw7 hr q9 q96 f9
        have hrow := HF6.out.1.curRow (tk := tk) (sp := sp) (r := m.row) rfl
        rw [upd_eq] at hrow
        refine (delete_two base g m.row.length rc (j + 1) m.row w7 ((j : Int) + 1) ((j : Int) + 2) hrow rfl hj (by omega) (by omega) (by omega)).mono ?_
        clear hrow
        rintro e w8 ⟨rfl, ho8, hk8⟩
        have hone : m.one listK at0 = ⟨m.vs.set a (m.vs.getD a [] ++ m.vs.getD b []), m.row.eraseIdx (j + 1), m.mg ++ [(at0, a, b)], m.pk.tail⟩ := by
          unfold MS.one MS.l MS.r
          rw [← HJ.out.1, HJ.out.2.2.1, HJ.out.2.2.2]
          rfl
        have hlr : (m.row.eraseIdx (j + 1)).length = m.row.length - 1 := by rw [List.length_eraseIdx, if_pos hj]
        have HE : Hid (∃ m' X' K' V, m0.all listK at0 = m'.all listK at0 ∧ Value.slice (some ⟨g, 0, none⟩) (m.row.length - 1) rc = V ∧ PM w8 base pb st X' K' R (upd R tk.length V) (psOf s tk sp m') ∧ LineOk pre P m' ∧ 0 < m'.row.length ∧ m'.row.length ≤ 5000 ∧ m'.mg.length + m'.row.length ≤ 100000 ∧ X'.ta = some ⟨tb, 0, none⟩ ∧ Keeps (fun i => base ≤ i) w w8) := by
          refine ⟨m.one listK at0, { X3 with ma := some ⟨gm, 0, none⟩, mc := cp }, K3, _, HM.out.2.2.1.trans (all_step listK at0 h1), rfl, ?_, HM.out.2.1.one at0 h1, by rw [hone]; show 0 < (m.row.eraseIdx (j + 1)).length; omega, by rw [hone]; show (m.row.eraseIdx (j + 1)).length ≤ 5000; omega, ?_, HF6.out.2.1, ?_⟩
          · have hq := HF6.out.1.putRow (tk := tk) (sp := sp) (r := m.row) (r' := m.row.eraseIdx (j + 1)) (V := .slice (some ⟨g, 0, none⟩) (m.row.length - 1) rc) (w1 := w8) rfl (by rw [hlr]; exact ho8) (by rw [upd_eq]; exact hk8.mono (fun i e _ => by subst e; rfl)) (fun b e => by rw [upd_eq]; exact .inl e)
            have hu : upd (upd R tk.length (.slice (some ⟨g, 0, none⟩) m.row.length rc)) tk.length (.slice (some ⟨g, 0, none⟩) (m.row.length - 1) rc) = upd R tk.length (.slice (some ⟨g, 0, none⟩) (m.row.length - 1) rc) := by
              funext i
              by_cases e : i = tk.length
              · subst e; rw [upd_eq, upd_eq]
              · rw [upd_ne e, upd_ne e, upd_ne e]
            rw [hu] at hq
            rw [hone]
            exact hq
          · rw [hone]
            show (m.mg ++ [(at0, a, b)]).length + (m.row.eraseIdx (j + 1)).length ≤ 100000
            have := HM.out.2.2.2.2.2
            simp only [List.length_append, List.length_singleton]
            omega
          · have hrow := HF6.out.1.curRow (tk := tk) (sp := sp) (r := m.row) rfl
            rw [upd_eq] at hrow
            exact HF6.out.2.2.trans hk8 (fun i e _ => by subst e; exact row_low hrow rfl)
        clear ho8 hk8 hone hlr
        go_wp2_with fail
        exact ⟨HE.out, by simp [sliceLen]; omega⟩
    · have hi1 : ¬ (1 : Int) < (m.row.length : Int) := by omega
      have hl1 : m.row.length = 1 := by omega
      have HE : Hid (m0.all listK at0 = m) := hall.trans (all_one listK at0 hl1)
      clear hM hline hall hta hk hrow hmg hl1
      go_wp2_with fail
      refine (current_ok base pb st X1 K1 R _ (psOf s tk sp m) wr tb tk (sp, m.row) HM.out.1 rfl HM.out.2.2.2.1 (by omega)).mono ?_
      rintro e w2 ⟨rfl, hk2⟩
      obtain ⟨tb2, hta2, -, -, -, -, t2, hf2⟩ := (HM.out.1.more hk2).cur rfl
      have e2 := hta2.symm.trans HM.out.2.2.2.1
      injection e2 with e2
      injection e2 with e2
      subst e2
      have f2 := hf2 (tk.length * 2 + 1)
      have HF : Hid ((∃ X' K' R', PM (w2.setCell ⟨tb2, tk.length * 2 + 1, none⟩ (.slice ra m.row.length rc)) base pb st X' K' R' R' (psOf s tk sp (m0.all listK at0))) ∧ Keeps (fun i => base ≤ i) w (w2.setCell ⟨tb2, tk.length * 2 + 1, none⟩ (.slice ra m.row.length rc))) := by
        have hq := (HM.out.1.more hk2).setHead (i := tk.length) (V := .slice ra m.row.length rc) hta2
        rw [HE.out]
        refine ⟨⟨X1, K1, _, hq⟩, (keeps_tr HM.out.2.2.2.2.1 hk2).andSet (x := ⟨tb2, _, none⟩) (.inl ?_) _⟩
        exact row_low (HM.out.1.more hk2).tk.tks (by rw [hta2]; rfl)
      clear hk2 hta2 hf2
      go_wp2
      go_end0
      exact ⟨rfl, HF.out⟩
end Go.Proofs.Ytdiabpoafennlab
