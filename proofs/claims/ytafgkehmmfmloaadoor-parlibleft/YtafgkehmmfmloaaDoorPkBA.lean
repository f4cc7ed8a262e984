import Derived.Test.YtafgkehmmfmloaaDoorPkAV
import Derived.Test.YtafgkehmmfmloaaDoorPkAN
import Derived.Test.YtafgkehmmfmloaaDoorPkAC
import Derived.Test.YtafgkehmmfmloaaDoorPkAZ
/-! The run of Reduce's program, plainly: its value. -/
namespace Go.Proofs.YtafgkehmmfmloaaDoor
set_option linter.unusedVariables false
set_option maxRecDepth 20000
open Go.RowKit Go.PlainOps

/-- What a call comes to: its value by its first two arguments. -/
def CallF (fs : List Fn) (fn : Int) (w : Nat) (val : Int → Int → Int) : Prop := ∀ (g F : Nat) (s : Rn) (t : Tk), t.node.func = fn → t.regs.length = 16 → t.depth ≤ 4096 → s.fuel = F + w → F + w < g →
  ∃ sp s2, playV fs false g s t = .done (val (t.regs.getD 0 0) (t.regs.getD 1 0)) sp s2 ∧ s2.fuel = F
def leafF (B : Int → Int) (C : Int → Int → Int) : Int → Int → Nat → Int
  | acc, _, 0 => acc
  | acc, lo, m + 1 => leafF B C (C acc (B lo)) (lo + 1) m
/-- The work and the value of a range. -/
inductive RV (B : Int → Int) (C : Int → Int → Int) (u G : Int) (wb wc : Nat) : Int → Nat → Nat → Int → Prop
  | leaf (lo : Int) (m : Nat) : 1 ≤ m → (m : Int) ≤ G → RV B C u G wb wc lo m (6 + m * (wb + wc + 9)) (leafF B C u lo m)
  | half (lo : Int) (m W1 W2 : Nat) (V1 V2 : Int) : G < (m : Int) → RV B C u G wb wc lo (m / 2) W1 V1 → RV B C u G wb wc (lo + ((m / 2 : Nat) : Int)) (m - m / 2) W2 V2 → RV B C u G wb wc lo m (18 + wc + W1 + W2) (C V1 V2)
def RdC (b c u : Int) : List Ins := rnC (lfC b u (mgC c [⟨7, 7, 0, 0, 0⟩])) (hvC (mgC c [⟨7, 6, 0, 0, 0⟩, ⟨7, 7, 1, 0, 0⟩]))
theorem rv_all (B : Int → Int) (C : Int → Int → Int) (u G : Int) (wb wc : Nat) (hG : 1 ≤ G) : ∀ (n m : Nat) (lo : Int), m ≤ n → 1 ≤ m → ∃ W V, RV B C u G wb wc lo m W V
  | 0, m, lo, h, h1 => by omega
  | n + 1, m, lo, h, h1 => by
    by_cases hm : (m : Int) ≤ G
    · exact ⟨_, _, .leaf lo m h1 hm⟩
    · obtain ⟨W1, V1, r1⟩ := rv_all B C u G wb wc hG n (m / 2) lo (by omega) (by omega)
      obtain ⟨W2, V2, r2⟩ := rv_all B C u G wb wc hG n (m - m / 2) (lo + ((m / 2 : Nat) : Int)) (by omega) (by omega)
      exact ⟨_, _, .half lo m W1 W2 V1 V2 (by omega) r1 r2⟩
theorem rv_pos {B : Int → Int} {C : Int → Int → Int} {u G : Int} {wb wc : Nat} {lo : Int} {m W : Nat} {V : Int} (h : RV B C u G wb wc lo m W V) : 1 ≤ m ∧ W + 18 + wc ≤ m * (wb + 2 * wc + 33) := by
  induction h with
  | leaf lo m h1 hm =>
    refine ⟨h1, ?_⟩
    obtain ⟨k, rfl⟩ : ∃ k, m = k + 1 := ⟨m - 1, by omega⟩
    rw [Nat.add_mul, Nat.add_mul]
    have : k * (wb + wc + 9) ≤ k * (wb + 2 * wc + 33) := Nat.mul_le_mul_left _ (by omega)
    omega
  | half lo m W1 W2 V1 V2 hm r1 r2 i1 i2 =>
    obtain ⟨a1, a2⟩ := i1
    obtain ⟨b1, b2⟩ := i2
    have e : m = m / 2 + (m - m / 2) := by omega
    refine ⟨by omega, ?_⟩
    rw [e, Nat.add_mul]
    omega
def rq (x0 x1 x2 x3 x4 x5 x6 x7 x8 x9 x10 : Int) : List Int := [x0, x1, x2, x3, x4, x5, x6, x7, x8, x9, x10, 0, 0, 0, 0, 0]
theorem small64 {x : Int} (h0 : 0 ≤ x) (h1 : x ≤ 1000000) : wrap64 x = x := by
  unfold wrap64
  omega
section
variable {fs : List Fn} {bf cf : Int} {wb wc : Nat} {B : Int → Int} {C : Int → Int → Int} {u : Int}
/-- A spawn of a call whose value is known. -/
theorem spawn_call {fn : Int} {w : Nat} {val : Int → Int → Int} (h : CallF fs fn w val) (g F : Nat) (s : Rn) (t : Tk) (at_ : Nat) (sl first : Int) (hi : (codeOf fs t.node.func)[at_]? = some ⟨5, sl, fn, first, 0⟩) (hd : t.depth + 1 ≤ 4096) (hg : F + w < g) :
    ∃ (sp : Int) (s2 : Rn), loopV fs false (g + 1) { s with fuel := F + w + 1 } t at_ = loopV fs false g { s2 with fuel := F } (gotT (spawnT (payT t)) sl.toNat (val ((argsV t.regs first.toNat (parV fs fn).toNat).getD 0 0) ((argsV t.regs first.toNat (parV fs fn).toNat).getD 1 0)) sp) (at_ + 1) := by
  rw [loop_spawn (g := g) (i := ⟨5, sl, fn, first, 0⟩) (by show F + w + 1 ≠ 0; omega) hi rfl]
  obtain ⟨sp, s2, e1, e2⟩ := h g F (payS { s with fuel := F + w + 1 }) (childV fs (payT t) ⟨5, sl, fn, first, 0⟩) rfl (args_len _ _ _) hd (by show F + w + 1 - 1 = _; omega) hg
  refine ⟨sp, s2, ?_⟩
  rw [e1]
  simp only
  have : s2 = { s2 with fuel := F } := by rw [← e2]
  rw [← this]
  rfl
theorem comp_at (g F : Nat) (s : Rn) (t : Tk) (at_ : Nat) (i : Ins) (hi : (codeOf fs t.node.func)[at_]? = some i) (hk : i.kind = 0 ∨ i.kind = 1 ∨ i.kind = 2 ∨ i.kind = 7 ∨ i.kind = 8) : loopV fs false (g + 1) { s with fuel := F + 1 } t at_ = loopV fs false g { s with fuel := F } (computeT (payT t) i) (at_ + 1) := by
  rw [loop_comp (g := g) (i := i) (by show F + 1 ≠ 0; omega) hi hk]
  rfl
theorem sync_at (g F : Nat) (s : Rn) (t : Tk) (at_ : Nat) (hi : (codeOf fs t.node.func)[at_]? = some ⟨6, 0, 0, 0, 0⟩) : loopV fs false (g + 1) { s with fuel := F + 1 } t at_ = loopV fs false g { s with fuel := F } (waitT (payT t)) (at_ + 1) := by
  rw [loop_sync (g := g) (i := ⟨6, 0, 0, 0, 0⟩) (by show F + 1 ≠ 0; omega) hi rfl]
  rfl
theorem branch_at (g F : Nat) (s : Rn) (t : Tk) (at_ : Nat) (r a : Int) (hi : (codeOf fs t.node.func)[at_]? = some ⟨4, r, a, 0, 0⟩) : loopV fs false (g + 1) { s with fuel := F + 1 } t at_ = loopV fs false g { s with fuel := F } (payT t) (if t.regs.getD r.toNat 0 = 0 then at_ + 1 else a.toNat) := by
  rw [loop_branch (g := g) (i := ⟨4, r, a, 0, 0⟩) (by show F + 1 ≠ 0; omega) hi rfl]
  rfl
theorem ret_at (g F : Nat) (s : Rn) (t : Tk) (at_ : Nat) (r : Int) (hi : (codeOf fs t.node.func)[at_]? = some ⟨9, r, 0, 0, 0⟩) : ∃ sp s2, loopV fs false (g + 1) { s with fuel := F + 1 } t at_ = .done (t.regs.getD r.toNat 0) sp s2 ∧ s2.fuel = F := by
  rw [loop_ret (g := g) (i := ⟨9, r, 0, 0, 0⟩) (by show F + 1 ≠ 0; omega) hi rfl]
  exact ⟨_, _, rfl, rfl⟩
/-- A task of which the registers, the slots and the depth are known. -/
structure IsT (t : Tk) (f : Int) (regs slots : List Int) (d : Int) : Prop where
  func : t.node.func = f
  regs : t.regs = regs
  slots : t.slots = slots
  depth : t.depth = d
theorem IsT.const {t : Tk} {f : Int} {regs slots : List Int} {d : Int} (h : IsT t f regs slots d) (a k : Int) : IsT (computeT (payT t) ⟨0, a, 0, 0, k⟩) f (regs.set a.toNat k) slots d := ⟨h.func, by rw [← h.regs]; rfl, h.slots, h.depth⟩
theorem IsT.move {t : Tk} {f : Int} {regs slots : List Int} {d : Int} (h : IsT t f regs slots d) (a b : Int) : IsT (computeT (payT t) ⟨1, a, b, 0, 0⟩) f (regs.set a.toNat (regs.getD b.toNat 0)) slots d := ⟨h.func, by rw [← h.regs]; rfl, h.slots, h.depth⟩
theorem IsT.arith {t : Tk} {f : Int} {regs slots : List Int} {d : Int} (h : IsT t f regs slots d) (a b c k : Int) : IsT (computeT (payT t) ⟨2, a, b, c, k⟩) f (regs.set a.toNat (workV k (regs.getD b.toNat 0) (regs.getD c.toNat 0))) slots d := ⟨h.func, by rw [← h.regs]; rfl, h.slots, h.depth⟩
theorem IsT.load {t : Tk} {f : Int} {regs slots : List Int} {d : Int} (h : IsT t f regs slots d) (a b : Int) : IsT (computeT (payT t) ⟨7, a, b, 0, 0⟩) f (regs.set a.toNat (slots.getD b.toNat 0)) slots d := ⟨h.func, by rw [← h.regs, ← h.slots]; rfl, h.slots, h.depth⟩
theorem IsT.pay {t : Tk} {f : Int} {regs slots : List Int} {d : Int} (h : IsT t f regs slots d) : IsT (payT t) f regs slots d := ⟨h.func, h.regs, h.slots, h.depth⟩
theorem IsT.wait {t : Tk} {f : Int} {regs slots : List Int} {d : Int} (h : IsT t f regs slots d) : IsT (waitT (payT t)) f regs slots d := ⟨h.func, h.regs, h.slots, h.depth⟩
theorem IsT.got {t : Tk} {f : Int} {regs slots : List Int} {d : Int} (h : IsT t f regs slots d) (a : Nat) (v sp : Int) : IsT (gotT (spawnT (payT t)) a v sp) f regs (slots.set a v) d := ⟨h.func, h.regs, by show (t.slots).set a v = _; rw [h.slots], h.depth⟩
theorem w_add (a b : Int) : workV 0 a b = wrap64 (a + b) := rfl
theorem w_sub (a b : Int) : workV 1 a b = wrap64 (a - b) := rfl
theorem w_div (a b : Int) : workV 3 a b = quotV a b := rfl
theorem w_max (a b : Int) : workV 11 a b = maxV a b := rfl
theorem w_lt (a b : Int) : workV 12 a b = truthV (decide (a < b)) := rfl
theorem w_le (a b : Int) : workV 13 a b = truthV (decide (a ≤ b)) := rfl
theorem half64 (lo : Int) (m : Nat) (h0 : 0 ≤ lo) (h1 : lo + m ≤ 1000000) : wrap64 (lo + quotV (m : Int) 2) = lo + ((m / 2 : Nat) : Int) := by
  have h2 : (m : Int).tdiv 2 = ((m / 2 : Nat) : Int) := by
    rw [Int.tdiv_eq_ediv_of_nonneg (by omega)]
    omega
  have h3 : ((m / 2 : Nat) : Int) ≤ (m : Int) := by omega
  have h4 : quotV (m : Int) 2 = ((m / 2 : Nat) : Int) := by
    unfold quotV
    rw [if_neg (by omega), h2]
    exact small64 (by omega) (by omega)
  have h5 : 0 ≤ ((m / 2 : Nat) : Int) := by omega
  rw [h4]
  clear h2 h4
  generalize ((m / 2 : Nat) : Int) = q at *
  exact small64 (by omega) (by omega)
theorem mid_regs (lo hi G z y : Int) : (((rq lo hi G 0 0 0 0 0 z 0 1).set (4 : Int).toNat y).set (4 : Int).toNat (quotV (((rq lo hi G 0 0 0 0 0 z 0 1).set (4 : Int).toNat y).getD (8 : Int).toNat 0) (((rq lo hi G 0 0 0 0 0 z 0 1).set (4 : Int).toNat y).getD (4 : Int).toNat 0))).set (4 : Int).toNat (wrap64 ((((rq lo hi G 0 0 0 0 0 z 0 1).set (4 : Int).toNat y).set (4 : Int).toNat (quotV (((rq lo hi G 0 0 0 0 0 z 0 1).set (4 : Int).toNat y).getD (8 : Int).toNat 0) (((rq lo hi G 0 0 0 0 0 z 0 1).set (4 : Int).toNat y).getD (4 : Int).toNat 0))).getD (0 : Int).toNat 0 + (((rq lo hi G 0 0 0 0 0 z 0 1).set (4 : Int).toNat y).set (4 : Int).toNat (quotV (((rq lo hi G 0 0 0 0 0 z 0 1).set (4 : Int).toNat y).getD (8 : Int).toNat 0) (((rq lo hi G 0 0 0 0 0 z 0 1).set (4 : Int).toNat y).getD (4 : Int).toNat 0))).getD (4 : Int).toNat 0)) = rq lo hi G 0 (wrap64 (lo + quotV z y)) 0 0 0 z 0 1 := rfl
/-- The indices of a leaf. -/
theorem leaf_red (hb : CallF fs bf wb (fun x _ => B x)) (hcc : CallF fs cf wc C) (hc : codeOf fs 1 = RdC bf cf u) (hp : parV fs bf = 1) (hp2 : parV fs cf = 2) : ∀ (m : Nat) (lo acc it G sz mo : Int) (sl : List Int) (d : Int) (g F : Nat) (s : Rn) (t : Tk), 1 ≤ m → 0 ≤ lo → lo + m ≤ 1000000 → d + 1 ≤ 4096 → sl.length = 8 → IsT t 1 (rq lo (lo + m) G 0 0 0 acc it sz 1 mo) sl d → F + m * (wb + wc + 9) + 1 < g →
    ∃ (sp : Int) (s2 : Rn), loopV fs false g { s with fuel := F + m * (wb + wc + 9) + 1 } t 5 = .done (leafF B C acc lo m) sp s2 ∧ s2.fuel = F
  | 0, lo, acc, it, G, sz, mo, sl, d, g, F, s, t, hm, h0, h1, hd, hsl, ht, hg => by omega
  | m + 1, lo, acc, it, G, sz, mo, sl, d, g, F, s, t, hm, h0, h1, hd, hsl, ht, hg => by
    have hmul : (m + 1) * (wb + wc + 9) = m * (wb + wc + 9) + (wb + wc + 9) := Nat.succ_mul _ _
    rw [hmul] at hg ⊢
    obtain ⟨Q, hQ⟩ : ∃ Q, Q = m * (wb + wc + 9) := ⟨_, rfl⟩
    rw [← hQ] at hg ⊢
    obtain ⟨g, rfl⟩ : ∃ g', g = g' + 9 := ⟨g - 9, by omega⟩
    have cd : ∀ {t' : Tk}, t'.node.func = 1 → codeOf fs t'.node.func = RdC bf cf u := fun e => by rw [e]; exact hc
    -- 5: the body
    obtain ⟨sp1, s1, e1⟩ := spawn_call hb (g + 8) (F + Q + wc + 9) s t 5 0 0 (by rw [cd ht.func]; rfl) (by rw [ht.depth]; omega) (by omega)
    rw [show F + (Q + (wb + wc + 9)) + 1 = F + Q + wc + 9 + wb + 1 by omega, show g + 9 = g + 8 + 1 from rfl, e1, hp, ht.regs]
    have t1 := ht.got (0 : Int).toNat (B lo) sp1
    obtain ⟨T1, hT1⟩ : ∃ T1, T1 = gotT (spawnT (payT t)) (0 : Int).toNat (B lo) sp1 := ⟨_, rfl⟩
    rw [← hT1] at t1
    show ∃ (sp : Int) (s2 : Rn), loopV fs false (g + 7 + 1) { s1 with fuel := F + Q + wc + 8 + 1 } (gotT (spawnT (payT t)) (0 : Int).toNat (B lo) sp1) 6 = _ ∧ _
    rw [← hT1]
    -- 6, 7
    rw [sync_at (g + 7) (F + Q + wc + 8) s1 T1 6 (by rw [cd t1.func]; rfl)]
    have t2 := t1.wait
    rw [comp_at (g + 6) (F + Q + wc + 7) s1 _ 7 ⟨7, 7, 0, 0, 0⟩ (by rw [cd t2.func]; rfl) (.inr (.inr (.inr (.inl rfl))))]
    have t3 := t2.load 7 0
    have r3 : (rq lo (lo + ((m + 1 : Nat) : Int)) G 0 0 0 acc it sz 1 mo).set (7 : Int).toNat ((sl.set (0 : Int).toNat (B lo)).getD (0 : Int).toNat 0) = rq lo (lo + ((m + 1 : Nat) : Int)) G 0 0 0 acc (B lo) sz 1 mo := by
      have : (sl.set (0 : Int).toNat (B lo)).getD (0 : Int).toNat 0 = B lo := by
        show (sl.set 0 (B lo)).getD 0 0 = B lo
        simp [show 0 < sl.length by omega]
      rw [this]
      rfl
    rw [r3] at t3
    -- 8: the combining one
    obtain ⟨T3, hT3⟩ : ∃ T3, T3 = computeT (payT (waitT (payT T1))) ⟨7, 7, 0, 0, 0⟩ := ⟨_, rfl⟩
    rw [← hT3] at t3 ⊢
    obtain ⟨sp4, s4, e4⟩ := spawn_call hcc (g + 5) (F + Q + 6) s1 T3 8 0 6 (by rw [cd t3.func]; rfl) (by rw [t3.depth]; omega) (by omega)
    rw [show F + Q + wc + 7 = F + Q + 6 + wc + 1 by omega, show g + 6 = g + 5 + 1 from rfl, e4, hp2, t3.regs]
    have t4 := t3.got (0 : Int).toNat (C acc (B lo)) sp4
    obtain ⟨T4, hT4⟩ : ∃ T4, T4 = gotT (spawnT (payT T3)) (0 : Int).toNat (C acc (B lo)) sp4 := ⟨_, rfl⟩
    rw [← hT4] at t4
    show ∃ (sp : Int) (s2 : Rn), loopV fs false (g + 4 + 1) { s4 with fuel := F + Q + 5 + 1 } (gotT (spawnT (payT T3)) (0 : Int).toNat (C acc (B lo)) sp4) 9 = _ ∧ _
    rw [← hT4]
    rw [sync_at (g + 4) (F + Q + 5) s4 T4 9 (by rw [cd t4.func]; rfl)]
    have t5 := t4.wait
    rw [comp_at (g + 3) (F + Q + 4) s4 _ 10 ⟨7, 6, 0, 0, 0⟩ (by rw [cd t5.func]; rfl) (.inr (.inr (.inr (.inl rfl))))]
    have t6 := t5.load 6 0
    have r6 : (rq lo (lo + ((m + 1 : Nat) : Int)) G 0 0 0 acc (B lo) sz 1 mo).set (6 : Int).toNat (((sl.set (0 : Int).toNat (B lo)).set (0 : Int).toNat (C acc (B lo))).getD (0 : Int).toNat 0) = rq lo (lo + ((m + 1 : Nat) : Int)) G 0 0 0 (C acc (B lo)) (B lo) sz 1 mo := by
      have : ((sl.set (0 : Int).toNat (B lo)).set (0 : Int).toNat (C acc (B lo))).getD (0 : Int).toNat 0 = C acc (B lo) := by
        show ((sl.set 0 (B lo)).set 0 (C acc (B lo))).getD 0 0 = C acc (B lo)
        simp [show 0 < sl.length by omega]
      rw [this]
      rfl
    rw [r6] at t6
    -- 11: the next index; 12: is it one?
    rw [comp_at (g + 2) (F + Q + 3) s4 _ 11 ⟨2, 0, 0, 9, 0⟩ (by rw [cd t6.func]; rfl) (.inr (.inr (.inl rfl)))]
    have t7 := t6.arith 0 0 9 0
    have r7 : (rq lo (lo + ((m + 1 : Nat) : Int)) G 0 0 0 (C acc (B lo)) (B lo) sz 1 mo).set (0 : Int).toNat (workV 0 ((rq lo (lo + ((m + 1 : Nat) : Int)) G 0 0 0 (C acc (B lo)) (B lo) sz 1 mo).getD (0 : Int).toNat 0) ((rq lo (lo + ((m + 1 : Nat) : Int)) G 0 0 0 (C acc (B lo)) (B lo) sz 1 mo).getD (9 : Int).toNat 0)) = rq (lo + 1) (lo + ((m + 1 : Nat) : Int)) G 0 0 0 (C acc (B lo)) (B lo) sz 1 mo := by
      rw [w_add]
      show rq (wrap64 (lo + 1)) (lo + ((m + 1 : Nat) : Int)) G 0 0 0 (C acc (B lo)) (B lo) sz 1 mo = _
      rw [small64 (by omega) (by omega)]
    rw [r7] at t7
    rw [comp_at (g + 1) (F + Q + 2) s4 _ 12 ⟨2, 10, 0, 1, 12⟩ (by rw [cd t7.func]; rfl) (.inr (.inr (.inl rfl)))]
    have t8 := t7.arith 10 0 1 12
    have r8 : (rq (lo + 1) (lo + ((m + 1 : Nat) : Int)) G 0 0 0 (C acc (B lo)) (B lo) sz 1 mo).set (10 : Int).toNat (workV 12 ((rq (lo + 1) (lo + ((m + 1 : Nat) : Int)) G 0 0 0 (C acc (B lo)) (B lo) sz 1 mo).getD (0 : Int).toNat 0) ((rq (lo + 1) (lo + ((m + 1 : Nat) : Int)) G 0 0 0 (C acc (B lo)) (B lo) sz 1 mo).getD (1 : Int).toNat 0)) = rq (lo + 1) (lo + ((m + 1 : Nat) : Int)) G 0 0 0 (C acc (B lo)) (B lo) sz 1 (if 1 ≤ m then 1 else 0) := by
      rw [w_lt]
      show rq (lo + 1) (lo + ((m + 1 : Nat) : Int)) G 0 0 0 (C acc (B lo)) (B lo) sz 1 (truthV (decide (lo + 1 < lo + ((m + 1 : Nat) : Int)))) = _
      by_cases h : 1 ≤ m
      · have h' : lo + 1 < lo + ((m + 1 : Nat) : Int) := by omega
        rw [if_pos h, decide_eq_true h']; rfl
      · have h' : ¬ (lo + 1 < lo + ((m + 1 : Nat) : Int)) := by omega
        rw [if_neg h, decide_eq_false h']; rfl
    rw [r8] at t8
    rw [branch_at g (F + Q + 1) s4 _ 13 10 5 (by rw [cd t8.func]; rfl), t8.regs]
    have t9 := t8.pay
    by_cases h : 1 ≤ m
    · have x : (if (rq (lo + 1) (lo + ((m + 1 : Nat) : Int)) G 0 0 0 (C acc (B lo)) (B lo) sz 1 (if 1 ≤ m then 1 else 0)).getD (10 : Int).toNat 0 = 0 then (13 + 1 : Nat) else (5 : Int).toNat) = 5 := by rw [if_pos h]; rfl
      rw [x]
      rw [if_pos h, show lo + ((m + 1 : Nat) : Int) = lo + 1 + (m : Int) by omega] at t9
      have ih := leaf_red hb hcc hc hp hp2 m (lo + 1) (C acc (B lo)) (B lo) G sz 1 _ d g F s4 _ h (by omega) (by omega) hd (by simp [hsl]) t9 (by rw [← hQ]; omega)
      rw [← hQ] at ih
      exact ih
    · have hm0 : m = 0 := by omega
      subst hm0
      have x : (if (rq (lo + 1) (lo + ((0 + 1 : Nat) : Int)) G 0 0 0 (C acc (B lo)) (B lo) sz 1 (if 1 ≤ 0 then 1 else 0)).getD (10 : Int).toNat 0 = 0 then (13 + 1 : Nat) else (5 : Int).toNat) = 14 := rfl
      rw [x]
      obtain ⟨g, rfl⟩ : ∃ g', g = g' + 1 := ⟨g - 1, by omega⟩
      have hQ0 : Q = 0 := by rw [hQ]; omega
      obtain ⟨sp, s2, e, ef⟩ := ret_at g (F + Q) s4 _ 14 6 (by rw [cd t9.func]; rfl)
      refine ⟨sp, s2, ?_, by omega⟩
      rw [e, t9.regs]
      rfl
/-- A spawn of a task that is known by its registers. -/
theorem spawn_task {fn : Int} {regs slots : List Int} {f d V : Int} (g F w : Nat) (s : Rn) (t : Tk) (ht : IsT t f regs slots d) (at_ : Nat) (sl first : Int) (hi : (codeOf fs t.node.func)[at_]? = some ⟨5, sl, fn, first, 0⟩) (hd : d + 1 ≤ 4096)
    (h : ∀ (s' : Rn) (t' : Tk), IsT t' fn (argsV regs first.toNat (parV fs fn).toNat) (List.replicate 8 0) (d + 1) → ∃ (sp : Int) (s2 : Rn), loopV fs false g { s' with fuel := F + w } t' 0 = .done V sp s2 ∧ s2.fuel = F) :
    ∃ (sp : Int) (s2 : Rn), loopV fs false (g + 1) { s with fuel := F + w + 1 } t at_ = loopV fs false g { s2 with fuel := F } (gotT (spawnT (payT t)) sl.toNat V sp) (at_ + 1) := by
  rw [loop_spawn (g := g) (i := ⟨5, sl, fn, first, 0⟩) (by show F + w + 1 ≠ 0; omega) hi rfl]
  have hdd : (childV fs (payT t) ⟨5, sl, fn, first, 0⟩).depth = d + 1 := by show t.depth + 1 = _; rw [ht.depth]
  unfold playV
  rw [if_neg (by rw [hdd]; omega)]
  obtain ⟨sp, s2, e1, e2⟩ := h (enterS false (payS { s with fuel := F + w + 1 }) (childV fs (payT t) ⟨5, sl, fn, first, 0⟩)) (enterT (payS { s with fuel := F + w + 1 }) (childV fs (payT t) ⟨5, sl, fn, first, 0⟩)) ⟨rfl, by show argsV t.regs first.toNat (parV fs fn).toNat = _; rw [ht.regs], rfl, hdd⟩
  refine ⟨sp, s2, ?_⟩
  have es : enterS false (payS { s with fuel := F + w + 1 }) (childV fs (payT t) ⟨5, sl, fn, first, 0⟩) = { (enterS false (payS { s with fuel := F + w + 1 }) (childV fs (payT t) ⟨5, sl, fn, first, 0⟩)) with fuel := F + w } := rfl
  rw [es, e1]
  simp only
  have : s2 = { s2 with fuel := F } := by rw [← e2]
  rw [← this]
/-- A task of a range. -/
theorem range_red (hb : CallF fs bf wb (fun x _ => B x)) (hcc : CallF fs cf wc C) (hc : codeOf fs 1 = RdC bf cf u) (hp : parV fs bf = 1) (hp2 : parV fs cf = 2) (hp1 : parV fs 1 = 3) {G : Int} (hG : 1 ≤ G) {lo : Int} {m W : Nat} {V : Int} (hr : RV B C u G wb wc lo m W V) : ∀ (d : Int) (g F : Nat) (s : Rn) (t : Tk), 0 ≤ lo → lo + m ≤ 1000000 → d + m ≤ 4095 → IsT t 1 (rq lo (lo + m) G 0 0 0 0 0 0 0 0) (List.replicate 8 0) d → F + W < g →
    ∃ (sp : Int) (s2 : Rn), loopV fs false g { s with fuel := F + W } t 0 = .done V sp s2 ∧ s2.fuel = F := by
  have cd : ∀ {t' : Tk}, t'.node.func = 1 → codeOf fs t'.node.func = RdC bf cf u := fun e => by rw [e]; exact hc
  induction hr with
  | leaf lo m h1 hm =>
    intro d g F s t h0 hlo hd ht hg
    obtain ⟨g, rfl⟩ : ∃ g', g = g' + 5 := ⟨g - 5, by omega⟩
    obtain ⟨X, hX⟩ : ∃ X, X = F + m * (wb + wc + 9) + 1 := ⟨_, rfl⟩
    rw [show F + (6 + m * (wb + wc + 9)) = X + 5 by omega]
    rw [comp_at (g + 4) (X + 4) s t 0 ⟨2, 8, 1, 0, 1⟩ (by rw [cd ht.func]; rfl) (.inr (.inr (.inl rfl)))]
    have t1 := ht.arith 8 1 0 1
    have r1 : (rq lo (lo + m) G 0 0 0 0 0 0 0 0).set (8 : Int).toNat (workV 1 ((rq lo (lo + m) G 0 0 0 0 0 0 0 0).getD (1 : Int).toNat 0) ((rq lo (lo + m) G 0 0 0 0 0 0 0 0).getD (0 : Int).toNat 0)) = rq lo (lo + m) G 0 0 0 0 0 m 0 0 := by
      rw [w_sub]
      show rq lo (lo + m) G 0 0 0 0 0 (wrap64 (lo + m - lo)) 0 0 = _
      rw [show lo + (m : Int) - lo = m by omega, small64 (by omega) (by omega)]
    rw [r1] at t1
    rw [comp_at (g + 3) (X + 3) s _ 1 ⟨2, 10, 2, 8, 12⟩ (by rw [cd t1.func]; rfl) (.inr (.inr (.inl rfl)))]
    have t2 := t1.arith 10 2 8 12
    have r2 : (rq lo (lo + m) G 0 0 0 0 0 m 0 0).set (10 : Int).toNat (workV 12 ((rq lo (lo + m) G 0 0 0 0 0 m 0 0).getD (2 : Int).toNat 0) ((rq lo (lo + m) G 0 0 0 0 0 m 0 0).getD (8 : Int).toNat 0)) = rq lo (lo + m) G 0 0 0 0 0 m 0 0 := by
      rw [w_lt]
      show rq lo (lo + m) G 0 0 0 0 0 m 0 (truthV (decide (G < (m : Int)))) = _
      rw [decide_eq_false (by omega)]
      rfl
    rw [r2] at t2
    rw [branch_at (g + 2) (X + 2) s _ 2 10 15 (by rw [cd t2.func]; rfl), t2.regs]
    have t3 := t2.pay
    show ∃ (sp : Int) (s2 : Rn), loopV fs false (g + 2) { s with fuel := X + 2 } _ 3 = _ ∧ _
    rw [comp_at (g + 1) (X + 1) s _ 3 ⟨0, 6, 0, 0, u⟩ (by rw [cd t3.func]; rfl) (.inl rfl)]
    have t4 := t3.const 6 u
    rw [comp_at g X s _ 4 ⟨0, 9, 0, 0, 1⟩ (by rw [cd t4.func]; rfl) (.inl rfl)]
    have t5 := t4.const 9 1
    rw [hX]
    exact leaf_red hb hcc hc hp hp2 m lo u 0 G m 0 _ d g F s _ h1 h0 hlo (by omega) rfl t5 (by omega)
  | half lo m W1 W2 V1 V2 hm r1 r2 i1 i2 =>
    intro d g F s t h0 hlo hd ht hg
    obtain ⟨p1, _⟩ := rv_pos r1
    obtain ⟨q1, _⟩ := rv_pos r2
    obtain ⟨g, rfl⟩ : ∃ g', g = g' + 18 := ⟨g - 18, by omega⟩
    obtain ⟨X, hX⟩ : ∃ X, X = F + wc + W1 + W2 := ⟨_, rfl⟩
    rw [show F + (18 + wc + W1 + W2) = X + 18 by omega]
    rw [comp_at (g + 17) (X + 17) s t 0 ⟨2, 8, 1, 0, 1⟩ (by rw [cd ht.func]; rfl) (.inr (.inr (.inl rfl)))]
    have t1 := ht.arith 8 1 0 1
    have e1 : (rq lo (lo + m) G 0 0 0 0 0 0 0 0).set (8 : Int).toNat (workV 1 ((rq lo (lo + m) G 0 0 0 0 0 0 0 0).getD (1 : Int).toNat 0) ((rq lo (lo + m) G 0 0 0 0 0 0 0 0).getD (0 : Int).toNat 0)) = rq lo (lo + m) G 0 0 0 0 0 m 0 0 := by
      rw [w_sub]
      show rq lo (lo + m) G 0 0 0 0 0 (wrap64 (lo + m - lo)) 0 0 = _
      rw [show lo + (m : Int) - lo = m by omega, small64 (by omega) (by omega)]
    rw [e1] at t1
    rw [comp_at (g + 16) (X + 16) s _ 1 ⟨2, 10, 2, 8, 12⟩ (by rw [cd t1.func]; rfl) (.inr (.inr (.inl rfl)))]
    have t2 := t1.arith 10 2 8 12
    have e2 : (rq lo (lo + m) G 0 0 0 0 0 m 0 0).set (10 : Int).toNat (workV 12 ((rq lo (lo + m) G 0 0 0 0 0 m 0 0).getD (2 : Int).toNat 0) ((rq lo (lo + m) G 0 0 0 0 0 m 0 0).getD (8 : Int).toNat 0)) = rq lo (lo + m) G 0 0 0 0 0 m 0 1 := by
      rw [w_lt]
      show rq lo (lo + m) G 0 0 0 0 0 m 0 (truthV (decide (G < (m : Int)))) = _
      rw [decide_eq_true (by omega)]
      rfl
    rw [e2] at t2
    rw [branch_at (g + 15) (X + 15) s _ 2 10 15 (by rw [cd t2.func]; rfl), t2.regs]
    have t3 := t2.pay
    show ∃ (sp : Int) (s2 : Rn), loopV fs false (g + 15) { s with fuel := X + 15 } _ 15 = _ ∧ _
    rw [comp_at (g + 14) (X + 14) s _ 15 ⟨0, 4, 0, 0, 2⟩ (by rw [cd t3.func]; rfl) (.inl rfl)]
    have t4 := t3.const 4 2
    rw [comp_at (g + 13) (X + 13) s _ 16 ⟨2, 4, 8, 4, 3⟩ (by rw [cd t4.func]; rfl) (.inr (.inr (.inl rfl)))]
    have t5 := t4.arith 4 8 4 3
    rw [w_div] at t5
    rw [comp_at (g + 12) (X + 12) s _ 17 ⟨2, 4, 0, 4, 0⟩ (by rw [cd t5.func]; rfl) (.inr (.inr (.inl rfl)))]
    have t6 := t5.arith 4 0 4 0
    rw [w_add] at t6
    obtain ⟨Y, hY⟩ : ∃ Y, Y = lo + ((m / 2 : Nat) : Int) := ⟨_, rfl⟩
    have t6' : IsT (computeT (payT (computeT (payT (computeT (payT (payT (computeT (payT (computeT (payT t) ⟨2, 8, 1, 0, 1⟩)) ⟨2, 10, 2, 8, 12⟩))) ⟨0, 4, 0, 0, 2⟩)) ⟨2, 4, 8, 4, 3⟩)) ⟨2, 4, 0, 4, 0⟩) 1 (rq lo (lo + m) G 0 Y 0 0 0 m 0 1) (List.replicate 8 0) d := ⟨t6.func, t6.regs.trans ((mid_regs lo (lo + m) G m 2).trans (by rw [half64 lo m h0 hlo, hY])), t6.slots, t6.depth⟩
    clear t6
    rw [comp_at (g + 11) (X + 11) s _ 18 ⟨1, 3, 0, 0, 0⟩ (by rw [cd t6'.func]; rfl) (.inr (.inl rfl))]
    have t7 := t6'.move 3 0
    rw [comp_at (g + 10) (X + 10) s _ 19 ⟨1, 5, 2, 0, 0⟩ (by rw [cd t7.func]; rfl) (.inr (.inl rfl))]
    have t8 := t7.move 5 2
    obtain ⟨T8, hT8⟩ : ∃ T8, IsT T8 1 (rq lo (lo + m) G lo Y G 0 0 m 0 1) (List.replicate 8 0) d ∧ T8 = computeT (payT (computeT (payT (computeT (payT (computeT (payT (computeT (payT (payT (computeT (payT (computeT (payT t) ⟨2, 8, 1, 0, 1⟩)) ⟨2, 10, 2, 8, 12⟩))) ⟨0, 4, 0, 0, 2⟩)) ⟨2, 4, 8, 4, 3⟩)) ⟨2, 4, 0, 4, 0⟩)) ⟨1, 3, 0, 0, 0⟩)) ⟨1, 5, 2, 0, 0⟩ := ⟨_, t8, rfl⟩
    obtain ⟨u8, hT8⟩ := hT8
    rw [← hT8]
    clear t8 t7 t6' t5 t4 t3 t2 t1 hT8
    -- the left half
    obtain ⟨sp9, s9, e9⟩ := spawn_task (fs := fs) (V := V1) (fn := 1) (g + 9) (X + 9 - W1) W1 s T8 u8 20 0 3 (by rw [cd u8.func]; rfl) (by omega) (fun s' t' ht' => by
      rw [hp1] at ht'
      refine i1 (d + 1) (g + 9) (X + 9 - W1) s' t' h0 (by omega) (by omega) ⟨ht'.func, ?_, ht'.slots, ht'.depth⟩ (by omega)
      rw [ht'.regs, ← hY]
      rfl)
    rw [show X + 10 = X + 9 - W1 + W1 + 1 by omega, show g + 10 = g + 9 + 1 from rfl, e9]
    have t9 := u8.got (0 : Int).toNat V1 sp9
    obtain ⟨T9, hT9⟩ : ∃ T9, T9 = gotT (spawnT (payT T8)) (0 : Int).toNat V1 sp9 := ⟨_, rfl⟩
    rw [← hT9] at t9 ⊢
    rw [show X + 9 - W1 = X - W1 + 8 + 1 by omega, show 20 + 1 = 21 from rfl, comp_at (g + 8) (X - W1 + 8) s9 T9 21 ⟨1, 0, 4, 0, 0⟩ (by rw [cd t9.func]; rfl) (.inr (.inl rfl))]
    have t10 := t9.move 0 4
    obtain ⟨T10, u10, hT10⟩ : ∃ T10, IsT T10 1 (rq Y (lo + m) G lo Y G 0 0 m 0 1) ((List.replicate 8 (0 : Int)).set (0 : Int).toNat V1) d ∧ T10 = computeT (payT T9) ⟨1, 0, 4, 0, 0⟩ := ⟨_, t10, rfl⟩
    rw [← hT10]
    clear t10 hT10
    -- the right half
    obtain ⟨sp11, s11, e11⟩ := spawn_task (fs := fs) (V := V2) (fn := 1) (g + 7) (X - W1 - W2 + 7) W2 s9 T10 u10 22 1 0 (by rw [cd u10.func]; rfl) (by omega) (fun s' t' ht' => by
      rw [hp1] at ht'
      refine i2 (d + 1) (g + 7) (X - W1 - W2 + 7) s' t' (by omega) (by omega) (by omega) ⟨ht'.func, ?_, ht'.slots, ht'.depth⟩ (by omega)
      rw [ht'.regs, ← hY, show Y + ((m - m / 2 : Nat) : Int) = lo + m by omega]
      rfl)
    rw [show X - W1 + 8 = X - W1 - W2 + 7 + W2 + 1 by omega, show g + 8 = g + 7 + 1 from rfl, e11]
    have t11 := u10.got (1 : Int).toNat V2 sp11
    obtain ⟨T11, u11, hT11⟩ : ∃ T11, IsT T11 1 (rq Y (lo + m) G lo Y G 0 0 m 0 1) [V1, V2, 0, 0, 0, 0, 0, 0] d ∧ T11 = gotT (spawnT (payT T10)) (1 : Int).toNat V2 sp11 := ⟨_, t11, rfl⟩
    rw [← hT11]
    clear t11 hT11
    rw [show X - W1 - W2 + 7 = F + wc + 6 + 1 by omega, show 22 + 1 = 23 from rfl, sync_at (g + 6) (F + wc + 6) s11 T11 23 (by rw [cd u11.func]; rfl)]
    have t12 := u11.wait
    rw [comp_at (g + 5) (F + wc + 5) s11 _ 24 ⟨7, 6, 0, 0, 0⟩ (by rw [cd t12.func]; rfl) (.inr (.inr (.inr (.inl rfl))))]
    have t13 := t12.load 6 0
    rw [comp_at (g + 4) (F + wc + 4) s11 _ 25 ⟨7, 7, 1, 0, 0⟩ (by rw [cd t13.func]; rfl) (.inr (.inr (.inr (.inl rfl))))]
    have t14 := t13.load 7 1
    obtain ⟨T14, u14, hT14⟩ : ∃ T14, IsT T14 1 (rq Y (lo + m) G lo Y G V1 V2 m 0 1) [V1, V2, 0, 0, 0, 0, 0, 0] d ∧ T14 = computeT (payT (computeT (payT (waitT (payT T11))) ⟨7, 6, 0, 0, 0⟩)) ⟨7, 7, 1, 0, 0⟩ := ⟨_, t14, rfl⟩
    rw [← hT14]
    clear t12 t13 t14 hT14
    obtain ⟨sp15, s15, e15⟩ := spawn_call hcc (g + 3) (F + 3) s11 T14 26 0 6 (by rw [cd u14.func]; rfl) (by rw [u14.depth]; omega) (by omega)
    rw [show F + wc + 4 = F + 3 + wc + 1 by omega, show g + 4 = g + 3 + 1 from rfl, e15, hp2, u14.regs]
    have t15 := u14.got (0 : Int).toNat (C V1 V2) sp15
    obtain ⟨T15, u15, hT15⟩ : ∃ T15, IsT T15 1 (rq Y (lo + m) G lo Y G V1 V2 m 0 1) [C V1 V2, V2, 0, 0, 0, 0, 0, 0] d ∧ T15 = gotT (spawnT (payT T14)) (0 : Int).toNat (C V1 V2) sp15 := ⟨_, t15, rfl⟩
    show ∃ (sp : Int) (s2 : Rn), loopV fs false (g + 2 + 1) { s15 with fuel := F + 2 + 1 } (gotT (spawnT (payT T14)) (0 : Int).toNat (C V1 V2) sp15) 27 = _ ∧ _
    rw [← hT15]
    clear t15 hT15
    rw [sync_at (g + 2) (F + 2) s15 T15 27 (by rw [cd u15.func]; rfl)]
    have t16 := u15.wait
    rw [comp_at (g + 1) (F + 1) s15 _ 28 ⟨7, 6, 0, 0, 0⟩ (by rw [cd t16.func]; rfl) (.inr (.inr (.inr (.inl rfl))))]
    have t17 := t16.load 6 0
    obtain ⟨sp, s2, e, ef⟩ := ret_at g F s15 _ 29 6 (by rw [cd t17.func]; rfl)
    refine ⟨sp, s2, ?_, ef⟩
    rw [e, t17.regs]
    rfl
end
end Go.Proofs.YtafgkehmmfmloaaDoor
/-! The plain laws of the operations that have a unit. -/
namespace Go.PlainOps
open Go.RowKit

def sevenV (i : Int) : Int :=
  if i = 0 then 0 else if i = 1 then 2 else if i = 2 then 5 else if i = 3 then 6 else if i = 4 then 7 else if i = 5 then 10 else 11
theorem sevenV_cases (i : Int) : sevenV i = 0 ∨ sevenV i = 2 ∨ sevenV i = 5 ∨ sevenV i = 6 ∨ sevenV i = 7 ∨ sevenV i = 10 ∨ sevenV i = 11 := by
  unfold sevenV; repeat' split
  all_goals simp
theorem hasU_cases {op : Int} (h : hasU op = true) : op = 0 ∨ op = 2 ∨ op = 5 ∨ op = 6 ∨ op = 7 ∨ op = 10 ∨ op = 11 := by
  simp only [hasU, Bool.or_eq_true, beq_iff_eq] at h
  omega
theorem hasU_seven (i : Int) : hasU (sevenV i) = true := by
  rcases sevenV_cases i with h | h | h | h | h | h | h <;> rw [h] <;> rfl
theorem isOp_hasU {op : Int} (h : hasU op = true) : isOpV op = true := by
  rcases hasU_cases h with h | h | h | h | h | h | h <;> rw [h] <;> rfl

theorem workV_fits (op a b : Int) (h : hasU op = true) (ha : -9223372036854775808 ≤ a ∧ a ≤ 9223372036854775807) (hb : -9223372036854775808 ≤ b ∧ b ≤ 9223372036854775807) :
    -9223372036854775808 ≤ workV op a b ∧ workV op a b ≤ 9223372036854775807 := by
  rcases hasU_cases h with rfl | rfl | rfl | rfl | rfl | rfl | rfl
  · show _ ≤ wrap64 (a + b) ∧ wrap64 (a + b) ≤ _; unfold wrap64; omega
  · show _ ≤ wrap64 (a * b) ∧ wrap64 (a * b) ≤ _; unfold wrap64; omega
  · show _ ≤ bits .and .i64 a b ∧ bits .and .i64 a b ≤ _; rw [bits_and]; exact bv_bounds _
  · show _ ≤ bits .or .i64 a b ∧ bits .or .i64 a b ≤ _; rw [bits_or]; exact bv_bounds _
  · show _ ≤ bits .xor .i64 a b ∧ bits .xor .i64 a b ≤ _; rw [bits_xor]; exact bv_bounds _
  · show _ ≤ minV a b ∧ minV a b ≤ _; unfold minV; split <;> omega
  · show _ ≤ maxV a b ∧ maxV a b ≤ _; unfold maxV; split <;> omega
theorem workV_comm (op a b : Int) (h : hasU op = true) : workV op a b = workV op b a := by
  rcases hasU_cases h with rfl | rfl | rfl | rfl | rfl | rfl | rfl
  · show wrap64 (a + b) = wrap64 (b + a); rw [Int.add_comm]
  · show wrap64 (a * b) = wrap64 (b * a); rw [Int.mul_comm]
  · show bits .and .i64 a b = bits .and .i64 b a; rw [bits_and, bits_and, BitVec.and_comm]
  · show bits .or .i64 a b = bits .or .i64 b a; rw [bits_or, bits_or, BitVec.or_comm]
  · show bits .xor .i64 a b = bits .xor .i64 b a; rw [bits_xor, bits_xor, BitVec.xor_comm]
  · show minV a b = minV b a; unfold minV; split <;> split <;> omega
  · show maxV a b = maxV b a; unfold maxV; split <;> split <;> omega
theorem workV_assoc (op a b c : Int) (h : hasU op = true) : workV op (workV op a b) c = workV op a (workV op b c) := by
  rcases hasU_cases h with rfl | rfl | rfl | rfl | rfl | rfl | rfl
  · show wrap64 (wrap64 (a + b) + c) = wrap64 (a + wrap64 (b + c)); unfold wrap64; omega
  · show wrap64 (wrap64 (a * b) * c) = wrap64 (a * wrap64 (b * c))
    simp only [wrap64_bv, bv_mul, bv_toInt, BitVec.mul_assoc]
  · show bits .and .i64 (bits .and .i64 a b) c = bits .and .i64 a (bits .and .i64 b c)
    simp only [bits_and, bv_toInt, BitVec.and_assoc]
  · show bits .or .i64 (bits .or .i64 a b) c = bits .or .i64 a (bits .or .i64 b c)
    simp only [bits_or, bv_toInt, BitVec.or_assoc]
  · show bits .xor .i64 (bits .xor .i64 a b) c = bits .xor .i64 a (bits .xor .i64 b c)
    simp only [bits_xor, bv_toInt, BitVec.xor_assoc]
  · show minV (minV a b) c = minV a (minV b c)
    unfold minV; repeat' split
    all_goals omega
  · show maxV (maxV a b) c = maxV a (maxV b c)
    unfold maxV; repeat' split
    all_goals omega
theorem workV_unit (op a : Int) (h : hasU op = true) (h0 : -9223372036854775808 ≤ a) (h1 : a ≤ 9223372036854775807) : workV op (unitV op) a = a := by
  rcases hasU_cases h with rfl | rfl | rfl | rfl | rfl | rfl | rfl
  · show wrap64 (0 + a) = a; unfold wrap64; omega
  · show wrap64 (1 * a) = a; unfold wrap64; omega
  · show bits .and .i64 (-1) a = a
    rw [bits_and]
    have e : bv (-1) = BitVec.allOnes 64 := by decide
    rw [e, BitVec.allOnes_and, toInt_bv h0 h1]
  · show bits .or .i64 0 a = a
    rw [bits_or]
    have e : bv 0 = 0#64 := by decide
    rw [e, BitVec.zero_or, toInt_bv h0 h1]
  · show bits .xor .i64 0 a = a
    rw [bits_xor]
    have e : bv 0 = 0#64 := by decide
    rw [e, BitVec.zero_xor, toInt_bv h0 h1]
  · show minV 9223372036854775807 a = a; unfold minV; split <;> omega
  · show maxV (-9223372036854775808) a = a; unfold maxV; split <;> omega
theorem workV_unit' (op a : Int) (h : hasU op = true) (h0 : -9223372036854775808 ≤ a) (h1 : a ≤ 9223372036854775807) : workV op a (unitV op) = a := by
  rw [workV_comm op _ _ h]; exact workV_unit op a h h0 h1
theorem unitV_fits (op : Int) : -9223372036854775808 ≤ unitV op ∧ unitV op ≤ 9223372036854775807 := by
  unfold unitV; repeat' split
  all_goals omega
end Go.PlainOps
/-! Folds, as plain functions. -/
namespace Go.PlainOps
open Go.RowKit

/-- The error of a fold of n elements, or 0. -/
def foldErr (op n : Int) : Int := if isOpV op = false then 10 else if hasU op = false then 11 else if 65536 < n then 2 else 0
def foldK (op : Int) (zs : List Int) (k : Nat) : Int := (zs.take k).foldl (workV op) (unitV op)
def foldV (op : Int) (zs : List Int) : Int := zs.foldl (workV op) (unitV op)
theorem foldK_zero (op : Int) (zs : List Int) : foldK op zs 0 = unitV op := by simp [foldK]
theorem foldK_succ (op : Int) (zs : List Int) (k : Nat) (hk : k < zs.length) : workV op (foldK op zs k) (zs.getD k 0) = foldK op zs (k + 1) := by
  unfold foldK
  rw [List.take_succ_eq_append_getElem hk, List.foldl_append]
  simp [List.getD, List.getElem?_eq_getElem hk]
theorem foldK_end (op : Int) (zs : List Int) (k : Nat) (hk : zs.length ≤ k) : foldK op zs k = foldV op zs := by
  unfold foldK foldV; rw [List.take_of_length_le hk]
/-- The fold by halves, with fuel. -/
def treeN (op : Int) : Nat → List Int → Int
  | 0, _ => 0
  | _, [x] => x
  | f + 1, zs => workV op (treeN op f (zs.take (zs.length / 2))) (treeN op f (zs.drop (zs.length / 2)))
def treeV (op : Int) (zs : List Int) : Int := treeN op zs.length zs
theorem treeN_one (op x : Int) (f : Nat) : treeN op (f + 1) [x] = x := by simp [treeN]
theorem treeN_more (op : Int) (f : Nat) (zs : List Int) (h : 2 ≤ zs.length) : treeN op (f + 1) zs = workV op (treeN op f (zs.take (zs.length / 2))) (treeN op f (zs.drop (zs.length / 2))) := by
  match zs, h with
  | _ :: _ :: _, _ => rw [treeN]; simp
theorem treeN_fuel (op : Int) : ∀ (n : Nat) (zs : List Int), zs.length = n → 1 ≤ n → ∀ f, n ≤ f → treeN op f zs = treeN op n zs := by
  intro n
  induction n using Nat.strongRecOn with
  | ind n ih =>
    intro zs hz h1 f hf
    match n, f, h1, hf with
    | n + 1, f + 1, _, hf =>
      by_cases h2 : zs.length = 1
      · match zs, h2 with
        | [x], _ => rw [treeN_one, treeN_one]
      · rw [treeN_more op f zs (by omega), treeN_more op n zs (by omega)]
        have l1 : (zs.take (zs.length / 2)).length = zs.length / 2 := by rw [List.length_take]; omega
        have l2 : (zs.drop (zs.length / 2)).length = zs.length - zs.length / 2 := by rw [List.length_drop]
        rw [ih _ (by omega) _ l1 (by omega) f (by omega), ih _ (by omega) _ l1 (by omega) n (by omega), ih _ (by omega) _ l2 (by omega) f (by omega), ih _ (by omega) _ l2 (by omega) n (by omega)]
theorem treeV_one (op x : Int) : treeV op [x] = x := by unfold treeV; exact treeN_one op x 0
theorem treeV_more (op : Int) (zs : List Int) (h : 2 ≤ zs.length) : treeV op zs = workV op (treeV op (zs.take (zs.length / 2))) (treeV op (zs.drop (zs.length / 2))) := by
  unfold treeV
  obtain ⟨n, hn⟩ : ∃ n, zs.length = n + 1 := ⟨zs.length - 1, by omega⟩
  have l1 : (zs.take (zs.length / 2)).length = zs.length / 2 := by rw [List.length_take]; omega
  have l2 : (zs.drop (zs.length / 2)).length = zs.length - zs.length / 2 := by rw [List.length_drop]
  conv => lhs; rw [hn]
  rw [treeN_more op n zs h]
  rw [treeN_fuel op _ _ l1 (by omega) n (by omega), treeN_fuel op _ _ l2 (by omega) n (by omega)]
  rw [l1, l2]

/-! Where the operation has a unit, a list may be cut anywhere. -/
def Fits (zs : List Int) : Prop := ∀ x ∈ zs, -9223372036854775808 ≤ x ∧ x ≤ 9223372036854775807
theorem foldl_fits (op : Int) (h : hasU op = true) : ∀ (zs : List Int) (u : Int), Fits zs → (-9223372036854775808 ≤ u ∧ u ≤ 9223372036854775807) → -9223372036854775808 ≤ zs.foldl (workV op) u ∧ zs.foldl (workV op) u ≤ 9223372036854775807
  | [], _, _, hu => hu
  | x :: r, u, hz, hu => foldl_fits op h r _ (fun y hy => hz y (List.mem_cons_of_mem _ hy)) (workV_fits op u x h hu (hz x (List.mem_cons_self ..)))
theorem foldV_fits (op : Int) (h : hasU op = true) (zs : List Int) (hz : Fits zs) : -9223372036854775808 ≤ foldV op zs ∧ foldV op zs ≤ 9223372036854775807 := foldl_fits op h zs _ hz (unitV_fits op)
theorem foldl_out (op : Int) (h : hasU op = true) : ∀ (zs : List Int) (u : Int), Fits zs → (-9223372036854775808 ≤ u ∧ u ≤ 9223372036854775807) → zs.foldl (workV op) u = workV op u (foldV op zs)
  | [], u, _, hu => by rw [List.foldl_nil]; exact (workV_unit' op u h hu.1 hu.2).symm
  | x :: r, u, hz, hu => by
    have hx := hz x (List.mem_cons_self ..)
    have hr : Fits r := fun y hy => hz y (List.mem_cons_of_mem _ hy)
    rw [List.foldl_cons, foldl_out op h r _ hr (workV_fits op u x h hu hx), workV_assoc op u x _ h]
    congr 1
    unfold foldV
    rw [List.foldl_cons, workV_unit op x h hx.1 hx.2]
    exact (foldl_out op h r x hr hx).symm
theorem foldV_append (op : Int) (h : hasU op = true) (xs ys : List Int) (hx : Fits xs) (hy : Fits ys) : foldV op (xs ++ ys) = workV op (foldV op xs) (foldV op ys) := by
  have e : foldV op (xs ++ ys) = ys.foldl (workV op) (foldV op xs) := by unfold foldV; rw [List.foldl_append]
  rw [e]
  exact foldl_out op h ys _ hy (foldV_fits op h xs hx)
theorem Fits.take {zs : List Int} (h : Fits zs) (k : Nat) : Fits (zs.take k) := fun x hx => h x (List.mem_of_mem_take hx)
theorem Fits.drop {zs : List Int} (h : Fits zs) (k : Nat) : Fits (zs.drop k) := fun x hx => h x (List.mem_of_mem_drop hx)
theorem foldV_cut (op : Int) (h : hasU op = true) (zs : List Int) (hz : Fits zs) (k : Nat) : workV op (foldV op (zs.take k)) (foldV op (zs.drop k)) = foldV op zs := by
  rw [← foldV_append op h _ _ (hz.take k) (hz.drop k), List.take_append_drop]
theorem treeV_foldV (op : Int) (h : hasU op = true) : ∀ (n : Nat) (zs : List Int), zs.length = n → 1 ≤ n → Fits zs → treeV op zs = foldV op zs := by
  intro n
  induction n using Nat.strongRecOn with
  | ind n ih =>
    intro zs hz h1 hf
    by_cases h2 : zs.length = 1
    · match zs, h2 with
      | [x], _ =>
        have hx := hf x (List.mem_cons_self ..)
        rw [treeV_one]; unfold foldV
        rw [List.foldl_cons, List.foldl_nil, workV_unit op x h hx.1 hx.2]
    · have l1 : (zs.take (zs.length / 2)).length = zs.length / 2 := by rw [List.length_take]; omega
      have l2 : (zs.drop (zs.length / 2)).length = zs.length - zs.length / 2 := by rw [List.length_drop]
      rw [treeV_more op zs (by omega), ih _ (by omega) _ l1 (by omega) (hf.take _), ih _ (by omega) _ l2 (by omega) (hf.drop _)]
      exact foldV_cut op h zs hf _
end Go.PlainOps
/-! What Reduce's program comes to; the fold from the left. -/
namespace Go.Proofs.YtafgkehmmfmloaaDoor
set_option linter.unusedVariables false
set_option maxRecDepth 20000
open Go.RowKit Go.PlainOps

section
variable {fs : List Fn} {bf cf : Int} {wb wc : Nat} {B : Int → Int} {C : Int → Int → Int} {u : Int}
def eq7 (x0 x1 x2 x3 x4 x5 x6 : Int) : List Int := [x0, x1, x2, x3, x4, x5, x6, 0, 0, 0, 0, 0, 0, 0, 0, 0]
theorem maxV_ge (x : Int) : 1 ≤ maxV x 1 := by
  unfold maxV
  split <;> omega
theorem red_root (n gr : Int) (F : Nat) : ∃ (s : Rn) (t : Tk), runV fs false [n, gr] F = loopV fs false (F + 1) { s with fuel := F } t 0 ∧ IsT t 0 (eq7 n gr 0 0 0 0 0) (List.replicate 8 0) 1 := by
  refine ⟨enterS false (startS F) (rootT [n, gr]), enterT (startS F) (rootT [n, gr]), ?_, ⟨rfl, rfl, rfl, rfl⟩⟩
  unfold runV playV
  rw [if_neg (by simp [rootT])]
  rfl
/-- The entry's first four instructions. -/
theorem red_ahead (he : codeOf fs 0 = entC u) (g F : Nat) (s : Rn) (t : Tk) (n gr : Int) (ht : IsT t 0 (eq7 n gr 0 0 0 0 0) (List.replicate 8 0) 1) :
    ∃ t', IsT t' 0 (eq7 n gr 0 0 0 u (truthV (decide (n ≤ 0)))) (List.replicate 8 0) 1 ∧ loopV fs false (g + 4) { s with fuel := F + 4 } t 0 = loopV fs false g { s with fuel := F } t' (if n ≤ 0 then 10 else 4) := by
  have cd : ∀ {t' : Tk}, t'.node.func = 0 → codeOf fs t'.node.func = entC u := fun e => by rw [e]; exact he
  rw [comp_at (g + 3) (F + 3) s t 0 ⟨0, 5, 0, 0, u⟩ (by rw [cd ht.func]; rfl) (.inl rfl)]
  have t1 := ht.const 5 u
  rw [comp_at (g + 2) (F + 2) s _ 1 ⟨0, 2, 0, 0, 0⟩ (by rw [cd t1.func]; rfl) (.inl rfl)]
  have t2 := t1.const 2 0
  rw [comp_at (g + 1) (F + 1) s _ 2 ⟨2, 6, 0, 2, 13⟩ (by rw [cd t2.func]; rfl) (.inr (.inr (.inl rfl)))]
  have t3 := t2.arith 6 0 2 13
  rw [w_le] at t3
  rw [branch_at g F s _ 3 6 10 (by rw [cd t3.func]; rfl), t3.regs]
  refine ⟨_, ⟨t3.pay.func, t3.pay.regs.trans rfl, t3.pay.slots, t3.pay.depth⟩, ?_⟩
  have e3 : (if truthV (decide (n ≤ 0)) = 0 then (3 + 1 : Nat) else 10) = (if n ≤ 0 then 10 else 4) := by
    by_cases h : n ≤ 0
    · rw [if_pos h, decide_eq_true h]; rfl
    · rw [if_neg h, decide_eq_false h]; rfl
  rw [← e3]
  rfl
theorem red_none (he : codeOf fs 0 = entC u) (n gr : Int) (hn : n ≤ 0) (F : Nat) : ∃ (sp : Int) (s2 : Rn), runV fs false [n, gr] (F + 5) = .done u sp s2 ∧ s2.fuel = F := by
  obtain ⟨s, t, e, ht⟩ := red_root (fs := fs) n gr (F + 5)
  obtain ⟨t', ht', e'⟩ := red_ahead he (F + 2) (F + 1) s t n gr ht
  rw [e, show F + 5 + 1 = F + 2 + 4 by omega, show F + 5 = F + 1 + 4 by omega, e', if_pos hn]
  obtain ⟨sp, s2, e2, ef⟩ := ret_at (fs := fs) (F + 1) F s t' 10 5 (by rw [ht'.func, he]; rfl)
  refine ⟨sp, s2, ?_, ef⟩
  rw [e2, ht'.regs]
  rfl
theorem red_some (hb : CallF fs bf wb (fun x _ => B x)) (hcc : CallF fs cf wc C) (he : codeOf fs 0 = entC u) (hc : codeOf fs 1 = RdC bf cf u) (hp : parV fs bf = 1) (hp2 : parV fs cf = 2) (hp1 : parV fs 1 = 3) (gr : Int) {m W : Nat} {V : Int} (hm : m ≤ 4000) (hr : RV B C u (maxV gr 1) wb wc 0 m W V) (F : Nat) :
    ∃ (sp : Int) (s2 : Rn), runV fs false [(m : Int), gr] (F + W + 11) = .done V sp s2 ∧ s2.fuel = F := by
  obtain ⟨p1, p2⟩ := rv_pos hr
  have cd : ∀ {t' : Tk}, t'.node.func = 0 → codeOf fs t'.node.func = entC u := fun e => by rw [e]; exact he
  obtain ⟨s, t, e, ht⟩ := red_root (fs := fs) (m : Int) gr (F + W + 11)
  obtain ⟨t0, ht0, e'⟩ := red_ahead he (F + W + 8) (F + W + 7) s t (m : Int) gr ht
  rw [e, show F + W + 11 + 1 = F + W + 8 + 4 by omega, show F + W + 11 = F + W + 7 + 4 by omega, e', if_neg (by omega)]
  rw [decide_eq_false (by omega : ¬ (m : Int) ≤ 0)] at ht0
  rw [show F + W + 8 = (F + W + 1) + 7 by omega, show F + W + 7 = F + W + 6 + 1 by omega]
  rw [comp_at (F + W + 1 + 6) (F + W + 6) s t0 4 ⟨0, 4, 0, 0, 1⟩ (by rw [cd ht0.func]; rfl) (.inl rfl)]
  have t1 := ht0.const 4 1
  rw [comp_at (F + W + 1 + 5) (F + W + 5) s _ 5 ⟨2, 4, 1, 4, 11⟩ (by rw [cd t1.func]; rfl) (.inr (.inr (.inl rfl)))]
  have t2 := t1.arith 4 1 4 11
  rw [w_max] at t2
  rw [comp_at (F + W + 1 + 4) (F + W + 4) s _ 6 ⟨1, 3, 0, 0, 0⟩ (by rw [cd t2.func]; rfl) (.inr (.inl rfl))]
  have t3 := t2.move 3 0
  obtain ⟨G, hG⟩ : ∃ G, G = maxV gr 1 := ⟨_, rfl⟩
  have hG1 : 1 ≤ G := by rw [hG]; exact maxV_ge gr
  obtain ⟨T3, u3, hT3⟩ : ∃ T3, IsT T3 0 (eq7 (m : Int) gr 0 m G u 0) (List.replicate 8 0) 1 ∧ T3 = computeT (payT (computeT (payT (computeT (payT t0) ⟨0, 4, 0, 0, 1⟩)) ⟨2, 4, 1, 4, 11⟩)) ⟨1, 3, 0, 0, 0⟩ := ⟨_, ⟨t3.func, by rw [t3.regs, hG]; rfl, t3.slots, t3.depth⟩, rfl⟩
  rw [← hT3]
  clear t1 t2 t3 hT3
  rw [← hG] at hr
  obtain ⟨sp4, s4, e4⟩ := spawn_task (fs := fs) (V := V) (fn := 1) (F + W + 1 + 3) (F + 3) W s T3 u3 7 0 2 (by rw [cd u3.func]; rfl) (by omega) (fun s' t' ht' => by
    rw [hp1] at ht'
    refine range_red hb hcc hc hp hp2 hp1 hG1 hr (1 + 1) (F + W + 1 + 3) (F + 3) s' t' (by omega) (by omega) (by omega) ⟨ht'.func, ?_, ht'.slots, ht'.depth⟩ (by omega)
    rw [ht'.regs, Int.zero_add]
    rfl)
  rw [show F + W + 4 = F + 3 + W + 1 by omega, show F + W + 1 + 4 = F + W + 1 + 3 + 1 from rfl, e4]
  have t4 := u3.got (0 : Int).toNat V sp4
  obtain ⟨T4, u4, hT4⟩ : ∃ T4, IsT T4 0 (eq7 (m : Int) gr 0 m G u 0) [V, 0, 0, 0, 0, 0, 0, 0] 1 ∧ T4 = gotT (spawnT (payT T3)) (0 : Int).toNat V sp4 := ⟨_, t4, rfl⟩
  rw [← hT4]
  clear t4 hT4
  rw [show F + 3 = F + 2 + 1 by omega, show 7 + 1 = 8 from rfl, show F + W + 1 + 3 = F + W + 1 + 2 + 1 from rfl, sync_at (F + W + 1 + 2) (F + 2) s4 T4 8 (by rw [cd u4.func]; rfl)]
  have t5 := u4.wait
  rw [comp_at (F + W + 1 + 1) (F + 1) s4 _ 9 ⟨7, 5, 0, 0, 0⟩ (by rw [cd t5.func]; rfl) (.inr (.inr (.inr (.inl rfl))))]
  have t6 := t5.load 5 0
  obtain ⟨sp, s2, e6, ef⟩ := ret_at (fs := fs) (F + W + 1) F s4 _ 10 5 (by rw [cd t6.func]; rfl)
  refine ⟨sp, s2, ?_, ef⟩
  rw [e6, t6.regs]
  rfl
end
/-! ### The fold from the left -/
def listF (B : Int → Int) (lo : Int) (m : Nat) : List Int := (List.range m).map (fun j : Nat => B (lo + (j : Int)))
theorem listF_succ (B : Int → Int) (lo : Int) (m : Nat) : listF B lo (m + 1) = B lo :: listF B (lo + 1) m := by
  unfold listF
  rw [List.range_succ_eq_map, List.map_cons, List.map_map]
  congr 1
  · simp
  · apply List.map_congr_left
    intro j _
    show B (lo + ((j + 1 : Nat) : Int)) = B (lo + 1 + (j : Int))
    congr 1
    omega
theorem listF_add (B : Int → Int) (lo : Int) (m n : Nat) : listF B lo (m + n) = listF B lo m ++ listF B (lo + m) n := by
  induction m generalizing lo with
  | zero => simp [listF]
  | succ m ih =>
    rw [show m + 1 + n = (m + n) + 1 by omega, listF_succ, listF_succ, ih (lo + 1), List.cons_append]
    rw [show lo + 1 + (m : Int) = lo + ((m + 1 : Nat) : Int) by omega]
theorem leafF_fold (B : Int → Int) (C : Int → Int → Int) : ∀ (m : Nat) (acc lo : Int), leafF B C acc lo m = (listF B lo m).foldl C acc
  | 0, acc, lo => rfl
  | m + 1, acc, lo => by
    rw [listF_succ, List.foldl_cons, leafF, leafF_fold B C m]
theorem rv_fold {B : Int → Int} {op G : Int} {wb wc : Nat} (hu : hasU op = true) (hB : ∀ x, -9223372036854775808 ≤ B x ∧ B x ≤ 9223372036854775807) {lo : Int} {m W : Nat} {V : Int} (h : RV B (workV op) (unitV op) G wb wc lo m W V) : V = foldV op (listF B lo m) := by
  have hf : ∀ lo m, Fits (listF B lo m) := fun lo m x hx => by
    unfold listF at hx
    obtain ⟨j, _, rfl⟩ := List.mem_map.1 hx
    exact hB _
  induction h with
  | leaf lo m h1 hm => rw [leafF_fold]; rfl
  | half lo m W1 W2 V1 V2 hm r1 r2 i1 i2 =>
    rw [i1, i2, ← foldV_append op hu _ _ (hf _ _) (hf _ _), ← listF_add, show m / 2 + (m - m / 2) = m by omega]
end Go.Proofs.YtafgkehmmfmloaaDoor
/-! parlib.Fold: leaves and ranges. -/
namespace Go.Proofs.YtafgkehmmfmloaaDoor
set_option linter.unusedVariables false
set_option maxRecDepth 20000
open Go.RowKit Go.HeapKit Go.PlainOps

theorem leafF_snoc (B : Int → Int) (C : Int → Int → Int) : ∀ (j : Nat) (u lo : Int), leafF B C u lo (j + 1) = C (leafF B C u lo j) (B (lo + (j : Int)))
  | 0, u, lo => by show C u (B lo) = C u (B (lo + ((0 : Nat) : Int))); simp
  | j + 1, u, lo => by
    show leafF B C (C u (B lo)) (lo + 1) (j + 1) = C (leafF B C (C u (B lo)) (lo + 1) j) (B (lo + ((j + 1 : Nat) : Int)))
    rw [leafF_snoc B C j (C u (B lo)) (lo + 1), show lo + 1 + (j : Int) = lo + ((j + 1 : Nat) : Int) by omega]
theorem leafF_ok {B : Int → Int} {C : Int → Int → Int} (hB : ∀ x, okI x → okI (B x)) (hC : ∀ a b, okI a → okI b → okI (C a b)) {u : Int} (hu : okI u) (lo : Int) (h0 : 0 ≤ lo) : ∀ (j : Nat), lo + (j : Int) ≤ 1000000 → okI (leafF B C u lo j)
  | 0, _ => hu
  | j + 1, h => by
    rw [leafF_snoc]
    exact hC _ _ (leafF_ok hB hC hu lo h0 j (by omega)) (hB _ (by unfold okI; omega))
/-- What the two programs of a fold come to. -/
structure Two2 (lb lc : List Fn) (wb wc : Nat) (B : Int → Int) (C : Int → Int → Int) : Prop where
  b : ∀ (x : Int) (F : Nat), okI x → wb ≤ F → F ≤ 4194304 → ∃ T dd sp : Int, evalV lb [x] (F : Int) = (⟨B x, wb, T, dd, sp⟩, 0)
  c : ∀ (x y : Int) (F : Nat), okI x → okI y → wc ≤ F → F ≤ 4194304 → ∃ T dd sp : Int, evalV lc [x, y] (F : Int) = (⟨C x y, wc, T, dd, sp⟩, 0)
  okb : ∀ x, okI x → okI (B x)
  okc : ∀ x y, okI x → okI y → okI (C x y)
  fb : ∀ f ∈ lb, f.Ok
  fc : ∀ f ∈ lc, f.Ok
/-- A fold in memory, with its two programs. -/
structure Fo (w0 w : World) (X : Nat) (ab : Option Addr) (nb cb : Nat) (ac : Option Addr) (nc cc : Nat) (lb lc : List Fn) (u G : Int) (F : Nat) : Prop where
  fd : IsFd w X (.slice ab nb cb) (.slice ac nc cc) u G (F : Int)
  keep : Keeps (· = X) w0 w
  tabs : ∀ w', Keeps (· = X) w0 w' → Tabs w'
  sb : ∀ w', Keeps (· = X) w0 w' → SeenF w' ab nb lb
  sc : ∀ w', Keeps (· = X) w0 w' → SeenF w' ac nc lc
theorem Fo.next {w0 w w' : World} {X : Nat} {ab : Option Addr} {nb cb : Nat} {ac : Option Addr} {nc cc : Nat} {lb lc : List Fn} {u G : Int} {F F' : Nat} (h : Fo w0 w X ab nb cb ac nc cc lb lc u G F) (hd : IsFd w' X (.slice ab nb cb) (.slice ac nc cc) u G (F' : Int)) (hk : Keeps (· = X) w w') : Fo w0 w' X ab nb cb ac nc cc lb lc u G F' :=
  ⟨hd, h.keep.trans hk (fun _ e _ => e), h.tabs, h.sb, h.sc⟩
/-- A call of the body, of the combining one. -/
theorem fo_body {w0 w : World} {X : Nat} {ab : Option Addr} {nb cb : Nat} {ac : Option Addr} {nc cc : Nat} {lb lc : List Fn} {u G : Int} {F : Nat} {wb wc : Nat} {B : Int → Int} {C : Int → Int → Int} (h2 : Two2 lb lc wb wc B C) (h : Fo w0 w X ab nb cb ac nc cc lb lc u G F) (x : Int) (hx : okI x) (hF : wb ≤ F) (hF2 : F ≤ 4194304) :
    Calls Tryd.prog 58 #[.pointer (some ⟨X, 0, none⟩), .agg #[.slice ab nb cb], .slice (some ⟨w.heap.size, 0, none⟩) 1 1] (w.alloc (.cells #[.int .i64 x] 2)) fun e w' => e = .returned (.tuple #[.int .i64 (B x), .int .i64 0]) ∧ Fo w0 w' X ab nb cb ac nc cc lb lc u G (F - wb) ∧ Keeps (· = X) w w' := by
  obtain ⟨T, dd, sp, he⟩ := h2.b x F hx hF hF2
  have hal := Keeps.alloc None w (.cells (ints [x]).toArray 2)
  have hza := seen_args (l := [x]) (heap_alloc_new w (.cells (ints [x]).toArray 2)) (fun y hy => by simp at hy; subst hy; exact hx) (by simp)
  have k0 : Keeps (· = X) w0 (w.alloc (.cells (ints [x]).toArray 2)) := h.keep.trans hal (fun _ f _ => f.elim)
  have hfd := blk_kept h.fd hal (fun f => f)
  refine (fcall_any X _ _ u G (F : Int) ab nb cb lb (some ⟨w.heap.size, 0, none⟩) 1 1 [x] (B x) wb T dd sp (w.alloc (.cells (ints [x]).toArray 2)) (h.tabs _ k0) hfd (h.sb _ k0) h2.fb hza (by omega) (by unfold okI; omega) (by unfold okI; omega) he).mono ?_
  rintro e w' ⟨rfl, hd, hk⟩
  have hk2 : Keeps (· = X) w w' := (hal.mono (T := (· = X)) (fun _ f _ => f.elim)).trans hk (fun _ e _ => e)
  refine ⟨rfl, h.next (F' := F - wb) ?_ hk2, hk2⟩
  rw [show ((F - wb : Nat) : Int) = (F : Int) - wb by omega]
  exact hd
theorem fo_comb {w0 w : World} {X : Nat} {ab : Option Addr} {nb cb : Nat} {ac : Option Addr} {nc cc : Nat} {lb lc : List Fn} {u G : Int} {F : Nat} {wb wc : Nat} {B : Int → Int} {C : Int → Int → Int} (h2 : Two2 lb lc wb wc B C) (h : Fo w0 w X ab nb cb ac nc cc lb lc u G F) (x y : Int) (hx : okI x) (hy : okI y) (hF : wc ≤ F) (hF2 : F ≤ 4194304) :
    Calls Tryd.prog 58 #[.pointer (some ⟨X, 0, none⟩), .agg #[.slice ac nc cc], .slice (some ⟨w.heap.size, 0, none⟩) 2 2] (w.alloc (.cells #[.int .i64 x, .int .i64 y] 2)) fun e w' => e = .returned (.tuple #[.int .i64 (C x y), .int .i64 0]) ∧ Fo w0 w' X ab nb cb ac nc cc lb lc u G (F - wc) ∧ Keeps (· = X) w w' := by
  obtain ⟨T, dd, sp, he⟩ := h2.c x y F hx hy hF hF2
  have hal := Keeps.alloc None w (.cells (ints [x, y]).toArray 2)
  have hza := seen_args (l := [x, y]) (heap_alloc_new w (.cells (ints [x, y]).toArray 2)) (fun z hz => by simp at hz; rcases hz with rfl | rfl; exact hx; exact hy) (by simp)
  have k0 : Keeps (· = X) w0 (w.alloc (.cells (ints [x, y]).toArray 2)) := h.keep.trans hal (fun _ f _ => f.elim)
  have hfd := blk_kept h.fd hal (fun f => f)
  refine (fcall_any X _ _ u G (F : Int) ac nc cc lc (some ⟨w.heap.size, 0, none⟩) 2 2 [x, y] (C x y) wc T dd sp (w.alloc (.cells (ints [x, y]).toArray 2)) (h.tabs _ k0) hfd (h.sc _ k0) h2.fc hza (by omega) (by unfold okI; omega) (by unfold okI; omega) he).mono ?_
  rintro e w' ⟨rfl, hd, hk⟩
  have hk2 : Keeps (· = X) w w' := (hal.mono (T := (· = X)) (fun _ f _ => f.elim)).trans hk (fun _ e _ => e)
  refine ⟨rfl, h.next (F' := F - wc) ?_ hk2, hk2⟩
  rw [show ((F - wc : Nat) : Int) = (F : Int) - wc by omega]
  exact hd
set_option maxHeartbeats 2000000 in
theorem fleaf_any {w0 : World} {X : Nat} {ab : Option Addr} {nb cb : Nat} {ac : Option Addr} {nc cc : Nat} {lb lc : List Fn} {u G : Int} {F : Nat} {wb wc : Nat} {B : Int → Int} {C : Int → Int → Int} (h2 : Two2 lb lc wb wc B C) (w : World) (h : Fo w0 w X ab nb cb ac nc cc lb lc u G F) (lo : Int) (m : Nat) (hu : okI u) (h0 : 0 ≤ lo) (h1 : lo + m ≤ 1000000) (hF : m * (wb + wc) ≤ F) (hF2 : F ≤ 4194304) :
    Calls Tryd.prog 57 #[.pointer (some ⟨X, 0, none⟩), .int .i64 lo, .int .i64 (lo + m)] w fun e w' => e = .returned (.tuple #[.int .i64 (leafF B C u lo m), .int .i64 0]) ∧ Fo w0 w' X ab nb cb ac nc cc lb lc u G (F - m * (wb + wc)) ∧ Keeps (· = X) w w' := by
  obtain ⟨hi, hhi⟩ : ∃ hi, hi = lo + (m : Int) := ⟨_, rfl⟩
  rw [← hhi]
  obtain ⟨R, hR⟩ : ∃ R, R = leafF B C u lo m := ⟨_, rfl⟩
  rw [← hR]
  have c2 : w.cell? ⟨X, 2, none⟩ = some (.int .i64 u) := (blk_cell h.fd 2).trans rfl
  have HX : Hid (Two2 lb lc wb wc B C ∧ Fo w0 w X ab nb cb ac nc cc lb lc u G F ∧ hi = lo + (m : Int) ∧ R = leafF B C u lo m ∧ m * (wb + wc) ≤ F ∧ F ≤ 4194304 ∧ okI u) := ⟨h2, h, hhi, hR, hF, hF2, hu⟩
  have ihi : hi ≤ 1000000 := by omega
  clear h2 h hhi hR hF hF2 hu
  go_enter Tryd.func57, Tryd.ntmps57
  go_wp2_with fail
  clear c2
  go_loopw [8, 9, 10, 11] (fun s8 s9 _ _ wr => ∃ (j : Nat) (acc at_ : Int), j ≤ m ∧ s9 = .int .i64 at_ ∧ s8 = .int .i64 acc ∧ at_ = lo + (j : Int) ∧ acc = leafF B C u lo j ∧ Fo w0 wr X ab nb cb ac nc cc lb lc u G (F - j * (wb + wc)) ∧ Keeps (· = X) w wr) (fun _ i _ _ _ => (hi - intOf i).toNat)
  case atStart => exact ⟨0, u, lo, Nat.zero_le _, rfl, rfl, by simp, rfl, by simpa using HX.out.2.1, Keeps.refl _ _⟩
  case round =>
    obtain ⟨j, acc, at_, hj, rfl, rfl, hat, hacc, hfo, hkp⟩ := hrel
    obtain ⟨X1, X2, X3, X4, X5, X6, X7⟩ := HX.out
    by_cases hjm : j < m
    · have i1 : at_ < hi := by omega
      have i2 : at_ ≤ 1000000 := by omega
      have i3 : 0 ≤ at_ := by omega
      have hmul : (j + 1) * (wb + wc) ≤ m * (wb + wc) := Nat.mul_le_mul_right _ (by omega)
      have hsucc : (j + 1) * (wb + wc) = j * (wb + wc) + (wb + wc) := Nat.succ_mul _ _
      have hok1 : okI at_ := by unfold okI; omega
      have hb := fo_body X1 hfo at_ hok1 (by omega) (by omega)
      have hok2 : okI acc := by rw [hacc]; exact leafF_ok X1.okb X1.okc X7 _ h0 _ (by omega)
      have y0 : wr.cell? ⟨X, 0, none⟩ = some (.slice ab nb cb) := (blk_cell hfo.fd 0).trans rfl
      have HB : Hid (at_ = lo + (j : Int) ∧ acc = leafF B C u lo j ∧ Keeps (· = X) w wr) := ⟨hat, hacc, hkp⟩
      clear hat hacc hkp hfo X2 X3 X4 X7
      go_wp2_with fail
      refine hb.mono ?_
      rintro _ w2 ⟨rfl, fo2, k2⟩
      clear hb y0
      have hc := fo_comb X1 fo2 acc (B at_) hok2 (X1.okb _ hok1) (by omega) (by omega)
      have y1 : w2.cell? ⟨X, 1, none⟩ = some (.slice ac nc cc) := (blk_cell fo2.fd 1).trans rfl
      have HB2 : Hid (Keeps (· = X) w w2) := HB.out.2.2.trans k2 (fun _ e _ => e)
      clear k2 fo2
      go_wp2_with fail
      refine hc.mono ?_
      rintro _ w3 ⟨rfl, fo3, k3⟩
      clear hc y1
      have HZ : Hid (Fo w0 w3 X ab nb cb ac nc cc lb lc u G (F - (j + 1) * (wb + wc)) ∧ Keeps (· = X) w w3 ∧ C acc (B at_) = leafF B C u lo (j + 1) ∧ at_ + 1 = lo + ((j + 1 : Nat) : Int)) := by
        refine ⟨?_, HB2.out.trans k3 (fun _ e _ => e), ?_, ?_⟩
        · rw [show F - (j + 1) * (wb + wc) = F - j * (wb + wc) - wb - wc by omega]
          exact fo3
        · rw [leafF_snoc, HB.out.1, HB.out.2.1]
        · have := HB.out.1; omega
      clear fo3 k3 X1 hok1 hok2
      go_wp2
      exact ⟨⟨j + 1, _, at_ + 1, by omega, by simp, rfl, HZ.out.2.2.2, HZ.out.2.2.1, HZ.out.1, HZ.out.2.1⟩, by simp [intOf]; omega⟩
    · have i1 : ¬ (at_ < hi) := by omega
      obtain rfl : j = m := by omega
      have HZ : Hid (Fo w0 wr X ab nb cb ac nc cc lb lc u G (F - j * (wb + wc)) ∧ Keeps (· = X) w wr ∧ acc = R) := ⟨hfo, hkp, by rw [X4, hacc]⟩
      clear hfo hkp hacc hat X1 X2 X3 X4 X5 X6 X7
      go_wp2
      go_ret2
      exact ⟨by rw [← HZ.out.2.2]; rfl, HZ.out.1, HZ.out.2.1⟩
end Go.Proofs.YtafgkehmmfmloaaDoor
