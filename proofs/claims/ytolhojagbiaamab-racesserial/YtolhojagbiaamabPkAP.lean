import Derived.Test.YtolhojagbiaamabPkAO
import Derived.WalkKit
import Derived.ProofKit
import Derived.OpenShut
import Derived.Deep.Slices
import Derived.Test.YtolhojagbiaamabPkAA
/-! What is told of the first deeds of a list. -/
namespace Go.Proofs.Ytolhojagbiaamab
set_option linter.unusedVariables false
set_option maxRecDepth 20000
set_option linter.unusedSimpArgs false
open Go.RowKit Go.HeapKit

theorem least_ofP {P : Nat → Prop} (N : Nat) : (∀ n, n < N → ¬ P n) ∨ ∃ n, n < N ∧ P n ∧ ∀ k, k < n → ¬ P k := by
  induction N with
  | zero => exact .inl (fun n h => by omega)
  | succ N ih =>
    rcases ih with ih | ⟨n, h1, h2⟩
    · by_cases h : P N
      · exact .inr ⟨N, by omega, h, ih⟩
      · refine .inl (fun n hn hp => ?_)
        by_cases e : n = N
        · subst e; exact h hp
        · exact ih n (by omega) hp
    · exact .inr ⟨n, by omega, h2⟩
/-- There is a first race, or none. -/
theorem first_casesP (l : List Dd) : (∃ n m, FirstP l n m) ∨ ∀ n, n < l.length → rcB l n = false := by
  rcases least_ofP (P := fun n => rcB l n = true) l.length with h | ⟨n, h1, h2, h3⟩
  · exact .inr (fun n hn => by cases hb : rcB l n with | false => rfl | true => exact absurd hb (h n hn))
  · obtain ⟨z, hz, hr⟩ := (rcB_iff l n).1 h2
    rcases least_ofP (P := fun m => RaceW l m n) n with h | ⟨m, g1, g2, g3⟩
    · exact absurd hr (h z hz)
    · exact .inl ⟨n, m, h1, fun k hk => by cases hb : rcB l k with | false => rfl | true => exact absurd hb (h3 k hk), g1, g2, g3⟩
theorem getD_take {α : Type} (l : List α) {n i : Nat} (d : α) (h : i < n) : (l.take n).getD i d = l.getD i d := by
  simp [List.getD, List.getElem?_take, h]
theorem kd_take (l : List Dd) {n i : Nat} (h : i < n) : kdN (l.take n) i = kdN l i := by unfold kdN; rw [getD_take _ _ h]
theorem lc_take (l : List Dd) {n i : Nat} (h : i < n) : lcN (l.take n) i = lcN l i := by unfold lcN; rw [getD_take _ _ h]
theorem stN_take (l : List Dd) (n : Nat) : ∀ i, i ≤ n → stN (l.take n) i = stN l i
  | 0, _ => rfl
  | i + 1, h => by
    show stepT i _ _ = stepT i _ _
    rw [getD_take _ _ (by omega), stN_take l n i (by omega)]
theorem frm_take (l : List Dd) {n i : Nat} (h : i < n) : frmN (l.take n) i = frmN l i := by
  unfold frmN
  rw [stN_take l n i (by omega), getD_take _ _ h]
theorem ah_ltE {l : List Dd} (hc : chkE l = 0) {m i : Nat} (hi : i < l.length) (h : Ah l m i) : m < i := ((ah_row hc hi m).1 h).1
theorem ah_same {l l' : List Dd} (hc : chkE l = 0) {N m i : Nat} (hN : N ≤ l.length) (hf : ∀ i, i < N → frmN l' i = frmN l i) (h : Ah l m i) : i < N → Ah l' m i := by
  induction h with
  | one h => exact fun hi => .one (by rw [hf _ hi]; exact h)
  | more h1 h2 ih =>
    intro hi
    have := ah_ltE hc (by omega) (.one h1)
    exact .more (by rw [hf _ hi]; exact h1) (ih (by omega))
theorem chkL_take : ∀ (l : List Dd) (n i d : Nat), chkL l i d = none → chkL (l.take n) i d = none
  | [], n, i, d, _ => by simp [chkL]
  | x :: l, 0, i, d, _ => rfl
  | x :: l, n + 1, i, d, h => by
    rw [List.take_succ_cons]
    unfold chkL at h ⊢
    split at h
    · cases h
    · rename_i hb
      rw [if_neg hb]
      exact chkL_take l n _ _ h
theorem chk_take {l : List Dd} (h : chkE l = 0) (n : Nat) : chkE (l.take n) = 0 := by
  obtain ⟨h1, h2⟩ := chk_fine h
  have hc : chkL l 0 0 = none := h2.1
  refine (chk_none ?_ (chkL_take l n 0 0 hc)).1
  rw [List.length_take]
  omega
theorem ah_take {l : List Dd} (hc : chkE l = 0) {n m i : Nat} (hn : n ≤ l.length) (hi : i < n) : Ah (l.take n) m i ↔ Ah l m i := by
  constructor
  · exact fun h => ah_same (chk_take hc n) (N := n) (by rw [List.length_take]; omega) (fun i hi => (frm_take l hi).symm) h hi
  · exact fun h => ah_same hc hn (fun i hi => frm_take l hi) h hi
theorem race_take {l : List Dd} (hc : chkE l = 0) {n m i : Nat} (hn : n ≤ l.length) (hi : i < n) (hm : m < i) : RaceW (l.take n) m i ↔ RaceW l m i := by
  unfold RaceW
  rw [kd_take l hi, kd_take l (show m < n by omega), lc_take l hi, lc_take l (show m < n by omega), ah_take hc hn hi]
theorem rc_take {l : List Dd} (hc : chkE l = 0) {n i : Nat} (hn : n ≤ l.length) (hi : i < n) : rcB (l.take n) i = rcB l i := by
  rw [Bool.eq_iff_iff, rcB_iff, rcB_iff]
  constructor
  · rintro ⟨z, hz, h⟩; exact ⟨z, hz, (race_take hc hn hi hz).1 h⟩
  · rintro ⟨z, hz, h⟩; exact ⟨z, hz, (race_take hc hn hi hz).2 h⟩
theorem len_take {l : List Dd} {n : Nat} (hn : n ≤ l.length) : (l.take n).length = n := by rw [List.length_take]; omega
theorem first_take {l : List Dd} (hc : chkE l = 0) {n p m : Nat} (hn : n ≤ l.length) (h : FirstP l p m) (hp : p < n) : FirstP (l.take n) p m :=
  ⟨by rw [len_take hn]; exact hp, fun k hk => by rw [rc_take hc hn (by omega)]; exact h.no k hk, h.ml, (race_take hc hn hp h.ml).2 h.race, fun k hk hr => h.least k hk ((race_take hc hn hp (by have := h.ml; omega)).1 hr)⟩
theorem none_take {l : List Dd} (hc : chkE l = 0) {n : Nat} (hn : n ≤ l.length) (h : ∀ i, i < n → rcB l i = false) : ∀ i, i < (l.take n).length → rcB (l.take n) i = false := fun i hi => by
  rw [len_take hn] at hi
  rw [rc_take hc hn hi]
  exact h i hi
theorem racy_take {l : List Dd} (hc : chkE l = 0) {n : Nat} (hn : n ≤ l.length) {Y Z : List Int} (hY : RacyL (l.take n) Y) (hZ : RacyL l Z) {L : Int} (h : L ∈ Y) : L ∈ Z := by
  obtain ⟨a, h1, h2, h3⟩ := (hY.2 L).1 h
  rw [len_take hn] at h1
  rw [rc_take hc hn h1] at h2
  rw [lc_take l h1] at h3
  exact (hZ.2 L).2 ⟨a, by omega, h2, h3⟩
/-- What First tells of a list and of its beginning. -/
structure FirTwo (n : Nat) (x y z x2 y2 z2 : Int) (b b2 : Bool) : Prop where
  go : b = true → b2 = true ∧ x = x2 ∧ y = y2 ∧ z = z2
  back : b2 = true → x2 < n → b = true
theorem fir_two {l : List Dd} (hc : chkE l = 0) {n : Nat} (hn : n ≤ l.length) : ∃ x y z x2 y2 z2 b b2, firV (l.take n) = .returned (.tuple #[.agg #[.int .i64 x, .int .i64 y, .int .i64 z], .bool b, .int .i64 0]) ∧ firV l = .returned (.tuple #[.agg #[.int .i64 x2, .int .i64 y2, .int .i64 z2], .bool b2, .int .i64 0]) ∧ FirTwo n x y z x2 y2 z2 b b2 := by
  rcases first_casesP l with ⟨p, m, hF⟩ | hno
  · by_cases hp : p < n
    · exact ⟨_, _, _, _, _, _, _, _, firV_some (chk_take hc n) (first_take hc hn hF hp), firV_some hc hF, ⟨fun _ => ⟨rfl, rfl, rfl, lc_take l hp⟩, fun _ _ => rfl⟩⟩
    · exact ⟨_, _, _, _, _, _, _, _, firV_none (chk_take hc n) (fst_none (none_take hc hn (fun i hi => hF.no i (by omega)))), firV_some hc hF, ⟨fun h => (by cases h), fun _ h => absurd h (by omega)⟩⟩
  · exact ⟨_, _, _, _, _, _, _, _, firV_none (chk_take hc n) (fst_none (none_take hc hn (fun i hi => hno i (by omega)))), firV_none hc (fst_none hno), ⟨fun h => (by cases h), fun h => (by cases h)⟩⟩
theorem Seen.take {w : World} {a : Option Addr} {n k : Nat} {l : List Dd} (h : Seen w a n l) (hk : k ≤ n) : Seen w a k (l.take k) := by
  refine ⟨by rw [len_take (by rw [← h.len]; exact hk)], fun h0 => ?_⟩
  obtain ⟨b, off, rfl, hb, hc⟩ := h.ex (by omega)
  refine ⟨b, off, rfl, hb, fun j x hx => hc j x ?_⟩
  rw [List.getElem?_take] at hx
  split at hx
  · exact hx
  · cases hx
theorem tmod_in (x : Int) (n : Nat) (h0 : 0 < n) : -(n : Int) < x.tmod n ∧ x.tmod n < n := by
  have h1 := Int.natAbs_tmod x n
  have h2 : x.natAbs % (n : Int).natAbs < (n : Int).natAbs := Nat.mod_lt _ (by omega)
  omega
set_option maxHeartbeats 1600000 in
theorem lmod_ok (x : Int) (n : Nat) (w : World) (h0 : 0 < n) (h1 : n ≤ 1099511627776) : Calls Try.prog 11 #[.int .i64 x, .int .i64 n] w fun e w' => ∃ N : Nat, e = .returned (.int .i64 N) ∧ N < n ∧ w' = w := by
  obtain ⟨b0, b1⟩ := tmod_in x n h0
  have hn : ¬ (n : Int) = 0 := by omega
  have hn2 : (n : Int) ≤ 1099511627776 := by omega
  by_cases hr : x.tmod n < 0
  · go_enter Try.func11, Try.ntmps11
    go_wp2
    go_ret
    refine ⟨(x.tmod n + n).toNat, ?_, by omega, rfl⟩
    rw [Int.toNat_of_nonneg (by omega)]
    rfl
  · go_enter Try.func11, Try.ntmps11
    go_wp2
    go_ret
    refine ⟨(x.tmod n).toNat, ?_, by omega, rfl⟩
    rw [Int.toNat_of_nonneg (by omega)]
    rfl
theorem sound_is (E : Int) (b : Bool) (hb : b = decide (E = 0)) (a : Option Addr) (n c : Nat) (l : List Dd) (w : World) (hE : chkE l = E) (hS : Seen w a n l) (hn : (n + 2) * 16 ≤ 140737488355328) :
    Calls Try.prog 7 #[.slice a n c] w fun e w' => e = .returned (.bool b) ∧ w' = w := by
  rw [hb, ← hE]; exact sound_ok a n c l w hS hn
theorem detect_is (E : Int) (a : Option Addr) (n c : Nat) (l : List Dd) (w : World) (hE : chkE l = E) (hS : Seen w a n l) :
    Calls Try.prog 9 #[.slice a n c] w fun e w' => ∃ v Z, e = .returned (.tuple #[v, .int .i64 E]) ∧ RowL w' w.heap.size v Z ∧ DetL l Z ∧ Keeps None w w' := by
  rw [← hE]; exact detect_ok a n c l w hS
end Go.Proofs.Ytolhojagbiaamab
/-! A sync behind each return: nothing is parallel. -/
namespace Go.Proofs.Ytolhojagbiaamab
set_option linter.unusedVariables false
set_option maxRecDepth 20000
set_option linter.unusedSimpArgs false
open Go.RowKit Go.HeapKit

def serX (x : Dd) : List Dd := if x.k = 1 then [x, ⟨2, 0⟩] else [x]
/-- The list with a sync behind each return. -/
def serL (l : List Dd) : List Dd := l.flatMap serX
theorem serL_cons (x : Dd) (l : List Dd) : serL (x :: l) = serX x ++ serL l := rfl
theorem serX_one {x : Dd} (h : x.k = 1) : serX x = [x, ⟨2, 0⟩] := by unfold serX; rw [if_pos h]
theorem serX_no {x : Dd} (h : ¬ x.k = 1) : serX x = [x] := by unfold serX; rw [if_neg h]
theorem serL_take {l : List Dd} {k : Nat} {x : Dd} (h : l[k]? = some x) : serL (l.take (k + 1)) = serL (l.take k) ++ serX x := by
  obtain ⟨h1, h2⟩ := List.getElem?_eq_some_iff.1 h
  have : l.take (k + 1) = l.take k ++ [x] := by rw [← h2]; simp
  rw [this]
  unfold serL
  rw [List.flatMap_append]
  simp
theorem serL_len (l : List Dd) : (serL l).length ≤ 2 * l.length := by
  induction l with
  | nil => simp [serL]
  | cons x l ih =>
    rw [serL_cons]
    by_cases h : x.k = 1
    · rw [serX_one h]; simp; omega
    · rw [serX_no h]; simp; omega
def runT : Nat → List Tk → List Dd → List Tk
  | _, st, [] => st
  | i, st, x :: l => runT (i + 1) (stepT i x.k st) l
theorem run_st (L : List Dd) : ∀ (m n : Nat), n + m = L.length → runT n (stN L n) (L.drop n) = stN L L.length
  | 0, n, h => by
    have : n = L.length := by omega
    subst this
    rw [List.drop_length]
    rfl
  | m + 1, n, h => by
    have hn : n < L.length := by omega
    rw [List.drop_eq_getElem_cons hn]
    have := run_st L m (n + 1) (by omega)
    rw [← this]
    show runT (n + 1) (stepT n L[n].k (stN L n)) _ = runT (n + 1) (stepT n (L.getD n ⟨3, 0⟩).k (stN L n)) _
    rw [getD_at hn]
theorem oof_nil : ∀ {st : List Tk}, (∀ t ∈ st, t.O = []) → Oof st = []
  | [], _ => rfl
  | t :: r, h => by
    show t.O ++ Oof r = []
    rw [h t (by simp), oof_nil (fun t ht => h t (by simp [ht]))]
    rfl
theorem range_put (i : Nat) : List.range (i + 1) = List.range i ++ [i] := List.range_succ
theorem ser_run : ∀ (l : List Dd) (i d j : Nat) (st : List Tk), chkL l j d = none → st.length = d + 1 → Cof st = List.range i → (∀ t ∈ st, t.O = []) → Cof (runT i st (serL l)) = List.range (i + (serL l).length) ∧ ∀ t ∈ runT i st (serL l), t.O = []
  | [], i, d, j, st, _, _, h1, h2 => ⟨by simpa [serL, runT] using h1, by simpa [serL, runT] using h2⟩
  | x :: l, i, d, j, st, hc, hl, h1, h2 => by
    rw [serL_cons]
    unfold chkL at hc
    split at hc
    · cases hc
    rename_i hb
    obtain ⟨t, r, rfl⟩ : ∃ t r, st = t :: r := by
      cases st with
      | nil => simp at hl
      | cons t r => exact ⟨t, r, rfl⟩
    have ht : t.O = [] := h2 t (by simp)
    have hr : ∀ u ∈ r, u.O = [] := fun u hu => h2 u (by simp [hu])
    have hC : Cof r ++ t.P = List.range i := h1
    by_cases k0 : x.k = 0
    · rw [serX_no (by omega)]
      have := ser_run l (i + 1) (d + 1) (j + 1) (⟨[], [], []⟩ :: ⟨t.P ++ [i], t.O, t.Out⟩ :: r) (by simpa [nxtK, k0] using hc) (by simp at hl ⊢; omega)
        (by show (Cof r ++ (t.P ++ [i])) ++ [] = _; rw [range_put, ← hC]; simp) (by
          intro u hu
          simp at hu
          rcases hu with rfl | rfl | hu
          · rfl
          · exact ht
          · exact hr u hu)
      show Cof (runT (i + 1) (stepT i x.k (t :: r)) (serL l)) = _ ∧ ∀ u ∈ runT (i + 1) (stepT i x.k (t :: r)) (serL l), u.O = []
      rw [k0, st0]
      refine ⟨this.1.trans (congrArg List.range ?_), this.2⟩
      simp
      omega
    · by_cases k1 : x.k = 1
      · rw [serX_one k1]
        have hd : ¬ d = 0 := fun e => hb (by unfold badK; simp [k1, e])
        obtain ⟨u, r', rfl⟩ : ∃ u r', r = u :: r' := by
          cases r with
          | nil => simp at hl; omega
          | cons u r' => exact ⟨u, r', rfl⟩
        have hu := hr u (by simp)
        have hC2 : (Cof r' ++ u.P) ++ t.P = List.range i := hC
        have := ser_run l (i + 2) (d - 1) (j + 1) (⟨u.P ++ ((t.P ++ t.O ++ [i]) ++ u.O) ++ [i + 1], [], []⟩ :: r') (by simpa [nxtK, k1] using hc) (by simp at hl ⊢; omega)
          (by show Cof r' ++ (u.P ++ ((t.P ++ t.O ++ [i]) ++ u.O) ++ [i + 1]) = _; rw [range_put, range_put, ← hC2, ht, hu]; simp) (by
            intro v hv
            simp at hv
            rcases hv with rfl | hv
            · rfl
            · exact hr v (by simp [hv]))
        show Cof (runT (i + 1 + 1) (stepT (i + 1) 2 (stepT i x.k (t :: u :: r'))) (serL l)) = _ ∧ ∀ v ∈ runT (i + 1 + 1) (stepT (i + 1) 2 (stepT i x.k (t :: u :: r'))) (serL l), v.O = []
        rw [k1, st1, st2]
        refine ⟨this.1.trans (congrArg List.range ?_), this.2⟩
        simp
        omega
      · rw [serX_no k1]
        by_cases k2 : x.k = 2
        · have := ser_run l (i + 1) d (j + 1) (⟨t.P ++ t.O ++ [i], [], []⟩ :: r) (by simpa [nxtK, k2] using hc) (by simpa using hl)
            (by show Cof r ++ (t.P ++ t.O ++ [i]) = _; rw [range_put, ← hC, ht]; simp) (by
              intro u hu
              simp at hu
              rcases hu with rfl | hu
              · rfl
              · exact hr u hu)
          show Cof (runT (i + 1) (stepT i x.k (t :: r)) (serL l)) = _ ∧ ∀ u ∈ runT (i + 1) (stepT i x.k (t :: r)) (serL l), u.O = []
          rw [k2, st2]
          refine ⟨this.1.trans (congrArg List.range ?_), this.2⟩
          simp
          omega
        · have := ser_run l (i + 1) d (j + 1) (⟨t.P ++ [i], t.O, t.Out⟩ :: r) (by simpa [nxtK, k0, k1] using hc) (by simpa using hl)
            (by show Cof r ++ (t.P ++ [i]) = _; rw [range_put, ← hC]; simp) (by
              intro u hu
              simp at hu
              rcases hu with rfl | hu
              · exact ht
              · exact hr u hu)
          show Cof (runT (i + 1) (stepT i x.k (t :: r)) (serL l)) = _ ∧ ∀ u ∈ runT (i + 1) (stepT i x.k (t :: r)) (serL l), u.O = []
          rw [st3 _ _ _ _ k0 k1 k2]
          refine ⟨this.1.trans (congrArg List.range ?_), this.2⟩
          simp
          omega
theorem ser_chkL : ∀ (l : List Dd) (i d j : Nat), chkL l i d = none → chkL (serL l) j d = none
  | [], i, d, j, _ => rfl
  | x :: l, i, d, j, h => by
    rw [serL_cons]
    unfold chkL at h
    split at h
    · cases h
    rename_i hb
    by_cases k1 : x.k = 1
    · rw [serX_one k1]
      show chkL (x :: ⟨2, 0⟩ :: serL l) j d = none
      unfold chkL
      rw [if_neg hb]
      unfold chkL
      rw [if_neg (by simp [badK])]
      exact ser_chkL l (i + 1) _ _ (by simpa [nxtK] using h)
    · rw [serX_no k1]
      show chkL (x :: serL l) j d = none
      unfold chkL
      rw [if_neg hb]
      exact ser_chkL l (i + 1) _ _ h
theorem ser_chk {l : List Dd} (h : chkE l = 0) (hl : (serL l).length ≤ 4096) : chkE (serL l) = 0 :=
  (chk_none (by omega) (ser_chkL l 0 0 0 (chk_fine h).2.1)).1
theorem ser_row {l : List Dd} (h : chkE l = 0) : Lof (stN (serL l) (serL l).length) = List.range (serL l).length := by
  obtain ⟨h1, h2⟩ := ser_run l 0 0 0 [⟨[], [], []⟩] (chk_fine h).2.1 rfl rfl (by simp)
  have e := run_st (serL l) (serL l).length 0 (by omega)
  rw [List.drop_zero] at e
  have e2 : stN (serL l) 0 = [⟨[], [], []⟩] := rfl
  rw [e2] at e
  rw [e] at h1 h2
  unfold Lof
  rw [h1, oof_nil h2]
  simp
theorem idx_rng {n v : Nat} (hv : v < n) : (List.range n).idxOf v = v := by
  have h := (List.nodup_range (n := n)).idxOf_getElem v (by simpa using hv)
  simpa using h
theorem ser_ah {l : List Dd} (h : chkE l = 0) (hl : (serL l).length ≤ 4096) {m i : Nat} (hi : i < (serL l).length) (hm : m < i) : Ah (serL l) m i := by
  rw [ah_row (ser_chk h hl) hi, ser_row h, idx_rng hi, idx_rng (by omega)]
  exact ⟨hm, hm⟩
theorem ser_none {l : List Dd} (h : chkE l = 0) (hl : (serL l).length ≤ 4096) : ∀ n, n < (serL l).length → rcB (serL l) n = false := fun n hn => by
  cases hb : rcB (serL l) n with
  | false => rfl
  | true =>
    obtain ⟨z, hz, hr⟩ := (rcB_iff _ _).1 hb
    exact absurd (ser_ah h hl hn hz) hr.2.2.2.2
theorem ser_par {l : List Dd} (h : chkE l = 0) (hl : (serL l).length ≤ 4096) {i j : Nat} (hi : i < (serL l).length) (hj : j < (serL l).length) : parB (serL l) i j = false ∧ parE (serL l) i j = 0 := by
  obtain ⟨p1, p2⟩ := par_in (i := i) (j := j) (ser_chk h hl) hi hj
  refine ⟨?_, p2⟩
  rw [p1, ser_row h, idx_rng (by omega), idx_rng (by omega)]
  simp
  omega
theorem det_none {l : List Dd} (hc : chkE l = 0) (hno : ∀ n, n < l.length → rcB l n = false) {Z : List Int} (hd : DetL l Z) : Z = [] := by
  cases Z with
  | nil => rfl
  | cons x xs =>
    obtain ⟨k, h1, h2, _⟩ := ((hd.1 hc).2 x).1 (by simp)
    rw [hno k h1] at h2
    cases h2
end Go.Proofs.Ytolhojagbiaamab
/-! The walk of RacesSerial. -/
namespace Go.Proofs.Ytolhojagbiaamab
set_option linter.unusedVariables false
set_option maxRecDepth 20000
set_option linter.unusedSimpArgs false
open Go.RowKit Go.HeapKit

theorem ser_app {w wr : World} {sa : Option Addr} {cs m : Nat} {L : List Dd} (x : Dd) (hm : m = L.length) (hrow : wr.ownsRow w.heap.size 26 2 (.slice sa m cs) m (ddVals L)) (hk : Keeps None w wr) (hlen : (m + 1) * 16 ≤ 140737488355328) :
    ∃ g cp w2, (Builtin.append_ #[22, 22] 22 #[.slice sa m cs, .slice (some ⟨wr.heap.size, 0, none⟩) 1 1]).run Try.prog (wr.alloc (.cells #[.int .i64 x.k, .int .i64 x.loc] 26)) = .ok (.slice (some ⟨g, 0, none⟩) (m + 1) cp) w2 ∧ Hid (w2.ownsRow w.heap.size 26 2 (.slice (some ⟨g, 0, none⟩) (m + 1) cp) (m + 1) (ddVals (L ++ [x])) ∧ Keeps None w w2) := by
  have hbn : (wr.alloc (.cells #[.int .i64 x.k, .int .i64 x.loc] 26)).heap[wr.heap.size]? = some (.cells #[.int .i64 x.k, .int .i64 x.loc] 26 (0, 0)) := heap_alloc_new _ _
  obtain ⟨g, cp, w2, hr, ho, hk3, hmv⟩ := deed_more w.heap.size (.slice sa m cs) L x m 22 _ hm (hrow.alloc _) (by have := hk.size; simp; omega) hlen hbn
  exact ⟨g, cp, w2, hr, ho, (hk.andAlloc _).trans hk3 (fun i e hi => by have := row_low hrow e; omega)⟩
set_option maxHeartbeats 1600000 in
theorem serial_bad (a : Option Addr) (n c : Nat) (l : List Dd) (i j : Int) (w : World) (hS : Seen w a n l) (hn : (n + 2) * 16 ≤ 140737488355328) (hE : ¬ chkE l = 0) :
    Calls Try.prog 3 #[.slice a n c, .int .i64 i, .int .i64 j] w fun e w' => e = .returned (.bool true) ∧ Keeps None w w' := by
  have HHe : Hid _ := head_ok w
  have HSo : Hid _ := sound_is _ false (by simp [hE]) a n c l w rfl hS hn
  clear hS hE
  go_enter Try.func3, Try.ntmps3
  go_wp2_with (first | (go_at_call 7; refine Calls.mono HSo.out ?_; rintro _ w1 ⟨rfl, rfl⟩) | (go_at_call 8; refine Calls.mono HHe.out ?_; rintro _ w2 ⟨rfl, hk2⟩))
  go_ret
  exact ⟨rfl, hk2⟩
set_option maxHeartbeats 8000000 in
theorem serial_good (a : Option Addr) (n c : Nat) (l : List Dd) (i j : Int) (w : World) (hS : Seen w a n l) (hn : (n + 2) * 16 ≤ 140737488355328) (hE : chkE l = 0) :
    Calls Try.prog 3 #[.slice a n c, .int .i64 i, .int .i64 j] w fun e w' => e = .returned (.bool true) ∧ Keeps None w w' := by
  have HS : Hid (Seen w a n l ∧ chkE l = 0 ∧ n = l.length) := ⟨hS, hE, hS.len⟩
  have HSo : Hid _ := sound_is 0 true rfl a n c l w hE hS hn
  have hn4 : n ≤ 4096 := by rw [hS.len]; exact (chk_fine hE).1
  clear hS hE
  go_enter Try.func3, Try.ntmps3
  go_wp2_with (go_at_call 7; refine Calls.mono HSo.out ?_; rintro _ w1 ⟨rfl, rfl⟩)
  clear HSo
  go_loopw [7, 8] (fun s7 s8 wr => ∃ k m : Nat, k ≤ n ∧ s8 = .int .i64 k ∧ Hid (m = (serL (l.take k)).length) ∧ m ≤ 2 * k ∧ Hid (wr.ownsRow w1.heap.size 26 2 s7 m (ddVals (serL (l.take k))) ∧ Keeps None w1 wr)) (fun _ s8 _ => n - (intOf s8).toNat)
  case atStart => exact ⟨0, 0, Nat.zero_le _, rfl, rfl, Nat.zero_le _, by simpa [ddVals, serL] using row_nil w1 _ _ _, Keeps.refl _ _⟩
  case round =>
    obtain ⟨k, m, hk, rfl, HMl, hm2, HR⟩ := hrel
    obtain ⟨sa, cs, rfl⟩ := row_shape HR.out.1
    by_cases hkn : k < n
    · obtain ⟨b, off, x, hab, hb, hx, u0, u1⟩ := (HS.out.1.more HR.out.2).elem hkn
      subst hab
      obtain ⟨g, cp, w2, hr, HN⟩ := ser_app x HMl.out HR.out.1 HR.out.2 (by omega)
      obtain ⟨b', off', x', hab', hb', hx', u0', u1'⟩ := (HS.out.1.more HN.out.2).elem hkn
      injection hab' with hab'
      injection hab' with e1 e2
      subst e1 e2
      obtain rfl : x = x' := by rw [hx] at hx'; injection hx'
      have HX : Hid (l[k]? = some x) := hx
      obtain ⟨xk, xl⟩ := x
      have i1 : (k : Int) < (n : Int) := by omega
      clear hx hx' hb hb' HR
      go_upto_region 8 with (at_builtin; refine wpList_append_run rfl (.tmp 23) (.tmp 28) 22 22 rfl rfl rfl hr ?_)
      clear hr u0 u1
      by_cases hk1 : xk = 1
      · subst hk1
        obtain ⟨g2, cp2, w3, hr3, HN3⟩ := ser_app ⟨2, 0⟩ (by simp; exact HMl.out) HN.out.1 HN.out.2 (by omega)
        have HF : Hid (m + 1 + 1 = (serL (l.take (k + 1))).length ∧ w3.ownsRow w1.heap.size 26 2 (.slice (some ⟨g2, 0, none⟩) (m + 1 + 1) cp2) (m + 1 + 1) (ddVals (serL (l.take (k + 1)))) ∧ Keeps None w1 w3) := by
          rw [serL_take HX.out, serX_one rfl]
          refine ⟨by simp; exact HMl.out, ?_, HN3.out.2⟩
          have := HN3.out.1
          rw [List.append_assoc] at this
          exact this
        clear HN HN3
        go_wp2_with (at_builtin; refine wpList_append_run rfl (.tmp 36) (.tmp 38) 22 22 rfl rfl rfl hr3 ?_)
        go_roundw
        case rel => exact ⟨k + 1, m + 1 + 1, by omega, by simp, HF.out.1, by omega, HF.out.2⟩
        case measure => simp [intOf]; omega
      · have b1 : (xk == 1) = false := by simp [hk1]
        have HF : Hid (m + 1 = (serL (l.take (k + 1))).length ∧ w2.ownsRow w1.heap.size 26 2 (.slice (some ⟨g, 0, none⟩) (m + 1) cp) (m + 1) (ddVals (serL (l.take (k + 1)))) ∧ Keeps None w1 w2) := by
          rw [serL_take HX.out, serX_no hk1]
          exact ⟨by simp; exact HMl.out, HN.out⟩
        clear HN
        go_wp2_with fail
        go_roundw
        case rel => exact ⟨k + 1, m + 1, by omega, by simp, HF.out.1, by omega, HF.out.2⟩
        case measure => simp [intOf]; omega
    · obtain rfl : k = n := by omega
      have i1 : ¬ (k : Int) < (k : Int) := by omega
      have HL : Hid (m = (serL l).length ∧ wr.ownsRow w1.heap.size 26 2 (.slice sa m cs) m (ddVals (serL l)) ∧ Keeps None w1 wr) := by
        have h1 := HMl.out
        have h2 := HR.out
        rw [List.take_of_length_le (by rw [← HS.out.2.2]; exact Nat.le_refl _)] at h1 h2
        exact ⟨h1, h2⟩
      clear HMl HR
      have HHe : Hid _ := head_ok wr
      by_cases h4 : m > 4096
      · have i2 : (m : Int) > 4096 := by omega
        go_wp2_with (go_at_call 8; refine Calls.mono HHe.out ?_; rintro _ w9 ⟨rfl, hk9⟩)
        go_ret
        exact ⟨rfl, HL.out.2.2.trans hk9 (fun _ f _ => f)⟩
      · have i2 : ¬ (m : Int) > 4096 := by omega
        by_cases h0 : m = 0
        · subst h0
          go_wp2_with (go_at_call 8; refine Calls.mono HHe.out ?_; rintro _ w9 ⟨rfl, hk9⟩)
          go_ret
          exact ⟨rfl, HL.out.2.2.trans hk9 (fun _ f _ => f)⟩
        · have i3 : ((m : Int) == 0) = false := by simp; omega
          have i4 : ¬ (m : Int) = 0 := by omega
          have hl4 : (serL l).length ≤ 4096 := by rw [← HL.out.1]; omega
          have hS2 := Seen.of_row HL.out.1 HL.out.2.1
          have HDe : Hid (Calls Try.prog 9 #[.slice sa m cs] wr fun e w' => ∃ az cz, e = .returned (.tuple #[.slice az 0 cz, .int .i64 0]) ∧ Keeps None wr w') := by
            refine (detect_is 0 sa m cs (serL l) wr (ser_chk HS.out.2.1 hl4) hS2).mono ?_
            rintro e w' ⟨v, Z, rfl, hr, hd, hk⟩
            obtain rfl := det_none (ser_chk HS.out.2.1 hl4) (ser_none HS.out.2.1 hl4) hd
            obtain ⟨az, cz, rfl, _⟩ := hr.shape
            exact ⟨az, cz, rfl, hk⟩
          have HPa : Hid (∀ (p q : Nat) (w' : World), p < m → q < m → Keeps None wr w' → Calls Try.prog 10 #[.slice sa m cs, .int .i64 (p : Nat), .int .i64 (q : Nat)] w' fun e w'' => e = .returned (.tuple #[.bool false, .int .i64 0]) ∧ Keeps None w' w'') := fun p q w' hp hq hk => by
            have h1 := parallel_ok sa m cs (serL l) (p : Int) (q : Int) w' (hS2.more hk)
            have h2 := ser_par HS.out.2.1 hl4 (i := p) (j := q) (by rw [← HL.out.1]; exact hp) (by rw [← HL.out.1]; exact hq)
            rw [h2.1, h2.2] at h1
            exact h1
          have HMo : Hid (∀ (x : Int) (w' : World), Calls Try.prog 11 #[.int .i64 x, .int .i64 m] w' fun e w'' => ∃ N : Nat, e = .returned (.int .i64 N) ∧ N < m ∧ w'' = w') := fun x w' => lmod_ok x m w' (by omega) (by omega)
          clear hS2 hl4 HHe
          go_upto_region 13 with (go_at_call 9; refine Calls.mono HDe.out ?_; rintro _ w2 ⟨az, cz, rfl, hk2⟩)
          have HK2 : Hid (Keeps None wr w2) := hk2
          have HHe2 : Hid (∀ w', Calls Try.prog 8 #[] w' fun e w'' => e = .returned (.bool true) ∧ Keeps None w' w'') := head_ok
          clear hk2 HDe
          go_upto_region 14 with (first
            | (go_at_call 10; refine Calls.mono (HPa.out _ _ _ (by assumption) (by assumption) HK2.out) ?_; rintro _ w3 ⟨rfl, hk3⟩)
            | (go_at_call 11; refine Calls.mono (HMo.out _ _) ?_; rintro _ wq ⟨N, rfl, hN, rfl⟩))
          have HK3 : Hid (Keeps None w1 w3) := (HL.out.2.2.trans HK2.out (fun _ f _ => f)).trans hk3 (fun _ f _ => f)
          clear hk3
          go_wp2_with (go_at_call 8; refine Calls.mono (HHe2.out _) ?_; rintro _ w9 ⟨rfl, hk9⟩)
          go_ret
          exact ⟨rfl, HK3.out.trans hk9 (fun _ f _ => f)⟩
theorem racesSerial_walk (a : Option Addr) (n c : Nat) (l : List Dd) (i j : Int) (w : World) (hS : Seen w a n l) (hn : (n + 2) * 16 ≤ 140737488355328) :
    Calls Try.prog 3 #[.slice a n c, .int .i64 i, .int .i64 j] w fun e w' => e = .returned (.bool true) ∧ Below w.heap.size w w' := by
  have h : Calls Try.prog 3 #[.slice a n c, .int .i64 i, .int .i64 j] w fun e w' => e = .returned (.bool true) ∧ Keeps None w w' := by
    by_cases hE : chkE l = 0
    · exact serial_good a n c l i j w hS hn hE
    · exact serial_bad a n c l i j w hS hn hE
  exact h.mono fun e w' hp => ⟨hp.1, hp.2.below _ (Nat.le_refl _) (fun _ f => f.elim)⟩
end Go.Proofs.Ytolhojagbiaamab
/-! Structs of 64-bit numbers among the arguments, and slices of them. Whatever the program. -/
namespace Go.HeapKit
open Go.ChangeShapes Go.WideShapes Go.ChangeAt Go.RowKit Go.Deep

section
variable {H : Type} {enc : TypeId × Value → H} {P : Program} {w : World} {base : Nat} {spare : Nat → Bool} {held : Bool}

/-- All fields are 64-bit numbers, one cell each, in order. -/
def allInts (P : Program) (fs : List Field) : Bool :=
  (List.range fs.length).all fun i => match fs[i]? with
    | some f => f.offset == i && (match P.underlying f.type with | some (.int .i64) => true | _ => false) && P.cellsOf f.type == 1
    | none => false
theorem allInts_at {fs : List Field} (h : allInts P fs = true) {i : Nat} {f : Field} (hf : fs[i]? = some f) : f.offset = i ∧ P.underlying f.type = some (.int .i64) ∧ P.cellsOf f.type = 1 := by
  have hi : i < fs.length := (List.getElem?_eq_some_iff.1 hf).1
  have := List.all_eq_true.1 h i (List.mem_range.2 hi)
  rw [hf] at this
  simp only [Bool.and_eq_true, beq_iff_eq] at this
  obtain ⟨⟨h1, h2⟩, h3⟩ := this
  refine ⟨h1, ?_, h3⟩
  split at h2
  · assumption
  · cases h2

theorem struct_ints {t : TypeId} {fs : Array Field} {fuel : Nat} {cs : List Value} {x : DataW H × List MemPlace} (ht : P.underlying t = some (.struct fs)) (ha : allInts P fs.toList = true) (hc : P.cellsOf t = fs.size)
    (h : DataW.trod enc P w base spare held fuel t cs = some x) : ∃ ns : List Int, ns.length = fs.size ∧ cs = ns.map (Value.int .i64) ∧ ∀ n ∈ ns, (Lit.int .i64 n).wf = true := by
  obtain ⟨xs, n, _, rfl, hl, hlen, hf⟩ := DataW.trod_struct ht h
  rw [hc] at hl
  have hat : ∀ i, i < fs.size → ∃ m : Int, cs[i]? = some (.int .i64 m) ∧ (Lit.int .i64 m).wf = true := by
    intro i hi
    have hfi : fs[i]? = some fs[i] := by simp [hi]
    obtain ⟨h1, h2, h3⟩ := allInts_at ha (i := i) (f := fs[i]) (by simp)
    have hq := hf i fs[i] hfi
    rw [h1, h3, show xs[i]? = some xs[i] by simp] at hq
    obtain ⟨m, hm, _, hw⟩ := DataW.trod_int h2 hq
    refine ⟨m, ?_, hw⟩
    have : (List.take 1 (List.drop i cs))[0]? = some (.int .i64 m) := by rw [hm]; rfl
    simpa [List.getElem?_take, List.getElem?_drop] using this
  have hall : ∀ v ∈ cs, ∃ m : Int, v = .int .i64 m ∧ (Lit.int .i64 m).wf = true := by
    intro v hv
    obtain ⟨i, hi, rfl⟩ := List.mem_iff_getElem.1 hv
    obtain ⟨m, hm, hw⟩ := hat i (by omega)
    exact ⟨m, by simpa [hi] using hm, hw⟩
  have hex : ∀ cs : List Value, (∀ v ∈ cs, ∃ m : Int, v = .int .i64 m ∧ (Lit.int .i64 m).wf = true) → ∃ ns : List Int, cs = ns.map (Value.int .i64) ∧ ∀ n ∈ ns, (Lit.int .i64 n).wf = true := by
    intro cs
    induction cs with
    | nil => exact fun _ => ⟨[], rfl, fun _ h => by cases h⟩
    | cons v cs ih =>
      intro hv
      obtain ⟨ns, rfl, hw⟩ := ih (fun u hu => hv u (List.mem_cons_of_mem _ hu))
      obtain ⟨m, rfl, hm⟩ := hv v (List.mem_cons_self ..)
      refine ⟨m :: ns, rfl, ?_⟩
      intro n hn
      rcases List.mem_cons.1 hn with rfl | hn
      · exact hm
      · exact hw n hn
  obtain ⟨ns, rfl, hw⟩ := hex cs hall
  exact ⟨ns, by simpa using hl, rfl, hw⟩

theorem open_struct_ints {r : Reach} {b0 : Nat} {t : TypeId} {fs : Array Field} {v : Value} {d : DataW H} {ps : List MemPlace} (ht : P.underlying t = some (.struct fs)) (ha : allInts P fs.toList = true) (hc : P.cellsOf t = fs.size)
    (hval : Value.okWide P w r b0 t v) (hd : DataW.Trod enc P w base spare held t v d ps) : ∃ ns : List Int, ns.length = fs.size ∧ v = .agg (ns.map (Value.int .i64)).toArray ∧ ∀ n ∈ ns, (Lit.int .i64 n).wf = true := by
  obtain ⟨cs, rfl, hs⟩ := okWide_struct ht hval
  obtain ⟨fuel, hf⟩ := hd
  obtain ⟨ns, hl, he, hw⟩ := struct_ints ht ha hc hf
  refine ⟨ns, hl, ?_, hw⟩
  have : cs.toList = ns.map (Value.int .i64) := by simpa [Value.cells] using he
  rw [← this]

/-- A slice of structs of numbers that came in: nil; or a grid of 'cap' rows, 'size' cells each. -/
def IsGrid (size : Nat) (w : World) (a : Option Addr) (len cap : Nat) (rows : List (List Int)) : Prop :=
  (a = none ∧ len = 0 ∧ cap = 0 ∧ rows = []) ∨
  ∃ x : Addr, a = some x ∧ len ≤ cap ∧ cap ≤ maxLen ∧ rows.length = cap ∧ (∀ i, i < cap → ∃ ns : List Int, rows[i]? = some ns ∧ ns.length = size ∧ (∀ n ∈ ns, (Lit.int .i64 n).wf = true) ∧ ∀ j m, ns[j]? = some m → w.cell? ((x.add (i * size)).add j) = some (.int .i64 m))

theorem grid_slice {t e : TypeId} {x : Addr} {len cap : Nat} {d : DataW H} {ps : List MemPlace} (ht : P.underlying t = some (.slice e)) (hd : DataW.Trod enc P w base spare held t (.slice (some x) len cap) d ps) : ∃ elems sp, d = .slice elems sp := by
  obtain ⟨fuel, hf⟩ := hd
  rcases open_slice ht hf with ⟨h0, _⟩ | ⟨x, l, c, m, n, D, Pl, hcs, _, _, _, _, hx, _⟩
  · simp [Value.cells] at h0
  · simp only [Prod.mk.injEq] at hx
    exact ⟨_, _, hx.1⟩
theorem open_grid {t e : TypeId} {fs : Array Field} {a : Option Addr} {len cap : Nat} {d : DataW H} {ps : List MemPlace} (ht : P.underlying t = some (.slice e)) (he : P.underlying e = some (.struct fs)) (ha : allInts P fs.toList = true) (hc : P.cellsOf e = fs.size)
    (hd : DataW.Trod enc P w base (fun _ => true) held t (.slice a len cap) d ps) : (∃ rows, IsGrid fs.size w a len cap rows) ∧ ∀ elems sp, d = .slice elems sp → elems.length + sp.length = cap := by
  obtain ⟨fuel, hf⟩ := hd
  rcases open_slice ht hf with ⟨h0, hx⟩ | ⟨x, l, c, m, n, D, Pl, hcs, _, hl, hm, hmm, hx, hall⟩
  · simp [Value.cells] at h0
    obtain ⟨rfl, rfl, rfl⟩ := h0
    simp only [Prod.mk.injEq] at hx
    exact ⟨⟨[], .inl ⟨rfl, rfl, rfl, rfl⟩⟩, fun elems sp e => by rw [hx.1] at e; cases e⟩
  · simp [Value.cells] at hcs
    obtain ⟨rfl, rfl, rfl⟩ := hcs
    have hmc : m = cap := by simpa using hmm
    subst hmc
    simp only [Prod.mk.injEq] at hx
    refine ⟨?_, fun elems sp e => by rw [hx.1] at e; injection e with e1 e2; rw [← e1, ← e2]; simp; omega⟩
    have hrow : ∀ i, i < m → ∃ ns : List Int, ns.length = fs.size ∧ (∀ n ∈ ns, (Lit.int .i64 n).wf = true) ∧ ∀ j m, ns[j]? = some m → w.cell? ((x.add (i * fs.size)).add j) = some (.int .i64 m) := by
      intro i hi
      obtain ⟨cs', h1, h2⟩ := hall i hi
      rw [hc] at h1
      obtain ⟨ns, hl, rfl, hw⟩ := struct_ints he ha hc h2
      refine ⟨ns, hl, hw, ?_⟩
      intro j m hj
      obtain ⟨_, hlen, hcell⟩ := World.cells?_some h1
      rw [hcell j (by have := (List.getElem?_eq_some_iff.1 hj).1; omega)]
      simp [hj]
    have hex : ∀ k, k ≤ m → ∃ rows : List (List Int), rows.length = k ∧ ∀ i, i < k → ∃ ns : List Int, rows[i]? = some ns ∧ ns.length = fs.size ∧ (∀ n ∈ ns, (Lit.int .i64 n).wf = true) ∧ ∀ j m, ns[j]? = some m → w.cell? ((x.add (i * fs.size)).add j) = some (.int .i64 m) := by
      intro k
      induction k with
      | zero => exact fun _ => ⟨[], rfl, fun _ h => by omega⟩
      | succ k ih =>
        intro hk
        obtain ⟨rows, hrl, hr⟩ := ih (by omega)
        obtain ⟨ns, h1, h2, h3⟩ := hrow k (by omega)
        refine ⟨rows ++ [ns], by simp [hrl], ?_⟩
        intro i hi
        by_cases hik : i < k
        · obtain ⟨ns', e, r⟩ := hr i hik
          exact ⟨ns', by rw [List.getElem?_append_left (by omega)]; exact e, r⟩
        · obtain rfl : i = k := by omega
          exact ⟨ns, by rw [List.getElem?_append_right (by omega), hrl]; simp, h1, h2, h3⟩
    obtain ⟨rows, hrl, hr⟩ := hex m (Nat.le_refl _)
    exact ⟨rows, .inr ⟨x, rfl, hl, hm, hrl, hr⟩⟩
end
end Go.HeapKit
/-! A slice of deeds that came in. -/
namespace Go.Proofs.Ytolhojagbiaamab
open Go.RowKit Go.HeapKit

def ddOf (ns : List Int) : Dd := ⟨ns.getD 0 0, ns.getD 1 0⟩
theorem spot_of_cell {w : World} {x : Addr} {v : Value} (h : w.cell? x = some v) : x.spot = none := by
  unfold World.cell? at h
  split at h
  · split at h
    · cases h
    · rename_i hs; simpa using hs
  · cases h
theorem lt_of_cell {w : World} {b o : Nat} {v : Value} (h : w.cell? ⟨b, o, none⟩ = some v) : b < w.heap.size := by
  cases hb : w.heap[b]? with
  | none => simp [World.cell?, hb] at h
  | some o => exact (Array.getElem?_eq_some_iff.1 hb).1
theorem grid_deeds {w : World} {ao : Option Addr} {len cap : Nat} {g : List (List Int)} (h : IsGrid 2 w ao len cap g) : len ≤ cap ∧ Seen w ao len ((g.take len).map ddOf) := by
  rcases h with ⟨rfl, rfl, rfl, rfl⟩ | ⟨x, rfl, hl, hm, hlen, hrow⟩
  · exact ⟨Nat.le_refl _, rfl, fun h => by omega⟩
  · refine ⟨hl, by simp; omega, fun hpos => ?_⟩
    have hspot : x.spot = none := by
      obtain ⟨ns, h1, h2, h3, h4⟩ := hrow 0 (by omega)
      match ns, h2 with
      | m0 :: _, _ =>
        have := h4 0 m0 rfl
        rw [Nat.zero_mul] at this
        have e : (x.add 0).add 0 = x := by unfold Addr.add; simp
        rw [e] at this
        exact spot_of_cell this
    obtain ⟨b0, off, sp⟩ := x
    simp only at hspot
    subst hspot
    have hat : ∀ i j, (((⟨b0, off, none⟩ : Addr).add (i * 2)).add j) = ⟨b0, off + i * 2 + j, none⟩ := by
      intro i j
      unfold Addr.add
      split <;> split <;> simp_all
    have hcell : ∀ i, i < len → ∀ j, j < 2 → w.cell? ⟨b0, off + i * 2 + j, none⟩ = some (.int .i64 ((g.getD i []).getD j 0)) := by
      intro i hi j hj
      obtain ⟨ns, h1, h2, h3, h4⟩ := hrow i (by omega)
      have hg : g.getD i [] = ns := by simp [List.getD, h1]
      rw [hg, ← hat i j]
      exact h4 j _ (by simp [List.getD, h2, hj])
    refine ⟨b0, off, rfl, lt_of_cell (hcell 0 hpos 0 (by decide)), fun k x hx => ?_⟩
    have hk : k < len := by have := (List.getElem?_eq_some_iff.1 hx).1; simp at this; omega
    have hx2 : x = ddOf (g.getD k []) := by
      rw [List.getElem?_map, List.getElem?_take, if_pos hk] at hx
      obtain ⟨ns, h1, _⟩ := hrow k (by omega)
      rw [h1] at hx
      simp at hx
      rw [← hx]
      simp [List.getD, h1]
    subst hx2
    exact ⟨hcell k hk 0 (by decide), hcell k hk 1 (by decide)⟩
end Go.Proofs.Ytolhojagbiaamab
