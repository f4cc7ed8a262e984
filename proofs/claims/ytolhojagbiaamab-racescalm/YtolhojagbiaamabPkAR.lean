import Derived.Test.YtolhojagbiaamabPkAQ
import Derived.Test.YtolhojagbiaamabPkAP
import Derived.WalkKit
import Derived.ProofKit
import Derived.OpenShut
import Derived.Deep.Slices
/-! lastWrite. -/
namespace Go.Proofs.Ytolhojagbiaamab
set_option linter.unusedVariables false
set_option maxRecDepth 20000
set_option linter.unusedSimpArgs false
open Go.RowKit Go.HeapKit

/-- A list of numbers that can be read. -/
structure SeesI (w : World) (a : Option Addr) (m : Nat) (L : List Nat) : Prop where
  len : m = L.length
  ex : ∀ k x, L[k]? = some x → ∃ g, a = some ⟨g, 0, none⟩ ∧ w.cell? ⟨g, k, none⟩ = some (.int .i64 (x : Nat))
theorem SeesI.more {w w' : World} {a : Option Addr} {m : Nat} {L : List Nat} (h : SeesI w a m L) (hk : Keeps None w w') : SeesI w' a m L :=
  ⟨h.len, fun k x hx => by
    obtain ⟨g, e, hc⟩ := h.ex k x hx
    exact ⟨g, e, hk.cell hc (fun f => f)⟩⟩
theorem SeesI.take {w : World} {a : Option Addr} {m : Nat} {L : List Nat} (h : SeesI w a m L) {k : Nat} (hk : k ≤ m) : SeesI w a k (L.take k) := by
  refine ⟨by rw [List.length_take]; have := h.len; omega, fun j x hx => h.ex j x ?_⟩
  rw [List.getElem?_take] at hx
  split at hx
  · exact hx
  · cases hx
set_option maxHeartbeats 4000000 in
theorem last_ok (a b : Option Addr) (n c m d : Nat) (l : List Dd) (L : List Nat) (loc : Int) (w : World) (hS : Seen w a n l) (hL : SeesI w b m L) (hlt : ∀ x ∈ L, x < n) (hm : m ≤ 4096) :
    Calls Try.prog 16 #[.slice a n c, .slice b m d, .int .i64 loc] w fun e w' => e = .returned (.int .i64 (lwV l L loc)) ∧ Keeps None w w' := by
  have HS : Hid (Seen w a n l ∧ SeesI w b m L ∧ ∀ x ∈ L, x < n) := ⟨hS, hL, hlt⟩
  clear hS hL hlt
  go_enter Try.func16, Try.ntmps16
  go_wp2_with fail
  go_loopw [7, 8] (fun s7 _ wr => ∃ k : Nat, k ≤ m ∧ s7 = .int .i64 ((k : Int) - 1) ∧ Hid (lwV l (L.take k) loc = lwV l L loc) ∧ Hid (Keeps None w wr)) (fun s7 _ _ => (intOf s7 + 1).toNat)
  case atStart => exact ⟨m, Nat.le_refl _, by go_num, by show lwV l (L.take m) loc = _; rw [List.take_of_length_le (by rw [HS.out.2.1.len]; exact Nat.le_refl _)], Keeps.refl _ _⟩
  case round =>
    obtain ⟨k, hk, hs7, HL, HK⟩ := hrel
    generalize wr = W at *
    cases k with
    | zero =>
      have hs : (((0 : Nat) : Int) - 1) = -1 := by omega
      rw [hs] at hs7
      subst hs7
      have HV : Hid (lwV l L loc = -1) := HL.out.symm.trans rfl
      go_wp2_with fail
      go_ret
      exact ⟨by rw [HV.out]; rfl, HK.out⟩
    | succ j =>
      have hs : ((((j + 1 : Nat)) : Int) - 1) = (j : Int) := by omega
      rw [hs] at hs7
      subst hs7
      have hx : L[j]? = some (L[j]'(by have := HS.out.2.1.len; omega)) := List.getElem?_eq_getElem _
      obtain ⟨x, hxe⟩ : ∃ x, x = L[j]'(by have := HS.out.2.1.len; omega) := ⟨_, rfl⟩
      rw [← hxe] at hx
      obtain ⟨g, rfl, hgc⟩ := (HS.out.2.1.more HK.out).ex j x hx
      have hxn : x < n := HS.out.2.2 x (List.mem_of_getElem? hx)
      obtain ⟨bb, off, hab, hbb, u0, u1⟩ := seen_deed (HS.out.1.more HK.out) (n := x) hxn
      subst hab
      have htk : L.take (j + 1) = L.take j ++ [x] := take_one hx
      obtain ⟨xk, hxk⟩ : ∃ k, k = kdN l x := ⟨_, rfl⟩
      obtain ⟨xl, hxl⟩ : ∃ k, k = lcN l x := ⟨_, rfl⟩
      rw [← hxk] at u0
      rw [← hxl] at u1
      have HX : Hid (wrB l loc x = ((xk == 4) && (xl == loc)) ∧ L.take (j + 1) = L.take j ++ [x]) := ⟨by unfold wrB; rw [hxk, hxl], htk⟩
      have i1 : (j : Int) < (m : Int) := by omega
      have i2 : (x : Int) < (n : Int) := by omega
      have i3 : (j : Int) ≥ 0 := by omega
      clear hx hxe hbb htk hxk hxl hs
      have HKb : Hid (Keeps None w (W.alloc (.cells #[.int .i64 xk, .int .i64 xl] 26))) := HK.out.andAlloc _
      by_cases e1 : xk = 4
      · by_cases e2 : xl = loc
        · have HV : Hid (lwV l L loc = (x : Int)) := by
            rw [← HL.out, HX.out.2]
            exact lw_hit (by rw [HX.out.1]; simp [e1, e2])
          subst e1 e2
          have hgc' := (Keeps.alloc None W (.cells #[.int .i64 4, .int .i64 xl] 26)).cell hgc (fun f => f)
          go_wp2_with fail
          go_ret
          exact ⟨by rw [HV.out]; rfl, HKb.out⟩
        · have HN : Hid (lwV l (L.take j) loc = lwV l L loc) := by
            rw [← HL.out, HX.out.2]
            exact (lw_miss (by rw [HX.out.1]; simp [e2])).symm
          subst e1
          have b2 : (xl == loc) = false := by simp [e2]
          clear e2
          go_wp2_with fail
          go_roundw
          case rel => exact ⟨j, by omega, by go_num, HN, HKb⟩
          case measure => first | (simp [intOf]; done) | (simp [intOf]; omega)
      · have HN : Hid (lwV l (L.take j) loc = lwV l L loc) := by
          rw [← HL.out, HX.out.2]
          exact (lw_miss (by rw [HX.out.1]; simp [e1])).symm
        have b1 : (xk == 4) = false := by simp [e1]
        clear e1
        go_wp2_with fail
        go_roundw
        case rel => exact ⟨j, by omega, by go_num, HN, HKb⟩
        case measure => first | (simp [intOf]; done) | (simp [intOf]; omega)
end Go.Proofs.Ytolhojagbiaamab
/-! A sync behind each return: nothing is parallel. -/
namespace Go.Proofs.Ytolhojagbiaamab
set_option linter.unusedVariables false
set_option maxRecDepth 20000
set_option linter.unusedSimpArgs false
open Go.RowKit Go.HeapKit

def serX (x : Dd) : List Dd := if x.k = 1 then [x, ⟨2, 0⟩] else [x]
/-- The list with a sync behind each return. -/
def serL (l : List Dd) : List Dd := l.flatMap serX
theorem serL_cons (x : Dd) (l : List Dd) : serL (x :: l) = serX x ++ serL l := rfl
theorem serX_one {x : Dd} (h : x.k = 1) : serX x = [x, ⟨2, 0⟩] := by unfold serX; rw [if_pos h]
theorem serX_no {x : Dd} (h : ¬ x.k = 1) : serX x = [x] := by unfold serX; rw [if_neg h]
theorem serL_take {l : List Dd} {k : Nat} {x : Dd} (h : l[k]? = some x) : serL (l.take (k + 1)) = serL (l.take k) ++ serX x := by
  obtain ⟨h1, h2⟩ := List.getElem?_eq_some_iff.1 h
  have : l.take (k + 1) = l.take k ++ [x] := by rw [← h2]; simp
  rw [this]
  unfold serL
  rw [List.flatMap_append]
  simp
theorem serL_len (l : List Dd) : (serL l).length ≤ 2 * l.length := by
  induction l with
  | nil => simp [serL]
  | cons x l ih =>
    rw [serL_cons]
    by_cases h : x.k = 1
    · rw [serX_one h]; simp; omega
    · rw [serX_no h]; simp; omega
def runT : Nat → List Tk → List Dd → List Tk
  | _, st, [] => st
  | i, st, x :: l => runT (i + 1) (stepT i x.k st) l
theorem run_st (L : List Dd) : ∀ (m n : Nat), n + m = L.length → runT n (stN L n) (L.drop n) = stN L L.length
  | 0, n, h => by
    have : n = L.length := by omega
    subst this
    rw [List.drop_length]
    rfl
  | m + 1, n, h => by
    have hn : n < L.length := by omega
    rw [List.drop_eq_getElem_cons hn]
    have := run_st L m (n + 1) (by omega)
    rw [← this]
    show runT (n + 1) (stepT n L[n].k (stN L n)) _ = runT (n + 1) (stepT n (L.getD n ⟨3, 0⟩).k (stN L n)) _
    rw [getD_at hn]
theorem oof_nil : ∀ {st : List Tk}, (∀ t ∈ st, t.O = []) → Oof st = []
  | [], _ => rfl
  | t :: r, h => by
    show t.O ++ Oof r = []
    rw [h t (by simp), oof_nil (fun t ht => h t (by simp [ht]))]
    rfl
theorem range_put (i : Nat) : List.range (i + 1) = List.range i ++ [i] := List.range_succ
theorem ser_run : ∀ (l : List Dd) (i d j : Nat) (st : List Tk), chkL l j d = none → st.length = d + 1 → Cof st = List.range i → (∀ t ∈ st, t.O = []) → Cof (runT i st (serL l)) = List.range (i + (serL l).length) ∧ ∀ t ∈ runT i st (serL l), t.O = []
  | [], i, d, j, st, _, _, h1, h2 => ⟨by simpa [serL, runT] using h1, by simpa [serL, runT] using h2⟩
  | x :: l, i, d, j, st, hc, hl, h1, h2 => by
    rw [serL_cons]
    unfold chkL at hc
    split at hc
    · cases hc
    rename_i hb
    obtain ⟨t, r, rfl⟩ : ∃ t r, st = t :: r := by
      cases st with
      | nil => simp at hl
      | cons t r => exact ⟨t, r, rfl⟩
    have ht : t.O = [] := h2 t (by simp)
    have hr : ∀ u ∈ r, u.O = [] := fun u hu => h2 u (by simp [hu])
    have hC : Cof r ++ t.P = List.range i := h1
    by_cases k0 : x.k = 0
    · rw [serX_no (by omega)]
      have := ser_run l (i + 1) (d + 1) (j + 1) (⟨[], [], []⟩ :: ⟨t.P ++ [i], t.O, t.Out⟩ :: r) (by simpa [nxtK, k0] using hc) (by simp at hl ⊢; omega)
        (by show (Cof r ++ (t.P ++ [i])) ++ [] = _; rw [range_put, ← hC]; simp) (by
          intro u hu
          simp at hu
          rcases hu with rfl | rfl | hu
          · rfl
          · exact ht
          · exact hr u hu)
      show Cof (runT (i + 1) (stepT i x.k (t :: r)) (serL l)) = _ ∧ ∀ u ∈ runT (i + 1) (stepT i x.k (t :: r)) (serL l), u.O = []
      rw [k0, st0]
      refine ⟨this.1.trans (congrArg List.range ?_), this.2⟩
      simp
      omega
    · by_cases k1 : x.k = 1
      · rw [serX_one k1]
        have hd : ¬ d = 0 := fun e => hb (by unfold badK; simp [k1, e])
        obtain ⟨u, r', rfl⟩ : ∃ u r', r = u :: r' := by
          cases r with
          | nil => simp at hl; omega
          | cons u r' => exact ⟨u, r', rfl⟩
        have hu := hr u (by simp)
        have hC2 : (Cof r' ++ u.P) ++ t.P = List.range i := hC
        have := ser_run l (i + 2) (d - 1) (j + 1) (⟨u.P ++ ((t.P ++ t.O ++ [i]) ++ u.O) ++ [i + 1], [], []⟩ :: r') (by simpa [nxtK, k1] using hc) (by simp at hl ⊢; omega)
          (by show Cof r' ++ (u.P ++ ((t.P ++ t.O ++ [i]) ++ u.O) ++ [i + 1]) = _; rw [range_put, range_put, ← hC2, ht, hu]; simp) (by
            intro v hv
            simp at hv
            rcases hv with rfl | hv
            · rfl
            · exact hr v (by simp [hv]))
        show Cof (runT (i + 1 + 1) (stepT (i + 1) 2 (stepT i x.k (t :: u :: r'))) (serL l)) = _ ∧ ∀ v ∈ runT (i + 1 + 1) (stepT (i + 1) 2 (stepT i x.k (t :: u :: r'))) (serL l), v.O = []
        rw [k1, st1, st2]
        refine ⟨this.1.trans (congrArg List.range ?_), this.2⟩
        simp
        omega
      · rw [serX_no k1]
        by_cases k2 : x.k = 2
        · have := ser_run l (i + 1) d (j + 1) (⟨t.P ++ t.O ++ [i], [], []⟩ :: r) (by simpa [nxtK, k2] using hc) (by simpa using hl)
            (by show Cof r ++ (t.P ++ t.O ++ [i]) = _; rw [range_put, ← hC, ht]; simp) (by
              intro u hu
              simp at hu
              rcases hu with rfl | hu
              · rfl
              · exact hr u hu)
          show Cof (runT (i + 1) (stepT i x.k (t :: r)) (serL l)) = _ ∧ ∀ u ∈ runT (i + 1) (stepT i x.k (t :: r)) (serL l), u.O = []
          rw [k2, st2]
          refine ⟨this.1.trans (congrArg List.range ?_), this.2⟩
          simp
          omega
        · have := ser_run l (i + 1) d (j + 1) (⟨t.P ++ [i], t.O, t.Out⟩ :: r) (by simpa [nxtK, k0, k1] using hc) (by simpa using hl)
            (by show Cof r ++ (t.P ++ [i]) = _; rw [range_put, ← hC]; simp) (by
              intro u hu
              simp at hu
              rcases hu with rfl | hu
              · exact ht
              · exact hr u hu)
          show Cof (runT (i + 1) (stepT i x.k (t :: r)) (serL l)) = _ ∧ ∀ u ∈ runT (i + 1) (stepT i x.k (t :: r)) (serL l), u.O = []
          rw [st3 _ _ _ _ k0 k1 k2]
          refine ⟨this.1.trans (congrArg List.range ?_), this.2⟩
          simp
          omega
theorem ser_chkL : ∀ (l : List Dd) (i d j : Nat), chkL l i d = none → chkL (serL l) j d = none
  | [], i, d, j, _ => rfl
  | x :: l, i, d, j, h => by
    rw [serL_cons]
    unfold chkL at h
    split at h
    · cases h
    rename_i hb
    by_cases k1 : x.k = 1
    · rw [serX_one k1]
      show chkL (x :: ⟨2, 0⟩ :: serL l) j d = none
      unfold chkL
      rw [if_neg hb]
      unfold chkL
      rw [if_neg (by simp [badK])]
      exact ser_chkL l (i + 1) _ _ (by simpa [nxtK] using h)
    · rw [serX_no k1]
      show chkL (x :: serL l) j d = none
      unfold chkL
      rw [if_neg hb]
      exact ser_chkL l (i + 1) _ _ h
theorem ser_chk {l : List Dd} (h : chkE l = 0) (hl : (serL l).length ≤ 4096) : chkE (serL l) = 0 :=
  (chk_none (by omega) (ser_chkL l 0 0 0 (chk_fine h).2.1)).1
theorem ser_row {l : List Dd} (h : chkE l = 0) : Lof (stN (serL l) (serL l).length) = List.range (serL l).length := by
  obtain ⟨h1, h2⟩ := ser_run l 0 0 0 [⟨[], [], []⟩] (chk_fine h).2.1 rfl rfl (by simp)
  have e := run_st (serL l) (serL l).length 0 (by omega)
  rw [List.drop_zero] at e
  have e2 : stN (serL l) 0 = [⟨[], [], []⟩] := rfl
  rw [e2] at e
  rw [e] at h1 h2
  unfold Lof
  rw [h1, oof_nil h2]
  simp
theorem idx_rng {n v : Nat} (hv : v < n) : (List.range n).idxOf v = v := by
  have h := (List.nodup_range (n := n)).idxOf_getElem v (by simpa using hv)
  simpa using h
theorem ser_ah {l : List Dd} (h : chkE l = 0) (hl : (serL l).length ≤ 4096) {m i : Nat} (hi : i < (serL l).length) (hm : m < i) : Ah (serL l) m i := by
  rw [ah_row (ser_chk h hl) hi, ser_row h, idx_rng hi, idx_rng (by omega)]
  exact ⟨hm, hm⟩
theorem ser_none {l : List Dd} (h : chkE l = 0) (hl : (serL l).length ≤ 4096) : ∀ n, n < (serL l).length → rcB (serL l) n = false := fun n hn => by
  cases hb : rcB (serL l) n with
  | false => rfl
  | true =>
    obtain ⟨z, hz, hr⟩ := (rcB_iff _ _).1 hb
    exact absurd (ser_ah h hl hn hz) hr.2.2.2.2
theorem ser_par {l : List Dd} (h : chkE l = 0) (hl : (serL l).length ≤ 4096) {i j : Nat} (hi : i < (serL l).length) (hj : j < (serL l).length) : parB (serL l) i j = false ∧ parE (serL l) i j = 0 := by
  obtain ⟨p1, p2⟩ := par_in (i := i) (j := j) (ser_chk h hl) hi hj
  refine ⟨?_, p2⟩
  rw [p1, ser_row h, idx_rng (by omega), idx_rng (by omega)]
  simp
  omega
theorem det_none {l : List Dd} (hc : chkE l = 0) (hno : ∀ n, n < l.length → rcB l n = false) {Z : List Int} (hd : DetL l Z) : Z = [] := by
  cases Z with
  | nil => rfl
  | cons x xs =>
    obtain ⟨k, h1, h2, _⟩ := ((hd.1 hc).2 x).1 (by simp)
    rw [hno k h1] at h2
    cases h2
end Go.Proofs.Ytolhojagbiaamab
/-! The walk of RacesCalm. -/
namespace Go.Proofs.Ytolhojagbiaamab
set_option linter.unusedVariables false
set_option maxRecDepth 20000
set_option linter.unusedSimpArgs false
open Go.RowKit Go.HeapKit

/-- The picks, as they are read. -/
def PkS (w : World) (b : Option Addr) (m : Nat) : Prop := 0 < m → ∃ bb off, b = some ⟨bb, off, none⟩ ∧ bb < w.heap.size ∧ ∀ k, k < m → ∃ z, w.cell? ⟨bb, off + k, none⟩ = some (.int .i64 z)
theorem PkS.more {w w' : World} {b : Option Addr} {m : Nat} (h : PkS w b m) (hk : Keeps None w w') : PkS w' b m := fun h0 => by
  obtain ⟨bb, off, e, hlt, hc⟩ := h h0
  refine ⟨bb, off, e, Nat.lt_of_lt_of_le hlt hk.size, fun k hk2 => ?_⟩
  obtain ⟨z, hz⟩ := hc k hk2
  exact ⟨z, hk.cell hz (fun f => f)⟩
set_option maxHeartbeats 1600000 in
theorem calm_bad (a b : Option Addr) (n c m d : Nat) (l : List Dd) (w : World) (hS : Seen w a n l) (hn : (n + 2) * 16 ≤ 140737488355328) (hE : ¬ chkE l = 0 ∨ n > 300) :
    Calls Try.prog 5 #[.slice a n c, .slice b m d] w fun e w' => e = .returned (.bool true) ∧ Keeps None w w' := by
  obtain ⟨E, hEe⟩ : ∃ E, E = chkE l := ⟨_, rfl⟩
  have HDe : Hid _ := detect_is E a n c l w hEe.symm hS
  have HHe : Hid (∀ w', Calls Try.prog 8 #[] w' fun e w'' => e = .returned (.bool true) ∧ Keeps None w' w'') := head_ok
  have HSo : Hid (∀ w', Keeps None w w' → Calls Try.prog 7 #[.slice a n c] w' fun e w'' => e = .returned (.bool (decide (E = 0))) ∧ w'' = w') := fun w' hk => sound_is E _ rfl a n c l w' hEe.symm (hS.more hk) hn
  by_cases hE0 : E = 0
  · have i1 : (n : Int) > 300 := by
      rcases hE with h | h
      · exact absurd (hEe.symm.trans hE0) h
      · omega
    subst hE0
    clear hS hE hEe
    go_enter Try.func5, Try.ntmps5
    go_upto_region 2 with (go_at_call 9; refine Calls.mono HDe.out ?_; rintro _ w1 ⟨v, Z, rfl, hr, hd, hk1⟩)
    have HS1 : Hid _ := HSo.out w1 hk1
    have HK1 : Hid (Keeps None w w1) := hk1
    clear hr hd hk1
    go_wp2_with (first | (go_at_call 7; refine Calls.mono HS1.out ?_; rintro _ w2 ⟨rfl, rfl⟩) | (go_at_call 8; refine Calls.mono (HHe.out _) ?_; rintro _ w3 ⟨rfl, hk3⟩))
    go_ret
    exact ⟨rfl, HK1.out.trans hk3 (fun _ f _ => f)⟩
  · rw [decide_eq_false hE0] at HSo
    clear hS hE hEe
    go_enter Try.func5, Try.ntmps5
    go_upto_region 2 with (go_at_call 9; refine Calls.mono HDe.out ?_; rintro _ w1 ⟨v, Z, rfl, hr, hd, hk1⟩)
    have HS1 : Hid _ := HSo.out w1 hk1
    have HK1 : Hid (Keeps None w w1) := hk1
    clear hr hd hk1
    go_wp2_with (first | (go_at_call 7; refine Calls.mono HS1.out ?_; rintro _ w2 ⟨rfl, rfl⟩) | (go_at_call 8; refine Calls.mono (HHe.out _) ?_; rintro _ w3 ⟨rfl, hk3⟩))
    go_ret
    exact ⟨rfl, HK1.out.trans hk3 (fun _ f _ => f)⟩
set_option maxHeartbeats 1600000 in
theorem calm_some (a b : Option Addr) (n c m d : Nat) (l : List Dd) (w : World) (hS : Seen w a n l) (hn : (n + 2) * 16 ≤ 140737488355328) (hE : chkE l = 0) (h3 : ¬ n > 300) (p q : Nat) (hF : FirstP l p q) :
    Calls Try.prog 5 #[.slice a n c, .slice b m d] w fun e w' => e = .returned (.bool true) ∧ Keeps None w w' := by
  have HDe : Hid _ := detect_is 0 a n c l w hE hS
  have HHe : Hid (∀ w', Calls Try.prog 8 #[] w' fun e w'' => e = .returned (.bool true) ∧ Keeps None w' w'') := head_ok
  have HSo : Hid (∀ w', Keeps None w w' → Calls Try.prog 7 #[.slice a n c] w' fun e w'' => e = .returned (.bool true) ∧ w'' = w') := fun w' hk => sound_is 0 _ rfl a n c l w' hE (hS.more hk) hn
  have i1 : ¬ (n : Int) > 300 := by omega
  have HF : Hid (FirstP l p q ∧ chkE l = 0) := ⟨hF, hE⟩
  clear hS hE hF
  go_enter Try.func5, Try.ntmps5
  go_upto_region 2 with (go_at_call 9; refine Calls.mono HDe.out ?_; rintro _ w1 ⟨v, Z, rfl, hr, hd, hk1⟩)
  obtain ⟨az, cz, rfl, _⟩ := hr.shape
  have hz : 0 < Z.length := List.length_pos_of_mem (((hd.1 HF.out.2).2 _).2 ⟨p, HF.out.1.lt, HF.out.1.rc, rfl⟩)
  obtain ⟨nz, hnz⟩ : ∃ nz, nz = Z.length := ⟨_, rfl⟩
  rw [← hnz] at hz
  rw [← hnz]
  have i2 : (nz : Int) > 0 := by omega
  have HS1 : Hid _ := HSo.out w1 hk1
  have HK1 : Hid (Keeps None w w1) := hk1
  clear hr hd hk1 hnz
  go_wp2_with (first | (go_at_call 7; refine Calls.mono HS1.out ?_; rintro _ w2 ⟨rfl, rfl⟩) | (go_at_call 8; refine Calls.mono (HHe.out _) ?_; rintro _ w3 ⟨rfl, hk3⟩))
  go_ret
  exact ⟨rfl, HK1.out.trans hk3 (fun _ f _ => f)⟩
theorem CrM.make {w0 w : World} {C T : Nat} {dv : Value} {K : Nat → Value} {L : Nat → List Int} (h : CrM w0 w C T dv K L) {k : Nat} (hk : 3 ≤ k) (hk6 : k < 6) : CrM w0 (w.alloc (.cells #[] 3)) C T dv (updF K k (.slice (some ⟨w.heap.size, 0, none⟩) 0 0)) (updF L k []) := by
  have hA := h.more (Keeps.alloc None w (.cells #[] 3))
  have hb := heap_alloc_new w (.cells #[] 3)
  refine ⟨by rw [updF_ne (by omega), updF_ne (by omega), updF_ne (by omega)]; exact hA.blk, h.cb, ?_, ⟨fun j => ?_, fun i j b hij hbi => ?_⟩, hA.kp, fun t ht => by rw [updF_ne (by omega)]; exact h.nz t ht⟩
  · have e : (List.range T).map (fun t => updF K k (.slice (some ⟨w.heap.size, 0, none⟩) 0 0) (6 + t)) = (List.range T).map (fun t => K (6 + t)) := by
      apply List.map_congr_left
      intro t _
      rw [updF_ne (by omega)]
    rw [e]
    exact hA.out
  · by_cases hj : j = k
    · subst hj
      rw [updF_eq, updF_eq]
      exact ⟨rfl, .inr ⟨w.heap.size, 0, #[], rfl, h.kp.size, hb, Nat.le_refl _, by unfold maxLen; omega, rfl, rfl⟩⟩
    · rw [updF_ne hj, updF_ne hj]; exact hA.rz.row j
  · have hnew : ∀ j, (K j).ownBlock ≠ some w.heap.size := fun j e => by have := own_lt (h.rz.row j) e; omega
    by_cases hi : i = k
    · subst hi
      rw [updF_eq] at hbi
      simp [Value.ownBlock] at hbi
      subst hbi
      rw [updF_ne (Ne.symm hij)]
      exact hnew j
    · rw [updF_ne hi] at hbi
      by_cases hj : j = k
      · subst hj
        rw [updF_eq]
        simp [Value.ownBlock]
        intro e
        subst e
        exact hnew i hbi
      · rw [updF_ne hj]; exact h.rz.apart i j b hij hbi
theorem CrP.upd {s : Cw} {dn : Nat → Nat} {L : Nat → List Int} (h : CrP s dn L) {k : Nat} (hk : 3 ≤ k) (hk6 : k < 6) (v : List Int) : CrP s dn (updF L k v) :=
  ⟨by rw [updF_ne (by omega)]; exact h.dn, by rw [updF_ne (by omega)]; exact h.par, by rw [updF_ne (by omega)]; exact h.bo, fun t => by rw [updF_ne (by omega)]; exact h.D t⟩
theorem CrP.one {s : Cw} {dn : Nat → Nat} {L : Nat → List Int} (h : CrP s dn L) {t : Nat} (ht : t < s.T) : CrP s (updF dn t (dn t + 1)) (updF L 0 ((L 0).set t ((dn t : Int) + 1))) := by
  refine ⟨?_, by rw [updF_ne (by omega)]; exact h.par, by rw [updF_ne (by omega)]; exact h.bo, fun t => by rw [updF_ne (by omega)]; exact h.D t⟩
  rw [updF_eq, h.dn]
  apply List.ext_getElem
  · simp
  · intro i h1 h2
    rw [List.getElem_set]
    by_cases e : t = i
    · subst e; simp [updF]
    · rw [if_neg e]
      have : ¬ i = t := fun f => e f.symm
      simp [updF, this]
def lenV : Value → Nat
  | .slice _ q _ => q
  | _ => 0
theorem nodup_len : ∀ (n : Nat) (L : List Nat), L.Nodup → (∀ x ∈ L, x < n) → L.length ≤ n
  | 0, L, _, h => by
    cases L with
    | nil => simp
    | cons x L => exact absurd (h x (by simp)) (by omega)
  | n + 1, L, hn, h => by
    by_cases hx : n ∈ L
    · have h1 := nodup_len n (L.erase n) (hn.erase n) (fun x hx2 => by
        have h3 := h x (List.mem_of_mem_erase hx2)
        have h4 : x ≠ n := fun e => by subst e; exact (List.Nodup.not_mem_erase hn) hx2
        omega)
      have h2 := List.length_erase_of_mem hx
      omega
    · have := nodup_len n L hn (fun x hx2 => by have h3 := h x hx2; have h4 : x ≠ n := fun e => hx (e ▸ hx2); omega)
      omega
theorem CrM.sees {w0 w : World} {C T : Nat} {dv : Value} {K : Nat → Value} {L : Nat → List Int} (h : CrM w0 w C T dv K L) {k : Nat} {a : Option Addr} {m c : Nat} {N : List Nat} (hK : K k = .slice a m c) (hL : L k = natZ N) : SeesI w a m N := by
  obtain ⟨a', c', e, hn⟩ := h.num k
  rw [hK] at e
  injection e with e1 e2 e3
  subst e1
  refine ⟨by rw [e2, hL, natZ_len], fun i x hx => ?_⟩
  obtain ⟨g, h1, h2, _⟩ := hn i (x : Int) (by rw [hL]; unfold natZ; rw [List.getElem?_map, hx]; rfl)
  exact ⟨g, h1, h2⟩
theorem filt_put (f : Nat → Bool) (t : Nat) : (List.range (t + 1)).filter f = (List.range t).filter f ++ (if f t = true then [t] else []) := by
  rw [List.range_succ, List.filter_append]
  by_cases h : f t = true
  · rw [if_pos h, List.filter_cons_of_pos h]; rfl
  · rw [if_neg h, List.filter_cons_of_neg h]; rfl
theorem CrM.cap {w0 w : World} {C T : Nat} {dv : Value} {K : Nat → Value} {L : Nat → List Int} (h : CrM w0 w C T dv K L) {k : Nat} {a : Option Addr} {m c : Nat} (hK : K k = .slice a m c) : m ≤ c := by
  have hr := h.rz.row k
  rw [hK] at hr
  rcases hr.2 with ⟨e, _⟩ | ⟨g, cap, cur, e, hb, hg, hn, _⟩
  · injection e with e1 e2 e3
    omega
  · injection e with e1 e2 e3
    omega
/-- What the law's loop holds. -/
structure CalS (l : List Dd) (s : Cw) (w1 wr : World) (C T : Nat) (dn : Nat → Nat) (dl : List Nat) (a3 : Option Addr) (n c3 : Nat) (a4 : Option Addr) (q c4 : Nat) (a5 : Option Addr) (q5 c5 : Nat) (M : List Nat) : Prop where
  ex : ∃ dv K L, K 3 = .slice a3 n c3 ∧ K 4 = .slice a4 q c4 ∧ K 5 = .slice a5 q5 c5 ∧ CrM w1 wr C T dv K L ∧ CrP s dn L ∧ L 3 = natZ (List.range n) ∧ L 4 = natZ dl ∧ L 5 = natZ M
  si : SI l s dn dl
  q : q = dl.length
  q5 : q5 = M.length
section
variable {l : List Dd} {s : Cw} {w1 wr w' : World} {C T : Nat} {dn : Nat → Nat} {dl : List Nat} {a3 : Option Addr} {n c3 : Nat} {a4 : Option Addr} {q c4 : Nat} {a5 : Option Addr} {q5 c5 : Nat} {M : List Nat}
theorem CalS.more (h : CalS l s w1 wr C T dn dl a3 n c3 a4 q c4 a5 q5 c5 M) (hk : Keeps None wr w') : CalS l s w1 w' C T dn dl a3 n c3 a4 q c4 a5 q5 c5 M := by
  obtain ⟨⟨dv, K, L, e1, e2, e3, e4, e5⟩, h2, h3, h4⟩ := h
  exact ⟨⟨dv, K, L, e1, e2, e3, e4.more hk, e5⟩, h2, h3, h4⟩
theorem CalS.kp (h : CalS l s w1 wr C T dn dl a3 n c3 a4 q c4 a5 q5 c5 M) : Keeps None w1 wr := by
  obtain ⟨⟨dv, K, L, e1, e2, e3, e4, e5⟩, _⟩ := h
  exact e4.kp
theorem CalS.clr (h : CalS l s w1 wr C T dn dl a3 n c3 a4 q c4 a5 q5 c5 M) : CalS l s w1 wr C T dn dl a3 n c3 a4 q c4 none 0 0 [] := by
  obtain ⟨⟨dv, K, L, e1, e2, e3, e4, e5, e6, e7, e8⟩, h2, h3, h4⟩ := h
  exact ⟨⟨dv, _, _, by rw [updF_ne (by omega)]; exact e1, by rw [updF_ne (by omega)]; exact e2, updF_eq _ _ _, e4.clear (k := 5) (by omega) (by omega), e5.upd (by omega) (by omega) _, by rw [updF_ne (by omega)]; exact e6, by rw [updF_ne (by omega)]; exact e7, updF_eq _ _ _⟩, h2, h3, rfl⟩
/-- One more that may go on. -/
theorem CalS.may (h : CalS l s w1 wr C T dn dl a3 n c3 a4 q c4 a5 q5 c5 M) (t : Nat) (hl : q5 ≤ 100000) :
    ∃ g cap w', (Builtin.append_ #[35, 35] 35 #[.slice a5 q5 c5, .slice (some ⟨wr.heap.size, 0, none⟩) 1 1]).run Try.prog (wr.alloc (.cells #[.int .i64 (t : Nat)] 3)) = .ok (.slice (some ⟨g, 0, none⟩) (q5 + 1) cap) w' ∧ Hid (CalS l s w1 w' C T dn dl a3 n c3 a4 q c4 (some ⟨g, 0, none⟩) (q5 + 1) cap (M ++ [t])) := by
  obtain ⟨⟨dv, K, L, e1, e2, e3, e4, e5, e6, e7, e8⟩, h2, h3, h4⟩ := h
  have hlen : (L 5).length = q5 := by rw [e8, natZ_len, h4]
  obtain ⟨g, cap, w', hr, HN⟩ := e4.own (k := 5) (by omega) (by omega) (t : Int) (by omega)
  rw [e3, hlen] at hr
  rw [hlen] at HN
  exact ⟨g, cap, w', hr, ⟨dv, _, _, by rw [updF_ne (by omega)]; exact e1, by rw [updF_ne (by omega)]; exact e2, updF_eq _ _ _, HN.out, e5.upd (by omega) (by omega) _, by rw [updF_ne (by omega)]; exact e6, by rw [updF_ne (by omega)]; exact e7, by rw [updF_eq, e8, natZ_put]⟩, h2, h3, by simp [h4]⟩
/-- One more is done. -/
theorem CalS.did (h : CalS l s w1 wr C T dn dl a3 n c3 a4 q c4 a5 q5 c5 M) (x : Nat) (dn' : Nat → Nat) (hsi : SI l s dn' (dl ++ [x])) (hcp : ∃ dv K L, K 3 = .slice a3 n c3 ∧ K 4 = .slice a4 q c4 ∧ K 5 = .slice a5 q5 c5 ∧ CrM w1 w' C T dv K L ∧ CrP s dn' L ∧ L 3 = natZ (List.range n) ∧ L 4 = natZ dl ∧ L 5 = natZ M) (hl : q ≤ 100000) :
    ∃ g cap w2, (Builtin.append_ #[35, 35] 35 #[.slice a4 q c4, .slice (some ⟨w'.heap.size, 0, none⟩) 1 1]).run Try.prog (w'.alloc (.cells #[.int .i64 (x : Nat)] 3)) = .ok (.slice (some ⟨g, 0, none⟩) (q + 1) cap) w2 ∧ Hid (CalS l s w1 w2 C T dn' (dl ++ [x]) a3 n c3 (some ⟨g, 0, none⟩) (q + 1) cap a5 q5 c5 M) := by
  obtain ⟨dv, K, L, e1, e2, e3, e4, e5, e6, e7, e8⟩ := hcp
  have hlen : (L 4).length = q := by rw [e7, natZ_len, h.q]
  obtain ⟨g, cap, w2, hr, HN⟩ := e4.own (k := 4) (by omega) (by omega) (x : Int) (by omega)
  rw [e2, hlen] at hr
  rw [hlen] at HN
  exact ⟨g, cap, w2, hr, ⟨dv, _, _, by rw [updF_ne (by omega)]; exact e1, updF_eq _ _ _, by rw [updF_ne (by omega)]; exact e3, HN.out, e5.upd (by omega) (by omega) _, by rw [updF_ne (by omega)]; exact e6, by rw [updF_eq, e7, natZ_put], by rw [updF_ne (by omega)]; exact e8⟩, hsi, by simp [h.q], h.q5⟩
end
set_option maxHeartbeats 8000000 in
theorem calm_good (a b : Option Addr) (n c m d : Nat) (l : List Dd) (w : World) (hS : Seen w a n l) (hB : PkS w b m) (hn : (n + 2) * 16 ≤ 140737488355328) (hm : m ≤ 140737488355328) (hE : chkE l = 0) (h3 : ¬ n > 300) (hno : ∀ n, n < l.length → rcB l n = false) :
    Calls Try.prog 5 #[.slice a n c, .slice b m d] w fun e w' => e = .returned (.bool true) ∧ Keeps None w w' := by
  have HDe : Hid _ := detect_is 0 a n c l w hE hS
  have HHe : Hid (∀ w', Calls Try.prog 8 #[] w' fun e w'' => e = .returned (.bool true) ∧ Keeps None w' w'') := head_ok
  have HSo : Hid (∀ w', Keeps None w w' → Calls Try.prog 7 #[.slice a n c] w' fun e w'' => e = .returned (.bool true) ∧ w'' = w') := fun w' hk => sound_is 0 _ rfl a n c l w' hE (hS.more hk) hn
  have i1 : ¬ (n : Int) > 300 := by omega
  have HF : Hid (chkE l = 0 ∧ (∀ n, n < l.length → rcB l n = false) ∧ Seen w a n l ∧ PkS w b m ∧ n = l.length) := ⟨hE, hno, hS, hB, hS.len⟩
  clear hS hE hno hB
  go_enter Try.func5, Try.ntmps5
  go_upto_region 2 with (go_at_call 9; refine Calls.mono HDe.out ?_; rintro _ w1 ⟨v, Z, rfl, hr, hd, hk1⟩)
  obtain rfl := det_none HF.out.1 HF.out.2.1 hd
  obtain ⟨az, cz, rfl, _⟩ := hr.shape
  have HS1 : Hid _ := HSo.out w1 hk1
  have HK1 : Hid (Keeps None w w1) := hk1
  have HHi : Hid _ := hire_ok a n c l w1 (HF.out.2.2.1.more hk1) (chk_fine HF.out.1).2 (by omega)
  clear hr hd hk1 HDe
  go_upto_region 8 with (go_at_call 7; refine Calls.mono HS1.out ?_; rintro _ w2 ⟨rfl, hw2⟩; have hw3 := hw2.symm; subst hw3; clear hw2)
  go_upto_region 9 with (go_at_call 14; refine Calls.mono HHi.out ?_; rintro _ w3 ⟨C, rfl, hcr⟩)
  go_upto_region 10 with fail
  obtain ⟨s, hs⟩ : ∃ s, s = hireN l n := ⟨_, rfl⟩
  rw [← hs] at hcr
  obtain ⟨T, hT⟩ : ∃ T, T = s.T := ⟨_, rfl⟩
  rw [← hT] at hcr
  obtain ⟨dv, K, L, hM, hP, hEm⟩ := hcr
  have H4 : Hid (∃ K L, K 3 = .slice (some ⟨w3.heap.size, 0, none⟩) 0 0 ∧ K 4 = .slice none 0 0 ∧ K 5 = .slice none 0 0 ∧ CrM w1 (w3.alloc (.cells #[] 3)) C T dv K L ∧ CrP s (fun _ => 0) L ∧ L 3 = natZ (List.range 0) ∧ L 4 = [] ∧ L 5 = []) :=
    ⟨_, _, updF_eq _ _ _, by rw [updF_ne (by omega)]; exact hEm.k.2.1, by rw [updF_ne (by omega)]; exact hEm.k.2.2, hM.make (k := 3) (by omega) (by omega), hP.upd (by omega) (by omega) _, updF_eq _ _ _, by rw [updF_ne (by omega)]; exact hEm.l.2.1, by rw [updF_ne (by omega)]; exact hEm.l.2.2⟩
  obtain ⟨ids, hI⟩ := hire_inv (chk_fine HF.out.1).2 n (by rw [← HF.out.2.2.2.2]; exact Nat.le_refl _)
  obtain ⟨hl1, hl2⟩ := hire_len l n
  rw [← hs] at hI hl1 hl2
  have HI : Hid (HInv l n s ids ∧ T = s.T ∧ ∀ t, (s.D t).length ≤ n) := ⟨hI, hT, hl2⟩
  have hT0 : 0 < T := by rw [hT]; have := hI.nowlt; omega
  have hTn : T ≤ n + 1 := by rw [hT]; exact hl1
  obtain ⟨W4, hW4⟩ : ∃ W4, W4 = w3.alloc (.cells #[] 3) := ⟨_, rfl⟩
  rw [← hW4] at H4
  rw [← hW4]
  obtain ⟨g3, hg3⟩ : ∃ g3, g3 = w3.heap.size := ⟨_, rfl⟩
  rw [← hg3] at H4
  rw [← hg3]
  clear hs hT hM hP hEm hI hl1 hl2 hW4 hg3 HS1 HSo HHi
  go_wp2_with fail
  go_loopw [8, 9] (fun s8 s9 wr => ∃ (k : Nat) (a3 : Option Addr) (c3 : Nat), k ≤ n ∧ s8 = .slice a3 k c3 ∧ s9 = .int .i64 k ∧ Hid (∃ K L, K 3 = .slice a3 k c3 ∧ K 4 = .slice none 0 0 ∧ K 5 = .slice none 0 0 ∧ CrM w1 wr C T dv K L ∧ CrP s (fun _ => 0) L ∧ L 3 = natZ (List.range k) ∧ L 4 = [] ∧ L 5 = [])) (fun _ s9 _ => n - (intOf s9).toNat)
  case atStart => exact ⟨0, _, _, Nat.zero_le _, rfl, rfl, H4⟩
  case round =>
    clear H4
    obtain ⟨k, a3, c3, hk, rfl, rfl, HR⟩ := hrel
    by_cases hkn : k < n
    · obtain ⟨K, L, e1, e2, e3, e4, e5, e6, e7, e8⟩ := HR.out
      have hlen : (L 3).length = k := by rw [e6, natZ_len]; simp
      obtain ⟨g, cap, w5, hr, HN⟩ := e4.own (k := 3) (by omega) (by omega) (k : Int) (by omega)
      rw [e1, hlen] at hr
      rw [hlen] at HN
      have HN2 : Hid (∃ K L, K 3 = .slice (some ⟨g, 0, none⟩) (k + 1) cap ∧ K 4 = .slice none 0 0 ∧ K 5 = .slice none 0 0 ∧ CrM w1 w5 C T dv K L ∧ CrP s (fun _ => 0) L ∧ L 3 = natZ (List.range (k + 1)) ∧ L 4 = [] ∧ L 5 = []) :=
        ⟨_, _, updF_eq _ _ _, by rw [updF_ne (by omega)]; exact e2, by rw [updF_ne (by omega)]; exact e3, HN.out, e5.upd (by omega) (by omega) _, by rw [updF_eq, e6, List.range_succ, natZ_put], by rw [updF_ne (by omega)]; exact e7, by rw [updF_ne (by omega)]; exact e8⟩
      have i2 : (k : Int) < (n : Int) := by omega
      clear e1 e2 e3 e4 e5 e6 e7 e8 hlen HN HR
      go_wp2_with (at_builtin; refine wpList_append_run rfl (.tmp 46) (.tmp 48) 35 35 rfl rfl rfl hr ?_)
      go_roundw
      case rel => exact ⟨k + 1, _, _, by omega, rfl, by go_num, HN2⟩
      case measure => simp [intOf]; omega
    · obtain rfl : k = n := by omega
      have i2 : ¬ (k : Int) < (k : Int) := by omega
      have HQ : Hid (CalS l s w1 wr C T (fun _ => 0) [] a3 k c3 none 0 0 none 0 0 []) := by
        obtain ⟨K, L, e1, e2, e3, e4, e5, e6, e7, e8⟩ := HR.out
        exact ⟨⟨dv, K, L, e1, e2, e3, e4, e5, e6, e7, e8⟩, SI.zero l s, rfl, rfl⟩
      clear HR
      generalize wr = W5 at *
      go_wp2_with fail
      clear i2
      go_loopw [10, 11, 12, 13, 14, 15, 16] (fun s10 _ _ _ _ _ _ wr => ∃ (q : Nat) (a4 : Option Addr) (c4 : Nat) (a5 : Option Addr) (q5 c5 : Nat) (dn : Nat → Nat) (dl M : List Nat), q ≤ k ∧ s10 = .slice a4 q c4 ∧ Hid (CalS l s w1 wr C T dn dl a3 k c3 a4 q c4 a5 q5 c5 M)) (fun s10 _ _ _ _ _ _ _ => k - lenV s10)
      case atStart => exact ⟨0, none, 0, none, 0, 0, _, [], [], Nat.zero_le _, rfl, HQ⟩
      case round =>
        clear HQ
        obtain ⟨q, a4, c4, a5, q5, c5, dn, dl, M, hq, rfl, HQ⟩ := hrel
        by_cases hqn : q < k
        · have HQ1 : Hid _ := HQ.out.clr
          clear HQ
          have i2 : (q : Int) < (k : Int) := by omega
          generalize wr = W6 at *
          go_wp2_with fail
          clear i2
          go_loopw [11, 12, 13] (fun s11 s12 _ wr => ∃ (t : Nat) (a5 : Option Addr) (q5 c5 : Nat), t ≤ T ∧ q5 ≤ t ∧ s12 = .int .i64 t ∧ s11 = .slice a5 q5 c5 ∧ Hid (CalS l s w1 wr C T dn dl a3 k c3 a4 q c4 a5 q5 c5 ((List.range t).filter (rdyB l s dn)))) (fun _ s12 _ _ => T - (intOf s12).toNat)
          case atStart => exact ⟨0, none, 0, 0, Nat.zero_le _, Nat.zero_le _, rfl, rfl, HQ1⟩
          case round =>
            clear HQ1
            obtain ⟨t, b5, p5, d5, ht, hp5, rfl, rfl, HQ⟩ := hrel
            generalize wr = X at *
            obtain ⟨⟨dv', K, L, e1, e2, e3, e4, e5, e6, e7, e8⟩, hsi, hql, hq5⟩ := HQ.out
            obtain ⟨G, cap, g0, c0, g1, c1, g2, c2, hV, hK0, hfr⟩ := e4.view e5 HI.out.2.1 hT0
            have u0 := hV.b0
            by_cases htT : t < T
            · have i2 : (t : Int) < (T : Int) := by omega
              have hRe := ready_ok X C T G cap g0 c0 g1 c1 g2 c2 s dn t a k c l ids hV HI.out.2.1 htT hsi.le (fun t => by have := HI.out.2.2 t; omega) (by omega) HI.out.1 (HF.out.2.2.1.more (HK1.out.trans e4.kp (fun _ f _ => f)))
              obtain ⟨rb, hrb⟩ : ∃ rb, rb = rdyB l s dn t := ⟨_, rfl⟩
              rw [← hrb] at hRe
              have HRe : Hid _ := hRe
              have HRb : Hid (rdyB l s dn t = rb) := hrb.symm
              clear hRe hrb hV hK0 hfr e1 e2 e3 e4 e5 e6 e7 e8 hsi hql hq5
              cases rb with
              | false =>
                go_wp2_with (go_at_call 15; refine Calls.mono HRe.out ?_; rintro _ X2 ⟨rfl, hk2⟩)
                have HN : Hid (CalS l s w1 X2 C T dn dl a3 k c3 a4 q c4 b5 p5 d5 ((List.range (t + 1)).filter (rdyB l s dn))) := by
                  have := HQ.out.more hk2
                  rw [filt_put, if_neg (by rw [HRb.out]; decide), List.append_nil]
                  exact this
                clear hk2
                go_roundw
                case rel => exact ⟨t + 1, _, _, _, by omega, by omega, by go_num, rfl, HN⟩
                case measure => simp [intOf]; omega
              | true =>
                go_upto_region 21 with (go_at_call 15; refine Calls.mono HRe.out ?_; rintro _ X2 ⟨rfl, hk2⟩)
                obtain ⟨g, cp, X3, hr, HN3⟩ := (HQ.out.more hk2).may t (by omega)
                have HN : Hid (CalS l s w1 X3 C T dn dl a3 k c3 a4 q c4 (some ⟨g, 0, none⟩) (p5 + 1) cp ((List.range (t + 1)).filter (rdyB l s dn))) := by
                  have := HN3.out
                  rw [filt_put, if_pos HRb.out]
                  exact this
                clear hk2 HN3
                go_wp2_with (at_builtin; refine wpList_append_run rfl (.tmp 69) (.tmp 71) 35 35 rfl rfl rfl hr ?_)
                go_roundw
                case rel => exact ⟨t + 1, _, _, _, by omega, by omega, by go_num, rfl, HN⟩
                case measure => simp [intOf]; omega
            · obtain rfl : t = T := by omega
              have i2 : ¬ (t : Int) < (t : Int) := by omega
              obtain ⟨tt, xx, htt, hrd⟩ := hsi.prog HI.out.1 (by rw [← hql]; exact hqn)
              have hp0 : 0 < p5 := by
                rw [hq5]
                exact List.length_pos_of_mem (a := tt) (List.mem_filter.2 ⟨by rw [List.mem_range, HI.out.2.1]; exact htt, (rdyB_iff l s dn tt).2 ⟨xx, hrd⟩⟩)
              have i3 : ((p5 : Int) == 0) = false := by simp; omega
              have i4 : ¬ (p5 : Int) = 0 := by omega
              have HHm : Hid (∀ (z : Int) (w' : World), Calls Try.prog 11 #[.int .i64 z, .int .i64 p5] w' fun e w'' => ∃ N : Nat, e = .returned (.int .i64 N) ∧ N < p5 ∧ w'' = w') := fun z w' => lmod_ok z p5 w' hp0 (by omega)
              have HPk : Hid (PkS X b m) := HF.out.2.2.2.1.more (HK1.out.trans e4.kp (fun _ f _ => f))
              clear hV hK0 hfr e1 e2 e3 e4 e5 e6 e7 e8 hsi hql hq5 hrd htt
              go_upto_if 78 with fail
              clear i2 i3 i4
              go_cut [14] (fun s14 wx => ∃ N : Nat, N < p5 ∧ s14 = .int .i64 N ∧ wx = X)
              case first =>
                by_cases hm0 : 0 < m
                · obtain ⟨bb, off, rfl, _, hpc⟩ := HPk.out hm0
                  obtain ⟨z, hz⟩ := hpc (q % m) (Nat.mod_lt _ hm0)
                  have j1 : (m : Int) > 0 := by omega
                  have j2 : ¬ (m : Int) = 0 := by omega
                  have hrem : (q : Int).tmod (m : Int) = ((q % m : Nat) : Int) := rfl
                  obtain ⟨r, hr⟩ : ∃ r, r = q % m := ⟨_, rfl⟩
                  rw [← hr] at hrem hz
                  have j3 : (r : Int) < (m : Int) := by have := Nat.mod_lt q hm0; omega
                  clear hr hpc
                  go_wp2_with (go_at_call 11; refine Calls.mono (HHm.out _ _) ?_; rintro _ wq ⟨N, rfl, hN, hwq⟩; have hwq2 := hwq.symm; subst hwq2; clear hwq)
                  go_meet
                  exact ⟨N, hN, rfl, rfl⟩
                · have j1 : ¬ (m : Int) > 0 := by omega
                  go_wp2_with fail
                  go_meet
                  exact ⟨0, hp0, rfl, rfl⟩
              case rest =>
              obtain ⟨N, hN, rfl, hw⟩ := hcut
              have hw2 := hw.symm
              subst hw2
              clear hw HHm HPk
              obtain ⟨⟨dv', K, L, e1, e2, e3, e4, e5, e6, e7, e8⟩, hsi, hql, hq5⟩ := HQ.out
              obtain ⟨G, cap, g0, c0, g1, c1, g2, c2, hV, hK0, hfr⟩ := e4.view e5 HI.out.2.1 hT0
              have hMl : N < ((List.range t).filter (rdyB l s dn)).length := by rw [← hq5]; exact hN
              obtain ⟨t', ht'⟩ : ∃ t', ((List.range t).filter (rdyB l s dn))[N]? = some t' := ⟨_, List.getElem?_eq_getElem hMl⟩
              obtain ⟨g5, rfl, h5c⟩ := (e4.sees e3 e8).ex N t' ht'
              have hmem := List.mem_of_getElem? ht'
              rw [List.mem_filter, List.mem_range, rdyB_iff] at hmem
              obtain ⟨htt, x, hrd⟩ := hmem
              have hxk : x < k := HI.out.1.lt t' x (List.mem_of_getElem? hrd.nx)
              obtain ⟨at5, ct5, hGt, hct5⟩ := hV.D t' htt
              obtain ⟨gt5, rfl, hgt⟩ := hct5 (dn t') x hrd.nx
              have q0 := hV.b0
              have q1 := hV.b1
              have q2 := hV.dn t' htt
              have hdl : dn t' < (s.D t').length := (List.getElem?_eq_some_iff.1 hrd.nx).1
              have hDl := HI.out.2.2 t'
              obtain ⟨dt, hdt⟩ : ∃ dt, dt = dn t' := ⟨_, rfl⟩
              obtain ⟨lt, hlt⟩ : ∃ lt, lt = (s.D t').length := ⟨_, rfl⟩
              rw [← hdt] at q2 hgt hdl
              rw [← hlt] at hGt hdl hDl
              have HR : Hid (Rdy l s dn t' x ∧ dt = dn t' ∧ k ≤ c3) := ⟨hrd, hdt, e4.cap e1⟩
              have i2 : (N : Int) < (p5 : Int) := by omega
              have i3 : (t' : Int) < (t : Int) := by omega
              have i4 : (dt : Int) < (lt : Int) := by omega
              clear u0 hV hK0 hfr e1 e2 e3 e4 e5 e6 e7 e8 hsi hql hq5 hrd ht' hMl hdt hlt hct5
              go_upto_region 29 with fail
              clear h5c i2
              go_cut [15, 16] (fun s15 s16 wx => s15 = .int .i64 t' ∧ s16 = .int .i64 (x : Nat) ∧ Keeps None X wx)
              case first =>
                go_quiet (fail)
                all_goals (go_wp2_with fail; go_meet)
                all_goals exact ⟨rfl, rfl, keeps_drewN _ _⟩
              case rest =>
              obtain ⟨rfl, rfl, hkY⟩ := hcut
              have HQY : Hid _ := HQ.out.more hkY
              clear hkY HQ q0 q1 q2 hGt hgt i4
              generalize wc = Y at *
              have hSY := HF.out.2.2.1.more (HK1.out.trans HQY.out.kp (fun _ f _ => f))
              obtain ⟨bb, off, hab, hbb, u0, u1⟩ := seen_deed hSY (n := x) hxk
              obtain ⟨xk, hxke⟩ : ∃ k, k = kdN l x := ⟨_, rfl⟩
              obtain ⟨xl, hxle⟩ : ∃ k, k = lcN l x := ⟨_, rfl⟩
              rw [← hxke] at u0
              rw [← hxle] at u1
              have i5 : (x : Int) < (k : Int) := by omega
              have i6 : (x : Int) ≤ (c3 : Int) := by have := HR.out.2.2; omega
              have HXk : Hid (xk = kdN l x ∧ xl = lcN l x) := ⟨hxke, hxle⟩
              have HLa : Hid (∃ lw, ∀ wz, Keeps None Y wz → xk = 3 → (Calls Try.prog 16 #[.slice a k c, .slice a4 q c4, .int .i64 xl] wz fun e w'' => e = .returned (.int .i64 lw) ∧ Keeps None wz w'') ∧ (Calls Try.prog 16 #[.slice a k c, .slice a3 x c3, .int .i64 xl] wz fun e w'' => e = .returned (.int .i64 lw) ∧ Keeps None wz w'')) := by
                obtain ⟨⟨dv', K, L, e1, e2, e3, e4, e5, e6, e7, e8⟩, hsi, hql, hq5⟩ := HQY.out
                refine ⟨lwV l dl xl, fun wz hz h3 => ⟨?_, ?_⟩⟩
                · refine last_ok a a4 k c q c4 l dl xl wz (hSY.more hz) ((e4.sees e2 e7).more hz) (fun y hy => ?_) (by omega)
                  obtain ⟨u, hu⟩ := (hsi.mem y).1 hy
                  exact HI.out.1.lt u y (List.mem_of_mem_take hu)
                · have hrr := hsi.read HF.out.1 (by rw [← HF.out.2.2.2.2]; exact HI.out.1) HF.out.2.1 HR.out.1 (by rw [← HXk.out.1]; exact h3)
                  rw [← HXk.out.2] at hrr
                  rw [hrr]
                  have hse := ((e4.sees e1 e6).take (k := x) (by omega)).more hz
                  have hrg : (List.range k).take x = List.range x := by rw [List.take_range]; congr 1; omega
                  rw [hrg] at hse
                  exact last_ok a a3 k c x c3 l (List.range x) xl wz (hSY.more hz) hse (fun y hy => by rw [List.mem_range] at hy; omega) (by omega)
              subst hab
              clear hSY hbb hxke hxle
              go_upto_region 30 with fail
              go_cut [10, 15, 16, 136] (fun s10 s15 s16 s136 wx => s10 = .slice a4 q c4 ∧ s15 = .int .i64 t' ∧ s16 = .int .i64 (x : Nat) ∧ s136 = .bool false ∧ Keeps None Y wx)
              case first =>
                by_cases hk3 : xk = 3
                · subst hk3
                  obtain ⟨lw, hlw⟩ := HLa.out
                  have HL1 : Hid (∀ wz, Keeps None Y wz → _) := fun wz hz => (hlw wz hz rfl).1
                  have HL2 : Hid (∀ wz, Keeps None Y wz → _) := fun wz hz => (hlw wz hz rfl).2
                  clear HLa hlw
                  have TK : Hid True := trivial
                  go_region_held3 (fun w' => w'.cell? ⟨bb, off + x * 2, none⟩ = some (.int .i64 3) ∧ w'.cell? ⟨bb, off + x * 2 + 1, none⟩ = some (.int .i64 xl)) (first | exact ⟨r2, r3⟩ | exact ⟨r0, r1⟩ | go_keep) (first
                    | (have hz := TK; go_at_call 16; refine Calls.mono (HL1.out _ (Keeps.drew None Y)) ?_; rintro _ w5 ⟨rfl, hk5⟩; have j5 : Keeps None Y w5 := (Keeps.drew None Y).trans hk5 (fun _ f _ => f); have r0 := j5.cell u0 (fun f => f); have r1 := j5.cell u1 (fun f => f); have HJ : Hid (Keeps None Y w5) := j5; clear hk5 j5 TK hz)
                    | (go_at_call 16; refine Calls.mono (HL2.out _ HJ.out) ?_; rintro _ w6 ⟨rfl, hk6⟩; have j6 : Keeps None Y w6 := HJ.out.trans hk6 (fun _ f _ => f); have r2 := j6.cell u0 (fun f => f); have r3 := j6.cell u1 (fun f => f); have HJ6 : Hid (Keeps None Y w6) := j6; clear hk6 j6))
                  all_goals (go_wp2_with fail; go_meet)
                  all_goals exact ⟨rfl, rfl, rfl, by first | rfl | simp, HJ6.out⟩
                · have b3 : (xk == 3) = false := by simp [hk3]
                  clear hk3
                  go_quiet (fail)
                  all_goals (go_wp2_with fail; go_meet)
                  all_goals exact ⟨rfl, rfl, rfl, rfl, keeps_drewN _ _⟩
              case rest =>
              obtain ⟨rfl, rfl, rfl, rfl, hkV⟩ := hcut
              have HQV : Hid _ := HQY.out.more hkV
              clear hkV HQY HLa HXk u0 u1 i5 i6
              generalize wc = V at *
              have hcp : ∃ g0 c0, V.cell? ⟨C, 1, none⟩ = some (.slice (some ⟨g0, 0, none⟩) t c0) ∧ V.cell? ⟨g0, t', none⟩ = some (.int .i64 (dt : Nat)) ∧ V.frozen? ⟨g0, t', none⟩ = false ∧ Hid (∃ dv K L, K 3 = .slice a3 k c3 ∧ K 4 = .slice a4 q c4 ∧ K 5 = .slice (some ⟨g5, 0, none⟩) p5 d5 ∧ CrM w1 (V.drew.setCell ⟨g0, t', none⟩ (.int .i64 ((dt : Int) + 1))) C t dv K L ∧ CrP s (updF dn t' (dn t' + 1)) L ∧ L 3 = natZ (List.range k) ∧ L 4 = natZ dl ∧ L 5 = natZ ((List.range t).filter (rdyB l s dn))) := by
                obtain ⟨⟨dv', K, L, e1, e2, e3, e4, e5, e6, e7, e8⟩, hsi, hql, hq5⟩ := HQV.out
                obtain ⟨G, cap, g0, c0, g1, c1, g2, c2, hV, hK0, hfr⟩ := e4.view e5 HI.out.2.1 hT0
                have hl0 : (L 0).length = t := by rw [e5.dn, ← HI.out.2.1]; simp
                have q2 := hV.dn t' htt
                rw [← HR.out.2.1] at q2
                refine ⟨g0, c0, hV.b1, q2, hfr t', dv', K, _, e1, e2, e3, (e4.more (Keeps.drew None V)).put (k := 0) (by rw [hl0]; exact hK0) t' ((dt : Int) + 1), ?_, by rw [updF_ne (by omega)]; exact e6, by rw [updF_ne (by omega)]; exact e7, by rw [updF_ne (by omega)]; exact e8⟩
                have := e5.one (t := t') (by rw [← HI.out.2.1]; exact htt)
                rw [← HR.out.2.1] at this ⊢
                exact this
              obtain ⟨g0, c0, q1, q2, q3, HCp⟩ := hcp
              have q1' := (Keeps.drew None V).cell q1 (fun f => f)
              have q2' := (Keeps.drew None V).cell q2 (fun f => f)
              have q3' : V.drew.frozen? ⟨g0, t', none⟩ = false := q3
              have hdt : dt ≤ 4096 := by omega
              go_upto_region 32 with fail
              go_cut [10, 16] (fun s10 s16 wx => s10 = .slice a4 q c4 ∧ s16 = .int .i64 (x : Nat) ∧ wx = V.drew.setCell ⟨g0, t', none⟩ (.int .i64 ((dt : Int) + 1)))
              case first =>
                go_region
                all_goals (go_wp2_with fail; go_meet)
                all_goals exact ⟨rfl, rfl, by go_num⟩
              case rest =>
              obtain ⟨rfl, rfl, hwV⟩ := hcut
              rw [← hwV] at HCp
              clear hwV q1 q2 q3 q1' q2' q3'
              generalize wc = U at *
              obtain ⟨g9, cap9, U2, hr9, HN9⟩ := HQV.out.did x (updF dn t' (dn t' + 1)) (HQV.out.si.step HI.out.1 HR.out.1) HCp.out (by omega)
              clear HCp HQV
              go_wp2_with (at_builtin; refine wpList_append_run rfl (.tmp 151) (.tmp 153) 35 35 rfl rfl rfl hr9 ?_)
              go_roundw
              case rel => exact ⟨q + 1, _, _, _, _, _, _, _, _, by omega, rfl, HN9⟩
              case measure => simp [lenV]; omega
        · obtain rfl : q = k := by omega
          have i2 : ¬ (q : Int) < (q : Int) := by omega
          have HK6 : Hid (Keeps None w wr) := HK1.out.trans HQ.out.kp (fun _ f _ => f)
          clear HQ
          go_wp2_with (go_at_call 8; refine Calls.mono (HHe.out _) ?_; rintro _ w9 ⟨rfl, hk9⟩)
          go_ret
          exact ⟨rfl, HK6.out.trans hk9 (fun _ f _ => f)⟩
theorem racesCalm_walk (a b : Option Addr) (n c m d : Nat) (l : List Dd) (w : World) (hS : Seen w a n l) (hB : PkS w b m) (hn : (n + 2) * 16 ≤ 140737488355328) (hm : m ≤ 140737488355328) :
    Calls Try.prog 5 #[.slice a n c, .slice b m d] w fun e w' => e = .returned (.bool true) ∧ Below w.heap.size w w' := by
  have h : Calls Try.prog 5 #[.slice a n c, .slice b m d] w fun e w' => e = .returned (.bool true) ∧ Keeps None w w' := by
    by_cases hE : chkE l = 0
    · by_cases h3 : n > 300
      · exact calm_bad a b n c m d l w hS hn (.inr h3)
      · rcases first_casesP l with ⟨p, q, hF⟩ | hno
        · exact calm_some a b n c m d l w hS hn hE h3 p q hF
        · exact calm_good a b n c m d l w hS hB hn hm hE h3 hno
    · exact calm_bad a b n c m d l w hS hn (.inl hE)
  exact h.mono fun e w' hp => ⟨hp.1, hp.2.below _ (Nat.le_refl _) (fun _ f => f.elim)⟩
theorem picks_of {w : World} {a : Option Addr} {len cap : Nat} {zs : List Int} (h : (a = none ∧ len = 0 ∧ cap = 0 ∧ zs = []) ∨ ∃ x, a = some x ∧ len ≤ cap ∧ cap ≤ maxLen ∧ zs.length = cap ∧ (∀ i, i < zs.length → w.cell? (x.add i) = some (.int .i64 (zs.getD i 0))) ∧ ∀ n ∈ zs, (Lit.int .i64 n).wf = true) : PkS w a len := by
  rcases h with ⟨rfl, rfl, rfl, rfl⟩ | ⟨x, rfl, h1, h2, h3, h4, h5⟩
  · exact fun h => by omega
  · intro h0
    have c0 := h4 0 (by omega)
    have e : x.add 0 = x := by unfold Addr.add; simp
    rw [e] at c0
    have hsp : x.spot = none := by
      unfold World.cell? at c0
      split at c0
      · split at c0
        · cases c0
        · rename_i hs; simpa using hs
      · cases c0
    obtain ⟨bb, off, sp⟩ := x
    simp only at hsp
    subst hsp
    refine ⟨bb, off, rfl, ?_, fun k hk => ⟨zs.getD k 0, ?_⟩⟩
    · cases hb : w.heap[bb]? with
      | none => simp [World.cell?, hb] at c0
      | some o => exact (Array.getElem?_eq_some_iff.1 hb).1
    · have := h4 k (by omega)
      have e2 : (⟨bb, off, none⟩ : Addr).add k = ⟨bb, off + k, none⟩ := by unfold Addr.add; split <;> simp_all
      rw [e2] at this
      exact this
end Go.Proofs.Ytolhojagbiaamab
/-! Structs of 64-bit numbers among the arguments, and slices of them. Whatever the program. -/
namespace Go.HeapKit
open Go.ChangeShapes Go.WideShapes Go.ChangeAt Go.RowKit Go.Deep

section
variable {H : Type} {enc : TypeId × Value → H} {P : Program} {w : World} {base : Nat} {spare : Nat → Bool} {held : Bool}

/-- All fields are 64-bit numbers, one cell each, in order. -/
def allInts (P : Program) (fs : List Field) : Bool :=
  (List.range fs.length).all fun i => match fs[i]? with
    | some f => f.offset == i && (match P.underlying f.type with | some (.int .i64) => true | _ => false) && P.cellsOf f.type == 1
    | none => false
theorem allInts_at {fs : List Field} (h : allInts P fs = true) {i : Nat} {f : Field} (hf : fs[i]? = some f) : f.offset = i ∧ P.underlying f.type = some (.int .i64) ∧ P.cellsOf f.type = 1 := by
  have hi : i < fs.length := (List.getElem?_eq_some_iff.1 hf).1
  have := List.all_eq_true.1 h i (List.mem_range.2 hi)
  rw [hf] at this
  simp only [Bool.and_eq_true, beq_iff_eq] at this
  obtain ⟨⟨h1, h2⟩, h3⟩ := this
  refine ⟨h1, ?_, h3⟩
  split at h2
  · assumption
  · cases h2

theorem struct_ints {t : TypeId} {fs : Array Field} {fuel : Nat} {cs : List Value} {x : DataW H × List MemPlace} (ht : P.underlying t = some (.struct fs)) (ha : allInts P fs.toList = true) (hc : P.cellsOf t = fs.size)
    (h : DataW.trod enc P w base spare held fuel t cs = some x) : ∃ ns : List Int, ns.length = fs.size ∧ cs = ns.map (Value.int .i64) ∧ ∀ n ∈ ns, (Lit.int .i64 n).wf = true := by
  obtain ⟨xs, n, _, rfl, hl, hlen, hf⟩ := DataW.trod_struct ht h
  rw [hc] at hl
  have hat : ∀ i, i < fs.size → ∃ m : Int, cs[i]? = some (.int .i64 m) ∧ (Lit.int .i64 m).wf = true := by
    intro i hi
    have hfi : fs[i]? = some fs[i] := by simp [hi]
    obtain ⟨h1, h2, h3⟩ := allInts_at ha (i := i) (f := fs[i]) (by simp)
    have hq := hf i fs[i] hfi
    rw [h1, h3, show xs[i]? = some xs[i] by simp] at hq
    obtain ⟨m, hm, _, hw⟩ := DataW.trod_int h2 hq
    refine ⟨m, ?_, hw⟩
    have : (List.take 1 (List.drop i cs))[0]? = some (.int .i64 m) := by rw [hm]; rfl
    simpa [List.getElem?_take, List.getElem?_drop] using this
  have hall : ∀ v ∈ cs, ∃ m : Int, v = .int .i64 m ∧ (Lit.int .i64 m).wf = true := by
    intro v hv
    obtain ⟨i, hi, rfl⟩ := List.mem_iff_getElem.1 hv
    obtain ⟨m, hm, hw⟩ := hat i (by omega)
    exact ⟨m, by simpa [hi] using hm, hw⟩
  have hex : ∀ cs : List Value, (∀ v ∈ cs, ∃ m : Int, v = .int .i64 m ∧ (Lit.int .i64 m).wf = true) → ∃ ns : List Int, cs = ns.map (Value.int .i64) ∧ ∀ n ∈ ns, (Lit.int .i64 n).wf = true := by
    intro cs
    induction cs with
    | nil => exact fun _ => ⟨[], rfl, fun _ h => by cases h⟩
    | cons v cs ih =>
      intro hv
      obtain ⟨ns, rfl, hw⟩ := ih (fun u hu => hv u (List.mem_cons_of_mem _ hu))
      obtain ⟨m, rfl, hm⟩ := hv v (List.mem_cons_self ..)
      refine ⟨m :: ns, rfl, ?_⟩
      intro n hn
      rcases List.mem_cons.1 hn with rfl | hn
      · exact hm
      · exact hw n hn
  obtain ⟨ns, rfl, hw⟩ := hex cs hall
  exact ⟨ns, by simpa using hl, rfl, hw⟩

theorem open_struct_ints {r : Reach} {b0 : Nat} {t : TypeId} {fs : Array Field} {v : Value} {d : DataW H} {ps : List MemPlace} (ht : P.underlying t = some (.struct fs)) (ha : allInts P fs.toList = true) (hc : P.cellsOf t = fs.size)
    (hval : Value.okWide P w r b0 t v) (hd : DataW.Trod enc P w base spare held t v d ps) : ∃ ns : List Int, ns.length = fs.size ∧ v = .agg (ns.map (Value.int .i64)).toArray ∧ ∀ n ∈ ns, (Lit.int .i64 n).wf = true := by
  obtain ⟨cs, rfl, hs⟩ := okWide_struct ht hval
  obtain ⟨fuel, hf⟩ := hd
  obtain ⟨ns, hl, he, hw⟩ := struct_ints ht ha hc hf
  refine ⟨ns, hl, ?_, hw⟩
  have : cs.toList = ns.map (Value.int .i64) := by simpa [Value.cells] using he
  rw [← this]

/-- A slice of structs of numbers that came in: nil; or a grid of 'cap' rows, 'size' cells each. -/
def IsGrid (size : Nat) (w : World) (a : Option Addr) (len cap : Nat) (rows : List (List Int)) : Prop :=
  (a = none ∧ len = 0 ∧ cap = 0 ∧ rows = []) ∨
  ∃ x : Addr, a = some x ∧ len ≤ cap ∧ cap ≤ maxLen ∧ rows.length = cap ∧ (∀ i, i < cap → ∃ ns : List Int, rows[i]? = some ns ∧ ns.length = size ∧ (∀ n ∈ ns, (Lit.int .i64 n).wf = true) ∧ ∀ j m, ns[j]? = some m → w.cell? ((x.add (i * size)).add j) = some (.int .i64 m))

theorem grid_slice {t e : TypeId} {x : Addr} {len cap : Nat} {d : DataW H} {ps : List MemPlace} (ht : P.underlying t = some (.slice e)) (hd : DataW.Trod enc P w base spare held t (.slice (some x) len cap) d ps) : ∃ elems sp, d = .slice elems sp := by
  obtain ⟨fuel, hf⟩ := hd
  rcases open_slice ht hf with ⟨h0, _⟩ | ⟨x, l, c, m, n, D, Pl, hcs, _, _, _, _, hx, _⟩
  · simp [Value.cells] at h0
  · simp only [Prod.mk.injEq] at hx
    exact ⟨_, _, hx.1⟩
theorem open_grid {t e : TypeId} {fs : Array Field} {a : Option Addr} {len cap : Nat} {d : DataW H} {ps : List MemPlace} (ht : P.underlying t = some (.slice e)) (he : P.underlying e = some (.struct fs)) (ha : allInts P fs.toList = true) (hc : P.cellsOf e = fs.size)
    (hd : DataW.Trod enc P w base (fun _ => true) held t (.slice a len cap) d ps) : (∃ rows, IsGrid fs.size w a len cap rows) ∧ ∀ elems sp, d = .slice elems sp → elems.length + sp.length = cap := by
  obtain ⟨fuel, hf⟩ := hd
  rcases open_slice ht hf with ⟨h0, hx⟩ | ⟨x, l, c, m, n, D, Pl, hcs, _, hl, hm, hmm, hx, hall⟩
  · simp [Value.cells] at h0
    obtain ⟨rfl, rfl, rfl⟩ := h0
    simp only [Prod.mk.injEq] at hx
    exact ⟨⟨[], .inl ⟨rfl, rfl, rfl, rfl⟩⟩, fun elems sp e => by rw [hx.1] at e; cases e⟩
  · simp [Value.cells] at hcs
    obtain ⟨rfl, rfl, rfl⟩ := hcs
    have hmc : m = cap := by simpa using hmm
    subst hmc
    simp only [Prod.mk.injEq] at hx
    refine ⟨?_, fun elems sp e => by rw [hx.1] at e; injection e with e1 e2; rw [← e1, ← e2]; simp; omega⟩
    have hrow : ∀ i, i < m → ∃ ns : List Int, ns.length = fs.size ∧ (∀ n ∈ ns, (Lit.int .i64 n).wf = true) ∧ ∀ j m, ns[j]? = some m → w.cell? ((x.add (i * fs.size)).add j) = some (.int .i64 m) := by
      intro i hi
      obtain ⟨cs', h1, h2⟩ := hall i hi
      rw [hc] at h1
      obtain ⟨ns, hl, rfl, hw⟩ := struct_ints he ha hc h2
      refine ⟨ns, hl, hw, ?_⟩
      intro j m hj
      obtain ⟨_, hlen, hcell⟩ := World.cells?_some h1
      rw [hcell j (by have := (List.getElem?_eq_some_iff.1 hj).1; omega)]
      simp [hj]
    have hex : ∀ k, k ≤ m → ∃ rows : List (List Int), rows.length = k ∧ ∀ i, i < k → ∃ ns : List Int, rows[i]? = some ns ∧ ns.length = fs.size ∧ (∀ n ∈ ns, (Lit.int .i64 n).wf = true) ∧ ∀ j m, ns[j]? = some m → w.cell? ((x.add (i * fs.size)).add j) = some (.int .i64 m) := by
      intro k
      induction k with
      | zero => exact fun _ => ⟨[], rfl, fun _ h => by omega⟩
      | succ k ih =>
        intro hk
        obtain ⟨rows, hrl, hr⟩ := ih (by omega)
        obtain ⟨ns, h1, h2, h3⟩ := hrow k (by omega)
        refine ⟨rows ++ [ns], by simp [hrl], ?_⟩
        intro i hi
        by_cases hik : i < k
        · obtain ⟨ns', e, r⟩ := hr i hik
          exact ⟨ns', by rw [List.getElem?_append_left (by omega)]; exact e, r⟩
        · obtain rfl : i = k := by omega
          exact ⟨ns, by rw [List.getElem?_append_right (by omega), hrl]; simp, h1, h2, h3⟩
    obtain ⟨rows, hrl, hr⟩ := hex m (Nat.le_refl _)
    exact ⟨rows, .inr ⟨x, rfl, hl, hm, hrl, hr⟩⟩
end
end Go.HeapKit
