import Derived.Test.YtolhojagbiaamabPkAO
import Derived.Test.YtolhojagbiaamabPkAD
import Derived.Test.YtolhojagbiaamabPkAF
/-! What is told of the first deeds of a list. -/
namespace Go.Proofs.Ytolhojagbiaamab
set_option linter.unusedVariables false
set_option maxRecDepth 20000
set_option linter.unusedSimpArgs false
open Go.RowKit Go.HeapKit

theorem least_ofP {P : Nat → Prop} (N : Nat) : (∀ n, n < N → ¬ P n) ∨ ∃ n, n < N ∧ P n ∧ ∀ k, k < n → ¬ P k := by
  induction N with
  | zero => exact .inl (fun n h => by omega)
  | succ N ih =>
    rcases ih with ih | ⟨n, h1, h2⟩
    · by_cases h : P N
      · exact .inr ⟨N, by omega, h, ih⟩
      · refine .inl (fun n hn hp => ?_)
        by_cases e : n = N
        · subst e; exact h hp
        · exact ih n (by omega) hp
    · exact .inr ⟨n, by omega, h2⟩
/-- There is a first race, or none. -/
theorem first_casesP (l : List Dd) : (∃ n m, FirstP l n m) ∨ ∀ n, n < l.length → rcB l n = false := by
  rcases least_ofP (P := fun n => rcB l n = true) l.length with h | ⟨n, h1, h2, h3⟩
  · exact .inr (fun n hn => by cases hb : rcB l n with | false => rfl | true => exact absurd hb (h n hn))
  · obtain ⟨z, hz, hr⟩ := (rcB_iff l n).1 h2
    rcases least_ofP (P := fun m => RaceW l m n) n with h | ⟨m, g1, g2, g3⟩
    · exact absurd hr (h z hz)
    · exact .inl ⟨n, m, h1, fun k hk => by cases hb : rcB l k with | false => rfl | true => exact absurd hb (h3 k hk), g1, g2, g3⟩
theorem getD_take {α : Type} (l : List α) {n i : Nat} (d : α) (h : i < n) : (l.take n).getD i d = l.getD i d := by
  simp [List.getD, List.getElem?_take, h]
theorem kd_take (l : List Dd) {n i : Nat} (h : i < n) : kdN (l.take n) i = kdN l i := by unfold kdN; rw [getD_take _ _ h]
theorem lc_take (l : List Dd) {n i : Nat} (h : i < n) : lcN (l.take n) i = lcN l i := by unfold lcN; rw [getD_take _ _ h]
theorem stN_take (l : List Dd) (n : Nat) : ∀ i, i ≤ n → stN (l.take n) i = stN l i
  | 0, _ => rfl
  | i + 1, h => by
    show stepT i _ _ = stepT i _ _
    rw [getD_take _ _ (by omega), stN_take l n i (by omega)]
theorem frm_take (l : List Dd) {n i : Nat} (h : i < n) : frmN (l.take n) i = frmN l i := by
  unfold frmN
  rw [stN_take l n i (by omega), getD_take _ _ h]
theorem ah_ltE {l : List Dd} (hc : chkE l = 0) {m i : Nat} (hi : i < l.length) (h : Ah l m i) : m < i := ((ah_row hc hi m).1 h).1
theorem ah_same {l l' : List Dd} (hc : chkE l = 0) {N m i : Nat} (hN : N ≤ l.length) (hf : ∀ i, i < N → frmN l' i = frmN l i) (h : Ah l m i) : i < N → Ah l' m i := by
  induction h with
  | one h => exact fun hi => .one (by rw [hf _ hi]; exact h)
  | more h1 h2 ih =>
    intro hi
    have := ah_ltE hc (by omega) (.one h1)
    exact .more (by rw [hf _ hi]; exact h1) (ih (by omega))
theorem chkL_take : ∀ (l : List Dd) (n i d : Nat), chkL l i d = none → chkL (l.take n) i d = none
  | [], n, i, d, _ => by simp [chkL]
  | x :: l, 0, i, d, _ => rfl
  | x :: l, n + 1, i, d, h => by
    rw [List.take_succ_cons]
    unfold chkL at h ⊢
    split at h
    · cases h
    · rename_i hb
      rw [if_neg hb]
      exact chkL_take l n _ _ h
theorem chk_take {l : List Dd} (h : chkE l = 0) (n : Nat) : chkE (l.take n) = 0 := by
  obtain ⟨h1, h2⟩ := chk_fine h
  have hc : chkL l 0 0 = none := h2.1
  refine (chk_none ?_ (chkL_take l n 0 0 hc)).1
  rw [List.length_take]
  omega
theorem ah_take {l : List Dd} (hc : chkE l = 0) {n m i : Nat} (hn : n ≤ l.length) (hi : i < n) : Ah (l.take n) m i ↔ Ah l m i := by
  constructor
  · exact fun h => ah_same (chk_take hc n) (N := n) (by rw [List.length_take]; omega) (fun i hi => (frm_take l hi).symm) h hi
  · exact fun h => ah_same hc hn (fun i hi => frm_take l hi) h hi
theorem race_take {l : List Dd} (hc : chkE l = 0) {n m i : Nat} (hn : n ≤ l.length) (hi : i < n) (hm : m < i) : RaceW (l.take n) m i ↔ RaceW l m i := by
  unfold RaceW
  rw [kd_take l hi, kd_take l (show m < n by omega), lc_take l hi, lc_take l (show m < n by omega), ah_take hc hn hi]
theorem rc_take {l : List Dd} (hc : chkE l = 0) {n i : Nat} (hn : n ≤ l.length) (hi : i < n) : rcB (l.take n) i = rcB l i := by
  rw [Bool.eq_iff_iff, rcB_iff, rcB_iff]
  constructor
  · rintro ⟨z, hz, h⟩; exact ⟨z, hz, (race_take hc hn hi hz).1 h⟩
  · rintro ⟨z, hz, h⟩; exact ⟨z, hz, (race_take hc hn hi hz).2 h⟩
theorem len_take {l : List Dd} {n : Nat} (hn : n ≤ l.length) : (l.take n).length = n := by rw [List.length_take]; omega
theorem first_take {l : List Dd} (hc : chkE l = 0) {n p m : Nat} (hn : n ≤ l.length) (h : FirstP l p m) (hp : p < n) : FirstP (l.take n) p m :=
  ⟨by rw [len_take hn]; exact hp, fun k hk => by rw [rc_take hc hn (by omega)]; exact h.no k hk, h.ml, (race_take hc hn hp h.ml).2 h.race, fun k hk hr => h.least k hk ((race_take hc hn hp (by have := h.ml; omega)).1 hr)⟩
theorem none_take {l : List Dd} (hc : chkE l = 0) {n : Nat} (hn : n ≤ l.length) (h : ∀ i, i < n → rcB l i = false) : ∀ i, i < (l.take n).length → rcB (l.take n) i = false := fun i hi => by
  rw [len_take hn] at hi
  rw [rc_take hc hn hi]
  exact h i hi
theorem racy_take {l : List Dd} (hc : chkE l = 0) {n : Nat} (hn : n ≤ l.length) {Y Z : List Int} (hY : RacyL (l.take n) Y) (hZ : RacyL l Z) {L : Int} (h : L ∈ Y) : L ∈ Z := by
  obtain ⟨a, h1, h2, h3⟩ := (hY.2 L).1 h
  rw [len_take hn] at h1
  rw [rc_take hc hn h1] at h2
  rw [lc_take l h1] at h3
  exact (hZ.2 L).2 ⟨a, by omega, h2, h3⟩
/-- What First tells of a list and of its beginning. -/
structure FirTwo (n : Nat) (x y z x2 y2 z2 : Int) (b b2 : Bool) : Prop where
  go : b = true → b2 = true ∧ x = x2 ∧ y = y2 ∧ z = z2
  back : b2 = true → x2 < n → b = true
theorem fir_two {l : List Dd} (hc : chkE l = 0) {n : Nat} (hn : n ≤ l.length) : ∃ x y z x2 y2 z2 b b2, firV (l.take n) = .returned (.tuple #[.agg #[.int .i64 x, .int .i64 y, .int .i64 z], .bool b, .int .i64 0]) ∧ firV l = .returned (.tuple #[.agg #[.int .i64 x2, .int .i64 y2, .int .i64 z2], .bool b2, .int .i64 0]) ∧ FirTwo n x y z x2 y2 z2 b b2 := by
  rcases first_casesP l with ⟨p, m, hF⟩ | hno
  · by_cases hp : p < n
    · exact ⟨_, _, _, _, _, _, _, _, firV_some (chk_take hc n) (first_take hc hn hF hp), firV_some hc hF, ⟨fun _ => ⟨rfl, rfl, rfl, lc_take l hp⟩, fun _ _ => rfl⟩⟩
    · exact ⟨_, _, _, _, _, _, _, _, firV_none (chk_take hc n) (fst_none (none_take hc hn (fun i hi => hF.no i (by omega)))), firV_some hc hF, ⟨fun h => (by cases h), fun _ h => absurd h (by omega)⟩⟩
  · exact ⟨_, _, _, _, _, _, _, _, firV_none (chk_take hc n) (fst_none (none_take hc hn (fun i hi => hno i (by omega)))), firV_none hc (fst_none hno), ⟨fun h => (by cases h), fun h => (by cases h)⟩⟩
theorem Seen.take {w : World} {a : Option Addr} {n k : Nat} {l : List Dd} (h : Seen w a n l) (hk : k ≤ n) : Seen w a k (l.take k) := by
  refine ⟨by rw [len_take (by rw [← h.len]; exact hk)], fun h0 => ?_⟩
  obtain ⟨b, off, rfl, hb, hc⟩ := h.ex (by omega)
  refine ⟨b, off, rfl, hb, fun j x hx => hc j x ?_⟩
  rw [List.getElem?_take] at hx
  split at hx
  · exact hx
  · cases hx
theorem tmod_in (x : Int) (n : Nat) (h0 : 0 < n) : -(n : Int) < x.tmod n ∧ x.tmod n < n := by
  have h1 := Int.natAbs_tmod x n
  have h2 : x.natAbs % (n : Int).natAbs < (n : Int).natAbs := Nat.mod_lt _ (by omega)
  omega
set_option maxHeartbeats 1600000 in
theorem lmod_ok (x : Int) (n : Nat) (w : World) (h0 : 0 < n) (h1 : n ≤ 1099511627776) : Calls Try.prog 11 #[.int .i64 x, .int .i64 n] w fun e w' => ∃ N : Nat, e = .returned (.int .i64 N) ∧ N < n ∧ w' = w := by
  obtain ⟨b0, b1⟩ := tmod_in x n h0
  have hn : ¬ (n : Int) = 0 := by omega
  have hn2 : (n : Int) ≤ 1099511627776 := by omega
  by_cases hr : x.tmod n < 0
  · go_enter Try.func11, Try.ntmps11
    go_wp2
    go_ret
    refine ⟨(x.tmod n + n).toNat, ?_, by omega, rfl⟩
    rw [Int.toNat_of_nonneg (by omega)]
    rfl
  · go_enter Try.func11, Try.ntmps11
    go_wp2
    go_ret
    refine ⟨(x.tmod n).toNat, ?_, by omega, rfl⟩
    rw [Int.toNat_of_nonneg (by omega)]
    rfl
theorem sound_is (E : Int) (b : Bool) (hb : b = decide (E = 0)) (a : Option Addr) (n c : Nat) (l : List Dd) (w : World) (hE : chkE l = E) (hS : Seen w a n l) (hn : (n + 2) * 16 ≤ 140737488355328) :
    Calls Try.prog 7 #[.slice a n c] w fun e w' => e = .returned (.bool b) ∧ w' = w := by
  rw [hb, ← hE]; exact sound_ok a n c l w hS hn
theorem detect_is (E : Int) (a : Option Addr) (n c : Nat) (l : List Dd) (w : World) (hE : chkE l = E) (hS : Seen w a n l) :
    Calls Try.prog 9 #[.slice a n c] w fun e w' => ∃ v Z, e = .returned (.tuple #[v, .int .i64 E]) ∧ RowL w' w.heap.size v Z ∧ DetL l Z ∧ Keeps None w w' := by
  rw [← hE]; exact detect_ok a n c l w hS
end Go.Proofs.Ytolhojagbiaamab
/-! The tasks of a list of deeds, plainly. -/
namespace Go.Proofs.Ytolhojagbiaamab
set_option linter.unusedVariables false
set_option maxRecDepth 20000
set_option linter.unusedSimpArgs false
open Go.RowKit Go.HeapKit

/-- Tasks: how many, each one's deeds, its parent, the spawn that began it; the one that is at work. -/
structure Cw where
  T : Nat
  D : Nat → List Nat
  par : Nat → Int
  bo : Nat → Int
  now : Nat
def hireN (l : List Dd) : Nat → Cw
  | 0 => ⟨1, fun _ => [], fun _ => -1, fun _ => -1, 0⟩
  | n + 1 =>
    if kdN l n = 0 then ⟨(hireN l n).T + 1, updF (hireN l n).D (hireN l n).now ((hireN l n).D (hireN l n).now ++ [n]), updF (hireN l n).par (hireN l n).T ((hireN l n).now : Int), updF (hireN l n).bo (hireN l n).T (n : Int), (hireN l n).T⟩
    else if kdN l n = 1 then ⟨(hireN l n).T, updF (hireN l n).D (hireN l n).now ((hireN l n).D (hireN l n).now ++ [n]), (hireN l n).par, (hireN l n).bo, ((hireN l n).par (hireN l n).now).toNat⟩
    else ⟨(hireN l n).T, updF (hireN l n).D (hireN l n).now ((hireN l n).D (hireN l n).now ++ [n]), (hireN l n).par, (hireN l n).bo, (hireN l n).now⟩
theorem hire0 {l : List Dd} {n : Nat} (h : kdN l n = 0) : hireN l (n + 1) = ⟨(hireN l n).T + 1, updF (hireN l n).D (hireN l n).now ((hireN l n).D (hireN l n).now ++ [n]), updF (hireN l n).par (hireN l n).T ((hireN l n).now : Int), updF (hireN l n).bo (hireN l n).T (n : Int), (hireN l n).T⟩ := by
  show (if kdN l n = 0 then _ else _) = _
  rw [if_pos h]
theorem hire1 {l : List Dd} {n : Nat} (h : kdN l n = 1) : hireN l (n + 1) = ⟨(hireN l n).T, updF (hireN l n).D (hireN l n).now ((hireN l n).D (hireN l n).now ++ [n]), (hireN l n).par, (hireN l n).bo, ((hireN l n).par (hireN l n).now).toNat⟩ := by
  show (if kdN l n = 0 then _ else _) = _
  rw [if_neg (by omega), if_pos h]
theorem hire2 {l : List Dd} {n : Nat} (h0 : ¬ kdN l n = 0) (h1 : ¬ kdN l n = 1) : hireN l (n + 1) = ⟨(hireN l n).T, updF (hireN l n).D (hireN l n).now ((hireN l n).D (hireN l n).now ++ [n]), (hireN l n).par, (hireN l n).bo, (hireN l n).now⟩ := by
  show (if kdN l n = 0 then _ else _) = _
  rw [if_neg h0, if_neg h1]
/-- An open task and its place in the row. -/
structure LkT (s : Cw) (i : Nat) (t : Tk) : Prop where
  lt : i < s.T
  last : t.P.getLast? = (s.D i).getLast?
  out : ∀ q ∈ t.Out, ∃ c : Nat, 0 < c ∧ c < s.T ∧ s.par c = (i : Int) ∧ q ∈ s.D c
def UpT (s : Cw) (i : Nat) : List Nat → Prop
  | [] => i = 0
  | j :: _ => 0 < i ∧ j < i ∧ s.par i = (j : Int) ∧ ∃ b : Nat, s.bo i = (b : Int) ∧ (s.D j).getLast? = some b
def Chn (s : Cw) : List Nat → List Tk → Prop
  | [], [] => True
  | i :: is, t :: r => LkT s i t ∧ UpT s i is ∧ Chn s is r
  | _, _ => False
/-- The next state's tasks hold at least what this one's do. -/
structure Mor (s s' : Cw) : Prop where
  T : s.T ≤ s'.T
  par : ∀ c, c < s.T → s'.par c = s.par c
  bo : ∀ c, c < s.T → s'.bo c = s.bo c
  D : ∀ c a, a ∈ s.D c → a ∈ s'.D c
theorem LkT.mor {s s' : Cw} (h : Mor s s') {i : Nat} {t : Tk} (hl : LkT s i t) (hD : s'.D i = s.D i) : LkT s' i t :=
  ⟨Nat.lt_of_lt_of_le hl.lt h.T, by rw [hD]; exact hl.last, fun q hq => by
    obtain ⟨c, c0, c1, c2, c3⟩ := hl.out q hq
    exact ⟨c, c0, Nat.lt_of_lt_of_le c1 h.T, by rw [h.par c c1]; exact c2, h.D c q c3⟩⟩
theorem UpT.mor {s s' : Cw} (h : Mor s s') {i : Nat} {is : List Nat} (hi : i < s.T) (hu : UpT s i is) (hD : ∀ j ∈ is, s'.D j = s.D j) : UpT s' i is := by
  cases is with
  | nil => exact hu
  | cons j is =>
    obtain ⟨h1, h2, h3, b, h4, h5⟩ := hu
    exact ⟨h1, h2, by rw [h.par i hi]; exact h3, b, by rw [h.bo i hi]; exact h4, by rw [hD j (by simp)]; exact h5⟩
theorem Chn.mor {s s' : Cw} (h : Mor s s') : ∀ {is : List Nat} {r : List Tk}, Chn s is r → (∀ j ∈ is, s'.D j = s.D j) → Chn s' is r
  | [], [], _, _ => trivial
  | [], _ :: _, hc, _ => hc
  | _ :: _, [], hc, _ => hc
  | i :: is, t :: r, hc, hD => ⟨hc.1.mor h (hD i (by simp)), hc.2.1.mor h hc.1.lt (fun j hj => hD j (by simp [hj])), Chn.mor h hc.2.2 (fun j hj => hD j (by simp [hj]))⟩
/-- What holds behind n deeds. -/
structure HInv (l : List Dd) (n : Nat) (s : Cw) (ids : List Nat) : Prop where
  head : ids.head? = some s.now
  chn : Chn s ids (stN l n)
  srt : ids.Pairwise (· > ·)
  tz : ∀ t, s.T ≤ t → s.D t = []
  inc : ∀ t, (s.D t).Pairwise (· < ·)
  lt : ∀ t a, a ∈ s.D t → a < n
  cov : ∀ a, a < n → ∃ t, a ∈ s.D t
  uniq : ∀ t u a, a ∈ s.D t → a ∈ s.D u → t = u
  byo : ∀ t, 0 < t → t < s.T → ∃ p b : Nat, s.par t = (p : Int) ∧ s.bo t = (b : Int) ∧ p < t ∧ b ∈ s.D p ∧ ∀ x ∈ s.D t, b < x
  dn : ∀ c, 0 < c → c < s.T → ∀ p : Nat, s.par c = (p : Int) → ∀ a ∈ s.D p, s.bo c < (a : Int) → ∀ x ∈ s.D c, x < a
  op : ∀ c ∈ ids, 0 < c → ∀ p : Nat, s.par c = (p : Int) → ∀ a ∈ s.D p, (a : Int) ≤ s.bo c
  frm : ∀ t a m, a ∈ s.D t → m ∈ frmN l a → (m ∈ s.D t ∧ m < a) ∨ (0 < t ∧ (m : Int) = s.bo t) ∨ ((kdN l a = 1 ∨ kdN l a = 2) ∧ ∃ c : Nat, 0 < c ∧ c < s.T ∧ s.par c = (t : Int) ∧ s.bo c < (a : Int) ∧ m ∈ s.D c)
theorem HInv.zero (l : List Dd) : HInv l 0 (hireN l 0) [0] :=
  ⟨rfl, ⟨⟨Nat.zero_lt_one, rfl, fun q hq => by cases hq⟩, rfl, trivial⟩, by simp, fun _ _ => rfl, fun _ => by simp [hireN], fun t a h => by simp [hireN] at h, fun a h => by omega, fun t u a h => by simp [hireN] at h, fun t h1 h2 => by simp [hireN] at h2; omega, fun c h1 h2 => by simp [hireN] at h2; omega, fun c h1 h2 => by simp at h1; omega, fun t a m h => by simp [hireN] at h⟩
section
variable {l : List Dd} {n : Nat} {s : Cw} {ids : List Nat}
theorem memU (s : Cw) (n t a : Nat) : a ∈ updF s.D s.now (s.D s.now ++ [n]) t ↔ a ∈ s.D t ∨ (t = s.now ∧ a = n) := by
  by_cases h : t = s.now
  · subst h
    rw [updF_eq, List.mem_append, List.mem_singleton]
    simp
  · rw [updF_ne h]; simp [h]
/-- Who is ahead of the next deed by one step. -/
theorem HInv.next (h : HInv l n s ids) {m : Nat} (hm : m ∈ frmN l n) : (m ∈ s.D s.now ∧ m < n) ∨ (0 < s.now ∧ (m : Int) = s.bo s.now) ∨ ((kdN l n = 1 ∨ kdN l n = 2) ∧ ∃ c : Nat, 0 < c ∧ c < s.T ∧ s.par c = (s.now : Int) ∧ s.bo c < (n : Int) ∧ m ∈ s.D c) := by
  have hc := h.chn
  have hh := h.head
  cases ids with
  | nil => cases hh
  | cons i is =>
    injection hh with hh
    subst hh
    cases hst : stN l n with
    | nil => rw [hst] at hc; exact hc.elim
    | cons t r =>
      rw [hst] at hc
      obtain ⟨hL, hU, hR⟩ := hc
      unfold frmN at hm
      rw [hst] at hm
      rcases List.mem_append.1 hm with hm | hm
      · have hC : Cof (t :: r) = Cof r ++ t.P := rfl
        rw [hC] at hm
        by_cases hP : t.P = []
        · rw [hP, List.append_nil] at hm
          cases is with
          | nil =>
            cases r with
            | nil => simp [Cof] at hm
            | cons u r' => exact hR.elim
          | cons j is' =>
            obtain ⟨u1, u2, u3, b, u4, u5⟩ := hU
            cases r with
            | nil => exact hR.elim
            | cons u r' =>
              have hl := hR.1.last
              rw [u5] at hl
              have hC2 : Cof (u :: r') = Cof r' ++ u.P := rfl
              rw [hC2, List.getLast?_append, hl] at hm
              simp at hm
              subst hm
              exact .inr (.inl ⟨u1, u4.symm⟩)
        · have hl := hL.last
          rw [List.getLast?_append] at hm
          obtain ⟨y, hy⟩ : ∃ y, t.P.getLast? = some y := by
            cases hx : t.P.getLast? with
            | none => exact absurd (List.getLast?_eq_none_iff.1 hx) hP
            | some y => exact ⟨y, rfl⟩
          rw [hy] at hm hl
          simp at hm
          subst hm
          have hmem := List.mem_of_getLast? hl.symm
          exact .inl ⟨hmem, h.lt _ _ hmem⟩
      · rw [out_cons] at hm
        split at hm
        · rename_i hk
          obtain ⟨c, c0, c1, c2, c3⟩ := hL.out m hm
          refine .inr (.inr ⟨hk, c, c0, c1, c2, ?_, c3⟩)
          obtain ⟨p, b, _, e2, _, e4, _⟩ := h.byo c c0 c1
          have := h.lt _ _ e4
          rw [e2]
          omega
        · cases hm
/-- The part that all kinds of deeds share. -/
theorem HInv.grow (h : HInv l n s ids) (s' : Cw) (hD : s'.D = updF s.D s.now (s.D s.now ++ [n])) (hm : Mor s s') (hT : s'.T = s.T ∨ (s'.T = s.T + 1 ∧ s'.par s.T = (s.now : Int) ∧ s'.bo s.T = (n : Int))) (ids' : List Nat) (h1 : ids'.head? = some s'.now) (h2 : Chn s' ids' (stN l (n + 1))) (h3 : ids'.Pairwise (· > ·)) (h4 : ∀ c ∈ ids', c ∈ ids ∨ (c = s.T ∧ s'.T = s.T + 1)) :
    HInv l (n + 1) s' ids' := by
  have hmem : ∀ t a, a ∈ s'.D t ↔ a ∈ s.D t ∨ (t = s.now ∧ a = n) := fun t a => by rw [hD]; exact memU s n t a
  have hnow : s.now < s.T := by
    have hc := h.chn
    have hh := h.head
    cases ids with
    | nil => cases hh
    | cons i is =>
      injection hh with hh
      subst hh
      cases hst : stN l n with
      | nil => rw [hst] at hc; exact hc.elim
      | cons t r => rw [hst] at hc; exact hc.1.lt
  have hnin : s.now ∈ ids := by
    have hh := h.head
    cases ids with
    | nil => cases hh
    | cons i is => injection hh with hh; subst hh; simp
  have htop : ∀ c ∈ ids, c ≤ s.now := by
    have hh := h.head
    have hs := h.srt
    cases ids with
    | nil => cases hh
    | cons i is =>
      injection hh with hh
      subst hh
      intro c hc
      rcases List.mem_cons.1 hc with e | hc
      · omega
      · have := (List.pairwise_cons.1 hs).1 c hc; omega
  refine ⟨h1, h2, h3, fun t ht => ?_, fun t => ?_, fun t a ha => ?_, fun a ha => ?_, fun t u a ha hb => ?_, fun t t0 t1 => ?_, fun c c0 c1 p hp a ha hba x hx => ?_, fun c hc c0 p hp a ha => ?_, fun t a m ha hma => ?_⟩
  · rw [hD]
    have hTT := hm.T
    rw [updF_ne (by omega)]
    exact h.tz t (by omega)
  · rw [hD]
    by_cases e : t = s.now
    · subst e
      rw [updF_eq, List.pairwise_append]
      exact ⟨h.inc _, by simp, fun a ha b hb => by rw [List.mem_singleton] at hb; subst hb; exact h.lt _ _ ha⟩
    · rw [updF_ne e]; exact h.inc t
  · rcases (hmem t a).1 ha with ha | ⟨_, rfl⟩
    · have := h.lt _ _ ha; omega
    · omega
  · by_cases e : a = n
    · exact ⟨s.now, (hmem _ _).2 (.inr ⟨rfl, e⟩)⟩
    · obtain ⟨t, ht⟩ := h.cov a (by omega)
      exact ⟨t, (hmem _ _).2 (.inl ht)⟩
  · rcases (hmem t a).1 ha with ha | ⟨rfl, rfl⟩
    · rcases (hmem u a).1 hb with hb | ⟨rfl, rfl⟩
      · exact h.uniq t u a ha hb
      · have := h.lt _ _ ha; omega
    · rcases (hmem u a).1 hb with hb | ⟨rfl, _⟩
      · have := h.lt _ _ hb; omega
      · rfl
  · by_cases e : t < s.T
    · obtain ⟨p, b, e1, e2, e3, e4, e5⟩ := h.byo t t0 e
      refine ⟨p, b, by rw [hm.par t e]; exact e1, by rw [hm.bo t e]; exact e2, e3, (hmem _ _).2 (.inl e4), fun x hx => ?_⟩
      rcases (hmem t x).1 hx with hx | ⟨_, rfl⟩
      · exact e5 x hx
      · exact h.lt _ _ e4
    · rcases hT with hT | ⟨hT, e1, e2⟩
      · omega
      · obtain rfl : t = s.T := by omega
        refine ⟨s.now, n, e1, e2, hnow, (hmem _ _).2 (.inr ⟨rfl, rfl⟩), fun x hx => ?_⟩
        rcases (hmem s.T x).1 hx with hx | ⟨e, _⟩
        · rw [h.tz s.T (Nat.le_refl _)] at hx; cases hx
        · omega
  · by_cases e : c < s.T
    · rw [hm.par c e] at hp
      rw [hm.bo c e] at hba
      obtain ⟨p', b, e1, e2, e3, e4, e5⟩ := h.byo c c0 e
      have hpp : p' = p := by rw [e1] at hp; omega
      subst hpp
      rcases (hmem c x).1 hx with hx | ⟨rfl, rfl⟩
      · rcases (hmem p' a).1 ha with ha | ⟨_, rfl⟩
        · exact h.dn c c0 e p' hp a ha hba x hx
        · exact h.lt _ _ hx
      · rcases (hmem p' a).1 ha with ha | ⟨e9, _⟩
        · have := h.op _ hnin c0 p' hp a ha; omega
        · omega
    · rcases hT with hT | ⟨hT, _, _⟩
      · omega
      · obtain rfl : c = s.T := by omega
        rcases (hmem s.T x).1 hx with hx | ⟨e, _⟩
        · rw [h.tz s.T (Nat.le_refl _)] at hx; cases hx
        · omega
  · rcases h4 c hc with hc | ⟨rfl, hT2⟩
    · have hcl := htop c hc
      have e : c < s.T := by omega
      rw [hm.par c e] at hp
      rw [hm.bo c e]
      obtain ⟨p', b, e1, e2, e3, e4, e5⟩ := h.byo c c0 e
      have hpp : p' = p := by rw [e1] at hp; omega
      subst hpp
      rcases (hmem p' a).1 ha with ha | ⟨e9, _⟩
      · exact h.op c hc c0 p' hp a ha
      · omega
    · rcases hT with hT | ⟨hT, e1, e2⟩
      · omega
      · rw [e1] at hp
        have : s.now = p := by omega
        subst this
        rw [e2]
        rcases (hmem s.now a).1 ha with ha | ⟨_, rfl⟩
        · have := h.lt _ _ ha; omega
        · omega
  · rcases (hmem t a).1 ha with ha | ⟨rfl, rfl⟩
    · rcases h.frm t a m ha hma with ⟨f1, f2⟩ | ⟨f1, f2⟩ | ⟨f0, c, f1, f2, f3, f4, f5⟩
      · exact .inl ⟨(hmem _ _).2 (.inl f1), f2⟩
      · refine .inr (.inl ⟨f1, ?_⟩)
        have : t < s.T := by
          rcases Nat.lt_or_ge t s.T with e | e
          · exact e
          · rw [h.tz t e] at ha; cases ha
        rw [hm.bo t this]; exact f2
      · have hTT := hm.T
        exact .inr (.inr ⟨f0, c, f1, by omega, by rw [hm.par c f2]; exact f3, by rw [hm.bo c f2]; exact f4, (hmem _ _).2 (.inl f5)⟩)
    · rcases h.next hma with ⟨f1, f2⟩ | ⟨f1, f2⟩ | ⟨f0, c, f1, f2, f3, f4, f5⟩
      · exact .inl ⟨(hmem _ _).2 (.inl f1), f2⟩
      · exact .inr (.inl ⟨f1, by rw [hm.bo _ hnow]; exact f2⟩)
      · have hTT := hm.T
        exact .inr (.inr ⟨f0, c, f1, by omega, by rw [hm.par c f2]; exact f3, by rw [hm.bo c f2]; exact f4, (hmem _ _).2 (.inl f5)⟩)
end
theorem HInv.step {l : List Dd} {n : Nat} {ids : List Nat} (hf : Fine l) (hn : n < l.length) (h : HInv l n (hireN l n) ids) : ∃ ids', HInv l (n + 1) (hireN l (n + 1)) ids' := by
  have hk := hf.kind hn
  have hstep : stN l (n + 1) = stepT n (kdN l n) (stN l n) := rfl
  obtain ⟨s, hs⟩ : ∃ s, s = hireN l n := ⟨_, rfl⟩
  have hc := h.chn
  have hh := h.head
  have hsrt := h.srt
  rw [← hs] at h hc hh
  cases ids with
  | nil => cases hh
  | cons i is =>
    injection hh with hh
    subst hh
    cases hst : stN l n with
    | nil => rw [hst] at hc; exact hc.elim
    | cons t r =>
      rw [hst] at hc
      obtain ⟨hL, hU, hR⟩ := hc
      rw [List.pairwise_cons] at hsrt
      have hlow : ∀ j ∈ is, j ≠ s.now := fun j hj e => by have := hsrt.1 j hj; omega
      have hlast : (s.D s.now ++ [n]).getLast? = some n := by simp
      by_cases k0 : kdN l n = 0
      · obtain ⟨s', hs'⟩ : ∃ s', s' = hireN l (n + 1) := ⟨_, rfl⟩
        have e := hire0 k0
        rw [← hs, ← hs'] at e
        have hm : Mor s s' := by
          rw [e]
          exact ⟨by simp, fun c hc => updF_ne (by omega), fun c hc => updF_ne (by omega), fun c a ha => (memU s n c a).2 (.inl ha)⟩
        have hDn : s'.D s.now = s.D s.now ++ [n] := by rw [e]; exact updF_eq _ _ _
        have hDo : ∀ j ∈ is, s'.D j = s.D j := fun j hj => by rw [e]; exact updF_ne (hlow j hj)
        have hlt := hL.lt
        rw [← hs']
        refine ⟨s.T :: s.now :: is, h.grow s' (by rw [e]) hm (.inr ⟨by rw [e], by rw [e]; exact updF_eq _ _ _, by rw [e]; exact updF_eq _ _ _⟩) _ (by rw [e]; rfl) ?_ ?_ ?_⟩
        · rw [hstep, hst, k0, st0]
          refine ⟨⟨by rw [e]; simp, ?_, fun q hq => by cases hq⟩, ⟨by omega, hlt, by rw [e]; exact updF_eq _ _ _, n, by rw [e]; exact updF_eq _ _ _, by rw [hDn]; exact hlast⟩, ⟨by have := hm.T; omega, by rw [hDn]; simp, fun q hq => ?_⟩, hU.mor hm hlt hDo, hR.mor hm hDo⟩
          · have : s'.D s.T = [] := by rw [e]; show updF s.D s.now _ s.T = []; rw [updF_ne (by omega)]; exact h.tz s.T (Nat.le_refl _)
            rw [this]
          · obtain ⟨c, c0, c1, c2, c3⟩ := hL.out q hq
            exact ⟨c, c0, Nat.lt_of_lt_of_le c1 hm.T, by rw [hm.par c c1]; exact c2, hm.D c q c3⟩
        · rw [List.pairwise_cons, List.pairwise_cons]
          refine ⟨fun j hj => ?_, hsrt⟩
          rcases List.mem_cons.1 hj with rfl | hj
          · exact hlt
          · have := hsrt.1 j hj; omega
        · intro c hc
          rcases List.mem_cons.1 hc with rfl | hc
          · exact .inr ⟨rfl, by rw [e]⟩
          · exact .inl hc
      · by_cases k1 : kdN l n = 1
        · obtain ⟨s', hs'⟩ : ∃ s', s' = hireN l (n + 1) := ⟨_, rfl⟩
          have e := hire1 k1
          rw [← hs, ← hs'] at e
          have hm : Mor s s' := by
            rw [e]
            exact ⟨Nat.le_refl _, fun c hc => rfl, fun c hc => rfl, fun c a ha => (memU s n c a).2 (.inl ha)⟩
          have hDo : ∀ j ∈ is, s'.D j = s.D j := fun j hj => by rw [e]; exact updF_ne (hlow j hj)
          have h2 := hk.2.2 k1
          rw [hst] at h2
          cases r with
          | nil => simp at h2
          | cons u r' =>
            cases is with
            | nil => exact hR.elim
            | cons j is' =>
              obtain ⟨u1, u2, u3, b, u4, u5⟩ := hU
              obtain ⟨hL2, hU2, hR2⟩ := hR
              rw [← hs']
              refine ⟨j :: is', h.grow s' (by rw [e]) hm (.inl (by rw [e])) _ (by rw [e]; simp [u3]) ?_ hsrt.2 (fun c hc => .inl (by simp [hc]))⟩
              rw [hstep, hst, k1, st1]
              refine ⟨⟨Nat.lt_of_lt_of_le hL2.lt hm.T, by rw [hDo j (by simp)]; exact hL2.last, fun q hq => ?_⟩, hU2.mor hm hL2.lt (fun j' hj' => hDo j' (by simp [hj'])), hR2.mor hm (fun j' hj' => hDo j' (by simp [hj']))⟩
              rcases List.mem_append.1 hq with hq | hq
              · obtain ⟨c, c0, c1, c2, c3⟩ := hL2.out q hq
                exact ⟨c, c0, Nat.lt_of_lt_of_le c1 hm.T, by rw [hm.par c c1]; exact c2, hm.D c q c3⟩
              · rw [List.mem_singleton] at hq
                subst hq
                refine ⟨s.now, u1, Nat.lt_of_lt_of_le hL.lt hm.T, by rw [hm.par _ hL.lt]; exact u3, ?_⟩
                rw [e]
                exact (memU s q s.now q).2 (.inr ⟨rfl, rfl⟩)
        · obtain ⟨s', hs'⟩ : ∃ s', s' = hireN l (n + 1) := ⟨_, rfl⟩
          have e := hire2 k0 k1
          rw [← hs, ← hs'] at e
          have hm : Mor s s' := by
            rw [e]
            exact ⟨Nat.le_refl _, fun c hc => rfl, fun c hc => rfl, fun c a ha => (memU s n c a).2 (.inl ha)⟩
          have hDn : s'.D s.now = s.D s.now ++ [n] := by rw [e]; exact updF_eq _ _ _
          have hDo : ∀ j ∈ is, s'.D j = s.D j := fun j hj => by rw [e]; exact updF_ne (hlow j hj)
          rw [← hs']
          refine ⟨s.now :: is, h.grow s' (by rw [e]) hm (.inl (by rw [e])) _ (by rw [e]; rfl) ?_ (List.pairwise_cons.2 hsrt) (fun c hc => .inl hc)⟩
          rw [hstep, hst]
          have hout : ∀ q ∈ t.Out, ∃ c : Nat, 0 < c ∧ c < s'.T ∧ s'.par c = (s.now : Int) ∧ q ∈ s'.D c := fun q hq => by
            obtain ⟨c, c0, c1, c2, c3⟩ := hL.out q hq
            exact ⟨c, c0, Nat.lt_of_lt_of_le c1 hm.T, by rw [hm.par c c1]; exact c2, hm.D c q c3⟩
          by_cases k2 : kdN l n = 2
          · rw [k2, st2]
            exact ⟨⟨Nat.lt_of_lt_of_le hL.lt hm.T, by rw [hDn]; simp, fun q hq => by cases hq⟩, hU.mor hm hL.lt hDo, hR.mor hm hDo⟩
          · rw [st3 _ _ _ _ k0 k1 k2]
            exact ⟨⟨Nat.lt_of_lt_of_le hL.lt hm.T, by rw [hDn]; simp, hout⟩, hU.mor hm hL.lt hDo, hR.mor hm hDo⟩
theorem hire_inv {l : List Dd} (hf : Fine l) : ∀ n, n ≤ l.length → ∃ ids, HInv l n (hireN l n) ids
  | 0, _ => ⟨_, HInv.zero l⟩
  | n + 1, h => by
    obtain ⟨ids, hi⟩ := hire_inv hf n (by omega)
    exact hi.step hf (by omega)
end Go.Proofs.Ytolhojagbiaamab
/-! Orders in which tasks do their deeds, plainly. -/
namespace Go.Proofs.Ytolhojagbiaamab
set_option linter.unusedVariables false
set_option maxRecDepth 20000
set_option linter.unusedSimpArgs false
open Go.RowKit Go.HeapKit

/-- How far each task is (dn), and what was done (dl). -/
structure SI (l : List Dd) (s : Cw) (dn : Nat → Nat) (dl : List Nat) : Prop where
  le : ∀ t, dn t ≤ (s.D t).length
  mem : ∀ a, a ∈ dl ↔ ∃ t, a ∈ (s.D t).take (dn t)
  nd : dl.Nodup
  cl : ∀ a ∈ dl, ∀ m, Ah l m a → m ∈ dl
  ord : dl.Pairwise (fun a b => ¬ Ah l b a)
  bgn : ∀ t, 0 < t → t < s.T → 0 < dn t → ∃ b : Nat, s.bo t = (b : Int) ∧ b ∈ dl
/-- The task may do its next deed. -/
structure Rdy (l : List Dd) (s : Cw) (dn : Nat → Nat) (t a : Nat) : Prop where
  nx : (s.D t)[dn t]? = some a
  bg : 0 < t → dn t = 0 → ∃ p b : Nat, s.par t = (p : Int) ∧ s.bo t = (b : Int) ∧ b ∈ (s.D p).take (dn p)
  ch : kdN l a = 1 ∨ kdN l a = 2 → ∀ c, 0 < c → c < s.T → s.par c = (t : Int) → s.bo c < (a : Int) → (s.D c).length ≤ dn c
open Classical in
noncomputable def rdyB (l : List Dd) (s : Cw) (dn : Nat → Nat) (t : Nat) : Bool := decide (∃ a, Rdy l s dn t a)
theorem rdyB_iff (l : List Dd) (s : Cw) (dn : Nat → Nat) (t : Nat) : rdyB l s dn t = true ↔ ∃ a, Rdy l s dn t a := by unfold rdyB; simp
theorem in_take {L : List Nat} {k i a : Nat} (h : L[i]? = some a) (hi : i < k) : a ∈ L.take k := List.mem_iff_getElem?.2 ⟨i, by rw [List.getElem?_take, if_pos hi]; exact h⟩
theorem of_take {L : List Nat} {k a : Nat} (h : a ∈ L.take k) : ∃ i, i < k ∧ L[i]? = some a := by
  obtain ⟨i, hi⟩ := List.mem_iff_getElem?.1 h
  rw [List.getElem?_take] at hi
  split at hi
  · exact ⟨i, by assumption, hi⟩
  · cases hi
theorem inc_at {L : List Nat} (h : L.Pairwise (· < ·)) {i j a b : Nat} (ha : L[i]? = some a) (hb : L[j]? = some b) : (i < j → a < b) ∧ (i = j → a = b) := by
  obtain ⟨h1, h2⟩ := List.getElem?_eq_some_iff.1 ha
  obtain ⟨h3, h4⟩ := List.getElem?_eq_some_iff.1 hb
  refine ⟨fun e => ?_, fun e => ?_⟩
  · have := List.pairwise_iff_getElem.1 h i j h1 h3 e
    omega
  · subst e; rw [ha] at hb; injection hb
theorem before_take {L : List Nat} (h : L.Pairwise (· < ·)) {k a m : Nat} (ha : L[k]? = some a) (hm : m ∈ L) (hlt : m < a) : m ∈ L.take k := by
  obtain ⟨i, hi⟩ := List.mem_iff_getElem?.1 hm
  refine in_take hi ?_
  rcases Nat.lt_trichotomy i k with e | e | e
  · exact e
  · have := (inc_at h hi ha).2 e; omega
  · have := (inc_at h ha hi).1 e; omega
theorem fresh_take {L : List Nat} (h : L.Pairwise (· < ·)) {k a : Nat} (ha : L[k]? = some a) : ¬ a ∈ L.take k := fun e => by
  obtain ⟨i, h1, h2⟩ := of_take e
  have := (inc_at h h2 ha).1 h1
  omega
theorem take_one {L : List Nat} {k a : Nat} (ha : L[k]? = some a) : L.take (k + 1) = L.take k ++ [a] := by rw [List.take_add_one, ha]; rfl
section
variable {l : List Dd} {s : Cw} {dn : Nat → Nat} {dl : List Nat} {N : Nat} {ids : List Nat}
theorem SI.zero (l : List Dd) (s : Cw) : SI l s (fun _ => 0) [] := ⟨fun t => Nat.zero_le _, fun a => by simp, by simp, fun a h => (by cases h), by simp, fun t _ _ h => (by omega)⟩
theorem Rdy.fresh (hI : HInv l N s ids) (h : SI l s dn dl) {t a : Nat} (r : Rdy l s dn t a) : ¬ a ∈ dl := fun e => by
  obtain ⟨u, hu⟩ := (h.mem a).1 e
  have hat : a ∈ s.D t := List.mem_of_getElem? r.nx
  have : u = t := hI.uniq u t a (List.mem_of_mem_take hu) hat
  subst this
  exact fresh_take (hI.inc u) r.nx hu
theorem HInv.tlt (hI : HInv l N s ids) {t a : Nat} (h : a ∈ s.D t) : t < s.T := by
  rcases Nat.lt_or_ge t s.T with e | e
  · exact e
  · rw [hI.tz t e] at h; cases h
theorem SI.step (hI : HInv l N s ids) (h : SI l s dn dl) {t a : Nat} (r : Rdy l s dn t a) : SI l s (updF dn t (dn t + 1)) (dl ++ [a]) := by
  have hat : a ∈ s.D t := List.mem_of_getElem? r.nx
  have htT := hI.tlt hat
  have hfr := r.fresh hI h
  have hlen : dn t < (s.D t).length := (List.getElem?_eq_some_iff.1 r.nx).1
  have hbo : 0 < t → ∃ b : Nat, s.bo t = (b : Int) ∧ b ∈ dl := fun t0 => by
    by_cases d0 : dn t = 0
    · obtain ⟨p, b, e1, e2, e3⟩ := r.bg t0 d0
      exact ⟨b, e2, (h.mem b).2 ⟨p, e3⟩⟩
    · exact h.bgn t t0 htT (by omega)
  have hfrm : ∀ k ∈ frmN l a, k ∈ dl := fun k hk => by
    rcases hI.frm t a k hat hk with ⟨f1, f2⟩ | ⟨f1, f2⟩ | ⟨f0, c, f1, f2, f3, f4, f5⟩
    · exact (h.mem k).2 ⟨t, before_take (hI.inc t) r.nx f1 f2⟩
    · obtain ⟨b, e1, e2⟩ := hbo f1
      have : k = b := by omega
      subst this
      exact e2
    · have hl := r.ch f0 c f1 f2 f3 f4
      refine (h.mem k).2 ⟨c, ?_⟩
      rw [List.take_of_length_le hl]
      exact f5
  refine ⟨fun u => ?_, fun x => ?_, ?_, fun x hx m hm => ?_, ?_, fun u u0 u1 u2 => ?_⟩
  · by_cases e : u = t
    · subst e; rw [updF_eq]; omega
    · rw [updF_ne e]; exact h.le u
  · rw [List.mem_append, List.mem_singleton, h.mem x]
    constructor
    · rintro (⟨u, hu⟩ | rfl)
      · by_cases e : u = t
        · subst e
          exact ⟨u, by rw [updF_eq, take_one r.nx]; simp [hu]⟩
        · exact ⟨u, by rw [updF_ne e]; exact hu⟩
      · exact ⟨t, by rw [updF_eq, take_one r.nx]; simp⟩
    · rintro ⟨u, hu⟩
      by_cases e : u = t
      · subst e
        rw [updF_eq, take_one r.nx, List.mem_append, List.mem_singleton] at hu
        rcases hu with hu | hu
        · exact .inl ⟨u, hu⟩
        · exact .inr hu
      · rw [updF_ne e] at hu; exact .inl ⟨u, hu⟩
  · rw [List.nodup_append]
    refine ⟨h.nd, by simp, fun x hx y hy => ?_⟩
    rw [List.mem_singleton] at hy
    subst hy
    exact fun e => hfr (e ▸ hx)
  · rw [List.mem_append] at hx ⊢
    rcases hx with hx | hx
    · exact .inl (h.cl x hx m hm)
    · rw [List.mem_singleton] at hx
      subst hx
      obtain ⟨k, hk, e⟩ := (ah_iff l m x).1 hm
      have hkd := hfrm k hk
      rcases e with rfl | e
      · exact .inl hkd
      · exact .inl (h.cl k hkd m e)
  · rw [List.pairwise_append]
    refine ⟨h.ord, by simp, fun b hb y hy => ?_⟩
    rw [List.mem_singleton] at hy
    subst hy
    exact fun e => hfr (h.cl b hb y e)
  · by_cases e : u = t
    · subst e
      obtain ⟨b, e1, e2⟩ := hbo u0
      exact ⟨b, e1, by simp [e2]⟩
    · rw [updF_ne e] at u2
      obtain ⟨b, e1, e2⟩ := h.bgn u u0 u1 u2
      exact ⟨b, e1, by simp [e2]⟩
theorem all_len : ∀ (N : Nat) (L : List Nat), (∀ a, a < N → a ∈ L) → N ≤ L.length
  | 0, L, _ => Nat.zero_le _
  | N + 1, L, h => by
    have h1 := all_len N (L.erase N) (fun a ha => (List.mem_erase_of_ne (by omega)).2 (h a (by omega)))
    have h2 := List.length_erase_of_mem (h N (by omega))
    have h3 : 0 < L.length := List.length_pos_of_mem (h N (by omega))
    omega
/-- While not all is done, some task may go on. -/
theorem SI.prog (hI : HInv l N s ids) (h : SI l s dn dl) (hlt : dl.length < N) : ∃ t a, t < s.T ∧ Rdy l s dn t a := by
  rcases least_ofP (P := fun a => ¬ a ∈ dl) N with hall | ⟨a, h1, h2, h3⟩
  · have := all_len N dl (fun a ha => Classical.not_not.1 (hall a ha))
    omega
  · have hin : ∀ k, k < a → k ∈ dl := fun k hk => Classical.not_not.1 (h3 k hk)
    obtain ⟨t, hat⟩ := hI.cov a h1
    have htT := hI.tlt hat
    have hown : ∀ u x, x ∈ s.D u → x ∈ dl → x ∈ (s.D u).take (dn u) := fun u x hx hd => by
      obtain ⟨v, hv⟩ := (h.mem x).1 hd
      have : v = u := hI.uniq v u x (List.mem_of_mem_take hv) hx
      subst this
      exact hv
    obtain ⟨i, hi⟩ := List.mem_iff_getElem?.1 hat
    have hii : i = dn t := by
      rcases Nat.lt_trichotomy i (dn t) with e | e | e
      · exact absurd ((h.mem a).2 ⟨t, in_take hi e⟩) h2
      · exact e
      · have hil := (List.getElem?_eq_some_iff.1 hi).1
        have hx : (s.D t)[dn t]? = some ((s.D t)[dn t]'(by omega)) := List.getElem?_eq_getElem (by omega)
        have hlt2 := (inc_at (hI.inc t) hx hi).1 e
        have hd := hown t _ (List.mem_of_getElem? hx) (hin _ hlt2)
        exact absurd hd (fresh_take (hI.inc t) hx)
    subst hii
    refine ⟨t, a, htT, hi, fun t0 d0 => ?_, fun hk c c0 c1 hp hb => ?_⟩
    · obtain ⟨p, b, e1, e2, e3, e4, e5⟩ := hI.byo t t0 htT
      exact ⟨p, b, e1, e2, hown p b e4 (hin b (e5 a hat))⟩
    · rcases Nat.lt_or_ge (dn c) (s.D c).length with e | e
      · have hx : (s.D c)[dn c]? = some ((s.D c)[dn c]'e) := List.getElem?_eq_getElem e
        have hxc := List.mem_of_getElem? hx
        have := hI.dn c c0 c1 t hp a hat hb _ hxc
        exact absurd (hown c _ hxc (hin _ this)) (fresh_take (hI.inc c) hx)
      · exact e
/-- The last write of a place in a list of deeds. -/
def wrB (l : List Dd) (loc : Int) (d : Nat) : Bool := (kdN l d == 4) && (lcN l d == loc)
def lwV (l : List Dd) (L : List Nat) (loc : Int) : Int := match (L.filter (wrB l loc)).getLast? with
  | some d => (d : Int)
  | none => -1
theorem lw_hit {L : List Nat} {loc : Int} {d : Nat} (h : wrB l loc d = true) : lwV l (L ++ [d]) loc = d := by
  unfold lwV
  rw [List.filter_append, List.filter_cons_of_pos h]
  simp
theorem lw_miss {L : List Nat} {loc : Int} {d : Nat} (h : wrB l loc d = false) : lwV l (L ++ [d]) loc = lwV l L loc := by
  unfold lwV
  rw [List.filter_append, List.filter_cons_of_neg (by rw [h]; decide)]
  simp
theorem last_eq {A B : List Nat} (hm : ∀ x, x ∈ A ↔ x ∈ B) (hA : ∀ x y, A.getLast? = some x → y ∈ A → y ≠ x → y < x) (hB : ∀ x y, B.getLast? = some x → y ∈ B → y ≠ x → y < x) : A.getLast? = B.getLast? := by
  cases ha : A.getLast? with
  | none =>
    have e := List.getLast?_eq_none_iff.1 ha
    subst e
    cases hb : B.getLast? with
    | none => rfl
    | some y => exact absurd ((hm y).2 (List.mem_of_getLast? hb)) (by simp)
  | some x =>
    have hx := List.mem_of_getLast? ha
    cases hb : B.getLast? with
    | none =>
      have e := List.getLast?_eq_none_iff.1 hb
      subst e
      exact absurd ((hm x).1 hx) (by simp)
    | some y =>
      have hy := List.mem_of_getLast? hb
      by_cases e : x = y
      · rw [e]
      · have h1 := hA x y ha ((hm y).2 hy) (fun f => e f.symm)
        have h2 := hB y x hb ((hm x).1 hx) e
        omega
theorem last_of {R : Nat → Nat → Prop} : ∀ {A : List Nat}, A.Pairwise R → ∀ x y, A.getLast? = some x → y ∈ A → y ≠ x → R y x
  | [], _, x, y, h, _, _ => by cases h
  | [a], _, x, y, h, hy, hne => by simp at h hy; subst h hy; exact absurd rfl hne
  | a :: b :: A, hp, x, y, h, hy, hne => by
    rw [List.pairwise_cons] at hp
    have hl : (b :: A).getLast? = some x := by simpa using h
    rcases List.mem_cons.1 hy with rfl | hy
    · exact hp.1 x (List.mem_of_getLast? hl)
    · exact last_of hp.2 x y hl hy hne
/-- Without a race, a read that may be done finds the write that it finds serially. -/
theorem SI.read (hc : chkE l = 0) (hI : HInv l l.length s ids) (hno : ∀ n, n < l.length → rcB l n = false) (h : SI l s dn dl) {t a : Nat} (r : Rdy l s dn t a) (hk : kdN l a = 3) : lwV l dl (lcN l a) = lwV l (List.range a) (lcN l a) := by
  have hfr := r.fresh hI h
  have hal : a < l.length := hI.lt t a (List.mem_of_getElem? r.nx)
  have hdl : ∀ x ∈ dl, x < l.length := fun x hx => by
    obtain ⟨u, hu⟩ := (h.mem x).1 hx
    exact hI.lt u x (List.mem_of_mem_take hu)
  have hra : ∀ y x, y < x → x < l.length → (kdN l y = 3 ∨ kdN l y = 4) → (kdN l x = 3 ∨ kdN l x = 4) → lcN l y = lcN l x → (kdN l y = 4 ∨ kdN l x = 4) → Ah l y x := fun y x h1 h2 h3 h4 h5 h6 => by
    apply Classical.not_not.1
    intro h7
    have := hno x h2
    rw [(rcB_iff l x).2 ⟨y, h1, h3, h4, h5, h6, h7⟩] at this
    cases this
  have hw : ∀ x, wrB l (lcN l a) x = true ↔ kdN l x = 4 ∧ lcN l x = lcN l a := fun x => by unfold wrB; simp
  have hset : ∀ x, x ∈ dl.filter (wrB l (lcN l a)) ↔ x ∈ (List.range a).filter (wrB l (lcN l a)) := fun x => by
    rw [List.mem_filter, List.mem_filter, hw, List.mem_range]
    constructor
    · rintro ⟨h1, h2, h3⟩
      refine ⟨?_, h2, h3⟩
      rcases Nat.lt_trichotomy x a with e | e | e
      · exact e
      · subst e; exact absurd h1 hfr
      · exact absurd (h.cl x h1 a (hra a x e (hdl x h1) (.inl hk) (.inr h2) h3.symm (.inr h2))) hfr
    · rintro ⟨h1, h2, h3⟩
      have := hra x a h1 hal (.inr h2) (.inl hk) h3 (.inl h2)
      obtain ⟨k, hk1, e⟩ := (ah_iff l x a).1 this
      have hs := (h.step hI r).cl a (by simp) x this
      rw [List.mem_append, List.mem_singleton] at hs
      rcases hs with hs | hs
      · exact ⟨hs, h2, h3⟩
      · omega
  unfold lwV
  rw [last_eq hset ?_ ?_]
  · intro x y hx hy hne
    have hp : (dl.filter (wrB l (lcN l a))).Pairwise (fun a b => ¬ Ah l b a) := h.ord.sublist List.filter_sublist
    have hn := last_of hp x y hx hy hne
    have hxm := List.mem_of_getLast? hx
    rw [List.mem_filter, hw] at hxm hy
    rcases Nat.lt_trichotomy y x with e | e | e
    · exact e
    · exact absurd e hne
    · exact absurd (hra x y e (hdl y hy.1) (.inr hxm.2.1) (.inr hy.2.1) (hxm.2.2.trans hy.2.2.symm) (.inl hxm.2.1)) hn
  · intro x y hx hy hne
    have hp : ((List.range a).filter (wrB l (lcN l a))).Pairwise (· < ·) := List.pairwise_lt_range.sublist List.filter_sublist
    exact last_of hp x y hx hy hne
end
end Go.Proofs.Ytolhojagbiaamab
/-! The tasks in memory. -/
namespace Go.Proofs.Ytolhojagbiaamab
set_option linter.unusedVariables false
set_option maxRecDepth 20000
set_option linter.unusedSimpArgs false
open Go.RowKit Go.HeapKit

/-- Rows of numbers, in blocks of their own. -/
structure Rz (w : World) (base : Nat) (K : Nat → Value) (L : Nat → List Int) : Prop where
  row : ∀ k, RowZ w base (K k) (L k)
  apart : ∀ i j b, i ≠ j → (K i).ownBlock = some b → (K j).ownBlock ≠ some b
section
variable {w w' : World} {base : Nat} {K : Nat → Value} {L : Nat → List Int}
theorem Rz.kept {S : Nat → Prop} (h : Rz w base K L) (hk : Keeps S w w') (hS : ∀ k b, (K k).ownBlock = some b → ¬ S b) : Rz w' base K L :=
  ⟨fun k => (h.row k).kept hk (hS k), h.apart⟩
theorem Rz.more (h : Rz w base K L) (hk : Keeps None w w') : Rz w' base K L := h.kept hk (fun _ _ _ f => f)
theorem Rz.clear (h : Rz w base K L) (k : Nat) : Rz w base (updF K k (.slice none 0 0)) (updF L k []) := by
  refine ⟨fun j => ?_, fun i j b hij hb => ?_⟩
  · by_cases hj : j = k
    · subst hj; rw [updF_eq, updF_eq]; exact row_nil _ _ _ _
    · rw [updF_ne hj, updF_ne hj]; exact h.row j
  · by_cases hi : i = k
    · subst hi; rw [updF_eq] at hb; simp [Value.ownBlock] at hb
    · rw [updF_ne hi] at hb
      by_cases hj : j = k
      · subst hj; rw [updF_eq]; simp [Value.ownBlock]
      · rw [updF_ne hj]; exact h.apart i j b hij hb
theorem Rz.ne (h : Rz w base K L) {k b p : Nat} (hb : (K k).ownBlock = some b) {c : Array Value} {t : TypeId} {fz : Nat × Nat} (hp : w.heap[p]? = some (.cells c t fz)) (ht : t ≠ 3) : b ≠ p := by
  obtain ⟨cur, hc⟩ := own_block (h.row k) hb
  intro e
  subst e
  rw [hp] at hc
  injection hc with hc
  injection hc with _ hc
  exact ht hc
/-- 'append' to one of the rows. -/
theorem Rz.app (h : Rz w base K L) (k : Nat) (x : Int) (hb : base ≤ w.heap.size) (hlen : (L k).length ≤ 100000) {g0 : Nat} (hg0 : w.heap[g0]? = some (.cells #[.int .i64 x] 3 (0, 0))) :
    ∃ g cap w', (Builtin.append_ #[35, 35] 35 #[K k, .slice (some ⟨g0, 0, none⟩) 1 1]).run Try.prog w = .ok (.slice (some ⟨g, 0, none⟩) ((L k).length + 1) cap) w' ∧
      Rz w' base (updF K k (.slice (some ⟨g, 0, none⟩) ((L k).length + 1) cap)) (updF L k (L k ++ [x])) ∧ Keeps (fun i => (K k).ownBlock = some i) w w' := by
  obtain ⟨g, cap, w1, hr, ho, hk, hm⟩ := intZ_more base (K k) (L k) x 35 w (h.row k) hb (by omega) hg0
  refine ⟨g, cap, w1, hr, ⟨fun j => ?_, ?_⟩, hk⟩
  · by_cases hj : j = k
    · subst hj; rw [updF_eq, updF_eq]; exact ho
    · rw [updF_ne hj, updF_ne hj]
      exact (h.row j).kept hk (fun b e e2 => h.apart j k b hj e e2)
  · have hnew : ∀ j, j ≠ k → (K j).ownBlock ≠ some g := by
      intro j hj e
      rcases hm with hm | ⟨hm, _⟩
      · exact h.apart j k g hj e hm
      · have := own_lt (h.row j) e; omega
    intro i j b hij hb
    by_cases hi : i = k
    · subst hi
      rw [updF_eq] at hb
      simp [Value.ownBlock] at hb
      subst hb
      rw [updF_ne (Ne.symm hij)]
      exact hnew j (Ne.symm hij)
    · rw [updF_ne hi] at hb
      by_cases hj : j = k
      · subst hj
        rw [updF_eq]
        simp [Value.ownBlock]
        intro e
        subst e
        exact hnew i hi hb
      · rw [updF_ne hj]; exact h.apart i j b hij hb
/-- One element of one row is stored. -/
theorem Rz.put (h : Rz w base K L) {k g c : Nat} (hK : K k = .slice (some ⟨g, 0, none⟩) (L k).length c) (i : Nat) (x : Int) : Rz (w.setCell ⟨g, i, none⟩ (.int .i64 x)) base K (updF L k ((L k).set i x)) := by
  have hk1 : Keeps (· = g) w (w.setCell ⟨g, i, none⟩ (.int .i64 x)) := keeps_one (Keeps.refl _ _) _
  refine ⟨fun j => ?_, h.apart⟩
  by_cases hj : j = k
  · subst hj
    rw [updF_eq]
    have := h.row j
    rw [hK] at this ⊢
    exact this.put (k := i) x
  · rw [updF_ne hj]
    refine (h.row j).kept hk1 (fun b e e2 => ?_)
    subst e2
    exact h.apart j k b hj e (by rw [hK]; rfl)
end
theorem Try.infoRowI : (Try.prog.info? 35).map (fun i => (i.zero, i.size, i.bytes)) = some (some (.slice none 0 0), 1, 24) := by kernel_rfl
/-- 'append' of an empty row to a list of rows. -/
theorem rows_more (base : Nat) (s : Value) (n : Nat) (xs : List Value) (ty : Nat) (w : World) (h : w.ownsRow base 35 1 s n xs) (hb : base ≤ w.heap.size) (hlen : (n + 1) * 24 ≤ 140737488355328) {g0 : Nat}
    (hg0 : w.heap[g0]? = some (.cells #[.slice none 0 0] 35 (0, 0))) :
    ∃ g cap w', (Builtin.append_ #[41, 41] ty #[s, .slice (some ⟨g0, 0, none⟩) 1 1]).run Try.prog w = .ok (.slice (some ⟨g, 0, none⟩) (n + 1) cap) w' ∧
      w'.ownsRow base 35 1 (.slice (some ⟨g, 0, none⟩) (n + 1) cap) (n + 1) (xs ++ [.slice none 0 0]) ∧ Keeps (fun k => s.ownBlock = some k) w w' := by
  obtain ⟨i0, hi, hz0, hz1, hz2⟩ := info_parts Try.infoRowI
  obtain ⟨v', w1, hr, ho, hgr, hm, hk⟩ := run_append_apart (P := Try.prog) w base 41 ty 35 i0 _ 1 24 Try.underlying41 hi hz0 hz1 hz2 rfl (by decide) s n _ h
    ⟨g0, 0, none⟩ 1 1 [.slice none 0 0] rfl (by
      intro j u hu
      rw [show (⟨g0, 0, none⟩ : Addr).add j = ⟨g0, j, none⟩ by unfold Addr.add; split <;> simp_all, blk_cell hg0]
      simpa using hu) (by
      intro u hu
      simp at hu
      subst hu; rfl) (by unfold maxLen; omega) hlen hb
  rcases ho.2 with ⟨_, h0⟩ | ⟨g, cap, cur, e, _⟩
  · omega
  · subst e
    exact ⟨g, cap, w1, hr, ho, (Keeps.refl _ w).andGrown hgr (fun k e => .inl e)⟩
/-- The tasks: the block, the list of the tasks' deeds, all rows of numbers. -/
structure CrM (w0 w : World) (C T : Nat) (dv : Value) (K : Nat → Value) (L : Nat → List Int) : Prop where
  blk : w.heap[C]? = some (.cells #[dv, K 0, K 1, K 2] 43 (0, 0))
  cb : w0.heap.size ≤ C
  out : w.ownsRow w0.heap.size 35 1 dv T ((List.range T).map (fun t => K (6 + t)))
  rz : Rz w w0.heap.size K L
  kp : Keeps None w0 w
  nz : ∀ t, T ≤ t → K (6 + t) = .slice none 0 0
section
variable {w0 w w' : World} {C T : Nat} {dv : Value} {K : Nat → Value} {L : Nat → List Int}
theorem CrM.more (h : CrM w0 w C T dv K L) (hk : Keeps None w w') : CrM w0 w' C T dv K L :=
  ⟨blk_kept h.blk hk (fun f => f), h.cb, row_kept h.out hk (fun _ _ f => f), h.rz.more hk, h.kp.trans hk (fun _ f _ => f), h.nz⟩
theorem CrM.outNe (h : CrM w0 w C T dv K L) {b : Nat} (hb : dv.ownBlock = some b) : b ≠ C ∧ ∀ k, (K k).ownBlock ≠ some b := by
  obtain ⟨cur, hc⟩ := own_block h.out hb
  refine ⟨fun e => ?_, fun k e => h.rz.ne e hc (by decide) rfl⟩
  subst e
  rw [h.blk] at hc
  injection hc with hc
  injection hc with _ hc
  revert hc
  decide
theorem CrM.shape (h : CrM w0 w C T dv K L) (hT : 0 < T) : ∃ G cap, dv = .slice (some ⟨G, 0, none⟩) T cap ∧ w0.heap.size ≤ G ∧ (∀ t, t < T → w.cell? ⟨G, t, none⟩ = some (K (6 + t)) ∧ w.frozen? ⟨G, t, none⟩ = false) := by
  rcases h.out.2 with ⟨_, h0⟩ | ⟨G, cap, cur, e, hb, hg, hn, hm, hcs, htk⟩
  · omega
  · refine ⟨G, cap, e, hb, fun t ht => ⟨?_, blk_free hg t⟩⟩
    rw [blk_cell hg, ← Array.getElem?_toList]
    have : (cur.toList.take (T * 1))[t]? = some (K (6 + t)) := by
      rw [htk]
      simp [ht]
    rw [List.getElem?_take] at this
    split at this
    · exact this
    · cases this
/-- A row of the law's own (key 3, 4 or 5) gets one more. -/
theorem CrM.own (h : CrM w0 w C T dv K L) {k : Nat} (hk : 3 ≤ k) (hk6 : k < 6) (x : Int) (hlen : (L k).length ≤ 100000) :
    ∃ g cap w', (Builtin.append_ #[35, 35] 35 #[K k, .slice (some ⟨w.heap.size, 0, none⟩) 1 1]).run Try.prog (w.alloc (.cells #[.int .i64 x] 3)) = .ok (.slice (some ⟨g, 0, none⟩) ((L k).length + 1) cap) w' ∧
      Hid (CrM w0 w' C T dv (updF K k (.slice (some ⟨g, 0, none⟩) ((L k).length + 1) cap)) (updF L k (L k ++ [x]))) := by
  have hkA := Keeps.alloc None w (.cells #[.int .i64 x] 3)
  have hA := h.more hkA
  obtain ⟨g, cap, w', hr, hz, hkk⟩ := hA.rz.app k x (by have := hA.kp.size; omega) hlen (heap_alloc_new w _)
  refine ⟨g, cap, w', hr, ?_, h.cb, ?_, hz, hA.kp.trans hkk (fun i e hi => by have := row_low (h.rz.row k) e; omega), fun t ht => ?_⟩
  · have := blk_kept hA.blk hkk (fun e => hA.rz.ne e hA.blk (by decide) rfl)
    rw [updF_ne (by omega), updF_ne (by omega), updF_ne (by omega)]
    exact this
  · have := row_kept hA.out hkk (fun b hb e => (hA.outNe hb).2 k e)
    have e : (List.range T).map (fun t => updF K k (.slice (some ⟨g, 0, none⟩) ((L k).length + 1) cap) (6 + t)) = (List.range T).map (fun t => K (6 + t)) := by
      apply List.map_congr_left
      intro t _
      rw [updF_ne (by omega)]
    rw [e]
    exact this
  · rw [updF_ne (by omega)]; exact h.nz t ht
theorem CrM.clear (h : CrM w0 w C T dv K L) {k : Nat} (hk : 3 ≤ k) (hk6 : k < 6) : CrM w0 w C T dv (updF K k (.slice none 0 0)) (updF L k []) := by
  refine ⟨by rw [updF_ne (by omega), updF_ne (by omega), updF_ne (by omega)]; exact h.blk, h.cb, ?_, h.rz.clear k, h.kp, fun t ht => by rw [updF_ne (by omega)]; exact h.nz t ht⟩
  have e : (List.range T).map (fun t => updF K k (.slice none 0 0) (6 + t)) = (List.range T).map (fun t => K (6 + t)) := by
    apply List.map_congr_left
    intro t _
    rw [updF_ne (by omega)]
  rw [e]
  exact h.out
/-- One of the block's own rows gets one more, and is stored. -/
theorem CrM.field (h : CrM w0 w C T dv K L) {k : Nat} (hk : k < 3) (x : Int) (hlen : (L k).length ≤ 100000) :
    ∃ g cap w', (Builtin.append_ #[35, 35] 35 #[K k, .slice (some ⟨w.heap.size, 0, none⟩) 1 1]).run Try.prog (w.alloc (.cells #[.int .i64 x] 3)) = .ok (.slice (some ⟨g, 0, none⟩) ((L k).length + 1) cap) w' ∧
      w'.cell? ⟨C, k + 1, none⟩ = some (K k) ∧ w'.frozen? ⟨C, k + 1, none⟩ = false ∧
      Hid (CrM w0 (w'.setCell ⟨C, k + 1, none⟩ (.slice (some ⟨g, 0, none⟩) ((L k).length + 1) cap)) C T dv (updF K k (.slice (some ⟨g, 0, none⟩) ((L k).length + 1) cap)) (updF L k (L k ++ [x]))) := by
  have hkA := Keeps.alloc None w (.cells #[.int .i64 x] 3)
  have hA := h.more hkA
  obtain ⟨g, cap, w', hr, hz, hkk⟩ := hA.rz.app k x (by have := hA.kp.size; omega) hlen (heap_alloc_new w _)
  have hb := blk_kept hA.blk hkk (fun e => hA.rz.ne e hA.blk (by decide) rfl)
  have hks : Keeps (· = C) w' (w'.setCell ⟨C, k + 1, none⟩ (.slice (some ⟨g, 0, none⟩) ((L k).length + 1) cap)) := keeps_one (Keeps.refl _ _) _
  refine ⟨g, cap, w', hr, ?_, blk_free hb _, ?_, h.cb, ?_, ?_, ?_, fun t ht => ?_⟩
  · rw [blk_cell hb]
    have : k = 0 ∨ k = 1 ∨ k = 2 := by omega
    rcases this with rfl | rfl | rfl <;> rfl
  · have := blk_set (i := k + 1) hb (.slice (some ⟨g, 0, none⟩) ((L k).length + 1) cap)
    refine this.trans ?_
    have : k = 0 ∨ k = 1 ∨ k = 2 := by omega
    rcases this with rfl | rfl | rfl <;> simp [updF]
  · have := row_kept (row_kept hA.out hkk (fun b hb e => (hA.outNe hb).2 k e)) hks (fun b hb e => (hA.outNe hb).1 e)
    have e : (List.range T).map (fun t => updF K k (.slice (some ⟨g, 0, none⟩) ((L k).length + 1) cap) (6 + t)) = (List.range T).map (fun t => K (6 + t)) := by
      apply List.map_congr_left
      intro t _
      rw [updF_ne (by omega)]
    rw [e]
    exact this
  · exact hz.kept hks (fun j b hb2 e => hz.ne hb2 hb (by decide) e)
  · exact (hA.kp.trans hkk (fun i e hi => by have := row_low (h.rz.row k) e; omega)).trans hks (fun i e hi => by have := h.cb; omega)
  · rw [updF_ne (by omega)]; exact h.nz t ht
/-- One more task. -/
theorem CrM.push (h : CrM w0 w C T dv K L) (hT : T ≤ 100000) :
    ∃ G cap w', (Builtin.append_ #[41, 41] 41 #[dv, .slice (some ⟨w.heap.size, 0, none⟩) 1 1]).run Try.prog (w.alloc (.cells #[.slice none 0 0] 35)) = .ok (.slice (some ⟨G, 0, none⟩) (T + 1) cap) w' ∧
      w'.cell? ⟨C, 0, none⟩ = some dv ∧ w'.frozen? ⟨C, 0, none⟩ = false ∧
      Hid (CrM w0 (w'.setCell ⟨C, 0, none⟩ (.slice (some ⟨G, 0, none⟩) (T + 1) cap)) C (T + 1) (.slice (some ⟨G, 0, none⟩) (T + 1) cap) K L) := by
  have hkA := Keeps.alloc None w (.cells #[.slice none 0 0] 35)
  have hA := h.more hkA
  obtain ⟨G, cap, w', hr, ho, hkk⟩ := rows_more w0.heap.size dv T _ 41 _ hA.out (by have := hA.kp.size; omega) (by omega) (heap_alloc_new w _)
  have hb := blk_kept hA.blk hkk (fun e => (hA.outNe e).1 rfl)
  have hks : Keeps (· = C) w' (w'.setCell ⟨C, 0, none⟩ (.slice (some ⟨G, 0, none⟩) (T + 1) cap)) := keeps_one (Keeps.refl _ _) _
  have hz := hA.rz.kept hkk (fun k b hb e => (hA.outNe e).2 k hb)
  refine ⟨G, cap, w', hr, blk_cell hb 0, blk_free hb _, blk_set (i := 0) hb _, h.cb, ?_, hz.kept hks (fun j b hb2 e => hz.ne hb2 hb (by decide) e), ?_, fun t ht => h.nz t (by omega)⟩
  · rw [List.range_succ, List.map_append, List.map_singleton, h.nz T (Nat.le_refl _)]
    refine row_kept ho hks (fun b hb2 e => ?_)
    obtain ⟨cur, hc⟩ := own_block ho hb2
    subst e
    rw [hb] at hc
    injection hc with hc
    injection hc with _ hc
    revert hc
    decide
  · exact (hA.kp.trans hkk (fun i e hi => by have := row_low h.out e; omega)).trans hks (fun i e hi => by have := h.cb; omega)
/-- A task's deeds get one more, and are stored. -/
theorem CrM.deed (h : CrM w0 w C T dv K L) {t G cap : Nat} (ht : t < T) (hdv : dv = .slice (some ⟨G, 0, none⟩) T cap) (x : Int) (hlen : (L (6 + t)).length ≤ 100000) :
    ∃ g cp w', (Builtin.append_ #[35, 35] 35 #[K (6 + t), .slice (some ⟨w.heap.size, 0, none⟩) 1 1]).run Try.prog (w.drew.alloc (.cells #[.int .i64 x] 3)) = .ok (.slice (some ⟨g, 0, none⟩) ((L (6 + t)).length + 1) cp) w' ∧
      w'.cell? ⟨C, 0, none⟩ = some dv ∧ w'.cell? ⟨G, t, none⟩ = some (K (6 + t)) ∧ w'.frozen? ⟨G, t, none⟩ = false ∧
      Hid (CrM w0 (w'.setCell ⟨G, t, none⟩ (.slice (some ⟨g, 0, none⟩) ((L (6 + t)).length + 1) cp)) C T dv (updF K (6 + t) (.slice (some ⟨g, 0, none⟩) ((L (6 + t)).length + 1) cp)) (updF L (6 + t) (L (6 + t) ++ [x]))) := by
  have hkA : Keeps None w (w.drew.alloc (.cells #[.int .i64 x] 3)) := (Keeps.drew None w).andAlloc _
  have hA := h.more hkA
  obtain ⟨g, cp, w', hr, hz, hkk⟩ := hA.rz.app (6 + t) x (by have := hA.kp.size; omega) hlen (heap_alloc_new w.drew _)
  have hb := blk_kept hA.blk hkk (fun e => hA.rz.ne e hA.blk (by decide) rfl)
  have ho := row_kept hA.out hkk (fun b hb e => (hA.outNe hb).2 (6 + t) e)
  have hGb : dv.ownBlock = some G := by rw [hdv]; rfl
  have hGC := (hA.outNe hGb).1
  have hks : Keeps (· = G) w' (w'.setCell ⟨G, t, none⟩ (.slice (some ⟨g, 0, none⟩) ((L (6 + t)).length + 1) cp)) := keeps_one (Keeps.refl _ _) _
  obtain ⟨G', cap', e', hlow, hcell⟩ := hA.shape (by omega)
  rw [hdv] at e'
  injection e' with e1 e2 e3
  injection e1 with e1
  injection e1 with e1
  subst e1
  obtain ⟨cur, hcur⟩ := own_block ho hGb
  have hcw : w'.cell? ⟨G, t, none⟩ = some (K (6 + t)) := by
    have h1 := (hcell t ht).1
    exact hkk.cell h1 (fun e => (hA.outNe hGb).2 (6 + t) e)
  refine ⟨g, cp, w', hr, blk_cell hb 0, hcw, blk_free hcur _, ?_, h.cb, ?_, ?_, ?_, fun u hu => ?_⟩
  · have := blk_kept hb hks (fun e => hGC e.symm)
    rw [updF_ne (by omega), updF_ne (by omega), updF_ne (by omega)]
    exact this
  · rw [hdv] at ho ⊢
    have := row_set ho t (.slice (some ⟨g, 0, none⟩) ((L (6 + t)).length + 1) cp)
    have e : ((List.range T).map (fun t => K (6 + t))).set t (.slice (some ⟨g, 0, none⟩) ((L (6 + t)).length + 1) cp) = (List.range T).map (fun u => updF K (6 + t) (.slice (some ⟨g, 0, none⟩) ((L (6 + t)).length + 1) cp) (6 + u)) := by
      apply List.ext_getElem
      · simp
      · intro i h1 h2
        rw [List.getElem_set]
        by_cases e : t = i
        · subst e; simp [updF]
        · rw [if_neg e]
          have : ¬ i = t := fun f => e f.symm
          simp [updF, this]
    rw [e] at this
    exact this
  · refine hz.kept hks (fun j b hb2 e => ?_)
    exact hz.ne hb2 hcur (by decide) e
  · exact (hA.kp.trans hkk (fun i e hi => by have := row_low (h.rz.row (6 + t)) e; omega)).trans hks (fun i e hi => by omega)
  · rw [updF_ne (by omega)]; exact h.nz u hu
/-- One number of one of the block's own rows is stored. -/
theorem CrM.put (h : CrM w0 w C T dv K L) {k g c : Nat} (hK : K k = .slice (some ⟨g, 0, none⟩) (L k).length c) (i : Nat) (x : Int) : CrM w0 (w.setCell ⟨g, i, none⟩ (.int .i64 x)) C T dv K (updF L k ((L k).set i x)) := by
  have hks : Keeps (· = g) w (w.setCell ⟨g, i, none⟩ (.int .i64 x)) := keeps_one (Keeps.refl _ _) _
  have hg : (K k).ownBlock = some g := by rw [hK]; rfl
  refine ⟨blk_kept h.blk hks (fun e => h.rz.ne hg h.blk (by decide) e.symm), h.cb, row_kept h.out hks (fun b hb e => ?_), h.rz.put hK i x, h.kp.trans hks (fun j e hj => ?_), h.nz⟩
  · subst e; exact (h.outNe hb).2 k hg
  · have := row_low (h.rz.row k) hg; omega
/-- One number, as it is read. -/
theorem CrM.num (h : CrM w0 w C T dv K L) (k : Nat) : ∃ a c, K k = .slice a (L k).length c ∧ (∀ i x, (L k)[i]? = some x → ∃ g, a = some ⟨g, 0, none⟩ ∧ w.cell? ⟨g, i, none⟩ = some (.int .i64 x) ∧ w.frozen? ⟨g, i, none⟩ = false) := by
  obtain ⟨a, c, e, hs⟩ := (h.rz.row k).shape
  refine ⟨a, c, e, fun i x hx => ?_⟩
  have hi := (List.getElem?_eq_some_iff.1 hx).1
  obtain ⟨g, rfl⟩ := hs (by omega)
  have hr := h.rz.row k
  rw [e] at hr
  have := hr.at hx
  exact ⟨g, rfl, this.1, this.2.1⟩
end
end Go.Proofs.Ytolhojagbiaamab
