import Derived.Test.YtolhojagbiaamabPkAO
import Derived.Test.YtolhojagbiaamabPkAF
import Derived.WalkKit
import Derived.ProofKit
import Derived.OpenShut
import Derived.Deep.Slices
import Derived.Test.YtolhojagbiaamabPkAA
/-! What is told of the first deeds of a list. -/
namespace Go.Proofs.Ytolhojagbiaamab
set_option linter.unusedVariables false
set_option maxRecDepth 20000
set_option linter.unusedSimpArgs false
open Go.RowKit Go.HeapKit

theorem least_ofP {P : Nat → Prop} (N : Nat) : (∀ n, n < N → ¬ P n) ∨ ∃ n, n < N ∧ P n ∧ ∀ k, k < n → ¬ P k := by
  induction N with
  | zero => exact .inl (fun n h => by omega)
  | succ N ih =>
    rcases ih with ih | ⟨n, h1, h2⟩
    · by_cases h : P N
      · exact .inr ⟨N, by omega, h, ih⟩
      · refine .inl (fun n hn hp => ?_)
        by_cases e : n = N
        · subst e; exact h hp
        · exact ih n (by omega) hp
    · exact .inr ⟨n, by omega, h2⟩
/-- There is a first race, or none. -/
theorem first_casesP (l : List Dd) : (∃ n m, FirstP l n m) ∨ ∀ n, n < l.length → rcB l n = false := by
  rcases least_ofP (P := fun n => rcB l n = true) l.length with h | ⟨n, h1, h2, h3⟩
  · exact .inr (fun n hn => by cases hb : rcB l n with | false => rfl | true => exact absurd hb (h n hn))
  · obtain ⟨z, hz, hr⟩ := (rcB_iff l n).1 h2
    rcases least_ofP (P := fun m => RaceW l m n) n with h | ⟨m, g1, g2, g3⟩
    · exact absurd hr (h z hz)
    · exact .inl ⟨n, m, h1, fun k hk => by cases hb : rcB l k with | false => rfl | true => exact absurd hb (h3 k hk), g1, g2, g3⟩
theorem getD_take {α : Type} (l : List α) {n i : Nat} (d : α) (h : i < n) : (l.take n).getD i d = l.getD i d := by
  simp [List.getD, List.getElem?_take, h]
theorem kd_take (l : List Dd) {n i : Nat} (h : i < n) : kdN (l.take n) i = kdN l i := by unfold kdN; rw [getD_take _ _ h]
theorem lc_take (l : List Dd) {n i : Nat} (h : i < n) : lcN (l.take n) i = lcN l i := by unfold lcN; rw [getD_take _ _ h]
theorem stN_take (l : List Dd) (n : Nat) : ∀ i, i ≤ n → stN (l.take n) i = stN l i
  | 0, _ => rfl
  | i + 1, h => by
    show stepT i _ _ = stepT i _ _
    rw [getD_take _ _ (by omega), stN_take l n i (by omega)]
theorem frm_take (l : List Dd) {n i : Nat} (h : i < n) : frmN (l.take n) i = frmN l i := by
  unfold frmN
  rw [stN_take l n i (by omega), getD_take _ _ h]
theorem ah_ltE {l : List Dd} (hc : chkE l = 0) {m i : Nat} (hi : i < l.length) (h : Ah l m i) : m < i := ((ah_row hc hi m).1 h).1
theorem ah_same {l l' : List Dd} (hc : chkE l = 0) {N m i : Nat} (hN : N ≤ l.length) (hf : ∀ i, i < N → frmN l' i = frmN l i) (h : Ah l m i) : i < N → Ah l' m i := by
  induction h with
  | one h => exact fun hi => .one (by rw [hf _ hi]; exact h)
  | more h1 h2 ih =>
    intro hi
    have := ah_ltE hc (by omega) (.one h1)
    exact .more (by rw [hf _ hi]; exact h1) (ih (by omega))
theorem chkL_take : ∀ (l : List Dd) (n i d : Nat), chkL l i d = none → chkL (l.take n) i d = none
  | [], n, i, d, _ => by simp [chkL]
  | x :: l, 0, i, d, _ => rfl
  | x :: l, n + 1, i, d, h => by
    rw [List.take_succ_cons]
    unfold chkL at h ⊢
    split at h
    · cases h
    · rename_i hb
      rw [if_neg hb]
      exact chkL_take l n _ _ h
theorem chk_take {l : List Dd} (h : chkE l = 0) (n : Nat) : chkE (l.take n) = 0 := by
  obtain ⟨h1, h2⟩ := chk_fine h
  have hc : chkL l 0 0 = none := h2.1
  refine (chk_none ?_ (chkL_take l n 0 0 hc)).1
  rw [List.length_take]
  omega
theorem ah_take {l : List Dd} (hc : chkE l = 0) {n m i : Nat} (hn : n ≤ l.length) (hi : i < n) : Ah (l.take n) m i ↔ Ah l m i := by
  constructor
  · exact fun h => ah_same (chk_take hc n) (N := n) (by rw [List.length_take]; omega) (fun i hi => (frm_take l hi).symm) h hi
  · exact fun h => ah_same hc hn (fun i hi => frm_take l hi) h hi
theorem race_take {l : List Dd} (hc : chkE l = 0) {n m i : Nat} (hn : n ≤ l.length) (hi : i < n) (hm : m < i) : RaceW (l.take n) m i ↔ RaceW l m i := by
  unfold RaceW
  rw [kd_take l hi, kd_take l (show m < n by omega), lc_take l hi, lc_take l (show m < n by omega), ah_take hc hn hi]
theorem rc_take {l : List Dd} (hc : chkE l = 0) {n i : Nat} (hn : n ≤ l.length) (hi : i < n) : rcB (l.take n) i = rcB l i := by
  rw [Bool.eq_iff_iff, rcB_iff, rcB_iff]
  constructor
  · rintro ⟨z, hz, h⟩; exact ⟨z, hz, (race_take hc hn hi hz).1 h⟩
  · rintro ⟨z, hz, h⟩; exact ⟨z, hz, (race_take hc hn hi hz).2 h⟩
theorem len_take {l : List Dd} {n : Nat} (hn : n ≤ l.length) : (l.take n).length = n := by rw [List.length_take]; omega
theorem first_take {l : List Dd} (hc : chkE l = 0) {n p m : Nat} (hn : n ≤ l.length) (h : FirstP l p m) (hp : p < n) : FirstP (l.take n) p m :=
  ⟨by rw [len_take hn]; exact hp, fun k hk => by rw [rc_take hc hn (by omega)]; exact h.no k hk, h.ml, (race_take hc hn hp h.ml).2 h.race, fun k hk hr => h.least k hk ((race_take hc hn hp (by have := h.ml; omega)).1 hr)⟩
theorem none_take {l : List Dd} (hc : chkE l = 0) {n : Nat} (hn : n ≤ l.length) (h : ∀ i, i < n → rcB l i = false) : ∀ i, i < (l.take n).length → rcB (l.take n) i = false := fun i hi => by
  rw [len_take hn] at hi
  rw [rc_take hc hn hi]
  exact h i hi
theorem racy_take {l : List Dd} (hc : chkE l = 0) {n : Nat} (hn : n ≤ l.length) {Y Z : List Int} (hY : RacyL (l.take n) Y) (hZ : RacyL l Z) {L : Int} (h : L ∈ Y) : L ∈ Z := by
  obtain ⟨a, h1, h2, h3⟩ := (hY.2 L).1 h
  rw [len_take hn] at h1
  rw [rc_take hc hn h1] at h2
  rw [lc_take l h1] at h3
  exact (hZ.2 L).2 ⟨a, by omega, h2, h3⟩
/-- What First tells of a list and of its beginning. -/
structure FirTwo (n : Nat) (x y z x2 y2 z2 : Int) (b b2 : Bool) : Prop where
  go : b = true → b2 = true ∧ x = x2 ∧ y = y2 ∧ z = z2
  back : b2 = true → x2 < n → b = true
theorem fir_two {l : List Dd} (hc : chkE l = 0) {n : Nat} (hn : n ≤ l.length) : ∃ x y z x2 y2 z2 b b2, firV (l.take n) = .returned (.tuple #[.agg #[.int .i64 x, .int .i64 y, .int .i64 z], .bool b, .int .i64 0]) ∧ firV l = .returned (.tuple #[.agg #[.int .i64 x2, .int .i64 y2, .int .i64 z2], .bool b2, .int .i64 0]) ∧ FirTwo n x y z x2 y2 z2 b b2 := by
  rcases first_casesP l with ⟨p, m, hF⟩ | hno
  · by_cases hp : p < n
    · exact ⟨_, _, _, _, _, _, _, _, firV_some (chk_take hc n) (first_take hc hn hF hp), firV_some hc hF, ⟨fun _ => ⟨rfl, rfl, rfl, lc_take l hp⟩, fun _ _ => rfl⟩⟩
    · exact ⟨_, _, _, _, _, _, _, _, firV_none (chk_take hc n) (fst_none (none_take hc hn (fun i hi => hF.no i (by omega)))), firV_some hc hF, ⟨fun h => (by cases h), fun _ h => absurd h (by omega)⟩⟩
  · exact ⟨_, _, _, _, _, _, _, _, firV_none (chk_take hc n) (fst_none (none_take hc hn (fun i hi => hno i (by omega)))), firV_none hc (fst_none hno), ⟨fun h => (by cases h), fun h => (by cases h)⟩⟩
theorem Seen.take {w : World} {a : Option Addr} {n k : Nat} {l : List Dd} (h : Seen w a n l) (hk : k ≤ n) : Seen w a k (l.take k) := by
  refine ⟨by rw [len_take (by rw [← h.len]; exact hk)], fun h0 => ?_⟩
  obtain ⟨b, off, rfl, hb, hc⟩ := h.ex (by omega)
  refine ⟨b, off, rfl, hb, fun j x hx => hc j x ?_⟩
  rw [List.getElem?_take] at hx
  split at hx
  · exact hx
  · cases hx
theorem tmod_in (x : Int) (n : Nat) (h0 : 0 < n) : -(n : Int) < x.tmod n ∧ x.tmod n < n := by
  have h1 := Int.natAbs_tmod x n
  have h2 : x.natAbs % (n : Int).natAbs < (n : Int).natAbs := Nat.mod_lt _ (by omega)
  omega
set_option maxHeartbeats 1600000 in
theorem lmod_ok (x : Int) (n : Nat) (w : World) (h0 : 0 < n) (h1 : n ≤ 1099511627776) : Calls Try.prog 11 #[.int .i64 x, .int .i64 n] w fun e w' => ∃ N : Nat, e = .returned (.int .i64 N) ∧ N < n ∧ w' = w := by
  obtain ⟨b0, b1⟩ := tmod_in x n h0
  have hn : ¬ (n : Int) = 0 := by omega
  have hn2 : (n : Int) ≤ 1099511627776 := by omega
  by_cases hr : x.tmod n < 0
  · go_enter Try.func11, Try.ntmps11
    go_wp2
    go_ret
    refine ⟨(x.tmod n + n).toNat, ?_, by omega, rfl⟩
    rw [Int.toNat_of_nonneg (by omega)]
    rfl
  · go_enter Try.func11, Try.ntmps11
    go_wp2
    go_ret
    refine ⟨(x.tmod n).toNat, ?_, by omega, rfl⟩
    rw [Int.toNat_of_nonneg (by omega)]
    rfl
theorem sound_is (E : Int) (b : Bool) (hb : b = decide (E = 0)) (a : Option Addr) (n c : Nat) (l : List Dd) (w : World) (hE : chkE l = E) (hS : Seen w a n l) (hn : (n + 2) * 16 ≤ 140737488355328) :
    Calls Try.prog 7 #[.slice a n c] w fun e w' => e = .returned (.bool b) ∧ w' = w := by
  rw [hb, ← hE]; exact sound_ok a n c l w hS hn
theorem detect_is (E : Int) (a : Option Addr) (n c : Nat) (l : List Dd) (w : World) (hE : chkE l = E) (hS : Seen w a n l) :
    Calls Try.prog 9 #[.slice a n c] w fun e w' => ∃ v Z, e = .returned (.tuple #[v, .int .i64 E]) ∧ RowL w' w.heap.size v Z ∧ DetL l Z ∧ Keeps None w w' := by
  rw [← hE]; exact detect_ok a n c l w hS
end Go.Proofs.Ytolhojagbiaamab
/-! serially, Orders; the document's places and Orders. -/
namespace Go.Proofs.Ytolhojagbiaamab
set_option linter.unusedVariables false
set_option maxRecDepth 20000
set_option linter.unusedSimpArgs false
open Go.RowKit Go.HeapKit

/-- A block of numbers is a row of them. -/
theorem rowN_of_nums {w : World} {base g n : Nat} {N : Nat → Int} {L : List Nat} (hb : base ≤ g) (h : w.heap[g]? = some (.cells (numsA n N) 3 (0, 0))) (hl : L.length = n) (hN : ∀ (k x : Nat), L[k]? = some x → N k = (x : Int)) (hn : n ≤ 4096) : w.ownsRow base 3 1 (.slice (some ⟨g, 0, none⟩) n n) n (ivN L) := by
  refine ⟨by rw [ivN_len]; omega, .inr ⟨g, n, _, rfl, hb, h, Nat.le_refl _, by unfold maxLen; omega, by simp [numsA], ?_⟩⟩
  apply List.ext_getElem?
  intro k
  unfold numsA ivN
  by_cases hk : k < n
  · obtain ⟨x, hx⟩ : ∃ x, L[k]? = some x := ⟨L[k]'(by omega), by simp⟩
    simp [hk, hx, hN k x hx]
  · simp [hk, show ¬ k < L.length by omega]
set_option maxHeartbeats 1600000 in
theorem serially_ok (a : Option Addr) (n c : Nat) (w : World) (hn : n ≤ 4096) :
    Calls Try.prog 26 #[.slice a n c] w fun e w' => ∃ g, e = .returned (.slice (some ⟨g, 0, none⟩) n n) ∧ w'.ownsRow w.heap.size 3 1 (.slice (some ⟨g, 0, none⟩) n n) n (ivN (List.range n)) ∧ Keeps None w w' := by
  have hmk := make_nums n n (Nat.le_refl _) w (by omega)
  have b1 := heap_alloc_new w (.cells (numsA n (fun _ => 0)) 3)
  have k1 := Keeps.alloc None w (.cells (numsA n (fun _ => 0)) 3)
  obtain ⟨w1, hw1⟩ : ∃ w1, w1 = w.alloc (.cells (numsA n (fun _ => 0)) 3) := ⟨_, rfl⟩
  obtain ⟨g, hg⟩ : ∃ g, g = w.heap.size := ⟨_, rfl⟩
  rw [← hw1] at hmk b1 k1
  rw [← hg] at hmk b1
  have HG : Hid (g = w.heap.size) := hg
  have H1 : Hid (w1.heap[g]? = some (.cells (numsA n (fun _ => 0)) 3 (0, 0)) ∧ Keeps None w w1) := ⟨b1, k1⟩
  clear hw1 hg b1 k1
  go_enter Try.func26, Try.ntmps26
  go_wp2_with (at_make; refine wpList_make_run rfl (.tmp 6) (.tmp 6) 35 rfl rfl rfl hmk ?_)
  clear hmk
  go_loopw [4, 10] (fun _ i wr => ∃ (k : Nat) (N : Nat → Int), k ≤ n ∧ i = .int .i64 k ∧ wr.heap[g]? = some (.cells (numsA n N) 3 (0, 0)) ∧ (∀ j, j < k → N j = (j : Int)) ∧ Keeps None w wr) (fun _ i _ => n - (intOf i).toNat)
  case atStart => exact ⟨0, _, Nat.zero_le _, rfl, H1.out.1, fun j hj => by omega, H1.out.2⟩
  case round =>
    clear H1
    obtain ⟨k, N, hk, rfl, hb, hN, hkp⟩ := hrel
    by_cases hkn : k < n
    · have c0 : wr.cell? ⟨g, k, none⟩ = some (.int .i64 (N k)) := (cell_of_heap hb k).trans (nums_at _ _ hkn)
      have f0 := blk_free hb k
      have b2 := blk_set (i := k) hb (.int .i64 k)
      rw [nums_set] at b2
      have HN : Hid ((wr.setCell ⟨g, k, none⟩ (.int .i64 k)).heap[g]? = some (.cells (numsA n (upd N k k)) 3 (0, 0)) ∧ (∀ j, j < k + 1 → upd N k k j = (j : Int)) ∧ Keeps None w (wr.setCell ⟨g, k, none⟩ (.int .i64 k))) := by
        refine ⟨b2, fun j hj => ?_, hkp.andSet (x := ⟨g, k, none⟩) (.inr (by rw [HG.out]; exact Nat.le_refl _)) _⟩
        by_cases e : j = k
        · subst e; exact upd_eq _ _ _
        · rw [upd_ne e]; exact hN j (by omega)
      have i1 : (k : Int) < (n : Int) := by omega
      clear hb hN hkp b2
      go_wp2
      go_roundw
      case rel => exact ⟨k + 1, _, by omega, by go_num, HN.out⟩
      case measure => simp [intOf]; omega
    · have hkn2 : k = n := by omega
      subst hkn2
      have HN : Hid (wr.ownsRow w.heap.size 3 1 (.slice (some ⟨g, 0, none⟩) k k) k (ivN (List.range k)) ∧ Keeps None w wr) :=
        ⟨rowN_of_nums (by rw [HG.out]; exact Nat.le_refl _) hb (by simp) (fun q x hx => by
          have hq := (List.getElem?_eq_some_iff.1 hx).1
          rw [List.getElem?_range (by simpa using hq)] at hx
          injection hx with hx
          subst hx
          exact hN q (by simpa using hq)) hn, hkp⟩
      clear hb hN hkp
      go_wp2
      go_ret
      exact ⟨_, rfl, HN.out⟩
def ord1 (l : List Dd) : List Nat := if chkE l = 0 then List.range l.length else []
def ord2 (l : List Dd) : List Nat := if chkE l = 0 then Lof (stN l l.length) else []
/-- What Orders tells. -/
structure OrdP (l : List Dd) (w w' : World) (e : Ending) : Prop where
  ex : ∃ v1 v2, e = .returned (.tuple #[v1, v2, .int .i64 (chkE l)]) ∧ RowZ w' w.heap.size v1 (natZ (ord1 l)) ∧ RowZ w' w.heap.size v2 (natZ (ord2 l)) ∧ ∀ b, v1.ownBlock = some b → v2.ownBlock ≠ some b
  keep : Keeps None w w'
theorem natZ_len (L : List Nat) : (natZ L).length = L.length := by simp [natZ]
set_option maxHeartbeats 1600000 in
theorem orders_ok (a : Option Addr) (n c : Nat) (l : List Dd) (w : World) (hS : Seen w a n l) :
    Calls Try.prog 12 #[.slice a n c] w fun e w' => OrdP l w w' e := by
  have HS : Hid (Seen w a n l) := hS
  have HLen : Hid (n = l.length) := hS.len
  clear hS
  go_enter Try.func12, Try.ntmps12
  go_upto_region 2 with (go_at_call 22; refine Calls.mono (check_raw a n c l w HS.out) ?_; rintro _ w1 ⟨rfl, hk1⟩)
  obtain ⟨E, hE⟩ : ∃ E, E = chkE l := ⟨_, rfl⟩
  obtain ⟨A1, hA1⟩ : ∃ A1, A1 = chkA l := ⟨_, rfl⟩
  rw [← hE, ← hA1]
  have b2 := heap_alloc_new w1 (.cells #[.int .i64 E, .int .i64 A1] 54)
  have k2 := hk1.andAlloc (.cells #[.int .i64 E, .int .i64 A1] 54)
  obtain ⟨w2, hw2⟩ : ∃ w2, w2 = w1.alloc (.cells #[.int .i64 E, .int .i64 A1] 54) := ⟨_, rfl⟩
  obtain ⟨B, hB⟩ : ∃ B, B = w1.heap.size := ⟨_, rfl⟩
  rw [← hw2] at b2 k2
  rw [← hB] at b2
  rw [← hw2, ← hB]
  have g0 : w2.cell? ⟨B, 0, none⟩ = some (.int .i64 E) := cell_of_heap b2 0
  have HK : Hid (Keeps None w w2) := k2
  have HE : Hid (chkE l = E) := hE.symm
  clear b2 k2 hw2 hB hE hA1 hk1
  by_cases hE0 : E = 0
  · subst hE0
    obtain ⟨hn, hf⟩ := chk_fine HE.out
    have hn2 : n ≤ 4096 := by rw [HLen.out]; exact hn
    have HF : Hid (Fine l) := hf
    clear hn hf
    go_wp2_with (first
      | (go_at_call 26; refine Calls.mono (serially_ok a n c w2 hn2) ?_; rintro _ w3 ⟨g3, rfl, hr3, hk3⟩)
      | (go_at_call 25; refine Calls.mono (parentsFirst_ok a n c l w3 (HS.out.more (HK.out.trans hk3 (fun _ f _ => f))) HF.out hn2) ?_; rintro _ w4 ⟨g4, c4, rfl, hr4, hk4⟩))
    have o1 : ord1 l = List.range n := by unfold ord1; rw [if_pos HE.out, HLen.out]
    have o2 : ord2 l = Lof (stN l n) := by unfold ord2; rw [if_pos HE.out, HLen.out]
    have HQ : Hid (OrdP l w w4 (.returned (.tuple #[.slice (some ⟨g3, 0, none⟩) n n, .slice (some ⟨g4, 0, none⟩) n c4, .int .i64 0]))) := by
      obtain ⟨d, _, _, hI⟩ := HF.out.at n (by rw [HLen.out]; exact Nat.le_refl _)
      refine ⟨⟨_, _, by rw [HE.out], ?_, ?_, fun b e1 e2 => ?_⟩, (HK.out.trans hk3 (fun _ f _ => f)).trans hk4 (fun _ f _ => f)⟩
      · rw [o1]; unfold RowZ; rw [natZ_len, List.length_range, ← ivN_ivZ]
        exact row_base (row_kept hr3 hk4 (fun _ _ f => f)) HK.out.size
      · rw [o2]; unfold RowZ; rw [natZ_len, lof_len hI, ← ivN_ivZ]
        exact row_base hr4 (HK.out.trans hk3 (fun _ f _ => f)).size
      · simp [Value.ownBlock] at e1 e2
        have h1 := own_lt hr3 (g := g3) rfl
        have h2 := row_low hr4 (g := g4) rfl
        omega
    clear hr3 hk3 hr4 hk4 o1 o2
    go_ret3
    exact HQ.out
  · have HQ : Hid (∀ m, OrdP l w (w2.drewN m) (.returned (.tuple #[.slice none 0 0, .slice none 0 0, .int .i64 E]))) := by
      intro m
      have o1 : ord1 l = [] := by unfold ord1; rw [if_neg (fun h => hE0 (HE.out.symm.trans h))]
      have o2 : ord2 l = [] := by unfold ord2; rw [if_neg (fun h => hE0 (HE.out.symm.trans h))]
      refine ⟨⟨_, _, by rw [HE.out], ?_, ?_, fun b e1 e2 => by simp [Value.ownBlock] at e1⟩, HK.out.trans (keeps_drewN _ m) (fun _ f _ => f)⟩
      · rw [o1]; exact row_nil _ _ _ _
      · rw [o2]; exact row_nil _ _ _ _
    go_upto_region 3 with fail
    go_quiet (fail)
    go_wp2
    go_ret3
    exact HQ.out _
end Go.Proofs.Ytolhojagbiaamab
/-! Where deeds stand in lists, plainly. -/
namespace Go.Proofs.Ytolhojagbiaamab
set_option linter.unusedVariables false
set_option maxRecDepth 20000
set_option linter.unusedSimpArgs false
open Go.RowKit Go.HeapKit

/-- Where a number was seen among the first k. -/
def posV (L : List Nat) (k i : Nat) : Int := if L.idxOf i < k then (L.idxOf i : Int) else -1
theorem pos_zero (L : List Nat) (i : Nat) : posV L 0 i = -1 := by unfold posV; rw [if_neg (by omega)]
theorem pos_hit {L : List Nat} (hn : L.Nodup) {k i : Nat} (hk : k < L.length) (h : L.getD k 0 = i) : posV L (k + 1) i = k := by
  rw [getD_at hk] at h
  have := hn.idxOf_getElem k hk
  rw [h] at this
  unfold posV
  rw [this, if_pos (by omega)]
theorem pos_miss {L : List Nat} {k i : Nat} (hk : k < L.length) (h : ¬ L.getD k 0 = i) : posV L (k + 1) i = posV L k i := by
  have : ¬ L.idxOf i = k := fun e => by
    have h2 := List.getElem_idxOf (x := i) (xs := L) (by rw [e]; exact hk)
    apply h
    rw [getD_at hk]
    simpa [e] using h2
  unfold posV
  by_cases e : L.idxOf i < k
  · rw [if_pos e, if_pos (by omega)]
  · rw [if_neg e, if_neg (by omega)]
theorem pos_all {L : List Nat} {i : Nat} (h : i ∈ L) : posV L L.length i = (L.idxOf i : Int) := by
  unfold posV
  rw [if_pos (List.idxOf_lt_length_iff.2 h)]
/-- Which of two that stand there is ahead. -/
def ahV (L : List Nat) (i j : Nat) : Int := if L.idxOf i < L.idxOf j then 1 else -1
theorem idx_rngT {n v : Nat} (hv : v < n) : (List.range n).idxOf v = v := by
  have h := (List.nodup_range (n := n)).idxOf_getElem v (by simpa using hv)
  simpa using h
/-- What RacesTwo asks. -/
structure TwoP (l : List Dd) (i j : Nat) : Prop where
  p : parB l i j = parB l j i
  same : i = j → parB l i j = false ∧ ahV (ord1 l) i j = -1
  yes : ¬ i = j → parB l i j = true → (ahV (ord1 l) i j == ahV (ord2 l) i j) = false
  no : ¬ i = j → parB l i j = false → ahV (ord1 l) i j = ahV (ord2 l) i j ∧ (ahV (ord1 l) i j = 1 ↔ i < j)
theorem two_plain {l : List Dd} (hc : chkE l = 0) {i j : Nat} (hi : i < l.length) (hj : j < l.length) : TwoP l i j := by
  obtain ⟨_, hf⟩ := chk_fine hc
  obtain ⟨d, _, _, hI⟩ := hf.at l.length (Nat.le_refl _)
  have o1 : ord1 l = List.range l.length := by unfold ord1; rw [if_pos hc]
  have o2 : ord2 l = Lof (stN l l.length) := by unfold ord2; rw [if_pos hc]
  have p1 := (par_in (i := i) (j := j) hc hi hj).1
  have p2 := (par_in (i := j) (j := i) hc hj hi).1
  have hm : max j i = max i j := by omega
  have hm2 : min j i = min i j := by omega
  rw [hm, hm2] at p2
  have hne : ¬ i = j → ¬ (Lof (stN l l.length)).idxOf i = (Lof (stN l l.length)).idxOf j := fun h e => h (idx_inj ((hI.all i).2 hi) e)
  have e1 : (List.range l.length).idxOf i = i := idx_rngT hi
  have e2 : (List.range l.length).idxOf j = j := idx_rngT hj
  refine ⟨p1.trans p2.symm, fun e => ?_, fun h hp => ?_, fun h hp => ?_⟩
  · subst e
    refine ⟨?_, ?_⟩
    · rw [p1]; simp
    · unfold ahV; rw [if_neg (by omega)]
  · rw [p1] at hp
    have hp := of_decide_eq_true hp
    unfold ahV
    rw [o1, o2, e1, e2]
    by_cases hij : i < j
    · rw [show max i j = j by omega, show min i j = i by omega] at hp
      rw [if_pos hij, if_neg (by omega)]; decide
    · rw [show max i j = i by omega, show min i j = j by omega] at hp
      rw [if_neg hij, if_pos hp]; decide
  · rw [p1] at hp
    have hp := of_decide_eq_false hp
    have := hne h
    unfold ahV
    rw [o1, o2, e1, e2]
    by_cases hij : i < j
    · rw [show max i j = j by omega, show min i j = i by omega] at hp
      rw [if_pos hij, if_pos (by omega)]; exact ⟨rfl, fun _ => hij, fun _ => rfl⟩
    · rw [show max i j = i by omega, show min i j = j by omega] at hp
      rw [if_neg hij, if_neg (by omega)]; exact ⟨rfl, fun h => absurd h (by decide), fun h => absurd h hij⟩
theorem ord_mem {l : List Dd} (hc : chkE l = 0) : (ord1 l).Nodup ∧ (ord2 l).Nodup ∧ (ord1 l).length = l.length ∧ (ord2 l).length = l.length ∧ ∀ i, i < l.length → i ∈ ord1 l ∧ i ∈ ord2 l := by
  obtain ⟨_, hf⟩ := chk_fine hc
  obtain ⟨d, _, _, hI⟩ := hf.at l.length (Nat.le_refl _)
  have o1 : ord1 l = List.range l.length := by unfold ord1; rw [if_pos hc]
  have o2 : ord2 l = Lof (stN l l.length) := by unfold ord2; rw [if_pos hc]
  rw [o1, o2]
  exact ⟨List.nodup_range, hI.nd, by simp, lof_len hI, fun i hi => ⟨by simpa using hi, (hI.all i).2 hi⟩⟩
end Go.Proofs.Ytolhojagbiaamab
/-! The walk of RacesTwo. -/
namespace Go.Proofs.Ytolhojagbiaamab
set_option linter.unusedVariables false
set_option maxRecDepth 20000
set_option linter.unusedSimpArgs false
open Go.RowKit Go.HeapKit

theorem natZ_at {L : List Nat} {k : Nat} (h : k < L.length) : (natZ L)[k]? = some ((L.getD k 0 : Nat) : Int) := by
  rw [getD_at h]
  simp [natZ, h]
set_option maxHeartbeats 1600000 in
theorem ahead_ok (v : Value) (L : List Nat) (i j base : Nat) (w : World) (I J : Int) (hI : I = i) (hJ : J = j) (h : RowZ w base v (natZ L)) (hn : L.Nodup) (hi : i ∈ L) (hj : j ∈ L) (hl : L.length ≤ 4096) :
    Calls Try.prog 13 #[v, .int .i64 I, .int .i64 J] w fun e w' => e = .returned (.int .i64 (ahV L i j)) ∧ w' = w := by
  obtain ⟨az, cz, rfl, hsa⟩ := h.shape
  have HH : Hid (RowZ w base (.slice az (natZ L).length cz) (natZ L) ∧ (0 < (natZ L).length → ∃ g, az = some ⟨g, 0, none⟩)) := ⟨h, hsa⟩
  have HP : Hid (L.Nodup ∧ i ∈ L ∧ j ∈ L ∧ I = i ∧ J = j) := ⟨hn, hi, hj, hI, hJ⟩
  obtain ⟨n, hnn⟩ : ∃ n, n = (natZ L).length := ⟨_, rfl⟩
  have hl2 : n = L.length := by rw [hnn, natZ_len]
  have hn4 : n ≤ 4096 := by omega
  rw [← hnn]
  have HL : Hid (n = (natZ L).length ∧ n = L.length) := ⟨hnn, hl2⟩
  clear h hsa hnn hl2 hl hn hi hj hI hJ
  go_enter Try.func13, Try.ntmps13
  go_wp2_with fail
  go_loopw [7, 8, 9] (fun s7 s8 s9 wr => ∃ k : Nat, ∃ p q : Int, k ≤ n ∧ s7 = .int .i64 p ∧ s8 = .int .i64 q ∧ s9 = .int .i64 k ∧ Hid (p = posV L k i ∧ q = posV L k j) ∧ wr = w) (fun _ _ s9 _ => n - (intOf s9).toNat)
  case atStart => exact ⟨0, -1, -1, Nat.zero_le _, rfl, rfl, rfl, ⟨(pos_zero L i).symm, (pos_zero L j).symm⟩, rfl⟩
  case round =>
    obtain ⟨k, p, q, hk, rfl, rfl, rfl, HQ, rfl⟩ := hrel
    by_cases hkn : k < n
    · obtain ⟨g, rfl⟩ := HH.out.2 (by rw [← HL.out.1]; omega)
      have hkl : k < L.length := by rw [← HL.out.2]; exact hkn
      have hc := (RowZ.at HH.out.1 (natZ_at hkl)).1
      obtain ⟨x, hx⟩ : ∃ x : Int, x = ((L.getD k 0 : Nat) : Int) := ⟨_, rfl⟩
      rw [← hx] at hc
      have i1 : (k : Int) < (n : Int) := by omega
      have HX : Hid (x = ((L.getD k 0 : Nat) : Int) ∧ k < L.length) := ⟨hx, hkl⟩
      clear hx hkl
      have h1 : Hid (x = I → posV L (k + 1) i = k) := fun e => pos_hit HP.out.1 HX.out.2 (by have h1 := HX.out.1; have h2 := HP.out.2.2.2.1; omega)
      have h2 : Hid (¬ x = I → posV L (k + 1) i = p) := fun e => (pos_miss HX.out.2 (fun e2 => e (by have h1 := HX.out.1; have h2 := HP.out.2.2.2.1; omega))).trans HQ.out.1.symm
      have h3 : Hid (x = J → posV L (k + 1) j = k) := fun e => pos_hit HP.out.1 HX.out.2 (by have h1 := HX.out.1; have h2 := HP.out.2.2.2.2; omega)
      have h4 : Hid (¬ x = J → posV L (k + 1) j = q) := fun e => (pos_miss HX.out.2 (fun e2 => e (by have h1 := HX.out.1; have h2 := HP.out.2.2.2.2; omega))).trans HQ.out.2.symm
      by_cases e1 : x = I
      · have b1 : (x == I) = true := by simp [e1]
        by_cases e2 : x = J
        · have b2 : (x == J) = true := by simp [e2]
          have HR : Hid _ := And.intro (h1.out e1).symm (h3.out e2).symm
          clear e1 e2 h1 h2 h3 h4
          go_wp2_with fail
          go_roundw
          case rel => exact ⟨k + 1, k, k, by omega, rfl, rfl, by simp, HR, by first | trivial | rfl⟩
          case measure => simp [intOf]; omega
        · have b2 : (x == J) = false := by simp [e2]
          have HR : Hid _ := And.intro (h1.out e1).symm (h4.out e2).symm
          clear e1 e2 h1 h2 h3 h4
          go_wp2_with fail
          go_roundw
          case rel => exact ⟨k + 1, k, q, by omega, rfl, rfl, by simp, HR, by first | trivial | rfl⟩
          case measure => simp [intOf]; omega
      · have b1 : (x == I) = false := by simp [e1]
        by_cases e2 : x = J
        · have b2 : (x == J) = true := by simp [e2]
          have HR : Hid _ := And.intro (h2.out e1).symm (h3.out e2).symm
          clear e1 e2 h1 h2 h3 h4
          go_wp2_with fail
          go_roundw
          case rel => exact ⟨k + 1, p, k, by omega, rfl, rfl, by simp, HR, by first | trivial | rfl⟩
          case measure => simp [intOf]; omega
        · have b2 : (x == J) = false := by simp [e2]
          have HR : Hid _ := And.intro (h2.out e1).symm (h4.out e2).symm
          clear e1 e2 h1 h2 h3 h4
          go_wp2_with fail
          go_roundw
          case rel => exact ⟨k + 1, p, q, by omega, rfl, rfl, by simp, HR, by first | trivial | rfl⟩
          case measure => simp [intOf]; omega
    · obtain rfl : k = n := by omega
      have i1 : ¬ (k : Int) < (k : Int) := by omega
      have e1 : p = (L.idxOf i : Int) := by rw [HQ.out.1, HL.out.2]; exact pos_all HP.out.2.1
      have e2 : q = (L.idxOf j : Int) := by rw [HQ.out.2, HL.out.2]; exact pos_all HP.out.2.2.1
      have i2 : ¬ p < 0 := by omega
      have i3 : ¬ q < 0 := by omega
      by_cases hpq : p < q
      · have HV : Hid (ahV L i j = 1) := by unfold ahV; rw [if_pos (by omega)]; exact rfl
        clear e1 e2
        go_wp2_with fail
        go_ret
        exact ⟨by rw [HV.out]; rfl, rfl⟩
      · have HV : Hid (ahV L i j = -1) := by unfold ahV; rw [if_neg (by omega)]; exact rfl
        clear e1 e2
        go_wp2_with fail
        go_ret
        exact ⟨by rw [HV.out]; rfl, rfl⟩
set_option maxHeartbeats 1600000 in
theorem two_bad (a : Option Addr) (n c : Nat) (l : List Dd) (i j : Int) (w : World) (hS : Seen w a n l) (hn : (n + 2) * 16 ≤ 140737488355328) (hE : ¬ chkE l = 0 ∨ n < 2) :
    Calls Try.prog 4 #[.slice a n c, .int .i64 i, .int .i64 j] w fun e w' => e = .returned (.bool true) ∧ Keeps None w w' := by
  have HHe : Hid _ := head_ok w
  by_cases hE0 : chkE l = 0
  · have HSo : Hid _ := sound_is 0 true rfl a n c l w hE0 hS hn
    have i1 : (n : Int) < 2 := by
      rcases hE with h | h
      · exact absurd hE0 h
      · omega
    clear hS hE hE0
    go_enter Try.func4, Try.ntmps4
    go_wp2_with (first | (go_at_call 7; refine Calls.mono HSo.out ?_; rintro _ w1 ⟨rfl, rfl⟩) | (go_at_call 8; refine Calls.mono HHe.out ?_; rintro _ w2 ⟨rfl, hk2⟩))
    go_ret
    exact ⟨rfl, hk2⟩
  · have HSo : Hid _ := sound_is _ false (by simp [hE0]) a n c l w rfl hS hn
    clear hS hE hE0
    go_enter Try.func4, Try.ntmps4
    go_wp2_with (first | (go_at_call 7; refine Calls.mono HSo.out ?_; rintro _ w1 ⟨rfl, rfl⟩) | (go_at_call 8; refine Calls.mono HHe.out ?_; rintro _ w2 ⟨rfl, hk2⟩))
    go_ret
    exact ⟨rfl, hk2⟩
theorem par_is {l : List Dd} (hc : chkE l = 0) {i j : Nat} (hi : i < l.length) (hj : j < l.length) {b : Bool} (hb : parB l i j = b) (a : Option Addr) (n c : Nat) (w : World) (hS : Seen w a n l) :
    Calls Try.prog 10 #[.slice a n c, .int .i64 (i : Nat), .int .i64 (j : Nat)] w fun e w' => e = .returned (.tuple #[.bool b, .int .i64 0]) ∧ Keeps None w w' := by
  have := parallel_ok a n c l (i : Int) (j : Int) w hS
  rw [hb, (par_in hc hi hj).2] at this
  exact this
theorem two_vals {l : List Dd} {i j : Nat} (h : TwoP l i j) (hne : ¬ i = j) : ∃ (p : Bool) (x y : Int), parB l i j = p ∧ ahV (ord1 l) i j = x ∧ ahV (ord2 l) i j = y ∧ ((p = true ∧ x = 1 ∧ y = -1) ∨ (p = true ∧ x = -1 ∧ y = 1) ∨ (p = false ∧ x = 1 ∧ y = 1 ∧ i < j) ∨ (p = false ∧ x = -1 ∧ y = -1 ∧ ¬ i < j)) := by
  refine ⟨_, _, _, rfl, rfl, rfl, ?_⟩
  have ha : ∀ L, ahV L i j = 1 ∨ ahV L i j = -1 := fun L => by unfold ahV; split <;> simp
  cases hp : parB l i j with
  | true =>
    have h1 := h.yes hne hp
    rcases ha (ord1 l) with e1 | e1 <;> rcases ha (ord2 l) with e2 | e2 <;> rw [e1, e2] at h1 <;> simp [e1, e2] at h1 ⊢
  | false =>
    obtain ⟨h1, h2⟩ := h.no hne hp
    rcases ha (ord1 l) with e1 | e1 <;> rcases ha (ord2 l) with e2 | e2 <;> rw [e1, e2] at h1 <;> rw [e1] at h2 <;> simp [e1, e2] at h1 h2 ⊢ <;> omega
set_option maxHeartbeats 8000000 in
theorem two_good (a : Option Addr) (n c : Nat) (l : List Dd) (i j : Int) (w : World) (hS : Seen w a n l) (hn : (n + 2) * 16 ≤ 140737488355328) (hE : chkE l = 0) (h2 : ¬ n < 2) :
    Calls Try.prog 4 #[.slice a n c, .int .i64 i, .int .i64 j] w fun e w' => e = .returned (.bool true) ∧ Keeps None w w' := by
  have HS : Hid (Seen w a n l ∧ chkE l = 0 ∧ n = l.length) := ⟨hS, hE, hS.len⟩
  have HSo : Hid _ := sound_is 0 true rfl a n c l w hE hS hn
  have hn4 : n ≤ 4096 := by rw [hS.len]; exact (chk_fine hE).1
  have HM1 : Hid _ := lmod_ok i n w (by omega) (by omega)
  have HM2 : Hid _ := lmod_ok j n w (by omega) (by omega)
  have i1 : ¬ (n : Int) < 2 := by omega
  clear hS hE
  go_enter Try.func4, Try.ntmps4
  go_upto_region 3 with (go_at_call 7; refine Calls.mono HSo.out ?_; rintro _ w1 ⟨rfl, rfl⟩)
  go_upto_region 4 with (go_at_call 11; refine Calls.mono HM1.out ?_; rintro _ w1 ⟨P, rfl, hP, rfl⟩)
  go_upto_region 5 with (go_at_call 11; refine Calls.mono HM2.out ?_; rintro _ w1 ⟨Q, rfl, hQ, rfl⟩)
  clear HSo HM1 HM2 i1
  have hPl : P < l.length := by rw [← HS.out.2.2]; exact hP
  have hQl : Q < l.length := by rw [← HS.out.2.2]; exact hQ
  have hT := two_plain HS.out.2.1 hPl hQl
  have hO := ord_mem HS.out.2.1
  have HPl : Hid (P < l.length ∧ Q < l.length) := ⟨hPl, hQl⟩
  have HO : Hid _ := hO
  by_cases hPQ : P = Q
  · subst hPQ
    obtain ⟨hp, hv⟩ := hT.same rfl
    have HP1 : Hid _ := par_is HS.out.2.1 hPl hPl hp a n c w1 HS.out.1
    have HV : Hid (ahV (ord1 l) P P = -1) := hv
    have HPb : Hid (parB l P P = false) := hp
    clear hT hO hPl hQl hp hv
    go_upto_region 6 with (go_at_call 10; refine Calls.mono HP1.out ?_; rintro _ w2 ⟨rfl, hk2⟩)
    have HP2 : Hid _ := par_is HS.out.2.1 HPl.out.1 HPl.out.1 HPb.out a n c w2 (HS.out.1.more hk2)
    have HK2 : Hid (Keeps None w1 w2) := hk2
    clear hk2 HP1
    go_upto_region 7 with (go_at_call 10; refine Calls.mono HP2.out ?_; rintro _ w3 ⟨rfl, hk3⟩)
    have HK3 : Hid (Keeps None w1 w3) := HK2.out.trans hk3 (fun _ f _ => f)
    have HO3 : Hid _ := orders_ok a n c l w3 (HS.out.1.more HK3.out)
    clear hk3 HP2 HK2
    go_upto_region 8 with (go_at_call 12; refine Calls.mono HO3.out ?_; rintro _ w4 ⟨⟨v1, v2, rfl, hv1, hv2, _⟩, hk4⟩)
    obtain ⟨a1, c1, rfl, _⟩ := hv1.shape
    obtain ⟨a2, c2, rfl, _⟩ := hv2.shape
    have n1 : (natZ (ord1 l)).length = n := by rw [natZ_len, HO.out.2.2.1, HS.out.2.2]
    have n2 : (natZ (ord2 l)).length = n := by rw [natZ_len, HO.out.2.2.2.1, HS.out.2.2]
    rw [n1] at hv1 ⊢
    rw [n2] at hv2 ⊢
    have hA := ahead_ok _ (ord1 l) P P _ w4 P P rfl rfl hv1 HO.out.1 (HO.out.2.2.2.2 P HPl.out.1).1 (HO.out.2.2.2.2 P HPl.out.1).1 (by rw [HO.out.2.2.1, ← HS.out.2.2]; exact hn4)
    rw [HV.out] at hA
    have HA : Hid _ := hA
    have HK4 : Hid (Keeps None w1 w4) := HK3.out.trans hk4 (fun _ f _ => f)
    have hcE : chkE l = 0 := HS.out.2.1
    rw [hcE]
    clear hA hv1 hv2 n1 n2 hk4 HO3 HK3 hcE
    go_wp2_with (go_at_call 13; refine Calls.mono HA.out ?_; rintro _ w5 ⟨rfl, rfl⟩)
    go_ret
    exact ⟨rfl, HK4.out⟩
  · obtain ⟨pb, x, y, hp, hx, hy, hall⟩ := two_vals hT hPQ
    have hp2 : parB l Q P = pb := by rw [← hT.p]; exact hp
    have HP1 : Hid _ := par_is HS.out.2.1 hPl hQl hp a n c w1 HS.out.1
    have HV : Hid (ahV (ord1 l) P Q = x ∧ ahV (ord2 l) P Q = y) := ⟨hx, hy⟩
    have HPb : Hid (parB l Q P = pb) := hp2
    have HAl : Hid _ := hall
    have b0 : ((P : Int) == (Q : Int)) = false := by simp; omega
    have b9 : ¬ (P : Int) = (Q : Int) := by omega
    clear hT hO hPl hQl hp hx hy hp2 hall
    go_upto_region 6 with (go_at_call 10; refine Calls.mono HP1.out ?_; rintro _ w2 ⟨rfl, hk2⟩)
    have HP2 : Hid _ := par_is HS.out.2.1 HPl.out.2 HPl.out.1 HPb.out a n c w2 (HS.out.1.more hk2)
    have HK2 : Hid (Keeps None w1 w2) := hk2
    clear hk2 HP1
    go_upto_region 7 with (go_at_call 10; refine Calls.mono HP2.out ?_; rintro _ w3 ⟨rfl, hk3⟩)
    have HK3 : Hid (Keeps None w1 w3) := HK2.out.trans hk3 (fun _ f _ => f)
    have HO3 : Hid _ := orders_ok a n c l w3 (HS.out.1.more HK3.out)
    clear hk3 HP2 HK2
    go_upto_region 8 with (go_at_call 12; refine Calls.mono HO3.out ?_; rintro _ w4 ⟨⟨v1, v2, rfl, hv1, hv2, _⟩, hk4⟩)
    obtain ⟨a1, c1, rfl, _⟩ := hv1.shape
    obtain ⟨a2, c2, rfl, _⟩ := hv2.shape
    have n1 : (natZ (ord1 l)).length = n := by rw [natZ_len, HO.out.2.2.1, HS.out.2.2]
    have n2 : (natZ (ord2 l)).length = n := by rw [natZ_len, HO.out.2.2.2.1, HS.out.2.2]
    rw [n1] at hv1 ⊢
    rw [n2] at hv2 ⊢
    have hA := ahead_ok _ (ord1 l) P Q _ w4 P Q rfl rfl hv1 HO.out.1 (HO.out.2.2.2.2 P HPl.out.1).1 (HO.out.2.2.2.2 Q HPl.out.2).1 (by rw [HO.out.2.2.1, ← HS.out.2.2]; exact hn4)
    have hB := ahead_ok _ (ord2 l) P Q _ w4 P Q rfl rfl hv2 HO.out.2.1 (HO.out.2.2.2.2 P HPl.out.1).2 (HO.out.2.2.2.2 Q HPl.out.2).2 (by rw [HO.out.2.2.2.1, ← HS.out.2.2]; exact hn4)
    rw [HV.out.1] at hA
    rw [HV.out.2] at hB
    have HA : Hid _ := hA
    have HB : Hid _ := hB
    have HK4 : Hid (Keeps None w1 w4) := HK3.out.trans hk4 (fun _ f _ => f)
    have hcE : chkE l = 0 := HS.out.2.1
    rw [hcE]
    clear hA hB hv1 hv2 n1 n2 hk4 HO3 HK3 hcE HV HPb
    rcases HAl.out with ⟨rfl, rfl, rfl⟩ | ⟨rfl, rfl, rfl⟩ | ⟨rfl, rfl, rfl, hlt⟩ | ⟨rfl, rfl, rfl, hlt⟩
    · clear HAl
      go_upto_region 13 with (go_at_call 13; refine Calls.mono HA.out ?_; rintro _ w5 ⟨rfl, rfl⟩)
      go_wp2_with (go_at_call 13; refine Calls.mono HB.out ?_; rintro _ w6 ⟨rfl, rfl⟩)
      go_ret
      exact ⟨rfl, HK4.out⟩
    · clear HAl
      go_upto_region 13 with (go_at_call 13; refine Calls.mono HA.out ?_; rintro _ w5 ⟨rfl, rfl⟩)
      go_wp2_with (go_at_call 13; refine Calls.mono HB.out ?_; rintro _ w6 ⟨rfl, rfl⟩)
      go_ret
      exact ⟨rfl, HK4.out⟩
    · clear HAl
      have i5 : (P : Int) < (Q : Int) := by omega
      go_upto_region 13 with (go_at_call 13; refine Calls.mono HA.out ?_; rintro _ w5 ⟨rfl, rfl⟩)
      go_wp2_with (go_at_call 13; refine Calls.mono HB.out ?_; rintro _ w6 ⟨rfl, rfl⟩)
      go_ret
      exact ⟨by simp [i5, hlt], HK4.out⟩
    · clear HAl
      have i5 : ¬ (P : Int) < (Q : Int) := by omega
      go_upto_region 13 with (go_at_call 13; refine Calls.mono HA.out ?_; rintro _ w5 ⟨rfl, rfl⟩)
      go_wp2_with (go_at_call 13; refine Calls.mono HB.out ?_; rintro _ w6 ⟨rfl, rfl⟩)
      go_ret
      exact ⟨by simp [i5, hlt], HK4.out⟩
theorem racesTwo_walk (a : Option Addr) (n c : Nat) (l : List Dd) (i j : Int) (w : World) (hS : Seen w a n l) (hn : (n + 2) * 16 ≤ 140737488355328) :
    Calls Try.prog 4 #[.slice a n c, .int .i64 i, .int .i64 j] w fun e w' => e = .returned (.bool true) ∧ Below w.heap.size w w' := by
  have h : Calls Try.prog 4 #[.slice a n c, .int .i64 i, .int .i64 j] w fun e w' => e = .returned (.bool true) ∧ Keeps None w w' := by
    by_cases hE : chkE l = 0
    · by_cases h2 : n < 2
      · exact two_bad a n c l i j w hS hn (.inr h2)
      · exact two_good a n c l i j w hS hn hE h2
    · exact two_bad a n c l i j w hS hn (.inl hE)
  exact h.mono fun e w' hp => ⟨hp.1, hp.2.below _ (Nat.le_refl _) (fun _ f => f.elim)⟩
end Go.Proofs.Ytolhojagbiaamab
/-! Structs of 64-bit numbers among the arguments, and slices of them. Whatever the program. -/
namespace Go.HeapKit
open Go.ChangeShapes Go.WideShapes Go.ChangeAt Go.RowKit Go.Deep

section
variable {H : Type} {enc : TypeId × Value → H} {P : Program} {w : World} {base : Nat} {spare : Nat → Bool} {held : Bool}

/-- All fields are 64-bit numbers, one cell each, in order. -/
def allInts (P : Program) (fs : List Field) : Bool :=
  (List.range fs.length).all fun i => match fs[i]? with
    | some f => f.offset == i && (match P.underlying f.type with | some (.int .i64) => true | _ => false) && P.cellsOf f.type == 1
    | none => false
theorem allInts_at {fs : List Field} (h : allInts P fs = true) {i : Nat} {f : Field} (hf : fs[i]? = some f) : f.offset = i ∧ P.underlying f.type = some (.int .i64) ∧ P.cellsOf f.type = 1 := by
  have hi : i < fs.length := (List.getElem?_eq_some_iff.1 hf).1
  have := List.all_eq_true.1 h i (List.mem_range.2 hi)
  rw [hf] at this
  simp only [Bool.and_eq_true, beq_iff_eq] at this
  obtain ⟨⟨h1, h2⟩, h3⟩ := this
  refine ⟨h1, ?_, h3⟩
  split at h2
  · assumption
  · cases h2

theorem struct_ints {t : TypeId} {fs : Array Field} {fuel : Nat} {cs : List Value} {x : DataW H × List MemPlace} (ht : P.underlying t = some (.struct fs)) (ha : allInts P fs.toList = true) (hc : P.cellsOf t = fs.size)
    (h : DataW.trod enc P w base spare held fuel t cs = some x) : ∃ ns : List Int, ns.length = fs.size ∧ cs = ns.map (Value.int .i64) ∧ ∀ n ∈ ns, (Lit.int .i64 n).wf = true := by
  obtain ⟨xs, n, _, rfl, hl, hlen, hf⟩ := DataW.trod_struct ht h
  rw [hc] at hl
  have hat : ∀ i, i < fs.size → ∃ m : Int, cs[i]? = some (.int .i64 m) ∧ (Lit.int .i64 m).wf = true := by
    intro i hi
    have hfi : fs[i]? = some fs[i] := by simp [hi]
    obtain ⟨h1, h2, h3⟩ := allInts_at ha (i := i) (f := fs[i]) (by simp)
    have hq := hf i fs[i] hfi
    rw [h1, h3, show xs[i]? = some xs[i] by simp] at hq
    obtain ⟨m, hm, _, hw⟩ := DataW.trod_int h2 hq
    refine ⟨m, ?_, hw⟩
    have : (List.take 1 (List.drop i cs))[0]? = some (.int .i64 m) := by rw [hm]; rfl
    simpa [List.getElem?_take, List.getElem?_drop] using this
  have hall : ∀ v ∈ cs, ∃ m : Int, v = .int .i64 m ∧ (Lit.int .i64 m).wf = true := by
    intro v hv
    obtain ⟨i, hi, rfl⟩ := List.mem_iff_getElem.1 hv
    obtain ⟨m, hm, hw⟩ := hat i (by omega)
    exact ⟨m, by simpa [hi] using hm, hw⟩
  have hex : ∀ cs : List Value, (∀ v ∈ cs, ∃ m : Int, v = .int .i64 m ∧ (Lit.int .i64 m).wf = true) → ∃ ns : List Int, cs = ns.map (Value.int .i64) ∧ ∀ n ∈ ns, (Lit.int .i64 n).wf = true := by
    intro cs
    induction cs with
    | nil => exact fun _ => ⟨[], rfl, fun _ h => by cases h⟩
    | cons v cs ih =>
      intro hv
      obtain ⟨ns, rfl, hw⟩ := ih (fun u hu => hv u (List.mem_cons_of_mem _ hu))
      obtain ⟨m, rfl, hm⟩ := hv v (List.mem_cons_self ..)
      refine ⟨m :: ns, rfl, ?_⟩
      intro n hn
      rcases List.mem_cons.1 hn with rfl | hn
      · exact hm
      · exact hw n hn
  obtain ⟨ns, rfl, hw⟩ := hex cs hall
  exact ⟨ns, by simpa using hl, rfl, hw⟩

theorem open_struct_ints {r : Reach} {b0 : Nat} {t : TypeId} {fs : Array Field} {v : Value} {d : DataW H} {ps : List MemPlace} (ht : P.underlying t = some (.struct fs)) (ha : allInts P fs.toList = true) (hc : P.cellsOf t = fs.size)
    (hval : Value.okWide P w r b0 t v) (hd : DataW.Trod enc P w base spare held t v d ps) : ∃ ns : List Int, ns.length = fs.size ∧ v = .agg (ns.map (Value.int .i64)).toArray ∧ ∀ n ∈ ns, (Lit.int .i64 n).wf = true := by
  obtain ⟨cs, rfl, hs⟩ := okWide_struct ht hval
  obtain ⟨fuel, hf⟩ := hd
  obtain ⟨ns, hl, he, hw⟩ := struct_ints ht ha hc hf
  refine ⟨ns, hl, ?_, hw⟩
  have : cs.toList = ns.map (Value.int .i64) := by simpa [Value.cells] using he
  rw [← this]

/-- A slice of structs of numbers that came in: nil; or a grid of 'cap' rows, 'size' cells each. -/
def IsGrid (size : Nat) (w : World) (a : Option Addr) (len cap : Nat) (rows : List (List Int)) : Prop :=
  (a = none ∧ len = 0 ∧ cap = 0 ∧ rows = []) ∨
  ∃ x : Addr, a = some x ∧ len ≤ cap ∧ cap ≤ maxLen ∧ rows.length = cap ∧ (∀ i, i < cap → ∃ ns : List Int, rows[i]? = some ns ∧ ns.length = size ∧ (∀ n ∈ ns, (Lit.int .i64 n).wf = true) ∧ ∀ j m, ns[j]? = some m → w.cell? ((x.add (i * size)).add j) = some (.int .i64 m))

theorem grid_slice {t e : TypeId} {x : Addr} {len cap : Nat} {d : DataW H} {ps : List MemPlace} (ht : P.underlying t = some (.slice e)) (hd : DataW.Trod enc P w base spare held t (.slice (some x) len cap) d ps) : ∃ elems sp, d = .slice elems sp := by
  obtain ⟨fuel, hf⟩ := hd
  rcases open_slice ht hf with ⟨h0, _⟩ | ⟨x, l, c, m, n, D, Pl, hcs, _, _, _, _, hx, _⟩
  · simp [Value.cells] at h0
  · simp only [Prod.mk.injEq] at hx
    exact ⟨_, _, hx.1⟩
theorem open_grid {t e : TypeId} {fs : Array Field} {a : Option Addr} {len cap : Nat} {d : DataW H} {ps : List MemPlace} (ht : P.underlying t = some (.slice e)) (he : P.underlying e = some (.struct fs)) (ha : allInts P fs.toList = true) (hc : P.cellsOf e = fs.size)
    (hd : DataW.Trod enc P w base (fun _ => true) held t (.slice a len cap) d ps) : (∃ rows, IsGrid fs.size w a len cap rows) ∧ ∀ elems sp, d = .slice elems sp → elems.length + sp.length = cap := by
  obtain ⟨fuel, hf⟩ := hd
  rcases open_slice ht hf with ⟨h0, hx⟩ | ⟨x, l, c, m, n, D, Pl, hcs, _, hl, hm, hmm, hx, hall⟩
  · simp [Value.cells] at h0
    obtain ⟨rfl, rfl, rfl⟩ := h0
    simp only [Prod.mk.injEq] at hx
    exact ⟨⟨[], .inl ⟨rfl, rfl, rfl, rfl⟩⟩, fun elems sp e => by rw [hx.1] at e; cases e⟩
  · simp [Value.cells] at hcs
    obtain ⟨rfl, rfl, rfl⟩ := hcs
    have hmc : m = cap := by simpa using hmm
    subst hmc
    simp only [Prod.mk.injEq] at hx
    refine ⟨?_, fun elems sp e => by rw [hx.1] at e; injection e with e1 e2; rw [← e1, ← e2]; simp; omega⟩
    have hrow : ∀ i, i < m → ∃ ns : List Int, ns.length = fs.size ∧ (∀ n ∈ ns, (Lit.int .i64 n).wf = true) ∧ ∀ j m, ns[j]? = some m → w.cell? ((x.add (i * fs.size)).add j) = some (.int .i64 m) := by
      intro i hi
      obtain ⟨cs', h1, h2⟩ := hall i hi
      rw [hc] at h1
      obtain ⟨ns, hl, rfl, hw⟩ := struct_ints he ha hc h2
      refine ⟨ns, hl, hw, ?_⟩
      intro j m hj
      obtain ⟨_, hlen, hcell⟩ := World.cells?_some h1
      rw [hcell j (by have := (List.getElem?_eq_some_iff.1 hj).1; omega)]
      simp [hj]
    have hex : ∀ k, k ≤ m → ∃ rows : List (List Int), rows.length = k ∧ ∀ i, i < k → ∃ ns : List Int, rows[i]? = some ns ∧ ns.length = fs.size ∧ (∀ n ∈ ns, (Lit.int .i64 n).wf = true) ∧ ∀ j m, ns[j]? = some m → w.cell? ((x.add (i * fs.size)).add j) = some (.int .i64 m) := by
      intro k
      induction k with
      | zero => exact fun _ => ⟨[], rfl, fun _ h => by omega⟩
      | succ k ih =>
        intro hk
        obtain ⟨rows, hrl, hr⟩ := ih (by omega)
        obtain ⟨ns, h1, h2, h3⟩ := hrow k (by omega)
        refine ⟨rows ++ [ns], by simp [hrl], ?_⟩
        intro i hi
        by_cases hik : i < k
        · obtain ⟨ns', e, r⟩ := hr i hik
          exact ⟨ns', by rw [List.getElem?_append_left (by omega)]; exact e, r⟩
        · obtain rfl : i = k := by omega
          exact ⟨ns, by rw [List.getElem?_append_right (by omega), hrl]; simp, h1, h2, h3⟩
    obtain ⟨rows, hrl, hr⟩ := hex m (Nat.le_refl _)
    exact ⟨rows, .inr ⟨x, rfl, hl, hm, hrl, hr⟩⟩
end
end Go.HeapKit
/-! A slice of deeds that came in. -/
namespace Go.Proofs.Ytolhojagbiaamab
open Go.RowKit Go.HeapKit

def ddOf (ns : List Int) : Dd := ⟨ns.getD 0 0, ns.getD 1 0⟩
theorem spot_of_cell {w : World} {x : Addr} {v : Value} (h : w.cell? x = some v) : x.spot = none := by
  unfold World.cell? at h
  split at h
  · split at h
    · cases h
    · rename_i hs; simpa using hs
  · cases h
theorem lt_of_cell {w : World} {b o : Nat} {v : Value} (h : w.cell? ⟨b, o, none⟩ = some v) : b < w.heap.size := by
  cases hb : w.heap[b]? with
  | none => simp [World.cell?, hb] at h
  | some o => exact (Array.getElem?_eq_some_iff.1 hb).1
theorem grid_deeds {w : World} {ao : Option Addr} {len cap : Nat} {g : List (List Int)} (h : IsGrid 2 w ao len cap g) : len ≤ cap ∧ Seen w ao len ((g.take len).map ddOf) := by
  rcases h with ⟨rfl, rfl, rfl, rfl⟩ | ⟨x, rfl, hl, hm, hlen, hrow⟩
  · exact ⟨Nat.le_refl _, rfl, fun h => by omega⟩
  · refine ⟨hl, by simp; omega, fun hpos => ?_⟩
    have hspot : x.spot = none := by
      obtain ⟨ns, h1, h2, h3, h4⟩ := hrow 0 (by omega)
      match ns, h2 with
      | m0 :: _, _ =>
        have := h4 0 m0 rfl
        rw [Nat.zero_mul] at this
        have e : (x.add 0).add 0 = x := by unfold Addr.add; simp
        rw [e] at this
        exact spot_of_cell this
    obtain ⟨b0, off, sp⟩ := x
    simp only at hspot
    subst hspot
    have hat : ∀ i j, (((⟨b0, off, none⟩ : Addr).add (i * 2)).add j) = ⟨b0, off + i * 2 + j, none⟩ := by
      intro i j
      unfold Addr.add
      split <;> split <;> simp_all
    have hcell : ∀ i, i < len → ∀ j, j < 2 → w.cell? ⟨b0, off + i * 2 + j, none⟩ = some (.int .i64 ((g.getD i []).getD j 0)) := by
      intro i hi j hj
      obtain ⟨ns, h1, h2, h3, h4⟩ := hrow i (by omega)
      have hg : g.getD i [] = ns := by simp [List.getD, h1]
      rw [hg, ← hat i j]
      exact h4 j _ (by simp [List.getD, h2, hj])
    refine ⟨b0, off, rfl, lt_of_cell (hcell 0 hpos 0 (by decide)), fun k x hx => ?_⟩
    have hk : k < len := by have := (List.getElem?_eq_some_iff.1 hx).1; simp at this; omega
    have hx2 : x = ddOf (g.getD k []) := by
      rw [List.getElem?_map, List.getElem?_take, if_pos hk] at hx
      obtain ⟨ns, h1, _⟩ := hrow k (by omega)
      rw [h1] at hx
      simp at hx
      rw [← hx]
      simp [List.getD, h1]
    subst hx2
    exact ⟨hcell k hk 0 (by decide), hcell k hk 1 (by decide)⟩
end Go.Proofs.Ytolhojagbiaamab
