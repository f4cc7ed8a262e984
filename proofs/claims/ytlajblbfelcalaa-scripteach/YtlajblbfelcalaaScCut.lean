import Derived.Test.YtlajblbfelcalaaScEnd
/-! slices.Clone of a list of numbers; Cut. -/
namespace Go.Proofs.Ytlajblbfelcalaa
set_option linter.unusedVariables false
set_option maxRecDepth 20000
open Go.RowKit Go.HeapKit

theorem add_none {b o : Nat} (k : Nat) : (⟨b, o, none⟩ : Addr).add k = ⟨b, o + k, none⟩ := by unfold Addr.add; split <;> simp_all
/-- 'append([]int{}, l...)'. -/
theorem ints_copied (x : Addr) (m c : Nat) (l : List Int) (w : World) (ty : TypeId) (h : SeenN w (some x) m l) (hs : m * 8 ≤ 140737488351232) :
    ∃ v w', (Builtin.append_ #[25, 25] ty #[.slice (some ⟨w.heap.size, 0, none⟩) 0 0, .slice (some x) m c]).run Try.prog (w.alloc (.cells #[] 3)) = .ok v w' ∧
      w'.ownsRow w.heap.size 3 1 v m (iv l) ∧ Keeps None w w' := by
  obtain ⟨i0, hi, hz0, hz1, hz2⟩ := info_parts Try.infoInt
  have hl := h.len
  have h2 := h.more (keeps1 w (.cells #[] 3))
  have hrow : (w.alloc (.cells #[] 3)).ownsRow w.heap.size 3 1 (.slice (some ⟨w.heap.size, 0, none⟩) 0 0) 0 [] :=
    ⟨by simp, .inr ⟨w.heap.size, 0, #[], rfl, Nat.le_refl _, blk_new _ _ _ rfl, Nat.le_refl _, by unfold maxLen; omega, rfl, rfl⟩⟩
  obtain ⟨v', w1, hr, ho, hgr, hm, -⟩ := run_append_moved (P := Try.prog) (w.alloc (.cells #[] 3)) w.heap.size 25 ty 3 i0 _ 1 8 Try.underlying25 hi hz0 hz1 hz2 rfl (by decide) _ 0 _ hrow
    x m c (iv l) (by rw [iv_len]; omega) (by
      intro j u hu
      have hj : j < m := by have := (List.getElem?_eq_some_iff.1 hu).1; rw [iv_len] at this; omega
      obtain ⟨b, off, e, _, hc⟩ := h2.ex (by omega)
      injection e with e
      subst e
      rw [add_none]
      have hlj : l[j]? = some (l[j]'(by omega)) := List.getElem?_eq_getElem _
      rw [hc j _ hlj]
      rw [iv_at l j _ hlj] at hu
      exact hu) (by
      intro u hu
      simp [iv] at hu
      obtain ⟨y, _, rfl⟩ := hu
      rfl) (by unfold maxLen; omega) (by omega) (by simp)
  rw [Nat.zero_add, List.nil_append] at ho
  exact ⟨v', w1, hr, ho, ((keeps1 w _).andGrown hgr (fun k e => .inr (by simp [Value.ownBlock] at e; omega)))⟩
theorem sliceNe (x : Addr) (m c : Nat) (w : World) : Sem.run Try.prog (binOp BinOp.eql 25 (.slice (some x) m c) (.slice none 0 0)) w = .ok (.bool false) w := by kernel_rfl
theorem sliceEq (m c : Nat) (w : World) : Sem.run Try.prog (binOp BinOp.eql 25 (.slice none m c) (.slice none 0 0)) w = .ok (.bool true) w := by kernel_rfl
set_option maxHeartbeats 800000 in
theorem clone_any (a : Option Addr) (m c : Nat) (l : List Int) (w : World) (h : SeenN w a m l) (hs : m * 8 ≤ 140737488351232) :
    Calls Try.prog 31 #[.slice a m c] w fun e w' => ∃ v, e = .returned v ∧ w'.ownsRow w.heap.size 3 1 v m (iv l) ∧ Keeps None w w' := by
  cases a with
  | none =>
    have hm : m = 0 := by
      by_cases h0 : 0 < m
      · obtain ⟨b, off, e, _⟩ := h.ex h0
        cases e
      · omega
    have hl : l = [] := List.eq_nil_of_length_eq_zero (by rw [← h.len]; exact hm)
    subst hm hl
    have heq := sliceEq 0 c
    go_enter Try.func31, Try.ntmps31
    go_wp2_with fail
    go_ret
    exact ⟨_, rfl, row_nil _ _ _ _, Keeps.refl _ _⟩
  | some x =>
    obtain ⟨v, w2, hr, ho, hk⟩ := ints_copied x m c l w 25 h hs
    have hne := sliceNe x m c
    obtain ⟨va, vc, rfl⟩ := row_shape ho
    have HN : Hid (w2.ownsRow w.heap.size 3 1 (.slice va m vc) m (iv l) ∧ Keeps None w w2) := ⟨ho, hk⟩
    clear ho hk h
    go_enter Try.func31, Try.ntmps31
    go_wp2_with (at_builtin; refine wpList_append_run rfl (.tmp 5) (.tmp 6) 25 25 rfl rfl rfl hr ?_)
    go_ret
    exact ⟨_, rfl, HN.out⟩
def cutN (n : Int) (m : Nat) : Nat := (max 0 (min n (m : Int))).toNat
theorem cutN_le (n : Int) (m : Nat) : cutN n m ≤ m := by unfold cutN; omega
/-- A script of two rows of our own, in blocks of their own. -/
structure TwoR (w : World) (base : Nat) (v0 v1 : Value) (n0 n1 : Nat) (l0 l1 : List Int) : Prop where
  r0 : w.ownsRow base 3 1 v0 n0 (iv l0)
  r1 : w.ownsRow base 3 1 v1 n1 (iv l1)
  ap : ∀ g, v0.ownBlock = some g → v1.ownBlock ≠ some g
theorem TwoR.more {w w' : World} {base : Nat} {v0 v1 : Value} {n0 n1 : Nat} {l0 l1 : List Int} (h : TwoR w base v0 v1 n0 n1 l0 l1) (hk : Keeps None w w') : TwoR w' base v0 v1 n0 n1 l0 l1 := ⟨row_more h.r0 hk, row_more h.r1 hk, h.ap⟩
theorem TwoR.kept {S : Nat → Prop} {w w' : World} {base : Nat} {v0 v1 : Value} {n0 n1 : Nat} {l0 l1 : List Int} (h : TwoR w base v0 v1 n0 n1 l0 l1) (hk : Keeps S w w') (hS : ∀ g, base ≤ g → g < w.heap.size → (v0.ownBlock = some g ∨ v1.ownBlock = some g) → ¬ S g) : TwoR w' base v0 v1 n0 n1 l0 l1 :=
  ⟨row_kept h.r0 hk (fun g e => hS g (row_low h.r0 e) (own_lt h.r0 e) (.inl e)), row_kept h.r1 hk (fun g e => hS g (row_low h.r1 e) (own_lt h.r1 e) (.inr e)), h.ap⟩
theorem TwoR.base {w : World} {base base' : Nat} {v0 v1 : Value} {n0 n1 : Nat} {l0 l1 : List Int} (h : TwoR w base v0 v1 n0 n1 l0 l1) (hb : base' ≤ base) : TwoR w base' v0 v1 n0 n1 l0 l1 := ⟨row_base h.r0 hb, row_base h.r1 hb, h.ap⟩
/-- Two rows that were made one behind the other. -/
theorem twoR_ab {wa wb w' : World} {base : Nat} {v0 v1 : Value} {n0 n1 : Nat} {l0 l1 : List Int} (h0 : wa.ownsRow base 3 1 v0 n0 (iv l0)) (h1 : wb.ownsRow wa.heap.size 3 1 v1 n1 (iv l1)) (hb : base ≤ wa.heap.size) (hk : Keeps None wa wb) (hk2 : Keeps None wb w') : TwoR w' base v0 v1 n0 n1 l0 l1 :=
  ⟨row_more (row_more h0 hk) hk2, row_base (row_more h1 hk2) hb, fun g e0 e1 => by have := own_lt h0 e0; have := row_low h1 e1; omega⟩
theorem twoR_ba {wa wb w' : World} {base : Nat} {v0 v1 : Value} {n0 n1 : Nat} {l0 l1 : List Int} (h1 : wa.ownsRow base 3 1 v1 n1 (iv l1)) (h0 : wb.ownsRow wa.heap.size 3 1 v0 n0 (iv l0)) (hb : base ≤ wa.heap.size) (hk : Keeps None wa wb) (hk2 : Keeps None wb w') : TwoR w' base v0 v1 n0 n1 l0 l1 :=
  ⟨row_base (row_more h0 hk2) hb, row_more (row_more h1 hk) hk2, fun g e0 e1 => by have := own_lt h1 e1; have := row_low h0 e0; omega⟩
set_option maxHeartbeats 3200000 in
theorem cut_any (ap ad : Option Addr) (np cp nd cd : Nat) (n : Int) (lp ld : List Int) (w : World) (hp : SeenN w ap np lp) (hd : SeenN w ad nd ld) (hc : np ≤ cp) (hs : np * 8 ≤ 140737488351232) (hs2 : nd * 8 ≤ 140737488351232) :
    Calls Try.prog 23 #[.agg #[.slice ap np cp, .slice ad nd cd], .int .i64 n] w fun e w' => ∃ v0 v1, e = .returned (.agg #[v0, v1]) ∧ TwoR w' w.heap.size v0 v1 (cutN n np) nd (lp.take (cutN n np)) ld ∧ Keeps None w w' := by
  have HS : Hid (SeenN w ap np lp ∧ SeenN w ad nd ld) := ⟨hp, hd⟩
  have hkn := cutN_le n np
  obtain ⟨k, hk⟩ : ∃ k, k = cutN n np := ⟨_, rfl⟩
  have HK : Hid (k = cutN n np) := hk
  have HKI : Hid ((k : Int) = max 0 (min n (np : Int))) := by rw [hk]; unfold cutN; show _ = _; omega
  rw [← hk] at hkn
  clear hp hd hk
  obtain ⟨s0, hs0⟩ : ∃ s0, s0 = w.heap.size := ⟨_, rfl⟩
  have hb0 := blk_old (blk_new w (.cells #[.slice ap np cp, .slice ad nd cd] 37) _ rfl) (.cells #[.slice none 0 0, .slice none 0 0] 37)
  have hb1 := blk_new (w.alloc (.cells #[.slice ap np cp, .slice ad nd cd] 37)) (.cells #[.slice none 0 0, .slice none 0 0] 37) (s0 + 1) (by simp; omega)
  have hkb := (keeps1 w (.cells #[.slice ap np cp, .slice ad nd cd] 37)).andAlloc (.cells #[.slice none 0 0, .slice none 0 0] 37)
  have hsz : ((w.alloc (.cells #[.slice ap np cp, .slice ad nd cd] 37)).alloc (.cells #[.slice none 0 0, .slice none 0 0] 37)).heap.size = s0 + 1 + 1 := by simp; omega
  rw [← hs0] at hb0
  go_enter Try.func23, Try.ntmps23
  go_upto_region 1 with fail
  rw [← hs0]
  generalize (w.alloc (.cells #[.slice ap np cp, .slice ad nd cd] 37)).alloc (.cells #[.slice none 0 0, .slice none 0 0] 37) = wb at *
  have HB : Hid (wb.heap[s0]? = some (.cells #[.slice ap np cp, .slice ad nd cd] 37 (0, 0)) ∧ wb.heap[s0 + 1]? = some (.cells #[.slice none 0 0, .slice none 0 0] 37 (0, 0)) ∧ Keeps None w wb ∧ wb.heap.size = s0 + 1 + 1 ∧ s0 = w.heap.size) := ⟨hb0, hb1, hkb, hsz, hs0⟩
  have c0 : wb.cell? ⟨s0, 0, none⟩ = some (.slice ap np cp) := (blk_cell hb0 0).trans rfl
  have c1 : wb.cell? ⟨s0, 1, none⟩ = some (.slice ad nd cd) := (blk_cell hb0 1).trans rfl
  clear hb0 hb1 hkb hsz hs0
  go_cut [1] (fun s1 wx => s1 = .int .i64 (k : Int) ∧ wx = wb)
  case first =>
    by_cases h1 : n < (np : Int)
    · by_cases h2 : n < 0
      · have h3 : ¬ (np : Int) < n := by omega
        have h4 : ¬ 0 < n := by omega
        have hk0 : k = 0 := by have := HKI.out; omega
        subst hk0
        go_wp2_with fail
        all_goals go_meet
        all_goals exact ⟨by first | rfl | (exfalso; omega), rfl⟩
      · have h3 : ¬ (np : Int) < n := by omega
        have hkn2 : n = (k : Int) := by have := HKI.out; omega
        subst hkn2
        go_wp2_with fail
        all_goals go_meet
        all_goals exact ⟨by first | rfl | (congr 1; omega), rfl⟩
    · have hkn2 : k = np := by have := HKI.out; omega
      subst hkn2
      go_wp2_with fail
      all_goals go_meet
      all_goals exact ⟨by first | rfl | (congr 1; omega), rfl⟩
  case rest =>
  obtain ⟨rfl, hwc⟩ := hcut
  have hwc2 := hwc.symm
  subst hwc2
  clear hwc
  have j1 : (k : Int) ≤ (cp : Int) := by omega
  have hP : Hid (∀ wx, Keeps None wb wx → Calls Try.prog 31 #[.slice ap k cp] wx fun e w' => ∃ va vc, e = .returned (.slice va k vc) ∧ w'.ownsRow wx.heap.size 3 1 (.slice va k vc) k (iv (lp.take k)) ∧ Keeps None wx w') := fun wx hx => by
    refine (clone_any ap k cp (lp.take k) wx (((HS.out.1.more HB.out.2.2.1).more hx).take hkn) (by omega)).mono ?_
    rintro _ w' ⟨v, rfl, h1, h2⟩
    obtain ⟨va, vc, rfl⟩ := row_shape h1
    exact ⟨va, vc, rfl, h1, h2⟩
  have hD : Hid (∀ wx, Keeps None wb wx → Calls Try.prog 31 #[.slice ad nd cd] wx fun e w' => ∃ va vc, e = .returned (.slice va nd vc) ∧ w'.ownsRow wx.heap.size 3 1 (.slice va nd vc) nd (iv ld) ∧ Keeps None wx w') := fun wx hx => by
    refine (clone_any ad nd cd ld wx ((HS.out.2.more HB.out.2.2.1).more hx) hs2).mono ?_
    rintro _ w' ⟨v, rfl, h1, h2⟩
    obtain ⟨va, vc, rfl⟩ := row_shape h1
    exact ⟨va, vc, rfl, h1, h2⟩
  go_upto_region 2 with fail
  go_region_held3 (fun w' => w'.cell? ⟨s0, 0, none⟩ = some (.slice ap np cp) ∧ w'.cell? ⟨s0, 1, none⟩ = some (.slice ad nd cd)) (first | go_keep | with_reducible exact hS5 | with_reducible exact hS6) (first
    | (go_at_call_of 31 (Value.slice ap k cp); refine (hP.out _ (by first | with_reducible exact Keeps.drew None _ | with_reducible exact hkD)).mono ?_; rintro _ w5 ⟨va, vc, rfl, hr5, hk5⟩; have hkP : Keeps None wb w5 := Keeps.trans (by first | with_reducible exact Keeps.drew None _ | with_reducible exact hkD) hk5 (fun _ f _ => f); have hS5 := And.intro (hkP.cell c0 (fun f => f)) (hkP.cell c1 (fun f => f)); have b5 := blk_kept HB.out.2.1 hkP (fun f => f); have r50 := (blk_cell b5 0).trans rfl; have r51 := (blk_cell b5 1).trans rfl; have f50 := blk_free b5 0; have f51 := blk_free b5 1)
    | (go_at_call_of 31 (Value.slice ad nd cd); refine (hD.out _ (by first | with_reducible exact Keeps.drew None _ | with_reducible exact hkP)).mono ?_; rintro _ w6 ⟨ua, uc, rfl, hr6, hk6⟩; have hkD : Keeps None wb w6 := Keeps.trans (by first | with_reducible exact Keeps.drew None _ | with_reducible exact hkP) hk6 (fun _ f _ => f); have hS6 := And.intro (hkD.cell c0 (fun f => f)) (hkD.cell c1 (fun f => f)); have b6 := blk_kept HB.out.2.1 hkD (fun f => f); have r60 := (blk_cell b6 0).trans rfl; have r61 := (blk_cell b6 1).trans rfl; have f60 := blk_free b6 0; have f61 := blk_free b6 1))
  have HF : Hid (w6.heap[s0 + 1]? = some (.cells #[.slice none 0 0, .slice none 0 0] 37 (0, 0)) ∧ TwoR w6 (s0 + 1 + 1) (.slice va k vc) (.slice ua nd uc) k nd (lp.take k) ld ∧ Keeps None w w6) := by
    have e := HB.out.2.2.2.1
    have hr5' : w5.ownsRow (s0 + 1 + 1) 3 1 (.slice va k vc) k (iv (lp.take k)) := by rw [← e]; exact hr5
    exact ⟨b6, twoR_ab hr5' hr6 (by have := hkP.size; omega) hk6 (Keeps.refl _ _), HB.out.2.2.1.trans hkD (fun _ f _ => f)⟩
  clear hr5 hk5 hkP hS5 b5 r50 r51 f50 f51 hr6 hk6 hkD hS6 b6 r60 r61 f60 f61
  go_wp2_with fail
  refine script_end1 4 rfl rfl HF.out.1 rfl rfl _ _ (fun w' hk => ⟨_, _, rfl, ?_, ?_⟩)
  · have e := HB.out.2.2.2.2
    rw [← HK.out]
    exact (HF.out.2.1.kept hk (fun g h1 _ _ => by omega)).base (by omega)
  · have e := HB.out.2.2.2.2
    exact HF.out.2.2.trans hk (fun i e hi => by omega)
end Go.Proofs.Ytlajblbfelcalaa
