import Derived.Test.YtlajblbfelcalabScRef1
import Derived.Test.YtlajblbfelcalabScPull
/-! ScriptPull. -/
namespace Go.Proofs.Ytlajblbfelcalab
set_option linter.unusedVariables false
set_option maxRecDepth 20000
open Go.RowKit Go.HeapKit Go.Sc

def seedL (s : Int) (n : Nat) : List Int := (List.range n).map (fun i => num (seedK s (i + 1)))
theorem seedL_len (s : Int) (n : Nat) : (seedL s n).length = n := by simp [seedL]
theorem seedL_succ (s : Int) (n : Nat) : seedL s (n + 1) = seedL s n ++ [num (seedK s (n + 1))] := by simp [seedL, List.range_succ]
theorem seedL_take (s : Int) {n m : Nat} (h : m ≤ n) : (seedL s n).take m = seedL s m := by
  unfold seedL
  rw [← List.map_take, List.take_range, Nat.min_eq_left h]
theorem seedL_drop (s : Int) {n k m : Nat} (h : k + m ≤ n) : ((seedL s n).drop k).take m = (List.range m).map (fun i => num (seedK s (k + i + 1))) := by
  apply List.ext_getElem?
  intro i
  by_cases hi : i < m
  · simp only [seedL, List.getElem?_take, if_pos hi, List.getElem?_drop, List.getElem?_map, List.getElem?_range (show k + i < n by omega), List.getElem?_range hi, Option.map_some]
  · rw [List.getElem?_eq_none (by simp; omega), List.getElem?_eq_none (by simp; omega)]
theorem SeenN.part {w : World} {b off n : Nat} {l : List Int} (h : SeenN w (some ⟨b, off, none⟩) n l) (k m : Nat) (hkm : k + m ≤ n) : SeenN w (some ⟨b, off + k, none⟩) m ((l.drop k).take m) := by
  have hl := h.len
  refine ⟨by simp; omega, fun h0 => ?_⟩
  obtain ⟨b', off', e, hb, hc⟩ := h.ex (by omega)
  injection e with e
  injection e with e1 e2
  subst e1 e2
  refine ⟨b, off + k, rfl, hb, fun i x hx => ?_⟩
  have hi : i < m := by have := (List.getElem?_eq_some_iff.1 hx).1; simp at this; omega
  rw [List.getElem?_take, if_pos hi, List.getElem?_drop] at hx
  rw [Nat.add_assoc]
  exact hc _ _ hx
theorem seen_none (w : World) (a : Option Addr) : SeenN w a 0 [] := ⟨rfl, fun h => by omega⟩
set_option maxHeartbeats 1600000 in
theorem rseeded_any (s : Int) (n : Nat) (w : World) (hs : okI s) (hn : n ≤ 4194304) :
    Calls Try.prog 21 #[.int .i64 s, .int .i64 n] w fun e w' => ∃ v, e = .returned v ∧ w'.ownsRow w.heap.size 3 1 v n (iv (seedL s n)) ∧ Keeps None w w' := by
  have HX : Hid (okI s) := hs
  clear hs
  go_enter Try.func21, Try.ntmps21
  go_wp2_with fail
  go_loopw [7, 5, 6] (fun s7 s5 s6 wr => ∃ k : Nat, s7 = .int .i64 k ∧ k ≤ n ∧ s6 = .int .i64 (seedK s k) ∧ wr.ownsRow w.heap.size 3 1 s5 k (iv (seedL s k)) ∧ Keeps None w wr) (fun s7 _ _ _ => n - (intOf s7).toNat)
  case atStart => exact ⟨0, rfl, Nat.zero_le _, rfl, row_nil _ _ _ _, Keeps.refl _ _⟩
  case round =>
    obtain ⟨k, rfl, hk, rfl, hrow, hkp⟩ := hrel
    obtain ⟨sa, cs, rfl⟩ := row_shape hrow
    by_cases hkn : k < n
    · have i1 : (k : Int) < (n : Int) := by omega
      have HO : Hid (okI (seedK s (k + 1))) := seedK_ok s HX.out (k + 1)
      have HE : Hid (nx (seedK s k) = seedK s (k + 1)) := rfl
      obtain ⟨g, cp, w2, hr, ho, hk2, hm⟩ := int_more w.heap.size (.slice sa k cs) (seedL s k) (num (seedK s (k + 1))) k 23 wr.heap.size (wr.alloc (.cells #[.int .i64 (num (seedK s (k + 1)))] 3)) (seedL_len s k).symm (row_more hrow (keeps1 _ _)) (by have := hkp.size; simp; omega) (by omega) (blk_new _ _ _ rfl)
      have HN : Hid (w2.ownsRow w.heap.size 3 1 (.slice (some ⟨g, 0, none⟩) (k + 1) cp) (k + 1) (iv (seedL s (k + 1))) ∧ Keeps None w w2) := by
        rw [seedL_succ]
        exact ⟨ho, (hkp.andAlloc _).trans hk2 (fun i e hi => by have := row_low hrow e; omega)⟩
      clear hrow hkp ho hk2 hm
      go_wp2_with fail
      refine (rnext_any _ _).mono ?_
      rintro _ wz ⟨rfl, hw⟩
      have hw2 := hw.symm
      subst hw2
      clear hw
      rw [HE.out]
      go_wp2_with fail
      refine (rnumber_any _ _ HO.out).mono ?_
      rintro _ wz ⟨rfl, hw⟩
      have hw2 := hw.symm
      subst hw2
      clear hw
      obtain ⟨y, hy⟩ : ∃ y, y = num (seedK s (k + 1)) := ⟨_, rfl⟩
      obtain ⟨x, hx⟩ : ∃ x, x = seedK s (k + 1) := ⟨_, rfl⟩
      have HXX : Hid (x = seedK s (k + 1)) := hx
      rw [← hx] at hy hr
      rw [← hy] at hr
      rw [← hx, ← hy]
      clear hx hy
      go_wp2_with (at_builtin; refine wpList_append_run rfl (.tmp 16) (.tmp 19) 23 23 rfl rfl rfl hr ?_)
      exact ⟨⟨k + 1, by go_num, by omega, by rw [HXX.out], HN.out⟩, by simp [intOf]; omega⟩
    · have i1 : ¬ (k : Int) < (n : Int) := by omega
      obtain rfl : k = n := by omega
      go_wp2_with fail
      go_ret
      exact ⟨_, rfl, hrow, hkp⟩
def cnt (x : Int) : Nat := if refE x = 0 then x.toNat else 0
theorem cnt_ok {x : Int} (h : refE x = 0) : x = (cnt x : Int) := by
  unfold cnt
  rw [if_pos h]
  unfold refE at h
  split at h
  · cases h
  · omega
theorem cnt_bad {x : Int} (h : refE x ≠ 0) : cnt x = 0 := by unfold cnt; rw [if_neg h]
theorem cnt_le (x : Int) : cnt x ≤ 1048576 := by
  unfold cnt
  by_cases h : refE x = 0
  · rw [if_pos h]
    unfold refE at h
    by_cases h1 : x < 0
    · rw [if_pos h1] at h; cases h
    · rw [if_neg h1] at h
      by_cases h2 : 1048576 < x
      · rw [if_pos h2] at h; cases h
      · omega
  · rw [if_neg h]; omega
/-- Pull of any number. -/
theorem pullX_any {T : TypeId} {pv : Value} {N : Nat} {St : World → Nat → Prop} {val : Nat → Int} {F : Nat → Prop} (K : RandK T pv N St val F) (x : Int) (k0 : Nat) (w : World) (hk0 : k0 ≤ 3000000) (h : St w k0) (hF : ∀ i, F i → i < w.heap.size) :
    Calls Try.prog 22 #[.iface T pv, .int .i64 x] w fun e w' => ∃ a c, e = .returned (.tuple #[.slice a (cnt x) c, .int .i64 (refE x)]) ∧ SeenN w' a (cnt x) ((List.range (cnt x)).map (fun i => val (k0 + i))) ∧ St w' (k0 + cnt x) ∧ Keeps F w w' ∧ ∀ b, a = some b → w.heap.size ≤ b.block := by
  have hc := cnt_le x
  by_cases hE : refE x = 0
  · rw [hE]
    have e := cnt_ok hE
    generalize cnt x = n at *
    subst e
    refine (pull_any K n k0 w hc (by omega) h hF).mono ?_
    rintro _ w' ⟨g, rfl, h1, h2, h3, h4⟩
    exact ⟨_, _, rfl, h1.seen, h2, h4, fun b hb => by injection hb with hb; subst hb; exact h3⟩
  · rw [cnt_bad hE]
    refine (pull_bad T pv x w hE).mono ?_
    rintro _ w' ⟨rfl, h2⟩
    subst h2
    exact ⟨_, _, rfl, seen_none _ _, h, Keeps.refl _ _, fun b hb => by cases hb⟩
set_option maxHeartbeats 3200000 in
theorem scriptPull_walk (s x y : Int) (w : World) (hs : okI s) :
    Calls Try.prog 5 #[.int .i64 s, .int .i64 x, .int .i64 y] w fun e w' => e = .returned (.bool true) ∧ Below w.heap.size w w' := by
  have HX : Hid (okI s) := hs
  have hF := cnt_le x
  have hS := cnt_le y
  obtain ⟨F, hFe⟩ : ∃ F, F = cnt x := ⟨_, rfl⟩
  obtain ⟨S, hSe⟩ : ∃ S, S = cnt y := ⟨_, rfl⟩
  obtain ⟨E1, hE1⟩ : ∃ E, E = refE x := ⟨_, rfl⟩
  obtain ⟨E2, hE2⟩ : ∃ E, E = refE y := ⟨_, rfl⟩
  have HF : Hid (F = cnt x ∧ S = cnt y ∧ E1 = refE x ∧ E2 = refE y) := ⟨hFe, hSe, hE1, hE2⟩
  have HF1 : Hid ((E1 = 0 → x = (F : Int)) ∧ (E1 ≠ 0 → F = 0) ∧ (E2 = 0 → y = (S : Int)) ∧ (E2 ≠ 0 → S = 0)) := by
    rw [hFe, hSe, hE1, hE2]
    exact ⟨cnt_ok, cnt_bad, cnt_ok, cnt_bad⟩
  rw [← hFe] at hF
  rw [← hSe] at hS
  clear hs hFe hSe hE1 hE2
  have q1 : (E1 != E1) = false := by simp
  have q2 : (E2 != E2) = false := by simp
  go_enter Try.func5, Try.ntmps5
  go_wp2_with fail
  refine (seeded_any s _).mono ?_
  rintro _ w1 ⟨rfl, hD, hk1⟩
  obtain ⟨g, hg⟩ : ∃ g, g = w.heap.size := ⟨_, rfl⟩
  rw [← hg] at hD ⊢
  have H1 : Hid (IsD w1 g (seedK s 0) seedF ∧ Keeps None w w1 ∧ g = w.heap.size) := ⟨hD, hk1, hg⟩
  clear hD hk1 hg
  go_upto_region 5 with fail
  go_cut [22, 23] (fun s22 s23 wx => s22 = .int .i64 E1 ∧ s23 = .bool (E1 == 0) ∧ wx = w1)
  case first =>
    go_wp2_with fail
    refine (refusal_any _ _).mono ?_
    rintro _ wz ⟨rfl, hw⟩
    have hw2 := hw.symm
    subst hw2
    clear hw
    rw [← HF.out.2.2.1]
    go_wp2_with fail
    go_meet
    exact ⟨rfl, rfl, rfl⟩
  case rest =>
  obtain ⟨rfl, rfl, hwc⟩ := hcut
  have hwc2 := hwc.symm
  subst hwc2
  clear hwc
  go_upto_if 23 with fail
  go_cut [8] (fun s8 wx => s8 = .int .i64 (1 + (F : Int)) ∧ wx = w1)
  case first =>
    by_cases hE : E1 = 0
    · have e1 := HF1.out.1 hE
      have b1 : (E1 == 0) = true := by simpa using hE
      subst e1
      clear hE
      go_wp2_with fail
      go_meet
      exact ⟨rfl, rfl⟩
    · have e1 := HF1.out.2.1 hE
      have b1 : (E1 == 0) = false := by simpa using hE
      subst e1
      clear hE
      go_wp2_with fail
      go_meet
      exact ⟨rfl, rfl⟩
  case rest =>
  obtain ⟨rfl, hwc⟩ := hcut
  have hwc2 := hwc.symm
  subst hwc2
  clear hwc
  go_upto_region 7 with fail
  go_cut [28, 29] (fun s28 s29 wx => s28 = .int .i64 E2 ∧ s29 = .bool (E2 == 0) ∧ wx = w1)
  case first =>
    go_wp2_with fail
    refine (refusal_any _ _).mono ?_
    rintro _ wz ⟨rfl, hw⟩
    have hw2 := hw.symm
    subst hw2
    clear hw
    rw [← HF.out.2.2.2]
    go_wp2_with fail
    go_meet
    exact ⟨rfl, rfl, rfl⟩
  case rest =>
  obtain ⟨rfl, rfl, hwc⟩ := hcut
  have hwc2 := hwc.symm
  subst hwc2
  clear hwc
  go_upto_if 29 with fail
  obtain ⟨M, hM⟩ : ∃ M, M = 1 + F + S := ⟨_, rfl⟩
  go_cut [8] (fun s8 wx => s8 = .int .i64 (M : Int) ∧ wx = w1)
  case first =>
    by_cases hE : E2 = 0
    · have e1 := HF1.out.2.2.1 hE
      have b1 : (E2 == 0) = true := by simpa using hE
      have b2 : 1 + (F : Int) + (S : Int) = (M : Int) := by omega
      subst e1
      clear hE hM
      go_wp2_with fail
      go_meet
      exact ⟨rfl, rfl⟩
    · have e1 := HF1.out.2.2.2 hE
      have b1 : (E2 == 0) = false := by simpa using hE
      have b2 : 1 + (F : Int) = (M : Int) := by omega
      clear hE hM e1
      go_wp2_with fail
      go_meet
      exact ⟨by rw [b2], rfl⟩
  case rest =>
  obtain ⟨rfl, hwc⟩ := hcut
  have hwc2 := hwc.symm
  subst hwc2
  clear hwc
  have HM : Hid (M = 1 + F + S) := hM
  have hMle : M ≤ 2097153 := by omega
  clear hM
  go_wp2_with fail
  refine (rseeded_any s M _ HX.out (by omega)).mono ?_
  rintro _ w2 ⟨v2, rfl, hr2, hk2⟩
  obtain ⟨a2, c2, rfl⟩ := row_shape hr2
  obtain ⟨b2, rfl, hb2, hb2l, hMc, hcm, -, -⟩ := row_elem hr2 (k := 0) (x := (seedL s M)[0]'(by rw [seedL_len]; have := HM.out; omega)) (List.getElem?_eq_getElem _)
  have H2 : Hid (IsD w2 g (seedK s 0) seedF ∧ SeenN w2 (some ⟨b2, 0, none⟩) M (seedL s M) ∧ Keeps None w w2 ∧ g < b2) := by
    have := H1.out.1.lt
    exact ⟨H1.out.1.more hk2, row_seen hr2, H1.out.2.1.trans hk2 (fun _ f _ => f), by omega⟩
  clear hr2 hk2 hb2
  go_wp2_with fail
  refine (pullX_any (seeded_kind g s) x 0 _ (by omega) H2.out.1 (fun i e => by subst e; exact H2.out.1.lt)).mono ?_
  rintro _ w3 ⟨a3, c3, rfl, hN3, hD3, hk3, l3⟩
  rw [← HF.out.1, ← HF.out.2.2.1]
  rw [← HF.out.1] at hN3 hD3
  have H3 : Hid (IsD w3 g (seedK s F) seedF ∧ SeenN w3 (some ⟨b2, 0, none⟩) M (seedL s M) ∧ SeenN w3 a3 F (seedL s F) ∧ Keeps None w w3) := by
    have z1 := H1.out.2.2
    have z2 := H2.out.2.2.2
    refine ⟨by simpa using hD3, H2.out.2.1.kept hk3 (fun q hq _ _ e => by injection hq with hq; subst hq; simp only at e; omega), ?_, H2.out.2.2.1.trans hk3 (fun i e hi => by omega)⟩
    simpa [seedL] using hN3
  clear hN3 hD3 hk3 l3
  go_wp2_with fail
  refine (refusal_any _ _).mono ?_
  rintro _ wz ⟨rfl, hw⟩
  have hw2 := hw.symm
  subst hw2
  clear hw
  rw [← HF.out.2.2.1]
  go_upto_if 48 with fail
  go_cut [10] (fun s10 wx => s10 = .int .i64 (F : Int) ∧ wx = w3)
  case first =>
    by_cases hE : E1 = 0
    · have e1 := HF1.out.1 hE
      have b1 : (E1 == 0) = true := by simpa using hE
      subst e1
      clear hE
      go_wp2_with fail
      go_meet
      exact ⟨rfl, rfl⟩
    · have e1 := HF1.out.2.1 hE
      have b1 : (E1 == 0) = false := by simpa using hE
      subst e1
      clear hE
      go_wp2_with fail
      go_meet
      exact ⟨rfl, rfl⟩
  case rest =>
  obtain ⟨rfl, hwc⟩ := hcut
  have hwc2 := hwc.symm
  subst hwc2
  clear hwc
  have hFM : F < M := by have := HM.out; omega
  have hFc : F ≤ c2 := by omega
  have j1 : (F : Int) ≤ (c2 : Int) := by omega
  have j2 : (F : Int) < (M : Int) := by omega
  have hxF : (seedL s M)[F]? = some (num (seedK s (F + 1))) := by simp [seedL, hFM]
  have HA : Hid (∀ wx, SeenN wx (some ⟨b2, 0, none⟩) M (seedL s M) → wx.cell? ⟨b2, F, none⟩ = some (.int .i64 (num (seedK s (F + 1))))) := by
    intro wx hx
    obtain ⟨b, off, e, _, hc⟩ := hx.ex (by omega)
    injection e with e
    injection e with e1 e2
    subst e1 e2
    have := hc F _ hxF
    rwa [Nat.zero_add] at this
  have cF := HA.out _ H3.out.2.1
  clear hxF
  go_upto_region 16 with fail
  go_cut [64] (fun s64 wx => s64 = .bool false ∧ IsD wx g (seedK s (F + 1)) seedF ∧ SeenN wx (some ⟨b2, 0, none⟩) M (seedL s M) ∧ Keeps None w wx)
  case first =>
    go_region_held3 (fun w' => w'.cell? ⟨b2, F, none⟩ = some (.int .i64 (num (seedK s (F + 1))))) (first | go_keep | with_reducible exact hS5) (first
      | (go_at_call 11; refine (same_any a3 (some ⟨b2, 0, none⟩) F c3 c2 (seedL s F) _ (H3.out.2.2.1.more (Keeps.drew None _)) (by have := (H3.out.2.1.more (Keeps.drew None w3)).take (m := F) (by omega); rwa [seedL_take s (by omega)] at this) (by omega)).mono ?_; rintro _ w4 ⟨rfl, d4, rfl⟩; have HS4 : Hid (IsD (w3.drewN (1 + d4)) g (seedK s F) seedF ∧ SeenN (w3.drewN (1 + d4)) (some ⟨b2, 0, none⟩) M (seedL s M) ∧ Keeps None w (w3.drewN (1 + d4))) := ⟨H3.out.1.more (Keeps.drewN None _ _), H3.out.2.1.more (Keeps.drewN None _ _), H3.out.2.2.2.trans (Keeps.drewN None _ _) (fun _ f _ => f)⟩)
      | (go_at_call 23; refine (draw_seeded g (seedK s F) _ HS4.out.1).mono ?_; rintro _ w5 ⟨rfl, hD5, hk5⟩; rw [show num (nx (seedK s F)) = num (seedK s (F + 1)) from rfl]; have HS5 : Hid (IsD w5 g (seedK s (F + 1)) seedF ∧ SeenN w5 (some ⟨b2, 0, none⟩) M (seedL s M) ∧ Keeps None w w5) := ⟨hD5, HS4.out.2.1.kept hk5 (fun q hq _ _ e => by injection hq with hq; subst hq; have := H2.out.2.2.2; simp only at e; omega), HS4.out.2.2.trans hk5 (fun i e hi => by have := H1.out.2.2; omega)⟩; have hS5 := HA.out _ HS5.out.2.1; clear hD5 hk5))
    all_goals (go_wp2_with fail; go_meet)
    all_goals exact ⟨rfl, HS5.out⟩
  case rest =>
  obtain ⟨rfl, hc1, hc2, hc3⟩ := hcut
  have H4 : Hid (IsD wc g (seedK s (F + 1)) seedF ∧ SeenN wc (some ⟨b2, 0, none⟩) M (seedL s M) ∧ Keeps None w wc) := ⟨hc1, hc2, hc3⟩
  clear hc1 hc2 hc3 cF HA
  have hg1 := H4.out.1.lt
  go_wp2_with fail
  refine (pullX_any (seeded_kind g s) y (F + 1) _ (by omega) H4.out.1 (fun i e => by subst e; exact H4.out.1.lt)).mono ?_
  rintro _ w6 ⟨a6, c6, rfl, hN6, hD6, hk6, l6⟩
  rw [← HF.out.2.1, ← HF.out.2.2.2]
  rw [← HF.out.2.1] at hN6 hD6
  have H6 : Hid (SeenN w6 (some ⟨b2, 0, none⟩) M (seedL s M) ∧ SeenN w6 a6 S ((List.range S).map (fun i => num (seedK s (F + 1 + i + 1)))) ∧ Keeps None w w6) := by
    have z1 := H1.out.2.2
    have z2 := H2.out.2.2.2
    exact ⟨H4.out.2.1.kept hk6 (fun q hq _ _ e => by injection hq with hq; subst hq; simp only at e; omega), hN6, H4.out.2.2.trans hk6 (fun i e hi => by omega)⟩
  clear hN6 hD6 hk6 l6 hg1
  go_wp2_with fail
  refine (pull_nil _ _).mono ?_
  rintro _ wz ⟨rfl, hw⟩
  have hw2 := hw.symm
  subst hw2
  clear hw
  go_wp2_with fail
  refine (refusal_any _ _).mono ?_
  rintro _ wz ⟨rfl, hw⟩
  have hw2 := hw.symm
  subst hw2
  clear hw
  rw [← HF.out.2.2.2]
  have HB : Hid (Below w.heap.size w w6) := H6.out.2.2.below _ (Nat.le_refl _) (fun _ f => f.elim)
  by_cases hE : E2 = 0
  · have e1 := HF1.out.2.2.1 hE
    have b3 : (E2 != 0) = false := by simpa using hE
    have hM2 : F + 1 + S = M := by have := HM.out; omega
    have k1 : (F : Int) + 1 + (S : Int) ≤ (c2 : Int) := by omega
    have k2 : (F : Int) + 1 ≤ (F : Int) + 1 + (S : Int) := by omega
    have HP : Hid (SeenN w6 (some ⟨b2, 0 + (F + 1), none⟩) S ((List.range S).map (fun i => num (seedK s (F + 1 + i + 1))))) := by
      have := H6.out.1.part (F + 1) S (by omega)
      rwa [seedL_drop s (by omega)] at this
    subst hE
    subst e1
    clear b3
    by_cases hcc : c2 = F + 1
    · have hS0 : S = 0 := by omega
      subst hS0
      have k3 : (c2 : Int) = (F : Int) + 1 := by omega
      clear k1 hM2
      subst hcc
      go_wp2_with fail
      refine (same_any a6 (some ⟨b2, 0, none⟩) 0 c6 0 [] _ (seen_none _ _) (seen_none _ _) (by omega)).mono ?_
      rintro _ w7 ⟨rfl, d7, rfl⟩
      have HB7 : Hid (Below w.heap.size w (w6.drewN d7)) := HB.out.trans ((Keeps.drewN None _ _).below _ (by have := H6.out.2.2.size; omega) (fun _ f => f.elim))
      go_wp2_with fail
      go_ret
      exact ⟨rfl, HB7.out⟩
    · have k3 : ¬ (c2 : Int) = (F : Int) + 1 := by omega
      have hMS : M - (F + 1) = S := by omega
      rw [Nat.zero_add] at HP
      go_wp2_with fail
      refine (same_any a6 (some ⟨b2, F + 1, none⟩) S c6 (c2 - (F + 1)) _ _ H6.out.2.1 HP.out (by omega)).mono ?_
      rintro _ w7 ⟨rfl, d7, rfl⟩
      have HB7 : Hid (Below w.heap.size w (w6.drewN d7)) := HB.out.trans ((Keeps.drewN None _ _).below _ (by have := H6.out.2.2.size; omega) (fun _ f => f.elim))
      go_wp2_with fail
      go_ret
      exact ⟨rfl, HB7.out⟩
  · have b3 : (E2 != 0) = true := by simpa using hE
    have e1 := HF1.out.2.2.2 hE
    subst e1
    go_wp2_with fail
    go_ret
    exact ⟨rfl, HB.out⟩
end Go.Proofs.Ytlajblbfelcalab
