import Derived.Test.YtheginjjncnheaaHiSortWalk
/-! Legal: the program's and the document's. -/
namespace Go.Proofs.Ytheginjjncnheaa
set_option linter.unusedVariables false
set_option maxRecDepth 20000
open Go.RowKit Go.HeapKit

set_option maxHeartbeats 4000000 in
theorem legal_ok (a : Option Addr) (n c : Nat) (l : List Cl) (most : Int) (ao : Option Addr) (no co : Nat) (zs : List Int) (w : World) (hS : Seen w a n l) (hO : SeenI w ao no zs) (hn : (n + 1) * 56 ≤ 140737488355328) (hoc : no ≤ co) (hno : no * 8 ≤ 140737488355328) :
    Calls Try.prog 9 #[.slice a n c, .int .i64 most, .slice ao no co] w fun e w' => e = .returned (.bool (legalB l most zs)) ∧ Keeps None w w' := by
  have hs := sorted_ok a n c l most w hS hn
  have HS : Hid (Seen w a n l ∧ SeenI w ao no zs) := ⟨hS, hO⟩
  obtain ⟨R, hR⟩ : ∃ R, R = legalB l most zs := ⟨_, rfl⟩
  have HR : Hid (R = legalB l most zs) := hR
  rw [← hR]
  clear hS hO hR
  by_cases he : badE l most = 0
  · obtain ⟨h40, ⟨m, rfl, hm1, hm2⟩, hhist⟩ := badE_zero he
    have HE : Hid (badE l m = 0 ∧ histB l = true) := ⟨he, hhist⟩
    have hn40 : n ≤ 40 := by have := HS.out.1.len; omega
    clear he hhist h40
    go_enter Try.func9, Try.ntmps9
    go_wp2_with fail
    refine hs.mono ?_
    rintro e w1 ⟨vs, rfl, hk1, hsh, -⟩
    obtain ⟨a0, n0, c0, v0⟩ := hsh 0 (by omega)
    obtain ⟨a1, n1, c1, v1⟩ := hsh 1 (by omega)
    obtain ⟨a2, n2, c2, v2⟩ := hsh 2 (by omega)
    obtain ⟨a3, n3, c3, v3⟩ := hsh 3 (by omega)
    rw [v0, v1, v2, v3, HE.out.1]
    have HK1 : Hid (Keeps None w (w1.alloc (.cells #[.slice a0 n0 c0, .slice a1 n1 c1, .slice a2 n2 c2, .slice a3 n3 c3] 53))) := hk1.andAlloc _
    clear hs hk1 hsh v0 v1 v2 v3
    go_wp2_with fail
    refine (complete_ok a n c l ao no co zs _ (HS.out.1.more HK1.out) (HS.out.2.more HK1.out) hn40 hno).mono ?_
    rintro e w2 ⟨rfl, hk2⟩
    have HK2 : Hid (Keeps None w w2) := HK1.out.trans hk2 (fun _ f _ => f)
    clear hk2 HK1
    cases hB1 : (preB l zs zs.length && seenB l zs l.length) with
    | false =>
      have hF : R = false := by rw [HR.out]; unfold legalB; rw [hB1]; simp
      have HF : Hid (R = false) := hF
      clear hF hB1
      go_wp2_with fail
      go_ret
      exact ⟨by rw [HF.out]; rfl, HK2.out⟩
    | true =>
      have hpre : preB l zs zs.length = true := by simp at hB1; exact hB1.1
      have HP : Hid (preB l zs zs.length = true ∧ (preB l zs zs.length && seenB l zs l.length) = true) := ⟨hpre, hB1⟩
      clear hpre hB1
      go_wp2_with fail
      refine (time_ok a n c l ao no co zs _ (HS.out.1.more HK2.out) (HS.out.2.more HK2.out) hoc hn40 hno HP.out.1).mono ?_
      rintro e w3 ⟨rfl, hk3⟩
      have HK3 : Hid (Keeps None w w3) := HK2.out.trans hk3 (fun _ f _ => f)
      clear hk3 HK2
      cases hB2 : timeB l zs zs.length with
      | false =>
        have hF : R = false := by rw [HR.out]; unfold legalB; rw [hB2]; simp
        have HF : Hid (R = false) := hF
        clear hF hB2
        go_wp2_with fail
        go_ret
        exact ⟨by rw [HF.out]; rfl, HK3.out⟩
      | true =>
        have HT : Hid (timeB l zs zs.length = true) := hB2
        clear hB2
        go_wp2_with fail
        refine (allowed_ok a n c l ao no co zs m _ (HS.out.1.more HK3.out) (HS.out.2.more HK3.out) hn40 hno HP.out.1 HE.out.2 hm2).mono ?_
        rintro e w4 ⟨rfl, hk4⟩
        have HK4 : Hid (Keeps None w w4) := HK3.out.trans hk4 (fun _ f _ => f)
        have hF : R = (runD m l zs).isSome := by
          rw [HR.out]; unfold legalB; rw [HE.out.1, HP.out.2, HT.out]; rfl
        have HF : Hid (R = (runD m l zs).isSome) := hF
        clear hk4 HK3 hF
        generalize (runD m l zs).isSome = D at *
        go_wp2_with fail
        go_ret
        exact ⟨by rw [HF.out]; rfl, HK4.out⟩
  · have hF : R = false := by rw [HR.out]; unfold legalB; rw [decide_eq_false he]; rfl
    have HF : Hid (R = false) := hF
    have b0 : (badE l most != 0) = true := by simpa using he
    clear hF he
    go_enter Try.func9, Try.ntmps9
    go_wp2_with fail
    refine hs.mono ?_
    rintro e w1 ⟨vs, rfl, hk1, hsh, -⟩
    obtain ⟨a0, n0, c0, v0⟩ := hsh 0 (by omega)
    obtain ⟨a1, n1, c1, v1⟩ := hsh 1 (by omega)
    obtain ⟨a2, n2, c2, v2⟩ := hsh 2 (by omega)
    obtain ⟨a3, n3, c3, v3⟩ := hsh 3 (by omega)
    rw [v0, v1, v2, v3]
    have HK1 : Hid (Keeps None w (w1.alloc (.cells #[.slice a0 n0 c0, .slice a1 n1 c1, .slice a2 n2 c2, .slice a3 n3 c3] 53))) := hk1.andAlloc _
    clear hs hk1 hsh v0 v1 v2 v3
    go_wp2_with fail
    go_ret
    exact ⟨by rw [HF.out]; rfl, HK1.out⟩

theorem rlegal_ok (a : Option Addr) (n c : Nat) (l : List Cl) (most : Int) (ao : Option Addr) (no co : Nat) (zs : List Int) (w : World) (hS : Seen w a n l) (hO : SeenI w ao no zs) (hn : (n + 1) * 56 ≤ 140737488355328) (hno : no * 8 ≤ 140737488355328) :
    Calls Try.prog 16 #[.slice a n c, .int .i64 most, .slice ao no co] w fun e w' => e = .returned (.bool (legalB l most zs)) ∧ Keeps None w w' := by
  have hs := bad_ok a n c l most w hS hn
  have HS : Hid (Seen w a n l ∧ SeenI w ao no zs) := ⟨hS, hO⟩
  obtain ⟨R, hR⟩ : ∃ R, R = legalB l most zs := ⟨_, rfl⟩
  have HR : Hid (R = legalB l most zs) := hR
  rw [← hR]
  clear hS hO hR
  by_cases he : badE l most = 0
  · obtain ⟨h40, ⟨m, rfl, hm1, hm2⟩, hhist⟩ := badE_zero he
    have HE : Hid (badE l m = 0 ∧ histB l = true) := ⟨he, hhist⟩
    have hn40 : n ≤ 40 := by have := HS.out.1.len; omega
    rw [he] at hs
    have hF : R = repB l m zs := by
      rw [HR.out]
      unfold legalB repB
      rw [he, show ((m : Int)).toNat = m by omega]
      cases preB l zs zs.length <;> cases timeB l zs zs.length <;> cases (runD m l zs).isSome <;> cases seenB l zs l.length <;> rfl
    have HF : Hid (R = repB l m zs) := hF
    clear he hhist h40 hF
    go_enter Try.func16, Try.ntmps16
    go_wp2_with fail
    refine hs.mono ?_
    rintro e w1 ⟨rfl, hk1⟩
    clear hs
    go_wp2_with fail
    refine (replay_ok a n c l ao no co zs m w1 (HS.out.1.more hk1) (HS.out.2.more hk1) hn40 hno HE.out.2 hm2).mono ?_
    rintro e w2 ⟨v', rfl, hk2, -⟩
    have HK : Hid (Keeps None w w2) := hk1.trans hk2 (fun _ f _ => f)
    clear hk1 hk2
    generalize repB l m zs = D at *
    go_wp2_with fail
    go_ret
    exact ⟨by rw [HF.out]; rfl, HK.out⟩
  · have hF : R = false := by rw [HR.out]; unfold legalB; rw [decide_eq_false he]; rfl
    have HF : Hid (R = false) := hF
    have b0 : (badE l most != 0) = true := by simpa using he
    clear hF he
    generalize badE l most = er at *
    go_enter Try.func16, Try.ntmps16
    go_wp2_with fail
    refine hs.mono ?_
    rintro e w1 ⟨rfl, hk1⟩
    clear hs
    go_wp2_with fail
    go_ret
    exact ⟨by rw [HF.out]; rfl, hk1⟩
end Go.Proofs.Ytheginjjncnheaa
