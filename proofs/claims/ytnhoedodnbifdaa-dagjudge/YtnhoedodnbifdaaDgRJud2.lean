import Derived.Test.YtnhoedodnbifdaaDgRJud1
import Derived.Test.YtnhoedodnbifdaaDgRJudgeP
/-! The document's schedule. -/
namespace Go.Proofs.Ytnhoedodnbifdaa
set_option linter.unusedVariables false
set_option maxRecDepth 20000
open Go.RowKit Go.HeapKit

theorem Keeps.drewZ (S : Nat → Prop) (w : World) (m : Nat) : Keeps S w (w.drewN m) := by
  induction m with
  | zero => exact Keeps.refl _ _
  | succ m ih => exact ih.andDrew
set_option maxHeartbeats 3200000 in
theorem rsched_any (n : Nat) (a : Option Addr) (m c : Nat) (l : List Ed) (p : Nat) (hp : p ≤ 64) (za : Option Addr) (zc : Nat) (zs : List Int) (w : World) (h : SeenE w a m l) (hz : SeenZ w za n zs) (hd : Dag (n : Int) l) :
    Calls Try.prog 32 #[dagV n a m c, .int .i64 p, .slice za n zc] w fun e w' => BoolAns (SchR p zs l) w e w' := by
  have HD : Hid (Dag (n : Int) l ∧ m = l.length ∧ n = zs.length) := ⟨hd, h.len, hz.len⟩
  have hn : n ≤ 4096 := by have := hd.hi; omega
  have hm : m ≤ 16384 := by have := hd.len; have := h.len; omega
  have hbox := blk_new w (.cells #[.int .i64 n, .slice a m c] 24) _ rfl
  have hk0 := keeps1 w (.cells #[.int .i64 n, .slice a m c] 24)
  have HS : Hid (SeenE (w.alloc (.cells #[.int .i64 n, .slice a m c] 24)) a m l ∧ SeenZ (w.alloc (.cells #[.int .i64 n, .slice a m c] 24)) za n zs ∧ Keeps None w (w.alloc (.cells #[.int .i64 n, .slice a m c] 24))) := ⟨h.more hk0, hz.more hk0, hk0⟩
  have d0 : (w.alloc (.cells #[.int .i64 n, .slice a m c] 24)).cell? ⟨w.heap.size, 0, none⟩ = some (.int .i64 n) := (blk_cell hbox 0).trans rfl
  have d1 : (w.alloc (.cells #[.int .i64 n, .slice a m c] 24)).cell? ⟨w.heap.size, 1, none⟩ = some (.slice a m c) := (blk_cell hbox 1).trans rfl
  clear h hz hd hbox hk0
  unfold dagV
  go_enter Try.func32, Try.ntmps32
  go_wp2_with fail
  obtain ⟨s0, hs0⟩ : ∃ s0, s0 = w.heap.size := ⟨_, rfl⟩
  rw [← hs0] at d0 d1 ⊢
  generalize w.alloc (.cells #[.int .i64 n, .slice a m c] 24) = wa at *
  clear hs0
  go_loopw [7] (fun s7 wr => ∃ k : Nat, s7 = .int .i64 k ∧ k ≤ n ∧ wr = wa ∧ ∀ i x, i < k → zs[i]? = some x → 1 ≤ x) (fun s7 _ => n - (intOf s7).toNat)
  case atStart => exact ⟨0, rfl, Nat.zero_le _, rfl, fun i x hi => by omega⟩
  case round =>
    obtain ⟨k, rfl, hk, hwr, hall⟩ := hrel
    have hw9 := hwr.symm
    subst hw9
    clear hwr
    have HA : Hid (∀ i x, i < k → zs[i]? = some x → 1 ≤ x) := hall
    clear hall
    by_cases hlt : k < n
    · have k1 : (k : Int) < (n : Int) := by omega
      have n0 : ¬ n = 0 := by omega
      obtain ⟨b, off, y, rfl, hy, _, e0⟩ := HS.out.2.1.at hlt
      have HY : Hid (zs[k]? = some y) := hy
      clear hy
      by_cases hy1 : y < 1
      · go_wp2_with fail
        go_ret
        exact ⟨false, rfl, ⟨fun h => (by cases h), fun h => by have := h.one y (List.mem_of_getElem? HY.out); omega⟩, HS.out.2.2⟩
      · have HQ : Hid (∀ i x, i < k + 1 → zs[i]? = some x → 1 ≤ x) := by
          intro i x hi hx
          by_cases e : i = k
          · subst e; rw [HY.out] at hx; injection hx with hx; omega
          · exact HA.out i x (by omega) hx
        go_wp2_with fail
        exact ⟨⟨k + 1, by go_num, by omega, trivial, HQ.out⟩, by simp [intOf]; omega⟩
    · have k1 : ¬ (k : Int) < (n : Int) := by omega
      have H1 : Hid (∀ x ∈ zs, 1 ≤ x) := by
        intro x hx
        obtain ⟨i, hi, rfl⟩ := List.mem_iff_getElem.1 hx
        exact HA.out i _ (by have := HD.out.2.2; omega) (List.getElem?_eq_getElem hi)
      clear HA hk hlt
      go_wp2_with fail
      go_loopw [8, 9] (fun s8 _ wr => ∃ k : Nat, s8 = .int .i64 k ∧ k ≤ n ∧ wr = wa ∧ ∀ i x, i < k → zs[i]? = some x → zs.count x ≤ p) (fun s8 _ _ => n - (intOf s8).toNat)
      case atStart => exact ⟨0, rfl, Nat.zero_le _, rfl, fun i x hi => by omega⟩
      case round =>
        obtain ⟨k, rfl, hk, hwr, hall⟩ := hrel
        have hw9 := hwr.symm
        subst hw9
        clear hwr
        have HA : Hid (∀ i x, i < k → zs[i]? = some x → zs.count x ≤ p) := hall
        clear hall
        by_cases hlt : k < n
        · have k1 : (k : Int) < (n : Int) := by omega
          have n0 : ¬ n = 0 := by omega
          obtain ⟨b, off, y, rfl, hy, _, e0⟩ := HS.out.2.1.at hlt
          have HY : Hid (zs[k]? = some y) := hy
          clear hy
          go_wp2_with fail
          refine (count_any _ n zc y zs _ HS.out.2.1 hn).mono ?_
          rintro e wz ⟨rfl, hw⟩
          have hw2 := hw.symm
          subst hw2
          clear hw
          obtain ⟨C, hC⟩ : ∃ C, C = zs.count y := ⟨_, rfl⟩
          have HC : Hid (C = zs.count y) := hC
          rw [← hC]
          clear hC
          by_cases hcp : C ≤ p
          · have i1 : ¬ (C : Int) > (p : Int) := by omega
            have HQ : Hid (∀ i x, i < k + 1 → zs[i]? = some x → zs.count x ≤ p) := by
              intro i x hi hx
              by_cases e : i = k
              · subst e; rw [HY.out] at hx; injection hx with hx; subst hx; rw [← HC.out]; exact hcp
              · exact HA.out i x (by omega) hx
            go_wp2_with fail
            exact ⟨⟨k + 1, by go_num, by omega, trivial, HQ.out⟩, by simp [intOf]; omega⟩
          · have i1 : (C : Int) > (p : Int) := by omega
            go_wp2_with fail
            go_ret
            exact ⟨false, rfl, ⟨fun h => (by cases h), fun h => by have := h.most y (List.mem_of_getElem? HY.out); have := HC.out; omega⟩, HS.out.2.2⟩
        · have k2 : ¬ (k : Int) < (n : Int) := by omega
          have H2 : Hid (∀ x ∈ zs, zs.count x ≤ p) := by
            intro x hx
            obtain ⟨i, hi, rfl⟩ := List.mem_iff_getElem.1 hx
            exact HA.out i _ (by have := HD.out.2.2; omega) (List.getElem?_eq_getElem hi)
          clear HA hk hlt
          go_wp2_with fail
          go_loopw [10] (fun s10 wr => ∃ k : Nat, s10 = .int .i64 k ∧ k ≤ m ∧ (∃ d, wr = wa.drewN d) ∧ ∀ i e, i < k → l[i]? = some e → tm zs e.f.toNat < tm zs e.t.toNat) (fun s10 _ => m - (intOf s10).toNat)
          case atStart => exact ⟨0, rfl, Nat.zero_le _, ⟨0, rfl⟩, fun i e hi => by omega⟩
          case round =>
            obtain ⟨k, rfl, hk, ⟨d, rfl⟩, hall⟩ := hrel
            have HA : Hid (∀ i e, i < k → l[i]? = some e → tm zs e.f.toNat < tm zs e.t.toNat) := hall
            clear hall
            have HKD : Hid (∀ d', Keeps None w (wa.drewN d')) := fun d' => HS.out.2.2.trans (Keeps.drewZ None _ _) (fun _ f _ => f)
            by_cases hlt : k < m
            · have k3 : (k : Int) < (m : Int) := by omega
              have m0 : ¬ m = 0 := by omega
              obtain ⟨b, off, e, rfl, he, hat⟩ := HS.out.1.at hlt
              have hok := HD.out.1.ok e (List.mem_of_getElem? he)
              obtain ⟨ef, et⟩ := e
              simp only at hok
              obtain ⟨u, rfl⟩ := Int.eq_ofNat_of_zero_le hok.1
              obtain ⟨v, rfl⟩ := Int.eq_ofNat_of_zero_le (show 0 ≤ et by omega)
              have a0 := hat.f
              have a1 := hat.t
              simp only at a0 a1
              obtain ⟨zb, zo, x1, rfl, hx1, _, e1⟩ := HS.out.2.1.at (show u < n by omega)
              obtain ⟨zb', zo', x2, e', hx2, _, e2⟩ := HS.out.2.1.at (show v < n by omega)
              injection e' with e'
              injection e' with e3 e4
              subst e3 e4
              have n0 : ¬ n = 0 := by omega
              have u1 : (u : Int) < (n : Int) := by omega
              have v1 : (v : Int) < (n : Int) := by omega
              have HE : Hid (l[k]? = some ⟨u, v⟩ ∧ tm zs u = x1 ∧ tm zs v = x2) := ⟨he, tm_at hx1, tm_at hx2⟩
              clear he hat hx1 hx2
              by_cases hx : x1 ≥ x2
              · have HN : Hid (¬ SchR p zs l) := by
                  intro h
                  have h3 := h.edge ⟨u, v⟩ (List.mem_of_getElem? HE.out.1)
                  simp only [Int.toNat_natCast] at h3
                  rw [HE.out.2.1, HE.out.2.2] at h3
                  omega
                go_wp2_with fail
                go_quiet (fail)
                go_wp2_with fail
                go_ret
                exact ⟨false, rfl, ⟨fun h => (by cases h), fun h => absurd h HN.out⟩, (HKD.out d).trans (Keeps.drewZ None _ _) (fun _ f _ => f)⟩
              · have HQ : Hid (∀ i e, i < k + 1 → l[i]? = some e → tm zs e.f.toNat < tm zs e.t.toNat) := by
                  intro i e hi h9
                  by_cases e5 : i = k
                  · subst e5
                    rw [HE.out.1] at h9
                    injection h9 with h9
                    subst h9
                    simp only [Int.toNat_natCast]
                    rw [HE.out.2.1, HE.out.2.2]
                    omega
                  · exact HA.out i e (by omega) h9
                go_wp2_with fail
                go_quiet (fail)
                go_wp2_with fail
                exact ⟨⟨k + 1, by go_num, by omega, ⟨_, rfl⟩, HQ.out⟩, by simp [intOf]; omega⟩
            · have k3 : ¬ (k : Int) < (m : Int) := by omega
              have HF : Hid (SchR p zs l) := by
                refine ⟨H1.out, H2.out, fun e he => ?_⟩
                obtain ⟨i, hi, rfl⟩ := List.mem_iff_getElem.1 he
                exact HA.out i _ (by have := HD.out.2.1; omega) (List.getElem?_eq_getElem hi)
              go_wp2_with fail
              go_ret
              exact ⟨true, rfl, ⟨fun _ => HF.out, fun _ => rfl⟩, HKD.out _⟩
end Go.Proofs.Ytnhoedodnbifdaa
