import Derived.Test.YtnhoedodnbifdaaDgRJud2
import Derived.Test.YtnhoedodnbifdaaDgJudAll
/-! The document's greedy. -/
namespace Go.Proofs.Ytnhoedodnbifdaa
set_option linter.unusedVariables false
set_option maxRecDepth 20000
open Go.RowKit Go.HeapKit

set_option maxHeartbeats 3200000 in
theorem rgreedy_any (n : Nat) (a : Option Addr) (m c : Nat) (l : List Ed) (p : Nat) (hp : p ≤ 64) (za : Option Addr) (zc : Nat) (zs : List Int) (w : World) (h : SeenE w a m l) (hz : SeenZ w za n zs) (hd : Dag (n : Int) l) (h1 : ∀ x ∈ zs, 1 ≤ x) :
    Calls Try.prog 33 #[dagV n a m c, .int .i64 p, .slice za n zc] w fun e w' => BoolAns (GrR n p zs l) w e w' := by
  have HD : Hid (Dag (n : Int) l ∧ m = l.length ∧ n = zs.length ∧ ∀ x ∈ zs, 1 ≤ x) := ⟨hd, h.len, hz.len, h1⟩
  have hn : n ≤ 4096 := by have := hd.hi; omega
  have hm : m ≤ 16384 := by have := hd.len; have := h.len; omega
  have hbox := blk_new w (.cells #[.int .i64 n, .slice a m c] 24) _ rfl
  have hk0 := keeps1 w (.cells #[.int .i64 n, .slice a m c] 24)
  have HS : Hid (SeenE (w.alloc (.cells #[.int .i64 n, .slice a m c] 24)) a m l ∧ SeenZ (w.alloc (.cells #[.int .i64 n, .slice a m c] 24)) za n zs ∧ Keeps None w (w.alloc (.cells #[.int .i64 n, .slice a m c] 24)) ∧ (w.alloc (.cells #[.int .i64 n, .slice a m c] 24)).heap[w.heap.size]? = some (.cells #[.int .i64 n, .slice a m c] 24 (0, 0))) := ⟨h.more hk0, hz.more hk0, hk0, hbox⟩
  have d0 : (w.alloc (.cells #[.int .i64 n, .slice a m c] 24)).cell? ⟨w.heap.size, 0, none⟩ = some (.int .i64 n) := (blk_cell hbox 0).trans rfl
  have d1 : (w.alloc (.cells #[.int .i64 n, .slice a m c] 24)).cell? ⟨w.heap.size, 1, none⟩ = some (.slice a m c) := (blk_cell hbox 1).trans rfl
  clear h hz hd hbox hk0 h1
  unfold dagV
  go_enter Try.func33, Try.ntmps33
  go_wp2_with fail
  generalize w.alloc (.cells #[.int .i64 n, .slice a m c] 24) = wa at *
  refine (grtZ_any za n zc zs _ HS.out.2.1 hn).mono ?_
  rintro e wz ⟨rfl, hw⟩
  have hw2 := hw.symm
  subst hw2
  clear hw
  obtain ⟨G, hG⟩ : ∃ G : Nat, grt zs = G := Int.eq_ofNat_of_zero_le (grt_ge zs).1
  have HG : Hid (grt zs = G) := hG
  rw [hG]
  clear hG
  by_cases hGn : (G : Int) > (n : Int)
  · go_wp2_with fail
    go_ret
    exact ⟨false, rfl, ⟨fun h => (by cases h), fun h => by have h9 := h.1; rw [HG.out] at h9; omega⟩, HS.out.2.2.1⟩
  · go_wp2_with fail
    refine (bef_any n a m c l _ HS.out.1 HD.out.1).mono ?_
    rintro e wb ⟨g, vs, rfl, hL, hkb⟩
    have HB : Hid (IsL wb wa.heap.size g n vs (bef l) ∧ SeenZ wb za n zs ∧ Keeps None w wb) := ⟨hL, HS.out.2.1.more hkb, HS.out.2.2.1.trans hkb (fun _ f _ => f)⟩
    have d2 := hkb.cell d0 (fun f => f)
    clear hL hkb d0 d1
    go_wp2_with fail
    go_loopw [9, 10] (fun s9 _ wr => ∃ t : Nat, s9 = .int .i64 t ∧ 1 ≤ t ∧ t ≤ G + 1 ∧ wr = wb ∧ ∀ t' : Nat, 1 ≤ t' → t' < t → zs.count (t' : Int) = p ∨ ∀ i, i < n → (t' : Int) < tm zs i → ¬ ahead l (tm zs) i t') (fun s9 _ _ => G + 1 - (intOf s9).toNat)
    case atStart => exact ⟨1, rfl, Nat.le_refl _, by omega, rfl, fun t' h1 h2 => by omega⟩
    case round =>
      obtain ⟨t, rfl, ht1, ht2, hwr, hall⟩ := hrel
      have hw9 := hwr.symm
      subst hw9
      clear hwr
      have HA : Hid (∀ t' : Nat, 1 ≤ t' → t' < t → zs.count (t' : Int) = p ∨ ∀ i, i < n → (t' : Int) < tm zs i → ¬ ahead l (tm zs) i t') := hall
      clear hall
      by_cases htG : t ≤ G
      · have t1 : (t : Int) ≤ (G : Int) := by omega
        go_wp2_with fail
        refine (count_any za n zc t zs _ HB.out.2.1 hn).mono ?_
        rintro e wz ⟨rfl, hw⟩
        have hw2 := hw.symm
        subst hw2
        clear hw
        obtain ⟨C, hC⟩ : ∃ C, C = zs.count (t : Int) := ⟨_, rfl⟩
        have HC : Hid (C = zs.count (t : Int)) := hC
        rw [← hC]
        clear hC
        by_cases hcp : C = p
        · have q1 : ((C : Int) == (p : Int)) = true := by simp [hcp]
          have HQ : Hid (∀ t' : Nat, 1 ≤ t' → t' < t + 1 → zs.count (t' : Int) = p ∨ ∀ i, i < n → (t' : Int) < tm zs i → ¬ ahead l (tm zs) i t') := by
            intro t' h1 h2
            by_cases e : t' = t
            · subst e; left; rw [← HC.out]; exact hcp
            · exact HA.out t' h1 (by omega)
          clear hcp
          go_wp2_with fail
          exact ⟨⟨t + 1, by go_num, by omega, by omega, trivial, HQ.out⟩, by simp [intOf]; omega⟩
        · have q1 : ((C : Int) == (p : Int)) = false := by simp; omega
          have HCP : Hid (zs.count (t : Int) ≠ p) := by rw [← HC.out]; exact hcp
          clear hcp
          go_wp2_with fail
          go_loopw [10] (fun s10 wr => ∃ k : Nat, s10 = .int .i64 k ∧ k ≤ n ∧ wr = wb ∧ ∀ i, i < k → (t : Int) < tm zs i → ¬ ahead l (tm zs) i t) (fun s10 _ => n - (intOf s10).toNat)
          case atStart => exact ⟨0, rfl, Nat.zero_le _, rfl, fun i hi => by omega⟩
          case round =>
            obtain ⟨k, rfl, hk, hwr, hall⟩ := hrel
            have hw9 := hwr.symm
            subst hw9
            clear hwr
            have HI : Hid (∀ i, i < k → (t : Int) < tm zs i → ¬ ahead l (tm zs) i t) := hall
            clear hall
            by_cases hlt : k < n
            · have k1 : (k : Int) < (n : Int) := by omega
              have n0 : ¬ n = 0 := by omega
              obtain ⟨b, off, y, rfl, hy, _, e0⟩ := HB.out.2.1.at hlt
              have HY : Hid (tm zs k = y) := tm_at hy
              clear hy
              have hmore : ((t : Int) < y → ¬ ahead l (tm zs) k t) → ∀ i, i < k + 1 → (t : Int) < tm zs i → ¬ ahead l (tm zs) i t := by
                intro h9 i hi h8
                by_cases e : i = k
                · subst e; rw [HY.out] at h8; exact h9 h8
                · exact HI.out i (by omega) h8
              have HM : Hid (((t : Int) < y → ¬ ahead l (tm zs) k t) → ∀ i, i < k + 1 → (t : Int) < tm zs i → ¬ ahead l (tm zs) i t) := hmore
              clear hmore
              by_cases hyt : y > (t : Int)
              · have v0 : wb.cell? ⟨g, k, none⟩ = some (vs k) := by rw [blk_cell HB.out.1.outer, range_at n k _ hlt]
                have hrow := HB.out.1.rows k hlt
                obtain ⟨va, vc, hve⟩ := row_shape hrow
                rw [hve] at v0
                go_wp2_with fail
                refine (readyZ_any _ _ _ (bef l k) _ n zc zs (tm zs) t _ (hve ▸ hrow) (fun x hx => ?_) ⟨HB.out.2.1, fun i x hx => tm_at hx⟩ (by have := bef_len l k; have := HD.out.2.1; omega) hn).mono ?_
                · obtain ⟨e, he, e1, e2⟩ := mem_bef.1 hx
                  have hok := HD.out.1.ok e he
                  omega
                rintro e wz ⟨rfl, hw⟩
                have hw2 := hw.symm
                subst hw2
                clear hw
                have hri := ready_iff (zs := zs) HD.out.2.2.1.symm HD.out.1 HD.out.2.2.2 k t
                have HRI : Hid (readyV (tm zs) t (bef l k) = true ↔ ahead l (tm zs) k t) := hri
                clear hri hrow
                cases hR : readyV (tm zs) t (bef l k)
                · rw [hR] at HRI
                  go_wp2_with fail
                  exact ⟨⟨k + 1, by go_num, by omega, trivial, HM.out (fun _ h9 => by have := HRI.out.2 h9; cases this)⟩, by simp [intOf]; omega⟩
                · rw [hR] at HRI
                  have HN : Hid (¬ GrR n p zs l) := by
                    intro h9
                    rcases h9.2 t ht1 (by rw [HG.out]; exact t1) with h8 | h8
                    · exact HCP.out h8
                    · exact h8 k hlt (by rw [HY.out]; exact hyt) (HRI.out.1 rfl)
                  go_wp2_with fail
                  go_ret
                  exact ⟨false, rfl, ⟨fun h => (by cases h), fun h => absurd h HN.out⟩, HB.out.2.2⟩
              · go_wp2_with fail
                exact ⟨⟨k + 1, by go_num, by omega, trivial, HM.out (fun h9 => by omega)⟩, by simp [intOf]; omega⟩
            · have k1 : ¬ (k : Int) < (n : Int) := by omega
              have HQ : Hid (∀ t' : Nat, 1 ≤ t' → t' < t + 1 → zs.count (t' : Int) = p ∨ ∀ i, i < n → (t' : Int) < tm zs i → ¬ ahead l (tm zs) i t') := by
                intro t' h1 h2
                by_cases e : t' = t
                · subst e; right; intro i hi; exact HI.out i (by omega)
                · exact HA.out t' h1 (by omega)
              go_wp2_with fail
              exact ⟨⟨t + 1, by go_num, by omega, by omega, trivial, HQ.out⟩, by simp [intOf]; omega⟩
      · have t1 : ¬ (t : Int) ≤ (G : Int) := by omega
        have HF : Hid (GrR n p zs l) := ⟨by rw [HG.out]; omega, fun t' h1 h2 => HA.out t' h1 (by rw [HG.out] at h2; omega)⟩
        go_wp2_with fail
        go_ret
        exact ⟨true, rfl, ⟨fun _ => HF.out, fun _ => rfl⟩, HB.out.2.2⟩
end Go.Proofs.Ytnhoedodnbifdaa
