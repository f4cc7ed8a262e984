import Derived.Test.YtloahjkndhcjfaaFreshKind
import Derived.Deep.DeepCutAuto
/-! The walk of CellsFresh. -/
namespace Go.Proofs.Ytloahjkndhcjfaa
open Go.RowKit Go.HeapKit

/-- The first 'done' cells hold 7 + 3i, up to 'all' they hold 0. -/
def laid (size all done : Nat) : Ar := ⟨size, (List.range done).map (fun i : Nat => (7 + 3 * (i : Int))) ++ List.replicate (all - done) 0, false, 0, []⟩
theorem laid_length {size all done : Nat} (h : done ≤ all) : (laid size all done).cells.length = all := by simp [laid]; omega
theorem laid_more (size all n : Nat) : (laid size all all).more n = laid size (all + n) all := by simp [laid, Ar.more]
theorem laid_zero {size all done : Nat} (h : done < all) : (laid size all done).val done = 0 := by
  unfold laid Ar.val
  simp only
  rw [List.getD_eq_getElem?_getD, List.getElem?_append_right (by simp), show all - done = (all - done - 1) + 1 by omega, List.replicate_succ]
  simp
theorem laid_put {size all done : Nat} (h : done < all) : (laid size all done).put done (7 + 3 * done) = laid size all (done + 1) := by
  unfold laid Ar.put
  simp only
  congr 1
  rw [List.set_append_right _ _ (by simp)]
  have : all - done = (all - (done + 1)) + 1 := by omega
  rw [this, List.replicate_succ]
  simp [List.range_succ]
theorem laid_val {size all k : Nat} (h : k < all) : (laid size all all).val k = 7 + 3 * k := by
  unfold laid Ar.val
  simp only
  rw [List.getD_eq_getElem?_getD, List.getElem?_append_left (by simpa using h)]
  simp [h]
theorem laid_all (size : Nat) : laid size 0 0 = ⟨size, [], false, 0, []⟩ := rfl

set_option maxHeartbeats 4000000 in
set_option maxRecDepth 100000 in
theorem fresh_walk (B : Nat) (T : TypeId) (ad : Addr) (kR kL kS : Nat) (Mem : World → Ar → Prop) (K : Kind B T ad kR kL kS Mem) (size : Nat) (hsize : size ≤ 4096) (ao : Option Addr) (len cap : Nat) (zs : List Int) (w : World) (hlen : len ≤ cap) (hcap : cap * 8 ≤ 140737488351232)
    (hMem : Mem w (laid size 0 0)) (hc : 0 < len → ∃ b0 off, ao = some ⟨b0, off, none⟩ ∧ b0 < B ∧ ∀ i, i < len → w.cell? ⟨b0, off + i, none⟩ = some (.int .i64 (zs.getD i 0))) :
    Calls Try.prog 18 #[.iface T (.pointer (some ad)), .int .i64 size, .slice ao len cap] w fun e w' => e = .returned (.bool true) ∧ Below B w w' := by
  have HC : Hid (0 < len → ∃ b0 off, ao = some ⟨b0, off, none⟩ ∧ b0 < B ∧ ∀ i, i < len → w.cell? ⟨b0, off + i, none⟩ = some (.int .i64 (zs.getD i 0))) := hc
  have HM : Hid (Mem w (laid size 0 0)) := hMem
  have HK : Hid (Kind B T ad kR kL kS Mem) := K
  have mR := K.mR
  have mL := K.mL
  have mS := K.mS
  have cR := K.cR
  have cL := K.cL
  have cS := K.cS
  clear hc hMem K
  go_enter Try.func18, Try.ntmps18
  go_wp2_with fail
  go_loopw [7, 8, 9, 10, 11, 12, 13, 14, 15] (fun nx i _ _ _ _ _ _ _ wr => ∃ k n : Nat, k ≤ len ∧ n ≤ size ∧ i = .int .i64 k ∧ nx = .int .i64 n ∧ Mem wr (laid size n n) ∧ Below B w wr) (fun _ i _ _ _ _ _ _ _ _ => len - (intOf i).toNat)
  case atStart => exact ⟨0, 0, by omega, by omega, rfl, rfl, HM.out, Below.refl _ _⟩
  case round =>
    clear HM
    obtain ⟨k, n, hk, hn, rfl, rfl, hM, hb⟩ := hrel
    have HB : Hid (Mem wr (laid size n n) ∧ Below B w wr) := ⟨hM, hb⟩
    clear hM hb
    by_cases hkn : k < len
    · obtain ⟨b0, off, rfl, hb0, hcell⟩ := HC.out (by omega)
      have hz := (HB.out.2.cell (p := ⟨b0, off + k, none⟩) hb0).trans (hcell k hkn)
      have i1 : (k : Int) < (len : Int) := by omega
      clear hcell
      generalize zs.getD k 0 = z at hz
      have hll := laid_length (size := size) (Nat.le_refl n)
      by_cases hbad : z < 1 ∨ (size : Int) - n < z
      · have hcb := HK.out.bad wr (laid size n n) z HB.out.1 (by rw [hll]; exact hbad)
        go_wp2_with fail
        refine hcb.mono ?_
        rintro e w1 ⟨err, rfl, hne, hM1, hb1⟩
        have HB1 : Hid (Mem w1 (laid size n n) ∧ Below B w w1) := ⟨hM1, HB.out.2.trans hb1⟩
        have he : (err == 0) = false := by simpa using hne
        clear hcb hM1 hb1 HB hne
        by_cases h1 : z < 1
        · go_wp2
          go_roundw
          case rel => exact ⟨k + 1, n, by omega, hn, by go_num, rfl, HB1.out⟩
          case measure => simp [intOf]; omega
        · have h2 : (size : Int) - n < z := by omega
          go_wp2
          go_roundw
          case rel => exact ⟨k + 1, n, by omega, hn, by go_num, rfl, HB1.out⟩
          case measure => simp [intOf]; omega
      · obtain ⟨m, rfl⟩ : ∃ m : Nat, z = m := ⟨z.toNat, by omega⟩
        have hm0 : 0 < m := by omega
        have hm1 : n + m ≤ size := by omega
        have t1 : ¬ (m : Int) < 1 := by omega
        have t2 : ¬ (size : Int) - n < m := by omega
        have hcf := HK.out.fits wr (laid size n n) m HB.out.1 hm0 (by rw [hll]; exact hm1)
        rw [hll, laid_more] at hcf
        clear hbad
        go_wp2_with fail
        refine hcf.mono ?_
        rintro e w1 ⟨rfl, hM1, hb1⟩
        have HB1 : Hid (Mem w1 (laid size (n + m) n) ∧ Below B w w1) := ⟨hM1, HB.out.2.trans hb1⟩
        clear hcf hM1 hb1 HB hz hll
        go_wp2_with fail
        go_loopw [12, 13, 14, 15] (fun i _ _ _ wr => ∃ j : Nat, n ≤ j ∧ j ≤ n + m ∧ i = .int .i64 j ∧ Mem wr (laid size (n + m) j) ∧ Below B w wr) (fun i _ _ _ _ => n + m - (intOf i).toNat)
        case atStart => exact ⟨n, Nat.le_refl _, by omega, rfl, HB1.out.1, HB1.out.2⟩
        case round =>
          clear HB1
          obtain ⟨j, hj0, hj, rfl, hM2, hb2⟩ := hrel
          have HB2 : Hid (Mem wr (laid size (n + m) j) ∧ Below B w wr) := ⟨hM2, hb2⟩
          clear hM2 hb2
          by_cases hjm : j < n + m
          · have hll := laid_length (size := size) hj
            have hcl := HK.out.load wr (laid size (n + m) j) j HB2.out.1 (by rw [hll]; exact hjm)
            rw [laid_zero hjm] at hcl
            go_wp2_with fail
            refine hcl.mono ?_
            rintro e w3 ⟨rfl, hM3, hb3⟩
            have hcs := HK.out.store w3 (laid size (n + m) j) j (7 + 3 * j) hM3 (by rw [hll]; exact hjm)
            rw [laid_put hjm] at hcs
            have HB3 : Hid (Below B w w3) := HB2.out.2.trans hb3
            clear hcl hM3 hb3 HB2
            go_wp2_with fail
            refine hcs.mono ?_
            rintro e w4 ⟨rfl, hM4, hb4⟩
            have HB4 : Hid (Mem w4 (laid size (n + m) (j + 1)) ∧ Below B w w4) := ⟨hM4, HB3.out.trans hb4⟩
            clear hcs hM4 hb4
            go_wp2
            go_roundw
            case rel => exact ⟨j + 1, by omega, by omega, by go_num, HB4.out⟩
            case measure => simp [intOf]; omega
          · obtain rfl : j = n + m := by omega
            go_wp2
            go_roundw
            case rel => exact ⟨k + 1, n + m, by omega, by omega, by go_num, by go_num, HB2.out⟩
            case measure => simp [intOf]; omega
    · clear HC
      go_wp2_with fail
      go_loopw [16, 17, 18] (fun i _ _ wr => ∃ j : Nat, j ≤ n ∧ i = .int .i64 j ∧ Mem wr (laid size n n) ∧ Below B w wr) (fun i _ _ _ => n - (intOf i).toNat)
      case atStart => exact ⟨0, Nat.zero_le _, rfl, HB.out⟩
      case round =>
        clear HB
        obtain ⟨j, hj, rfl, hM2, hb2⟩ := hrel
        have HB2 : Hid (Mem wr (laid size n n) ∧ Below B w wr) := ⟨hM2, hb2⟩
        clear hM2 hb2
        have hll := laid_length (size := size) (Nat.le_refl n)
        by_cases hjn : j < n
        · have hcl := HK.out.load wr (laid size n n) j HB2.out.1 (by rw [hll]; exact hjn)
          rw [laid_val hjn] at hcl
          go_wp2_with fail
          refine hcl.mono ?_
          rintro e w3 ⟨rfl, hM3, hb3⟩
          have HB3 : Hid (Mem w3 (laid size n n) ∧ Below B w w3) := ⟨hM3, HB2.out.2.trans hb3⟩
          clear hcl hM3 hb3 HB2
          go_wp2
          go_roundw
          case rel => exact ⟨j + 1, by omega, by go_num, HB3.out⟩
          case measure => simp [intOf]; omega
        · have o1 := HK.out.loadOut wr (laid size n n) (-1) HB2.out.1 (by simp [Ar.has])
          go_wp2_with fail
          refine o1.mono ?_
          rintro e w3 ⟨rfl, hM3, hb3⟩
          have o2 := HK.out.loadOut w3 (laid size n n) n hM3 (by simp [Ar.has, hll])
          have HB3 : Hid (Below B w w3) := HB2.out.2.trans hb3
          clear o1 hM3 hb3 HB2
          go_wp2_with fail
          refine o2.mono ?_
          rintro e w4 ⟨rfl, hM4, hb4⟩
          have HB4 : Hid (Below B w w4) := HB3.out.trans hb4
          clear o2 hM4 hb4
          go_wp2
          go_ret
          exact ⟨rfl, HB4.out⟩

theorem mod4097 (x : Int) (w : World) : Calls Try.prog 13 #[.int .i64 x, .int .i64 4097] w fun e w' => e = .returned (.int .i64 (x % 4097)) ∧ w' = w := mod_any x 4097 (by decide) (by decide) w

set_option maxHeartbeats 4000000 in
set_option maxRecDepth 100000 in
theorem cellsFresh_walk (both : Bool) (x : Int) (ao : Option Addr) (len cap : Nat) (zs : List Int) (w : World) (hlen : len ≤ cap) (hcap : cap * 8 ≤ 140737488351232)
    (hc : 0 < len → ∃ b0 off, ao = some ⟨b0, off, none⟩ ∧ b0 < w.heap.size ∧ ∀ i, i < len → w.cell? ⟨b0, off + i, none⟩ = some (.int .i64 (zs.getD i 0))) :
    Calls Try.prog 5 #[.bool both, .int .i64 x, .slice ao len cap] w fun e w' => e = .returned (.bool true) ∧ Below w.heap.size w w' := by
  have hm0 := Int.emod_nonneg x (show (4097 : Int) ≠ 0 by decide)
  have hm1 := Int.emod_lt_of_pos x (show (0 : Int) < 4097 by decide)
  have hmod := mod4097 x w
  obtain ⟨size, hs⟩ : ∃ size : Nat, x % 4097 = size := ⟨(x % 4097).toNat, by omega⟩
  rw [hs] at hmod hm0 hm1
  have hsize : size ≤ 4096 := by omega
  clear hs hm0 hm1
  have HC : Hid (0 < len → ∃ b0 off, ao = some ⟨b0, off, none⟩ ∧ b0 < w.heap.size ∧ ∀ i, i < len → w.cell? ⟨b0, off + i, none⟩ = some (.int .i64 (zs.getD i 0))) := hc
  clear hc
  have HN : Hid (∀ w1, Below w.heap.size w w1 → (0 < len → ∃ b0 off, ao = some ⟨b0, off, none⟩ ∧ b0 < w.heap.size ∧ ∀ i, i < len → w1.cell? ⟨b0, off + i, none⟩ = some (.int .i64 (zs.getD i 0)))) := by
    intro w1 hb hpos
    obtain ⟨b0, off, h1, h2, h3⟩ := HC.out hpos
    exact ⟨b0, off, h1, h2, fun i hi => (hb.cell (p := ⟨b0, off + i, none⟩) h2).trans (h3 i hi)⟩
  cases both with
  | true =>
    go_enter Try.func5, Try.ntmps5
    go_wp2_with (go_at_call 13; refine hmod.mono ?_; rintro e w' ⟨rfl, rfl⟩)
    refine (snew_ok size _ (by omega)).mono ?_
    rintro e w1 ⟨rfl, hS, hk⟩
    have hb1 := hk.below _ (Nat.le_refl _) (fun _ f => f.elim)
    have hcf := fresh_walk _ _ _ _ _ _ _ (shared_kind _ _) size hsize ao len cap zs w1 hlen hcap ⟨_, hS, Nat.le_succ _, fun g e => by simp [Value.ownBlock] at e; omega⟩ (HN.out w1 hb1)
    have HB : Hid (Below _ _ w1) := hb1
    clear hk hb1 hS
    go_wp2_with fail
    refine hcf.mono ?_
    rintro e w2 ⟨rfl, hb2⟩
    go_wp2
    go_ret
    exact ⟨rfl, HB.out.trans hb2⟩
  | false =>
    go_enter Try.func5, Try.ntmps5
    go_wp2_with (go_at_call 13; refine hmod.mono ?_; rintro e w' ⟨rfl, rfl⟩)
    refine (own_new size _ (by omega)).mono ?_
    rintro e w1 ⟨rfl, hO, hb1⟩
    have hcf := fresh_walk _ _ _ _ _ _ _ (arena_kind _ _) size hsize ao len cap zs w1 hlen hcap ⟨hO, rfl, rfl⟩ (HN.out w1 hb1)
    have HB : Hid (Below _ _ w1) := hb1
    clear hb1 hO
    go_wp2_with fail
    refine hcf.mono ?_
    rintro e w2 ⟨rfl, hb2⟩
    go_wp2
    go_ret
    exact ⟨rfl, HB.out.trans hb2⟩
end Go.Proofs.Ytloahjkndhcjfaa
