import Derived.Test.YteahlgaaifoabaaDqBase
/-! The law's own 'arena'. -/
namespace Go.Proofs.Yteahlgaaifoabaa
open Go.RowKit Go.HeapKit

theorem fill_step (zs : List Int) (k : Nat) (hk : k < zs.length) : (zs.take k ++ List.replicate (zs.length - k) (0 : Int)).set k (zs.getD k 0) = zs.take (k + 1) ++ List.replicate (zs.length - (k + 1)) 0 := by
  apply List.ext_getElem?
  intro i
  simp only [List.getElem?_set, List.getElem?_append, List.length_take, List.getElem?_take, List.getElem?_replicate, List.length_append, List.length_replicate]
  by_cases h : k = i
  · subst h
    have h1 : min k zs.length = k := by omega
    have h2 : min (k + 1) zs.length = k + 1 := by omega
    simp [h1, h2, hk, List.getD]
    omega
  · have h1 : min k zs.length = k := by omega
    have h2 : min (k + 1) zs.length = k + 1 := by omega
    simp only [h1, h2, if_neg h]
    by_cases h3 : i < k
    · simp [h3, show i < k + 1 by omega]
    · simp only [if_neg h3, if_neg (show ¬ i < k + 1 by omega)]
      congr 1
      simp only [eq_iff_iff]
      omega
set_option maxHeartbeats 4000000 in
set_option maxRecDepth 100000 in
theorem arena_any (n : Nat) (ao : Option Addr) (cap : Nat) (zs : List Int) (w : World) (hn : n ≤ 1048576) (hz : zs.length ≤ n) (hc : Ints w ao zs) :
    Calls Try.prog 10 #[.int .i64 n, .slice ao zs.length cap] w fun e w' => e = .returned (.tuple #[.pointer (some ⟨w.heap.size, 0, none⟩), .bool true]) ∧ NewA w w' w.heap.size ⟨n, zs, true, 0, []⟩ := by
  have hnew := newA_new n w hn
  have HC : Hid (Ints w ao zs) := hc
  clear hc
  by_cases h0 : zs.length = 0
  · obtain rfl : zs = [] := List.eq_nil_of_length_eq_zero h0
    clear h0
    go_enter Try.func10, Try.ntmps10
    go_wp2_with fail
    refine hnew.mono ?_
    rintro e w1 ⟨rfl, hA⟩
    have HA : Hid _ := hA
    clear hA hnew
    go_wp2_with fail
    have HA : Hid (NewA w w1 w.heap.size ⟨n, [], false, 0, []⟩) := HA.out
    go_loopw [10, 11] (fun i _ wr => i = .int .i64 0 ∧ NewA w wr w.heap.size ⟨n, [], false, 0, []⟩) (fun _ _ _ => 0)
    case atStart => exact ⟨rfl, HA.out⟩
    case round =>
      obtain ⟨rfl, hA⟩ := hrel
      obtain ⟨F, hF, hk1, hf1⟩ := hA
      have hw := arf_watch w.heap.size F _ true wr hF
      have HN : Hid _ := And.intro hF (And.intro hk1 hf1)
      clear hF hk1 hf1
      go_wp2_with fail
      refine hw.mono ?_
      rintro e w2 ⟨rfl, hA2⟩
      have HE : Hid (NewA w w2 w.heap.size ⟨n, [], true, 0, []⟩) := NewA.step HN.out.2.1 HN.out.2.2 hA2
      clear hA2
      go_wp2_with fail
      go_ret2
      exact ⟨rfl, HE.out⟩
  · have hpos : (0 : Int) < (zs.length : Int) := by omega
    go_enter Try.func10, Try.ntmps10
    go_wp2_with fail
    refine hnew.mono ?_
    rintro e w1 ⟨rfl, hA⟩
    obtain ⟨F, hF, hk1, hf1⟩ := hA
    have hr : Calls Try.prog 33 #[.pointer (some ⟨w.heap.size, 0, none⟩), .int .i64 zs.length] w1 fun e w' => e = .returned (.tuple #[.int .i64 0, .int .i64 0]) ∧ AA w1 w' w.heap.size F ⟨n, List.replicate zs.length 0, false, 0, []⟩ := by
      have := arf_reserve w.heap.size F _ zs.length w1 hF (by omega) (by simp [Ar.new]; omega) (by simp [Ar.new])
      simpa [Ar.new, Ar.more, Ar.noted] using this
    have HN : Hid _ := And.intro hk1 hf1
    clear hF hk1 hf1 hnew
    go_wp2_with fail
    refine hr.mono ?_
    rintro e w2 ⟨rfl, hA2⟩
    have HA : Hid (NewA w w2 w.heap.size ⟨n, List.replicate zs.length 0, false, 0, []⟩) := NewA.step HN.out.1 HN.out.2 hA2
    clear hA2 hr HN
    go_wp2_with fail
    go_loopw [10, 11] (fun i _ wr => ∃ k : Nat, k ≤ zs.length ∧ i = .int .i64 k ∧ NewA w wr w.heap.size ⟨n, zs.take k ++ List.replicate (zs.length - k) 0, false, 0, []⟩) (fun i _ _ => zs.length - (intOf i).toNat)
    case atStart => exact ⟨0, Nat.zero_le _, rfl, by simpa using HA.out⟩
    case round =>
      obtain ⟨k, hk, rfl, hA⟩ := hrel
      by_cases hkn : k < zs.length
      · obtain ⟨b, off, rfl, hb, hcs⟩ := (HC.out.kept hA.keeps) (by omega)
        have c0 := hcs k hkn
        have i1 : (k : Int) < (zs.length : Int) := by omega
        obtain ⟨F, hF, hk1, hf1⟩ := hA
        have hst := arf_store w.heap.size F _ k (zs.getD k 0) wr hF (by simp; omega) (by simp)
        generalize hy : zs.getD k 0 = y at c0 hst
        have HN : Hid _ := And.intro hF (And.intro hk1 (And.intro hf1 hy))
        clear hF hk1 hf1 hy hcs hb
        go_wp2_with fail
        refine hst.mono ?_
        rintro e w2 ⟨rfl, hA2⟩
        have hE : NewA w w2 w.heap.size ⟨n, zs.take (k + 1) ++ List.replicate (zs.length - (k + 1)) 0, false, 0, []⟩ := by
          obtain ⟨h1, h2, h3, h4⟩ := HN.out
          have := NewA.step h2 h3 hA2
          rw [← h4] at this
          simp only [Ar.noted, Ar.put, fill_step zs k hkn] at this
          exact this
        have HE : Hid _ := hE
        clear hE
        clear hA2
        go_wp2_with fail
        go_roundw
        case rel => exact ⟨k + 1, by omega, by simp, HE.out⟩
        case measure => simp only [intOf]; omega
      · have i1 : ¬ (k : Int) < (zs.length : Int) := by omega
        obtain rfl : k = zs.length := by omega
        obtain ⟨F, hF, hk1, hf1⟩ := hA
        have hw := arf_watch w.heap.size F _ true wr hF
        have HN : Hid _ := And.intro hF (And.intro hk1 hf1)
        clear hF hk1 hf1
        go_wp2_with fail
        refine hw.mono ?_
        rintro e w2 ⟨rfl, hA2⟩
        have hE : NewA w w2 w.heap.size ⟨n, zs, true, 0, []⟩ := by
          have := NewA.step HN.out.2.1 HN.out.2.2 hA2
          simpa using this
        have HE : Hid _ := hE
        clear hE
        clear hA2
        go_wp2_with fail
        go_ret2
        exact ⟨rfl, HE.out⟩
end Go.Proofs.Yteahlgaaifoabaa
