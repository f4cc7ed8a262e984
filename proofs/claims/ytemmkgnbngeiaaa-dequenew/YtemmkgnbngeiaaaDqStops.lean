import Derived.Test.YtemmkgnbngeiaaaDqDeny0
import Derived.Test.YtemmkgnbngeiaaaDqDeny1
import Derived.Test.YtemmkgnbngeiaaaDqDeny2
import Derived.Test.YtemmkgnbngeiaaaDqDeny3
/-! 'stops'. -/
namespace Go.Proofs.Ytemmkgnbngeiaaa
open Go.RowKit Go.HeapKit Go.IntWalk

theorem dn_start {w w1 : World} {p l : Nat} {A : Ar} (h : NewA w w1 p A) :
    ∃ H, IsDn (w1.alloc (.cells #[.pointer (some ⟨p, 0, none⟩), .int .i64 l, .int .i64 0] 106)) w1.heap.size p l 0 H A ∧ ∀ k, H k → w.heap.size ≤ k := by
  obtain ⟨F, hF, hk, hf⟩ := h
  have := hk.size
  refine ⟨_, ⟨new_at w1 _ _ rfl, F, hF.kept (Keeps.alloc None w1 _) (fun _ _ f => f), fun f => ?_, rfl⟩, ?_⟩
  · have := hF.lt f; omega
  · rintro k (rfl | f)
    · omega
    · exact hf k f
theorem stops_keep {w wr w1 w3 : World} {p : Nat} {A : Ar} {H : Nat → Prop} {o o' : Obj} (h0 : Keeps None w wr) (h1 : NewA wr w1 p A) (h2 : Keeps H (w1.alloc o) w3) (hH : ∀ k, H k → wr.heap.size ≤ k) : Keeps None w (w3.alloc o') := by
  have s0 := h0.size
  exact (((h0.trans h1.keeps (fun _ f _ => f)).andAlloc o).trans h2 (fun i f hi => by have := hH i f; omega)).andAlloc o'
set_option maxHeartbeats 4000000 in
set_option maxRecDepth 100000 in
theorem stops_any (f : Int) (w : World) : Calls Try.prog 17 #[.int .i64 f] w fun e w' => e = .returned (.bool true) ∧ Keeps None w w' := by
  have hmod := mod3_any f 5 (by decide) (by decide) w
  have hm0 := Int.emod_nonneg f (show (5 : Int) ≠ 0 by decide)
  have hm1 := Int.emod_lt_of_pos f (show (0 : Int) < 5 by decide)
  obtain ⟨b, hb⟩ : ∃ b : Nat, f % 5 = b := ⟨(f % 5).toNat, by omega⟩
  have e5 : ((5 : Nat) : Int) = 5 := rfl
  rw [e5, hb] at hmod
  rw [hb] at hm0 hm1
  obtain ⟨c, hc⟩ : ∃ c : Nat, 1 + (b : Int) = c := ⟨1 + b, by omega⟩
  obtain ⟨m, hm⟩ : ∃ m : Nat, 2 * (c : Int) = m := ⟨2 * c, by omega⟩
  have hcap : Hid (CapOK c m) := (by unfold CapOK; omega : CapOK c m)
  clear hb e5
  go_enter Try.func17, Try.ntmps17
  go_wp2_with fail
  refine hmod.mono ?_
  rintro e w' ⟨rfl, hw⟩
  have hw2 := hw.symm
  subst hw2
  clear hw hmod
  go_wp2_with fail
  go_loopw [4] (fun i wr => ∃ k : Nat, k ≤ 4 ∧ i = .int .i64 k ∧ Keeps None w wr) (fun i _ => 4 - (intOf i).toNat)
  case atStart => exact ⟨0, by omega, rfl, Keeps.refl _ _⟩
  case round =>
    obtain ⟨k, hk, rfl, hK⟩ := hrel
    have HK : Hid _ := hK
    clear hK
    by_cases h4 : k = 4
    · subst h4
      go_wp2_with fail
      go_ret
      exact ⟨rfl, HK.out⟩
    · have ha : Calls Try.prog 10 #[.int .i64 40, .slice none 0 0] wr fun e w' => e = .returned (.tuple #[.pointer (some ⟨wr.heap.size, 0, none⟩), .bool true]) ∧ NewA wr w' wr.heap.size ⟨40, [], true, 0, []⟩ := arena_any 40 none 0 [] wr (by omega) (by simp) (fun h => by simp at h)
      rcases (show k = 0 ∨ k = 1 ∨ k = 2 ∨ k = 3 by omega) with rfl | rfl | rfl | rfl
      · go_wp2_with fail
        refine ha.mono ?_
        rintro e w1 ⟨rfl, hN⟩
        obtain ⟨H, hD, hH⟩ := dn_start (l := 0) hN
        have hnew := dnnew0 w1.heap.size wr.heap.size 0 H ⟨40, [], true, 0, []⟩ c m _ hcap.out hD rfl (by simp; omega) (by simp) (by simp)
        have HN : Hid _ := And.intro hN hH
        clear hN hH hD ha
        go_wp2_with fail
        refine hnew.mono ?_
        rintro e w3 ⟨rfl, B, H', ⟨hb, -⟩, hk3, -⟩
        have m2 : w3.cell? ⟨w1.heap.size, 2, none⟩ = some (.int .i64 1) := (cell_of_block hb 2).trans rfl
        have m3 := (Keeps.alloc None w3 (.cells #[.int .i64 0, .int .i64 0] 32)).cell m2 (fun f => f)
        have HE : Hid (Keeps None w (w3.alloc (.cells #[.int .i64 0, .int .i64 0] 32))) := stops_keep HK.out HN.out.1 hk3 HN.out.2
        clear hb hk3 hnew HN HK
        go_wp2_with fail
        go_roundw
        case rel => exact ⟨1, by omega, by simp, HE.out⟩
        case measure => simp only [intOf]; omega
      · go_wp2_with fail
        refine ha.mono ?_
        rintro e w1 ⟨rfl, hN⟩
        obtain ⟨H, hD, hH⟩ := dn_start (l := 1) hN
        have hnew := dnnew1 w1.heap.size wr.heap.size 1 H ⟨40, [], true, 0, []⟩ c m _ hcap.out hD rfl (by simp; omega) (by simp) (by simp)
        have HN : Hid _ := And.intro hN hH
        clear hN hH hD ha
        go_wp2_with fail
        refine hnew.mono ?_
        rintro e w3 ⟨rfl, B, H', ⟨hb, -⟩, hk3, -⟩
        have m2 : w3.cell? ⟨w1.heap.size, 2, none⟩ = some (.int .i64 2) := (cell_of_block hb 2).trans rfl
        have m3 := (Keeps.alloc None w3 (.cells #[.int .i64 0, .int .i64 0] 32)).cell m2 (fun f => f)
        have HE : Hid (Keeps None w (w3.alloc (.cells #[.int .i64 0, .int .i64 0] 32))) := stops_keep HK.out HN.out.1 hk3 HN.out.2
        clear hb hk3 hnew HN HK
        go_wp2_with fail
        go_roundw
        case rel => exact ⟨2, by omega, by simp, HE.out⟩
        case measure => simp only [intOf]; omega
      · go_wp2_with fail
        refine ha.mono ?_
        rintro e w1 ⟨rfl, hN⟩
        obtain ⟨H, hD, hH⟩ := dn_start (l := 2) hN
        have hnew := dnnew2 w1.heap.size wr.heap.size 2 H ⟨40, [], true, 0, []⟩ c m _ hcap.out hD rfl (by simp; omega) (by simp) (by simp)
        have HN : Hid _ := And.intro hN hH
        clear hN hH hD ha
        go_wp2_with fail
        refine hnew.mono ?_
        rintro e w3 ⟨rfl, B, H', ⟨hb, -⟩, hk3, -⟩
        have m2 : w3.cell? ⟨w1.heap.size, 2, none⟩ = some (.int .i64 3) := (cell_of_block hb 2).trans rfl
        have m3 := (Keeps.alloc None w3 (.cells #[.int .i64 0, .int .i64 0] 32)).cell m2 (fun f => f)
        have HE : Hid (Keeps None w (w3.alloc (.cells #[.int .i64 0, .int .i64 0] 32))) := stops_keep HK.out HN.out.1 hk3 HN.out.2
        clear hb hk3 hnew HN HK
        go_wp2_with fail
        go_roundw
        case rel => exact ⟨3, by omega, by simp, HE.out⟩
        case measure => simp only [intOf]; omega
      · go_wp2_with fail
        refine ha.mono ?_
        rintro e w1 ⟨rfl, hN⟩
        obtain ⟨H, hD, hH⟩ := dn_start (l := 3) hN
        have hnew := dnnew3 w1.heap.size wr.heap.size 3 H ⟨40, [], true, 0, []⟩ c m _ hcap.out hD (by omega) (by simp; omega) (by simp) (by simp)
        have HN : Hid _ := And.intro hN hH
        clear hN hH hD ha
        go_wp2_with fail
        refine hnew.mono ?_
        rintro e w3 ⟨rfl, H', ⟨hb, -⟩, hk3, -⟩
        have m2 : w3.cell? ⟨w1.heap.size, 2, none⟩ = some (.int .i64 3) := (cell_of_block hb 2).trans rfl
        have m3 := (Keeps.alloc None w3 (.cells #[.int .i64 0, .int .i64 m] 32)).cell m2 (fun f => f)
        have HE : Hid (Keeps None w (w3.alloc (.cells #[.int .i64 0, .int .i64 m] 32))) := stops_keep HK.out HN.out.1 hk3 HN.out.2
        clear hb hk3 hnew HN HK
        go_wp2_with fail
        go_roundw
        case rel => exact ⟨4, by omega, by simp, HE.out⟩
        case measure => simp only [intOf]; omega
end Go.Proofs.Ytemmkgnbngeiaaa
