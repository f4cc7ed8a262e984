import Derived.Test.YtocfcdnbielbiabDoorSrFanWalk
/-! SerialFan: the statement's walk. -/
namespace Go.Proofs.YtocfcdnbielbiabDoor
set_option linter.unusedVariables false
set_option maxRecDepth 20000
open Go.RowKit Go.HeapKit Go.PlainOps
set_option maxHeartbeats 2000000 in
theorem sfan_walk (kids moves : Int) (w : World) (hT : Tabs w) (hk : okI kids) (hm : okI moves) :
    Calls Tryd.prog 3 #[.int .i64 kids, .int .i64 moves] w fun e w' => e = .returned (.bool true) ∧ Keeps None w w' := by
  by_cases hr : kids < 1 ∨ 8 < kids ∨ moves < 0 ∨ 510 < moves
  · have hlv := lives_any kids hk w hT
    have HR : Hid _ := hr
    clear hT hk hm hr
    by_cases h1 : kids < 1
    · go_enter Tryd.func3, Tryd.ntmps3
      go_wp2_with (go_at_call 6; refine hlv.mono ?_; rintro _ w5 ⟨rfl, hk5⟩)
      go_ret
      exact ⟨rfl, hk5⟩
    · by_cases h2 : 8 < kids
      · go_enter Tryd.func3, Tryd.ntmps3
        go_wp2_with (go_at_call 6; refine hlv.mono ?_; rintro _ w5 ⟨rfl, hk5⟩)
        go_ret
        exact ⟨rfl, hk5⟩
      · by_cases h3 : moves < 0
        · go_enter Tryd.func3, Tryd.ntmps3
          go_wp2_with (go_at_call 6; refine hlv.mono ?_; rintro _ w5 ⟨rfl, hk5⟩)
          go_ret
          exact ⟨rfl, hk5⟩
        · have h4 : 510 < moves := by have := HR.out; omega
          go_enter Tryd.func3, Tryd.ntmps3
          go_wp2_with (go_at_call 6; refine hlv.mono ?_; rintro _ w5 ⟨rfl, hk5⟩)
          go_ret
          exact ⟨rfl, hk5⟩
  · obtain ⟨K, rfl⟩ := Int.eq_ofNat_of_zero_le (show 0 ≤ kids by omega)
    obtain ⟨M, rfl⟩ := Int.eq_ofNat_of_zero_le (show 0 ≤ moves by omega)
    have k1 : 1 ≤ K := by omega
    have k8 : K ≤ 8 := by omega
    have m5 : M ≤ 510 := by omega
    have hfn := fan_any K M k8 m5 w
    have hev := fun (H : Nat) (wx : World) (hx : Keeps None w wx) (hs : SeenF wx (some ⟨H, 0, none⟩) 2 (fanP K M)) => eval_any (some ⟨H, 0, none⟩) 2 2 (fanP K M) none 0 0 [] 4194304 wx (hT.more hx) hs (fan_okf K M k8) (seen_nil wx) (by omega) (by simp [okI])
    obtain ⟨P, hP⟩ : ∃ P, P = K * (M + 2) := ⟨_, rfl⟩
    have hPle : P ≤ 8 * 512 := by rw [hP]; exact Nat.mul_le_mul k8 (by omega)
    have hw : ((K * (M + 3) + 2 : Nat) : Int) = (K : Int) + 2 + P := by
      have : K * (M + 3) = K * (M + 2) + K := by rw [show M + 3 = M + 2 + 1 by omega, Nat.mul_succ]
      rw [this, ← hP]
      omega
    have e1 : wrap64 ((K : Int) * ((M : Int) + 2)) = (P : Int) := by
      have : (K : Int) * ((M : Int) + 2) = (P : Int) := by rw [hP, Int.natCast_mul]; rfl
      rw [this]
      unfold wrap64
      omega
    rw [fan_eval K M k1 k8 m5, hw] at hev
    unfold valC at hev
    simp only at hev
    have HEV : Hid _ := hev
    have g1 : ¬ (K : Int) < 1 := by omega
    have g2 : ¬ 8 < (K : Int) := by omega
    have g3 : ¬ (M : Int) < 0 := by omega
    have g4 : ¬ 510 < (M : Int) := by omega
    have g5 : (P : Int) ≤ 4096 := by omega
    clear hev hT hk hm hr hP hPle hw
    go_enter Tryd.func3, Tryd.ntmps3
    go_upto_region 4 with (first
      | (go_at_call 8; refine hfn.mono ?_; rintro _ w2 ⟨H, rfl, hse, hk2⟩)
      | (go_at_call 7; refine (HEV.out H w2 hk2 hse).mono ?_; rintro _ w3 ⟨rfl, hk3⟩))
    have bV := heap_alloc_new w3 (.cells #[.int .i64 0, .int .i64 ((K : Int) + 2 + P), .int .i64 ((K : Int) + 1), .int .i64 2, .int .i64 ((K : Int) + M + 4)] 24)
    have hal := Keeps.alloc None w3 (.cells #[.int .i64 0, .int .i64 ((K : Int) + 2 + P), .int .i64 ((K : Int) + 1), .int .i64 2, .int .i64 ((K : Int) + M + 4)] 24)
    obtain ⟨U, hU⟩ : ∃ U, U = w3.alloc (.cells #[.int .i64 0, .int .i64 ((K : Int) + 2 + P), .int .i64 ((K : Int) + 1), .int .i64 2, .int .i64 ((K : Int) + M + 4)] 24) := ⟨_, rfl⟩
    obtain ⟨G, hG⟩ : ∃ G, G = w3.heap.size := ⟨_, rfl⟩
    rw [← hU] at hal bV
    rw [← hG] at bV
    rw [← hU, ← hG]
    have x0 : U.cell? ⟨G, 0, none⟩ = some (.int .i64 0) := (blk_cell bV 0).trans rfl
    have x1 : U.cell? ⟨G, 1, none⟩ = some (.int .i64 ((K : Int) + 2 + P)) := (blk_cell bV 1).trans rfl
    have x2 : U.cell? ⟨G, 2, none⟩ = some (.int .i64 ((K : Int) + 1)) := (blk_cell bV 2).trans rfl
    have x3 : U.cell? ⟨G, 3, none⟩ = some (.int .i64 2) := (blk_cell bV 3).trans rfl
    have x4 : U.cell? ⟨G, 4, none⟩ = some (.int .i64 ((K : Int) + M + 4)) := (blk_cell bV 4).trans rfl
    have HK : Hid (Keeps None w U) := (hk2.trans hk3 (fun _ f _ => f)).trans hal (fun _ f _ => f)
    clear hU hG bV hal hk2 hk3 hse hfn HEV
    go_wp2_with fail
    all_goals go_ret
    all_goals exact ⟨rfl, HK.out⟩
end Go.Proofs.YtocfcdnbielbiabDoor
