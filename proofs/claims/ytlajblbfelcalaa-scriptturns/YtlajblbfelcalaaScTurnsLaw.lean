import Derived.Test.YtlajblbfelcalaaScTurns
/-! ScriptTurns. -/
namespace Go.Proofs.Ytlajblbfelcalaa
set_option linter.unusedVariables false
set_option maxRecDepth 20000
open Go.RowKit Go.HeapKit

set_option maxHeartbeats 1600000 in
theorem scriptTurns_walk (x r : Int) (w : World) (hx : okI x) (hr : okI r) :
    Calls Try.prog 4 #[.int .i64 x, .int .i64 r] w fun e w' => e = .returned (.bool true) ∧ Below w.heap.size w w' := by
  have HX : Hid (okI x ∧ okI r) := ⟨hx, hr⟩
  have hL := trn_len x r
  obtain ⟨L, hLe⟩ : ∃ L, L = trnV x r := ⟨_, rfl⟩
  have HL : Hid (L = trnV x r) := hLe
  rw [← hLe] at hL
  clear hx hr hLe
  obtain ⟨E, hE⟩ : ∃ E, E = trnE x r := ⟨_, rfl⟩
  have HE : Hid (E = trnE x r) := hE
  clear hE
  go_enter Try.func4, Try.ntmps4
  go_wp2_with fail
  refine (turns_any x r _ HX.out.1 HX.out.2).mono ?_
  rintro _ w1 ⟨v1, rfl, hr1, hk1⟩
  rw [← HE.out]
  rw [← HL.out] at hr1
  obtain ⟨a1, c1, rfl⟩ := row_shape hr1
  have H1 : Hid (w1.ownsRow w.heap.size 3 1 (.slice a1 L.length c1) L.length (iv L) ∧ Keeps None w w1) := ⟨hr1, hk1⟩
  clear hr1 hk1
  go_wp2_with fail
  refine (turns_any x r _ HX.out.1 HX.out.2).mono ?_
  rintro _ w2 ⟨v2, rfl, hr2, hk2⟩
  rw [← HE.out]
  rw [← HL.out] at hr2
  obtain ⟨a2, c2, rfl⟩ := row_shape hr2
  have H2 : Hid (w2.ownsRow w1.heap.size 3 1 (.slice a2 L.length c2) L.length (iv L) ∧ Keeps None w1 w2) := ⟨hr2, hk2⟩
  clear hr2 hk2
  go_wp2_with fail
  refine (spoilt_any w1.heap.size _ _ L _ H2.out.1 H2.out.2.size (by omega)).mono ?_
  rintro _ w3 ⟨g3, c3, rfl, _, hk3, _⟩
  have H3 : Hid (Keeps (fun k => (Value.slice a2 L.length c2).ownBlock = some k) w2 w3) := hk3
  clear hk3
  go_wp2_with fail
  refine (rturns_any x r _ HX.out.1 HX.out.2).mono ?_
  rintro _ w4 ⟨v4, rfl, hr4, hk4⟩
  rw [← HE.out]
  rw [← HL.out] at hr4
  obtain ⟨a4, c4, rfl⟩ := row_shape hr4
  have hk13 : Keeps None w1 w3 := H2.out.2.trans H3.out (fun i e hi => by have := row_low H2.out.1 e; omega)
  have H4 : Hid (SeenN w4 a1 L.length L ∧ SeenN w4 a4 L.length L ∧ Keeps None w w4) :=
    ⟨((row_seen H1.out.1).more hk13).more hk4, row_seen hr4, (H1.out.2.trans hk13 (fun _ f _ => f)).trans hk4 (fun _ f _ => f)⟩
  clear hr4 hk4 hk13
  go_wp2_with fail
  refine (same_any a1 a4 L.length c1 c4 L _ H4.out.1 H4.out.2.1 (by omega)).mono ?_
  rintro _ w5 ⟨rfl, d, rfl⟩
  have hk5 : Keeps None w (w4.drewN d) := H4.out.2.2.trans (Keeps.drewN None _ _) (fun _ f _ => f)
  have HF : Hid (Below w.heap.size w (w4.drewN d)) := hk5.below _ (Nat.le_refl _) (fun _ f => f.elim)
  clear hk5
  obtain ⟨n, hn⟩ : ∃ n, n = L.length := ⟨_, rfl⟩
  rw [← hn] at hL ⊢
  clear hn
  go_wp2_with fail
  go_ret
  exact ⟨rfl, HF.out⟩
end Go.Proofs.Ytlajblbfelcalaa
