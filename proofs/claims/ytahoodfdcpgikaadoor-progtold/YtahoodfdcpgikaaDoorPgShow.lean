import Derived.Test.YtahoodfdcpgikaaDoorPgLeads
/-! ProgShown, plainly. -/
namespace Go.Proofs.YtahoodfdcpgikaaDoor
set_option linter.unusedVariables false
set_option maxRecDepth 20000
open Go.RowKit Go.HeapKit
theorem and_not {n : Nat} {fr : List Pt} (h : Bare n fr) (a : Nat) (ha : a < n) (x : Int) (hm : metV fr (a, bitV x) = false) : bits BinOp.and .i64 (sumAt fr a) (bitV x) = 0 := by
  rw [sum_at h a ha]
  rcases bit_st x with e | e | e
  · rw [e] at hm ⊢
    rw [hm]
    cases metV fr (a, 2) <;> cases metV fr (a, 4) <;> decide
  · rw [e] at hm ⊢
    rw [hm]
    cases metV fr (a, 1) <;> cases metV fr (a, 4) <;> decide
  · rw [e] at hm ⊢
    rw [hm]
    cases metV fr (a, 1) <;> cases metV fr (a, 2) <;> decide
theorem sum_in {n : Nat} {fr : List Pt} (h : Bare n fr) (a : Nat) (ha : a < n) : 0 ≤ sumAt fr a ∧ sumAt fr a ≤ 7 := by
  rw [sum_at h a ha]
  cases metV fr (a, 1) <;> cases metV fr (a, 2) <;> cases metV fr (a, 4) <;> decide
theorem mod_more (x : Int) (n : Nat) (w : World) (hx : okI x) (h0 : 0 < n) (h1 : n ≤ 512) : Calls Tryd.prog 13 #[.int .i64 x, .int .i64 n] w fun e w' => e = .returned (.int .i64 (modV x n)) ∧ w' = w := by
  have hm : (modV x n : Int) = x % (n : Int) := by
    unfold modV
    have h2 := Int.emod_nonneg x (show (n : Int) ≠ 0 by omega)
    omega
  have h2 := Go.PlainOps.tmod_mod x n (by omega)
  obtain ⟨b0, b1⟩ := Go.PlainOps.tmod_bounds x n (by omega)
  have E : Hid ((modV x n : Int) = (if x.tmod n < 0 then x.tmod n + n else x.tmod n)) := by unfold Hid; rw [hm, h2]
  have hn : ¬ (n : Int) = 0 := by omega
  have hn2 : (n : Int) ≤ 512 := by omega
  have b2 : -513 ≤ x.tmod n := by omega
  clear hm h2
  unfold okI at hx
  obtain ⟨R, hR⟩ : ∃ R, R = modV x n := ⟨_, rfl⟩
  rw [← hR] at E ⊢
  clear hR
  by_cases hr : x.tmod n < 0
  · go_enter Tryd.func13, Tryd.ntmps13
    go_wp2
    go_ret
    exact ⟨by rw [E.out, if_pos hr]; rfl, rfl⟩
  · go_enter Tryd.func13, Tryd.ntmps13
    go_wp2
    go_ret
    exact ⟨by rw [E.out, if_neg (by omega)]; rfl, rfl⟩
def TrailR (f : Fn) (s t q : Nat) (w' : World) (v c : Value) : Prop :=
  (metV (searchV f s (0, 0)) (t, q) = false ∧ v = .slice none 0 0 ∧ c = .int .i64 59) ∨
  (metV (searchV f s (0, 0)) (t, q) = true ∧ ∃ g cap Q, v = .slice (some ⟨g, 0, none⟩) Q.length cap ∧ c = .int .i64 0 ∧ Fore f s (t, q) Q ∧ IsP w' g Q.length (fun k => (Q.getD k (0, 0)).1))
theorem TrailR.kept {f : Fn} {s t q : Nat} {w w' : World} {v c : Value} (h : TrailR f s t q w v c) (hk : Keeps None w w') : TrailR f s t q w' v c := by
  rcases h with h | ⟨hm, g, cap, Q, h1, h2, h3, h4⟩
  · exact .inl h
  · exact .inr ⟨hm, g, cap, Q, h1, h2, h3, h4.kept hk (fun f => f)⟩
theorem trail_two (l : List Fn) (f : Fn) (ca : Option Addr) (cc t s q : Nat) (w : World) (hT : Tabs w) (hC : SeenI w ca f.code.length f.code) (hok : ∀ i ∈ f.code, i.Ok) (hsh : shapeV f = true) (hcf : codeFault false l f = none) (ht : t < f.code.length) (hs : (s : Int) < f.slots) (hq : q = 1 ∨ q = 2 ∨ q = 4) :
    Calls Tryd.prog 8 #[fnV f ca cc, .int .i64 t, .int .i64 s, .int .i64 q] w fun e w' => Keeps None w w' ∧ ∃ v c, e = .returned (.tuple #[v, c]) ∧ TrailR f s t q w' v c := by
  refine (trail_any l f ca cc t s q w hT hC hok hsh hcf ht hs hq).mono ?_
  rintro e w' ⟨hk, ⟨hm, rfl⟩ | ⟨hm, g, cap, Q, rfl, hF, hP⟩⟩
  · exact ⟨hk, _, _, rfl, .inl ⟨hm, rfl, rfl⟩⟩
  · exact ⟨hk, _, _, rfl, .inr ⟨hm, g, cap, Q, rfl, rfl, hF, hP⟩⟩
end Go.Proofs.YtahoodfdcpgikaaDoor
