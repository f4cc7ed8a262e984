import Derived.Test.YtnhoedodnbifdaaDgRJudgeP
/-! Judge, whatever it is given. -/
namespace Go.Proofs.Ytnhoedodnbifdaa
set_option linter.unusedVariables false
set_option maxRecDepth 20000
open Go.RowKit Go.HeapKit

def judE (n : Int) (l : List Ed) (p : Int) (k : Nat) : Int := if greE n l p = 0 then (if (k : Int) = n then 0 else 72) else greE n l p
def JudP (n : Int) (p : Int) (k : Nat) (zs : List Int) (l : List Ed) (v : Int) : Prop := (judE n l p k ≠ 0 → v = 0) ∧ (judE n l p k = 0 → judV p.toNat zs l v)
def JudA (n : Int) (p : Int) (k : Nat) (zs : List Int) (l : List Ed) (w : World) (e : Ending) (w' : World) : Prop := ∃ v : Int, e = .returned (.tuple #[.int .i64 v, .int .i64 (judE n l p k)]) ∧ JudP n p k zs l v ∧ Keeps None w w'
theorem judP_one {n p : Int} {k : Nat} {zs : List Int} {l : List Ed} {v v' : Int} (h : JudP n p k zs l v) (h' : JudP n p k zs l v') : v = v' := by
  by_cases e : judE n l p k = 0
  · rcases h.2 e with a | a | a <;> rcases h'.2 e with b | b | b
    · omega
    · exact absurd b.2.1 a.2
    · exact absurd b.2.1 a.2
    · exact absurd a.2.1 b.2
    · omega
    · exact absurd b.2.2 a.2.2
    · exact absurd a.2.1 b.2
    · exact absurd a.2.2 b.2.2
    · omega
  · rw [h.1 e, h'.1 e]
set_option maxHeartbeats 1600000 in
theorem judge_all (n : Int) (a : Option Addr) (m c : Nat) (l : List Ed) (p : Int) (ap : Option Addr) (k cp : Nat) (zs : List Int) (w : World) (h : SeenE w a m l) (hs : m * 16 ≤ 140737488351232) (hz : SeenZ w ap k zs) :
    Calls Try.prog 10 #[dagV n a m c, .int .i64 p, .slice ap k cp] w fun e w' => JudA n p k zs l w e w' := by
  by_cases hE : greE n l p = 0
  · obtain ⟨hc, hp1, hp2⟩ := gre_zero hE
    by_cases hk : (k : Int) = n
    · subst hk
      obtain ⟨P, rfl⟩ := Int.eq_ofNat_of_zero_le (show 0 ≤ p by omega)
      have e : judE (k : Int) l (P : Int) k = 0 := by unfold judE; rw [if_pos hE, if_pos rfl]
      refine (judge_any k a m c l P ⟨by omega, by omega⟩ ap cp zs w h hz hc).mono ?_
      rintro _ w' ⟨v, rfl, hv, hk⟩
      exact ⟨v, by rw [e], ⟨fun h => absurd e h, fun _ => by simpa using hv⟩, hk⟩
    · have HJ : Hid (judE n l p k = 72) := by unfold judE; rw [if_pos hE, if_neg hk]; exact rfl
      have HE : Hid (greE n l p = 0) := hE
      have HS : Hid (SeenE w a m l) := h
      clear h hz hc hE
      obtain ⟨s0, hs0⟩ : ∃ s0, s0 = w.heap.size := ⟨_, rfl⟩
      unfold dagV
      go_enter Try.func10, Try.ntmps10
      go_wp2_with fail
      have hbox := blk_new w (.cells #[.int .i64 n, .slice a m c] 24) _ rfl
      have hk0 := keeps1 w (.cells #[.int .i64 n, .slice a m c] 24)
      refine (checkFor_any n a m c l p _ (HS.out.more hk0) hs).mono ?_
      rintro e w2 ⟨rfl, hk2⟩
      rw [HE.out]
      rw [← hs0] at hbox ⊢
      have H1 : Hid (Keeps None w w2) := hk0.trans hk2 (fun _ f _ => f)
      have d0 : w2.cell? ⟨s0, 0, none⟩ = some (.int .i64 n) := (blk_cell (blk_kept hbox hk2 (fun f => f)) 0).trans rfl
      have q1 : ((k : Int) != n) = true := by simp [hk]
      clear hbox hk0 hk2 hs0
      go_wp2_with fail
      go_ret2
      exact ⟨0, by rw [HJ.out]; rfl, ⟨fun _ => rfl, fun h => by rw [HJ.out] at h; omega⟩, H1.out⟩
  · have HJ : Hid (judE n l p k = greE n l p ∧ greE n l p ≠ 0) := ⟨by unfold judE; rw [if_neg hE], hE⟩
    have HS : Hid (SeenE w a m l) := h
    have q1 : (greE n l p != 0) = true := by simp [hE]
    obtain ⟨E, hEe⟩ : ∃ E, E = greE n l p := ⟨_, rfl⟩
    have HEE : Hid (E = greE n l p) := hEe
    rw [← hEe] at q1
    clear h hz hE hEe
    unfold dagV
    go_enter Try.func10, Try.ntmps10
    go_wp2_with fail
    have hk0 := keeps1 w (.cells #[.int .i64 n, .slice a m c] 24)
    refine (checkFor_any n a m c l p _ (HS.out.more hk0) hs).mono ?_
    rintro e w2 ⟨rfl, hk2⟩
    rw [← HEE.out]
    have H1 : Hid (Keeps None w w2) := hk0.trans hk2 (fun _ f _ => f)
    clear hk0 hk2
    go_wp2_with fail
    go_ret2
    exact ⟨0, by rw [HJ.out.1, ← HEE.out]; rfl, ⟨fun _ => rfl, fun h => absurd (HJ.out.1 ▸ h) HJ.out.2⟩, H1.out⟩
end Go.Proofs.Ytnhoedodnbifdaa
