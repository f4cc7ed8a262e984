import Derived.Test.YtlajblbfelcalabScNoise
import Derived.Test.YtlajblbfelcalabScFair
import Derived.Test.YtlajblbfelcalabScTurns
/-! ScriptNoiseFair. -/
namespace Go.Proofs.Ytlajblbfelcalab
set_option linter.unusedVariables false
set_option maxRecDepth 20000
open Go.RowKit Go.HeapKit Go.Sc

def noiL (seed : Int) (W : Nat) (D : Int) (n : Nat) : List Int := (List.range n).map (fun i => (pickK seed W D i : Int))
theorem noiL_len (seed : Int) (W : Nat) (D : Int) (n : Nat) : (noiL seed W D n).length = n := by simp [noiL]
theorem noiL_f (seed : Int) {W : Nat} (D : Int) {n i : Nat} (hi : i < n) (hW : 0 < W) : fOf (noiL seed W D n) W i = pickK seed W D i := by
  unfold fOf noiL
  have hp : pickK seed W D i < W := pick_lt _ _ hW
  simp only [List.getD_eq_getElem?_getD, List.getElem?_map, List.getElem?_range hi, Option.map_some, Option.getD_some]
  rw [Int.emod_eq_of_lt (by omega) (by omega)]
  omega
theorem noiL_lw (seed : Int) {W : Nat} (D : Int) (n : Nat) (hW : 0 < W) : lwL (noiL seed W D n) W = lw (pickK seed W D) W n := by
  unfold lwL
  rw [noiL_len]
  exact lw_congr (fun i hi => noiL_f seed D hi hW) W
theorem noiL_fair (seed : Int) {W : Nat} (D : Int) (n : Nat) (hW : 0 < W) (hD : 0 ≤ D) (win : Int) (hwin : D + W = win) : fairB (noiL seed W D n) W win = true := by
  unfold fairB
  rw [noiL_lw seed D n hW]
  have := noise_fair seed W D hD hW n
  simp
  omega
theorem noiL_turns (seed : Int) {W : Nat} (n : Nat) (hW : 0 < W) : noiL seed W 0 n = (List.range n).map (fun i => ((i % W : Nat) : Int)) := by
  unfold noiL
  apply List.map_congr_left
  intro i _
  rw [turns_pick seed W hW]
theorem turns_win {W : Nat} (n : Nat) (hW : 0 < W) (hn : W ≤ n) : winV ((List.range n).map (fun i => ((i % W : Nat) : Int))) W = W := by
  rw [← noiL_turns 0 n hW]
  unfold winV
  rw [noiL_lw 0 0 n hW, noiL_len]
  have e : lw (pickK 0 W 0) W n = lw (fun i => i % W) W n := lw_congr (fun i _ => turns_pick 0 W hW i) W
  have := turns_lw W hW n hn
  rw [e, if_neg (by omega)]
  omega
theorem trn_ok (W R : Nat) (hW : 1 ≤ W) (hW2 : W ≤ 64) (h : W * R ≤ 1048576) : trnE W R = 0 ∧ trnV W R = (List.range (W * R)).map (fun i => ((i % W : Nat) : Int)) := by
  rcases trn_cases (W : Int) (R : Int) with ⟨hg, _⟩ | ⟨_, h0, _⟩ | ⟨W', R', e1, e2, _, _, _, ⟨hc, _⟩ | ⟨_, _, a, b⟩⟩
  · rw [goodB_t (by omega) (by omega)] at hg; cases hg
  · omega
  · have : W = W' := by omega
    have : R = R' := by omega
    subst W' R'
    have := (Nat.div_lt_iff_lt_mul (by omega : 0 < W)).1 hc
    rw [Nat.mul_comm] at this
    omega
  · have : W = W' := by omega
    have : R = R' := by omega
    subst W' R'
    exact ⟨a, b⟩
end Go.Proofs.Ytlajblbfelcalab
