import Derived.Test.YtcjmceedkfjbeaaDoorRpDecode
import Derived.Test.YtcjmceedkfjbeaaDoorPwSame
/-! Decode's answers, told alike: functions in memory or none. -/
namespace Go.Proofs.YtcjmceedkfjbeaaDoor
set_option linter.unusedVariables false
set_option maxRecDepth 20000
open Go.RowKit Go.HeapKit

theorem decV_small (zs : List Int) : (decV zs).2.length ≤ 32 ∧ ∀ f ∈ (decV zs).2, f.code.length ≤ 512 := by
  unfold decV
  split
  · simp
  · split
    · simp
    · split
      · simp
      · split
        · rename_i fs _ hck
          have hv := check_valid (check_zero hck)
          exact ⟨hv.2.1, fun f hf => (valid_bounds (hv.2.2 f hf)).2.2.2.2⟩
        · simp
/-- Functions in memory that was made from lo on; or none. -/
def AnsD (lo : Nat) (w : World) (xa : Option Addr) (k : Nat) (fs : List Fn) : Prop := (k = 0 ∧ fs = []) ∨ ∃ gb E, xa = some ⟨gb, 0, none⟩ ∧ DecM lo w gb k E fs
theorem AnsD.kept {lo : Nat} {w w' : World} {xa : Option Addr} {k : Nat} {fs : List Fn} {S : Nat → Prop} (h : AnsD lo w xa k fs) (hk : Keeps S w w') (hS : ∀ i, S i → i < lo) : AnsD lo w' xa k fs := by
  rcases h with h | ⟨gb, E, e, h⟩
  · exact .inl h
  · exact .inr ⟨gb, E, e, h.kept hk hS⟩
theorem AnsD.more {lo : Nat} {w w' : World} {xa : Option Addr} {k : Nat} {fs : List Fn} (h : AnsD lo w xa k fs) (hk : Keeps None w w') : AnsD lo w' xa k fs := h.kept hk (fun _ f => f.elim)
theorem AnsD.seen {lo : Nat} {w : World} {xa : Option Addr} {k : Nat} {fs : List Fn} (h : AnsD lo w xa k fs) : SeenF w xa k fs := by
  rcases h with ⟨rfl, rfl⟩ | ⟨gb, E, rfl, h⟩
  · exact seen_nil w xa
  · exact h.seen
theorem decode_un (a : Option Addr) (n c : Nat) (zs : List Int) (w : World) (hT : Tabs w) (hS : SeenW w a n zs) (hc : n ≤ c) (hcm : c ≤ maxLen) :
    Calls Tryd.prog 6 #[.slice a n c] w fun e w' => ∃ xa k xc, e = .returned (.tuple #[.agg #[.slice xa k xc], .int .i64 (decV zs).1]) ∧ AnsD w.heap.size w' xa k (decV zs).2 ∧ Keeps None w w' := by
  refine (decode_at a n c zs w hT hS hc hcm).mono ?_
  rintro e w' ⟨hk, ⟨h0, h1, rfl⟩ | ⟨h0, gb, m, E, rfl, hM⟩⟩
  · exact ⟨none, 0, 0, rfl, .inl ⟨rfl, h1⟩, hk⟩
  · exact ⟨_, m, m, by rw [h0], .inr ⟨gb, E, rfl, hM⟩, hk⟩
theorem rdecode_un (a : Option Addr) (n c : Nat) (zs : List Int) (w : World) (hS : SeenW w a n zs) (hc : n ≤ c) (hcm : c ≤ maxLen) (hr : n * 8 ≤ 140737488351232) :
    Calls Tryd.prog 11 #[.slice a n c] w fun e w' => ∃ xa k xc, e = .returned (.tuple #[.agg #[.slice xa k xc], .int .i64 (decV zs).1]) ∧ SeenF w' xa k (decV zs).2 ∧ Keeps None w w' := by
  refine (rdecode_any a n c zs w hS hc hcm hr).mono ?_
  rintro e w' ⟨hk, xa, k, xc, rfl, hs⟩
  exact ⟨xa, k, xc, rfl, hs, hk⟩
/-- Two such answers are one program. -/
theorem same_dec (xa ya : Option Addr) (k k' c c' : Nat) (zs : List Int) (w : World) (h1 : SeenF w xa k (decV zs).2) (h2 : SeenF w ya k' (decV zs).2) : k' = k ∧ Calls Tryd.prog 12 #[.agg #[.slice xa k c], .agg #[.slice ya k c']] w fun e w' => e = .returned (.bool true) ∧ Keeps None w w' := by
  have e1 := h1.len
  have e2 := h2.len
  have hs := decV_small zs
  have hk : k' = k := by omega
  subst hk
  exact ⟨rfl, same_wide xa _ c ya c' (decV zs).2 w h1 h2 (fun f hf => by have := hs.2 f hf; omega) (by omega)⟩
end Go.Proofs.YtcjmceedkfjbeaaDoor
