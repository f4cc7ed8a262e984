import Derived.Test.YtklepknkdkponaaDoorPfSound
import Derived.Test.YtklepknkdkponaaDoorPfGrow
/-! Rows of any function, sound or not. -/
namespace Go.Proofs.YtklepknkdkponaaDoor
set_option linter.unusedVariables false
set_option maxRecDepth 20000
open Go.RowKit Go.HeapKit

/-- Rows in memory; or none. -/
def AtM (w : World) (x : Option Addr) (N m : Nat) (M : Nat → Nat → Int) : Prop := N = 0 ∨ ∃ g, x = some ⟨g, 0, none⟩ ∧ IsM w g N m N M
/-- The blocks of rows. -/
def InM (x : Option Addr) (N q : Nat) : Prop := 0 < N ∧ ∃ g, x = some ⟨g, 0, none⟩ ∧ g ≤ q ∧ q ≤ g + N
theorem AtM.kept {w w' : World} {S : Nat → Prop} {x : Option Addr} {N m : Nat} {M : Nat → Nat → Int} (h : AtM w x N m M) (hk : Keeps S w w') (hS : ∀ q, InM x N q → ¬ S q) : AtM w' x N m M := by
  by_cases h0 : N = 0
  · exact .inl h0
  · rcases h with h | ⟨g, rfl, h⟩
    · exact .inl h
    · exact .inr ⟨g, rfl, h.kept hk (fun k hk => hS _ ⟨by omega, g, rfl, by omega, by omega⟩)⟩
theorem AtM.more {w w' : World} {x : Option Addr} {N m : Nat} {M : Nat → Nat → Int} (h : AtM w x N m M) (hk : Keeps None w w') : AtM w' x N m M := h.kept hk (fun _ _ f => f)
theorem AtM.lt {w : World} {x : Option Addr} {N m : Nat} {M : Nat → Nat → Int} (h : AtM w x N m M) {q : Nat} (hq : InM x N q) : q < w.heap.size := by
  obtain ⟨h0, g, rfl, h1, h2⟩ := hq
  rcases h with h | ⟨g', e, h⟩
  · omega
  · injection e with e
    injection e with e
    subst e
    have := blk_lt (h.rows (N - 1) (by omega))
    omega
theorem sameRows_zero (x y : Option Addr) (w : World) : Calls Tryd.prog 17 #[.slice x 0 0, .slice y 0 0] w fun e w' => e = .returned (.bool true) ∧ Keeps None w w' := by
  go_enter Tryd.func17, Tryd.ntmps17
  go_wp2_with fail
  go_loop [5] (fun s5 => s5 = .int .i64 0) (fun _ => 0)
  case atStart => rfl
  case round =>
    obtain rfl := hrel
    go_wp2_with fail
    go_ret
    exact ⟨rfl, Keeps.refl _ _⟩
theorem filled_zero (x : Option Addr) (mk : Int) (w : World) : Calls Tryd.prog 20 #[.slice x 0 0, .int .i64 mk] w fun e w' => e = .returned (.bool true) ∧ Keeps None w w' := by
  go_enter Tryd.func20, Tryd.ntmps20
  go_wp2_with fail
  go_loop [5] (fun s5 => s5 = .int .i64 0) (fun _ => 0)
  case atStart => rfl
  case round =>
    obtain rfl := hrel
    go_wp2_with fail
    go_ret
    exact ⟨rfl, Keeps.refl _ _⟩
theorem fill_zero (x : Option Addr) (mk : Int) (w : World) : Calls Tryd.prog 18 #[.slice x 0 0, .int .i64 mk] w fun e w' => e = .returned (.tuple #[]) ∧ w' = w := by
  go_enter Tryd.func18, Tryd.ntmps18
  go_wp2_with fail
  go_loop [4] (fun s4 => s4 = .int .i64 0) (fun _ => 0)
  case atStart => rfl
  case round =>
    obtain rfl := hrel
    go_wp2_with fail
    go_end0
    exact ⟨rfl, rfl⟩
theorem grow_zero (x : Option Addr) (w : World) : Calls Tryd.prog 19 #[.slice x 0 0] w fun e w' => e = .returned (.tuple #[]) ∧ Keeps None w w' := by
  go_enter Tryd.func19, Tryd.ntmps19
  go_wp2_with fail
  go_loop [2] (fun s2 => s2 = .int .i64 0) (fun _ => 0)
  case atStart => rfl
  case round =>
    obtain rfl := hrel
    go_wp2_with fail
    go_end0
    exact ⟨rfl, Keeps.refl _ _⟩
theorem sameRows_at (x y : Option Addr) (N m : Nat) (M : Nat → Nat → Int) (w : World) (hN : N ≤ 512) (hm : m ≤ 8) (h1 : AtM w x N m M) (h2 : AtM w y N m M) : Calls Tryd.prog 17 #[.slice x N N, .slice y N N] w fun e w' => e = .returned (.bool true) ∧ Keeps None w w' := by
  rcases h1 with rfl | ⟨g, rfl, h1⟩
  · exact sameRows_zero x y w
  · rcases h2 with rfl | ⟨g', rfl, h2⟩
    · exact sameRows_zero _ y w
    · exact sameRows_any g g' N m M w hN hm h1 h2
theorem filled_at (x : Option Addr) (N m : Nat) (mk : Int) (hmk : 0 ≤ mk ∧ mk ≤ 5000) (w : World) (hN : N ≤ 512) (hm : m ≤ 8) (h1 : AtM w x N m (markM mk)) : Calls Tryd.prog 20 #[.slice x N N, .int .i64 mk] w fun e w' => e = .returned (.bool true) ∧ Keeps None w w' := by
  rcases h1 with rfl | ⟨g, rfl, h1⟩
  · exact filled_zero x mk w
  · exact filled_any g N m mk hmk w hN hm h1
theorem fill_at (x : Option Addr) (N m : Nat) (mk : Int) (M : Nat → Nat → Int) (hmk : 0 ≤ mk ∧ mk ≤ 5000) (w : World) (hN : N ≤ 512) (hm : m ≤ 8) (h1 : AtM w x N m M) : Calls Tryd.prog 18 #[.slice x N N, .int .i64 mk] w fun e w' => e = .returned (.tuple #[]) ∧ AtM w' x N m (markM mk) ∧ Keeps (InM x N) w w' := by
  by_cases h0 : N = 0
  · subst h0
    refine (fill_zero x mk w).mono ?_
    rintro e w' ⟨rfl, rfl⟩
    exact ⟨rfl, .inl rfl, Keeps.refl _ _⟩
  · rcases h1 with h | ⟨g, rfl, h1⟩
    · exact absurd h h0
    · refine (fill_any g N m mk M hmk w hN hm h1).mono ?_
      rintro e w' ⟨rfl, hM, hk⟩
      exact ⟨rfl, .inr ⟨g, rfl, hM⟩, hk.mono (fun q e _ => ⟨by omega, g, rfl, e.1, e.2⟩)⟩
theorem grow_at (x : Option Addr) (N m : Nat) (M : Nat → Nat → Int) (w : World) (hN : N ≤ 512) (hm : m ≤ 8) (h1 : AtM w x N m M) : Calls Tryd.prog 19 #[.slice x N N] w fun e w' => e = .returned (.tuple #[]) ∧ Keeps None w w' := by
  rcases h1 with rfl | ⟨g, rfl, h1⟩
  · exact grow_zero x w
  · exact grow_any g N m M w hN hm h1
def rowsN (f : Fn) : Nat := if soundV f then f.code.length else 0
def slotsN (f : Fn) : Nat := if soundV f then f.slots.toNat else 0
def flowOf (f : Fn) : Nat → Nat → Int := fun k s => sumAt (searchV f s (0, 0)) k
theorem rows_few (f : Fn) : rowsN f ≤ 512 ∧ slotsN f ≤ 8 := by
  unfold rowsN slotsN
  by_cases h : soundV f = true
  · obtain ⟨hsh, hcf⟩ := sound_of h
    obtain ⟨_, _, hsl, hl1, hl2⟩ := shape_parts hsh
    rw [if_pos h, if_pos h]
    omega
  · rw [if_neg h, if_neg h]; omega
theorem flow_at (f : Fn) (ca : Option Addr) (cc : Nat) (w : World) (hT : Tabs w) (hC : SeenI w ca f.code.length f.code) (hok : ∀ i ∈ f.code, i.Ok) :
    Calls Tryd.prog 16 #[fnV f ca cc] w fun e w' => ∃ x, e = .returned (.slice x (rowsN f) (rowsN f)) ∧ AtM w' x (rowsN f) (slotsN f) (flowOf f) ∧ Keeps None w w' ∧ ∀ q, InM x (rowsN f) q → w.heap.size ≤ q := by
  by_cases h : soundV f = true
  · obtain ⟨hsh, hcf⟩ := sound_of h
    obtain ⟨_, _, hsl, hl1, hl2⟩ := shape_parts hsh
    refine (flow_ok f ca cc w hT hC hok h f.code.length f.slots.toNat rfl (by omega)).mono ?_
    rintro e w' ⟨g, rfl, hM, hk, hg⟩
    rw [rowsN, slotsN, if_pos h, if_pos h]
    exact ⟨_, rfl, .inr ⟨g, rfl, hM⟩, hk, fun q hq => by
      obtain ⟨_, g', e, h1, _⟩ := hq
      injection e with e
      injection e with e
      omega⟩
  · have h' : soundV f = false := by simpa using h
    refine (flow_bad f ca cc w hT hC hok h').mono ?_
    rintro e w' ⟨rfl, hk⟩
    rw [rowsN, slotsN, if_neg h, if_neg h]
    exact ⟨none, rfl, .inl rfl, hk, fun q hq => by have := hq.1; omega⟩
theorem rflow_at (f : Fn) (ca : Option Addr) (cc : Nat) (w : World) (hC : SeenI w ca f.code.length f.code) :
    Calls Tryd.prog 14 #[fnV f ca cc] w fun e w' => ∃ x, e = .returned (.slice x (rowsN f) (rowsN f)) ∧ AtM w' x (rowsN f) (slotsN f) (flowOf f) ∧ Keeps None w w' ∧ ∀ q, InM x (rowsN f) q → w.heap.size ≤ q := by
  by_cases h : soundV f = true
  · obtain ⟨hsh, hcf⟩ := sound_of h
    obtain ⟨_, _, hsl, hl1, hl2⟩ := shape_parts hsh
    refine (rflow_ok f ca cc w hC h f.code.length f.slots.toNat rfl (by omega)).mono ?_
    rintro e w' ⟨g, rfl, hM, hk, hg⟩
    rw [rowsN, slotsN, if_pos h, if_pos h]
    exact ⟨_, rfl, .inr ⟨g, rfl, hM⟩, hk, fun q hq => by
      obtain ⟨_, g', e, h1, _⟩ := hq
      injection e with e
      injection e with e
      omega⟩
  · have h' : soundV f = false := by simpa using h
    refine (rflow_bad f ca cc w hC h').mono ?_
    rintro e w' ⟨rfl, hk⟩
    rw [rowsN, slotsN, if_neg h, if_neg h]
    exact ⟨none, rfl, .inl rfl, hk, fun q hq => by have := hq.1; omega⟩
end Go.Proofs.YtklepknkdkponaaDoor
