import Derived.Test.YtcjmceedkfjbeaaDoorPgDec
/-! Decode of words with a wrong sum. -/
namespace Go.Proofs.YtcjmceedkfjbeaaDoor
set_option linter.unusedVariables false
set_option maxRecDepth 20000
open Go.RowKit Go.HeapKit

theorem SeenW.take {w : World} {a : Option Addr} {n : Nat} {zs : List Int} (h : SeenW w a n zs) (k : Nat) (hk : k ≤ n) : SeenW w a k (zs.take k) := by
  have hl := h.len
  have hm := h.most
  refine ⟨by simp; omega, by omega, fun x hx => h.ok x (List.mem_of_mem_take hx), fun h0 => ?_⟩
  obtain ⟨b, off, rfl, hb, hc⟩ := h.ex (by omega)
  refine ⟨b, off, rfl, hb, fun j x hx => hc j x ?_⟩
  rw [List.getElem?_take] at hx
  split at hx
  · exact hx
  · cases hx
set_option maxHeartbeats 1000000 in
theorem read_bad (a : Option Addr) (n c : Nat) (zs : List Int) (w : World) (hS : SeenW w a n zs) (hn : 3 ≤ n) (hc : n ≤ c) (x : Int) (hx : zs[n - 1]? = some x) (hb : ¬ x = sumV (zs.take (n - 1))) :
    Calls Tryd.prog 21 #[.slice a n c] w fun e w' => e = .panicked (thrown 58 0 0) ∧ Keeps None w w' := by
  obtain ⟨b, off, rfl, hlt, hcell⟩ := hS.ex (by omega)
  obtain ⟨m, rfl⟩ : ∃ m, n = m + 1 := ⟨n - 1, by omega⟩
  simp only [Nat.add_sub_cancel] at hx hb
  have hal := Keeps.alloc None w (.cells #[.slice none 0 0] 25)
  have y := hal.cell (hcell m x hx) (fun f => f)
  have hsm := fun wx (hk : Keeps None w wx) => sum_any (some ⟨b, off, none⟩) m c (zs.take m) wx ((hS.more hk).take m (by omega))
  obtain ⟨s, hs⟩ : ∃ s, s = sumV (zs.take m) := ⟨_, rfl⟩
  rw [← hs] at hsm hb
  have hb' : (x != s) = true := by simpa using hb
  have hmost := hS.most
  have i1 : (3 : Int) ≤ ((m + 1 : Nat) : Int) := by omega
  have i2 : wrap64 (((m + 1 : Nat) : Int) - 1) = (m : Int) := by unfold wrap64; omega
  have i3 : (m : Int) < ((m + 1 : Nat) : Int) := by omega
  have i4 : (m : Int) ≤ (c : Int) := by omega
  have i5 : (0 : Int) ≤ (m : Int) := by omega
  have HH : Hid (Keeps None w (w.alloc (.cells #[.slice none 0 0] 25))) := hal
  have HSM : Hid _ := hsm
  clear hS hcell hx hs hal hsm
  go_enter Tryd.func21, Tryd.ntmps21
  go_upto_region 4 with fail
  go_quiet ((go_at_call 26; exact Calls.quiet_of_same (HSM.out _ (HH.out.trans (Keeps.drewN None _ _) (fun _ f _ => f)))))
  go_wp2_with (go_at_call 35; refine (giveUp_any _ _ _ _).mono ?_; rintro e w' ⟨rfl, hw⟩; have hw2 := hw.symm; subst hw2)
  exact ⟨rfl, rfl, HH.out.trans (Keeps.drewN None _ _) (fun _ f _ => f)⟩
theorem decode_bad (a : Option Addr) (n c : Nat) (zs : List Int) (w : World) (hS : SeenW w a n zs) (hn : 3 ≤ n) (hc : n ≤ c) (x : Int) (hx : zs[n - 1]? = some x) (hb : ¬ x = sumV (zs.take (n - 1))) :
    Calls Tryd.prog 6 #[.slice a n c] w fun e w' => e = .returned (.tuple #[.agg #[.slice none 0 0], .int .i64 58]) ∧ Keeps None w w' := by
  have hmf : ∀ (fn : Go.Fn) (first cap : Array Value) (w : World), (Instr.makeFunc fn first cap).run Tryd.prog w = .ok (.func fn first cap) w := fun _ _ _ _ => rfl
  obtain ⟨b1, b2⟩ := two_boxes w #[.slice none 0 0] #[.int .i64 0] 25 26
  have hk2 := keeps2 w (.cells #[.slice none 0 0] 25) (.cells #[.int .i64 0] 26)
  have hrd := read_bad a n c zs _ (hS.more hk2) hn hc x hx hb
  have HO : Hid (IsOut ((w.alloc (.cells #[.slice none 0 0] 25)).alloc (.cells #[.int .i64 0] 26)) w.heap.size (w.heap.size + 1) (.slice none 0 0) 0 ∧ Keeps None w ((w.alloc (.cells #[.slice none 0 0] 25)).alloc (.cells #[.int .i64 0] 26))) := ⟨⟨b1, b2⟩, hk2⟩
  clear b1 b2 hk2 hS hx hb
  go_enter_defers Tryd.func6, Tryd.ntmps6
  go_wp2_with (go_at_call 21; refine hrd.mono ?_; rintro _ w3 ⟨rfl, hk3⟩)
  exact dout_panic rfl rfl (HO.out.1.kept hk3) rfl (fun w' hk => ⟨rfl, (HO.out.2.trans hk3 (fun _ f _ => f)).trans hk (fun i e hi => by omega)⟩)
end Go.Proofs.YtcjmceedkfjbeaaDoor
