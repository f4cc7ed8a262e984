import Derived.Test.YtbdpdojeaahpjaaGreatDoorPkAZ
import Derived.Test.YtbdpdojeaahpjaaGreatDoorPkBB
import Derived.Test.YtbdpdojeaahpjaaGreatDoorPkBE
/-! The document's 'Refused'. -/
namespace Go.Proofs.YtbdpdojeaahpjaaGreatDoor
set_option linter.unusedVariables false
set_option maxRecDepth 20000
set_option linter.unusedSimpArgs false
open Go.RowKit Go.HeapKit Go.PlainOps

set_option maxHeartbeats 2000000 in
theorem rref_any (a : Option Addr) (n c : Nat) (l : List Fn) (aa : Option Addr) (an ac : Nat) (zs : List Int) (fuel : Int) (w : World) (hS : SeenF w a n l) (hok : ∀ f ∈ l, f.Ok) (hZ : an = zs.length) (hZ2 : an ≤ 9223372036854775807) (hfu : okI fuel) :
    Calls Tryz.prog 35 #[.agg #[.slice a n c], .slice aa an ac, .int .i64 fuel] w fun e w' => e = .returned (.int .i64 (refusedV l zs fuel)) ∧ Keeps None w w' := by
  have bP := heap_alloc_new w (.cells #[.slice a n c] 24)
  have hal := Keeps.alloc None w (.cells #[.slice a n c] 24)
  obtain ⟨W, hW⟩ : ∃ W, W = w.alloc (.cells #[.slice a n c] 24) := ⟨_, rfl⟩
  obtain ⟨B, hB⟩ : ∃ B, B = w.heap.size := ⟨_, rfl⟩
  rw [← hW] at bP hal
  rw [← hB] at bP
  have c0 : W.cell? ⟨B, 0, none⟩ = some (.slice a n c) := (blk_cell bP 0).trans rfl
  have hck := rcheck_any a n c l W (hS.more hal) hok
  unfold checkF faultV at hck
  have HX : Hid (Keeps None w W ∧ W.heap[B]? = some (.cells #[.slice a n c] 24 (0, 0)) ∧ SeenF w a n l) := ⟨hal, bP, hS⟩
  have HH : Hid ((checkV l).1 = 0 → ∃ np b off, parV l 0 = ((np : Nat) : Int) ∧ a = some ⟨b, off, none⟩ ∧ w.cell? ⟨b, off, none⟩ = some (.int .i64 (np : Int)) ∧ 0 < n) := by
    intro h1
    have hcz := check_zero h1
    obtain ⟨hl1, hl2, hall⟩ := check_valid hcz
    obtain ⟨f, hf⟩ : ∃ f, l[0]? = some f := ⟨l[0], by simp⟩
    have hpar : parV l 0 = f.params := by simp [parV, hf]
    have hV := hall f (List.mem_of_getElem? hf)
    obtain ⟨np, hnp⟩ := Int.eq_ofNat_of_zero_le (valid_bounds hV).1.1
    have hln := hS.len
    obtain ⟨b, off, rfl, hb, hfn⟩ := hS.ex (by omega)
    obtain ⟨ca, cc, hat⟩ := hfn 0 f hf
    exact ⟨np, b, off, by rw [hpar, hnp], rfl, by rw [← hnp]; simpa using hat.params, by omega⟩
  obtain ⟨x1, hx1⟩ : ∃ x, x = (checkV l).1 := ⟨_, rfl⟩
  obtain ⟨x2, hx2⟩ : ∃ x, x = (checkV l).2.1 := ⟨_, rfl⟩
  obtain ⟨x3, hx3⟩ : ∃ x, x = (checkV l).2.2 := ⟨_, rfl⟩
  rw [← hx1, ← hx2, ← hx3] at hck
  have HE : Hid (refusedV l zs fuel = if x1 ≠ 0 then 60 else if ((an : Int)) ≠ parV l 0 then 61 else if fuel < 0 ∨ 4194304 < fuel then 3 else 0) := by
    unfold Hid refusedV
    rw [hx1, hZ]
  have HX1 : Hid _ := hx1
  clear hS hal bP hok hZ hx1 hx2 hx3
  go_enter Tryz.func35, Tryz.ntmps35
  go_upto_region 1 with fail
  rw [← hW, ← hB]
  clear hW hB
  go_upto_region 2 with (go_at_call 46; refine hck.mono ?_; rintro _ w3 ⟨rfl, hk3⟩)
  have kA := Keeps.alloc None w3 (.cells #[.int .i64 x1, .int .i64 x2, .int .i64 x3] 83)
  have bF := heap_alloc_new w3 (.cells #[.int .i64 x1, .int .i64 x2, .int .i64 x3] 83)
  obtain ⟨V, hV⟩ : ∃ V, V = w3.alloc (.cells #[.int .i64 x1, .int .i64 x2, .int .i64 x3] 83) := ⟨_, rfl⟩
  obtain ⟨G, hG⟩ : ∃ G, G = w3.heap.size := ⟨_, rfl⟩
  rw [← hV] at kA bF
  rw [← hG] at bF
  rw [← hV, ← hG]
  have y0 : V.cell? ⟨G, 0, none⟩ = some (.int .i64 x1) := (blk_cell bF 0).trans rfl
  have k3 := hk3.trans kA (fun _ f _ => f)
  have d0 := k3.cell c0 (fun f => f)
  have HK : Hid (Keeps None w V) := HX.out.1.trans k3 (fun _ f _ => f)
  clear hV hG kA bF hk3 k3 hck c0
  by_cases h1 : x1 = 0
  · obtain ⟨np, b, off, hpar, hab, p0, hn0⟩ := HH.out (by rw [← HX1.out]; exact h1)
    subst hab
    have p1 := HK.out.cell p0 (fun f => f)
    have i1 : (0 : Int) < (n : Int) := by omega
    have q1 : (x1 != 0) = false := by simp [h1]
    by_cases h2 : (an : Int) = (np : Int)
    · have q2 : ((an : Int) != (np : Int)) = false := by simpa using h2
      have hre : refusedV l zs fuel = if fuel < 0 ∨ 4194304 < fuel then 3 else 0 := by rw [HE.out, if_neg (by simpa using h1), if_neg (by rw [hpar]; simpa using h2)]
      by_cases h3 : fuel < 0
      · rw [if_pos (.inl h3)] at hre
        have HF : Hid _ := hre
        clear h1 h2 hre hpar
        go_wp2_with fail
        go_ret
        exact ⟨by rw [HF.out]; rfl, HK.out⟩
      · by_cases h4 : 4194304 < fuel
        · rw [if_pos (.inr h4)] at hre
          have HF : Hid _ := hre
          clear h1 h2 hre hpar
          go_wp2_with fail
          go_ret
          exact ⟨by rw [HF.out]; rfl, HK.out⟩
        · rw [if_neg (by omega)] at hre
          have HF : Hid _ := hre
          clear h1 h2 hre hpar
          go_wp2_with fail
          go_ret
          exact ⟨by rw [HF.out]; rfl, HK.out⟩
    · have q2 : ((an : Int) != (np : Int)) = true := by simpa using h2
      have hre : refusedV l zs fuel = 61 := by rw [HE.out, if_neg (by simpa using h1), if_pos (by rw [hpar]; simpa using h2)]
      have HF : Hid _ := hre
      clear h1 h2 hre hpar
      go_wp2_with fail
      go_ret
      exact ⟨by rw [HF.out]; rfl, HK.out⟩
  · have q1 : (x1 != 0) = true := by simpa using h1
    have hre : refusedV l zs fuel = 60 := by rw [HE.out, if_pos (by simpa using h1)]
    have HF : Hid _ := hre
    clear h1 hre
    go_wp2_with fail
    go_ret
    exact ⟨by rw [HF.out]; rfl, HK.out⟩
end Go.Proofs.YtbdpdojeaahpjaaGreatDoor
