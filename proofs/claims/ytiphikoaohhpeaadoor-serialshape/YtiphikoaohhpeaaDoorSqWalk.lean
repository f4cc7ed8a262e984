import Derived.Test.YtiphikoaohhpeaaDoorSqBase
import Derived.Deep.QuietTactic
import Derived.BigQuiet
import Derived.Deep.RegionHeld3
/-! SerialShape: 'spawns', 'shaped'. -/
namespace Go.Proofs.YtiphikoaohhpeaaDoor
set_option linter.unusedVariables false
set_option maxRecDepth 20000
open Go.RowKit Go.HeapKit Go.PlainOps

set_option maxHeartbeats 2000000 in
theorem spawns_any (a : Option Addr) (n c : Nat) (l : List Fn) (F : Nat) (g : Int) (w : World) (hS : SeenF w a n l) (fn : Fn) (hf : l[F]? = some fn) (j : Nat) (i : Ins) (hj : fn.code[j]? = some i) (h5 : i.kind = 5) (hg : i.b = g) (hm : fn.code.length ≤ 4611686018427387904) (hnb : n ≤ 4611686018427387904) :
    Calls Tryd.prog 8 #[.agg #[.slice a n c], .int .i64 (F : Int), .int .i64 g] w fun e w' => e = .returned (.bool true) ∧ Keeps None w w' := by
  have hF : F < n := by have := (List.getElem?_eq_some_iff.1 hf).1; have := hS.len; omega
  obtain ⟨b, off, f', ca, cc, rfl, hf', hat⟩ := hS.at hF
  have e' : f' = fn := by rw [hf] at hf'; exact (Option.some.inj hf').symm
  subst e'
  obtain ⟨B, hB⟩ : ∃ B, B = w.heap.size := ⟨_, rfl⟩
  have b1 := heap_alloc_new w (.cells #[.slice (some ⟨b, off, none⟩) n c] 24)
  have hk1 := Keeps.alloc None w (.cells #[.slice (some ⟨b, off, none⟩) n c] 24)
  obtain ⟨W, hW⟩ : ∃ W, W = w.alloc (.cells #[.slice (some ⟨b, off, none⟩) n c] 24) := ⟨_, rfl⟩
  rw [← hW, ← hB] at b1
  rw [← hW] at hk1
  have d0 : W.cell? ⟨B, 0, none⟩ = some (.slice (some ⟨b, off, none⟩) n c) := (blk_cell b1 0).trans rfl
  have hjm := (List.getElem?_eq_some_iff.1 hj).1
  obtain ⟨m, hme⟩ : ∃ m, m = f'.code.length := ⟨_, rfl⟩
  have c0 := hk1.cell hat.code (fun f => f)
  have hse := hat.seen.more hk1
  rw [← hme] at c0 hjm hm hse
  obtain ⟨cb, co, rfl, hcb, hins⟩ := hse.ex (by omega)
  have HC : Hid (Keeps None w W ∧ (∀ k i, f'.code[k]? = some i → InsAt W cb (co + k * 5) i) ∧ m = f'.code.length ∧ f'.code[j]? = some i) := ⟨hk1, hins, hme, hj⟩
  have HD : Hid (W.cell? ⟨B, 0, none⟩ = some (.slice (some ⟨b, off, none⟩) n c) ∧ W.cell? ⟨b, off + F * 4 + 3, none⟩ = some (.slice (some ⟨cb, co, none⟩) m cc)) := ⟨d0, c0⟩
  have i1 : ¬ ((F : Int) < 0) := by omega
  have i2 : ¬ ((n : Int) ≤ (F : Int)) := by omega
  have i3 : (F : Int) < (n : Int) := by omega
  have H5 : Hid (i.kind = 5 ∧ i.b = g) := ⟨h5, hg⟩
  clear hk1 hins hme hj hat hse b1 hf hf' hcb hS h5 hg
  go_enter Tryd.func8, Tryd.ntmps8
  go_upto_region 1 with fail
  rw [← hW, ← hB]
  clear hW hB
  go_wp2_with fail
  clear d0 c0
  go_loopw [7] (fun s7 wr => ∃ k : Nat, k ≤ j ∧ s7 = .int .i64 k ∧ Keeps None W wr) (fun i _ => m - (intOf i).toNat)
  case atStart => exact ⟨0, Nat.zero_le _, rfl, Keeps.refl _ _⟩
  case round =>
    obtain ⟨k, hk, rfl, hkp⟩ := hrel
    have d1 := hkp.cell HD.out.1 (fun f => f)
    have c1 := hkp.cell HD.out.2 (fun f => f)
    obtain ⟨x, hx⟩ : ∃ x, f'.code[k]? = some x := ⟨f'.code[k]'(by have := HC.out.2.2.1; omega), by simp⟩
    have hia := HC.out.2.1 k x hx
    have y0 := hkp.cell hia.kind (fun f => f)
    have y1 := hkp.cell hia.a (fun f => f)
    have y2 := hkp.cell hia.b (fun f => f)
    have y3 := hkp.cell hia.c (fun f => f)
    have y4 := hkp.cell hia.k (fun f => f)
    have i4 : (k : Int) < (m : Int) := by omega
    have HX : Hid (f'.code[k]? = some x ∧ Keeps None W wr) := ⟨hx, hkp⟩
    clear hx hkp hia
    go_upto_region 7 with fail
    have bG := heap_alloc_new wr (.cells #[.int .i64 x.kind, .int .i64 x.a, .int .i64 x.b, .int .i64 x.c, .int .i64 x.k] 55)
    have hal := Keeps.alloc None wr (.cells #[.int .i64 x.kind, .int .i64 x.a, .int .i64 x.b, .int .i64 x.c, .int .i64 x.k] 55)
    obtain ⟨U, hU⟩ : ∃ U, U = wr.alloc (.cells #[.int .i64 x.kind, .int .i64 x.a, .int .i64 x.b, .int .i64 x.c, .int .i64 x.k] 55) := ⟨_, rfl⟩
    obtain ⟨G, hG⟩ : ∃ G, G = wr.heap.size := ⟨_, rfl⟩
    rw [← hU] at hal bG
    rw [← hG] at bG
    rw [← hU, ← hG]
    have x0 : U.cell? ⟨G, 0, none⟩ = some (.int .i64 x.kind) := (blk_cell bG 0).trans rfl
    have x2 : U.cell? ⟨G, 2, none⟩ = some (.int .i64 x.b) := (blk_cell bG 2).trans rfl
    have HU : Hid (Keeps None W U) := HX.out.2.trans hal (fun _ f _ => f)
    clear hU hG bG hal d1 c1 y0 y1 y2 y3 y4
    by_cases hk5 : x.kind = 5
    · by_cases hbg : x.b = g
      · have q1 : (x.kind == 5) = true := by simpa using hk5
        have q2 : (x.b == g) = true := by simpa using hbg
        clear hk5 hbg
        go_wp2_with fail
        go_ret
        exact ⟨rfl, HC.out.1.trans HU.out (fun _ f _ => f)⟩
      · have q1 : (x.kind == 5) = true := by simpa using hk5
        have q2 : (x.b == g) = false := by simpa using hbg
        have hne : k ≠ j := fun e => by
          have h1 := HX.out.1
          rw [e, HC.out.2.2.2] at h1
          injection h1 with h1
          exact hbg (by rw [← h1]; exact H5.out.2)
        clear hk5 hbg
        go_wp2_with fail
        exact ⟨⟨k + 1, by omega, by simp, HU.out⟩, by simp [intOf]; omega⟩
    · have q1 : (x.kind == 5) = false := by simpa using hk5
      have hne : k ≠ j := fun e => by
        have h1 := HX.out.1
        rw [e, HC.out.2.2.2] at h1
        injection h1 with h1
        exact hk5 (by rw [← h1]; exact H5.out.1)
      clear hk5
      go_wp2_with fail
      exact ⟨⟨k + 1, by omega, by simp, HU.out⟩, by simp [intOf]; omega⟩
end Go.Proofs.YtiphikoaohhpeaaDoor
