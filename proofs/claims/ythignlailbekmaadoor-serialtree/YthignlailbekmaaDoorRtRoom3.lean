import Derived.Test.YthignlailbekmaaDoorRtRoom2
/-! The marks behind a program's lists, looked up: the walk. -/
namespace Go.Proofs.YthignlailbekmaaDoor
set_option linter.unusedVariables false
set_option maxRecDepth 20000
open Go.RowKit Go.HeapKit

set_option maxHeartbeats 2000000 in
theorem room_any (a : Option Addr) (n c : Nat) (l : List Fn) (tv : List At) (w : World) (hR : Rm w l a c tv) (hn : n = l.length) (hr : n * 48 ≤ 140737488351232) (hrc : ∀ f ∈ l, f.code.length * 40 ≤ 140737488351232) :
    Calls Tryd.prog 14 #[.agg #[.slice a n c]] w fun e w' => e = .returned (.bool true) ∧ Keeps None w w' := by
  obtain ⟨g, rfl, hg, hnc, hmk, hat⟩ := hR.at
  rw [← hn] at hnc hmk
  have HC : Hid (n = l.length ∧ (∀ f ∈ l, f.code.length * 40 ≤ 140737488351232) ∧ ∀ i f, l[i]? = some f → ∃ b cc, FnAt w g (i * 4) f (some ⟨b, 0, none⟩) cc ∧ f.code.length + 1 ≤ cc ∧ w.cell? ⟨b, f.code.length * 5, none⟩ = some (.int .i64 (-77))) := ⟨hn, hrc, hat⟩
  obtain ⟨B, hB⟩ : ∃ B, B = w.heap.size := ⟨_, rfl⟩
  have hal := Keeps.alloc None w (.cells #[.slice (some ⟨g, 0, none⟩) n c] 24)
  have p1 := heap_alloc_new w (.cells #[.slice (some ⟨g, 0, none⟩) n c] 24)
  rw [← hB] at p1
  obtain ⟨W, hW⟩ : ∃ W, W = w.alloc (.cells #[.slice (some ⟨g, 0, none⟩) n c] 24) := ⟨_, rfl⟩
  rw [← hW] at hal p1
  have d0 : W.cell? ⟨B, 0, none⟩ = some (.slice (some ⟨g, 0, none⟩) n c) := (blk_cell p1 0).trans rfl
  have m0 := hal.cell hmk (fun f => f)
  have HW : Hid (Keeps None w W ∧ W.heap[B]? = some (.cells #[.slice (some ⟨g, 0, none⟩) n c] 24 (0, 0))) := ⟨hal, p1⟩
  have hnb : (n : Int) ≤ 4611686018427387904 := by omega
  have i0 : (n : Int) + 1 ≤ (c : Int) := by omega
  have i2 : (n : Int) < (n : Int) + 1 := by omega
  have c0 : ¬ c = 0 := by omega
  clear hR hat hal p1 hrc hg hmk hn
  go_enter Tryd.func14, Tryd.ntmps14
  go_upto_region 1 with fail
  rw [← hW, ← hB]
  clear hW hB
  go_upto_region 3 with fail
  go_wp2_with fail
  go_loopw [4, 5] (fun s4 s5 wr => ∃ k : Nat, k ≤ n ∧ s4 = .bool true ∧ s5 = .int .i64 k ∧ Keeps None w wr ∧ wr.heap[B]? = some (.cells #[.slice (some ⟨g, 0, none⟩) n c] 24 (0, 0))) (fun _ i _ => n - (intOf i).toNat)
  case atStart => exact ⟨0, Nat.zero_le _, rfl, rfl, HW.out.1, HW.out.2⟩
  case round =>
    obtain ⟨k, hk, rfl, rfl, hkp, hbx⟩ := hrel
    have e0 : wr.cell? ⟨B, 0, none⟩ = some (.slice (some ⟨g, 0, none⟩) n c) := (cell_of_heap hbx 0).trans rfl
    have HK : Hid (Keeps None w wr ∧ wr.heap[B]? = some (.cells #[.slice (some ⟨g, 0, none⟩) n c] 24 (0, 0))) := ⟨hkp, hbx⟩
    by_cases hkn : k < n
    · obtain ⟨f, hf⟩ : ∃ f, l[k]? = some f := ⟨l[k]'(by have := HC.out.1; omega), by simp⟩
      obtain ⟨b, cc, hfn, hcc, hmk⟩ := HC.out.2.2 k f hf
      have hrf := HC.out.2.1 f (List.mem_of_getElem? hf)
      have y3 := hkp.cell hfn.code (fun f => f)
      have ym := hkp.cell hmk (fun f => f)
      generalize f.code.length = m at y3 ym hcc hrf
      have i1 : (k : Int) < (n : Int) := by omega
      have i3 : (m : Int) + 1 ≤ (cc : Int) := by omega
      have i4 : (m : Int) < (m : Int) + 1 := by omega
      have c1 : ¬ cc = 0 := by omega
      have hmb : (m : Int) ≤ 4611686018427387904 := by omega
      clear hkp hbx hf hfn hmk d0 m0 i0 i2 c0
      go_wp2_with fail
      exact ⟨⟨k + 1, by omega, rfl, by simp, HK.out.1, HK.out.2⟩, by simp [intOf]; omega⟩
    · have hkn2 : k = n := by omega
      subst hkn2
      have i1 : ¬ (k : Int) < (k : Int) := by omega
      clear hkp hbx
      go_wp2_with fail
      go_ret
      exact ⟨rfl, HK.out.1⟩
end Go.Proofs.YthignlailbekmaaDoor
