import Derived.Test.YtklepknkdkponaaDoorPtTrail
import Derived.Test.YtklepknkdkponaaDoorPfRows
import Derived.Laws.Cover3
/-! The document's Trails. -/
namespace Go.Proofs.YtklepknkdkponaaDoor
set_option linter.unusedVariables false
set_option maxRecDepth 20000
open Go.RowKit Go.HeapKit

theorem isNil (a : Option Addr) (n c : Nat) (w : World) : (binOp .eql 37 (.slice a n c) (.slice none 0 0)).run Tryd.prog w = .ok (.bool a.isNone) w := by
  simp only [binOp]
  simp [run_equal_slice_nil w 37 50 a n c Tryd.underlying37]
theorem nilYes (w : World) : (binOp .eql 37 (.slice none 0 0) (.slice none 0 0)).run Tryd.prog w = .ok (.bool true) w := isNil none 0 0 w
theorem nilNo (p : Addr) (n c : Nat) (w : World) : (binOp .eql 37 (.slice (some p) n c) (.slice none 0 0)).run Tryd.prog w = .ok (.bool false) w := isNil (some p) n c w
set_option maxHeartbeats 2000000 in
theorem rtrails_arg (f : Fn) (ca : Option Addr) (n cc : Nat) (t s q : Int) (x : Option Addr) (cap : Nat) (w : World) (hn : n = f.code.length) (hC : SeenI w ca n f.code) (hb : argOk f t s q = false) :
    Calls Tryd.prog 25 #[.agg #[.int .i64 f.params, .int .i64 f.regs, .int .i64 f.slots, .slice ca n cc], .int .i64 t, .int .i64 s, .int .i64 q, .slice x 0 cap, .int .i64 3] w fun e w' => e = .returned (.bool true) ∧ Keeps None w w' := by
  have hal := Keeps.alloc None w (.cells #[.int .i64 f.params, .int .i64 f.regs, .int .i64 f.slots, .slice ca n cc] 36)
  have b1 := heap_alloc_new w (.cells #[.int .i64 f.params, .int .i64 f.regs, .int .i64 f.slots, .slice ca n cc] 36)
  have hbad := fun h => rflow_bad f ca cc _ (by rw [← hn]; exact hC.more hal) h
  have hgood := fun h (m : Nat) (hm : (m : Int) = f.slots) => rflow_ok f ca cc _ (by rw [← hn]; exact hC.more hal) h n m hn hm
  obtain ⟨wa, hwa⟩ : ∃ wa, wa = w.alloc (.cells #[.int .i64 f.params, .int .i64 f.regs, .int .i64 f.slots, .slice ca n cc] 36) := ⟨_, rfl⟩
  obtain ⟨B, hB⟩ : ∃ B, B = w.heap.size := ⟨_, rfl⟩
  have ny := nilYes
  have nn := nilNo
  unfold fnV at hbad hgood
  rw [← hn] at hbad hgood
  rw [← hwa] at hal b1 hbad hgood
  rw [← hB] at b1
  have HA : Hid (Keeps None w wa) := hal
  have d0 : wa.cell? ⟨B, 0, none⟩ = some (.int .i64 f.params) := (cell_of_heap b1 0).trans rfl
  have d1 : wa.cell? ⟨B, 1, none⟩ = some (.int .i64 f.regs) := (cell_of_heap b1 1).trans rfl
  have d2 : wa.cell? ⟨B, 2, none⟩ = some (.int .i64 f.slots) := (cell_of_heap b1 2).trans rfl
  have d3 : wa.cell? ⟨B, 3, none⟩ = some (.slice ca n cc) := (cell_of_heap b1 3).trans rfl
  unfold argOk at hb
  rw [← hn] at hb
  clear hal b1 hC hn
  by_cases hso : soundV f = true
  · obtain ⟨hsh, hcf⟩ := sound_of hso
    obtain ⟨_, _, hsl, hl1, hl2⟩ := shape_parts hsh
    have hrf := hgood hso f.slots.toNat (by omega)
    rw [hso] at hb
    clear hbad hgood hso hsh hcf hsl hl1 hl2
    go_enter Tryd.func25, Tryd.ntmps25
    go_upto_region 1 with fail
    rw [← hwa, ← hB]
    clear hwa hB
    go_wp2_with fail
    refine hrf.mono ?_
    rintro e w3 ⟨g, rfl, hM, hk3, -⟩
    have HK : Hid (Keeps None w w3) := HA.out.trans hk3 (fun _ f _ => f)
    replace d2 := hk3.cell d2 (fun f => f)
    replace d3 := hk3.cell d3 (fun f => f)
    clear hM hk3 hrf d0 d1
    by_cases e1 : belowV t n = true
    · by_cases e2 : belowV s f.slots = true
      · have hq : ¬ (q = 1 ∨ q = 2 ∨ q = 4) := by
          rw [e1, e2] at hb
          simpa using hb
        have q1 : (q != 1) = true := by simp; omega
        have q2 : (q != 2) = true := by simp; omega
        have q4 : (q != 4) = true := by simp; omega
        clear hq hb
        go_wp2_with (go_at_call 58; refine (rbelow_any _ _ _).mono ?_; rintro _ w2' ⟨rfl, hw2⟩; have h2 := hw2.symm; subst h2)
        go_ret
        exact ⟨rfl, HK.out⟩
      · have e2' : belowV s f.slots = false := by simpa using e2
        clear e2 hb
        go_wp2_with (go_at_call 58; refine (rbelow_any _ _ _).mono ?_; rintro _ w2' ⟨rfl, hw2⟩; have h2 := hw2.symm; subst h2)
        go_ret
        exact ⟨rfl, HK.out⟩
    · have e1' : belowV t n = false := by simpa using e1
      clear e1 hb
      go_wp2_with (go_at_call 58; refine (rbelow_any _ _ _).mono ?_; rintro _ w2' ⟨rfl, hw2⟩; have h2 := hw2.symm; subst h2)
      go_ret
      exact ⟨rfl, HK.out⟩
  · have hrf := hbad (by simpa using hso)
    clear hbad hgood hso hb
    go_enter Tryd.func25, Tryd.ntmps25
    go_upto_region 1 with fail
    rw [← hwa, ← hB]
    clear hwa hB
    go_wp2_with fail
    refine hrf.mono ?_
    rintro e w3 ⟨rfl, hk3⟩
    have HK : Hid (Keeps None w w3) := HA.out.trans hk3 (fun _ f _ => f)
    clear hk3 hrf
    go_wp2_with fail
    go_ret
    exact ⟨rfl, HK.out⟩
/-- What stands behind the arguments' check. -/
structure Tr (f : Fn) (w W : World) (ca : Option Addr) (n cc B : Nat) : Prop where
  keep : Keeps None w W
  box : W.heap[B]? = some (.cells #[.int .i64 f.params, .int .i64 f.regs, .int .i64 f.slots, .slice ca n cc] 36 (0, 0))
theorem Tr.more {f : Fn} {w W W' : World} {ca : Option Addr} {n cc B : Nat} (h : Tr f w W ca n cc B) (hk : Keeps None W W') : Tr f w W' ca n cc B := ⟨h.keep.trans hk (fun _ f _ => f), blk_kept h.box hk (fun f => f)⟩
/-- The step of a path. -/
theorem fore_step {f : Fn} {s t q : Nat} {Q : List Pt} (h : Fore f s ((t : Int), (q : Int)) Q) {k : Nat} (hk : k + 1 < Q.length) :
    ∃ (a : Nat) (x : Ins), (Q.getD k (0, 0)).1 = a ∧ f.code[a]? = some x ∧ (Q.getD (k + 1) (0, 0)).1 ∈ exitsV a x ∧ (Q.getD (k + 1) (0, 0)).2 = afterV x s (Q.getD k (0, 0)).2 := by
  have h1 : Q[k]? = some (Q[k]'(by omega)) := List.getElem?_eq_getElem _
  have h2 : Q[k + 1]? = some (Q[k + 1]'hk) := List.getElem?_eq_getElem _
  obtain ⟨x, hx, hm, ha⟩ := h.step k _ _ h1 h2
  have hp := h.ok _ (List.getElem_mem (by omega : k < Q.length))
  have e1 : Q.getD k (0, 0) = Q[k]'(by omega) := by rw [List.getD_eq_getElem?_getD, h1]; rfl
  have e2 : Q.getD (k + 1) (0, 0) = Q[k + 1]'hk := by rw [List.getD_eq_getElem?_getD, h2]; rfl
  obtain ⟨a, hae⟩ := Int.eq_ofNat_of_zero_le (show 0 ≤ (Q[k]'(by omega)).1 from hp.a0)
  rw [e1, e2]
  rw [hae] at hx hm
  exact ⟨a, x, hae, hx, hm, ha⟩
theorem mem_take_step {L : List Int} {j : Nat} {y b : Int} (hy : L[j]? = some y) : decide (b ∈ L.take (j + 1)) = (decide (b ∈ L.take j) || (y == b)) := by
  rw [List.take_add_one, hy]
  by_cases h1 : b ∈ L.take j
  · simp [h1]
  · by_cases h2 : y = b
    · simp [h2]
    · simp [h1, h2, Ne.symm h2]

end Go.Proofs.YtklepknkdkponaaDoor
