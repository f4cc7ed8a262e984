import Derived.Test.YtheginjjncnheaaHrNext
/-! The document's search for an order: are all ended calls done? -/
namespace Go.Proofs.Ytheginjjncnheaa
set_option linter.unusedVariables false
set_option maxRecDepth 20000
set_option linter.unusedSimpArgs false
open Go.RowKit Go.HeapKit

/-- The cells of a state. -/
def stA (x : C4) (v : Value) : Array Value := #[.int .i64 x.a, .int .i64 x.b, .int .i64 x.c, .int .i64 x.d, v]
theorem stA_at (x : C4) (v : Value) {i : Nat} (hi : i < 4) : (stA x v)[i]? = some (.int .i64 (x.at i)) := by
  rcases i with _ | _ | _ | _ | i
  · rfl
  · rfl
  · rfl
  · rfl
  · omega
theorem InC.at {l : List Cl} {x : C4} (h : InC l x) (h40 : l.length ≤ 40) {i : Nat} (hi : i < 4) : x.at i ≤ 1000 := by
  have := h i hi
  have h2 : (ownL l i).length ≤ l.length := mineL_length _ _ _
  omega
set_option maxHeartbeats 2000000 in
theorem rover_ok (a : Option Addr) (n c : Nat) (l : List Cl) (x : C4) (va : Option Addr) (vn vc : Nat) (w : World) (hS : Seen w a n l) (h40 : n ≤ 40) (hh : histB l = true) (hx : InC l x) :
    Calls Try.prog 42 #[.slice a n c, .agg #[.int .i64 x.a, .int .i64 x.b, .int .i64 x.c, .int .i64 x.d, .slice va vn vc]] w fun e w' => e = .returned (.bool (thrB l x 4)) ∧ Keeps None w w' := by
  have hal := Keeps.alloc None w (.cells #[.int .i64 x.a, .int .i64 x.b, .int .i64 x.c, .int .i64 x.d, .slice va vn vc] 85)
  have bX := heap_alloc_new w (.cells #[.int .i64 x.a, .int .i64 x.b, .int .i64 x.c, .int .i64 x.d, .slice va vn vc] 85)
  obtain ⟨W, hW⟩ : ∃ W, W = w.alloc (.cells #[.int .i64 x.a, .int .i64 x.b, .int .i64 x.c, .int .i64 x.d, .slice va vn vc] 85) := ⟨_, rfl⟩
  obtain ⟨X, hX⟩ : ∃ X, X = w.heap.size := ⟨_, rfl⟩
  rw [← hW] at hal bX
  rw [← hX] at bX
  have HC : Hid (Seen W a n l ∧ Keeps None w W ∧ W.heap[X]? = some (.cells (stA x (.slice va vn vc)) 85 (0, 0)) ∧ InC l x ∧ histB l = true ∧ n = l.length) := ⟨hS.more hal, hal, bX, hx, hh, hS.len⟩
  obtain ⟨R, hRR⟩ : ∃ R, R = thrB l x 4 := ⟨_, rfl⟩
  have HR : Hid (R = thrB l x 4) := hRR
  rw [← hRR]
  clear hS hx hal bX hRR hh
  go_enter Try.func42, Try.ntmps42
  go_upto_region 1 with fail
  rw [← hW, ← hX]
  clear hW hX
  go_wp2_with fail
  go_loopw [5] (fun s5 wr => ∃ i : Nat, i ≤ 4 ∧ s5 = .int .i64 i ∧ thrB l x i = true ∧ Keeps None W wr) (fun i _ => 4 - (intOf i).toNat)
  case atStart => exact ⟨0, by omega, rfl, rfl, Keeps.refl _ _⟩
  case round =>
    obtain ⟨i, hi, rfl, ht, hkp⟩ := hrel
    by_cases hi4 : i < 4
    · have i1 : (i : Int) < 4 := by omega
      have c1 : wr.cell? ⟨X, i, none⟩ = some (.int .i64 (x.at i : Int)) := (blk_cell (blk_kept HC.out.2.2.1 hkp (fun f => f)) i).trans (stA_at _ _ hi4)
      have hnx := rnext_ok a n c l i (x.at i) wr (HC.out.1.more hkp) h40 (HC.out.2.2.2.1.at (by have := HC.out.2.2.2.2.2; omega) hi4)
      obtain ⟨J, hJ⟩ : ∃ J, J = nxI (nxt l x i) := ⟨_, rfl⟩
      have HNX : Hid (Calls Try.prog 49 #[.slice a n c, .int .i64 (i : Int), .int .i64 (x.at i : Int)] wr fun e w' => e = .returned (.int .i64 J) ∧ Keeps None wr w') := by rw [hJ]; exact hnx
      have HT : Hid (thrB l x i = true ∧ Keeps None W wr) := ⟨ht, hkp⟩
      clear hnx ht hkp
      generalize x.at i = xi at *
      cases hn : nxt l x i with
      | none =>
        rw [hn] at hJ
        have hJ2 : J = -1 := hJ
        subst hJ2
        have HF : Hid (thrB l x (i + 1) = true) := by unfold Hid; rw [thr_more, HT.out.1, thrI_none hn]; rfl
        clear hn hJ
        go_wp2_with (go_at_call 49; refine Calls.mono HNX.out ?_; rintro _ w4 ⟨rfl, hk4⟩; have H4 : Hid _ := hk4; clear hk4)
        exact ⟨⟨i + 1, by omega, by go_num, HF.out, HT.out.2.trans H4.out (fun _ f _ => f)⟩, by simp [intOf]; omega⟩
      | some j =>
        rw [hn] at hJ
        obtain ⟨q, rfl, hq, hqw⟩ := nxt_is hn
        have hJ2 : J = (q : Int) := hJ
        subst hJ2
        have hnl := HC.out.2.2.2.2.2
        obtain ⟨y, hy⟩ : ∃ y, l[q]? = some y := ⟨l[q], by simp⟩
        obtain ⟨bb, oo, rfl, _, _⟩ := HC.out.1.ex (by omega)
        have i2 : (q : Int) < (n : Int) := by omega
        have hen := (fits_ended (hist_fits HC.out.2.2.2.2.1 hy)).1
        have hf := thrI_some hn hy
        have HY : Hid (l[q]? = some y) := hy
        by_cases hy0 : y.code = 0
        · have HF : Hid (thrB l x (i + 1) = true) := by unfold Hid; rw [thr_more, HT.out.1, hf, decide_eq_true hy0]; rfl
          have hd : ¬ (0 : Int) ≤ y.fin := fun h => (hen.2 h) hy0
          clear hn hf hy0 hy hen hq hqw hnl hJ
          go_wp2_with (go_at_call 49; refine Calls.mono HNX.out ?_; rintro _ w4 ⟨rfl, hk4⟩; obtain ⟨bb', oo', e', hb', hcl⟩ := (HC.out.1.more (HT.out.2.trans hk4 (fun _ f _ => f))).ex (by omega); injection e' with e'; injection e' with e1 e2; subst e1 e2; obtain ⟨y0, y1, y2, y3, y4, y5, y6⟩ := hcl q y HY.out; have H4 : Hid _ := hk4; clear hk4 hcl hb')
          exact ⟨⟨i + 1, by omega, by go_num, HF.out, HT.out.2.trans H4.out (fun _ f _ => f)⟩, by simp [intOf]; omega⟩
        · have HF : Hid (R = false) := by rw [HR.out]; exact thr_not hi4 (by rw [hf]; exact decide_eq_false hy0)
          have hd : (0 : Int) ≤ y.fin := hen.1 hy0
          clear hn hf hy0 hy hen hq hqw hnl hJ
          go_wp2_with (go_at_call 49; refine Calls.mono HNX.out ?_; rintro _ w4 ⟨rfl, hk4⟩; obtain ⟨bb', oo', e', hb', hcl⟩ := (HC.out.1.more (HT.out.2.trans hk4 (fun _ f _ => f))).ex (by omega); injection e' with e'; injection e' with e1 e2; subst e1 e2; obtain ⟨y0, y1, y2, y3, y4, y5, y6⟩ := hcl q y HY.out; have H4 : Hid _ := hk4; clear hk4 hcl hb')
          go_ret
          exact ⟨by rw [HF.out]; rfl, (HC.out.2.1.trans HT.out.2 (fun _ f _ => f)).trans H4.out (fun _ f _ => f)⟩
    · have i1 : ¬ ((i : Int) < 4) := by omega
      have hi' : i = 4 := by omega
      subst hi'
      have HF : Hid (R = true ∧ Keeps None w wr) := ⟨HR.out.trans ht, HC.out.2.1.trans hkp (fun _ f _ => f)⟩
      clear ht hkp
      go_wp2_with fail
      go_ret
      exact ⟨by rw [HF.out.1]; rfl, HF.out.2⟩
end Go.Proofs.Ytheginjjncnheaa
