import Derived.Test.YtheginjjncnheaaHrFree
import Derived.Test.YtheginjjncnheaaHoMeet
/-! The document's search for an order: rows of states; is a state known? -/
namespace Go.Proofs.Ytheginjjncnheaa
set_option linter.unusedVariables false
set_option maxRecDepth 20000
set_option linter.unusedSimpArgs false
open Go.RowKit Go.HeapKit

def stR (t : St) : List Value := [.int .i64 t.1.a, .int .i64 t.1.b, .int .i64 t.1.c, .int .i64 t.1.d, t.2.1]
theorem Try.infoStR : (Try.prog.info? 85).map (fun i => (i.zero, i.size, i.bytes)) = some (some (.agg #[.int .i64 0, .int .i64 0, .int .i64 0, .int .i64 0, .slice none 0 0]), 5, 56) := by kernel_rfl
theorem Try.underR : Try.prog.underlying 61 = some (.array 4 3) := by kernel_rfl
theorem eqR (x y : C4) (w : World) : (Op.equal 61 (.agg x.arr) (.agg y.arr)).run Try.prog w = .ok (decide (x = y)) w := by
  obtain ⟨a, b, c, d⟩ := x
  obtain ⟨a', b', c', d'⟩ := y
  unfold Op.equal
  rw [show Op.maxDepth = 9998 + 1 + 1 from rfl]
  unfold Op.equalIn
  simp [run_underlying Try.underR, C4.arr]
  rw [show List.range' 0 4 = [0, 1, 2, 3] from rfl]
  simp only [List.forIn_cons, List.forIn_nil]
  by_cases h0 : a = a'
  · subst h0
    by_cases h1 : b = b'
    · subst h1
      by_cases h2 : c = c'
      · subst h2
        by_cases h3 : d = d'
        · subst h3
          simp [part, eqI4 _ _ 9998]
        · simp [part, eqI4 _ _ 9998, h3]
          omega
      · simp [part, eqI4 _ _ 9998, h2]
        omega
    · simp [part, eqI4 _ _ 9998, h1]
      omega
  · simp [part, eqI4 _ _ 9998, h0]
    omega
theorem flat5_len (T : List St) : (T.flatMap stR).length = T.length * 5 := by
  induction T with
  | nil => rfl
  | cons y T ih =>
    have e : (y :: T).flatMap stR = stR y ++ T.flatMap stR := by simp
    have hl : (stR y).length = 5 := rfl
    rw [e, List.length_append, ih, hl, List.length_cons]
    omega
theorem flat5_at (T : List St) (k : Nat) (t : St) (ht : T[k]? = some t) (j : Nat) (hj : j < 5) : (T.flatMap stR)[k * 5 + j]? = (stR t)[j]? := by
  induction T generalizing k with
  | nil => simp at ht
  | cons y T ih =>
    have e : (y :: T).flatMap stR = stR y ++ T.flatMap stR := by simp
    have hl : (stR y).length = 5 := rfl
    rw [e]
    cases k with
    | zero =>
      simp at ht
      subst ht
      rw [List.getElem?_append_left (by omega), Nat.zero_mul, Nat.zero_add]
    | succ k =>
      rw [List.getElem?_append_right (by omega), show (k + 1) * 5 + j - (stR y).length = k * 5 + j by omega]
      exact ih k (by simpa using ht)
/-- A list of states. -/
structure Sts (w : World) (base : Nat) (sv : Value) (T : List St) : Prop where
  row : w.ownsRow base 85 5 sv T.length (T.flatMap stR)
  held : ∀ t ∈ T, Held w t.2.1 t.2.2
def toM (T : List (C4 × List Int)) : List (C4 × Int) := T.map (fun t => (t.1, 0))
theorem Sts.shape {w : World} {base : Nat} {sv : Value} {T : List St} (h : Sts w base sv T) : ∃ sa sc, sv = .slice sa T.length sc := by
  obtain ⟨sa, sc, e⟩ := row_shape h.row
  exact ⟨sa, sc, e⟩
theorem Sts.kept {w w' : World} {base : Nat} {sv : Value} {T : List St} {S : Nat → Prop} (h : Sts w base sv T) (hk : Keeps S w w') (hS : ∀ k cur, w.heap[k]? = some (.cells cur 85 (0, 0)) → sv.ownBlock = some k → ¬ S k) (hI : ∀ k cur, w.heap[k]? = some (.cells cur 2 (0, 0)) → ¬ S k) : Sts w' base sv T :=
  ⟨row_kept h.row hk (fun g e => by obtain ⟨cur, hc⟩ := own_block h.row e; exact hS g cur hc e), fun t ht => (h.held t ht).kept hk (fun g e => by obtain ⟨cur, hc⟩ := held_blk (h.held t ht) e; exact hI g cur hc)⟩
theorem Sts.more {w w' : World} {base : Nat} {sv : Value} {T : List St} (h : Sts w base sv T) (hk : Keeps None w w') : Sts w' base sv T := h.kept hk (fun _ _ _ _ f => f) (fun _ _ _ f => f)
theorem Sts.at {w : World} {base : Nat} {sv : Value} {T : List St} (h : Sts w base sv T) {k : Nat} {t : St} (ht : T[k]? = some t) : ∃ g cap, sv = .slice (some ⟨g, 0, none⟩) T.length cap ∧ base ≤ g ∧ T.length ≤ cap ∧ ∀ j v, (stR t)[j]? = some v → w.cell? ⟨g, k * 5 + j, none⟩ = some v := by
  have hk := (List.getElem?_eq_some_iff.1 ht).1
  rcases h.row.2 with ⟨_, h0⟩ | ⟨g, cap, cur, e, hb0, hg, hnc, hcm, hcs, htk⟩
  · omega
  · refine ⟨g, cap, e, hb0, hnc, fun j v hv => ?_⟩
    have hj : j < 5 := by have := (List.getElem?_eq_some_iff.1 hv).1; simpa [stR] using this
    have h1 := flat5_at T k t ht j hj
    rw [hv, ← htk, List.getElem?_take] at h1
    rw [blk_cell hg, ← Array.getElem?_toList]
    split at h1
    · exact h1
    · cases h1
theorem look_mem {T : List (C4 × List Int)} {d : C4} : (lookM (toM T) d).isSome = true ↔ ∃ t ∈ T, t.1 = d := by
  unfold lookM toM
  simp [List.find?_isSome]
set_option maxHeartbeats 2000000 in
theorem known_ok (base : Nat) (sv : Value) (T : List St) (d : C4) (w : World) (h : Sts w base sv T) (hl : T.length ≤ 7000000) :
    Calls Try.prog 51 #[sv, .agg #[.int .i64 d.a, .int .i64 d.b, .int .i64 d.c, .int .i64 d.d]] w fun e w' => e = .returned (.bool (lookM (toM (strip T)) d).isSome) ∧ Keeps None w w' := by
  obtain ⟨sa, sc, rfl⟩ := h.shape
  have hal := Keeps.alloc None w (.cells #[.int .i64 d.a, .int .i64 d.b, .int .i64 d.c, .int .i64 d.d] 61)
  have bX := heap_alloc_new w (.cells #[.int .i64 d.a, .int .i64 d.b, .int .i64 d.c, .int .i64 d.d] 61)
  obtain ⟨W, hW⟩ : ∃ W, W = w.alloc (.cells #[.int .i64 d.a, .int .i64 d.b, .int .i64 d.c, .int .i64 d.d] 61) := ⟨_, rfl⟩
  obtain ⟨X, hX⟩ : ∃ X, X = w.heap.size := ⟨_, rfl⟩
  rw [← hW] at hal bX
  rw [← hX] at bX
  obtain ⟨N, hN⟩ : ∃ N, N = T.length := ⟨_, rfl⟩
  rw [← hN] at h ⊢
  have HC : Hid (Sts W base (.slice sa N sc) T ∧ Keeps None w W ∧ W.heap[X]? = some (.cells #[.int .i64 d.a, .int .i64 d.b, .int .i64 d.c, .int .i64 d.d] 61 (0, 0)) ∧ N = T.length) := ⟨h.more hal, hal, bX, hN⟩
  have hN2 : N ≤ 7000000 := by omega
  obtain ⟨R, hRR⟩ : ∃ R, R = (lookM (toM (strip T)) d).isSome := ⟨_, rfl⟩
  have HR : Hid (R = (lookM (toM (strip T)) d).isSome) := hRR
  rw [← hRR]
  clear h hal bX hRR hN hl
  go_enter Try.func51, Try.ntmps51
  go_upto_region 1 with fail
  rw [← hW, ← hX]
  clear hW hX
  go_wp2_with fail
  go_loopw [5] (fun s5 wr => ∃ i : Nat, i ≤ N ∧ s5 = .int .i64 i ∧ (∀ j t, j < i → T[j]? = some t → t.1 ≠ d) ∧ Keeps None W wr) (fun i _ => N - (intOf i).toNat)
  case atStart => exact ⟨0, by omega, rfl, fun j t hj => absurd hj (by omega), Keeps.refl _ _⟩
  case round =>
    obtain ⟨i, hi, rfl, ht, hkp⟩ := hrel
    by_cases hiN : i < N
    · have i1 : (i : Int) < (N : Int) := by omega
      obtain ⟨t, htt⟩ : ∃ t, T[i]? = some t := ⟨T[i]'(by have := HC.out.2.2.2; omega), by simp⟩
      obtain ⟨g, cap, e, hb, hcap, hc⟩ := (HC.out.1.more hkp).at htt
      injection e with e1 e2 e3
      subst e1 e3
      have y0 : wr.cell? ⟨g, i * 5, none⟩ = some (.int .i64 t.1.a) := hc 0 _ rfl
      have y1 : wr.cell? ⟨g, i * 5 + 1, none⟩ = some (.int .i64 t.1.b) := hc 1 _ rfl
      have y2 : wr.cell? ⟨g, i * 5 + 2, none⟩ = some (.int .i64 t.1.c) := hc 2 _ rfl
      have y3 : wr.cell? ⟨g, i * 5 + 3, none⟩ = some (.int .i64 t.1.d) := hc 3 _ rfl
      have bX := blk_kept HC.out.2.2.1 hkp (fun f => f)
      have x0 : wr.cell? ⟨X, 0, none⟩ = some (.int .i64 d.a) := (blk_cell bX 0).trans rfl
      have x1 : wr.cell? ⟨X, 1, none⟩ = some (.int .i64 d.b) := (blk_cell bX 1).trans rfl
      have x2 : wr.cell? ⟨X, 2, none⟩ = some (.int .i64 d.c) := (blk_cell bX 2).trans rfl
      have x3 : wr.cell? ⟨X, 3, none⟩ = some (.int .i64 d.d) := (blk_cell bX 3).trans rfl
      have heq : ∀ w', (Op.equalIn 10000 61 (.agg #[.int .i64 t.1.a, .int .i64 t.1.b, .int .i64 t.1.c, .int .i64 t.1.d]) (.agg #[.int .i64 d.a, .int .i64 d.b, .int .i64 d.c, .int .i64 d.d])).run Try.prog w' = .ok (decide (t.1 = d)) w' := eqR t.1 d
      have HK : Hid (Keeps None W wr) := hkp
      by_cases htd : t.1 = d
      · rw [decide_eq_true htd] at heq
        have HF : Hid (R = true) := by
          rw [HR.out, look_mem]
          refine ⟨(t.1, t.2.2), List.mem_map.2 ⟨t, List.mem_of_getElem? htt, rfl⟩, htd⟩
        clear hc bX hkp ht htt htd hb hcap e2
        go_upto_region 4 with fail
        go_region
        go_wp2_with fail
        go_ret
        exact ⟨by rw [HF.out]; rfl, (HC.out.2.1.trans HK.out (fun _ f _ => f)).trans (drewN_keeps _ _) (fun _ f _ => f)⟩
      · rw [decide_eq_false htd] at heq
        have HF : Hid (∀ j t, j < i + 1 → T[j]? = some t → t.1 ≠ d) := fun j t' hj hjt => by
          by_cases e : j = i
          · subst e
            rw [htt] at hjt
            injection hjt with hjt
            subst hjt
            exact htd
          · exact ht j t' (by omega) hjt
        clear hc bX hkp ht htt htd hb hcap e2
        go_upto_region 4 with fail
        go_region
        go_wp2_with fail
        exact ⟨⟨i + 1, by omega, by go_num, HF.out, HK.out.trans (drewN_keeps _ _) (fun _ f _ => f)⟩, by simp [intOf]; omega⟩
    · have i1 : ¬ ((i : Int) < (N : Int)) := by omega
      have HF : Hid (R = false ∧ Keeps None w wr) := by
        refine ⟨?_, HC.out.2.1.trans hkp (fun _ f _ => f)⟩
        rw [HR.out, Bool.eq_false_iff]
        intro hs
        obtain ⟨t, ht1, ht2⟩ := look_mem.1 hs
        obtain ⟨u, hu, rfl⟩ := List.mem_map.1 ht1
        obtain ⟨j, hj⟩ := List.mem_iff_getElem?.1 hu
        have := (List.getElem?_eq_some_iff.1 hj).1
        exact ht j u (by have := HC.out.2.2.2; omega) hj ht2
      clear ht hkp
      go_wp2_with fail
      go_ret
      exact ⟨by rw [HF.out.1]; rfl, HF.out.2⟩
end Go.Proofs.Ytheginjjncnheaa
