import Derived.Test.YtokfbagacehbgaaDoorRdCopy2
import Derived.Test.YtokfbagacehbgaaDoorSwValid
/-! A copied program whose functions change places. -/
namespace Go.Proofs.YtokfbagacehbgaaDoor
set_option linter.unusedVariables false
set_option maxRecDepth 20000
open Go.RowKit Go.HeapKit Go.PlainOps

theorem own_put {w : World} {e : TypeId} {z n c g : Nat} {X : List Value} {i : Nat} (y : Value) (h : w.ownsRow 0 e z (.slice (some ⟨g, 0, none⟩) n c) n X) : (w.setCell ⟨g, i, none⟩ y).ownsRow 0 e z (.slice (some ⟨g, 0, none⟩) n c) n (X.set i y) := by
  rcases h.2 with ⟨e1, _⟩ | ⟨g', cap, cur, he, hb0, hg, hnc, hcm, hcs, htk⟩
  · cases e1
  · have he2 := he
    injection he with e1 e2 e3
    injection e1 with e1
    injection e1 with e1
    subst e1
    refine ⟨by rw [List.length_set]; exact h.1, .inr ⟨g, cap, _, he2, hb0, blk_set hg _, hnc, hcm, by simpa using hcs, ?_⟩⟩
    rw [Array.toList_setIfInBounds, List.take_set, htk]
theorem ins_putB (l : List Ins) (k : Nat) (x : Ins) (y : Int) (hk : l[k]? = some x) : (insVals l).set (k * 5 + 2) (.int .i64 y) = insVals (l.set k { x with b := y }) := by
  induction l generalizing k with
  | nil => simp at hk
  | cons z l ih =>
    have e : insVals (z :: l) = insCells z ++ insVals l := rfl
    have hz : (insCells z).length = 5 := rfl
    cases k with
    | zero =>
      simp at hk
      subst hk
      have e2 : insVals ((z :: l).set 0 { z with b := y }) = insCells { z with b := y } ++ insVals l := rfl
      rw [e, e2, Nat.zero_mul, Nat.zero_add, List.set_append_left _ _ (by omega)]
      rfl
    | succ k =>
      have e2 : insVals ((z :: l).set (k + 1) { x with b := y }) = insCells z ++ insVals (l.set k { x with b := y }) := rfl
      rw [e, e2, ← ih k (by simpa using hk), List.set_append_right _ _ (by omega), hz, show (k + 1) * 5 + 2 - 5 = k * 5 + 2 by omega]
theorem Cp.putB {base : Nat} {w : World} {l : List Fn} {qv : Value} {tv : List At} (h : Cp base w l qv tv) {i k : Nat} {f : Fn} {x : Ins} {t : At} (hf : l[i]? = some f) (hx : f.code[k]? = some x) (ht : tv[i]? = some t) (y : Int) :
    ∃ cb, t.1 = some ⟨cb, 0, none⟩ ∧ InsAt w cb (k * 5) x ∧ (∀ j, w.frozen? ⟨cb, j, none⟩ = false) ∧ Cp base (w.setCell ⟨cb, k * 5 + 2, none⟩ (.int .i64 y)) (l.set i { f with code := f.code.set k { x with b := y } }) qv tv ∧ Keeps (· = cb) w (w.setCell ⟨cb, k * 5 + 2, none⟩ (.int .i64 y)) ∧ base ≤ cb := by
  have hkl := (List.getElem?_eq_some_iff.1 hx).1
  have hil := (List.getElem?_eq_some_iff.1 hf).1
  have hown := h.code i f t hf ht
  rcases hown.2 with ⟨_, h0⟩ | ⟨g, cap, cur, he, hb0, hg, hnc, hcm, hcs, htk⟩
  · omega
  · have he2 := he
    injection he with e1 e2 e3
    have hL := insVals_length f.code
    have hblk : t.blk = some g := by unfold At.blk; rw [e1]; rfl
    have hcell : ∀ j v, (insCells x)[j]? = some v → w.cell? ⟨g, k * 5 + j, none⟩ = some v := fun j v hv => by
      have hj : j < 5 := by have := (List.getElem?_eq_some_iff.1 hv).1; simpa [insCells] using this
      have h1 := insVals_at f.code k x hx j v hv
      rw [← htk, List.getElem?_take, if_pos (by omega)] at h1
      rw [blk_cell hg, ← Array.getElem?_toList]
      exact h1
    have kS : Keeps (· = g) w (w.setCell ⟨g, k * 5 + 2, none⟩ (.int .i64 y)) := Keeps.setCell (S := (· = g)) w (a := ⟨g, k * 5 + 2, none⟩) rfl _
    refine ⟨g, e1, ⟨hcell 0 _ rfl, hcell 1 _ rfl, hcell 2 _ rfl, hcell 3 _ rfl, hcell 4 _ rfl⟩, fun j => blk_free hg j, ?_, kS, h.cl i t g ht hblk⟩
    have hz : List.zipWith tfCells (l.set i { f with code := f.code.set k { x with b := y } }) tv = List.zipWith tfCells l tv := by
      apply List.ext_getElem?
      intro j
      rw [List.getElem?_zipWith, List.getElem?_zipWith]
      by_cases hji : i = j
      · subst hji
        rw [List.getElem?_set_self hil, hf, ht]
        simp [tfCells]
      · rw [List.getElem?_set_ne hji]
    refine ⟨?_, ?_, by rw [List.length_set]; exact h.len, h.low, h.cl, h.nd⟩
    · rw [hz, List.length_set]
      exact kS.own h.row (fun q e hq => by subst hq; exact absurd (own_type h.row e hg) (by decide))
    · intro j f' t' hf' ht'
      by_cases hji : i = j
      · subst hji
        rw [List.getElem?_set_self hil] at hf'
        obtain rfl := Option.some.inj hf'
        rw [ht] at ht'
        obtain rfl := Option.some.inj ht'
        simp only [List.length_set]
        refine ⟨by rw [insVals_length, List.length_set], .inr ⟨g, cap, _, he2, hb0, blk_set hg _, hnc, hcm, by simpa using hcs, ?_⟩⟩
        rw [Array.toList_setIfInBounds, List.take_set, htk]
        exact ins_putB f.code k x y hx
      · rw [List.getElem?_set_ne hji] at hf'
        refine kS.own (h.code j f' t' hf' ht') (fun q e hq => ?_)
        subst hq
        exact hji (h.nd i j t t' q ht ht' hblk (by rw [← e]; exact (At.blk_slice _ _ _ _).symm))

theorem two_at {α : Type} {l : List α} {F : Nat} {x y : α} (h0 : l[0]? = some x) (hF : l[F]? = some y) (k : Nat) : ((l.set 0 y).set F x)[k]? = l[sig F k]? := by
  have hFl := (List.getElem?_eq_some_iff.1 hF).1
  unfold sig
  by_cases hkF : F = k
  · subst hkF
    rw [List.getElem?_set_self (by simpa using hFl)]
    by_cases hF0 : F = 0
    · subst hF0; rw [if_pos rfl, h0]
    · rw [if_neg hF0, if_pos rfl, h0]
  · rw [List.getElem?_set_ne hkF]
    by_cases hk0 : k = 0
    · subst hk0
      rw [List.getElem?_set_self (by omega), if_pos rfl, hF]
    · rw [List.getElem?_set_ne (by omega), if_neg hk0, if_neg (by omega)]
theorem flat4_set (R : List (List Value)) (h : ∀ r ∈ R, r.length = 4) (k : Nat) (hk : k < R.length) (a b c d : Value) : (((R.flatten.set (k * 4) a).set (k * 4 + 1) b).set (k * 4 + 2) c).set (k * 4 + 3) d = (R.set k [a, b, c, d]).flatten := by
  induction R generalizing k with
  | nil => simp at hk
  | cons y R ih =>
    have hy := h y (by simp)
    match y, hy with
    | [y0, y1, y2, y3], _ =>
      cases k with
      | zero => rfl
      | succ k =>
        have h1 := ih (fun r hr => h r (by simp [hr])) k (by simpa using hk)
        rw [List.set_cons_succ, List.flatten_cons, List.flatten_cons, ← h1, show (k + 1) * 4 = k * 4 + 4 by omega]
        rfl
def set4 (w : World) (g k : Nat) (f : Fn) (t : At) : World := (((w.setCell ⟨g, k * 4, none⟩ (.int .i64 f.params)).setCell ⟨g, k * 4 + 1, none⟩ (.int .i64 f.regs)).setCell ⟨g, k * 4 + 2, none⟩ (.int .i64 f.slots)).setCell ⟨g, k * 4 + 3, none⟩ (.slice t.1 f.code.length t.2)
theorem set4_keeps (w : World) (g k : Nat) (f : Fn) (t : At) : Keeps (· = g) w (set4 w g k f t) := by
  unfold set4
  have s : ∀ (w' : World) (i : Nat) (v : Value), Keeps (· = g) w' (w'.setCell ⟨g, i, none⟩ v) := fun w' i v => Keeps.setCell (S := (· = g)) w' (a := ⟨g, i, none⟩) rfl v
  exact (((s _ _ _).trans (s _ _ _) (fun _ f _ => f)).trans (s _ _ _) (fun _ f _ => f)).trans (s _ _ _) (fun _ f _ => f)
theorem zip_four (l : List Fn) (tv : List At) : ∀ r ∈ List.zipWith tfCells l tv, r.length = 4 := fun r hr => by
  obtain ⟨i, hi, rfl⟩ := List.mem_iff_getElem.1 hr
  rw [List.getElem_zipWith]
  rfl
theorem own_set4 {w : World} {n c g : Nat} {R : List (List Value)} (h4 : ∀ r ∈ R, r.length = 4) {k : Nat} (hk : k < R.length) (f : Fn) (t : At) (h : w.ownsRow 0 35 4 (.slice (some ⟨g, 0, none⟩) n c) n R.flatten) : (set4 w g k f t).ownsRow 0 35 4 (.slice (some ⟨g, 0, none⟩) n c) n (R.set k (tfCells f t)).flatten := by
  have := own_put (i := k * 4 + 3) (.slice t.1 f.code.length t.2) (own_put (i := k * 4 + 2) (.int .i64 f.slots) (own_put (i := k * 4 + 1) (.int .i64 f.regs) (own_put (i := k * 4) (.int .i64 f.params) h)))
  rw [flat4_set R h4 k hk] at this
  exact this
/-- The rows of functions. -/
theorem Cp.rows {base : Nat} {w : World} {l : List Fn} {qa : Option Addr} {n qc : Nat} {tv : List At} (h : Cp base w l (.slice qa n qc) tv) (hn : n = l.length) (h0 : 0 < n) : ∃ g C, qa = some ⟨g, 0, none⟩ ∧ w.heap[g]? = some (.cells C 35 (0, 0)) ∧ ∀ i f t, l[i]? = some f → tv[i]? = some t →
    w.cell? ⟨g, i * 4, none⟩ = some (.int .i64 f.params) ∧ w.cell? ⟨g, i * 4 + 1, none⟩ = some (.int .i64 f.regs) ∧ w.cell? ⟨g, i * 4 + 2, none⟩ = some (.int .i64 f.slots) ∧ w.cell? ⟨g, i * 4 + 3, none⟩ = some (.slice t.1 f.code.length t.2) := by
  have hr := h.row
  rw [← hn] at hr
  rcases hr.2 with ⟨_, h1⟩ | ⟨g, cap, cur, he, hb0, hg, hnc, hcm, hcs, htk⟩
  · omega
  · injection he with e1 e2 e3
    refine ⟨g, cur, e1, hg, fun i f t hf ht => ?_⟩
    have hz := zip_at tfCells l tv i f t hf ht
    have hil := (List.getElem?_eq_some_iff.1 hf).1
    have hc : ∀ j, j < 4 → w.cell? ⟨g, i * 4 + j, none⟩ = (tfCells f t)[j]? := fun j hj => by
      have h1 := flat4_at _ (zip_four l tv) i _ hz j hj
      rw [blk_cell hg, ← Array.getElem?_toList, ← h1, ← htk, List.getElem?_take, if_pos (by omega)]
    exact ⟨hc 0 (by omega), hc 1 (by omega), hc 2 (by omega), hc 3 (by omega)⟩
theorem Cp.swap {base : Nat} {w : World} {l : List Fn} {g n qc : Nat} {tv : List At} (h : Cp base w l (.slice (some ⟨g, 0, none⟩) n qc) tv) (hn : n = l.length) {F : Nat} {x y : Fn} {t u : At} (h0 : l[0]? = some x) (hF : l[F]? = some y) (ht : tv[0]? = some t) (hu : tv[F]? = some u) :
    Cp base (set4 (set4 w g 0 y u) g F x t) ((l.set 0 y).set F x) (.slice (some ⟨g, 0, none⟩) n qc) ((tv.set 0 u).set F t) ∧ Keeps (· = g) w (set4 (set4 w g 0 y u) g F x t) := by
  have hFl := (List.getElem?_eq_some_iff.1 hF).1
  have hkk := (set4_keeps w g 0 y u).trans (set4_keeps (set4 w g 0 y u) g F x t) (fun _ e _ => e)
  obtain ⟨g', C, eg, hC, _⟩ := h.rows hn (by omega)
  injection eg with eg
  injection eg with eg
  subst eg
  have hzl : (List.zipWith tfCells l tv).length = l.length := by rw [List.length_zipWith, h.len]; simp
  have hz0 := zip_at tfCells l tv 0 x t h0 ht
  have hzF := zip_at tfCells l tv F y u hF hu
  have hrows : ((List.zipWith tfCells l tv).set 0 (tfCells y u)).set F (tfCells x t) = List.zipWith tfCells ((l.set 0 y).set F x) ((tv.set 0 u).set F t) := by
    apply List.ext_getElem?
    intro k
    rw [two_at hz0 hzF, List.getElem?_zipWith, List.getElem?_zipWith, two_at h0 hF, two_at ht hu]
  refine ⟨⟨?_, ?_, by simp [h.len], h.low, ?_, ?_⟩, hkk⟩
  · have hr := h.row
    rw [← hn] at hr
    have h1 := own_set4 (zip_four l tv) (k := 0) (by omega) y u hr
    have h2 := own_set4 (R := (List.zipWith tfCells l tv).set 0 (tfCells y u)) (fun r hr => by
      rcases List.mem_or_eq_of_mem_set hr with q | q
      · exact zip_four l tv r q
      · rw [q]; rfl) (k := F) (by rw [List.length_set]; omega) x t h1
    rw [hrows] at h2
    have e : ((l.set 0 y).set F x).length = n := by simp [hn]
    rw [e]
    exact h2
  · intro i f' t' hf' ht'
    rw [two_at h0 hF] at hf'
    rw [two_at ht hu] at ht'
    have ho := h.code _ f' t' hf' ht'
    exact hkk.own ho (fun q e hq => by subst hq; exact absurd (own_type ho e hC) (by decide))
  · intro i t' q ht' hq
    rw [two_at ht hu] at ht'
    exact h.cl _ t' q ht' hq
  · intro i j t1 t2 q h1 h2 h3 h4
    rw [two_at ht hu] at h1 h2
    have := h.nd _ _ t1 t2 q h1 h2 h3 h4
    rw [← sig_sig F i, this, sig_sig]
end Go.Proofs.YtokfbagacehbgaaDoor
