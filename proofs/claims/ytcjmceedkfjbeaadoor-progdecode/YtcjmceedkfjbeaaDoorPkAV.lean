import Derived.Test.YtcjmceedkfjbeaaDoorPkAU
/-! wrap: a program as a gift. -/
namespace Go.Proofs.YtcjmceedkfjbeaaDoor
set_option linter.unusedVariables false
set_option maxRecDepth 20000
open Go.RowKit Go.HeapKit

/-- Rows of four cells. -/
theorem flat4_len (R : List (List Value)) (h : ∀ r ∈ R, r.length = 4) : R.flatten.length = R.length * 4 := by
  induction R with
  | nil => rfl
  | cons x R ih =>
    rw [List.flatten_cons, List.length_append, ih (fun r hr => h r (List.mem_cons_of_mem _ hr)), h x (List.mem_cons_self ..), List.length_cons]
    omega
theorem flat4_at (R : List (List Value)) (h : ∀ r ∈ R, r.length = 4) (k : Nat) (x : List Value) (hx : R[k]? = some x) (j : Nat) (hj : j < 4) : R.flatten[k * 4 + j]? = x[j]? := by
  induction R generalizing k with
  | nil => simp at hx
  | cons y R ih =>
    have hy := h y (List.mem_cons_self ..)
    rw [List.flatten_cons]
    cases k with
    | zero =>
      simp at hx
      subst hx
      rw [List.getElem?_append_left (by omega), Nat.zero_mul, Nat.zero_add]
    | succ k =>
      rw [List.getElem?_append_right (by omega), show (k + 1) * 4 + j - y.length = k * 4 + j by omega]
      exact ih (fun r hr => h r (List.mem_cons_of_mem _ hr)) k (by simpa using hx)
theorem flat4_set (R : List (List Value)) (h : ∀ r ∈ R, r.length = 4) (k : Nat) (hk : k < R.length) (a b c d : Value) : (((R.flatten.set (k * 4) a).set (k * 4 + 1) b).set (k * 4 + 2) c).set (k * 4 + 3) d = (R.set k [a, b, c, d]).flatten := by
  induction R generalizing k with
  | nil => simp at hk
  | cons y R ih =>
    have hy := h y (List.mem_cons_self ..)
    match y, hy with
    | [y0, y1, y2, y3], _ =>
      cases k with
      | zero => rfl
      | succ k =>
        have h1 := ih (fun r hr => h r (List.mem_cons_of_mem _ hr)) k (by simpa using hk)
        rw [List.set_cons_succ, List.flatten_cons, List.flatten_cons, ← h1, show (k + 1) * 4 = k * 4 + 4 by omega]
        rfl
structure IsR4 (w : World) (g : Nat) (R : List (List Value)) : Prop where
  blk : w.heap[g]? = some (.cells R.flatten.toArray 40 (0, 0))
  four : ∀ r ∈ R, r.length = 4
theorem IsR4.kept {w w' : World} {S : Nat → Prop} {g : Nat} {R : List (List Value)} (h : IsR4 w g R) (hk : Keeps S w w') (hS : ¬ S g) : IsR4 w' g R := ⟨blk_kept h.blk hk hS, h.four⟩
theorem IsR4.at {w : World} {g : Nat} {R : List (List Value)} (h : IsR4 w g R) {k : Nat} {a b c d : Value} (hx : R[k]? = some [a, b, c, d]) : w.cell? ⟨g, k * 4, none⟩ = some a ∧ w.cell? ⟨g, k * 4 + 1, none⟩ = some b ∧ w.cell? ⟨g, k * 4 + 2, none⟩ = some c ∧ w.cell? ⟨g, k * 4 + 3, none⟩ = some d := by
  have q : ∀ j, j < 4 → w.cell? ⟨g, k * 4 + j, none⟩ = [a, b, c, d][j]? := fun j hj => by
    rw [blk_cell h.blk]
    simpa using flat4_at R h.four k _ hx j hj
  exact ⟨q 0 (by omega), q 1 (by omega), q 2 (by omega), q 3 (by omega)⟩
theorem IsR4.free {w : World} {g : Nat} {R : List (List Value)} (h : IsR4 w g R) (j : Nat) : w.frozen? ⟨g, j, none⟩ = false := blk_free h.blk j
abbrev set4 (w : World) (g o : Nat) (a b c d : Value) : World := (((w.setCell ⟨g, o, none⟩ a).setCell ⟨g, o + 1, none⟩ b).setCell ⟨g, o + 2, none⟩ c).setCell ⟨g, o + 3, none⟩ d
theorem set4_keeps (w : World) (g o : Nat) (a b c d : Value) : Keeps (· = g) w (set4 w g o a b c d) :=
  ((((Keeps.refl (· = g) w).andSet (x := ⟨g, o, none⟩) (.inl rfl) a).andSet (x := ⟨g, o + 1, none⟩) (.inl rfl) b).andSet (x := ⟨g, o + 2, none⟩) (.inl rfl) c).andSet (x := ⟨g, o + 3, none⟩) (.inl rfl) d
theorem IsR4.set {w : World} {g : Nat} {R : List (List Value)} (h : IsR4 w g R) (k : Nat) (hk : k < R.length) (a b c d : Value) : IsR4 (set4 w g (k * 4) a b c d) g (R.set k [a, b, c, d]) := by
  refine ⟨?_, fun r hr => ?_⟩
  · unfold set4
    rw [blk_set (blk_set (blk_set (blk_set h.blk _) _) _) _, ← flat4_set R h.four k hk a b c d]
    simp
  · rcases List.mem_or_eq_of_mem_set hr with h1 | h1
    · exact h.four r h1
    · subst h1; rfl
def zeroFc : List Value := [.int .i64 0, .int .i64 0, .int .i64 0, .slice none 0 0]
def oddFc : List Value := [.int .i64 (-5), .int .i64 0, .int .i64 0, .slice none 0 0]
def gfCells (f : Fn) (c : Nat) : List Value := [.int .i64 f.params, .int .i64 f.regs, .int .i64 f.slots, .slice (some ⟨c, 0, none⟩) f.code.length (f.code.length + 2)]
def gcV (f : Fn) (c : Nat) : Value := .slice (some ⟨c, 0, none⟩) (f.code.length + 2) (f.code.length + 2)
theorem Tryd.infoFn : (Tryd.prog.info? 40).map (fun i => (i.zero, i.size, i.bytes)) = some (some (.agg #[.int .i64 0, .int .i64 0, .int .i64 0, .slice none 0 0]), 4, 48) := by kernel_rfl
theorem Tryd.infoCd : (Tryd.prog.info? 38).map (fun i => (i.zero, i.size, i.bytes)) = some (some (.slice none 0 0), 1, 24) := by kernel_rfl
theorem zero_flat (m : Nat) : ∀ i (h : i < (List.replicate m zeroFc).flatten.length), (List.replicate m zeroFc).flatten[i] = (#[Value.int .i64 0, .int .i64 0, .int .i64 0, .slice none 0 0] : Array Value)[i % 4]! := by
  induction m with
  | zero => intro i h; simp at h
  | succ m ih =>
    intro i h
    simp only [List.replicate_succ, List.flatten_cons]
    have h4 : zeroFc.length = 4 := rfl
    by_cases hi : i < 4
    · rw [List.getElem_append_left (by omega), Nat.mod_eq_of_lt hi]
      match i, hi with
      | 0, _ => rfl
      | 1, _ => rfl
      | 2, _ => rfl
      | 3, _ => rfl
    · rw [List.getElem_append_right (by omega)]
      have := ih (i - zeroFc.length) (by simp only [List.replicate_succ, List.flatten_cons, List.length_append] at h; omega)
      rw [this, show i % 4 = (i - zeroFc.length) % 4 by rw [h4]; omega]
theorem funcs_made (w : World) (n : Nat) (hn : n * 48 ≤ 140737488355328) : ∃ w', (Instr.makeSlice 23 (.int .i64 n) (.int .i64 n)).run Tryd.prog w = .ok (.slice (some ⟨w.heap.size, 0, none⟩) n n) w' ∧ IsR4 w' w.heap.size (List.replicate n zeroFc) ∧ Keeps None w w' := by
  obtain ⟨i0, hi, hz0, hz1, hz2⟩ := info_parts Tryd.infoFn
  obtain ⟨M, hM, hMs, hr⟩ := run_make_block (P := Tryd.prog) (w := w) 23 40 i0 _ 4 48 Tryd.underlying23 hi hz0 hz1 hz2 n (by omega) (by omega)
  have four : ∀ r ∈ List.replicate n zeroFc, r.length = 4 := fun r hr => by rw [List.eq_of_mem_replicate hr]; rfl
  refine ⟨_, hr, ⟨?_, four⟩, Keeps.alloc None w _⟩
  rw [heap_alloc_new]
  congr 2
  have hl := flat4_len _ four
  apply Array.ext
  · simp only [List.size_toArray, hl, List.length_replicate, hMs]
  · intro i h1 h2
    refine Eq.trans ?_ (zero_flat n i (by simpa using h2)).symm
    subst hM
    have h5 : (Value.agg #[Value.int .i64 0, .int .i64 0, .int .i64 0, .slice none 0 0]).cells = #[.int .i64 0, .int .i64 0, .int .i64 0, .slice none 0 0] := rfl
    simp only [h5, madeCells, Array.getElem_map, Array.getElem_range]
    rfl
theorem code_append (v : Value) (l : List Value) (x : Value) (n g ty : Nat) (w : World) (hn : n = l.length) (hx : x.oneCell' = true) (h : w.ownsRow 0 38 1 v n l) (hlen : (n + 1) * 24 ≤ 140737488355328)
    (hg : w.heap[g]? = some (.cells #[x] 38 (0, 0))) :
    ∃ b cap w', (Builtin.append_ #[44, 44] ty #[v, .slice (some ⟨g, 0, none⟩) 1 1]).run Tryd.prog w = .ok (.slice (some ⟨b, 0, none⟩) (n + 1) cap) w' ∧
      w'.ownsRow 0 38 1 (.slice (some ⟨b, 0, none⟩) (n + 1) cap) (n + 1) (l ++ [x]) ∧ Keeps (fun k => v.ownBlock = some k) w w' ∧ (v.ownBlock = some b ∨ w.heap.size ≤ b) := by
  obtain ⟨i0, hi, hz0, hz1, hz2⟩ := info_parts Tryd.infoCd
  obtain ⟨v', w', hr, ho, hgr, hm, -⟩ := run_append_moved (P := Tryd.prog) w 0 44 ty 38 i0 _ 1 24 Tryd.underlying44 hi hz0 hz1 hz2 rfl (by decide) v n l h
    ⟨g, 0, none⟩ 1 1 [x] rfl (by
      intro j u hu
      rw [show (⟨g, 0, none⟩ : Addr).add j = ⟨g, j, none⟩ by unfold Addr.add; split <;> simp_all, blk_cell hg]
      simpa using hu) (by
      intro u hu
      simp at hu
      subst hu
      exact hx) (by unfold maxLen; omega) (by omega) (Nat.zero_le _)
  rcases ho.2 with ⟨_, h0⟩ | ⟨b, cap, cur, rfl, _⟩
  · omega
  · refine ⟨b, cap, w', hr, ho, (Keeps.refl _ w).andGrown hgr (fun k e => .inl e), ?_⟩
    rcases hm with hm | ⟨g', e, hg⟩
    · exact .inl (hm.symm.trans rfl)
    · simp [Value.ownBlock] at e; exact .inr (by omega)

/-- A gift of the first functions of a list, in memory of its own; rows behind them. -/
structure IsGift (base : Nat) (w : World) (G : Nat) (cv : Value) (cs : List Nat) (l : List Fn) (more : List (List Value)) : Prop where
  fb : IsR4 w G (List.zipWith gfCells l cs ++ more)
  codes : w.ownsRow 0 38 1 cv l.length (List.zipWith gcV l cs)
  code : ∀ (i : Nat) (f : Fn) (c : Nat), l[i]? = some f → cs[i]? = some c → IsC w c (oddL f.code)
  len : cs.length = l.length
  nodup : cs.Nodup
  lowG : base ≤ G
  lowC : ∀ c ∈ cs, base ≤ c
  lowV : ∀ g, cv.ownBlock = some g → base ≤ g
theorem IsGift.more {base : Nat} {w w' : World} {G : Nat} {cv : Value} {cs : List Nat} {l : List Fn} {R : List (List Value)} (h : IsGift base w G cv cs l R) (hk : Keeps None w w') : IsGift base w' G cv cs l R :=
  ⟨h.fb.kept hk (fun f => f), hk.own h.codes (fun _ _ f => f), fun i f c hf hc => (h.code i f c hf hc).kept hk (fun f => f), h.len, h.nodup, h.lowG, h.lowC, h.lowV⟩
theorem zip_at {α β γ : Type} (f : α → β → γ) (l : List α) (m : List β) (k : Nat) (a : α) (b : β) (ha : l[k]? = some a) (hb : m[k]? = some b) : (List.zipWith f l m)[k]? = some (f a b) := by
  rw [List.getElem?_zipWith, ha, hb]
theorem IsGift.fn {base : Nat} {w : World} {G : Nat} {cv : Value} {cs : List Nat} {l : List Fn} {R : List (List Value)} (h : IsGift base w G cv cs l R) {k : Nat} {f : Fn} (hf : l[k]? = some f) : ∃ c, cs[k]? = some c ∧ FnAt w G (k * 4) f (some ⟨c, 0, none⟩) (f.code.length + 2) ∧ IsC w c (oddL f.code) := by
  have hk := (List.getElem?_eq_some_iff.1 hf).1
  obtain ⟨c, hc⟩ : ∃ c, cs[k]? = some c := ⟨cs[k]'(by have := h.len; omega), by simp⟩
  have hz := zip_at gfCells l cs k f c hf hc
  have hl : k < (List.zipWith gfCells l cs).length := (List.getElem?_eq_some_iff.1 hz).1
  obtain ⟨q0, q1, q2, q3⟩ := h.fb.at (k := k) (a := .int .i64 f.params) (b := .int .i64 f.regs) (c := .int .i64 f.slots) (d := .slice (some ⟨c, 0, none⟩) f.code.length (f.code.length + 2)) (by rw [List.getElem?_append_left hl]; exact hz)
  have hC := h.code k f c hf hc
  exact ⟨c, hc, ⟨q0, q1, q2, q3, hC.seen rfl (fun j i hi => by unfold oddL; rw [List.getElem?_append_left (List.getElem?_eq_some_iff.1 hi).1]; exact hi)⟩, hC⟩
theorem IsGift.seen {base : Nat} {w : World} {G : Nat} {cv : Value} {cs : List Nat} {l : List Fn} {R : List (List Value)} (h : IsGift base w G cv cs l R) : SeenF w (some ⟨G, 0, none⟩) l.length l :=
  ⟨rfl, fun _ => ⟨G, 0, rfl, blk_lt h.fb.blk, fun k f hf => by
    obtain ⟨c, _, h1, _⟩ := h.fn hf
    rw [Nat.zero_add]
    exact ⟨_, _, h1⟩⟩⟩
end Go.Proofs.YtcjmceedkfjbeaaDoor
