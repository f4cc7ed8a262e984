import Derived.Test.YtolhojagbiaamaaRbBag2
import Derived.Test.YtolhojagbiaamaaRcBefore
/-! Sets of tasks in memory: begin. -/
namespace Go.Proofs.Ytolhojagbiaamaa
set_option linter.unusedVariables false
set_option maxRecDepth 20000
set_option linter.unusedSimpArgs false
open Go.RowKit Go.HeapKit

def RowB (w : World) (base : Nat) (v : Value) (M : List Bool) : Prop := w.ownsRow base 4 1 v M.length (bvs M)
theorem bvs_len (M : List Bool) : (bvs M).length = M.length := by simp [bvs]
theorem bool_more (base : Nat) (s : Value) (l : List Bool) (x : Bool) (ty : Nat) (w : World) (h : RowB w base s l) (hb : base ≤ w.heap.size) (hlen : l.length + 1 ≤ 140737488355328) {g0 : Nat}
    (hg0 : w.heap[g0]? = some (.cells #[.bool x] 4 (0, 0))) :
    ∃ g cap w', (Builtin.append_ #[57, 57] ty #[s, .slice (some ⟨g0, 0, none⟩) 1 1]).run Try.prog w = .ok (.slice (some ⟨g, 0, none⟩) (l.length + 1) cap) w' ∧
      RowB w' base (.slice (some ⟨g, 0, none⟩) (l.length + 1) cap) (l ++ [x]) ∧ Keeps (fun k => s.ownBlock = some k) w w' ∧ (s.ownBlock = some g ∨ w.heap.size ≤ g) := by
  obtain ⟨i0, hi, hz0, hz1, hz2⟩ := info_parts Try.infoBoolR
  obtain ⟨v', w1, hr, ho, hgr, hm, hk⟩ := run_append_apart (P := Try.prog) w base 57 ty 4 i0 _ 1 1 Try.underlying57 hi hz0 hz1 hz2 rfl (by decide) s l.length _ h
    ⟨g0, 0, none⟩ 1 1 [.bool x] rfl (by
      intro j u hu
      rw [show (⟨g0, 0, none⟩ : Addr).add j = ⟨g0, j, none⟩ by unfold Addr.add; split <;> simp_all, blk_cell hg0]
      simpa using hu) (by
      intro u hu
      simp at hu
      subst hu; rfl) (by unfold maxLen; omega) (by omega) hb
  obtain ⟨g, cap, rfl⟩ : ∃ g cap, v' = .slice (some ⟨g, 0, none⟩) (l.length + 1) cap := by
    rcases ho.2 with ⟨_, h0⟩ | ⟨b, cap, cur, rfl, _⟩
    · omega
    · exact ⟨b, cap, rfl⟩
  refine ⟨g, cap, w1, hr, by unfold RowB; simpa [bvs] using ho, (Keeps.refl _ w).andGrown hgr (fun k e => .inl e), ?_⟩
  rcases hm with hm | ⟨g', e, hg⟩
  · exact .inl (hm.symm.trans rfl)
  · simp [Value.ownBlock] at e; exact .inr (by omega)
/-- A block of the model's own book-keeping, or a box for a pointer to a sweep. -/
def bookO : Obj → Bool
  | .cells c t _ => decide (t = 71 ∧ c.size = 1)
  | .map _ _ => false
  | _ => true
def Bk (w : World) (i : Nat) : Prop := ∃ o, w.heap[i]? = some o ∧ bookO o = true
/-- What may be written: from a block on, and no book-keeping. -/
def Fp (w : World) (base : Nat) : Nat → Prop := fun i => base ≤ i ∧ ¬ Bk w i
theorem not_bk_cells {w : World} {i : Nat} {c : Array Value} {t : TypeId} {f : Nat × Nat} (h : w.heap[i]? = some (.cells c t f)) (ht : t ≠ 71 ∨ c.size ≠ 1) : ¬ Bk w i := by
  rintro ⟨o, h1, h2⟩
  rw [h] at h1
  cases h1
  have := of_decide_eq_true (h2 : decide _ = true)
  rcases ht with ht | ht
  · exact ht this.1
  · exact ht this.2
theorem not_bk_map {w : World} {i : Nat} {es : Array MapEntry} {cl : Nat} (h : w.heap[i]? = some (.map es cl)) : ¬ Bk w i := by
  rintro ⟨o, h1, h2⟩
  rw [h] at h1
  cases h1
  cases h2
theorem Fp.trans {w w1 w2 : World} {base : Nat} {T : Nat → Prop} (h : Keeps (Fp w base) w w1) (k : Keeps T w1 w2) (hT : ∀ i, T i → i < w.heap.size → base ≤ i ∧ ¬ Bk w1 i) : Keeps (Fp w base) w w2 :=
  Keeps.trans h k (fun i hi hl => ⟨(hT i hi hl).1, fun hb => (hT i hi hl).2 (by
    obtain ⟨o, h1, h2⟩ := hb
    exact ⟨o, (h.block i hl (fun hf => hf.2 ⟨o, h1, h2⟩)).trans h1, h2⟩)⟩)
theorem Fp.trans2 {w w1 w2 : World} {base : Nat} (h : Keeps (Fp w base) w w1) (k : Keeps (Fp w1 base) w1 w2) : Keeps (Fp w base) w w2 := Fp.trans h k (fun i hi _ => hi)
theorem Fp.low {w w1 : World} {base : Nat} (h : Keeps (Fp w base) w w1) : Keeps (fun i => base ≤ i) w w1 := h.mono (fun i hi _ => hi.1)
theorem Fp.book {w w1 : World} {base i : Nat} {o : Obj} (h : Keeps (Fp w base) w w1) (hi : w.heap[i]? = some o) (ho : bookO o = true) : w1.heap[i]? = some o :=
  (h.block i (blk_lt hi) (fun hf => hf.2 ⟨o, hi, ho⟩)).trans hi
theorem Fp.one {w : World} {base S : Nat} {w1 : World} (h : Keeps (· = S) w w1) (hb : base ≤ S) (hn : ¬ Bk w S) : Keeps (Fp w base) w w1 := h.mono (fun i e _ => by subst e; exact ⟨hb, hn⟩)
/-- The sets in memory, whatever their lists are. -/
structure SetV (w : World) (base S o : Nat) (U : List Int) (M : List Bool) (A : List Int) (vu vm vl : Value) : Prop where
  c0 : w.cell? ⟨S, o, none⟩ = some vu
  c1 : w.cell? ⟨S, o + 1, none⟩ = some vm
  c2 : w.cell? ⟨S, o + 2, none⟩ = some vl
  ru : RowZ w base vu U
  rm : RowB w base vm M
  rl : RowZ w base vl A
  ne : ∀ b, vu.ownBlock = some b → vl.ownBlock ≠ some b
  blk : ∃ c t, w.heap[S]? = some (.cells c t (0, 0)) ∧ t ≠ 3 ∧ t ≠ 4
section
variable {w w' : World} {base S o : Nat} {U A : List Int} {M : List Bool} {vu vm vl : Value}
theorem SetV.more (h : SetV w base S o U M A vu vm vl) (hk : Keeps None w w') : SetV w' base S o U M A vu vm vl := by
  obtain ⟨c, t, b1, b2, b3⟩ := h.blk
  exact ⟨hk.cell h.c0 (fun f => f), hk.cell h.c1 (fun f => f), hk.cell h.c2 (fun f => f), h.ru.more hk, row_kept h.rm hk (fun _ _ f => f), h.rl.more hk, h.ne, c, t, blk_kept b1 hk (fun f => f), b2, b3⟩
theorem SetV.nb (h : SetV w base S o U M A vu vm vl) : (∀ i, vu.ownBlock = some i → ¬ Bk w i) ∧ (∀ i, vm.ownBlock = some i → ¬ Bk w i) ∧ (∀ i, vl.ownBlock = some i → ¬ Bk w i) ∧ ¬ Bk w S := by
  obtain ⟨c, t, h1, h2, h3⟩ := h.blk
  have hlt : o + 1 < c.size := by
    have := h.c1
    rw [blk_cell h1] at this
    exact (Array.getElem?_eq_some_iff.1 this).1
  refine ⟨fun b hb => ?_, fun b hb => ?_, fun b hb => ?_, not_bk_cells h1 (.inr (by omega))⟩
  · obtain ⟨_, hu⟩ := own_block h.ru hb; exact not_bk_cells hu (.inl (by decide))
  · obtain ⟨_, hu⟩ := own_block h.rm hb; exact not_bk_cells hu (.inl (by decide))
  · obtain ⟨_, hu⟩ := own_block h.rl hb; exact not_bk_cells hu (.inl (by decide))
/-- What a begin writes. -/
def Fs (S : Nat) (vu vm vl : Value) : Nat → Prop := fun i => vu.ownBlock = some i ∨ vm.ownBlock = some i ∨ vl.ownBlock = some i ∨ i = S
theorem SetV.fp (h : SetV w base S o U M A vu vm vl) (hS : base ≤ S) {w2 : World} (hk : Keeps (Fs S vu vm vl) w w2) : Keeps (Fp w base) w w2 := hk.mono (fun i e _ => by
  rcases e with e | e | e | e
  · exact ⟨row_low h.ru e, h.nb.1 i e⟩
  · exact ⟨row_low h.rm e, h.nb.2.1 i e⟩
  · exact ⟨row_low h.rl e, h.nb.2.2.1 i e⟩
  · subst e; exact ⟨hS, h.nb.2.2.2⟩)
theorem cell_setne {w : World} {S i j : Nat} {v : Value} (h : i ≠ j) : (w.setCell ⟨S, i, none⟩ v).cell? ⟨S, j, none⟩ = w.cell? ⟨S, j, none⟩ := by
  cases hb : w.heap[S]? with
  | none => simp [World.cell?, World.setCell, Array.getElem?_modify, hb]
  | some o =>
    cases o with
    | cells c t fz => simp [World.cell?, World.setCell, Array.getElem?_modify, hb, Array.getElem?_setIfInBounds, h]
    | _ => simp [World.cell?, World.setCell, Array.getElem?_modify, hb]
theorem SetV.neS (h : SetV w base S o U M A vu vm vl) : (∀ b, vu.ownBlock = some b → b ≠ S) ∧ (∀ b, vm.ownBlock = some b → b ≠ S) ∧ (∀ b, vl.ownBlock = some b → b ≠ S) ∧ (∀ b, vu.ownBlock = some b → vm.ownBlock ≠ some b) ∧ (∀ b, vl.ownBlock = some b → vm.ownBlock ≠ some b) := by
  obtain ⟨c, t, h1, h2, h3⟩ := h.blk
  refine ⟨fun b hb => ?_, fun b hb => ?_, fun b hb => ?_, fun b hb hb2 => ?_, fun b hb hb2 => ?_⟩
  · obtain ⟨_, hu⟩ := own_block h.ru hb; exact (ne_of_types h1 hu h2).symm
  · obtain ⟨_, hu⟩ := own_block h.rm hb; exact (ne_of_types h1 hu h3).symm
  · obtain ⟨_, hu⟩ := own_block h.rl hb; exact (ne_of_types h1 hu h2).symm
  · obtain ⟨_, hu⟩ := own_block h.ru hb; obtain ⟨_, hm⟩ := own_block h.rm hb2; exact ne_of_types hu hm (by decide) rfl
  · obtain ⟨_, hu⟩ := own_block h.rl hb; obtain ⟨_, hm⟩ := own_block h.rm hb2; exact ne_of_types hu hm (by decide) rfl
/-- One more way up. -/
theorem SetV.appU (h : SetV w base S o U M A vu vm vl) (x : Int) (hb : base ≤ w.heap.size) (hlen : U.length ≤ 5000) {g0 : Nat} (hg0 : w.heap[g0]? = some (.cells #[.int .i64 x] 3 (0, 0))) :
    ∃ g c w', (Builtin.append_ #[33, 33] 33 #[vu, .slice (some ⟨g0, 0, none⟩) 1 1]).run Try.prog w = .ok (.slice (some ⟨g, 0, none⟩) (U.length + 1) c) w' ∧ w'.cell? ⟨S, o, none⟩ = some vu ∧ w'.frozen? ⟨S, o, none⟩ = false ∧
      SetV (w'.setCell ⟨S, o, none⟩ (.slice (some ⟨g, 0, none⟩) (U.length + 1) c)) base S o (U ++ [x]) M A (.slice (some ⟨g, 0, none⟩) (U.length + 1) c) vm vl ∧ Keeps (fun i => vu.ownBlock = some i ∨ i = S) w (w'.setCell ⟨S, o, none⟩ (.slice (some ⟨g, 0, none⟩) (U.length + 1) c)) ∧ (∀ i, i ≠ o → (w'.setCell ⟨S, o, none⟩ (.slice (some ⟨g, 0, none⟩) (U.length + 1) c)).cell? ⟨S, i, none⟩ = w.cell? ⟨S, i, none⟩) ∧ (vu.ownBlock = some g ∨ w.heap.size ≤ g) := by
  obtain ⟨g, c, w1, hr, hR, hk, hm⟩ := intZ_more base vu U x 33 w h.ru hb (by omega) hg0
  obtain ⟨n1, n2, n3, n4, n5⟩ := h.neS
  obtain ⟨cc, t, b1, b2, b3⟩ := h.blk
  have hS : ∀ b, vu.ownBlock = some b → b ≠ S := n1
  have b1' := blk_kept b1 hk (fun e => hS _ e rfl)
  have hk2 : Keeps (· = S) w1 (w1.setCell ⟨S, o, none⟩ (.slice (some ⟨g, 0, none⟩) (U.length + 1) c)) := keeps_one (Keeps.refl _ _) _
  have hgS : g ≠ S := by
    rcases hm with hm | ⟨hm, _⟩
    · exact n1 g hm
    · have := blk_lt b1; omega
  have hcell : ∀ i, w1.cell? ⟨S, i, none⟩ = w.cell? ⟨S, i, none⟩ := fun i => by rw [blk_cell b1', blk_cell b1]
  have hlt : o < cc.size := by
    have := h.c0
    rw [blk_cell b1] at this
    exact (Array.getElem?_eq_some_iff.1 this).1
  refine ⟨g, c, w1, hr, by rw [hcell]; exact h.c0, blk_free b1' _, ⟨?_, ?_, ?_, ?_, ?_, ?_, ?_, cc.setIfInBounds o _, t, blk_set b1' _, b2, b3⟩, (hk.mono (fun i e _ => .inl e)).trans hk2 (fun i e _ => .inr e), fun i hi => by rw [cell_setne (Ne.symm hi), hcell], by rcases hm with hm | ⟨hm, _⟩; exact .inl hm; exact .inr hm⟩
  · rw [blk_cell (blk_set b1' _)]; simp [hlt]
  · rw [cell_setne (by omega), hcell]; exact h.c1
  · rw [cell_setne (by omega), hcell]; exact h.c2
  · have : RowZ w1 base (.slice (some ⟨g, 0, none⟩) (U.length + 1) c) (U ++ [x]) := hR
    exact this.kept hk2 (fun b e => by simp [Value.ownBlock] at e; subst e; exact hgS)
  · exact row_kept (row_kept h.rm hk (fun b e e2 => n4 b e2 e)) hk2 (fun b e => n2 b e)
  · exact (h.rl.kept hk (fun b e e2 => h.ne b e2 e)).kept hk2 (fun b e => n3 b e)
  · intro b e1 e2
    simp [Value.ownBlock] at e1
    subst e1
    rcases hm with hm | ⟨hm, _⟩
    · exact h.ne g hm e2
    · have := own_lt h.rl e2; omega
/-- One more late one. -/
theorem SetV.appA (h : SetV w base S o U M A vu vm vl) (x : Int) (hb : base ≤ w.heap.size) (hlen : A.length ≤ 5000) {g0 : Nat} (hg0 : w.heap[g0]? = some (.cells #[.int .i64 x] 3 (0, 0))) :
    ∃ g c w', (Builtin.append_ #[33, 33] 33 #[vl, .slice (some ⟨g0, 0, none⟩) 1 1]).run Try.prog w = .ok (.slice (some ⟨g, 0, none⟩) (A.length + 1) c) w' ∧ w'.cell? ⟨S, o + 2, none⟩ = some vl ∧ w'.frozen? ⟨S, o + 2, none⟩ = false ∧
      SetV (w'.setCell ⟨S, o + 2, none⟩ (.slice (some ⟨g, 0, none⟩) (A.length + 1) c)) base S o U M (A ++ [x]) vu vm (.slice (some ⟨g, 0, none⟩) (A.length + 1) c) ∧ Keeps (fun i => vl.ownBlock = some i ∨ i = S) w (w'.setCell ⟨S, o + 2, none⟩ (.slice (some ⟨g, 0, none⟩) (A.length + 1) c)) ∧ (∀ i, i ≠ o + 2 → (w'.setCell ⟨S, o + 2, none⟩ (.slice (some ⟨g, 0, none⟩) (A.length + 1) c)).cell? ⟨S, i, none⟩ = w.cell? ⟨S, i, none⟩) ∧ (vl.ownBlock = some g ∨ w.heap.size ≤ g) := by
  obtain ⟨g, c, w1, hr, hR, hk, hm⟩ := intZ_more base vl A x 33 w h.rl hb (by omega) hg0
  obtain ⟨n1, n2, n3, n4, n5⟩ := h.neS
  obtain ⟨cc, t, b1, b2, b3⟩ := h.blk
  have b1' := blk_kept b1 hk (fun e => n3 _ e rfl)
  have hk2 : Keeps (· = S) w1 (w1.setCell ⟨S, o + 2, none⟩ (.slice (some ⟨g, 0, none⟩) (A.length + 1) c)) := keeps_one (Keeps.refl _ _) _
  have hgS : g ≠ S := by
    rcases hm with hm | ⟨hm, _⟩
    · exact n3 g hm
    · have := blk_lt b1; omega
  have hcell : ∀ i, w1.cell? ⟨S, i, none⟩ = w.cell? ⟨S, i, none⟩ := fun i => by rw [blk_cell b1', blk_cell b1]
  have hlt : o + 2 < cc.size := by
    have := h.c2
    rw [blk_cell b1] at this
    exact (Array.getElem?_eq_some_iff.1 this).1
  refine ⟨g, c, w1, hr, by rw [hcell]; exact h.c2, blk_free b1' _, ⟨?_, ?_, ?_, ?_, ?_, ?_, ?_, cc.setIfInBounds (o + 2) _, t, blk_set b1' _, b2, b3⟩, (hk.mono (fun i e _ => .inl e)).trans hk2 (fun i e _ => .inr e), fun i hi => by rw [cell_setne (Ne.symm hi), hcell], by rcases hm with hm | ⟨hm, _⟩; exact .inl hm; exact .inr hm⟩
  · rw [cell_setne (by omega), hcell]; exact h.c0
  · rw [cell_setne (by omega), hcell]; exact h.c1
  · rw [blk_cell (blk_set b1' _)]; simp [hlt]
  · exact (h.ru.kept hk (fun b e e2 => h.ne b e e2)).kept hk2 (fun b e => n1 b e)
  · exact row_kept (row_kept h.rm hk (fun b e e2 => n5 b e2 e)) hk2 (fun b e => n2 b e)
  · have : RowZ w1 base (.slice (some ⟨g, 0, none⟩) (A.length + 1) c) (A ++ [x]) := hR
    exact this.kept hk2 (fun b e => by simp [Value.ownBlock] at e; subst e; exact hgS)
  · intro b e1 e2
    simp [Value.ownBlock] at e2
    subst e2
    rcases hm with hm | ⟨hm, _⟩
    · exact h.ne g e1 hm
    · have := own_lt h.ru e1; omega
/-- One more mark. -/
theorem SetV.appM (h : SetV w base S o U M A vu vm vl) (x : Bool) (hb : base ≤ w.heap.size) (hlen : M.length ≤ 5000) {g0 : Nat} (hg0 : w.heap[g0]? = some (.cells #[.bool x] 4 (0, 0))) :
    ∃ g c w', (Builtin.append_ #[57, 57] 57 #[vm, .slice (some ⟨g0, 0, none⟩) 1 1]).run Try.prog w = .ok (.slice (some ⟨g, 0, none⟩) (M.length + 1) c) w' ∧ w'.cell? ⟨S, o + 1, none⟩ = some vm ∧ w'.frozen? ⟨S, o + 1, none⟩ = false ∧
      SetV (w'.setCell ⟨S, o + 1, none⟩ (.slice (some ⟨g, 0, none⟩) (M.length + 1) c)) base S o U (M ++ [x]) A vu (.slice (some ⟨g, 0, none⟩) (M.length + 1) c) vl ∧ Keeps (fun i => vm.ownBlock = some i ∨ i = S) w (w'.setCell ⟨S, o + 1, none⟩ (.slice (some ⟨g, 0, none⟩) (M.length + 1) c)) ∧ (∀ i, i ≠ o + 1 → (w'.setCell ⟨S, o + 1, none⟩ (.slice (some ⟨g, 0, none⟩) (M.length + 1) c)).cell? ⟨S, i, none⟩ = w.cell? ⟨S, i, none⟩) := by
  obtain ⟨g, c, w1, hr, hR, hk, hm⟩ := bool_more base vm M x 57 w h.rm hb (by omega) hg0
  obtain ⟨n1, n2, n3, n4, n5⟩ := h.neS
  obtain ⟨cc, t, b1, b2, b3⟩ := h.blk
  have b1' := blk_kept b1 hk (fun e => n2 _ e rfl)
  have hk2 : Keeps (· = S) w1 (w1.setCell ⟨S, o + 1, none⟩ (.slice (some ⟨g, 0, none⟩) (M.length + 1) c)) := keeps_one (Keeps.refl _ _) _
  have hgS : g ≠ S := by
    rcases hm with hm | hm
    · exact n2 g hm
    · have := blk_lt b1; omega
  have hcell : ∀ i, w1.cell? ⟨S, i, none⟩ = w.cell? ⟨S, i, none⟩ := fun i => by rw [blk_cell b1', blk_cell b1]
  have hlt : o + 1 < cc.size := by
    have := h.c1
    rw [blk_cell b1] at this
    exact (Array.getElem?_eq_some_iff.1 this).1
  refine ⟨g, c, w1, hr, by rw [hcell]; exact h.c1, blk_free b1' _, ⟨?_, ?_, ?_, ?_, ?_, ?_, h.ne, cc.setIfInBounds (o + 1) _, t, blk_set b1' _, b2, b3⟩, (hk.mono (fun i e _ => .inl e)).trans hk2 (fun i e _ => .inr e), fun i hi => by rw [cell_setne (Ne.symm hi), hcell]⟩
  · rw [cell_setne (by omega), hcell]; exact h.c0
  · rw [blk_cell (blk_set b1' _)]; simp [hlt]
  · rw [cell_setne (by omega), hcell]; exact h.c2
  · exact (h.ru.kept hk (fun b e e2 => n4 b e e2)).kept hk2 (fun b e => n1 b e)
  · have : RowB w1 base (.slice (some ⟨g, 0, none⟩) (M.length + 1) c) (M ++ [x]) := hR
    exact row_kept this hk2 (fun b e => by simp [Value.ownBlock] at e; subst e; exact hgS)
  · exact (h.rl.kept hk (fun b e e2 => n5 b e e2)).kept hk2 (fun b e => n3 b e)
end
set_option maxHeartbeats 1600000 in
theorem begin_ok (w : World) (base S o : Nat) (U A : List Int) (M : List Bool) (vu vm vl : Value) (h : SetV w base S o U M A vu vm vl) (hl1 : M.length = U.length) (hl2 : A.length = U.length) (hn : U.length ≤ 5000) (hb : base ≤ w.heap.size) (hbS : base ≤ S) :
    Calls Try.prog 53 #[.pointer (some ⟨S, o, none⟩)] w fun e w' => e = .returned (.int .i64 (U.length : Nat)) ∧ (∃ gu cu gm cm gl cl, SetV w' base S o (U ++ [(U.length : Int)]) (M ++ [false]) (A ++ [-1]) (.slice (some ⟨gu, 0, none⟩) (U.length + 1) cu) (.slice (some ⟨gm, 0, none⟩) (U.length + 1) cm) (.slice (some ⟨gl, 0, none⟩) (U.length + 1) cl) ∧ (vu.ownBlock = some gu ∨ w.heap.size ≤ gu) ∧ (vl.ownBlock = some gl ∨ w.heap.size ≤ gl)) ∧ Keeps (Fs S vu vm vl) w w' ∧ (∀ i, i ≠ o → i ≠ o + 1 → i ≠ o + 2 → w'.cell? ⟨S, i, none⟩ = w.cell? ⟨S, i, none⟩) := by
  obtain ⟨ua, uc, hvu, _⟩ := h.ru.shape
  subst hvu
  obtain ⟨T, hT⟩ : ∃ T, T = U.length := ⟨_, rfl⟩
  have c0 := h.c0
  have kA := Keeps.alloc None w (.cells #[.int .i64 (T : Int)] 3)
  obtain ⟨g1, c1, w1, hr1, x1, y1, hV1, hk1, hc1, hm1⟩ := (h.more kA).appU (T : Int) (by simp; omega) hn (heap_alloc_new w _)
  rw [← hT] at c0 hr1 x1 hV1 hk1 hc1 hm1
  have k1 : Keeps (Fs S (.slice ua T uc) vm vl) w (w1.setCell ⟨S, o, none⟩ (.slice (some ⟨g1, 0, none⟩) (T + 1) c1)) := (kA.mono (fun _ f _ => f.elim)).trans hk1 (fun i e _ => by
    rcases e with e | e
    · exact .inl e
    · exact .inr (.inr (.inr e)))
  have d1 : ∀ i, i ≠ o → (w1.setCell ⟨S, o, none⟩ (.slice (some ⟨g1, 0, none⟩) (T + 1) c1)).cell? ⟨S, i, none⟩ = w.cell? ⟨S, i, none⟩ := fun i hi => by
    rw [hc1 i hi]
    obtain ⟨cc, t, b1, _⟩ := h.blk
    rw [blk_cell (blk_kept b1 kA (fun f => f)), blk_cell b1]
  obtain ⟨W1, hW1⟩ : ∃ W1, W1 = w1.setCell ⟨S, o, none⟩ (.slice (some ⟨g1, 0, none⟩) (T + 1) c1) := ⟨_, rfl⟩
  have hs1 : base ≤ W1.heap.size := by rw [hW1]; have := k1.size; omega
  have hV1' : SetV W1 base S o (U ++ [(T : Int)]) M A (.slice (some ⟨g1, 0, none⟩) (T + 1) c1) vm vl := by rw [hW1]; exact hV1
  have k1' : Keeps (Fs S (.slice ua T uc) vm vl) w W1 := by rw [hW1]; exact k1
  have d1' : ∀ i, i ≠ o → W1.cell? ⟨S, i, none⟩ = w.cell? ⟨S, i, none⟩ := by rw [hW1]; exact d1
  have m1 := hV1'.c1
  have kB := Keeps.alloc None W1 (.cells #[.bool false] 4)
  obtain ⟨g2, c2, w2, hr2, x2, y2, hV2, hk2, hc2⟩ := (hV1'.more kB).appM false (by simp; omega) (by omega) (heap_alloc_new W1 _)
  rw [hl1, ← hT] at hr2 hV2 hk2 hc2
  obtain ⟨W2, hW2⟩ : ∃ W2, W2 = w2.setCell ⟨S, o + 1, none⟩ (.slice (some ⟨g2, 0, none⟩) (T + 1) c2) := ⟨_, rfl⟩
  have k2' : Keeps (Fs S (.slice ua T uc) vm vl) w W2 := by
    rw [hW2]
    refine (k1'.trans kB (fun _ f _ => f.elim)).trans hk2 (fun i e _ => ?_)
    rcases e with e | e
    · exact .inr (.inl e)
    · exact .inr (.inr (.inr e))
  have hV2' : SetV W2 base S o (U ++ [(T : Int)]) (M ++ [false]) A (.slice (some ⟨g1, 0, none⟩) (T + 1) c1) (.slice (some ⟨g2, 0, none⟩) (T + 1) c2) vl := by rw [hW2]; exact hV2
  have d2' : ∀ i, i ≠ o → i ≠ o + 1 → W2.cell? ⟨S, i, none⟩ = w.cell? ⟨S, i, none⟩ := fun i h1 h2 => by
    rw [hW2, hc2 i h2]
    obtain ⟨cc, t, b1, _⟩ := hV1'.blk
    rw [blk_cell (blk_kept b1 kB (fun f => f)), ← blk_cell b1]
    exact d1' i h1
  have hs2 : base ≤ W2.heap.size := by have := k2'.size; omega
  have l1 := hV2'.c2
  have kC := Keeps.alloc None W2 (.cells #[.int .i64 (-1)] 3)
  obtain ⟨g3, c3, w3, hr3, x3, y3, hV3, hk3, hc3, hm3⟩ := (hV2'.more kC).appA (-1) (by simp; omega) (by omega) (heap_alloc_new W2 _)
  rw [hl2, ← hT] at hr3 hV3 hk3 hc3
  have HN : Hid ((∃ gu cu gm cm gl cl, SetV (w3.setCell ⟨S, o + 2, none⟩ (.slice (some ⟨g3, 0, none⟩) (T + 1) c3)) base S o (U ++ [(T : Int)]) (M ++ [false]) (A ++ [-1]) (.slice (some ⟨gu, 0, none⟩) (T + 1) cu) (.slice (some ⟨gm, 0, none⟩) (T + 1) cm) (.slice (some ⟨gl, 0, none⟩) (T + 1) cl) ∧ ((Value.slice ua T uc).ownBlock = some gu ∨ w.heap.size ≤ gu) ∧ (vl.ownBlock = some gl ∨ w.heap.size ≤ gl)) ∧ Keeps (Fs S (.slice ua T uc) vm vl) w (w3.setCell ⟨S, o + 2, none⟩ (.slice (some ⟨g3, 0, none⟩) (T + 1) c3)) ∧ (∀ i, i ≠ o → i ≠ o + 1 → i ≠ o + 2 → (w3.setCell ⟨S, o + 2, none⟩ (.slice (some ⟨g3, 0, none⟩) (T + 1) c3)).cell? ⟨S, i, none⟩ = w.cell? ⟨S, i, none⟩)) := by
    refine ⟨⟨g1, c1, g2, c2, g3, c3, hV3, ?_, ?_⟩, (k2'.trans kC (fun _ f _ => f.elim)).trans hk3 (fun i e _ => ?_), fun i h1 h2 h3 => ?_⟩
    · rcases hm1 with hm1 | hm1
      · exact .inl hm1
      · have := kA.size; exact .inr (by omega)
    · rcases hm3 with hm3 | hm3
      · exact .inl hm3
      · have := k2'.size; have := kC.size; exact .inr (by omega)
    · rcases e with e | e
      · exact .inr (.inr (.inl e))
      · exact .inr (.inr (.inr e))
    · rw [hc3 i h3]
      obtain ⟨cc, t, b1, _⟩ := hV2'.blk
      rw [blk_cell (blk_kept b1 kC (fun f => f)), ← blk_cell b1]
      exact d2' i h1 h2
  rw [← hT]
  have HT : Hid (T = U.length) := hT
  have HW1 : Hid (W1 = w1.setCell ⟨S, o, none⟩ (.slice (some ⟨g1, 0, none⟩) (T + 1) c1)) := hW1
  have HW2 : Hid (W2 = w2.setCell ⟨S, o + 1, none⟩ (.slice (some ⟨g2, 0, none⟩) (T + 1) c2)) := hW2
  clear h hl1 hl2 kA hV1 hk1 hc1 k1 d1 hs1 hV1' k1' d1' kB hV2 hk2 hc2 k2' hV2' d2' hs2 kC hV3 hk3 hc3 hm1 hm3 hT hW1 hW2
  go_enter Try.func53, Try.ntmps53
  go_upto_region 3 with (at_builtin; refine wpList_append_run rfl (.tmp 13) (.tmp 15) 33 33 rfl rfl rfl hr1 ?_)
  rw [← HW1.out]
  clear hr1 x1 y1 c0
  go_upto_region 4 with (at_builtin; refine wpList_append_run rfl (.tmp 23) (.tmp 24) 57 57 rfl rfl rfl hr2 ?_)
  rw [← HW2.out]
  clear hr2 x2 y2 m1
  go_wp2_with (at_builtin; refine wpList_append_run rfl (.tmp 32) (.tmp 33) 33 33 rfl rfl rfl hr3 ?_)
  go_ret
  exact ⟨rfl, HN.out⟩
end Go.Proofs.Ytolhojagbiaamaa
