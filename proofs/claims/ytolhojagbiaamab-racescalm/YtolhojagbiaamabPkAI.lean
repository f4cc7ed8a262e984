import Derived.Test.YtolhojagbiaamabPkAH
import Derived.Test.YtolhojagbiaamabPkAD
import Derived.Maps.Own
/-! Sets of tasks in memory: begin. -/
namespace Go.Proofs.Ytolhojagbiaamab
set_option linter.unusedVariables false
set_option maxRecDepth 20000
set_option linter.unusedSimpArgs false
open Go.RowKit Go.HeapKit

def RowB (w : World) (base : Nat) (v : Value) (M : List Bool) : Prop := w.ownsRow base 4 1 v M.length (bvs M)
theorem bvs_len (M : List Bool) : (bvs M).length = M.length := by simp [bvs]
theorem bool_more (base : Nat) (s : Value) (l : List Bool) (x : Bool) (ty : Nat) (w : World) (h : RowB w base s l) (hb : base ≤ w.heap.size) (hlen : l.length + 1 ≤ 140737488355328) {g0 : Nat}
    (hg0 : w.heap[g0]? = some (.cells #[.bool x] 4 (0, 0))) :
    ∃ g cap w', (Builtin.append_ #[72, 72] ty #[s, .slice (some ⟨g0, 0, none⟩) 1 1]).run Try.prog w = .ok (.slice (some ⟨g, 0, none⟩) (l.length + 1) cap) w' ∧
      RowB w' base (.slice (some ⟨g, 0, none⟩) (l.length + 1) cap) (l ++ [x]) ∧ Keeps (fun k => s.ownBlock = some k) w w' ∧ (s.ownBlock = some g ∨ w.heap.size ≤ g) := by
  obtain ⟨i0, hi, hz0, hz1, hz2⟩ := info_parts Try.infoBoolR
  obtain ⟨v', w1, hr, ho, hgr, hm, hk⟩ := run_append_apart (P := Try.prog) w base 72 ty 4 i0 _ 1 1 Try.underlying72 hi hz0 hz1 hz2 rfl (by decide) s l.length _ h
    ⟨g0, 0, none⟩ 1 1 [.bool x] rfl (by
      intro j u hu
      rw [show (⟨g0, 0, none⟩ : Addr).add j = ⟨g0, j, none⟩ by unfold Addr.add; split <;> simp_all, blk_cell hg0]
      simpa using hu) (by
      intro u hu
      simp at hu
      subst hu; rfl) (by unfold maxLen; omega) (by omega) hb
  obtain ⟨g, cap, rfl⟩ : ∃ g cap, v' = .slice (some ⟨g, 0, none⟩) (l.length + 1) cap := by
    rcases ho.2 with ⟨_, h0⟩ | ⟨b, cap, cur, rfl, _⟩
    · omega
    · exact ⟨b, cap, rfl⟩
  refine ⟨g, cap, w1, hr, by unfold RowB; simpa [bvs] using ho, (Keeps.refl _ w).andGrown hgr (fun k e => .inl e), ?_⟩
  rcases hm with hm | ⟨g', e, hg⟩
  · exact .inl (hm.symm.trans rfl)
  · simp [Value.ownBlock] at e; exact .inr (by omega)
/-- A block of the model's own book-keeping, or a box for a pointer to a sweep. -/
def bookO : Obj → Bool
  | .cells c t _ => decide (t = 68 ∧ c.size = 1)
  | .map _ _ => false
  | _ => true
def Bk (w : World) (i : Nat) : Prop := ∃ o, w.heap[i]? = some o ∧ bookO o = true
/-- What may be written: from a block on, and no book-keeping. -/
def Fp (w : World) (base : Nat) : Nat → Prop := fun i => base ≤ i ∧ ¬ Bk w i
theorem not_bk_cells {w : World} {i : Nat} {c : Array Value} {t : TypeId} {f : Nat × Nat} (h : w.heap[i]? = some (.cells c t f)) (ht : t ≠ 68 ∨ c.size ≠ 1) : ¬ Bk w i := by
  rintro ⟨o, h1, h2⟩
  rw [h] at h1
  cases h1
  have := of_decide_eq_true (h2 : decide _ = true)
  rcases ht with ht | ht
  · exact ht this.1
  · exact ht this.2
theorem not_bk_map {w : World} {i : Nat} {es : Array MapEntry} {cl : Nat} (h : w.heap[i]? = some (.map es cl)) : ¬ Bk w i := by
  rintro ⟨o, h1, h2⟩
  rw [h] at h1
  cases h1
  cases h2
theorem Fp.trans {w w1 w2 : World} {base : Nat} {T : Nat → Prop} (h : Keeps (Fp w base) w w1) (k : Keeps T w1 w2) (hT : ∀ i, T i → i < w.heap.size → base ≤ i ∧ ¬ Bk w1 i) : Keeps (Fp w base) w w2 :=
  Keeps.trans h k (fun i hi hl => ⟨(hT i hi hl).1, fun hb => (hT i hi hl).2 (by
    obtain ⟨o, h1, h2⟩ := hb
    exact ⟨o, (h.block i hl (fun hf => hf.2 ⟨o, h1, h2⟩)).trans h1, h2⟩)⟩)
theorem Fp.trans2 {w w1 w2 : World} {base : Nat} (h : Keeps (Fp w base) w w1) (k : Keeps (Fp w1 base) w1 w2) : Keeps (Fp w base) w w2 := Fp.trans h k (fun i hi _ => hi)
theorem Fp.low {w w1 : World} {base : Nat} (h : Keeps (Fp w base) w w1) : Keeps (fun i => base ≤ i) w w1 := h.mono (fun i hi _ => hi.1)
theorem Fp.book {w w1 : World} {base i : Nat} {o : Obj} (h : Keeps (Fp w base) w w1) (hi : w.heap[i]? = some o) (ho : bookO o = true) : w1.heap[i]? = some o :=
  (h.block i (blk_lt hi) (fun hf => hf.2 ⟨o, hi, ho⟩)).trans hi
theorem Fp.one {w : World} {base S : Nat} {w1 : World} (h : Keeps (· = S) w w1) (hb : base ≤ S) (hn : ¬ Bk w S) : Keeps (Fp w base) w w1 := h.mono (fun i e _ => by subst e; exact ⟨hb, hn⟩)
/-- The sets in memory, whatever their lists are. -/
structure SetV (w : World) (base S o : Nat) (U : List Int) (M : List Bool) (A : List Int) (vu vm vl : Value) : Prop where
  c0 : w.cell? ⟨S, o, none⟩ = some vu
  c1 : w.cell? ⟨S, o + 1, none⟩ = some vm
  c2 : w.cell? ⟨S, o + 2, none⟩ = some vl
  ru : RowZ w base vu U
  rm : RowB w base vm M
  rl : RowZ w base vl A
  ne : ∀ b, vu.ownBlock = some b → vl.ownBlock ≠ some b
  blk : ∃ c t, w.heap[S]? = some (.cells c t (0, 0)) ∧ t ≠ 3 ∧ t ≠ 4
section
variable {w w' : World} {base S o : Nat} {U A : List Int} {M : List Bool} {vu vm vl : Value}
theorem SetV.more (h : SetV w base S o U M A vu vm vl) (hk : Keeps None w w') : SetV w' base S o U M A vu vm vl := by
  obtain ⟨c, t, b1, b2, b3⟩ := h.blk
  exact ⟨hk.cell h.c0 (fun f => f), hk.cell h.c1 (fun f => f), hk.cell h.c2 (fun f => f), h.ru.more hk, row_kept h.rm hk (fun _ _ f => f), h.rl.more hk, h.ne, c, t, blk_kept b1 hk (fun f => f), b2, b3⟩
theorem SetV.nb (h : SetV w base S o U M A vu vm vl) : (∀ i, vu.ownBlock = some i → ¬ Bk w i) ∧ (∀ i, vm.ownBlock = some i → ¬ Bk w i) ∧ (∀ i, vl.ownBlock = some i → ¬ Bk w i) ∧ ¬ Bk w S := by
  obtain ⟨c, t, h1, h2, h3⟩ := h.blk
  have hlt : o + 1 < c.size := by
    have := h.c1
    rw [blk_cell h1] at this
    exact (Array.getElem?_eq_some_iff.1 this).1
  refine ⟨fun b hb => ?_, fun b hb => ?_, fun b hb => ?_, not_bk_cells h1 (.inr (by omega))⟩
  · obtain ⟨_, hu⟩ := own_block h.ru hb; exact not_bk_cells hu (.inl (by decide))
  · obtain ⟨_, hu⟩ := own_block h.rm hb; exact not_bk_cells hu (.inl (by decide))
  · obtain ⟨_, hu⟩ := own_block h.rl hb; exact not_bk_cells hu (.inl (by decide))
/-- What a begin writes. -/
def Fs (S : Nat) (vu vm vl : Value) : Nat → Prop := fun i => vu.ownBlock = some i ∨ vm.ownBlock = some i ∨ vl.ownBlock = some i ∨ i = S
theorem SetV.fp (h : SetV w base S o U M A vu vm vl) (hS : base ≤ S) {w2 : World} (hk : Keeps (Fs S vu vm vl) w w2) : Keeps (Fp w base) w w2 := hk.mono (fun i e _ => by
  rcases e with e | e | e | e
  · exact ⟨row_low h.ru e, h.nb.1 i e⟩
  · exact ⟨row_low h.rm e, h.nb.2.1 i e⟩
  · exact ⟨row_low h.rl e, h.nb.2.2.1 i e⟩
  · subst e; exact ⟨hS, h.nb.2.2.2⟩)
theorem cell_setne {w : World} {S i j : Nat} {v : Value} (h : i ≠ j) : (w.setCell ⟨S, i, none⟩ v).cell? ⟨S, j, none⟩ = w.cell? ⟨S, j, none⟩ := by
  cases hb : w.heap[S]? with
  | none => simp [World.cell?, World.setCell, Array.getElem?_modify, hb]
  | some o =>
    cases o with
    | cells c t fz => simp [World.cell?, World.setCell, Array.getElem?_modify, hb, Array.getElem?_setIfInBounds, h]
    | _ => simp [World.cell?, World.setCell, Array.getElem?_modify, hb]
theorem SetV.neS (h : SetV w base S o U M A vu vm vl) : (∀ b, vu.ownBlock = some b → b ≠ S) ∧ (∀ b, vm.ownBlock = some b → b ≠ S) ∧ (∀ b, vl.ownBlock = some b → b ≠ S) ∧ (∀ b, vu.ownBlock = some b → vm.ownBlock ≠ some b) ∧ (∀ b, vl.ownBlock = some b → vm.ownBlock ≠ some b) := by
  obtain ⟨c, t, h1, h2, h3⟩ := h.blk
  refine ⟨fun b hb => ?_, fun b hb => ?_, fun b hb => ?_, fun b hb hb2 => ?_, fun b hb hb2 => ?_⟩
  · obtain ⟨_, hu⟩ := own_block h.ru hb; exact (ne_of_types h1 hu h2).symm
  · obtain ⟨_, hu⟩ := own_block h.rm hb; exact (ne_of_types h1 hu h3).symm
  · obtain ⟨_, hu⟩ := own_block h.rl hb; exact (ne_of_types h1 hu h2).symm
  · obtain ⟨_, hu⟩ := own_block h.ru hb; obtain ⟨_, hm⟩ := own_block h.rm hb2; exact ne_of_types hu hm (by decide) rfl
  · obtain ⟨_, hu⟩ := own_block h.rl hb; obtain ⟨_, hm⟩ := own_block h.rm hb2; exact ne_of_types hu hm (by decide) rfl
/-- One more way up. -/
theorem SetV.appU (h : SetV w base S o U M A vu vm vl) (x : Int) (hb : base ≤ w.heap.size) (hlen : U.length ≤ 5000) {g0 : Nat} (hg0 : w.heap[g0]? = some (.cells #[.int .i64 x] 3 (0, 0))) :
    ∃ g c w', (Builtin.append_ #[35, 35] 35 #[vu, .slice (some ⟨g0, 0, none⟩) 1 1]).run Try.prog w = .ok (.slice (some ⟨g, 0, none⟩) (U.length + 1) c) w' ∧ w'.cell? ⟨S, o, none⟩ = some vu ∧ w'.frozen? ⟨S, o, none⟩ = false ∧
      SetV (w'.setCell ⟨S, o, none⟩ (.slice (some ⟨g, 0, none⟩) (U.length + 1) c)) base S o (U ++ [x]) M A (.slice (some ⟨g, 0, none⟩) (U.length + 1) c) vm vl ∧ Keeps (fun i => vu.ownBlock = some i ∨ i = S) w (w'.setCell ⟨S, o, none⟩ (.slice (some ⟨g, 0, none⟩) (U.length + 1) c)) ∧ (∀ i, i ≠ o → (w'.setCell ⟨S, o, none⟩ (.slice (some ⟨g, 0, none⟩) (U.length + 1) c)).cell? ⟨S, i, none⟩ = w.cell? ⟨S, i, none⟩) ∧ (vu.ownBlock = some g ∨ w.heap.size ≤ g) := by
  obtain ⟨g, c, w1, hr, hR, hk, hm⟩ := intZ_more base vu U x 35 w h.ru hb (by omega) hg0
  obtain ⟨n1, n2, n3, n4, n5⟩ := h.neS
  obtain ⟨cc, t, b1, b2, b3⟩ := h.blk
  have hS : ∀ b, vu.ownBlock = some b → b ≠ S := n1
  have b1' := blk_kept b1 hk (fun e => hS _ e rfl)
  have hk2 : Keeps (· = S) w1 (w1.setCell ⟨S, o, none⟩ (.slice (some ⟨g, 0, none⟩) (U.length + 1) c)) := keeps_one (Keeps.refl _ _) _
  have hgS : g ≠ S := by
    rcases hm with hm | ⟨hm, _⟩
    · exact n1 g hm
    · have := blk_lt b1; omega
  have hcell : ∀ i, w1.cell? ⟨S, i, none⟩ = w.cell? ⟨S, i, none⟩ := fun i => by rw [blk_cell b1', blk_cell b1]
  have hlt : o < cc.size := by
    have := h.c0
    rw [blk_cell b1] at this
    exact (Array.getElem?_eq_some_iff.1 this).1
  refine ⟨g, c, w1, hr, by rw [hcell]; exact h.c0, blk_free b1' _, ⟨?_, ?_, ?_, ?_, ?_, ?_, ?_, cc.setIfInBounds o _, t, blk_set b1' _, b2, b3⟩, (hk.mono (fun i e _ => .inl e)).trans hk2 (fun i e _ => .inr e), fun i hi => by rw [cell_setne (Ne.symm hi), hcell], by rcases hm with hm | ⟨hm, _⟩; exact .inl hm; exact .inr hm⟩
  · rw [blk_cell (blk_set b1' _)]; simp [hlt]
  · rw [cell_setne (by omega), hcell]; exact h.c1
  · rw [cell_setne (by omega), hcell]; exact h.c2
  · have : RowZ w1 base (.slice (some ⟨g, 0, none⟩) (U.length + 1) c) (U ++ [x]) := hR
    exact this.kept hk2 (fun b e => by simp [Value.ownBlock] at e; subst e; exact hgS)
  · exact row_kept (row_kept h.rm hk (fun b e e2 => n4 b e2 e)) hk2 (fun b e => n2 b e)
  · exact (h.rl.kept hk (fun b e e2 => h.ne b e2 e)).kept hk2 (fun b e => n3 b e)
  · intro b e1 e2
    simp [Value.ownBlock] at e1
    subst e1
    rcases hm with hm | ⟨hm, _⟩
    · exact h.ne g hm e2
    · have := own_lt h.rl e2; omega
/-- One more late one. -/
theorem SetV.appA (h : SetV w base S o U M A vu vm vl) (x : Int) (hb : base ≤ w.heap.size) (hlen : A.length ≤ 5000) {g0 : Nat} (hg0 : w.heap[g0]? = some (.cells #[.int .i64 x] 3 (0, 0))) :
    ∃ g c w', (Builtin.append_ #[35, 35] 35 #[vl, .slice (some ⟨g0, 0, none⟩) 1 1]).run Try.prog w = .ok (.slice (some ⟨g, 0, none⟩) (A.length + 1) c) w' ∧ w'.cell? ⟨S, o + 2, none⟩ = some vl ∧ w'.frozen? ⟨S, o + 2, none⟩ = false ∧
      SetV (w'.setCell ⟨S, o + 2, none⟩ (.slice (some ⟨g, 0, none⟩) (A.length + 1) c)) base S o U M (A ++ [x]) vu vm (.slice (some ⟨g, 0, none⟩) (A.length + 1) c) ∧ Keeps (fun i => vl.ownBlock = some i ∨ i = S) w (w'.setCell ⟨S, o + 2, none⟩ (.slice (some ⟨g, 0, none⟩) (A.length + 1) c)) ∧ (∀ i, i ≠ o + 2 → (w'.setCell ⟨S, o + 2, none⟩ (.slice (some ⟨g, 0, none⟩) (A.length + 1) c)).cell? ⟨S, i, none⟩ = w.cell? ⟨S, i, none⟩) ∧ (vl.ownBlock = some g ∨ w.heap.size ≤ g) := by
  obtain ⟨g, c, w1, hr, hR, hk, hm⟩ := intZ_more base vl A x 35 w h.rl hb (by omega) hg0
  obtain ⟨n1, n2, n3, n4, n5⟩ := h.neS
  obtain ⟨cc, t, b1, b2, b3⟩ := h.blk
  have b1' := blk_kept b1 hk (fun e => n3 _ e rfl)
  have hk2 : Keeps (· = S) w1 (w1.setCell ⟨S, o + 2, none⟩ (.slice (some ⟨g, 0, none⟩) (A.length + 1) c)) := keeps_one (Keeps.refl _ _) _
  have hgS : g ≠ S := by
    rcases hm with hm | ⟨hm, _⟩
    · exact n3 g hm
    · have := blk_lt b1; omega
  have hcell : ∀ i, w1.cell? ⟨S, i, none⟩ = w.cell? ⟨S, i, none⟩ := fun i => by rw [blk_cell b1', blk_cell b1]
  have hlt : o + 2 < cc.size := by
    have := h.c2
    rw [blk_cell b1] at this
    exact (Array.getElem?_eq_some_iff.1 this).1
  refine ⟨g, c, w1, hr, by rw [hcell]; exact h.c2, blk_free b1' _, ⟨?_, ?_, ?_, ?_, ?_, ?_, ?_, cc.setIfInBounds (o + 2) _, t, blk_set b1' _, b2, b3⟩, (hk.mono (fun i e _ => .inl e)).trans hk2 (fun i e _ => .inr e), fun i hi => by rw [cell_setne (Ne.symm hi), hcell], by rcases hm with hm | ⟨hm, _⟩; exact .inl hm; exact .inr hm⟩
  · rw [cell_setne (by omega), hcell]; exact h.c0
  · rw [cell_setne (by omega), hcell]; exact h.c1
  · rw [blk_cell (blk_set b1' _)]; simp [hlt]
  · exact (h.ru.kept hk (fun b e e2 => h.ne b e e2)).kept hk2 (fun b e => n1 b e)
  · exact row_kept (row_kept h.rm hk (fun b e e2 => n5 b e2 e)) hk2 (fun b e => n2 b e)
  · have : RowZ w1 base (.slice (some ⟨g, 0, none⟩) (A.length + 1) c) (A ++ [x]) := hR
    exact this.kept hk2 (fun b e => by simp [Value.ownBlock] at e; subst e; exact hgS)
  · intro b e1 e2
    simp [Value.ownBlock] at e2
    subst e2
    rcases hm with hm | ⟨hm, _⟩
    · exact h.ne g e1 hm
    · have := own_lt h.ru e1; omega
/-- One more mark. -/
theorem SetV.appM (h : SetV w base S o U M A vu vm vl) (x : Bool) (hb : base ≤ w.heap.size) (hlen : M.length ≤ 5000) {g0 : Nat} (hg0 : w.heap[g0]? = some (.cells #[.bool x] 4 (0, 0))) :
    ∃ g c w', (Builtin.append_ #[72, 72] 72 #[vm, .slice (some ⟨g0, 0, none⟩) 1 1]).run Try.prog w = .ok (.slice (some ⟨g, 0, none⟩) (M.length + 1) c) w' ∧ w'.cell? ⟨S, o + 1, none⟩ = some vm ∧ w'.frozen? ⟨S, o + 1, none⟩ = false ∧
      SetV (w'.setCell ⟨S, o + 1, none⟩ (.slice (some ⟨g, 0, none⟩) (M.length + 1) c)) base S o U (M ++ [x]) A vu (.slice (some ⟨g, 0, none⟩) (M.length + 1) c) vl ∧ Keeps (fun i => vm.ownBlock = some i ∨ i = S) w (w'.setCell ⟨S, o + 1, none⟩ (.slice (some ⟨g, 0, none⟩) (M.length + 1) c)) ∧ (∀ i, i ≠ o + 1 → (w'.setCell ⟨S, o + 1, none⟩ (.slice (some ⟨g, 0, none⟩) (M.length + 1) c)).cell? ⟨S, i, none⟩ = w.cell? ⟨S, i, none⟩) := by
  obtain ⟨g, c, w1, hr, hR, hk, hm⟩ := bool_more base vm M x 72 w h.rm hb (by omega) hg0
  obtain ⟨n1, n2, n3, n4, n5⟩ := h.neS
  obtain ⟨cc, t, b1, b2, b3⟩ := h.blk
  have b1' := blk_kept b1 hk (fun e => n2 _ e rfl)
  have hk2 : Keeps (· = S) w1 (w1.setCell ⟨S, o + 1, none⟩ (.slice (some ⟨g, 0, none⟩) (M.length + 1) c)) := keeps_one (Keeps.refl _ _) _
  have hgS : g ≠ S := by
    rcases hm with hm | hm
    · exact n2 g hm
    · have := blk_lt b1; omega
  have hcell : ∀ i, w1.cell? ⟨S, i, none⟩ = w.cell? ⟨S, i, none⟩ := fun i => by rw [blk_cell b1', blk_cell b1]
  have hlt : o + 1 < cc.size := by
    have := h.c1
    rw [blk_cell b1] at this
    exact (Array.getElem?_eq_some_iff.1 this).1
  refine ⟨g, c, w1, hr, by rw [hcell]; exact h.c1, blk_free b1' _, ⟨?_, ?_, ?_, ?_, ?_, ?_, h.ne, cc.setIfInBounds (o + 1) _, t, blk_set b1' _, b2, b3⟩, (hk.mono (fun i e _ => .inl e)).trans hk2 (fun i e _ => .inr e), fun i hi => by rw [cell_setne (Ne.symm hi), hcell]⟩
  · rw [cell_setne (by omega), hcell]; exact h.c0
  · rw [blk_cell (blk_set b1' _)]; simp [hlt]
  · rw [cell_setne (by omega), hcell]; exact h.c2
  · exact (h.ru.kept hk (fun b e e2 => n4 b e e2)).kept hk2 (fun b e => n1 b e)
  · have : RowB w1 base (.slice (some ⟨g, 0, none⟩) (M.length + 1) c) (M ++ [x]) := hR
    exact row_kept this hk2 (fun b e => by simp [Value.ownBlock] at e; subst e; exact hgS)
  · exact (h.rl.kept hk (fun b e e2 => n5 b e e2)).kept hk2 (fun b e => n3 b e)
end
set_option maxHeartbeats 1600000 in
theorem begin_ok (w : World) (base S o : Nat) (U A : List Int) (M : List Bool) (vu vm vl : Value) (h : SetV w base S o U M A vu vm vl) (hl1 : M.length = U.length) (hl2 : A.length = U.length) (hn : U.length ≤ 5000) (hb : base ≤ w.heap.size) (hbS : base ≤ S) :
    Calls Try.prog 48 #[.pointer (some ⟨S, o, none⟩)] w fun e w' => e = .returned (.int .i64 (U.length : Nat)) ∧ (∃ gu cu gm cm gl cl, SetV w' base S o (U ++ [(U.length : Int)]) (M ++ [false]) (A ++ [-1]) (.slice (some ⟨gu, 0, none⟩) (U.length + 1) cu) (.slice (some ⟨gm, 0, none⟩) (U.length + 1) cm) (.slice (some ⟨gl, 0, none⟩) (U.length + 1) cl) ∧ (vu.ownBlock = some gu ∨ w.heap.size ≤ gu) ∧ (vl.ownBlock = some gl ∨ w.heap.size ≤ gl)) ∧ Keeps (Fs S vu vm vl) w w' ∧ (∀ i, i ≠ o → i ≠ o + 1 → i ≠ o + 2 → w'.cell? ⟨S, i, none⟩ = w.cell? ⟨S, i, none⟩) := by
  obtain ⟨ua, uc, hvu, _⟩ := h.ru.shape
  subst hvu
  obtain ⟨T, hT⟩ : ∃ T, T = U.length := ⟨_, rfl⟩
  have c0 := h.c0
  have kA := Keeps.alloc None w (.cells #[.int .i64 (T : Int)] 3)
  obtain ⟨g1, c1, w1, hr1, x1, y1, hV1, hk1, hc1, hm1⟩ := (h.more kA).appU (T : Int) (by simp; omega) hn (heap_alloc_new w _)
  rw [← hT] at c0 hr1 x1 hV1 hk1 hc1 hm1
  have k1 : Keeps (Fs S (.slice ua T uc) vm vl) w (w1.setCell ⟨S, o, none⟩ (.slice (some ⟨g1, 0, none⟩) (T + 1) c1)) := (kA.mono (fun _ f _ => f.elim)).trans hk1 (fun i e _ => by
    rcases e with e | e
    · exact .inl e
    · exact .inr (.inr (.inr e)))
  have d1 : ∀ i, i ≠ o → (w1.setCell ⟨S, o, none⟩ (.slice (some ⟨g1, 0, none⟩) (T + 1) c1)).cell? ⟨S, i, none⟩ = w.cell? ⟨S, i, none⟩ := fun i hi => by
    rw [hc1 i hi]
    obtain ⟨cc, t, b1, _⟩ := h.blk
    rw [blk_cell (blk_kept b1 kA (fun f => f)), blk_cell b1]
  obtain ⟨W1, hW1⟩ : ∃ W1, W1 = w1.setCell ⟨S, o, none⟩ (.slice (some ⟨g1, 0, none⟩) (T + 1) c1) := ⟨_, rfl⟩
  have hs1 : base ≤ W1.heap.size := by rw [hW1]; have := k1.size; omega
  have hV1' : SetV W1 base S o (U ++ [(T : Int)]) M A (.slice (some ⟨g1, 0, none⟩) (T + 1) c1) vm vl := by rw [hW1]; exact hV1
  have k1' : Keeps (Fs S (.slice ua T uc) vm vl) w W1 := by rw [hW1]; exact k1
  have d1' : ∀ i, i ≠ o → W1.cell? ⟨S, i, none⟩ = w.cell? ⟨S, i, none⟩ := by rw [hW1]; exact d1
  have m1 := hV1'.c1
  have kB := Keeps.alloc None W1 (.cells #[.bool false] 4)
  obtain ⟨g2, c2, w2, hr2, x2, y2, hV2, hk2, hc2⟩ := (hV1'.more kB).appM false (by simp; omega) (by omega) (heap_alloc_new W1 _)
  rw [hl1, ← hT] at hr2 hV2 hk2 hc2
  obtain ⟨W2, hW2⟩ : ∃ W2, W2 = w2.setCell ⟨S, o + 1, none⟩ (.slice (some ⟨g2, 0, none⟩) (T + 1) c2) := ⟨_, rfl⟩
  have k2' : Keeps (Fs S (.slice ua T uc) vm vl) w W2 := by
    rw [hW2]
    refine (k1'.trans kB (fun _ f _ => f.elim)).trans hk2 (fun i e _ => ?_)
    rcases e with e | e
    · exact .inr (.inl e)
    · exact .inr (.inr (.inr e))
  have hV2' : SetV W2 base S o (U ++ [(T : Int)]) (M ++ [false]) A (.slice (some ⟨g1, 0, none⟩) (T + 1) c1) (.slice (some ⟨g2, 0, none⟩) (T + 1) c2) vl := by rw [hW2]; exact hV2
  have d2' : ∀ i, i ≠ o → i ≠ o + 1 → W2.cell? ⟨S, i, none⟩ = w.cell? ⟨S, i, none⟩ := fun i h1 h2 => by
    rw [hW2, hc2 i h2]
    obtain ⟨cc, t, b1, _⟩ := hV1'.blk
    rw [blk_cell (blk_kept b1 kB (fun f => f)), ← blk_cell b1]
    exact d1' i h1
  have hs2 : base ≤ W2.heap.size := by have := k2'.size; omega
  have l1 := hV2'.c2
  have kC := Keeps.alloc None W2 (.cells #[.int .i64 (-1)] 3)
  obtain ⟨g3, c3, w3, hr3, x3, y3, hV3, hk3, hc3, hm3⟩ := (hV2'.more kC).appA (-1) (by simp; omega) (by omega) (heap_alloc_new W2 _)
  rw [hl2, ← hT] at hr3 hV3 hk3 hc3
  have HN : Hid ((∃ gu cu gm cm gl cl, SetV (w3.setCell ⟨S, o + 2, none⟩ (.slice (some ⟨g3, 0, none⟩) (T + 1) c3)) base S o (U ++ [(T : Int)]) (M ++ [false]) (A ++ [-1]) (.slice (some ⟨gu, 0, none⟩) (T + 1) cu) (.slice (some ⟨gm, 0, none⟩) (T + 1) cm) (.slice (some ⟨gl, 0, none⟩) (T + 1) cl) ∧ ((Value.slice ua T uc).ownBlock = some gu ∨ w.heap.size ≤ gu) ∧ (vl.ownBlock = some gl ∨ w.heap.size ≤ gl)) ∧ Keeps (Fs S (.slice ua T uc) vm vl) w (w3.setCell ⟨S, o + 2, none⟩ (.slice (some ⟨g3, 0, none⟩) (T + 1) c3)) ∧ (∀ i, i ≠ o → i ≠ o + 1 → i ≠ o + 2 → (w3.setCell ⟨S, o + 2, none⟩ (.slice (some ⟨g3, 0, none⟩) (T + 1) c3)).cell? ⟨S, i, none⟩ = w.cell? ⟨S, i, none⟩)) := by
    refine ⟨⟨g1, c1, g2, c2, g3, c3, hV3, ?_, ?_⟩, (k2'.trans kC (fun _ f _ => f.elim)).trans hk3 (fun i e _ => ?_), fun i h1 h2 h3 => ?_⟩
    · rcases hm1 with hm1 | hm1
      · exact .inl hm1
      · have := kA.size; exact .inr (by omega)
    · rcases hm3 with hm3 | hm3
      · exact .inl hm3
      · have := k2'.size; have := kC.size; exact .inr (by omega)
    · rcases e with e | e
      · exact .inr (.inr (.inl e))
      · exact .inr (.inr (.inr e))
    · rw [hc3 i h3]
      obtain ⟨cc, t, b1, _⟩ := hV2'.blk
      rw [blk_cell (blk_kept b1 kC (fun f => f)), ← blk_cell b1]
      exact d2' i h1 h2
  rw [← hT]
  have HT : Hid (T = U.length) := hT
  have HW1 : Hid (W1 = w1.setCell ⟨S, o, none⟩ (.slice (some ⟨g1, 0, none⟩) (T + 1) c1)) := hW1
  have HW2 : Hid (W2 = w2.setCell ⟨S, o + 1, none⟩ (.slice (some ⟨g2, 0, none⟩) (T + 1) c2)) := hW2
  clear h hl1 hl2 kA hV1 hk1 hc1 k1 d1 hs1 hV1' k1' d1' kB hV2 hk2 hc2 k2' hV2' d2' hs2 kC hV3 hk3 hc3 hm1 hm3 hT hW1 hW2
  go_enter Try.func48, Try.ntmps48
  go_upto_region 3 with (at_builtin; refine wpList_append_run rfl (.tmp 13) (.tmp 15) 35 35 rfl rfl rfl hr1 ?_)
  rw [← HW1.out]
  clear hr1 x1 y1 c0
  go_upto_region 4 with (at_builtin; refine wpList_append_run rfl (.tmp 23) (.tmp 24) 72 72 rfl rfl rfl hr2 ?_)
  rw [← HW2.out]
  clear hr2 x2 y2 m1
  go_wp2_with (at_builtin; refine wpList_append_run rfl (.tmp 32) (.tmp 33) 35 35 rfl rfl rfl hr3 ?_)
  go_ret
  exact ⟨rfl, HN.out⟩
end Go.Proofs.Ytolhojagbiaamab
/-! The sweep: who stands for both. -/
namespace Go.Proofs.Ytolhojagbiaamab
set_option linter.unusedVariables false
set_option maxRecDepth 20000
set_option linter.unusedSimpArgs false
open Go.RowKit Go.HeapKit

theorem SetV.toM {w : World} {base S o gu cu gm cm gl cl : Nat} {U : List Nat} {M : List Bool} {A : List Int} (h : SetV w base S o (natZ U) M A (.slice (some ⟨gu, 0, none⟩) U.length cu) (.slice (some ⟨gm, 0, none⟩) U.length cm) (.slice (some ⟨gl, 0, none⟩) U.length cl)) (h1 : M.length = U.length) (h2 : A.length = U.length) : SetM w base S o U M A gu cu gm cm gl cl :=
  ⟨h.c0, h.c1, h.c2, h.ru, by have := h.rm; unfold RowB at this; rw [h1] at this; exact this, h.rl, h1, h2, fun e => h.ne gu rfl (by rw [e]; rfl), h.blk⟩
theorem SetM.toV {w : World} {base S o gu cu gm cm gl cl : Nat} {U : List Nat} {M : List Bool} {A : List Int} (h : SetM w base S o U M A gu cu gm cm gl cl) : SetV w base S o (natZ U) M A (.slice (some ⟨gu, 0, none⟩) U.length cu) (.slice (some ⟨gm, 0, none⟩) U.length cm) (.slice (some ⟨gl, 0, none⟩) U.length cl) :=
  ⟨h.c0, h.c1, h.c2, h.ru, by unfold RowB; rw [h.lm]; exact h.rm, h.rl, fun b e1 e2 => by simp [Value.ownBlock] at e1 e2; exact h.ne (by omega), h.blk⟩
theorem natZ_more (U : List Nat) (x : Nat) : natZ U ++ [(x : Int)] = natZ (U ++ [x]) := by simp [natZ]
def bothT (M : List Bool) (rt : Nat → Nat) (e c : Nat) : Nat := if M.getD (rt e) false = true then e else c
set_option maxHeartbeats 1600000 in
theorem forBoth_ok (w : World) (base S gu cu gm cm gl cl t p : Nat) (U : List Nat) (M : List Bool) (A : List Int) (rt d : Nat → Nat) (h : SetM w base S 1 U M A gu cu gm cm gl cl) (hF : Fo U rt d) (ht : t < U.length) (hn : U.length ≤ 5000) :
    Calls Try.prog 59 #[.pointer (some ⟨S, 0, none⟩), .int .i64 t, .int .i64 p] w fun e w' => e = .returned (.int .i64 (bothT M rt t p : Nat)) ∧ (∃ U', SetM w' base S 1 U' M A gu cu gm cm gl cl ∧ Fo U' rt d ∧ U'.length = U.length) ∧ Keeps (· = gu) w w' := by
  have HC : Hid _ := isPar_ok w base S 1 gu cu gm cm gl cl t U M A rt d h hF ht hn
  clear h hF ht hn
  cases hb : M.getD (rt t) false with
  | true =>
    have HB : Hid (bothT M rt t p = t) := by show bothT M rt t p = t; unfold bothT; rw [if_pos hb]
    rw [hb] at HC
    clear hb
    go_enter Try.func59, Try.ntmps59
    go_wp2_with (go_at_call 56; refine Calls.mono HC.out ?_; rintro _ w1 ⟨rfl, hq, hk⟩)
    go_ret
    exact ⟨by rw [HB.out]; rfl, hq, hk⟩
  | false =>
    have HB : Hid (bothT M rt t p = p) := by show bothT M rt t p = p; unfold bothT; rw [if_neg (by rw [hb]; simp)]
    rw [hb] at HC
    clear hb
    go_enter Try.func59, Try.ntmps59
    go_wp2_with (go_at_call 56; refine Calls.mono HC.out ?_; rintro _ w1 ⟨rfl, hq, hk⟩)
    go_ret
    exact ⟨by rw [HB.out]; rfl, hq, hk⟩
end Go.Proofs.Ytolhojagbiaamab
/-! The sweep in memory; a task's return. -/
namespace Go.Proofs.Ytolhojagbiaamab
set_option linter.unusedVariables false
set_option maxRecDepth 20000
set_option linter.unusedSimpArgs false
open Go.RowKit Go.HeapKit

/-- The sweep: the sets, the tasks that have not returned (the root first), whose each deed is. -/
structure SwM (w : World) (base S : Nat) (U : List Nat) (M : List Bool) (A : List Int) (gu cu gm cm gl cl : Nat) (act : List Nat) (ga ca : Nat) (dn : List Nat) (vd dv mp : Value) : Prop where
  sets : SetM w base S 1 U M A gu cu gm cm gl cl
  b0 : w.cell? ⟨S, 0, none⟩ = some dv
  b4 : w.cell? ⟨S, 4, none⟩ = some (.slice (some ⟨ga, 0, none⟩) act.length ca)
  b5 : w.cell? ⟨S, 5, none⟩ = some vd
  b6 : w.cell? ⟨S, 6, none⟩ = some mp
  ra : RowZ w base (.slice (some ⟨ga, 0, none⟩) act.length ca) (natZ act)
  rd : RowZ w base vd (natZ dn)
  n1 : ga ≠ gu
  n2 : ga ≠ gl
  n3 : vd.ownBlock ≠ some gu
  n4 : vd.ownBlock ≠ some gl
  n5 : vd.ownBlock ≠ some ga
section
variable {w w' : World} {base S : Nat} {U : List Nat} {M : List Bool} {A : List Int} {gu cu gm cm gl cl : Nat} {act : List Nat} {ga ca : Nat} {dn : List Nat} {vd dv mp : Value}
theorem SwM.neS (h : SwM w base S U M A gu cu gm cm gl cl act ga ca dn vd dv mp) : S ≠ ga ∧ (∀ b, vd.ownBlock = some b → S ≠ b) ∧ ga ≠ gm ∧ (∀ b, vd.ownBlock = some b → b ≠ gm) := by
  obtain ⟨c, t, h1, h2, h3⟩ := h.sets.blk
  obtain ⟨_, ha⟩ := own_block h.ra (g := ga) rfl
  obtain ⟨_, hm⟩ := h.sets.mblk
  refine ⟨ne_of_types h1 ha h2, fun b hb => ?_, ne_of_types ha hm (by decide), fun b hb => ?_⟩
  · obtain ⟨_, hd⟩ := own_block h.rd hb; exact ne_of_types h1 hd h2
  · obtain ⟨_, hd⟩ := own_block h.rd hb; exact ne_of_types hd hm (by decide)
/-- The sets have changed, and nothing else. -/
theorem SwM.sets' (h : SwM w base S U M A gu cu gm cm gl cl act ga ca dn vd dv mp) {U' : List Nat} {M' : List Bool} {A' : List Int} (hk : Keeps (fun i => i = gu ∨ i = gl ∨ i = gm) w w') (hs : SetM w' base S 1 U' M' A' gu cu gm cm gl cl) : SwM w' base S U' M' A' gu cu gm cm gl cl act ga ca dn vd dv mp := by
  obtain ⟨m1, m2, m3, m4, m5⟩ := h.sets.neS
  obtain ⟨e1, e2, e3, e4⟩ := h.neS
  have hS : ¬ (S = gu ∨ S = gl ∨ S = gm) := by rintro (e | e | e); exact m1 e; exact m3 e; exact m2 e
  refine ⟨hs, hk.cell h.b0 hS, hk.cell h.b4 hS, hk.cell h.b5 hS, hk.cell h.b6 hS, h.ra.kept hk (fun g e => ?_), h.rd.kept hk (fun g e => ?_), h.n1, h.n2, h.n3, h.n4, h.n5⟩
  · simp [Value.ownBlock] at e
    subst e
    rintro (e | e | e)
    · exact h.n1 e
    · exact h.n2 e
    · exact e3 e
  · rintro (e5 | e5 | e5)
    · exact h.n3 (by rw [e, e5])
    · exact h.n4 (by rw [e, e5])
    · exact e4 g e e5
theorem SwM.more (h : SwM w base S U M A gu cu gm cm gl cl act ga ca dn vd dv mp) (hk : Keeps None w w') : SwM w' base S U M A gu cu gm cm gl cl act ga ca dn vd dv mp :=
  h.sets' (hk.mono (fun _ f _ => f.elim)) (h.sets.more hk)
/-- The last task is gone. -/
theorem SwM.pop {x : Nat} (h : SwM w base S U M A gu cu gm cm gl cl (act ++ [x]) ga ca dn vd dv mp) : SwM (w.setCell ⟨S, 4, none⟩ (.slice (some ⟨ga, 0, none⟩) act.length ca)) base S U M A gu cu gm cm gl cl act ga ca dn vd dv mp ∧ Keeps (· = S) w (w.setCell ⟨S, 4, none⟩ (.slice (some ⟨ga, 0, none⟩) act.length ca)) := by
  have hk : Keeps (· = S) w (w.setCell ⟨S, 4, none⟩ (.slice (some ⟨ga, 0, none⟩) act.length ca)) := keeps_one (Keeps.refl _ _) _
  obtain ⟨m1, m2, m3, m4, m5⟩ := h.sets.neS
  obtain ⟨e1, e2, e3, e4⟩ := h.neS
  obtain ⟨c, t, b1, b2, b3⟩ := h.sets.blk
  have hlt : 4 < c.size := by
    have := h.b4
    rw [blk_cell b1] at this
    exact (Array.getElem?_eq_some_iff.1 this).1
  have hset : SetM (w.setCell ⟨S, 4, none⟩ (.slice (some ⟨ga, 0, none⟩) act.length ca)) base S 1 U M A gu cu gm cm gl cl :=
    ⟨by rw [cell_setne (by omega)]; exact h.sets.c0, by rw [cell_setne (by omega)]; exact h.sets.c1, by rw [cell_setne (by omega)]; exact h.sets.c2, h.sets.ru.kept hk (fun g e => by simp [Value.ownBlock] at e; subst e; exact fun e => m1 e.symm), row_kept h.sets.rm hk (fun g e => by simp [Value.ownBlock] at e; subst e; exact fun e => m2 e.symm), h.sets.rl.kept hk (fun g e => by simp [Value.ownBlock] at e; subst e; exact fun e => m3 e.symm), h.sets.lm, h.sets.la, h.sets.ne, c.setIfInBounds 4 _, t, blk_set b1 _, b2, b3⟩
  have hra : RowZ w base (.slice (some ⟨ga, 0, none⟩) act.length ca) (natZ act) := by
    unfold RowZ
    rw [natZ_lenB]
    refine ⟨by simp [ivZ, natZ], ?_⟩
    rcases h.ra.2 with ⟨h0, _⟩ | ⟨g', cap', cur, hv, hbg, hg, hnc, hcm, hcs, htake⟩
    · cases h0
    · injection hv with e1 e2 e3
      injection e1 with e1
      injection e1 with e1
      subst e1 e3
      refine .inr ⟨ga, ca, cur, rfl, hbg, hg, by simp [natZ] at hnc; omega, hcm, hcs, ?_⟩
      have : cur.toList.take (act.length * 1) = (cur.toList.take ((natZ (act ++ [x])).length * 1)).take (act.length * 1) := by
        rw [List.take_take, Nat.min_eq_left (by simp [natZ])]
      rw [this, htake]
      simp [ivZ, natZ]
  refine ⟨⟨hset, by rw [cell_setne (by omega)]; exact h.b0, ?_, by rw [cell_setne (by omega)]; exact h.b5, by rw [cell_setne (by omega)]; exact h.b6, hra.kept hk (fun g e => by simp [Value.ownBlock] at e; subst e; exact fun e => e1 e.symm), h.rd.kept hk (fun g e => fun e2' => e2 g e e2'.symm), h.n1, h.n2, h.n3, h.n4, h.n5⟩, hk⟩
  rw [blk_cell (blk_set b1 _)]
  simp [hlt]
end
/-- What a step of the sweep may write. -/
def F6 (S gu gl gm ga : Nat) (vd : Value) : Nat → Prop := fun i => i = S ∨ i = gu ∨ i = gl ∨ i = gm ∨ i = ga ∨ vd.ownBlock = some i
set_option maxHeartbeats 1600000 in
theorem sreturned_ok (w : World) (base S gu cu gm cm gl cl ga ca t p : Nat) (U X dn : List Nat) (M : List Bool) (A : List Int) (vd dv mp : Value) (rt d : Nat → Nat) (h : SwM w base S U M A gu cu gm cm gl cl (X ++ [p, t]) ga ca dn vd dv mp) (hF : Fo U rt d) (ht : t < U.length) (hp : p < U.length) (htp : t ≠ p) (hL : LateOk rt A t U.length)
    (hL2 : A.getD p 0 = -1 ∨ ∃ e : Nat, A.getD p 0 = (e : Int) ∧ e < U.length ∧ waitR rt A t e ≠ waitR rt A t t) (hn : U.length ≤ 5000) (hX : X.length ≤ 5000) (hbS : base ≤ S) :
    Calls Try.prog 49 #[.pointer (some ⟨S, 0, none⟩), .int .i64 t] w fun e w' => e = .returned (.tuple #[]) ∧
      (∃ U' d', SwM w' base S U' (M.set (waitR rt A t t) true) ((A.set t (-1)).set p (t : Int)) gu cu gm cm gl cl (X ++ [p]) ga ca dn vd dv mp ∧ Fo U' (endR (waitR rt A t) A p t) d' ∧ U'.length = U.length) ∧ Keeps (F6 S gu gl gm ga vd) w w' := by
  have HM : Hid (SwM w base S U M A gu cu gm cm gl cl ((X ++ [p]) ++ [t]) ga ca dn vd dv mp) := by
    have : (X ++ [p]) ++ [t] = X ++ [p, t] := by simp
    rw [this]; exact h
  have H0 : Hid (Fo U rt d ∧ t < U.length ∧ p < U.length ∧ t ≠ p ∧ LateOk rt A t U.length ∧ (A.getD p 0 = -1 ∨ ∃ e : Nat, A.getD p 0 = (e : Int) ∧ e < U.length ∧ waitR rt A t e ≠ waitR rt A t t) ∧ U.length ≤ 5000) := ⟨hF, ht, hp, htp, hL, hL2, hn⟩
  obtain ⟨q, hq⟩ : ∃ q, q = X.length + 1 := ⟨_, rfl⟩
  have HQ : Hid (q = X.length + 1) := hq
  have r4 : w.cell? ⟨S, 4, none⟩ = some (.slice (some ⟨ga, 0, none⟩) (q + 1) ca) := by
    have := HM.out.b4
    rw [show ((X ++ [p]) ++ [t]).length = q + 1 by simp [hq]] at this
    exact this
  have hfit : q + 1 ≤ ca := by
    rcases HM.out.ra.2 with ⟨h0, _⟩ | ⟨g', cap', cur, hv, _, _, hnc, _⟩
    · cases h0
    · injection hv with _ _ e3
      subst e3
      simp [natZ] at hnc
      omega
  have f4 : w.frozen? ⟨S, 4, none⟩ = false := by obtain ⟨c, t, b1, _⟩ := HM.out.sets.blk; exact blk_free b1 4
  have hw1 : IntKind.i64.wrap (q : Int) = (q : Int) := by rw [IntWalk.i64_left]; unfold wrap64; omega
  have hw2 : IntKind.i64.wrap (((q + 1 : Nat) : Int) - 1) = (q : Int) := by rw [IntWalk.i64_left]; unfold wrap64; omega
  have q1 : (q : Int) ≤ (ca : Int) := by omega
  have q2 : q ≤ ca := by omega
  clear h hF ht hp htp hL hL2 hn hfit hq
  go_enter Try.func49, Try.ntmps49
  go_wp2_with fail
  go_cut [1] (fun s1 wx => s1 = .int .i64 t ∧ SwM wx base S U M A gu cu gm cm gl cl (X ++ [p]) ga ca dn vd dv mp ∧ Keeps (F6 S gu gl gm ga vd) w wx)
  case first =>
    go_region
    go_wp2_with fail
    go_meet
    obtain ⟨h1, h2⟩ := HM.out.pop
    rw [show (X ++ [p]).length = q by simp [HQ.out]] at h1 h2
    exact ⟨rfl, h1.more (Keeps.drew None _), (h2.mono (fun i e _ => .inl e)).andDrew⟩
  case rest =>
  obtain ⟨rfl, hM1, hk1⟩ := hcut
  obtain ⟨W1, hW1⟩ : ∃ W1, W1 = wc := ⟨_, rfl⟩
  rw [← hW1] at hM1 hk1 ⊢
  clear hW1 HM r4 f4
  have r5 : W1.cell? ⟨S, 4, none⟩ = some (.slice (some ⟨ga, 0, none⟩) q ca) := by
    have := hM1.b4
    rw [show (X ++ [p]).length = q by simp [HQ.out]] at this
    exact this
  have hra := hM1.ra
  rw [← natZ_lenB (X ++ [p])] at hra
  have a5 : W1.cell? ⟨ga, q - 1, none⟩ = some (.int .i64 (p : Int)) := (hra.at (k := q - 1) (x := (p : Int)) (by rw [HQ.out]; simp [natZ])).1
  have hw3 : IntKind.i64.wrap ((q : Int) - 1) = ((q - 1 : Nat) : Int) := by rw [IntWalk.i64_left]; have := HQ.out; unfold wrap64; omega
  have hw4 : ((q - 1 : Nat) : Int) < (q : Int) := by have := HQ.out; omega
  have HC : Hid (∀ w2, Keeps None W1 w2 → Calls Try.prog 57 #[.pointer (some ⟨S, 1, none⟩), .int .i64 t, .int .i64 p] w2 fun e w' => e = .returned (.tuple #[]) ∧ w'.cell? ⟨S, 4, none⟩ = some (.slice (some ⟨ga, 0, none⟩) q ca) ∧ w'.cell? ⟨ga, q - 1, none⟩ = some (.int .i64 (p : Int)) ∧ Hid ((∃ U' d', SwM w' base S U' (M.set (waitR rt A t t) true) ((A.set t (-1)).set p (t : Int)) gu cu gm cm gl cl (X ++ [p]) ga ca dn vd dv mp ∧ Fo U' (endR (waitR rt A t) A p t) d' ∧ U'.length = U.length) ∧ Keeps (F6 S gu gl gm ga vd) w w')) := by
    intro w2 hk
    obtain ⟨g1, g2, g3, g4, g5, g6, g7⟩ := H0.out
    have hM2 := hM1.more hk
    refine (end_ok w2 base S 1 gu cu gm cm gl cl t p U M A rt d hM2.sets g1 g2 g3 g4 g5 g6 g7).mono ?_
    rintro e w' ⟨rfl, ⟨U', d', h1, h2, h3⟩, h4⟩
    have hM3 := hM2.sets' h4 h1
    have c4 := hM3.b4
    rw [show (X ++ [p]).length = q by simp [HQ.out]] at c4
    have hra2 := hM3.ra
    rw [← natZ_lenB (X ++ [p])] at hra2
    refine ⟨rfl, c4, (hra2.at (k := q - 1) (x := (p : Int)) (by rw [HQ.out]; simp [natZ])).1, ⟨⟨U', d', hM3, h2, h3⟩, ?_⟩⟩
    refine (hk1.trans hk (fun _ f _ => f.elim)).trans h4 (fun i e _ => ?_)
    rcases e with e | e | e
    · exact .inr (.inl e)
    · exact .inr (.inr (.inl e))
    · exact .inr (.inr (.inr (.inl e)))
  clear hM1 hk1 hra H0 hw1 hw2
  go_wp2_with fail
  go_region_held3 (fun w' => w'.cell? ⟨S, 4, none⟩ = some (.slice (some ⟨ga, 0, none⟩) q ca) ∧ w'.cell? ⟨ga, q - 1, none⟩ = some (.int .i64 (p : Int))) (first | exact ⟨v1, v2⟩ | go_keep) (first | (go_at_call 57; refine Calls.mono (HC.out _ (Keeps.drew None _)) ?_; rintro _ w3 ⟨rfl, v1, v2, v3⟩))
  all_goals (go_wp2_with fail; go_end0)
  all_goals exact ⟨rfl, v3.out⟩
end Go.Proofs.Ytolhojagbiaamab
/-! The map of the places. -/
namespace Go.Proofs.Ytolhojagbiaamab
set_option linter.unusedVariables false
set_option maxRecDepth 20000
set_option linter.unusedSimpArgs false
open Go.RowKit Go.HeapKit

/-- What is known of a place. -/
structure Pl where
  w : Nat
  r : Nat
  racy : Bool
def plV (p : Pl) : Value := .agg #[.int .i64 p.w, .int .i64 p.r, .bool p.racy]
def plZ : Pl := ⟨0, 0, false⟩
def fnd : List (Int × Pl) → Int → Nat → Option (Nat × Pl)
  | [], _, _ => none
  | (k', v) :: M, k, i => if k = k' then some (i, v) else fnd M k (i + 1)
def lookP (M : List (Int × Pl)) (k : Int) : Pl := ((fnd M k 0).map Prod.snd).getD plZ
def EntP (M : List (Int × Pl)) (es : List MapEntry) : Prop := es.map (fun e => (e.key, e.val)) = M.map (fun p => (Value.int .i64 p.1, plV p.2))
theorem find_now (k : Int) : ∀ (M : List (Int × Pl)) (es : List MapEntry) (i : Nat), EntP M es → Instr.findNow (.int .i64) (.int .i64 k) es i = some ((fnd M k i).map (fun p => (p.1, plV p.2)))
  | [], es, i, h => by
    have : es = [] := by unfold EntP at h; simpa using h
    subst this
    rfl
  | (k', v) :: M, es, i, h => by
    cases es with
    | nil => simp [EntP] at h
    | cons e es =>
      simp [EntP] at h
      obtain ⟨⟨h1, h2⟩, h3⟩ := h
      unfold Instr.findNow
      rw [h1]
      by_cases e0 : k = k'
      · subst e0
        simp [Instr.sameNow, fnd, h2]
      · have := find_now k M es (i + 1) (by simpa [EntP] using h3)
        have hq : (k == k') = false := by simp [e0]
        simp [Instr.sameNow, fnd, e0, this, hq]
theorem Try.underK : Try.prog.underlying 2 = some (.int .i64) := by kernel_rfl
theorem Try.underPM : Try.prog.underlying 75 = some (.map 2 79) := by kernel_rfl
theorem Try.zeroP (w : World) : (zeroValue 79).run Try.prog w = .ok (plV plZ) w := by kernel_rfl
theorem find_key (k : Int) (w : World) (M : List (Int × Pl)) (es : List MapEntry) (h : EntP M es) : (Instr.findKey 2 (.int .i64 k) es).run Try.prog w = .ok ((fnd M k 0).map (fun p => (p.1, plV p.2))) w :=
  MapKept.run_findKey Try.underK (find_now k M es 0 h)
theorem check_key (k : Int) (e : Bool) (w : World) : (Instr.checkKey e 10000 2 (.int .i64 k)).run Try.prog w = .ok () w := by
  rw [show (10000 : Nat) = 9999 + 1 from rfl]
  unfold Instr.checkKey
  simp [run_underlying Try.underK]
/-- The entries' stamps. -/
def Stp (es : List MapEntry) (cl : Nat) : Prop := (∀ x ∈ es, x.born < cl) ∧ (es.map (·.born)).Nodup
theorem Stp.nil (cl : Nat) : Stp [] cl := ⟨by simp, by simp⟩
theorem Stp.push {es : List MapEntry} {cl : Nat} (h : Stp es cl) (e : MapEntry) (he : e.born = cl) : Stp (es ++ [e]) (cl + 1) := by
  refine ⟨fun x hx => ?_, ?_⟩
  · rw [List.mem_append] at hx
    rcases hx with hx | hx
    · have := h.1 x hx; omega
    · simp at hx; subst hx; omega
  · rw [List.map_append, List.nodup_append]
    refine ⟨h.2, by simp, fun a ha b hb => ?_⟩
    obtain ⟨x, hx, rfl⟩ := List.mem_map.1 ha
    simp at hb
    have := h.1 x hx
    omega
theorem born_modify (f : MapEntry → MapEntry) (hf : ∀ e, (f e).born = e.born) : ∀ (es : List MapEntry) (i : Nat), (es.modify i f).map (·.born) = es.map (·.born)
  | [], i => by simp
  | e :: es, 0 => by simp [hf]
  | e :: es, i + 1 => by simp [born_modify f hf es i]
theorem Stp.modify {es : List MapEntry} {cl : Nat} (h : Stp es cl) (i : Nat) (f : MapEntry → MapEntry) (hf : ∀ e, (f e).born = e.born) : Stp (es.modify i f) cl := by
  have e := born_modify f hf es i
  refine ⟨fun x hx => ?_, by rw [e]; exact h.2⟩
  have : x.born ∈ (es.modify i f).map (·.born) := List.mem_map.2 ⟨x, hx, rfl⟩
  rw [e] at this
  obtain ⟨y, hy, hxy⟩ := List.mem_map.1 this
  have := h.1 y hy
  omega
def IsPl (w : World) (b : Nat) (M : List (Int × Pl)) : Prop := ∃ es clock, w.heap[b]? = some (.map es clock) ∧ EntP M es.toList ∧ Stp es.toList clock
theorem IsPl.lt {w : World} {b : Nat} {M : List (Int × Pl)} (h : IsPl w b M) : b < w.heap.size := by
  obtain ⟨es, cl, hb, _⟩ := h
  exact (Array.getElem?_eq_some_iff.1 hb).1
theorem IsPl.kept {w w' : World} {b : Nat} {M : List (Int × Pl)} {S : Nat → Prop} (h : IsPl w b M) (hk : Keeps S w w') (hS : ¬ S b) : IsPl w' b M := by
  have hl := h.lt
  obtain ⟨es, cl, hb, he⟩ := h
  exact ⟨es, cl, (hk.block b hl hS).trans hb, he⟩
theorem IsPl.look {w : World} {b : Nat} {M : List (Int × Pl)} (h : IsPl w b M) (k : Int) : (Instr.lookup 75 (.map (some b)) (.int .i64 k) false).run Try.prog w = .ok (plV (lookP M k)) w := by
  obtain ⟨es, cl, hb, he, _⟩ := h
  have hr := find_key k w M es.toList he
  simp [Instr.lookup, run_underlying Try.underPM, MapKept.run_getObj_map hb, check_key, hr]
  unfold lookP
  cases fnd M k 0 with
  | none => simp [Try.zeroP]; rfl
  | some p => simp
/-- The list behind an update. -/
def putP (M : List (Int × Pl)) (k : Int) (v : Pl) : List (Int × Pl) := match fnd M k 0 with | some (i, _) => M.set i (k, v) | none => M ++ [(k, v)]
theorem fnd_le : ∀ (M : List (Int × Pl)) (k : Int) (i j : Nat) (v : Pl), fnd M k i = some (j, v) → i ≤ j ∧ j < i + M.length ∧ M[j - i]? = some (k, v)
  | [], k, i, j, v, h => by simp [fnd] at h
  | (k', v') :: M, k, i, j, v, h => by
    unfold fnd at h
    split at h
    · rename_i e
      subst e
      injection h with h
      injection h with h1 h2
      subst h1 h2
      exact ⟨Nat.le_refl _, by simp, by simp⟩
    · obtain ⟨h1, h2, h3⟩ := fnd_le M k (i + 1) j v h
      refine ⟨by omega, by simp; omega, ?_⟩
      rw [show j - i = (j - (i + 1)) + 1 by omega]
      simpa using h3
theorem fnd_keys : ∀ (M M' : List (Int × Pl)) (k : Int) (i : Nat), M.map Prod.fst = M'.map Prod.fst → (fnd M k i).map Prod.fst = (fnd M' k i).map Prod.fst
  | [], [], _, _, _ => rfl
  | [], _ :: _, _, _, h => by simp at h
  | _ :: _, [], _, _, h => by simp at h
  | (a, x) :: M, (b, y) :: M', k, i, h => by
    simp at h
    obtain ⟨rfl, h⟩ := h
    unfold fnd
    split
    · rfl
    · exact fnd_keys M M' k (i + 1) h
theorem fnd_app : ∀ (M : List (Int × Pl)) (k k' : Int) (v : Pl) (i : Nat), fnd (M ++ [(k, v)]) k' i = match fnd M k' i with | some x => some x | none => if k' = k then some (i + M.length, v) else none
  | [], k, k', v, i => by simp [fnd]
  | (a, x) :: M, k, k', v, i => by
    simp only [List.cons_append, fnd]
    split
    · rfl
    · rw [fnd_app M k k' v (i + 1)]
      simp [Nat.add_assoc, Nat.add_comm 1]
theorem look_put (M : List (Int × Pl)) (k k' : Int) (v : Pl) : lookP (putP M k v) k' = if k' = k then v else lookP M k' := by
  unfold putP
  cases hf : fnd M k 0 with
  | none =>
    simp only
    unfold lookP
    rw [fnd_app]
    by_cases e : k' = k
    · subst e; rw [hf]; simp
    · cases hf' : fnd M k' 0 with
      | none => simp [e]
      | some x => simp [e]
  | some p =>
    obtain ⟨i, v0⟩ := p
    simp only
    obtain ⟨h1, h2, h3⟩ := fnd_le M k 0 i v0 hf
    simp at h2 h3
    have hkeys : (M.set i (k, v)).map Prod.fst = M.map Prod.fst := by
      rw [List.map_set]
      apply List.ext_getElem?
      intro j
      rw [List.getElem?_set]
      split
      · rename_i e
        subst e
        simp [h2, h3]
        have := List.getElem?_eq_some_iff.1 h3
        obtain ⟨q1, q2⟩ := this
        simp [q2]
      · rfl
    unfold lookP
    by_cases e : k' = k
    · subst e
      rw [if_pos rfl]
      have h4 := fnd_keys (M.set i (k', v)) M k' 0 hkeys
      rw [hf] at h4
      cases hg : fnd (M.set i (k', v)) k' 0 with
      | none => rw [hg] at h4; simp at h4
      | some p =>
        obtain ⟨i', v'⟩ := p
        rw [hg] at h4
        simp at h4
        subst h4
        obtain ⟨_, _, g3⟩ := fnd_le _ k' 0 i' v' hg
        simp [h2] at g3
        simp [g3]
    · rw [if_neg e]
      have h4 := fnd_keys (M.set i (k, v)) M k' 0 hkeys
      cases hg : fnd (M.set i (k, v)) k' 0 with
      | none =>
        rw [hg] at h4
        cases hm : fnd M k' 0 with
        | none => rfl
        | some p => rw [hm] at h4; simp at h4
      | some p =>
        obtain ⟨i', v'⟩ := p
        rw [hg] at h4
        cases hm : fnd M k' 0 with
        | none => rw [hm] at h4; simp at h4
        | some p2 =>
          obtain ⟨i2, v2⟩ := p2
          rw [hm] at h4
          simp at h4
          subst h4
          obtain ⟨_, _, g3⟩ := fnd_le _ k' 0 i' v' hg
          obtain ⟨_, _, m3⟩ := fnd_le _ k' 0 i' v2 hm
          simp only [Nat.sub_zero] at g3 m3
          have hne : i ≠ i' := fun e2 => by
            subst e2
            rw [h3] at m3
            injection m3 with m3
            injection m3 with m3 _
            exact e m3.symm
          rw [List.getElem?_set_ne hne, m3] at g3
          injection g3 with g3
          injection g3 with _ g3
          simp [g3]
theorem ent_set {M : List (Int × Pl)} {es : List MapEntry} (h : EntP M es) (i : Nat) (k : Int) (v : Pl) : EntP (M.set i (k, v)) (es.modify i fun e => { e with key := .int .i64 k, val := plV v }) := by
  unfold EntP at h ⊢
  rw [List.map_set, ← h]
  apply List.ext_getElem?
  intro j
  rw [List.getElem?_map, List.getElem?_modify, List.getElem?_set, List.getElem?_map]
  by_cases e : i = j
  · subst e
    cases hj : es[i]? with
    | none =>
      have : es.length ≤ i := List.getElem?_eq_none_iff.1 hj
      simp [hj, this]
    | some x =>
      have := (List.getElem?_eq_some_iff.1 hj).1
      simp [hj, this]
  · simp [e]
theorem ent_push {M : List (Int × Pl)} {es : List MapEntry} (h : EntP M es) (k : Int) (v : Pl) (c : Nat) : EntP (M ++ [(k, v)]) (es ++ [{ key := .int .i64 k, val := plV v, born := c }]) := by
  unfold EntP at h ⊢
  rw [List.map_append, List.map_append, h]
  rfl
theorem ent_at {M : List (Int × Pl)} {es : List MapEntry} (h : EntP M es) {i : Nat} {k : Int} {v : Pl} (hi : M[i]? = some (k, v)) : (es[i]?).map (·.key) = some (.int .i64 k) := by
  unfold EntP at h
  have h1 := congrArg (fun l => l[i]?) h
  simp only [List.getElem?_map, hi, Option.map_some] at h1
  cases he : es[i]? with
  | none => rw [he] at h1; simp at h1
  | some x =>
    rw [he] at h1
    simp at h1
    simp [h1.1]
theorem IsPl.put {w : World} {b : Nat} {M : List (Int × Pl)} (h : IsPl w b M) (k : Int) (v : Pl) :
    ∃ w', (Instr.mapUpdate 75 (.map (some b)) (.int .i64 k) (plV v)).run Try.prog w = .ok () w' ∧ IsPl w' b (putP M k v) ∧ Keeps (· = b) w w' := by
  have hl := h.lt
  obtain ⟨es, cl, hb, he, hst0⟩ := h
  have hr := find_key k w M es.toList he
  have hkeep : ∀ o : Obj, Keeps (· = b) w { w with heap := w.heap.setIfInBounds b o } := fun o => ⟨rfl, rfl, rfl, by simp, fun i hi hne => by
    show (w.heap.setIfInBounds b _)[i]? = w.heap[i]?
    rw [Array.getElem?_setIfInBounds_ne (fun e => hne e.symm)]⟩
  unfold putP
  cases hf : fnd M k 0 with
  | none =>
    rw [hf] at hr
    simp only [Option.map_none] at hr
    refine ⟨{ w with heap := w.heap.setIfInBounds b (.map (es.push { key := .int .i64 k, val := plV v, born := cl }) (cl + 1)) }, ?_, ⟨es.push { key := .int .i64 k, val := plV v, born := cl }, cl + 1, by simp [hl], ?_, by rw [Array.toList_push]; exact hst0.push _ rfl⟩, hkeep _⟩
    · simp [Instr.mapUpdate, run_underlying Try.underPM, MapKept.run_getObj_map hb, check_key, hr, MapKept.run_setObj_map _ hb]
    · rw [Array.toList_push]
      exact ent_push he k v cl
  | some p =>
    obtain ⟨i, v0⟩ := p
    rw [hf] at hr
    simp only [Option.map_some] at hr
    obtain ⟨_, _, h3⟩ := fnd_le M k 0 i v0 hf
    simp only [Nat.sub_zero] at h3
    have hat := ent_at he h3
    rw [Array.getElem?_toList] at hat
    have hst : (Instr.keyThatStays (.int .i64 k) (.int .i64 k)).run Try.prog w = .ok (.int .i64 k) w := MapKept.run_keyThatStays (d := .int .i64) rfl
    refine ⟨{ w with heap := w.heap.setIfInBounds b (.map (es.modify i fun e => { e with key := .int .i64 k, val := plV v }) cl) }, ?_, ⟨es.modify i fun e => { e with key := .int .i64 k, val := plV v }, cl, by simp [hl], ?_, by rw [Array.toList_modify]; exact hst0.modify i _ (fun _ => rfl)⟩, hkeep _⟩
    · simp [Instr.mapUpdate, run_underlying Try.underPM, MapKept.run_getObj_map hb, check_key, hr, hat, hst, MapKept.run_setObj_map _ hb]
    · rw [Array.toList_modify]
      exact ent_set he i k v
end Go.Proofs.Ytolhojagbiaamab
