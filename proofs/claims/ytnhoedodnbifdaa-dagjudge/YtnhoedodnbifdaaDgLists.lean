import Derived.Test.YtnhoedodnbifdaaDgBack
import Derived.Test.YtnhoedodnbifdaaDgMoved
/-! A row of lists of numbers. -/
namespace Go.Proofs.Ytnhoedodnbifdaa
set_option linter.unusedVariables false
set_option maxRecDepth 20000
open Go.RowKit Go.HeapKit

def iv (l : List Int) : List Value := l.map (Value.int .i64)
theorem iv_len (l : List Int) : (iv l).length = l.length := by simp [iv]
theorem Try.infoInt : (Try.prog.info? 3).map (fun i => (i.zero, i.size, i.bytes)) = some (some (.int .i64 0), 1, 8) := by kernel_rfl
theorem Try.infoInts : (Try.prog.info? 25).map (fun i => (i.zero, i.size, i.bytes)) = some (some (.slice none 0 0), 1, 24) := by kernel_rfl
/-- 'append(l, x)' of a number. -/
theorem int_more (base : Nat) (s : Value) (l : List Int) (x : Int) (n ty g0 : Nat) (w : World) (hn : n = l.length) (h : w.ownsRow base 3 1 s n (iv l)) (hb : base ≤ w.heap.size) (hlen : (n + 1) * 8 ≤ 140737488355328)
    (hg0 : w.heap[g0]? = some (.cells #[.int .i64 x] 3 (0, 0))) :
    ∃ g cap w', (Builtin.append_ #[25, 25] ty #[s, .slice (some ⟨g0, 0, none⟩) 1 1]).run Try.prog w = .ok (.slice (some ⟨g, 0, none⟩) (n + 1) cap) w' ∧
      w'.ownsRow base 3 1 (.slice (some ⟨g, 0, none⟩) (n + 1) cap) (n + 1) (iv (l ++ [x])) ∧ Keeps (fun k => s.ownBlock = some k) w w' ∧ (s.ownBlock = some g ∨ w.heap.size ≤ g) := by
  obtain ⟨i0, hi, hz0, hz1, hz2⟩ := info_parts Try.infoInt
  obtain ⟨v', w1, hr, ho, hgr, hm, -⟩ := run_append_moved (P := Try.prog) w base 25 ty 3 i0 _ 1 8 Try.underlying25 hi hz0 hz1 hz2 rfl (by decide) s n _ h
    ⟨g0, 0, none⟩ 1 1 [.int .i64 x] rfl (by
      intro j u hu
      rw [show (⟨g0, 0, none⟩ : Addr).add j = ⟨g0, j, none⟩ by unfold Addr.add; split <;> simp_all, blk_cell hg0]
      simpa using hu) (by
      intro u hu
      simp at hu
      subst hu; rfl) (by unfold maxLen; omega) hlen hb
  obtain ⟨g, cap, rfl⟩ : ∃ g cap, v' = .slice (some ⟨g, 0, none⟩) (n + 1) cap := by
    rcases ho.2 with ⟨_, h0⟩ | ⟨b, cap, cur, rfl, _⟩
    · omega
    · exact ⟨b, cap, rfl⟩
  refine ⟨g, cap, w1, hr, by simpa [iv] using ho, (Keeps.refl _ w).andGrown hgr (fun k e => .inl e), ?_⟩
  rcases hm with hm | ⟨g', e, hg⟩
  · exact .inl (hm.symm.trans rfl)
  · simp [Value.ownBlock] at e; exact .inr (by omega)
/-- n lists of numbers, in rows of their own. -/
structure IsL (w : World) (base g n : Nat) (vs : Nat → Value) (L : Nat → List Int) : Prop where
  outer : w.heap[g]? = some (.cells ((List.range n).map vs).toArray 25 (0, 0))
  low : base ≤ g
  rows : ∀ k, k < n → w.ownsRow base 3 1 (vs k) (L k).length (iv (L k))
  apart : ∀ i j b, i < n → j < n → i ≠ j → (vs i).ownBlock = some b → (vs j).ownBlock ≠ some b
theorem IsL.kept {S : Nat → Prop} {w w' : World} {base g n : Nat} {vs : Nat → Value} {L : Nat → List Int} (h : IsL w base g n vs L) (hk : Keeps S w w') (hS : ¬ S g) (hR : ∀ k b, k < n → (vs k).ownBlock = some b → ¬ S b) : IsL w' base g n vs L :=
  ⟨blk_kept h.outer hk hS, h.low, fun k hkn => row_kept (h.rows k hkn) hk (fun b e => hR k b hkn e), h.apart⟩
theorem IsL.more {w w' : World} {base g n : Nat} {vs : Nat → Value} {L : Nat → List Int} (h : IsL w base g n vs L) (hk : Keeps None w w') : IsL w' base g n vs L := h.kept hk (fun f => f) (fun _ _ _ _ f => f)
/-- Nothing but blocks that are new has been touched. -/
theorem IsL.below {w w' : World} {base g n B : Nat} {vs : Nat → Value} {L : Nat → List Int} (h : IsL w base g n vs L) (hk : Keeps (fun i => B ≤ i) w w') (hB : w.heap.size ≤ B) : IsL w' base g n vs L :=
  h.kept hk (fun e => by have := blk_lt h.outer; omega) (fun k b hkn e hle => by have := own_lt (h.rows k hkn) e; omega)
theorem range_at {α : Type} (n k : Nat) (O : Nat → α) (hk : k < n) : ((List.range n).map O).toArray[k]? = some (O k) := by
  simp [hk]
theorem range_set {α : Type} (n k : Nat) (O : Nat → α) (v : α) : (((List.range n).map O).toArray.setIfInBounds k v) = ((List.range n).map (fun j => if j = k then v else O j)).toArray := by
  apply Array.ext
  · simp
  · intro i h1 h2
    by_cases h : k = i
    · simp [h]
    · simp [h, Ne.symm h]
theorem made_one (z : Value) (hz : z.cells = #[z]) (n : Nat) : madeCells z.cells n = ((List.range n).map (fun _ => z)).toArray := by
  rw [hz]
  apply Array.ext
  · simp [madeCells]
  · intro i h1 h2
    simp [madeCells, Nat.mod_one]
theorem IsL.at {w : World} {base g n : Nat} {vs : Nat → Value} {L : Nat → List Int} (h : IsL w base g n vs L) {k : Nat} (hk : k < n) : w.cell? ⟨g, k, none⟩ = some (vs k) := by
  rw [blk_cell h.outer, range_at n k _ hk]
theorem IsL.start (w : World) (base n : Nat) (hb : base ≤ w.heap.size) : IsL (w.alloc (.cells ((List.range n).map (fun _ => Value.slice none 0 0)).toArray 25)) base w.heap.size n (fun _ => .slice none 0 0) (fun _ => []) :=
  ⟨blk_new _ _ _ rfl, hb, fun k _ => row_nil _ _ _ _, fun i j b _ _ _ e => by simp [Value.ownBlock] at e⟩
def upd {α : Type} (f : Nat → α) (k : Nat) (v : α) (j : Nat) : α := if j = k then v else f j
/-- 'ls[k] = append(ls[k], x)', of which the store is still to come. -/
theorem list_more {w : World} {base g n : Nat} {vs : Nat → Value} {L : Nat → List Int} (h : IsL w base g n vs L) (k : Nat) (hk : k < n) (x : Int) (ty g0 : Nat) (hb : base ≤ w.heap.size) (hlen : ((L k).length + 1) * 8 ≤ 140737488355328)
    (hg0 : w.heap[g0]? = some (.cells #[.int .i64 x] 3 (0, 0))) :
    ∃ b cap w', (Builtin.append_ #[25, 25] ty #[vs k, .slice (some ⟨g0, 0, none⟩) 1 1]).run Try.prog w = .ok (.slice (some ⟨b, 0, none⟩) ((L k).length + 1) cap) w' ∧ w'.cell? ⟨g, k, none⟩ = some (vs k) ∧ w'.frozen? ⟨g, k, none⟩ = false ∧ Keeps (fun i => (vs k).ownBlock = some i) w w' ∧
      IsL (w'.setCell ⟨g, k, none⟩ (.slice (some ⟨b, 0, none⟩) ((L k).length + 1) cap)) base g n (upd vs k (.slice (some ⟨b, 0, none⟩) ((L k).length + 1) cap)) (upd L k (L k ++ [x])) ∧ Keeps (fun i => base ≤ i) w (w'.setCell ⟨g, k, none⟩ (.slice (some ⟨b, 0, none⟩) ((L k).length + 1) cap)) := by
  obtain ⟨b, cap, w', hr, ho, hk2, hm⟩ := int_more base (vs k) (L k) x _ ty g0 w rfl (h.rows k hk) hb hlen hg0
  have hng : ∀ j b, j < n → (vs j).ownBlock = some b → b ≠ g := by
    intro j b hj e e2
    subst e2
    exact absurd (own_type (h.rows j hj) e h.outer) (by decide)
  have hgS : ¬ (vs k).ownBlock = some g := fun e => hng k g hk e rfl
  have hbg : b ≠ g := by
    rcases hm with e | e
    · exact hng k b hk e
    · have := blk_lt h.outer; omega
  have ho2 := blk_kept h.outer hk2 hgS
  have hkS : Keeps (· = g) w' (w'.setCell ⟨g, k, none⟩ (.slice (some ⟨b, 0, none⟩) ((L k).length + 1) cap)) := Keeps.setCell (S := (· = g)) w' rfl _
  refine ⟨_, _, w', hr, by rw [blk_cell ho2, range_at n k _ hk], blk_free ho2 k, hk2, ⟨?_, h.low, fun j hj => ?_, fun i j c hi hj hne e e2 => ?_⟩, ?_⟩
  · rw [blk_set ho2, range_set]
    rfl
  · by_cases e : j = k
    · subst e
      simp only [upd, if_true]
      have := row_kept ho hkS (fun c e => by simp [Value.ownBlock] at e; omega)
      simpa using this
    · simp only [upd, if_neg e]
      exact row_kept (row_kept (h.rows j hj) hk2 (fun c e1 e2 => h.apart j k c hj hk e e1 e2)) hkS (fun c e1 e2 => hng j c hj e1 e2)
  · by_cases e1 : i = k
    · subst e1
      simp only [upd, if_true, if_neg (Ne.symm hne)] at e e2
      have eb : b = c := by simpa [Value.ownBlock] using e
      rcases hm with e3 | e3
      · exact h.apart i j b hi hj hne e3 (eb ▸ e2)
      · have := own_lt (h.rows j hj) e2; omega
    · by_cases e4 : j = k
      · subst e4
        simp only [upd, if_true, if_neg hne] at e e2
        have eb : b = c := by simpa [Value.ownBlock] using e2
        rcases hm with e3 | e3
        · exact h.apart i j b hi hj hne (eb ▸ e) e3
        · have := own_lt (h.rows i hi) e; omega
      · simp only [upd, if_neg e1, if_neg e4] at e e2
        exact h.apart i j c hi hj hne e e2
  · exact (hk2.mono (fun i e _ => row_low (h.rows k hk) e)).trans hkS (fun i e _ => by subst e; exact h.low)
end Go.Proofs.Ytnhoedodnbifdaa
