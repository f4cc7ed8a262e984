import Derived.Test.YtheginjjncnheaaHoCopy
import Derived.Deep.RegionLaw
/-! The search for an order: a state is met. -/
namespace Go.Proofs.Ytheginjjncnheaa
set_option linter.unusedVariables false
set_option maxRecDepth 20000
set_option linter.unusedSimpArgs false
open Go.RowKit Go.HeapKit

abbrev St := C4 × Value × List Int
def stC (most : Nat) (t : St) : List Value := [.int .i64 t.1.a, .int .i64 t.1.b, .int .i64 t.1.c, .int .i64 t.1.d, .int .i64 most, t.2.1]
theorem Try.infoSt : (Try.prog.info? 64).map (fun i => (i.zero, i.size, i.bytes)) = some (some (.agg #[.int .i64 0, .int .i64 0, .int .i64 0, .int .i64 0, .int .i64 0, .slice none 0 0]), 6, 64) := by kernel_rfl
/-- All that a search has. -/
structure Sr (W w : World) (S : Nat) (a : Option Addr) (n c : Nat) (vs : Nat → Value) (mb : Nat) (tv : Value) (l : List Cl) (most : Nat) (M : List (C4 × Int)) (T : List St) : Prop where
  keep : Keeps None W w
  sr : IsSr w S a n c vs mb tv
  slow : W.heap.size ≤ S
  mlow : W.heap.size ≤ mb
  made : Made w W.heap.size vs l l.length
  met : IsMet w mb M
  row : w.ownsRow W.heap.size 64 6 tv T.length (T.flatMap (stC most))
  held : ∀ t ∈ T, Held w t.2.1 t.2.2
section
variable {W w w' : World} {S : Nat} {a : Option Addr} {n c : Nat} {vs : Nat → Value} {mb : Nat} {tv : Value} {l : List Cl} {most : Nat} {M : List (C4 × Int)} {T : List St}
theorem Sr.more (h : Sr W w S a n c vs mb tv l most M T) (hk : Keeps None w w') : Sr W w' S a n c vs mb tv l most M T :=
  ⟨h.keep.trans hk (fun _ f _ => f), h.sr.more hk, h.slow, h.mlow, h.made.more hk, h.met.kept hk (fun f => f), hk.own h.row (fun _ _ f => f), fun t ht => (h.held t ht).kept hk (fun _ _ f => f)⟩
theorem IsMet.ne {b g : Nat} (h : IsMet w b M) {cs : Array Value} {U : TypeId} {fr : Nat × Nat} (hg : w.heap[g]? = some (.cells cs U fr)) : g ≠ b := by
  rintro rfl
  obtain ⟨es, cl, hb, _⟩ := h
  rw [hb] at hg
  cases hg
theorem held_blk {v : Value} {zs : List Int} (h : Held w v zs) {g : Nat} (hg : v.ownBlock = some g) : ∃ cur, w.heap[g]? = some (.cells cur 2 (0, 0)) := by
  rcases h with ⟨rfl, _⟩ | ⟨b, off, cap, cur, rfl, hb, _⟩
  · simp [Value.ownBlock] at hg
  · simp [Value.ownBlock] at hg
    subst hg
    exact ⟨_, hb⟩
/-- The map alone has changed. -/
theorem Sr.mapped (h : Sr W w S a n c vs mb tv l most M T) {M' : List (C4 × Int)} (hk : Keeps (· = mb) w w') (hm : IsMet w' mb M') : Sr W w' S a n c vs mb tv l most M' T := by
  refine ⟨h.keep.trans hk (fun i e hi => by have := h.mlow; omega), ⟨blk_kept h.sr.blk hk (h.met.ne h.sr.blk)⟩, h.slow, h.mlow, h.made.kept hk (fun b _ ⟨cur, hc⟩ => h.met.ne hc), hm, hk.own h.row (fun g e => ?_), fun t ht => (h.held t ht).kept hk (fun g e => ?_)⟩
  · obtain ⟨cur, hc⟩ := own_block h.row e
    exact h.met.ne hc
  · obtain ⟨cur, hc⟩ := held_blk (h.held t ht) e
    exact h.met.ne hc
/-- One state more. -/
theorem Sr.push (h : Sr W w S a n c vs mb tv l most M T) (t : St) (ht : Held w t.2.1 t.2.2) (hl : T.length ≤ 7000000) :
    ∃ g cap w2, (Builtin.append_ #[57, 57] 57 #[tv, .slice (some ⟨w.heap.size, 0, none⟩) 1 1]).run Try.prog (w.alloc (.cells (stC most t).toArray 64)) = .ok (.slice (some ⟨g, 0, none⟩) (T.length + 1) cap) w2 ∧ w2.cell? ⟨S, 6, none⟩ = some tv ∧ w2.frozen? ⟨S, 6, none⟩ = false ∧
      Sr W (w2.setCell ⟨S, 6, none⟩ (.slice (some ⟨g, 0, none⟩) (T.length + 1) cap)) S a n c vs mb (.slice (some ⟨g, 0, none⟩) (T.length + 1) cap) l most M (T ++ [t]) ∧ Keeps (fun k => k = S ∨ tv.ownBlock = some k) w (w2.setCell ⟨S, 6, none⟩ (.slice (some ⟨g, 0, none⟩) (T.length + 1) cap)) ∧ (tv.ownBlock = some g ∨ w.heap.size ≤ g) := by
  have hal := Keeps.alloc None w (.cells (stC most t).toArray 64)
  have h1 := h.more hal
  have ht1 := ht.kept hal (fun _ _ f => f)
  have hg0 := heap_alloc_new w (.cells (stC most t).toArray 64)
  have hv1 : t.2.1.oneCell' = true := by
    rcases ht with ⟨e, _⟩ | ⟨_, _, _, _, e, _⟩ <;> rw [e] <;> rfl
  obtain ⟨i0, hi, hz0, hz1, hz2⟩ := info_parts Try.infoSt
  obtain ⟨v', w2, hr, ho, hgr, hm, -⟩ := run_append_moved (P := Try.prog) (w.alloc (.cells (stC most t).toArray 64)) W.heap.size 57 57 64 i0 _ 6 64 Try.underlying57 hi hz0 hz1 hz2 rfl (by decide) tv T.length (T.flatMap (stC most)) h1.row
    ⟨w.heap.size, 0, none⟩ 1 1 (stC most t) rfl (by
      intro j u hu
      rw [show (⟨w.heap.size, 0, none⟩ : Addr).add j = ⟨w.heap.size, j, none⟩ by unfold Addr.add; split <;> simp_all, blk_cell hg0]
      simpa using hu) (by
      intro u hu
      simp [stC] at hu
      rcases hu with rfl | rfl | rfl | rfl | rfl | rfl
      · rfl
      · rfl
      · rfl
      · rfl
      · rfl
      · exact hv1) (by unfold maxLen; omega) (by omega) (by have := h1.keep.size; omega)
  obtain ⟨g, cap, rfl⟩ : ∃ g cap, v' = .slice (some ⟨g, 0, none⟩) (T.length + 1) cap := by
    rcases ho.2 with ⟨_, h0⟩ | ⟨b, cap, cur, rfl, _⟩
    · omega
    · exact ⟨b, cap, rfl⟩
  have hke : Keeps (fun k => tv.ownBlock = some k) (w.alloc (.cells (stC most t).toArray 64)) w2 := (Keeps.refl _ _).andGrown hgr (fun k e => .inl e)
  have hrowlow : ∀ k, tv.ownBlock = some k → W.heap.size ≤ k := fun k e => row_low h1.row e
  have hnot : ∀ {b : Nat} {cs : Array Value} {U : TypeId}, (w.alloc (.cells (stC most t).toArray 64)).heap[b]? = some (.cells cs U (0, 0)) → U ≠ 64 → ¬ tv.ownBlock = some b := fun hb hU e => hU ((own_type h1.row e hb).symm ▸ rfl)
  have bS := blk_kept h1.sr.blk hke (hnot h1.sr.blk (by decide))
  have kS : Keeps (· = S) w2 (w2.setCell ⟨S, 6, none⟩ (.slice (some ⟨g, 0, none⟩) (T.length + 1) cap)) := Keeps.setCell (S := (· = S)) w2 (a := ⟨S, 6, none⟩) rfl _
  have mkm : ¬ tv.ownBlock = some mb := fun e => by
    obtain ⟨cur, hc⟩ := own_block h1.row e
    exact h1.met.ne hc rfl
  have sm : mb ≠ S := (h1.met.ne h1.sr.blk).symm
  have nS : ∀ {b : Nat} {cs : Array Value} {U : TypeId}, w2.heap[b]? = some (.cells cs U (0, 0)) → U ≠ 59 → ¬ b = S := fun hb hU e => by
    rw [e, bS] at hb
    injection hb with hb
    injection hb with _ hb
    exact hU hb.symm
  refine ⟨g, cap, w2, hr, (blk_cell bS 6).trans rfl, blk_free bS 6, ⟨(h1.keep.trans hke (fun i e hi => by have := hrowlow i e; omega)).trans kS (fun i e hi => by have := h.slow; omega), ⟨by rw [blk_set bS]; rfl⟩, h.slow, h.mlow, (h1.made.kept hke (fun b _ ⟨cur, hc⟩ => hnot hc (by decide))).kept kS (fun b _ ⟨cur, hc⟩ => nS hc (by decide)), (h1.met.kept hke mkm).kept kS sm, ?_, fun t' ht' => ?_⟩, ((hal.mono (T := fun k => k = S ∨ tv.ownBlock = some k) (fun _ f _ => f.elim)).trans hke (fun _ e _ => .inr e)).trans kS (fun _ e _ => .inl e), ?_⟩
  · have e : (T ++ [t]).flatMap (stC most) = T.flatMap (stC most) ++ stC most t := by simp
    rw [e, List.length_append, List.length_singleton]
    exact kS.own ho (fun q eq hq => by
      obtain ⟨cur, hc⟩ := own_block ho eq
      exact nS hc (by decide) hq)
  · have hh : Held (w.alloc (.cells (stC most t).toArray 64)) t'.2.1 t'.2.2 := by
      rcases List.mem_append.1 ht' with h2 | h2
      · exact h1.held t' h2
      · simp at h2
        subst h2
        exact ht1
    have hh2 := hh.kept hke (fun q eq => by obtain ⟨cur, hc⟩ := held_blk hh eq; exact hnot hc (by decide))
    exact hh2.kept kS (fun q eq => by obtain ⟨cur, hc⟩ := held_blk hh2 eq; exact nS hc (by decide))
  · rcases hm with hm | ⟨g', e, hg⟩
    · exact .inl (hm.symm.trans rfl)
    · simp [Value.ownBlock] at e
      exact .inr (by have := hal.size; omega)
end
end Go.Proofs.Ytheginjjncnheaa
