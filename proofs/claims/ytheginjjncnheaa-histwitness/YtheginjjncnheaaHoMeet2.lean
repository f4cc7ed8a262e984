import Derived.Test.YtheginjjncnheaaHoMeet
import Derived.Deep.RegionHeld3
import Derived.Deep.RegionLaw
/-! The search for an order: 'meet'. -/
namespace Go.Proofs.Ytheginjjncnheaa
set_option linter.unusedVariables false
set_option maxRecDepth 20000
set_option linter.unusedSimpArgs false
open Go.RowKit Go.HeapKit

set_option maxHeartbeats 2000000 in
theorem meet_ok (W w : World) (S : Nat) (a : Option Addr) (n c : Nat) (vs : Nat → Value) (mb : Nat) (tv : Value) (l : List Cl) (most : Nat) (M : List (C4 × Int)) (T : List St) (x : C4) (v : Value) (zs : List Int) (by_ : Int) (h : Sr W w S a n c vs mb tv l most M T) (hv : Held w v zs) (hM : lookM M x = none) (hl : T.length ≤ 7000000) :
    Calls Try.prog 20 #[.pointer (some ⟨S, 0, none⟩), .agg #[.int .i64 x.a, .int .i64 x.b, .int .i64 x.c, .int .i64 x.d, .int .i64 most, v], .int .i64 by_] w fun e w' => e = .returned (.tuple #[]) ∧ ∃ tv', Sr W w' S a n c vs mb tv' l most (M ++ [(x, by_)]) (T ++ [(x, v, zs)]) ∧ Keeps (fun k => k = S ∨ k = mb ∨ tv.ownBlock = some k) w w' ∧ (∀ g, tv'.ownBlock = some g → tv.ownBlock = some g ∨ w.heap.size ≤ g) := by
  have hal := Keeps.alloc None w (.cells #[.int .i64 x.a, .int .i64 x.b, .int .i64 x.c, .int .i64 x.d, .int .i64 most, v] 64)
  have bX := heap_alloc_new w (.cells #[.int .i64 x.a, .int .i64 x.b, .int .i64 x.c, .int .i64 x.d, .int .i64 most, v] 64)
  obtain ⟨W1, hW1⟩ : ∃ W1, W1 = w.alloc (.cells #[.int .i64 x.a, .int .i64 x.b, .int .i64 x.c, .int .i64 x.d, .int .i64 most, v] 64) := ⟨_, rfl⟩
  obtain ⟨X, hX⟩ : ∃ X, X = w.heap.size := ⟨_, rfl⟩
  rw [← hW1] at hal bX
  rw [← hX] at bX
  have h1 := h.more hal
  have hv1 := hv.kept hal (fun _ _ f => f)
  have m1 := h1.met.kept (Keeps.drew None W1) (fun f => f)
  obtain ⟨W2, hmu, m2, k2⟩ := m1.put hM by_
  have hmu2 : (Instr.mapUpdate 56 (.map (some mb)) (.agg #[.int .i64 x.a, .int .i64 x.b, .int .i64 x.c, .int .i64 x.d]) (.int .i64 by_)).run Try.prog W1.drew = .ok () W2 := hmu
  have h1d := h1.more (Keeps.drew None W1)
  have h2 := h1d.mapped k2 m2
  have bX2 := blk_kept (blk_kept bX (Keeps.drew None W1) (fun f => f)) k2 (h1d.met.ne (blk_kept bX (Keeps.drew None W1) (fun f => f)))
  have hv2 : Held W2 v zs := (hv1.kept (Keeps.drew None W1) (fun _ _ f => f)).kept k2 (fun g e => by obtain ⟨cur, hc⟩ := held_blk (hv1.kept (Keeps.drew None W1) (fun _ _ f => f)) e; exact h1d.met.ne hc)
  have s5 : W1.cell? ⟨S, 5, none⟩ = some (.map (some mb)) := (blk_cell h1.sr.blk 5).trans rfl
  have x0 : W1.cell? ⟨X, 0, none⟩ = some (.int .i64 x.a) := (blk_cell bX 0).trans rfl
  have x1 : W1.cell? ⟨X, 1, none⟩ = some (.int .i64 x.b) := (blk_cell bX 1).trans rfl
  have x2 : W1.cell? ⟨X, 2, none⟩ = some (.int .i64 x.c) := (blk_cell bX 2).trans rfl
  have x3 : W1.cell? ⟨X, 3, none⟩ = some (.int .i64 x.d) := (blk_cell bX 3).trans rfl
  have H2 : Hid (Sr W W2 S a n c vs mb tv l most (M ++ [(x, by_)]) T ∧ Held W2 v zs ∧ W2.heap[X]? = some (.cells #[.int .i64 x.a, .int .i64 x.b, .int .i64 x.c, .int .i64 x.d, .int .i64 most, v] 64 (0, 0)) ∧ Keeps (· = mb) w W2) := ⟨h2, hv2, bX2, (hal.mono (T := (· = mb)) (fun _ f _ => f.elim)).andDrew.trans k2 (fun _ e _ => e)⟩
  clear h hv hM hal bX h1 hv1 m1 m2 k2 hmu h1d h2 bX2 hv2
  go_enter Try.func20, Try.ntmps20
  go_upto_region 1 with fail
  rw [← hW1, ← hX]
  clear hW1 hX
  go_region
  clear hmu2 s5 x0 x1 x2 x3
  obtain ⟨ta, tc, etv⟩ : ∃ ta tc, tv = .slice ta T.length tc := by
    rcases H2.out.1.row.2 with ⟨e, h0⟩ | ⟨g, cap, cur, e, _⟩
    · exact ⟨none, 0, by rw [e, h0]⟩
    · exact ⟨_, _, e⟩
  subst etv
  have kd := Keeps.drew None W2
  have h2d := H2.out.1.more kd
  have hvd := H2.out.2.1.kept kd (fun _ _ f => f)
  obtain ⟨g, cap, w2, hr, c6, f6, h3, kp, mp⟩ := h2d.push (x, v, zs) hvd hl
  have s6 : W2.cell? ⟨S, 6, none⟩ = some (.slice ta T.length tc) := (blk_cell H2.out.1.sr.blk 6).trans rfl
  have bX := H2.out.2.2.1
  have x0 : W2.cell? ⟨X, 0, none⟩ = some (.int .i64 x.a) := (blk_cell bX 0).trans rfl
  have x1 : W2.cell? ⟨X, 1, none⟩ = some (.int .i64 x.b) := (blk_cell bX 1).trans rfl
  have x2 : W2.cell? ⟨X, 2, none⟩ = some (.int .i64 x.c) := (blk_cell bX 2).trans rfl
  have x3 : W2.cell? ⟨X, 3, none⟩ = some (.int .i64 x.d) := (blk_cell bX 3).trans rfl
  have x4 : W2.cell? ⟨X, 4, none⟩ = some (.int .i64 most) := (blk_cell bX 4).trans rfl
  have x5 : W2.cell? ⟨X, 5, none⟩ = some v := (blk_cell bX 5).trans rfl
  have hr1 : (Builtin.append_ #[57, 57] 57 #[.slice ta T.length tc, .slice (some ⟨W2.heap.size, 0, none⟩) 1 1]).run Try.prog (W2.drew.alloc (.cells #[.int .i64 x.a, .int .i64 x.b, .int .i64 x.c, .int .i64 x.d, .int .i64 most, v] 64)) = .ok (.slice (some ⟨g, 0, none⟩) (T.length + 1) cap) w2 := hr
  have hr2 : (Builtin.append_ #[57, 57] 57 #[.slice ta T.length tc, .slice (some ⟨W2.heap.size, 0, none⟩) 1 1]).run Try.prog (W2.alloc (.cells #[.int .i64 x.a, .int .i64 x.b, .int .i64 x.c, .int .i64 x.d, .int .i64 most, v] 64)).drew = .ok (.slice (some ⟨g, 0, none⟩) (T.length + 1) cap) w2 := hr
  have hal2 := Keeps.alloc None W2 (.cells #[.int .i64 x.a, .int .i64 x.b, .int .i64 x.c, .int .i64 x.d, .int .i64 most, v] 64)
  have s6a := hal2.cell s6 (fun f => f)
  have HF : Hid (Sr W (w2.setCell ⟨S, 6, none⟩ (.slice (some ⟨g, 0, none⟩) (T.length + 1) cap)) S a n c vs mb (.slice (some ⟨g, 0, none⟩) (T.length + 1) cap) l most (M ++ [(x, by_)]) (T ++ [(x, v, zs)]) ∧ Keeps (fun k => k = S ∨ k = mb ∨ (Value.slice ta T.length tc).ownBlock = some k) w (w2.setCell ⟨S, 6, none⟩ (.slice (some ⟨g, 0, none⟩) (T.length + 1) cap)) ∧ (∀ g', (Value.slice (some ⟨g, 0, none⟩) (T.length + 1) cap).ownBlock = some g' → (Value.slice ta T.length tc).ownBlock = some g' ∨ w.heap.size ≤ g')) := ⟨h3, ((H2.out.2.2.2.mono (T := fun k => k = S ∨ k = mb ∨ (Value.slice ta T.length tc).ownBlock = some k) (fun _ e _ => .inr (.inl e))).andDrew).trans kp (fun _ e _ => by rcases e with e | e; exact .inl e; exact .inr (.inr e)), fun g' e => by
      have e' : g = g' := by simpa [Value.ownBlock] using e
      subst e'
      rcases mp with mp | mp
      · exact .inl mp
      · exact .inr (Nat.le_trans H2.out.2.2.2.size mp)⟩
  obtain ⟨L, hL⟩ : ∃ L, L = T.length := ⟨_, rfl⟩
  rw [← hL] at hr1 hr2 s6 s6a c6 HF
  have HL : Hid (L = T.length) := hL
  clear kd h2d hvd hr h3 bX hal2 hL H2 kp mp
  go_upto_region 2 with fail
  go_region_law (first | (with_reducible refine step_append_run rfl (.tmp 17) (.tmp 19) 57 57 rfl (by simp [Act.eval]) (by simp [Act.eval]) hr2 ?_) | (refine step_append_run rfl (.tmp 17) (.tmp 19) 57 57 rfl (by simp [Act.eval]) (by simp [Act.eval]) hr1 ?_))
  all_goals go_wp2_with fail
  all_goals go_end0
  all_goals (have q := HF.out; rw [HL.out] at q; rw [HL.out]; exact ⟨rfl, _, q⟩)
end Go.Proofs.Ytheginjjncnheaa
