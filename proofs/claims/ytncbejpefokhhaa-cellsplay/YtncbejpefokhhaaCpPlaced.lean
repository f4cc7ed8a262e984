import Derived.Test.YtncbejpefokhhaaCpRPlay
/-! The walk of playPlaced. -/
namespace Go.Proofs.Ytncbejpefokhhaa
set_option linter.unusedVariables false
open Go.RowKit Go.HeapKit

theorem Below.keeps {w w' : World} (h : Below w.heap.size w w') : Keeps None w w' := ⟨h.os, h.tape, h.output, h.size, fun k hk _ => h.block k hk⟩
theorem keepsN {w : World} (m : Nat) : Keeps None w (w.drewN m) := ⟨rfl, rfl, rfl, Nat.le_refl _, fun _ _ _ => rfl⟩
/-- A run, in a variable. -/
structure Boxed (B q : Nat) (w : World) (N : Nat) (A : Ar) (f : Nat → Eff) (ea : Option Addr) (ec : Nat) (ca : Option Addr) (cc : Nat) (la : Option Addr) (lc : Nat) : Prop where
  blk : w.heap[q]? = some (.cells #[.slice ea N ec, .slice ca A.cells.length cc, .slice la A.log.length lc] 27 (0, 0))
  out : RunOut B w N A f ea ec ca cc la lc
section
variable {B q N : Nat} {w w' : World} {A : Ar} {f : Nat → Eff} {ea ca la : Option Addr} {ec cc lc : Nat}
theorem Boxed.kept {S : Nat → Prop} (h : Boxed B q w N A f ea ec ca cc la lc) (hk : Keeps S w w') (hq : ¬ S q) (hS : ∀ b, B ≤ b → b < w.heap.size → ¬ S b) : Boxed B q w' N A f ea ec ca cc la lc :=
  ⟨(hk.block q (Array.getElem?_eq_some_iff.1 h.blk).1 hq).trans h.blk, h.out.kept hk hS⟩
theorem Boxed.more (h : Boxed B q w N A f ea ec ca cc la lc) (hk : Keeps None w w') : Boxed B q w' N A f ea ec ca cc la lc := h.kept hk (fun f => f) (fun _ _ _ f => f)
theorem Boxed.c0 (h : Boxed B q w N A f ea ec ca cc la lc) : w.cell? ⟨q, 0, none⟩ = some (.slice ea N ec) := (cell_of_block h.blk 0).trans rfl
theorem Boxed.c1 (h : Boxed B q w N A f ea ec ca cc la lc) : w.cell? ⟨q, 1, none⟩ = some (.slice ca A.cells.length cc) := (cell_of_block h.blk 1).trans rfl
theorem Boxed.c2 (h : Boxed B q w N A f ea ec ca cc la lc) : w.cell? ⟨q, 2, none⟩ = some (.slice la A.log.length lc) := (cell_of_block h.blk 2).trans rfl
theorem Boxed.new (h : RunOut B w N A f ea ec ca cc la lc) : Boxed B w.heap.size (w.alloc (.cells #[.slice ea N ec, .slice ca A.cells.length cc, .slice la A.log.length lc] 27)) N A f ea ec ca cc la lc :=
  ⟨new_at _ _ _ rfl, h.kept (Keeps.alloc None w _) (fun _ _ _ f => f)⟩
end
theorem cells_small (size : Int) (n : Nat) (M : Nat → Nat → Int) : (runA size n M).cells.length ≤ 1048576 := by
  unfold runA
  by_cases h : errP size n = 0
  · rw [if_pos h]
    obtain ⟨k, rfl, h1, h2⟩ := errP_zero h
    exact stAt_cells _ M n (by simp [Ar.watched]) (by simpa [Ar.watched] using h1)
  · rw [if_neg h]; simp [Ar.new]

set_option maxHeartbeats 8000000 in
set_option maxRecDepth 100000 in
theorem placed_ok (size : Int) (ao : Option Addr) (n c : Nat) (M : Nat → Nat → Int) (w : World) (hM : Fives w ao n M) (hs : n * 40 ≤ 140737488351232) :
    Calls Try.prog 14 #[.int .i64 size, .slice ao n c] w fun e w' => e = .returned (.bool true) ∧ Keeps None w w' := by
  have HM : Hid (Fives w ao n M) := hM
  have hsm := run_small size n M
  have hsm2 := run_small size n (turnM n M)
  have hc1 := cells_small size n M
  have hc2 := cells_small size n (turnM n M)
  clear hM
  go_enter Try.func14, Try.ntmps14
  go_wp2_with fail
  refine (turned_ok ao n c M w HM.out hs).mono ?_
  rintro e w1 ⟨ta, tc, rfl, ht1, hk1⟩
  have H1 : Hid (w1.ownsRow w.heap.size 53 5 (.slice ta n tc) n (actVals (turnM n M) n) ∧ Keeps None w w1) := ⟨ht1, hk1⟩
  clear ht1 hk1
  go_wp2_with fail
  refine (handed_ok ta n tc (turnM n M) w1 (acts_fives H1.out.1) hs).mono ?_
  rintro e w2 ⟨g, L, rfl, hL2, hm2, hg2, hk2⟩
  have H2 : Hid (w2.ownsRow w.heap.size 53 5 (.slice ta n tc) n (actVals (turnM n M) n) ∧ Keeps None w w2 ∧ Laid w2 g n n (turnM n M) L ∧ Marks L n ∧ w1.heap.size ≤ g ∧ (∀ b, (Value.slice ta n tc).ownBlock = some b → b < w1.heap.size) ∧ w.heap.size ≤ w1.heap.size) := ⟨hk2.own H1.out.1 (fun _ _ f => f), H1.out.2.trans hk2 (fun _ f _ => f), hL2, hm2, hg2, fun b e => own_lt H1.out.1 e, H1.out.2.size⟩
  clear hL2 hm2 hg2 hk2 H1
  go_wp2_with fail
  refine (play_all size (some ⟨g, 0, none⟩) n (n + 2) (turnM n M) w2 H2.out.2.2.1.fives hs).mono ?_
  rintro e w3 ⟨e1, c1, l1, rfl, hO3, hb3⟩
  have hk3 := Below.keeps hb3
  obtain ⟨q1, hq1⟩ : ∃ q1, q1 = w3.heap.size := ⟨_, rfl⟩
  have hal3 := Keeps.alloc None w3 (.cells #[.slice e1 (runN size n) (runN size n), .slice c1 (runA size n (turnM n M)).cells.length (runA size n (turnM n M)).cells.length, .slice l1 (runA size n (turnM n M)).log.length (runA size n (turnM n M)).log.length] 27)
  have H3 : Hid (∀ W, Keeps None w3 W → True) := fun _ _ => trivial
  obtain ⟨W3, hW3⟩ : ∃ W3, W3 = w3.alloc (.cells #[.slice e1 (runN size n) (runN size n), .slice c1 (runA size n (turnM n M)).cells.length (runA size n (turnM n M)).cells.length, .slice l1 (runA size n (turnM n M)).log.length (runA size n (turnM n M)).log.length] 27) := ⟨_, rfl⟩
  have HB3 : Hid (Boxed w2.heap.size q1 W3 (runN size n) (runA size n (turnM n M)) (runF size (turnM n M)) e1 (runN size n) c1 (runA size n (turnM n M)).cells.length l1 (runA size n (turnM n M)).log.length ∧ Keeps None w2 W3) := by
    rw [hW3, hq1]; exact ⟨Boxed.new hO3, hk3.trans (Keeps.alloc None w3 _) (fun _ f _ => f)⟩
  clear H3 hal3 hO3 hb3 hk3
  go_wp2_with fail
  rw [← hq1, ← hW3]
  clear hW3 hq1
  have hgne : 0 < n → ∀ b off, ao = some ⟨b, off, none⟩ → b < w.heap.size := fun h0 b off e => by
    obtain ⟨b', off', e', hb, -⟩ := HM.out h0
    rw [e] at e'
    injection e' with e'
    injection e' with e1
    omega
  have HGN : Hid (0 < n → ∀ b off, ao = some ⟨b, off, none⟩ → b < w.heap.size) := hgne
  clear hgne
  refine (lay_ok ao n c g (n + 2) M (turnM n M) L W3 (H2.out.2.2.1.kept HB3.out.2 (fun f => f)) H2.out.2.2.2.1 ((HM.out.kept H2.out.2.1 (fun _ _ _ _ _ f => f)).kept HB3.out.2 (fun _ _ _ _ _ f => f)) (fun h0 b off e => by have := HGN.out h0 b off e; have := H2.out.2.2.2.2.1; have := H2.out.2.2.2.2.2.2; omega) hs).mono ?_
  rintro e w4 ⟨rfl, ⟨L4, hL4, hm4⟩, hk4⟩
  have hg1 := H2.out.2.2.2.2.1
  have hgl := H2.out.2.2.1.lt
  have H4 : Hid (w4.ownsRow w.heap.size 53 5 (.slice ta n tc) n (actVals (turnM n M) n) ∧ Keeps None w w4 ∧ Laid w4 g n n M L4 ∧ Marks L4 n ∧ Boxed w2.heap.size q1 w4 (runN size n) (runA size n (turnM n M)) (runF size (turnM n M)) e1 (runN size n) c1 (runA size n (turnM n M)).cells.length l1 (runA size n (turnM n M)).log.length) := by
    refine ⟨hk4.own (HB3.out.2.own H2.out.1 (fun _ _ f => f)) (fun b e e2 => by have := H2.out.2.2.2.2.2.1 b e; omega), (H2.out.2.1.trans HB3.out.2 (fun _ f _ => f)).trans hk4 (fun i e hi => by have := H2.out.2.2.2.2.2.2; omega), hL4, hm4, HB3.out.1.kept hk4 (fun e => ?_) (fun b h1 h2 e => by omega)⟩
    have := HB3.out.1.blk
    rw [e, (H2.out.2.2.1.kept HB3.out.2 (fun f => f)).blk] at this
    simp at this
  clear hL4 hm4 hk4 HB3
  go_wp2_with fail
  refine (play_all size (some ⟨g, 0, none⟩) n (n + 2) M w4 H4.out.2.2.1.fives hs).mono ?_
  rintro e w5 ⟨e2, c2, l2, rfl, hO5, hb5⟩
  have hk5 := Below.keeps hb5
  obtain ⟨q2, hq2⟩ : ∃ q2, q2 = w5.heap.size := ⟨_, rfl⟩
  obtain ⟨W5, hW5⟩ : ∃ W5, W5 = w5.alloc (.cells #[.slice e2 (runN size n) (runN size n), .slice c2 (runA size n M).cells.length (runA size n M).cells.length, .slice l2 (runA size n M).log.length (runA size n M).log.length] 27) := ⟨_, rfl⟩
  have H5 : Hid (Boxed w4.heap.size q2 W5 (runN size n) (runA size n M) (runF size M) e2 (runN size n) c2 (runA size n M).cells.length l2 (runA size n M).log.length ∧ Keeps None w4 W5) := by
    rw [hW5, hq2]; exact ⟨Boxed.new hO5, hk5.trans (Keeps.alloc None w5 _) (fun _ f _ => f)⟩
  clear hO5 hb5 hk5
  go_wp2_with fail
  rw [← hq2, ← hW5]
  clear hW5 hq2
  refine (rplay_all size ta n tc (turnM n M) W5 (acts_fives (H5.out.2.own H4.out.1 (fun _ _ f => f))) hs).mono ?_
  rintro e w6 ⟨e3, x3, c3, y3, l3, z3, rfl, hO6, hk6⟩
  obtain ⟨q3, hq3⟩ : ∃ q3, q3 = w6.heap.size := ⟨_, rfl⟩
  obtain ⟨W6, hW6⟩ : ∃ W6, W6 = w6.alloc (.cells #[.slice e3 (runN size n) x3, .slice c3 (runA size n (turnM n M)).cells.length y3, .slice l3 (runA size n (turnM n M)).log.length z3] 27) := ⟨_, rfl⟩
  have H6 : Hid (Boxed W5.heap.size q3 W6 (runN size n) (runA size n (turnM n M)) (runF size (turnM n M)) e3 x3 c3 y3 l3 z3 ∧ Keeps None W5 W6) := by
    rw [hW6, hq3]; exact ⟨Boxed.new hO6, hk6.trans (Keeps.alloc None w6 _) (fun _ f _ => f)⟩
  clear hO6 hk6
  go_wp2_with fail
  rw [← hq3, ← hW6]
  clear hW6 hq3
  refine (rplay_all size ao n c M W6 (((HM.out.kept H4.out.2.1 (fun _ _ _ _ _ f => f)).kept H5.out.2 (fun _ _ _ _ _ f => f)).kept H6.out.2 (fun _ _ _ _ _ f => f)) hs).mono ?_
  rintro e w7 ⟨e4, x4, c4, y4, l4, z4, rfl, hO7, hk7⟩
  obtain ⟨q4, hq4⟩ : ∃ q4, q4 = w7.heap.size := ⟨_, rfl⟩
  obtain ⟨W7, hW7⟩ : ∃ W7, W7 = w7.alloc (.cells #[.slice e4 (runN size n) x4, .slice c4 (runA size n M).cells.length y4, .slice l4 (runA size n M).log.length z4] 27) := ⟨_, rfl⟩
  have H7 : Hid (Boxed W6.heap.size q4 W7 (runN size n) (runA size n M) (runF size M) e4 x4 c4 y4 l4 z4 ∧ Keeps None W6 W7) := by
    rw [hW7, hq4]; exact ⟨Boxed.new hO7, hk7.trans (Keeps.alloc None w7 _) (fun _ f _ => f)⟩
  clear hO7 hk7
  have hk57 := H5.out.2.trans (H6.out.2.trans H7.out.2 (fun _ f _ => f)) (fun _ f _ => f)
  have B1 := H4.out.2.2.2.2.more hk57
  have B2 := H5.out.1.more (H6.out.2.trans H7.out.2 (fun _ f _ => f))
  have B3 := H6.out.1.more H7.out.2
  have B4 := H7.out.1
  have HL : Hid (Laid W7 g n n M L4 ∧ Marks L4 n ∧ Fives W7 ao n M ∧ Keeps None w W7) := ⟨H4.out.2.2.1.kept hk57 (fun f => f), H4.out.2.2.2.1, (HM.out.kept H4.out.2.1 (fun _ _ _ _ _ f => f)).kept hk57 (fun _ _ _ _ _ f => f), H4.out.2.1.trans hk57 (fun _ f _ => f)⟩
  have k10 := B1.c0
  have k11 := B1.c1
  have k12 := B1.c2
  have k20 := B2.c0
  have k21 := B2.c1
  have k22 := B2.c2
  have k30 := B3.c0
  have k31 := B3.c1
  have k32 := B3.c2
  have k40 := B4.c0
  have k41 := B4.c1
  have k42 := B4.c2
  have O1 : Hid (RunOut 0 W7 (runN size n) (runA size n (turnM n M)) (runF size (turnM n M)) e1 (runN size n) c1 (runA size n (turnM n M)).cells.length l1 (runA size n (turnM n M)).log.length ∧ RunOut 0 W7 (runN size n) (runA size n (turnM n M)) (runF size (turnM n M)) e3 x3 c3 y3 l3 z3) := ⟨⟨own_base B1.out.eff (fun _ _ => Nat.zero_le _), own_base B1.out.cel (fun _ _ => Nat.zero_le _), own_base B1.out.log (fun _ _ => Nat.zero_le _)⟩, ⟨own_base B3.out.eff (fun _ _ => Nat.zero_le _), own_base B3.out.cel (fun _ _ => Nat.zero_le _), own_base B3.out.log (fun _ _ => Nat.zero_le _)⟩⟩
  have O2 : Hid (RunOut 0 W7 (runN size n) (runA size n M) (runF size M) e2 (runN size n) c2 (runA size n M).cells.length l2 (runA size n M).log.length ∧ RunOut 0 W7 (runN size n) (runA size n M) (runF size M) e4 x4 c4 y4 l4 z4) := ⟨⟨own_base B2.out.eff (fun _ _ => Nat.zero_le _), own_base B2.out.cel (fun _ _ => Nat.zero_le _), own_base B2.out.log (fun _ _ => Nat.zero_le _)⟩, ⟨own_base B4.out.eff (fun _ _ => Nat.zero_le _), own_base B4.out.cel (fun _ _ => Nat.zero_le _), own_base B4.out.log (fun _ _ => Nat.zero_le _)⟩⟩
  clear B1 B2 B3 B4 H2 H4 H5 H6 H7 HM hk57
  subst hq4
  generalize errP size n = er at *
  generalize runN size n = N at *
  rw [hW7] at k10 k11 k12 k20 k21 k22 k30 k31 k32 k40 k41 k42
  go_wp2_with fail
  rw [← hW7]
  refine (sameEff_ok e1 e3 N _ _ _ W7 (SeenE.of_row O1.out.1.eff) (SeenE.of_row O1.out.2.eff) (by omega)).mono ?_
  rintro e w8 ⟨rfl, m8, rfl⟩
  rw [← hW7] at k10 k11 k12 k20 k21 k22 k30 k31 k32 k40 k41 k42
  clear hW7
  go_wp2_with fail
  refine (sameNumbers_same _ _ (runA size n (turnM n M)).cells (W7.drewN m8) ((keepsN m8).own O1.out.1.cel (fun _ _ f => f)) ((keepsN m8).own O1.out.2.cel (fun _ _ f => f)) (by omega)).mono ?_
  rintro e w9 ⟨rfl, m9, rfl⟩
  go_wp2_with fail
  refine (sameLog_same _ _ (runA size n (turnM n M)).log _ ((keepsN _).own O1.out.1.log (fun _ _ f => f)) ((keepsN _).own O1.out.2.log (fun _ _ f => f)) (by omega)).mono ?_
  rintro e w10 ⟨rfl, m10, rfl⟩
  go_wp2_with fail
  refine (sameEff_ok e2 e4 N _ _ _ _ (SeenE.of_row ((keepsN _).own O2.out.1.eff (fun _ _ f => f))) (SeenE.of_row ((keepsN _).own O2.out.2.eff (fun _ _ f => f))) (by omega)).mono ?_
  rintro e w11 ⟨rfl, m11, rfl⟩
  go_wp2_with fail
  refine (sameNumbers_same _ _ (runA size n M).cells _ ((keepsN _).own O2.out.1.cel (fun _ _ f => f)) ((keepsN _).own O2.out.2.cel (fun _ _ f => f)) (by omega)).mono ?_
  rintro e w12 ⟨rfl, m12, rfl⟩
  go_wp2_with fail
  refine (sameLog_same _ _ (runA size n M).log _ ((keepsN _).own O2.out.1.log (fun _ _ f => f)) ((keepsN _).own O2.out.2.log (fun _ _ f => f)) (by omega)).mono ?_
  rintro e w13 ⟨rfl, m13, rfl⟩
  go_wp2_with fail
  refine (untouched_ok ao n c g (n + 2) M L4 _ (HL.out.1.kept (keepsN _) (fun f => f)) HL.out.2.1 (HL.out.2.2.1.kept (keepsN _) (fun _ _ _ _ _ f => f)) hs).mono ?_
  rintro e w14 ⟨rfl, hk14⟩
  have HE : Hid (Keeps None w w14) := (HL.out.2.2.2.trans (keepsN _) (fun _ f _ => f)).trans hk14 (fun _ f _ => f)
  clear hk14
  go_wp2_with fail
  go_ret
  exact ⟨rfl, HE.out⟩
end Go.Proofs.Ytncbejpefokhhaa
