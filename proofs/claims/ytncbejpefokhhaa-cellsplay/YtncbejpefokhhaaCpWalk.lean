import Derived.Test.YtncbejpefokhhaaCpPlaced
import Derived.Test.YtncbejpefokhhaaCpStands2
/-! The walk of CellsPlay. -/
namespace Go.Proofs.Ytncbejpefokhhaa
set_option linter.unusedVariables false
open Go.RowKit Go.HeapKit

/-- 'append(effects, x)', whatever is there. -/
theorem effs_more (s : Value) (l : List Value) (v : Int) (n ty g0 : Nat) (w : World) (h : w.ownsRow 0 41 3 s n l) (hn : n ≤ 8192)
    (hg0 : w.heap[g0]? = some (.cells #[.int .i64 v, .bool false, .int .i64 0] 41 (0, 0))) :
    ∃ g cap w', (Builtin.append_ #[23, 23] ty #[s, .slice (some ⟨g0, 0, none⟩) 1 1]).run Try.prog w = .ok (.slice (some ⟨g, 0, none⟩) (n + 1) cap) w' ∧
      (∃ l', w'.ownsRow 0 41 3 (.slice (some ⟨g, 0, none⟩) (n + 1) cap) (n + 1) l') ∧ Keeps (fun k => s.ownBlock = some k) w w' ∧ (s.ownBlock = some g ∨ w.heap.size ≤ g) := by
  obtain ⟨i0, hi, hz0, hz1, hz2⟩ := info_parts Try.infoEff
  obtain ⟨v', w1, hr, ho, hgr, hm, -⟩ := run_append_moved (P := Try.prog) w 0 23 ty 41 i0 _ 3 24 Try.underlying23 hi hz0 hz1 hz2 rfl (by decide) s n _ h
    ⟨g0, 0, none⟩ 1 1 [.int .i64 v, .bool false, .int .i64 0] rfl (by
      intro j u hu
      rw [show (⟨g0, 0, none⟩ : Addr).add j = ⟨g0, j, none⟩ by unfold Addr.add; split <;> simp_all, cell_of_block hg0]
      simpa using hu) (by
      intro u hu
      simp at hu
      rcases hu with rfl | rfl | rfl <;> rfl) (by unfold maxLen; omega) (by omega) (Nat.zero_le _)
  obtain ⟨g, cap, rfl⟩ : ∃ g cap, v' = .slice (some ⟨g, 0, none⟩) (n + 1) cap := by
    rcases ho.2 with ⟨_, h0⟩ | ⟨b, cap, cur, rfl, _⟩
    · omega
    · exact ⟨b, cap, rfl⟩
  refine ⟨g, cap, w1, hr, ⟨_, ho⟩, (Keeps.refl _ w).andGrown hgr (fun k e => .inl e), ?_⟩
  rcases hm with hm | ⟨g', e, hg⟩
  · exact .inl (hm.symm.trans rfl)
  · simp [Value.ownBlock] at e; exact .inr (by omega)
theorem eff_cells {w : World} {a : Option Addr} {n c k : Nat} {l : List Value} (h : w.ownsRow 0 41 3 (.slice a n c) n l) (hk : k < n) :
    ∃ g v0 v1 v2, a = some ⟨g, 0, none⟩ ∧ w.cell? ⟨g, k * 3, none⟩ = some v0 ∧ w.cell? ⟨g, k * 3 + 1, none⟩ = some v1 ∧ w.cell? ⟨g, k * 3 + 2, none⟩ = some v2 ∧ ∀ i, w.frozen? ⟨g, i, none⟩ = false := by
  rcases h.2 with ⟨_, h1⟩ | ⟨g, cap, cur, hv, hbg, hg, hnc, hcm, hcs, htake⟩
  · omega
  · injection hv with e1 e2 e3
    subst e1 e3
    have : n * 3 ≤ cur.size := by rw [hcs]; exact Nat.mul_le_mul_right _ hnc
    exact ⟨g, _, _, _, rfl, (cell_of_block hg _).trans (Array.getElem?_eq_getElem (by omega)), (cell_of_block hg _).trans (Array.getElem?_eq_getElem (by omega)), (cell_of_block hg _).trans (Array.getElem?_eq_getElem (by omega)), fun i => free_of_block hg i⟩
theorem book_new (w : World) (pb : Nat) (h : w.heap[pb]? = some (.cells #[.slice none 0 0, .slice none 0 0, .int .i64 0] 36 (0, 0))) : IsBook w pb (.slice none 0 0) (.slice none 0 0) 0 0 0 [] [] :=
  ⟨h, World.ownsRow_nil _ _ _ _, World.ownsRow_nil _ _ _ _⟩
/-- Where a run's lists lie. -/
def Lies (lo hi : Nat) (N nc nl : Nat) (ea : Option Addr) (ec : Nat) (ca : Option Addr) (cc : Nat) (la : Option Addr) (lc : Nat) : Prop :=
  (∀ b, (Value.slice ea N ec).ownBlock = some b → lo ≤ b ∧ b < hi) ∧ (∀ b, (Value.slice ca nc cc).ownBlock = some b → lo ≤ b ∧ b < hi) ∧ (∀ b, (Value.slice la nl lc).ownBlock = some b → lo ≤ b ∧ b < hi)
theorem RunOut.lies {B N : Nat} {w : World} {A : Ar} {f : Nat → Eff} {ea ca la : Option Addr} {ec cc lc : Nat} (h : RunOut B w N A f ea ec ca cc la lc) : Lies B w.heap.size N A.cells.length A.log.length ea ec ca cc la lc :=
  ⟨fun b e => ⟨own_low h.eff e, own_lt h.eff e⟩, fun b e => ⟨own_low h.cel e, own_lt h.cel e⟩, fun b e => ⟨own_low h.log e, own_lt h.log e⟩⟩

theorem RunOut.base {B N : Nat} {w : World} {A : Ar} {f : Nat → Eff} {ea ca la : Option Addr} {ec cc lc : Nat} (h : RunOut B w N A f ea ec ca cc la lc) : RunOut 0 w N A f ea ec ca cc la lc :=
  ⟨own_base h.eff (fun _ _ => Nat.zero_le _), own_base h.cel (fun _ _ => Nat.zero_le _), own_base h.log (fun _ _ => Nat.zero_le _)⟩
theorem own_of_block {a : Option Addr} {b n c : Nat} (h : blockOf a = some b) : (Value.slice a n c).ownBlock = some b := by
  cases a with
  | none => simp [blockOf] at h
  | some x => simp [blockOf] at h; simp [Value.ownBlock, h]
theorem moved_far {w : World} {v : Value} {s : Nat} (h : Moved w (.slice none 0 0) v) (hs : s < w.heap.size) : ∀ b, v.ownBlock = some b → s < b := by
  intro b e
  rcases h with h | ⟨g, h, hg⟩
  · rw [h] at e; simp [Value.ownBlock] at e
  · rw [h] at e; simp at e; omega
/-- An entry's lists lie apart from the second run's. -/
def Off (s3 s4 : Nat) (x : KI) : Prop := (∀ b, blockOf x.ao = some b → b < s3 ∨ s4 < b) ∧ (∀ b, blockOf x.a1 = some b ∨ blockOf x.a2 = some b ∨ blockOf x.a3 = some b → b < s3 ∨ s4 < b)
/-- What stays while the first run is spoilt. -/
structure Rest (w : World) (s1 s4 g N : Nat) (A : Ar) (F : Nat → Eff) (e5 : Option Addr) (x5 : Nat) (c5 : Option Addr) (y5 : Nat) (l5 : Option Addr) (z5 : Nat) (e11 c11 l11 : Option Addr) (n : Nat) (M : Nat → Nat → Int) (L : Array Value) (wr : World) : Prop where
  kw : Keeps None w wr
  b1 : wr.heap[s1]? = some (.cells #[.slice e5 N x5, .slice c5 A.cells.length y5, .slice l5 A.log.length z5] 27 (0, 0))
  o1 : RunOut 0 wr N A F e5 x5 c5 y5 l5 z5
  b4 : wr.heap[s4]? = some (.cells #[.slice e11 N N, .slice c11 A.cells.length A.cells.length, .slice l11 A.log.length A.log.length] 27 (0, 0))
  o4 : RunOut 0 wr N A F e11 N c11 A.cells.length l11 A.log.length
  laid : Laid wr g n n M L
theorem Rest.kept {w : World} {s1 s3 s4 g N : Nat} {A : Ar} {F : Nat → Eff} {e5 : Option Addr} {x5 : Nat} {c5 : Option Addr} {y5 : Nat} {l5 : Option Addr} {z5 : Nat} {e11 c11 l11 : Option Addr} {n : Nat} {M : Nat → Nat → Int} {L : Array Value} {wr wr' : World} {S : Nat → Prop}
    (h : Rest w s1 s4 g N A F e5 x5 c5 y5 l5 z5 e11 c11 l11 n M L wr) (r1 : Lies w.heap.size s1 N A.cells.length A.log.length e5 x5 c5 y5 l5 z5) (r3 : Lies (s3 + 1) s4 N A.cells.length A.log.length e11 N c11 A.cells.length l11 A.log.length) (r4 : w.heap.size ≤ s1) (r8 : s3 + 1 ≤ s4)
    (hk : Keeps S wr wr') (hS : ∀ b, (b ≤ s1 ∨ b = g ∨ (s3 + 1 ≤ b ∧ b ≤ s4)) → ¬ S b) : Rest w s1 s4 g N A F e5 x5 c5 y5 l5 z5 e11 c11 l11 n M L wr' := by
  refine ⟨h.kw.trans hk (fun i e hi => absurd e (hS i (.inl (by omega)))), (hk.block s1 (Array.getElem?_eq_some_iff.1 h.b1).1 (hS _ (.inl (Nat.le_refl _)))).trans h.b1, ⟨hk.own h.o1.eff (fun b e => hS b (.inl ?_)), hk.own h.o1.cel (fun b e => hS b (.inl ?_)), hk.own h.o1.log (fun b e => hS b (.inl ?_))⟩, ?_, ⟨hk.own h.o4.eff (fun b e => hS b (.inr (.inr ?_))), hk.own h.o4.cel (fun b e => hS b (.inr (.inr ?_))), hk.own h.o4.log (fun b e => hS b (.inr (.inr ?_)))⟩, h.laid.kept hk (hS _ (.inr (.inl rfl)))⟩
  · have := r1.1 _ e; omega
  · have := r1.2.1 _ e; omega
  · have := r1.2.2 _ e; omega
  · exact (hk.block s4 (Array.getElem?_eq_some_iff.1 h.b4).1 (hS _ (.inr (.inr ⟨r8, Nat.le_refl _⟩)))).trans h.b4
  · have := r3.1 _ e; omega
  · have := r3.2.1 _ e; omega
  · have := r3.2.2 _ e; omega

set_option maxHeartbeats 8000000 in
set_option maxRecDepth 100000 in
theorem cellsPlay_walk (size : Int) (ao : Option Addr) (n c : Nat) (M : Nat → Nat → Int) (w : World) (hM : Fives w ao n M) (hs : n * 40 ≤ 140737488351232) :
    Calls Try.prog 3 #[.int .i64 size, .slice ao n c] w fun e w' => e = .returned (.bool true) ∧ Below w.heap.size w w' := by
  have HM : Hid (Fives w ao n M) := hM
  have hsm := run_small size n M
  have hc1 := cells_small size n M
  clear hM
  go_enter Try.func3, Try.ntmps3
  go_wp2_with fail
  refine (rplay_all size ao n c M w HM.out hs).mono ?_
  rintro e w1 ⟨e5, x5, c5, y5, l5, z5, rfl, hO1, hk1⟩
  obtain ⟨A, hA⟩ : ∃ A, A = runA size n M := ⟨_, rfl⟩
  obtain ⟨N, hN⟩ : ∃ N, N = runN size n := ⟨_, rfl⟩
  obtain ⟨er, her⟩ : ∃ er, er = errP size n := ⟨_, rfl⟩
  obtain ⟨F, hF⟩ : ∃ F, F = runF size M := ⟨_, rfl⟩
  have hpl : ∀ (a : Option Addr) (m c' : Nat) (w' : World), Fives w' a n M → Calls Try.prog 6 #[.int .i64 size, .slice a n c'] w' fun e w'' => ∃ ea ca la, e = .returned (.tuple #[.agg #[.slice ea N N, .slice ca A.cells.length A.cells.length, .slice la A.log.length A.log.length], .int .i64 er]) ∧ RunOut w'.heap.size w'' N A F ea N ca A.cells.length la A.log.length ∧ Below w'.heap.size w' w'' := by
    intro a m c' w' h
    rw [hA, hN, her, hF]
    exact play_all size a n c' M w' h hs
  rw [← hA] at hO1 hsm hc1
  rw [← hN] at hO1 hsm
  rw [← hF] at hO1
  rw [← hA, ← hN, ← her]
  clear hA hN her hF
  have hL1 := hO1.lies
  obtain ⟨s1, hs1⟩ : ∃ s1, s1 = w1.heap.size := ⟨_, rfl⟩
  obtain ⟨W1, hW1⟩ : ∃ W1, W1 = w1.alloc (.cells #[.slice e5 N x5, .slice c5 A.cells.length y5, .slice l5 A.log.length z5] 27) := ⟨_, rfl⟩
  have H1 : Hid (Boxed w.heap.size s1 W1 N A F e5 x5 c5 y5 l5 z5 ∧ Keeps None w W1 ∧ W1.heap.size = s1 + 1 ∧ Lies w.heap.size s1 N A.cells.length A.log.length e5 x5 c5 y5 l5 z5 ∧ w.heap.size ≤ s1) := by
    rw [hW1, hs1]; exact ⟨Boxed.new hO1, hk1.trans (Keeps.alloc None w1 _) (fun _ f _ => f), by simp, hL1, hk1.size⟩
  clear hO1 hk1 hL1
  go_wp2_with fail
  rw [← hs1, ← hW1]
  clear hW1 hs1
  refine (handed_ok ao n c M W1 (HM.out.kept H1.out.2.1 (fun _ _ _ _ _ f => f)) hs).mono ?_
  rintro e w2 ⟨g, L, rfl, hL2, hm2, hg2, hk2⟩
  obtain ⟨s2, hs2⟩ : ∃ s2, s2 = w2.heap.size := ⟨_, rfl⟩
  obtain ⟨W2, hW2⟩ : ∃ W2, W2 = w2.alloc (.cells #[.slice none 0 0, .slice none 0 0, .int .i64 0] 36) := ⟨_, rfl⟩
  have H2 : Hid (Boxed w.heap.size s1 W2 N A F e5 x5 c5 y5 l5 z5 ∧ Keeps None w W2 ∧ W2.heap.size = s2 + 1 ∧ Lies w.heap.size s1 N A.cells.length A.log.length e5 x5 c5 y5 l5 z5 ∧ w.heap.size ≤ s1 ∧ Laid W2 g n n M L ∧ Marks L n ∧ s1 + 1 ≤ g ∧ g < s2 ∧ IsBook W2 s2 (.slice none 0 0) (.slice none 0 0) 0 0 0 [] []) := by
    have hal : Keeps None w2 W2 := by rw [hW2]; exact Keeps.alloc None w2 _
    have hk := hk2.trans hal (fun _ f _ => f)
    refine ⟨H1.out.1.more hk, H1.out.2.1.trans hk (fun _ f _ => f), by rw [hW2, hs2]; simp, H1.out.2.2.2.1, H1.out.2.2.2.2, hL2.kept hal (fun f => f), hm2, by have := H1.out.2.2.1; omega, by rw [hs2]; exact hL2.lt, book_new _ _ (by rw [hW2, hs2]; exact new_at _ _ _ rfl)⟩
  clear hL2 hm2 hg2 hk2 H1
  go_wp2_with fail
  rw [← hs2, ← hW2]
  clear hW2 hs2
  refine (hpl (some ⟨g, 0, none⟩) 0 (n + 2) W2 H2.out.2.2.2.2.2.1.fives).mono ?_
  rintro e w3 ⟨e9, c9, l9, rfl, hO3, hb3⟩
  have hk3 := Below.keeps hb3
  have hL3 := hO3.lies
  obtain ⟨s3, hs3⟩ : ∃ s3, s3 = w3.heap.size := ⟨_, rfl⟩
  obtain ⟨W3, hW3⟩ : ∃ W3, W3 = w3.alloc (.cells #[.slice e9 N N, .slice c9 A.cells.length A.cells.length, .slice l9 A.log.length A.log.length] 27) := ⟨_, rfl⟩
  have H3 : Hid (Boxed (s2 + 1) s3 W3 N A F e9 N c9 A.cells.length l9 A.log.length ∧ Keeps None W2 W3 ∧ W3.heap.size = s3 + 1 ∧ Lies (s2 + 1) s3 N A.cells.length A.log.length e9 N c9 A.cells.length l9 A.log.length ∧ s2 + 1 ≤ s3) := by
    have h1 := H2.out.2.2.1
    have := hk3.size
    rw [h1] at hO3 hL3
    rw [hW3, hs3]; exact ⟨Boxed.new hO3, hk3.trans (Keeps.alloc None w3 _) (fun _ f _ => f), by simp, hL3, by omega⟩
  clear hO3 hb3 hk3 hL3
  go_wp2_with fail
  rw [← hs3, ← hW3]
  clear hW3 hs3
  refine (hpl (some ⟨g, 0, none⟩) 0 (n + 2) W3 (H2.out.2.2.2.2.2.1.kept H3.out.2.1 (fun f => f)).fives).mono ?_
  rintro e w4 ⟨e11, c11, l11, rfl, hO4, hb4⟩
  have hk4 := Below.keeps hb4
  have hL4 := hO4.lies
  obtain ⟨s4, hs4⟩ : ∃ s4, s4 = w4.heap.size := ⟨_, rfl⟩
  obtain ⟨W4, hW4⟩ : ∃ W4, W4 = w4.alloc (.cells #[.slice e11 N N, .slice c11 A.cells.length A.cells.length, .slice l11 A.log.length A.log.length] 27) := ⟨_, rfl⟩
  have HR : Hid (Lies w.heap.size s1 N A.cells.length A.log.length e5 x5 c5 y5 l5 z5 ∧ Lies (s2 + 1) s3 N A.cells.length A.log.length e9 N c9 A.cells.length l9 A.log.length ∧ Lies (s3 + 1) s4 N A.cells.length A.log.length e11 N c11 A.cells.length l11 A.log.length ∧ w.heap.size ≤ s1 ∧ s1 + 1 ≤ g ∧ g < s2 ∧ s2 + 1 ≤ s3 ∧ s3 + 1 ≤ s4) := by
    have h1 := H3.out.2.2.1
    have := hk4.size
    rw [h1] at hL4
    exact ⟨H2.out.2.2.2.1, H3.out.2.2.2.1, hs4 ▸ hL4, H2.out.2.2.2.2.1, H2.out.2.2.2.2.2.2.2.1, H2.out.2.2.2.2.2.2.2.2.1, H3.out.2.2.2.2, by omega⟩
  have H4 : Hid (Boxed w.heap.size s1 W4 N A F e5 x5 c5 y5 l5 z5 ∧ Boxed (s2 + 1) s3 W4 N A F e9 N c9 A.cells.length l9 A.log.length ∧ Boxed (s3 + 1) s4 W4 N A F e11 N c11 A.cells.length l11 A.log.length ∧ Keeps None w W4 ∧ W4.heap.size = s4 + 1 ∧ Laid W4 g n n M L ∧ Marks L n ∧ IsBook W4 s2 (.slice none 0 0) (.slice none 0 0) 0 0 0 [] []) := by
    have h1 := H3.out.2.2.1
    rw [h1] at hO4
    have hal : Keeps None w4 W4 := by rw [hW4]; exact Keeps.alloc None w4 _
    have hk := hk4.trans hal (fun _ f _ => f)
    have hk24 := H3.out.2.1.trans hk (fun _ f _ => f)
    refine ⟨H2.out.1.more hk24, H3.out.1.more hk, ?_, H2.out.2.1.trans hk24 (fun _ f _ => f), by rw [hW4, hs4]; simp, H2.out.2.2.2.2.2.1.kept hk24 (fun f => f), H2.out.2.2.2.2.2.2.1, H2.out.2.2.2.2.2.2.2.2.2.kept hk24 (fun _ _ f => f)⟩
    rw [hW4, hs4]; exact Boxed.new hO4
  clear hO4 hb4 hk4 hL4 H2 H3 hpl
  have k50 := H4.out.1.c0
  have k51 := H4.out.1.c1
  have k52 := H4.out.1.c2
  have k90 := H4.out.2.1.c0
  have k91 := H4.out.2.1.c1
  have k92 := H4.out.2.1.c2
  subst hs4
  rw [hW4] at k50 k51 k52 k90 k91 k92
  go_wp2_with fail
  rw [← hW4]
  have O1 : Hid (RunOut 0 W4 N A F e9 N c9 A.cells.length l9 A.log.length ∧ RunOut 0 W4 N A F e5 x5 c5 y5 l5 z5) := ⟨⟨own_base H4.out.2.1.out.eff (fun _ _ => Nat.zero_le _), own_base H4.out.2.1.out.cel (fun _ _ => Nat.zero_le _), own_base H4.out.2.1.out.log (fun _ _ => Nat.zero_le _)⟩, ⟨own_base H4.out.1.out.eff (fun _ _ => Nat.zero_le _), own_base H4.out.1.out.cel (fun _ _ => Nat.zero_le _), own_base H4.out.1.out.log (fun _ _ => Nat.zero_le _)⟩⟩
  refine (sameEff_ok e9 e5 N _ _ F W4 (SeenE.of_row O1.out.1.eff) (SeenE.of_row O1.out.2.eff) (by omega)).mono ?_
  rintro e w5 ⟨rfl, m5, rfl⟩
  rw [← hW4] at k50 k51 k52 k90 k91 k92
  obtain ⟨s4, hs4⟩ : ∃ s4, s4 = w4.heap.size := ⟨_, rfl⟩
  rw [← hs4] at HR H4 ⊢
  clear hW4 hs4
  go_wp2_with fail
  refine (sameNumbers_same _ _ A.cells (W4.drewN m5) ((keepsN m5).own O1.out.1.cel (fun _ _ f => f)) ((keepsN m5).own O1.out.2.cel (fun _ _ f => f)) (by omega)).mono ?_
  rintro e w6 ⟨rfl, m6, rfl⟩
  go_wp2_with fail
  refine (sameLog_same _ _ A.log _ ((keepsN _).own O1.out.1.log (fun _ _ f => f)) ((keepsN _).own O1.out.2.log (fun _ _ f => f)) (by omega)).mono ?_
  rintro e w7 ⟨rfl, m7, rfl⟩
  clear O1 k50 k51 k52 k90 k91 k92
  go_wp2_with fail
  go_loopw [13] (fun i wr => ∃ k : Nat, k ≤ N ∧ i = .int .i64 k ∧ (∃ xs, wr.ownsRow 0 41 3 (.slice e9 N N) N xs) ∧ Keeps (fun k => (Value.slice e9 N N).ownBlock = some k) W4 wr) (fun i _ => N - (intOf i).toNat)
  case atStart => exact ⟨0, Nat.zero_le _, rfl, ⟨_, own_base ((keepsN _).own H4.out.2.1.out.eff (fun _ _ f => f)) (fun _ _ => Nat.zero_le _)⟩, ⟨rfl, rfl, rfl, Nat.le_refl _, fun _ _ _ => rfl⟩⟩
  case round =>
    obtain ⟨k, hk, rfl, ⟨xs, hq⟩, hK⟩ := hrel
    have hbx : wr.cell? ⟨s3, 0, none⟩ = some (.slice e9 N N) := hK.cell H4.out.2.1.c0 (fun e => absurd (HR.out.2.1.1 _ e).2 (Nat.lt_irrefl _))
    by_cases hkn : k < N
    · obtain ⟨g9, v0, v1, v2, rfl, y0, y1, y2, hf⟩ := eff_cells hq hkn
      have f0 := hf (k * 3)
      have f1 := hf (k * 3 + 1)
      have f2 := hf (k * 3 + 2)
      have hKq : Keeps (· = g9) wr (((wr.setCell ⟨g9, k * 3, none⟩ (.int .i64 (-5))).setCell ⟨g9, k * 3 + 1, none⟩ (.bool false)).setCell ⟨g9, k * 3 + 2, none⟩ (.int .i64 99)) :=
        (((Keeps.refl (· = g9) wr).andSet (x := ⟨g9, k * 3, none⟩) (.inl rfl) (.int .i64 (-5))).andSet (x := ⟨g9, k * 3 + 1, none⟩) (.inl rfl) (.bool false)).andSet (x := ⟨g9, k * 3 + 2, none⟩) (.inl rfl) (.int .i64 99)
      have HN : Hid ((∃ xs, (((wr.setCell ⟨g9, k * 3, none⟩ (.int .i64 (-5))).setCell ⟨g9, k * 3 + 1, none⟩ (.bool false)).setCell ⟨g9, k * 3 + 2, none⟩ (.int .i64 99)).ownsRow 0 41 3 (.slice (some ⟨g9, 0, none⟩) N N) N xs) ∧ Keeps (fun k => (Value.slice (some ⟨g9, 0, none⟩) N N).ownBlock = some k) W4 (((wr.setCell ⟨g9, k * 3, none⟩ (.int .i64 (-5))).setCell ⟨g9, k * 3 + 1, none⟩ (.bool false)).setCell ⟨g9, k * 3 + 2, none⟩ (.int .i64 99))) :=
        ⟨⟨_, own_setS (own_setS (own_setS hq (k * 3) (.int .i64 (-5))) (k * 3 + 1) (.bool false)) (k * 3 + 2) (.int .i64 99)⟩, hK.trans hKq (fun i e _ => by rw [e]; rfl)⟩
      have i1 : (k : Int) < (N : Int) := by omega
      clear hKq hq hK hf HR H4 HM
      go_wp2
      go_roundw
      case rel => exact ⟨k + 1, by omega, by go_num, HN.out⟩
      case measure => simp [intOf]; omega
    · have i1 : ¬ (k : Int) < (N : Int) := by omega
      have H5 : Hid (wr.ownsRow 0 41 3 (.slice e9 N N) N xs ∧ Keeps (fun k => (Value.slice e9 N N).ownBlock = some k) W4 wr ∧ wr.heap[s3]? = some (.cells #[.slice e9 N N, .slice c9 A.cells.length A.cells.length, .slice l9 A.log.length A.log.length] 27 (0, 0))) := ⟨hq, hK, (hK.block s3 (Array.getElem?_eq_some_iff.1 H4.out.2.1.blk).1 (fun e => by have := HR.out.2.1.1 _ e; omega)).trans H4.out.2.1.blk⟩
      clear hq hK
      obtain ⟨w5, hw5⟩ : ∃ w5, w5 = wr := ⟨_, rfl⟩
      subst hw5
      go_wp2_with fail
      clear hbx i1
      go_loopw [14] (fun i wr => ∃ (k : Nat) (a : Option Addr) (c : Nat), k ≤ 64 ∧ i = .int .i64 k ∧ wr.heap[s3]? = some (.cells #[.slice a (N + k) c, .slice c9 A.cells.length A.cells.length, .slice l9 A.log.length A.log.length] 27 (0, 0)) ∧ (∃ xs, wr.ownsRow 0 41 3 (.slice a (N + k) c) (N + k) xs) ∧ (∀ b, (Value.slice a (N + k) c).ownBlock = some b → (Value.slice e9 N N).ownBlock = some b ∨ W4.heap.size ≤ b) ∧ Keeps (fun k => k = s3 ∨ (Value.slice e9 N N).ownBlock = some k) W4 wr) (fun i _ => 64 - (intOf i).toNat)
      case atStart => exact ⟨0, e9, N, by omega, rfl, H5.out.2.2, ⟨_, H5.out.1⟩, fun b e => .inl e, H5.out.2.1.mono (fun _ e _ => .inr e)⟩
      case round =>
        clear H5
        obtain ⟨k, a, c', hk, rfl, hbb, ⟨xs, hq⟩, hfr, hK⟩ := hrel
        by_cases hkn : k < 64
        · have hal := Keeps.alloc None wr (.cells #[.int .i64 (-6), .bool false, .int .i64 0] 41)
          obtain ⟨g2, cp, w2, hr, ⟨xs2, ho2⟩, hk2, hm2⟩ := effs_more (.slice a (N + k) c') xs (-6) (N + k) 23 wr.heap.size (wr.alloc (.cells #[.int .i64 (-6), .bool false, .int .i64 0] 41)) (hal.own hq (fun _ _ f => f)) (by omega) (new_at _ _ _ rfl)
          have hka : Keeps (fun b => (Value.slice a (N + k) c').ownBlock = some b) wr w2 := (hal.mono (fun _ f _ => f.elim)).trans hk2 (fun _ e _ => e)
          have hns : (Value.slice a (N + k) c').ownBlock ≠ some s3 := fun e => absurd (own_type hq e hbb) (by decide)
          have hb2 := (hka.block s3 (Array.getElem?_eq_some_iff.1 hbb).1 hns).trans hbb
          have y1 : wr.cell? ⟨s3, 0, none⟩ = some (.slice a (N + k) c') := (cell_of_block hbb 0).trans rfl
          have y2 : w2.cell? ⟨s3, 0, none⟩ = some (.slice a (N + k) c') := (cell_of_block hb2 0).trans rfl
          have y3 := free_of_block hb2 0
          have y0 : (wr.alloc (.cells #[.int .i64 (-6), .bool false, .int .i64 0] 41)).cell? ⟨s3, 0, none⟩ = some (.slice a (N + k) c') := hal.cell y1 (fun f => f)
          have hb3 := setCell_block hb2 (i := 0) (.slice (some ⟨g2, 0, none⟩) (N + k + 1) cp)
          have hg3 : g2 ≠ s3 := by
            rintro rfl
            exact absurd (own_type ho2 rfl hb2) (by decide)
          have hks : Keeps (· = s3) w2 (w2.setCell ⟨s3, 0, none⟩ (.slice (some ⟨g2, 0, none⟩) (N + k + 1) cp)) := Keeps.setCell (S := (· = s3)) w2 (a := ⟨s3, 0, none⟩) rfl _
          have HN : Hid ((w2.setCell ⟨s3, 0, none⟩ (.slice (some ⟨g2, 0, none⟩) (N + k + 1) cp)).heap[s3]? = some (.cells #[.slice (some ⟨g2, 0, none⟩) (N + (k + 1)) cp, .slice c9 A.cells.length A.cells.length, .slice l9 A.log.length A.log.length] 27 (0, 0)) ∧ (∃ xs, (w2.setCell ⟨s3, 0, none⟩ (.slice (some ⟨g2, 0, none⟩) (N + k + 1) cp)).ownsRow 0 41 3 (.slice (some ⟨g2, 0, none⟩) (N + (k + 1)) cp) (N + (k + 1)) xs) ∧ (∀ b, (Value.slice (some ⟨g2, 0, none⟩) (N + (k + 1)) cp).ownBlock = some b → (Value.slice e9 N N).ownBlock = some b ∨ W4.heap.size ≤ b) ∧ Keeps (fun k => k = s3 ∨ (Value.slice e9 N N).ownBlock = some k) W4 (w2.setCell ⟨s3, 0, none⟩ (.slice (some ⟨g2, 0, none⟩) (N + k + 1) cp))) := by
            refine ⟨hb3, ⟨_, hks.own ho2 (fun b e e2 => hg3 (by simp [Value.ownBlock] at e; omega))⟩, fun b e => ?_, (hK.trans hka (fun b e hb => ?_)).trans hks (fun _ e _ => .inl e)⟩
            · simp [Value.ownBlock] at e
              subst e
              rcases hm2 with e | e
              · exact hfr _ e
              · have := hK.size; have := hal.size; exact .inr (by omega)
            · rcases hfr _ e with e | e
              · exact .inr e
              · omega
          have i1 : (k : Int) < 64 := by omega
          clear hks hg3 hb3 hb2 hns hka hK hfr hq hbb hal ho2 hk2 hm2 HR H4 HM
          go_wp2_with (at_builtin; refine wpList_append_run rfl (.tmp 92) (.tmp 94) 23 23 rfl rfl rfl hr ?_)
          go_roundw
          case rel => exact ⟨k + 1, some ⟨g2, 0, none⟩, cp, by omega, by go_num, HN.out⟩
          case measure => simp [intOf]; omega
        · have i1 : ¬ (k : Int) < 64 := by omega
          have z1 : wr.cell? ⟨s3, 1, none⟩ = some (.slice c9 A.cells.length A.cells.length) := (cell_of_block hbb 1).trans rfl
          have z2 : wr.cell? ⟨s3, 2, none⟩ = some (.slice l9 A.log.length A.log.length) := (cell_of_block hbb 2).trans rfl
          have hns : ∀ b, (b ≤ s1 ∨ b = g ∨ (s3 + 1 ≤ b ∧ b ≤ s4)) → ¬ (b = s3 ∨ (Value.slice e9 N N).ownBlock = some b) := by
            obtain ⟨-, r2, -, r4, r5, r6, r7, r8⟩ := HR.out
            rintro b hb (e | e)
            · omega
            · have := r2.1 _ e; omega
          have H6 : Hid (Rest w s1 s4 g N A F e5 x5 c5 y5 l5 z5 e11 c11 l11 n M L wr ∧ IsBook wr s2 (.slice none 0 0) (.slice none 0 0) 0 0 0 [] [] ∧ wr.ownsRow 0 2 1 (.slice c9 A.cells.length A.cells.length) A.cells.length (A.cells.map (Value.int .i64)) ∧ wr.ownsRow 0 65 6 (.slice l9 A.log.length A.log.length) A.log.length (logVals A.log) ∧ s4 + 1 ≤ wr.heap.size) := by
            have hR0 : Rest w s1 s4 g N A F e5 x5 c5 y5 l5 z5 e11 c11 l11 n M L W4 := ⟨H4.out.2.2.2.1, H4.out.1.blk, H4.out.1.out.base, H4.out.2.2.1.blk, H4.out.2.2.1.out.base, H4.out.2.2.2.2.2.1⟩
            obtain ⟨r1, r2, r3, r4, r5, r6, r7, r8⟩ := HR.out
            refine ⟨hR0.kept r1 r3 r4 r8 hK hns, H4.out.2.2.2.2.2.2.2.kept hK ?_, hK.own H4.out.2.1.out.base.cel ?_, hK.own H4.out.2.1.out.base.log ?_, by have := hK.size; have := H4.out.2.2.2.2.1; omega⟩
            · rintro b (rfl | e | e) (e2 | e2)
              · omega
              · have := r2.1 _ e2; omega
              all_goals simp [Value.ownBlock] at e
            · rintro b e (e2 | e2)
              · have := r2.2.1 _ e; omega
              · exact own_apart H4.out.2.1.out.cel H4.out.2.1.out.eff (by decide) e e2
            · rintro b e (e2 | e2)
              · have := r2.2.2 _ e; omega
              · exact own_apart H4.out.2.1.out.log H4.out.2.1.out.eff (by decide) e e2
          have HMK : Hid (Marks L n) := H4.out.2.2.2.2.2.2.1
          clear hns hK hfr hq hbb H4
          obtain ⟨w6, hw6⟩ : ∃ w6, w6 = wr := ⟨_, rfl⟩
          subst hw6
          go_wp2_with fail
          clear i1 z1
          refine (numbers_in s2 _ _ 0 0 0 [] [] c9 A.cells.length A.cells w6 H6.out.2.1 H6.out.2.2.1 rfl (by omega) (by omega)).mono ?_
          rintro e w7 ⟨rfl, vn7, a1, a2, a3, k1, k2, k3, hB7, hO7, hf7, hk7, hm7⟩
          have HV : Hid (∀ b, vn7.ownBlock = some b → s4 < b) := moved_far hm7 (by have := H6.out.2.2.2.2; omega)
          clear hm7
          have z3 : w7.cell? ⟨s3, 2, none⟩ = some (.slice l9 A.log.length A.log.length) := hk7.cell z2 (by
            rintro (e | e | e)
            · have := HR.out.2.2.2.2.2.2.1; simp at e; omega
            · simp [Value.ownBlock] at e
            · exact absurd (HR.out.2.1.2.1 _ e).2 (Nat.lt_irrefl _))
          obtain ⟨I1, hI1⟩ : ∃ I1 : KI, I1 = ⟨markOf 0, c9, A.cells.length, a1, k1, a2, k2, a3, k3⟩ := ⟨_, rfl⟩
          have H7 : Hid (Rest w s1 s4 g N A F e5 x5 c5 y5 l5 z5 e11 c11 l11 n M L w7 ∧ IsBook w7 s2 vn7 (.slice none 0 0) (wrap64 (0 + 16)) [I1].length 0 (kiVals [I1]) [] ∧ NI w7 I1 ∧ Off s3 s4 I1 ∧ w7.ownsRow 0 65 6 (.slice l9 A.log.length A.log.length) A.log.length (logVals A.log) ∧ s4 + 1 ≤ w7.heap.size) := by
            obtain ⟨r1, r2, r3, r4, r5, r6, r7, r8⟩ := HR.out
            obtain ⟨q1, q2, q3, q4, q5⟩ := H6.out
            refine ⟨q1.kept r1 r3 r4 r8 hk7 ?_, by rw [hI1]; exact hB7, by rw [hI1]; exact ⟨hO7, by simp only; omega⟩, ?_, hk7.own q4 ?_, by have := hk7.size; omega⟩
            · rintro b hb (e | e | e)
              · omega
              · simp [Value.ownBlock] at e
              · have := r2.2.1 _ e; omega
            · rw [hI1]
              exact ⟨fun b e => .inl (r2.2.1 _ (own_of_block e)).2, fun b e => .inr (by have := hf7 b e; omega)⟩
            · rintro b e (e2 | e2 | e2)
              · have := r2.2.2 _ e; omega
              · simp [Value.ownBlock] at e2
              · exact own_apart q4 q3 (by decide) e e2
          clear hI1 hB7 hO7 hf7 hk7 H6 z2
          go_wp2_with fail
          refine (accesses_in s2 _ _ _ _ 0 _ [] l9 A.log.length _ w7 H7.out.2.1 H7.out.2.2.2.2.1 (by omega) (by omega)).mono ?_
          rintro e w8 ⟨rfl, va8, a1', a2', a3', k1', k2', k3', hB8, hO8, hf8, hk8, hm8⟩
          have HA : Hid (∀ b, va8.ownBlock = some b → s4 < b) := moved_far hm8 (by have := H7.out.2.2.2.2.2; omega)
          clear hm8
          obtain ⟨J1, hJ1⟩ : ∃ J1 : KI, J1 = ⟨markOf (wrap64 (0 + 16)), l9, A.log.length, a1', k1', a2', k2', a3', k3'⟩ := ⟨_, rfl⟩
          have H8 : Hid (Rest w s1 s4 g N A F e5 x5 c5 y5 l5 z5 e11 c11 l11 n M L w8 ∧ IsBook w8 s2 vn7 va8 (wrap64 (wrap64 (0 + 16) + 16)) [I1].length [J1].length (kiVals [I1]) (kiVals [J1]) ∧ NI w8 I1 ∧ Off s3 s4 I1 ∧ AI w8 J1 ∧ Off s3 s4 J1 ∧ s4 + 1 ≤ w8.heap.size) := by
            obtain ⟨r1, r2, r3, r4, r5, r6, r7, r8⟩ := HR.out
            obtain ⟨q1, q2, q3, q4, q5, q6⟩ := H7.out
            refine ⟨q1.kept r1 r3 r4 r8 hk8 ?_, by rw [hJ1]; exact hB8, q3.kept hk8 ?_, q4, by rw [hJ1]; exact ⟨hO8, by simp only; omega⟩, ?_, by have := hk8.size; omega⟩
            · rintro b hb (e | e | e)
              · omega
              · simp [Value.ownBlock] at e
              · have := r2.2.2 _ e; omega
            · rintro b ⟨cur, hc⟩ - (e | e | e)
              · rw [e, q2.blk] at hc; simp at hc
              · simp [Value.ownBlock] at e
              · exact absurd (own_type q5 e hc) (by decide)
            · rw [hJ1]
              exact ⟨fun b e => .inl (r2.2.2 _ (own_of_block e)).2, fun b e => .inr (by have := hf8 b e; omega)⟩
          clear hJ1 hB8 hO8 hf8 hk8 H7 z3
          have t0 : w8.cell? ⟨s1, 0, none⟩ = some (.slice e5 N x5) := (cell_of_block H8.out.1.b1 0).trans rfl
          have t1 : w8.cell? ⟨s1, 1, none⟩ = some (.slice c5 A.cells.length y5) := (cell_of_block H8.out.1.b1 1).trans rfl
          have t2 : w8.cell? ⟨s1, 2, none⟩ = some (.slice l5 A.log.length z5) := (cell_of_block H8.out.1.b1 2).trans rfl
          have u0 : w8.cell? ⟨s4, 0, none⟩ = some (.slice e11 N N) := (cell_of_block H8.out.1.b4 0).trans rfl
          have u1 : w8.cell? ⟨s4, 1, none⟩ = some (.slice c11 A.cells.length A.cells.length) := (cell_of_block H8.out.1.b4 1).trans rfl
          have u2 : w8.cell? ⟨s4, 2, none⟩ = some (.slice l11 A.log.length A.log.length) := (cell_of_block H8.out.1.b4 2).trans rfl
          go_wp2_with fail
          refine (sameEff_ok e11 e5 N _ _ F w8 (SeenE.of_row H8.out.1.o4.eff) (SeenE.of_row H8.out.1.o1.eff) (by omega)).mono ?_
          rintro e w9 ⟨rfl, m9, rfl⟩
          go_wp2_with fail
          refine (sameNumbers_same _ _ A.cells (w8.drewN m9) ((keepsN m9).own H8.out.1.o4.cel (fun _ _ f => f)) ((keepsN m9).own H8.out.1.o1.cel (fun _ _ f => f)) (by omega)).mono ?_
          rintro e w9 ⟨rfl, m10, rfl⟩
          go_wp2_with fail
          refine (sameLog_same _ _ A.log _ ((keepsN _).own H8.out.1.o4.log (fun _ _ f => f)) ((keepsN _).own H8.out.1.o1.log (fun _ _ f => f)) (by omega)).mono ?_
          rintro e w9 ⟨rfl, m11, hw9⟩
          have hk9 : Keeps None w8 w9 := by rw [hw9]; exact ⟨rfl, rfl, rfl, Nat.le_refl _, fun _ _ _ => rfl⟩
          clear hw9
          have v1 := hk9.cell u1 (fun f => f)
          have v2 := hk9.cell u2 (fun f => f)
          have H9 : Hid (Rest w s1 s4 g N A F e5 x5 c5 y5 l5 z5 e11 c11 l11 n M L w9 ∧ IsBook w9 s2 vn7 va8 (wrap64 (wrap64 (0 + 16) + 16)) [I1].length [J1].length (kiVals [I1]) (kiVals [J1]) ∧ NI w9 I1 ∧ Off s3 s4 I1 ∧ AI w9 J1 ∧ Off s3 s4 J1 ∧ s4 + 1 ≤ w9.heap.size) := by
            obtain ⟨r1, r2, r3, r4, r5, r6, r7, r8⟩ := HR.out
            obtain ⟨q1, q2, q3, q4, q5, q6, q7⟩ := H8.out
            exact ⟨q1.kept r1 r3 r4 r8 hk9 (fun _ _ f => f), q2.kept hk9 (fun _ _ f => f), q3.kept hk9 (fun _ _ _ f => f), q4, q5.kept hk9 (fun _ _ _ f => f), q6, by have := hk9.size; omega⟩
          clear hk9 H8 t0 t1 t2 u0 u1 u2
          go_wp2_with fail
          refine (numbers_in s2 _ _ _ _ _ _ _ c11 A.cells.length A.cells w9 H9.out.2.1 H9.out.1.o4.cel rfl (by omega) (by simp)).mono ?_
          rintro e w10 ⟨rfl, vn10, b1, b2, b3, j1, j2, j3, hB10, hO10, hf10, hk10, -⟩
          obtain ⟨I2, hI2⟩ : ∃ I2 : KI, I2 = ⟨markOf (wrap64 (wrap64 (0 + 16) + 16)), c11, A.cells.length, b1, j1, b2, j2, b3, j3⟩ := ⟨_, rfl⟩
          have v3 : w10.cell? ⟨s4, 2, none⟩ = some (.slice l11 A.log.length A.log.length) := hk10.cell v2 (by
            rintro (e | e | e)
            · have := HR.out.2.2.2.2.2.2; simp at e; omega
            · exact absurd (own_type H9.out.2.1.num e H9.out.1.b4) (by decide)
            · exact absurd (HR.out.2.2.1.2.1 _ e).2 (Nat.lt_irrefl _))
          have H10 : Hid (Keeps None w w10 ∧ Laid w10 g n n M L ∧ IsBook w10 s2 vn10 va8 (wrap64 (wrap64 (wrap64 (0 + 16) + 16) + 16)) [I1, I2].length [J1].length (kiVals [I1, I2]) (kiVals [J1]) ∧ NI w10 I1 ∧ NI w10 I2 ∧ AI w10 J1 ∧ Off s3 s4 J1 ∧ w10.ownsRow 0 65 6 (.slice l11 A.log.length A.log.length) A.log.length (logVals A.log)) := by
            obtain ⟨r1, r2, r3, r4, r5, r6, r7, r8⟩ := HR.out
            obtain ⟨q1, q2, q3, q4, q5, q6, q7⟩ := H9.out
            have hnn := HV.out
            refine ⟨q1.kw.trans hk10 ?_, q1.laid.kept hk10 ?_, by rw [hI2]; exact hB10, q3.kept hk10 ?_, by rw [hI2]; exact ⟨hO10, by simp only; omega⟩, q5.kept hk10 ?_, q6, hk10.own q1.o4.log ?_⟩
            · rintro b (e | e | e) hb
              · omega
              · have := hnn _ e; omega
              · have := r3.2.1 _ e; omega
            · rintro (e | e | e)
              · omega
              · have := hnn _ e; omega
              · have := r3.2.1 _ e; omega
            · rintro b ⟨cur, hc⟩ hb (e | e | e)
              · rw [e, q2.blk] at hc; simp at hc
              · exact absurd (own_type q2.num e hc) (by decide)
              · have := r3.2.1 _ e
                rcases hb with hb | hb
                · have := q4.1 _ hb; omega
                · have := q4.2 _ hb; omega
            · rintro b ⟨cur, hc⟩ hb (e | e | e)
              · rw [e, q2.blk] at hc; simp at hc
              · exact absurd (own_type q2.num e hc) (by decide)
              · exact absurd (own_type q1.o4.cel e hc) (by decide)
            · rintro b e (e2 | e2 | e2)
              · have := r3.2.2 _ e; omega
              · exact own_apart q1.o4.log q2.num (by decide) e e2
              · exact own_apart q1.o4.log q1.o4.cel (by decide) e e2
          clear hI2 hB10 hO10 hf10 hk10 H9 v1 v2 HV
          go_wp2_with fail
          refine (accesses_in s2 _ _ _ _ _ _ _ l11 A.log.length _ w10 H10.out.2.2.1 H10.out.2.2.2.2.2.2.2 (by omega) (by simp)).mono ?_
          rintro e w11 ⟨rfl, va11, b1', b2', b3', j1', j2', j3', hB11, hO11, hf11, hk11, -⟩
          obtain ⟨J2, hJ2⟩ : ∃ J2 : KI, J2 = ⟨markOf (wrap64 (wrap64 (wrap64 (0 + 16) + 16) + 16)), l11, A.log.length, b1', j1', b2', j2', b3', j3'⟩ := ⟨_, rfl⟩
          have H11 : Hid (Keeps None w w11 ∧ Laid w11 g n n M L ∧ IsBook w11 s2 vn10 va11 (wrap64 (wrap64 (wrap64 (wrap64 (0 + 16) + 16) + 16) + 16)) [I1, I2].length [J1, J2].length (kiVals [I1, I2]) (kiVals [J1, J2]) ∧ (∀ x ∈ [I1, I2], NI w11 x) ∧ (∀ x ∈ [J1, J2], AI w11 x) ∧ Marks L n) := by
            obtain ⟨r1, r2, r3, r4, r5, r6, r7, r8⟩ := HR.out
            obtain ⟨q1, q2, q3, q4, q5, q6, q7, q8⟩ := H10.out
            have haa := HA.out
            have hni : ∀ x, NI w10 x → NI w11 x := by
              intro x hx
              refine hx.kept hk11 ?_
              rintro b ⟨cur, hc⟩ hb (e | e | e)
              · rw [e, q3.blk] at hc; simp at hc
              · exact absurd (own_type q3.acc e hc) (by decide)
              · exact absurd (own_type q8 e hc) (by decide)
            have hj1 : AI w11 J1 := by
              refine q6.kept hk11 ?_
              rintro b ⟨cur, hc⟩ hb (e | e | e)
              · rw [e, q3.blk] at hc; simp at hc
              · exact absurd (own_type q3.acc e hc) (by decide)
              · have := r3.2.2 _ e
                rcases hb with hb | hb
                · have := q7.1 _ hb; omega
                · have := q7.2 _ hb; omega
            have hj2 : AI w11 J2 := by rw [hJ2]; exact ⟨hO11, by simp only; omega⟩
            refine ⟨q1.trans hk11 ?_, q2.kept hk11 ?_, by rw [hJ2]; exact hB11, ?_, ?_, HMK.out⟩
            · rintro b (e | e | e) hb
              · omega
              · have := haa _ e; omega
              · have := r3.2.2 _ e; omega
            · rintro (e | e | e)
              · omega
              · have := haa _ e; omega
              · have := r3.2.2 _ e; omega
            · intro x hx
              simp at hx
              rcases hx with rfl | rfl
              · exact hni _ q4
              · exact hni _ q5
            · intro x hx
              simp at hx
              rcases hx with rfl | rfl
              · exact hj1
              · exact hj2
          clear hJ2 hB11 hO11 hf11 hk11 H10 v3 HA HR HMK
          go_wp2_with fail
          refine (untouched_ok ao n c g (n + 2) M L w11 H11.out.2.1 H11.out.2.2.2.2.2 (HM.out.kept H11.out.1 (fun _ _ _ _ _ f => f)) hs).mono ?_
          rintro e w12 ⟨rfl, hk12⟩
          have H12 : Hid (Keeps None w11 w12) := hk12
          clear hk12
          go_wp2_with fail
          refine (stands_ok s2 _ _ _ [I1, I2] [J1, J2] w12 (H11.out.2.2.1.kept H12.out (fun _ _ f => f)) (fun x hx => (H11.out.2.2.2.1 x hx).kept H12.out (fun _ _ _ f => f)) (fun x hx => (H11.out.2.2.2.2.1 x hx).kept H12.out (fun _ _ _ f => f)) (by simp) (by simp)).mono ?_
          rintro e w13 ⟨rfl, hk13⟩
          have H13 : Hid (Keeps None w w13) := (H11.out.1.trans H12.out (fun _ f _ => f)).trans hk13 (fun _ f _ => f)
          clear hk13 H12 H11
          go_wp2_with fail
          refine (placed_ok size ao n c M w13 (HM.out.kept H13.out (fun _ _ _ _ _ f => f)) hs).mono ?_
          rintro e w14 ⟨rfl, hk14⟩
          have H14 : Hid (Keeps None w w14) := H13.out.trans hk14 (fun _ f _ => f)
          clear hk14 H13
          go_wp2
          go_ret
          exact ⟨rfl, H14.out.below _ (Nat.le_refl _) (fun _ f => f.elim)⟩
end Go.Proofs.Ytncbejpefokhhaa
