import Derived.Test.YtnhoedodnbifdaaDgRow
import Derived.Deep.RegionHeld3
import Derived.Deep.QuietTactic
import Derived.Deep.DeepCutAuto
/-! The law's own copy of a dag: with other edges and a mark behind them, then with the right ones. -/
namespace Go.Proofs.Ytnhoedodnbifdaa
set_option linter.unusedVariables false
set_option maxRecDepth 20000
open Go.RowKit Go.HeapKit

def mvE (e : Ed) : Ed := ⟨e.f, IntKind.i64.wrap (e.t + 1)⟩
theorem keeps3 (w : World) (a b c : Obj) : Keeps None w (((w.alloc a).alloc b).alloc c) := (((Keeps.refl _ _).andAlloc _).andAlloc _).andAlloc _
theorem results_row {P : Program} {fn : Func} {q : Tmp} {ty : TypeId} (h : fn.results = #[.cell q ty]) {tmps : Array Value} {w : World} {g : Nat} (ha : tmps.getD q undef = .pointer (some ⟨g, 0, none⟩)) {v : Value}
    (hl : (loadVar ty ⟨g, 0, none⟩).run P w = .ok v w) : (results fn tmps).run P w = .ok v w := by
  have ha' : tmps[q]?.getD undef = .pointer (some ⟨g, 0, none⟩) := by simpa using ha
  simp [results, h, ha', asAddr, hl]
theorem dag_end {Q : Ending → World → Prop} {a : Act} {w1 : World} {g : Nat} {c : Array Value} {t : TypeId} {fn : Func} (q : Tmp) (hfn : fn.results = #[.cell q 24]) (hc : c.size = 2) (hb : w1.heap[g]? = some (.cells c t (0, 0)))
    (ha : a.tmps.getD q undef = .pointer (some ⟨g, 0, none⟩)) (hd : a.defers = []) (v0 v1 : Value)
    (hQ : ∀ w', Keeps (· = g) w1 w' → Q (.returned (.agg #[v0, v1])) w') :
    bodyPost Try.prog fn Q .ret a ((w1.setCell ⟨g, 0, none⟩ v0).setCell ⟨g, 1, none⟩ v1) := by
  have hb2 := blk_set (i := 1) (blk_set (i := 0) hb v0) v1
  have hc3 : (c.setIfInBounds 0 v0).setIfInBounds 1 v1 = #[v0, v1] := by
    obtain ⟨l⟩ := c
    match l, hc with
    | [_, _], _ => rfl
  rw [hc3] at hb2
  refine bodyPost_ret (results_row (q := q) (ty := 24) hfn ha (run_loadVar_row _ g t 24 _ _ _ hb2 Try.underlying24 rfl (by kernel_rfl))) hd ?_
  exact hQ _ ((Keeps.setCell (S := (· = g)) w1 (a := ⟨g, 0, none⟩) rfl _).andSet (x := ⟨g, 1, none⟩) (.inl rfl) _)
theorem blk_old {w : World} {g : Nat} {ob : Obj} (h : w.heap[g]? = some ob) (o : Obj) : (w.alloc o).heap[g]? = some ob := blk_kept h (Keeps.alloc None w o) (fun f => f)
set_option maxHeartbeats 1600000 in
theorem moved_any (n : Int) (a : Option Addr) (m c : Nat) (l : List Ed) (w : World) (h : SeenE w a m l) (hs : m * 16 ≤ 140737488351232) :
    Calls Try.prog 9 #[dagV n a m c] w fun e w' => ∃ g cap, e = .returned (dagV n (some ⟨g, 0, none⟩) m cap) ∧ RoomE w' w.heap.size g m cap (l.map mvE) ∧ Keeps None w w' := by
  have HS : Hid (SeenE w a m l) := h
  have hl : Hid (m = l.length) := h.len
  clear h
  obtain ⟨s0, hs0⟩ : ∃ s0, s0 = w.heap.size := ⟨_, rfl⟩
  have HS0 : Hid (s0 = w.heap.size) := hs0
  unfold dagV
  go_enter Try.func9, Try.ntmps9
  go_wp2_with fail
  rw [← hs0]
  clear hs0
  go_loopw [4] (fun s4 wr => ∃ (k : Nat) (s : Value), s4 = .int .i64 k ∧ k ≤ m ∧ wr.heap[s0]? = some (.cells #[.int .i64 n, .slice a m c] 24 (0, 0)) ∧ wr.heap[s0 + 1]? = some (.cells #[.int .i64 0, .slice none 0 0] 24 (0, 0)) ∧
      wr.heap[s0 + 1 + 1]? = some (.cells #[.int .i64 n, s] 24 (0, 0)) ∧ wr.ownsRow s0 52 2 s k (edVals ((l.take k).map mvE)) ∧ Keeps None w wr) (fun s4 _ => m - (intOf s4).toNat)
  case atStart =>
    have e := HS0.out
    exact ⟨0, _, rfl, Nat.zero_le _, blk_old (blk_old (blk_new _ _ _ e.symm) _) _, blk_old (blk_new _ _ _ (by simp; omega)) _, blk_new _ _ _ (by simp; omega), by simpa [edVals] using row_nil _ _ _ _, keeps3 _ _ _ _⟩
  case round =>
    obtain ⟨k, s, rfl, hk, b0, b1, b2, hrow, hkp⟩ := hrel
    obtain ⟨sa, cs, rfl⟩ := row_shape hrow
    have d1 := (blk_cell b0 1).trans rfl
    have x1 := (blk_cell b2 1).trans rfl
    have z1 := blk_free b2 1
    by_cases hkn : k < m
    · obtain ⟨b, off, e, rfl, he, hat⟩ := (HS.out.more hkp).at hkn
      obtain ⟨ef, et⟩ := e
      have e0 := hat.f
      have e1 := hat.t
      simp only at e0 e1
      have m0 : ¬ m = 0 := by omega
      have i1 : (k : Int) < (m : Int) := by omega
      have hD : Keeps None wr (wr.drew.alloc (.cells #[.int .i64 ef, .int .i64 (IntKind.i64.wrap (et + 1))] 52)) := ((Keeps.refl None wr).andDrew).andAlloc _
      have x2 : (wr.alloc (.cells #[.int .i64 ef, .int .i64 (IntKind.i64.wrap (et + 1))] 52)).cell? ⟨s0 + 1 + 1, 1, none⟩ = some (.slice sa k cs) := (blk_cell (blk_old b2 _) 1).trans rfl
      have hs0 := HS0.out
      have hsz := hkp.size
      obtain ⟨g, cp, w2, hr, ho, hk2, hm⟩ := ed_more s0 (.slice sa k cs) ((l.take k).map mvE) ⟨ef, IntKind.i64.wrap (et + 1)⟩ k 22 wr.heap.size (wr.drew.alloc (.cells #[.int .i64 ef, .int .i64 (IntKind.i64.wrap (et + 1))] 52)) (by have := hl.out; simp; omega)
        (row_kept hrow hD (fun _ _ f => f)) (by simp; omega) (by omega) (blk_new _ _ _ (by simp))
      have ht : (l.take (k + 1)).map mvE = (l.take k).map mvE ++ [⟨ef, IntKind.i64.wrap (et + 1)⟩] := by rw [List.take_add_one, he]; simp [mvE]
      rw [← ht] at ho
      have hkk : Keeps None w w2 := (hkp.trans hD (fun _ f _ => f)).trans hk2 (fun i e hi => by have := row_low hrow e; omega)
      have hb : ∀ (j : Nat) q t fz, wr.heap[j]? = some (.cells q t fz) → 52 ≠ t → w2.heap[j]? = some (.cells q t fz) := by
        intro j q t fz hj ht
        exact blk_kept (blk_kept hj hD (fun f => f)) hk2 (fun e => ht (own_type (row_kept hrow hD (fun _ _ f => f)) e (blk_kept hj hD (fun f => f))))
      have c0 := hb _ _ _ _ b0 (by decide)
      have c1 := hb _ _ _ _ b1 (by decide)
      have c2 := hb _ _ _ _ b2 (by decide)
      have y1 := (blk_cell c2 1).trans rfl
      have y2 := blk_free c2 1
      have hkS : Keeps (· = s0 + 1 + 1) w2 (w2.setCell ⟨s0 + 1 + 1, 1, none⟩ (.slice (some ⟨g, 0, none⟩) (k + 1) cp)) := Keeps.setCell (S := (· = s0 + 1 + 1)) w2 rfl _
      have HN : Hid ((w2.setCell ⟨s0 + 1 + 1, 1, none⟩ (.slice (some ⟨g, 0, none⟩) (k + 1) cp)).heap[s0]? = some (.cells #[.int .i64 n, .slice (some ⟨b, off, none⟩) m c] 24 (0, 0)) ∧
          (w2.setCell ⟨s0 + 1 + 1, 1, none⟩ (.slice (some ⟨g, 0, none⟩) (k + 1) cp)).heap[s0 + 1]? = some (.cells #[.int .i64 0, .slice none 0 0] 24 (0, 0)) ∧
          (w2.setCell ⟨s0 + 1 + 1, 1, none⟩ (.slice (some ⟨g, 0, none⟩) (k + 1) cp)).heap[s0 + 1 + 1]? = some (.cells #[.int .i64 n, .slice (some ⟨g, 0, none⟩) (k + 1) cp] 24 (0, 0)) ∧
          (w2.setCell ⟨s0 + 1 + 1, 1, none⟩ (.slice (some ⟨g, 0, none⟩) (k + 1) cp)).ownsRow s0 52 2 (.slice (some ⟨g, 0, none⟩) (k + 1) cp) (k + 1) (edVals ((l.take (k + 1)).map mvE)) ∧
          Keeps None w (w2.setCell ⟨s0 + 1 + 1, 1, none⟩ (.slice (some ⟨g, 0, none⟩) (k + 1) cp))) :=
        ⟨blk_kept c0 hkS (by omega), blk_kept c1 hkS (by omega), blk_set c2 _, row_kept ho hkS (fun q e e2 => by subst e2; have := own_type ho e c2; exact absurd this (by decide)), hkk.trans hkS (fun i e hi => by omega)⟩
      clear hrow hkp ho hk2 hm hD ht hkk hb c0 c1 c2 b0 b1 b2 hkS hat he hs0 hsz HS
      go_wp2_with fail
      go_region_law (refine step_append_run rfl (.tmp 16) (.tmp 31) 22 22 rfl (by simp [Act.eval]) (by simp [Act.eval]) hr ?_)
      all_goals (go_wp2_with fail; exact ⟨⟨k + 1, _, by go_num, by omega, HN.out⟩, by simp [intOf]; omega⟩)
    · have i1 : ¬ (k : Int) < (m : Int) := by omega
      obtain rfl : k = m := by omega
      have hs0 := HS0.out
      have hsz := hkp.size
      obtain ⟨g, cp, w2, hr, ho, hk2, hm⟩ := ed_more s0 (.slice sa k cs) ((l.take k).map mvE) ⟨-77, 0⟩ k 22 wr.heap.size (wr.alloc (.cells #[.int .i64 (-77), .int .i64 0] 52)) (by have := hl.out; simp; omega)
        (row_kept hrow (Keeps.alloc None wr _) (fun _ _ f => f)) (by simp; omega) (by omega) (blk_new _ _ _ rfl)
      rw [List.take_of_length_le (by have := hl.out; omega)] at ho hrow
      have hkk : Keeps None w w2 := (hkp.andAlloc _).trans hk2 (fun i e hi => by have := row_low hrow e; omega)
      have hb : ∀ (j : Nat) q t fz, wr.heap[j]? = some (.cells q t fz) → 52 ≠ t → w2.heap[j]? = some (.cells q t fz) := by
        intro j q t fz hj ht
        have hj2 := blk_old hj (.cells #[.int .i64 (-77), .int .i64 0] 52)
        exact blk_kept hj2 hk2 (fun e => ht (own_type (row_kept hrow (Keeps.alloc None wr (.cells #[.int .i64 (-77), .int .i64 0] 52)) (fun _ _ f => f)) e hj2))
      have c0 := hb _ _ _ _ b0 (by decide)
      have c1 := hb _ _ _ _ b1 (by decide)
      have c2 := hb _ _ _ _ b2 (by decide)
      have hR : RoomE w2 s0 g k cp (l.map mvE) := ⟨by have := hl.out; simp; omega, ho⟩
      have hf := hR.fits
      have y1 := (blk_cell c2 1).trans rfl
      have y2 := blk_free c2 1
      have q2 : ((w2.setCell ⟨s0 + 1 + 1, 1, none⟩ (.slice (some ⟨g, 0, none⟩) (k + 1) cp)).setCell ⟨s0 + 1 + 1, 1, none⟩ (.slice (some ⟨g, 0, none⟩) k cp)).heap[s0 + 1 + 1]? = some (.cells #[.int .i64 n, .slice (some ⟨g, 0, none⟩) k cp] 24 (0, 0)) := blk_set (blk_set c2 _) _
      have hkS : Keeps (· = s0 + 1 + 1) w2 ((w2.setCell ⟨s0 + 1 + 1, 1, none⟩ (.slice (some ⟨g, 0, none⟩) (k + 1) cp)).setCell ⟨s0 + 1 + 1, 1, none⟩ (.slice (some ⟨g, 0, none⟩) k cp)) := keeps_one (keeps_one (Keeps.refl _ _) _) _
      have q0 := (blk_cell (blk_kept c0 (keeps_one (g := s0 + 1 + 1) (o := 1) (Keeps.refl _ w2) (.slice (some ⟨g, 0, none⟩) (k + 1) cp)) (by omega)) 1).trans rfl
      have q1 := blk_kept c1 hkS (by omega)
      have r0 := (blk_cell q2 0).trans rfl
      have r1 := (blk_cell q2 1).trans rfl
      have v0 := (blk_cell q1 0).trans rfl
      have v1 := (blk_cell q1 1).trans rfl
      have u0 := blk_free q1 0
      have u1 := blk_free q1 1
      have hg0 : g ≠ s0 + 1 + 1 := by
        intro e
        have := own_type ho (g := s0 + 1 + 1) (by simp [Value.ownBlock, e]) c2
        exact absurd this (by decide)
      have HN : Hid (RoomE ((w2.setCell ⟨s0 + 1 + 1, 1, none⟩ (.slice (some ⟨g, 0, none⟩) (k + 1) cp)).setCell ⟨s0 + 1 + 1, 1, none⟩ (.slice (some ⟨g, 0, none⟩) k cp)) s0 g k cp (l.map mvE) ∧
          Keeps None w ((w2.setCell ⟨s0 + 1 + 1, 1, none⟩ (.slice (some ⟨g, 0, none⟩) (k + 1) cp)).setCell ⟨s0 + 1 + 1, 1, none⟩ (.slice (some ⟨g, 0, none⟩) k cp)) ∧ g ≠ s0 + 1 ∧ ((w2.setCell ⟨s0 + 1 + 1, 1, none⟩ (.slice (some ⟨g, 0, none⟩) (k + 1) cp)).setCell ⟨s0 + 1 + 1, 1, none⟩ (.slice (some ⟨g, 0, none⟩) k cp)).heap[s0 + 1]? = some (.cells #[.int .i64 0, .slice none 0 0] 24 (0, 0))) :=
        ⟨hR.kept hkS (fun e => hg0 e), hkk.trans hkS (fun i e hi => by omega), (fun e => by have := own_type ho (g := s0 + 1) (by simp [Value.ownBlock, e]) c1; exact absurd this (by decide)), q1⟩
      have f1 : (k : Int) ≤ (cp : Int) := by omega
      clear hrow hkp ho hk2 hm hkk hb c0 c1 c2 b0 b1 b2 hkS hs0 hsz HS hR q1 q2 hg0
      go_wp2_with (at_builtin; refine wpList_append_run rfl (.tmp 35) (.tmp 37) 22 22 rfl rfl rfl hr ?_)
      refine dag_end 2 rfl rfl HN.out.2.2.2 rfl rfl _ _ (fun w' hk => ⟨g, cp, rfl, ?_, ?_⟩)
      · rw [← HS0.out]
        exact HN.out.1.kept hk HN.out.2.2.1
      · exact HN.out.2.1.trans hk (fun i e hi => by have := HS0.out; omega)
end Go.Proofs.Ytnhoedodnbifdaa
