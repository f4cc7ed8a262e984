import Derived.Test.YtolhojagbiaamabPkAK
import Derived.Test.YtolhojagbiaamabShelf
import Derived.Maps.Range
import Derived.Lib.SlKeysI
import Derived.Test.YtolhojagbiaamabPkAL
import Derived.Sort.CutIn
import Derived.Shelf.Abstract
import Derived.Shelf.RegionOpen
import Derived.WalkKit
/-! A range over the map of the places; rows of int64, sorted. -/
namespace Go.Proofs.Ytolhojagbiaamab
set_option linter.unusedVariables false
set_option maxRecDepth 20000
set_option linter.unusedSimpArgs false
open Go.RowKit Go.HeapKit Go.Shelf Go.Sort

theorem ent_get {M : List (Int × Pl)} {es : List MapEntry} (h : EntP M es) (i : Nat) : (es[i]?).map (fun e => (e.key, e.val)) = (M[i]?).map (fun p => (Value.int .i64 p.1, plV p.2)) := by
  have := congrArg (fun l => l[i]?) h
  simpa [List.getElem?_map] using this
/-- A range over the map under way: dn are the keys that it has met. -/
def Rng (w : World) (b r : Nat) (M : List (Int × Pl)) (dn : List Int) : Prop := ∃ es cl seen, w.heap[b]? = some (.map es cl) ∧ EntP M es.toList ∧ Stp es.toList cl ∧ w.heap[r]? = some (.mapIter (some b) cl seen cl) ∧
  ∀ (i : Nat) (e : MapEntry) (p : Int × Pl), es.toList[i]? = some e → M[i]? = some p → (seen.contains e.born = true ↔ p.1 ∈ dn)
theorem IsPl.range {w : World} {b : Nat} {M : List (Int × Pl)} (h : IsPl w b M) : ∃ w', (Instr.range 75 (.map (some b))).run Try.prog w = .ok (.pointer (some ⟨w.heap.size, 0, none⟩)) w' ∧ Rng w' b w.heap.size M [] ∧ Keeps None w w' ∧ w'.rangeLeft b w.heap.size ≤ M.length := by
  have hlt := h.lt
  obtain ⟨es, cl, hb, he, hst⟩ := h
  exact ⟨_, run_range_map w 75 2 79 b es cl Try.underPM hb, ⟨es, cl, #[], blk_kept hb (Keeps.alloc None w _) (fun f => f), he, hst, _root_.Go.heap_alloc_new w _, fun i e p _ _ => by simp⟩, Keeps.alloc None w _, by
    unfold World.rangeLeft
    rw [blk_kept hb (Keeps.alloc None w _) (fun f => f), _root_.Go.heap_alloc_new w _]
    have e1 := congrArg List.length he
    simp only [List.length_map, Array.length_toList] at e1
    rw [← e1]
    exact Array.size_filter_le⟩
theorem Rng.kept {w w' : World} {b r : Nat} {M : List (Int × Pl)} {dn : List Int} {S : Nat → Prop} (h : Rng w b r M dn) (hk : Keeps S w w') (h1 : ¬ S b) (h2 : ¬ S r) : Rng w' b r M dn := by
  obtain ⟨es, cl, seen, a1, a2, a3, a4, a5⟩ := h
  exact ⟨es, cl, seen, blk_kept a1 hk h1, a2, a3, blk_kept a4 hk h2, a5⟩
theorem Rng.left {w w' : World} {b r : Nat} {M : List (Int × Pl)} {dn : List Int} {S : Nat → Prop} (h : Rng w b r M dn) (hk : Keeps S w w') (h1 : ¬ S b) (h2 : ¬ S r) : w'.rangeLeft b r = w.rangeLeft b r := by
  obtain ⟨es, cl, seen, a1, a2, a3, a4, a5⟩ := h
  unfold World.rangeLeft
  rw [blk_kept a1 hk h1, blk_kept a4 hk h2, a1, a4]
theorem Rng.not_cells {w : World} {b r : Nat} {M : List (Int × Pl)} {dn : List Int} (h : Rng w b r M dn) {g : Nat} {c : Array Value} {t : TypeId} {f : Nat × Nat} (hg : w.heap[g]? = some (.cells c t f)) : ¬ b = g ∧ ¬ r = g := by
  obtain ⟨es, cl, seen, a1, a2, a3, a4, a5⟩ := h
  refine ⟨fun e => ?_, fun e => ?_⟩
  · rw [e, hg] at a1; cases a1
  · rw [e, hg] at a4; cases a4
theorem Rng.ne {w : World} {b r : Nat} {M : List (Int × Pl)} {dn : List Int} (h : Rng w b r M dn) : ¬ b = r := by
  obtain ⟨es, cl, seen, a1, a2, a3, a4, a5⟩ := h
  exact fun e => by rw [e, a4] at a1; cases a1
theorem Rng.next {w : World} {b r : Nat} {M : List (Int × Pl)} {dn : List Int} (h : Rng w b r M dn) (hnd : (M.map Prod.fst).Nodup) :
    ((∀ p ∈ M, p.1 ∈ dn) ∧ ∀ ty, (Instr.next (.pointer (some ⟨r, 0, none⟩)) false ty).run Try.prog w = .ok (.tuple #[.bool false]) w) ∨
    ∃ (p : Int × Pl) (w' : World), p ∈ M ∧ ¬ p.1 ∈ dn ∧ (∀ ty, (Instr.next (.pointer (some ⟨r, 0, none⟩)) false ty).run Try.prog w = .ok (.tuple #[.bool true, .int .i64 p.1, plV p.2]) w') ∧ Rng w' b r M (dn ++ [p.1]) ∧ Keeps (· = r) w w' ∧ w'.rangeLeft b r < w.rangeLeft b r ∧
      (Instr.entry (.pointer (some ⟨r, 0, none⟩))).run Try.prog w' = .ok (.tuple #[.int .i64 p.1, plV p.2]) w' := by
  have hbr := h.ne
  obtain ⟨es, cl, seen, hb, he, hst, hr, hsn⟩ := h
  rcases run_next_at (P := Try.prog) w 0 r b cl cl seen es cl hr hb hst.1 (Nat.le_refl _) with ⟨h0, _⟩ | ⟨e, hel, w1, hal, hrun⟩
  · refine .inl ⟨fun p hp => ?_, fun ty => ?_⟩
    · obtain ⟨i, hi⟩ := List.getElem?_of_mem hp
      have hg := ent_get he i
      rw [hi] at hg
      cases hx : es.toList[i]? with
      | none => rw [hx] at hg; cases hg
      | some e => exact (hsn i e p hx hi).1 (all_seen es seen h0 e (List.mem_of_getElem? hx))
    · rcases run_next_at (P := Try.prog) w ty r b cl cl seen es cl hr hb hst.1 (Nat.le_refl _) with ⟨_, hrun⟩ | ⟨e, hel, _⟩
      · exact hrun
      · have h2 : leftOf es seen = #[] := Array.eq_empty_of_size_eq_zero h0
        rw [h2] at hel
        simp at hel
  · obtain ⟨hem, hes⟩ := mem_left hel
    obtain ⟨i, hi⟩ := List.getElem?_of_mem hem
    have hg := ent_get he i
    rw [hi] at hg
    cases hx : M[i]? with
    | none => rw [hx] at hg; cases hg
    | some p =>
      rw [hx] at hg
      simp only [Option.map_some, Option.some.injEq, Prod.mk.injEq] at hg
      obtain ⟨hgk, hgv⟩ := hg
      have hr1 : w1.heap[r]? = some (.mapIter (some b) cl seen cl) := by rcases hal with rfl | rfl <;> exact hr
      have hb1 : w1.heap[b]? = some (.map es cl) := by rcases hal with rfl | rfl <;> exact hb
      have hset : (Go.ChangeMaps.setBlock w1 r (.mapIter (some b) cl (seen.push e.born) cl)).heap[r]? = some (.mapIter (some b) cl (seen.push e.born) cl) := by
        show (w1.heap.setIfInBounds r _)[r]? = _
        rw [Array.getElem?_setIfInBounds_self_of_lt (Array.getElem?_eq_some_iff.1 hr1).1]
      have hoth : ∀ j, ¬ j = r → (Go.ChangeMaps.setBlock w1 r (.mapIter (some b) cl (seen.push e.born) cl)).heap[j]? = w1.heap[j]? := fun j hj => by
        show (w1.heap.setIfInBounds r _)[j]? = _
        rw [Array.getElem?_setIfInBounds_ne (fun e => hj e.symm)]
      have hb' := (hoth b hbr).trans hb1
      have hdraw : ∀ ty, (Instr.next (.pointer (some ⟨r, 0, none⟩)) false ty).run Try.prog w = (Instr.next (.pointer (some ⟨r, 0, none⟩)) false 0).run Try.prog w := fun ty => by
        simp [Instr.next]
      refine .inr ⟨p, _, List.mem_of_getElem? hx, fun hp => ?_, fun ty => ?_, ⟨es, cl, seen.push e.born, hb', he, hst, hset, fun j e' p' hj hp' => ?_⟩, ?_, ?_, ?_⟩
      · have := (hsn i e p hi hx).2 hp
        rw [hes] at this
        cases this
      · rw [hdraw ty, hrun, hgk, hgv]
      · rw [contains_push, Bool.or_eq_true, hsn j e' p' hj hp', List.mem_append, List.mem_singleton, beq_iff_eq]
        have e1 : e'.born = e.born ↔ j = i := by
          constructor
          · intro hbn
            refine (List.getElem?_inj (l := es.toList.map (·.born)) (by rw [List.length_map]; exact (List.getElem?_eq_some_iff.1 hj).1) hst.2).1 ?_
            rw [List.getElem?_map, List.getElem?_map, hj, hi]
            simp [hbn]
          · intro hji
            rw [hji, hi] at hj
            injection hj with hj
            rw [hj]
        have e2 : p'.1 = p.1 ↔ j = i := by
          constructor
          · intro hbn
            refine (List.getElem?_inj (l := M.map Prod.fst) (by rw [List.length_map]; exact (List.getElem?_eq_some_iff.1 hp').1) hnd).1 ?_
            rw [List.getElem?_map, List.getElem?_map, hp', hx]
            simp [hbn]
          · intro hji
            rw [hji, hx] at hp'
            injection hp' with hp'
            rw [hp']
        rw [e1, e2]
      · rcases hal with rfl | rfl
        · exact ⟨rfl, rfl, rfl, by simp [Go.ChangeMaps.setBlock], fun j _ hj => hoth j hj⟩
        · exact ⟨rfl, rfl, rfl, by simp [Go.ChangeMaps.setBlock], fun j _ hj => hoth j hj⟩
      · unfold World.rangeLeft
        rw [hb', hset, hb, hr]
        exact left_shrinks es seen e hel
      · have := run_entry_at (P := Try.prog) _ r b cl seen es cl e hset hb' hem hst.2
        rw [this, hgk, hgv]
/-- A row of int64 that is the call's own. -/
def RowL (w : World) (base : Nat) (v : Value) (L : List Int) : Prop := w.ownsRow base 2 1 v L.length (ivZ L)
theorem Try.infoI64R : (Try.prog.info? 2).map (fun i => (i.zero, i.size, i.bytes)) = some (some (.int .i64 0), 1, 8) := by kernel_rfl
theorem RowL.kept {w w' : World} {base : Nat} {v : Value} {L : List Int} (h : RowL w base v L) {S : Nat → Prop} (hk : Keeps S w w') (hS : ∀ g, v.ownBlock = some g → ¬ S g) : RowL w' base v L := by
  exact row_kept h hk hS
theorem RowL.low {w : World} {base base' : Nat} {v : Value} {L : List Int} (h : RowL w base v L) (hb : base' ≤ base) : RowL w base' v L := by
  refine ⟨h.1, ?_⟩
  rcases h.2 with h | ⟨g, cap, cur, e, h1, h2⟩
  · exact .inl h
  · exact .inr ⟨g, cap, cur, e, Nat.le_trans hb h1, h2⟩
theorem RowL.shape {w : World} {base : Nat} {v : Value} {L : List Int} (h : RowL w base v L) : ∃ a c, v = .slice a L.length c ∧ (0 < L.length → ∃ g, a = some ⟨g, 0, none⟩) := by
  rcases h.2 with ⟨rfl, h0⟩ | ⟨b, cap, cur, rfl, _⟩
  · exact ⟨none, 0, by rw [h0], fun h => by omega⟩
  · exact ⟨_, _, rfl, fun _ => ⟨b, rfl⟩⟩
theorem RowL.cell {w : World} {base g c : Nat} {L : List Int} (h : RowL w base (.slice (some ⟨g, 0, none⟩) L.length c) L) {k : Nat} (hk : k < L.length) : w.cell? ⟨g, k, none⟩ = some (.int .i64 (L.getD k 0)) := by
  rcases h.2 with ⟨e1, _⟩ | ⟨g', cap, cur, he, hb0, hg, hnc, hcm, hcs, htk⟩
  · cases e1
  · injection he with e1 e2 e3
    injection e1 with e1
    injection e1 with e1
    subst e1
    rw [blk_cell hg, ← Array.getElem?_toList]
    have : (cur.toList.take (L.length * 1))[k]? = some (.int .i64 (L.getD k 0)) := by
      rw [htk]
      simp [ivZ, hk]
    rw [List.getElem?_take] at this
    split at this
    · exact this
    · cases this
theorem numL_more (base : Nat) (s : Value) (l : List Int) (x : Int) (ty : Nat) (w : World) (h : RowL w base s l) (hb : base ≤ w.heap.size) (hlen : (l.length + 1) * 8 ≤ 140737488355328) {g0 : Nat}
    (hg0 : w.heap[g0]? = some (.cells #[.int .i64 x] 2 (0, 0))) :
    ∃ g cap w', (Builtin.append_ #[27, 27] ty #[s, .slice (some ⟨g0, 0, none⟩) 1 1]).run Try.prog w = .ok (.slice (some ⟨g, 0, none⟩) (l.length + 1) cap) w' ∧
      RowL w' base (.slice (some ⟨g, 0, none⟩) (l.length + 1) cap) (l ++ [x]) ∧ Keeps (fun k => s.ownBlock = some k) w w' ∧ (s.ownBlock = some g ∨ (w.heap.size ≤ g ∧ Keeps None w w')) := by
  obtain ⟨i0, hi, hz0, hz1, hz2⟩ := info_parts Try.infoI64R
  obtain ⟨v', w1, hr, ho, hgr, hm, hk⟩ := run_append_apart (P := Try.prog) w base 27 ty 2 i0 _ 1 8 Try.underlying27 hi hz0 hz1 hz2 rfl (by decide) s l.length _ h
    ⟨g0, 0, none⟩ 1 1 [.int .i64 x] rfl (by
      intro j u hu
      rw [show (⟨g0, 0, none⟩ : Addr).add j = ⟨g0, j, none⟩ by unfold Addr.add; split <;> simp_all, blk_cell hg0]
      simpa using hu) (by
      intro u hu
      simp at hu
      subst hu; rfl) (by unfold maxLen; omega) hlen hb
  obtain ⟨g, cap, rfl⟩ : ∃ g cap, v' = .slice (some ⟨g, 0, none⟩) (l.length + 1) cap := by
    rcases ho.2 with ⟨_, h0⟩ | ⟨b, cap, cur, rfl, _⟩
    · omega
    · exact ⟨b, cap, rfl⟩
  refine ⟨g, cap, w1, hr, by unfold RowL; simpa [ivZ] using ho, (Keeps.refl _ w).andGrown hgr (fun k e => .inl e), ?_⟩
  by_cases hs : s.ownBlock = some g
  · exact .inl hs
  · right
    rcases hm with hm | ⟨g', e, hg⟩
    · exact absurd hm.symm (by simpa [Value.ownBlock] using hs)
    · simp [Value.ownBlock] at e
      refine ⟨by omega, ?_⟩
      rcases hk with hk | hk
      · exact absurd hk.symm (by simpa [Value.ownBlock] using hs)
      · exact hk
/-- slices.Sort of a row of numbers. -/
theorem sortL_row (v : Value) (l : List Int) (lo : Nat) (w : World) (h : RowL w lo v l) (hl : l.length ≤ 100000) :
    Calls Try.prog 40 #[v] w fun e w' => e = .returned (.tuple #[]) ∧ RowL w' lo v (l.mergeSort fun x y => decide (x ≤ y)) ∧ Keeps (fun k => v.ownBlock = some k) w w' := by
  rcases h.2 with ⟨rfl, h0⟩ | ⟨g, cap, cur, rfl, hlo, hg, hnc, hcm, hcs, htk⟩
  · have hY : l = [] := List.eq_nil_of_length_eq_zero h0
    subst hY
    have := AnyM.slices_Sort_int_none Try.sortA none 0 w
    refine this.mono ?_
    rintro e w' ⟨rfl, rfl⟩
    exact ⟨rfl, by simpa using h, Keeps.refl _ _⟩
  · have hH : Holds (Value.int .i64) w g 0 l.toArray := holds_of_block_i hg (by simpa [ivZ, encZ] using htk)
    have hc := AnyM.slices_Sort_int Try.sortA g 0 cap l w hH (blk_lt hg) (by omega)
    refine hc.mono ?_
    rintro e w' ⟨rfl, nn, os, rfl⟩
    refine ⟨rfl, ?_, (Keeps.refl _ w).andGrown (grownBy_sorted_i _) (fun k e => .inl e)⟩
    have := ownsRow_sorted_i (n := nn) (os := os) (ss := l) (ts := l.mergeSort fun x y => decide (x ≤ y)) (by simp) hlo hg hnc hcm hcs
    unfold RowL
    simpa [ivZ, encZ] using this
end Go.Proofs.Ytolhojagbiaamab
/-! The racy places. -/
namespace Go.Proofs.Ytolhojagbiaamab
set_option linter.unusedVariables false
set_option maxRecDepth 20000
set_option linter.unusedSimpArgs false
open Go.RowKit Go.HeapKit Go.Shelf

/-- The racy places, rising. -/
def RacyL (ds : List Dd) (Z : List Int) : Prop := Z.Pairwise (· < ·) ∧ ∀ L, L ∈ Z ↔ ∃ a, a < ds.length ∧ rcB ds a = true ∧ lcN ds a = L
/-- Which places are marked behind n deeds. -/
def RcN (ds : List Dd) (n : Nat) (rc : Int → Bool) : Prop := ∀ L, rc L = true ↔ ∃ a, a < n ∧ rcB ds a = true ∧ lcN ds a = L
theorem RcN.zero (ds : List Dd) : RcN ds 0 (fun _ => false) := fun L => by
  constructor
  · intro h; cases h
  · rintro ⟨a, h, _⟩; omega
theorem RcN.no {ds : List Dd} {n : Nat} {rc : Int → Bool} (h : RcN ds n rc) (hn : rcB ds n = false) : RcN ds (n + 1) rc := fun L => by
  rw [h L]
  constructor
  · rintro ⟨a, h1, h2⟩; exact ⟨a, by omega, h2⟩
  · rintro ⟨a, h1, h2, h3⟩
    by_cases e : a = n
    · rw [e, hn] at h2; cases h2
    · exact ⟨a, by omega, h2, h3⟩
theorem RcN.yes {ds : List Dd} {n : Nat} {rc : Int → Bool} (h : RcN ds n rc) (hn : rcB ds n = true) : RcN ds (n + 1) (addL rc (lcN ds n)) := fun L => by
  unfold addL
  by_cases e : L = lcN ds n
  · rw [if_pos e]; exact ⟨fun _ => ⟨n, by omega, hn, e.symm⟩, fun _ => rfl⟩
  · rw [if_neg e, h L]
    constructor
    · rintro ⟨a, h1, h2⟩; exact ⟨a, by omega, h2⟩
    · rintro ⟨a, h1, h2, h3⟩
      by_cases e2 : a = n
      · rw [e2] at h3; exact absurd h3.symm e
      · exact ⟨a, by omega, h2, h3⟩
theorem rc_kind {ds : List Dd} {n : Nat} (h : rcB ds n = true) : kdN ds n = 3 ∨ kdN ds n = 4 := by
  obtain ⟨z, _, hz⟩ := (rcB_iff ds n).1 h
  exact hz.2.1
theorem fnd_mem : ∀ (M : List (Int × Pl)) (k : Int) (v : Pl) (i : Nat), (k, v) ∈ M → (M.map Prod.fst).Nodup → ∃ j, fnd M k i = some (j, v)
  | [], k, v, i, h, _ => by simp at h
  | (k', v') :: M, k, v, i, h, hn => by
    rw [List.map_cons, List.nodup_cons] at hn
    unfold fnd
    rw [List.mem_cons] at h
    rcases h with h | h
    · injection h with h1 h2
      subst h1 h2
      exact ⟨i, by simp⟩
    · have hne : ¬ k = k' := fun e => hn.1 (by rw [← e]; exact List.mem_map.2 ⟨(k, v), h, rfl⟩)
      rw [if_neg hne]
      exact fnd_mem M k v (i + 1) h hn.2
theorem look_mem {M : List (Int × Pl)} {k : Int} {v : Pl} (h : (k, v) ∈ M) (hn : (M.map Prod.fst).Nodup) : lookP M k = v := by
  obtain ⟨j, hj⟩ := fnd_mem M k v 0 h hn
  unfold lookP
  rw [hj]
  rfl
theorem look_racy {M : List (Int × Pl)} {k : Int} (h : (lookP M k).racy = true) : ∃ v, (k, v) ∈ M := by
  unfold lookP at h
  cases hf : fnd M k 0 with
  | none => rw [hf] at h; cases h
  | some p =>
    obtain ⟨j, v⟩ := p
    exact ⟨v, List.mem_of_getElem? (fnd_le M k 0 j v hf).2.2⟩
theorem racy_sort {ds : List Dd} {Zs : List Int} (hn : Zs.Nodup) (hm : ∀ L, L ∈ Zs ↔ ∃ a, a < ds.length ∧ rcB ds a = true ∧ lcN ds a = L) : RacyL ds (Zs.mergeSort fun x y => decide (x ≤ y)) := by
  have h1 : (Zs.mergeSort fun x y => decide (x ≤ y)).Pairwise (fun x y => decide (x ≤ y) = true) := List.pairwise_mergeSort (fun a b c h1 h2 => by simp at *; omega) (fun a b => by simp; omega) Zs
  have h2 : (Zs.mergeSort fun x y => decide (x ≤ y)).Pairwise (· ≠ ·) := (List.mergeSort_perm Zs _).nodup_iff.2 hn
  refine ⟨(h1.and h2).imp (fun {a b} h => ?_), fun L => by rw [List.mem_mergeSort]; exact hm L⟩
  have h3 := h.1
  have h4 := h.2
  simp at h3
  omega
theorem places_out {R : Ending → World → Prop} {tmps : Array Value} {V : World} {D : Nat} {v : Value} (ha : tmps.getD 2 undef = v) (hK : V.heap[D]? = some (.deferred (some []))) (hR : R (.returned v) (V.putObj D (.deferred none))) :
    bodyPostM Fence.wide 6 Try.prog Try.f23 R .ret { tmps := tmps, defers := [{ target := .collected D, args := #[] }] } V := by
  have ha' : tmps[2]?.getD undef = v := by simpa using ha
  refine ⟨by simp, .inl ⟨_, _, rfl, run_takeDeferred hK, ?_⟩⟩
  exact ⟨_, by simp [results, Try.f23, ha'], hR⟩
attribute [local go_sem] Oper.semAt_some
set_option maxRecDepth 100000 in
set_option maxHeartbeats 4000000 in
theorem racyPlaces_ok (w : World) (a : Option Addr) (N cN : Nat) (ds : List Dd) (hS : Seen w a N ds) (hF : Fine ds) (hN : N ≤ 4096) :
    Calls Try.prog 23 #[.slice a N cN] w fun e w' => ∃ v Z, e = .returned v ∧ RowL w' w.heap.size v Z ∧ RacyL ds Z ∧ Z.length ≤ 4096 ∧ Keeps None w w' := by
  have HP : Hid (Fine ds ∧ N = ds.length ∧ Seen w a N ds) := ⟨hF, hS.len, hS⟩
  clear hF hS
  have hmo : Try.prog.follows .mixedOrders = true := by kernel_rfl
  refine (callsIn_wide (n := 6)).1 (callsIn_of_wp_marks Try.func23 rfl trivial (wpIn_wide.2 ?_) rfl)
  simp only [Try.ntmps23, List.size_toArray, List.length_cons, List.length_nil, Nat.reduceAdd, Nat.reduceSub, Array.replicate_succ, Array.replicate_zero, List.push_toArray, List.append_toArray, List.nil_append, List.cons_append]
  obtain ⟨wb, hwb⟩ : ∃ wb, wb = w.alloc (.cells #[.slice a N cN] 22) := ⟨_, rfl⟩
  obtain ⟨s0, hs0⟩ : ∃ s0, s0 = w.heap.size := ⟨_, rfl⟩
  have b0 : wb.heap[s0]? = some (.cells #[.slice a N cN] 22 (0, 0)) := by rw [hwb, hs0]; exact heap_alloc_new w _
  have hkb : Keeps None w wb := by rw [hwb]; exact Keeps.alloc None w _
  have hsz : wb.heap.size = s0 + 1 := by rw [hwb]; simp [hs0]
  have c0 : wb.cell? ⟨s0, 0, none⟩ = some (.slice a N cN) := (blk_cell b0 0).trans rfl
  have HB : Hid (wb.heap[s0]? = some (.cells #[.slice a N cN] 22 (0, 0)) ∧ Keeps None w wb ∧ wb.heap.size = s0 + 1 ∧ s0 = w.heap.size) := ⟨b0, hkb, hsz, hs0⟩
  have HC : Hid _ := newSweep_ok wb a N cN ds
  have HW : Hid _ := And.intro hwb hs0
  clear b0 hkb hsz hwb hs0
  go_upto_region 1 with fail
  rw [← HW.out.2, ← HW.out.1]
  go_upto_region 2 with (go_at_call 37; refine Calls.mono HC.out ?_; rintro _ w1 ⟨S, mb, rfl, hS1⟩)
  have hkA := Keeps.alloc None w1 (.cells #[.pointer (some ⟨S, 0, none⟩)] 68)
  have b4 := heap_alloc_new w1 (.cells #[.pointer (some ⟨S, 0, none⟩)] 68)
  have hS2 := hS1.more hkA
  have hlow : wb.heap.size ≤ w1.heap.size := hS1.b3
  obtain ⟨W, hW⟩ : ∃ W, W = w1.alloc (.cells #[.pointer (some ⟨S, 0, none⟩)] 68) := ⟨_, rfl⟩
  obtain ⟨s4, hs4⟩ : ∃ s4, s4 = w1.heap.size := ⟨_, rfl⟩
  rw [← hW] at b4 hS2 ⊢
  rw [← hs4] at b4 hlow ⊢
  have c4 : W.cell? ⟨s4, 0, none⟩ = some (.pointer (some ⟨S, 0, none⟩)) := (blk_cell b4 0).trans rfl
  have HS : Hid (SwS wb W wb.heap.size S mb (.slice a N cN) ds 0 0 (fun _ => false) ∧ W.heap[s4]? = some (.cells #[.pointer (some ⟨S, 0, none⟩)] 68 (0, 0)) ∧ wb.heap.size ≤ s4) := ⟨hS2, b4, hlow⟩
  clear hkA b4 hS1 hS2 hlow hW hs4 HC HW c0
  go_wp2_with fail
  clear c4
  have key : ∀ {W : World} {rc : Int → Bool} {n m : Nat}, SwS wb W wb.heap.size S mb (.slice a N cN) ds n m rc → Keeps None w W ∧ W.heap[s0]? = some (.cells #[.slice a N cN] 22 (0, 0)) := fun h => by
    have e := HB.out
    exact ⟨e.2.1.trans h.kp (fun i h1 h2 => by omega), blk_kept e.1 h.kp (by omega)⟩
  have hs : ∀ W', Keeps (fun i => wb.heap.size ≤ i) wb W' → Seen W' a N ds := fun W' hk => by
    have h1 : Keeps None w W' := HB.out.2.1.trans hk (fun i h1 h2 => by have := HB.out; omega)
    exact HP.out.2.2.more h1
  have HKey : Hid _ := And.intro @key hs
  clear key hs
  refine (wpIn_wide (n := 6)).1 ?_
  refine range_state (n := 6) (by omega) (gf := 38) (rv := .pointer (some ⟨S, 0, none⟩)) rfl (enters_of Try.func38 (by kernel_rfl) rfl)
    (fun x W => x < N ∧ rcB ds x = true ∧ (∃ rc, RcN ds x rc ∧ SwS wb W wb.heap.size S mb (.slice a N cN) ds (x + 1) (x + 1) rc) ∧ W.heap[s4]? = some (.cells #[.pointer (some ⟨S, 0, none⟩)] 68 (0, 0)))
    (fun x W => (∃ rc, RcN ds (x + 1) rc ∧ SwS wb W wb.heap.size S mb (.slice a N cN) ds (x + 1) (x + 1) rc) ∧ W.heap[s4]? = some (.cells #[.pointer (some ⟨S, 0, none⟩)] 68 (0, 0)))
    (fun _ _ => False)
    (fun W => (∃ rc, RcN ds N rc ∧ SwS wb W wb.heap.size S mb (.slice a N cN) ds N N rc) ∧ W.heap[s4]? = some (.cells #[.pointer (some ⟨S, 0, none⟩)] 68 (0, 0)))
    wb.heap.size ?pY ?pI ?pJ ?pF ?hit
    (fun x => { tmps := #[.slice a N cN, .pointer (some ⟨s0, 0, none⟩), .slice none 0 0, .pointer (some ⟨s4, 0, none⟩), .int .i64 (x : Nat), undef, undef, undef, .slice a N cN, .pointer (some ⟨S, 0, none⟩), .pointer (some ⟨S, 0, none⟩), .func (.func 38) #[.pointer (some ⟨S, 0, none⟩)] #[], .int .i64 (x : Nat), undef, undef, undef, undef, undef, undef, undef, undef, undef, undef, undef, undef, undef, undef, undef, undef, undef, undef, undef, undef, undef, undef, undef, undef, undef, undef], defers := [] }) ?assign ?body ?done ?stop
  case pY =>
    rintro x V l r r' hl hV ⟨h1, h2, ⟨rc, h3, h4⟩, h5⟩
    exact ⟨h1, h2, ⟨rc, h3, h4.put (by have := HS.out.1.b3; omega) hV⟩, blk_kept h5 (keeps_putObj V l _) (fun e => by rw [← e, h5] at hV; cases hV)⟩
  case pI =>
    rintro x V l r r' hl hV ⟨⟨rc, h3, h4⟩, h5⟩
    exact ⟨⟨rc, h3, h4.put (by have := HS.out.1.b3; omega) hV⟩, blk_kept h5 (keeps_putObj V l _) (fun e => by rw [← e, h5] at hV; cases hV)⟩
  case pJ => exact fun _ _ _ _ _ _ _ h => h
  case pF =>
    rintro V l r r' hl hV ⟨⟨rc, h3, h4⟩, h5⟩
    exact ⟨⟨rc, h3, h4.put (by have := HS.out.1.b3; omega) hV⟩, blk_kept h5 (keeps_putObj V l _) (fun e => by rw [← e, h5] at hV; cases hV)⟩
  case hit =>
    intro l B Jz V hkV hB hY hBV
    refine callsIn_wide.2 ?_
    refine (seconds_ok l (6 - 1 - 1) wb V wb.heap.size S mb a N cN ds (fun _ => false) HP.out.1 HP.out.2.1 hN HKey.out.2 (fun W => B W ∧ W.heap[s4]? = some (.cells #[.pointer (some ⟨S, 0, none⟩)] 68 (0, 0))) Jz (RcN ds) ?_ ?_ ?_ (HS.out.1.more hkV) (RcN.zero ds) ⟨hBV, blk_kept HS.out.2.1 hkV (fun f => f)⟩).mono ?_
    · exact fun n rc hn h1 h2 => h1.no h2
    · intro n rc W2 hn h1 h2 h3 h4
      refine (hY n W2 ⟨hn, h2, ⟨rc, h1, h3⟩, h4.2⟩ h4.1).mono ?_
      rintro e W3 (⟨he, h, hb⟩ | h)
      · exact .inl ⟨he, h.1, hb, h.2⟩
      · exact .inr h
    · intro W2 W3 hk h
      exact ⟨hB _ _ hk h.1, Fp.book hk h.2 rfl⟩
    · rintro e W3 ⟨hv, ⟨rc, h1, h2, h3⟩ | ⟨n, _, h⟩⟩
      · exact ⟨hv, .inl ⟨⟨⟨rc, h1, h2⟩, h3.2⟩, h3.1⟩⟩
      · exact ⟨hv, .inr ⟨n, h⟩⟩
  case assign =>
    intro l x V K hK
    gi_wp2
    exact hK
  case body =>
    rintro l x V ⟨hxN, hrc, ⟨rc, hR, hSx⟩, hb4⟩
    have hxl : x < ds.length := by rw [← HP.out.2.1]; exact hxN
    have hcall : Calls Try.prog 39 #[.pointer (some ⟨S, 0, none⟩), .int .i64 (lcN ds x)] V.drew _ := setRacy_ok wb V.drew wb.heap.size S mb (.slice a N cN) ds (x + 1) (x + 1) rc (lcN ds x) (hSx.more (Keeps.drew None V)) ⟨x, by omega, rc_kind hrc, rfl⟩
    have HCi : Hid _ := CallsIn.inRound l ((callsIn_wide (n := 3)).2 hcall)
    obtain ⟨k1, k2⟩ := HKey.out.1 hSx
    obtain ⟨bb, off, rfl, _, e0, e1⟩ := seen_deed (HKey.out.2 V hSx.kp) hxN
    have g4 : V.cell? ⟨s4, 0, none⟩ = some (.pointer (some ⟨S, 0, none⟩)) := (blk_cell hb4 0).trans rfl
    have q0 : V.cell? ⟨s0, 0, none⟩ = some (.slice (some ⟨bb, off, none⟩) N cN) := (blk_cell k2 0).trans rfl
    have j1 : (x : Int) < (N : Int) := by omega
    have HX : Hid (RcN ds (x + 1) (addL rc (lcN ds x)) ∧ V.heap[s4]? = some (.cells #[.pointer (some ⟨S, 0, none⟩)] 68 (0, 0))) := ⟨hR.yes hrc, hb4⟩
    obtain ⟨lc, hlc⟩ : ∃ lc, lc = lcN ds x := ⟨_, rfl⟩
    rw [← hlc] at e1 HX HCi
    clear hcall hR hSx hb4 k1 k2 hrc hlc
    gi_wp2_with fail
    gi_region_with_o (refine ⟨trivial, ?_⟩; gi_at_call 39; refine CallsIn.mono HCi.out ?_; rintro _ w3 ⟨rfl, hS3, hk3⟩)
    all_goals (gi_wp2_with fail)
    all_goals exact ⟨(BkK.of_keeps (Keeps.drew None V) (fun i f => f.elim)).trans (BkK.of_fp hk3), ⟨_, HX.out.1, hS3⟩, Fp.book hk3 (blk_kept HX.out.2 (Keeps.drew None V) (fun f => f)) rfl⟩
  case done =>
    rintro D V hD ⟨⟨rc, hR, hSN⟩, hb4⟩ hK
    dsimp only
    obtain ⟨U, M, A, gu, cu, gm, cm, gl, cl, ga, ca, vd, rt, d, PM, h1, h2, h3, h4, h5, h6, h7⟩ := hSN.ex
    have s6 := h1.b6
    have g4 : V.cell? ⟨s4, 0, none⟩ = some (.pointer (some ⟨S, 0, none⟩)) := (blk_cell hb4 0).trans rfl
    obtain ⟨V1, hrg, hR1, hkr, hlen⟩ := h5.range
    have hkV := (HKey.out.1 hSN).1
    obtain ⟨r, hr⟩ : ∃ r, r = V.heap.size := ⟨_, rfl⟩
    rw [← hr] at hrg hR1 hlen
    have HD : Hid (V.heap[D]? = some (.deferred (some [])) ∧ Keeps None w V ∧ w.heap.size ≤ r ∧ (PM.map Prod.fst).Nodup ∧ PM.length ≤ 4096 ∧ RcN ds N (fun L => (lookP PM L).racy) ∧ w.heap.size ≤ D ∧ D < r ∧ mb < r) := ⟨hK, hkV, by rw [hr]; exact hkV.size, h7.nd, Nat.le_trans h7.len hN, fun L => by show (lookP PM L).racy = true ↔ _; rw [h7.rc L]; exact hR L, by have := HS.out.1.b3; have := HB.out; omega, by rw [hr]; exact blk_lt hK, by rw [hr]; exact h5.lt⟩
    have HR : Hid (Rng V1 mb r PM [] ∧ Keeps (fun i => r ≤ i) V V1 ∧ V1.rangeLeft mb r ≤ PM.length) := ⟨hR1, hkr.mono (fun _ f _ => f.elim), hlen⟩
    clear h1 h2 h3 h4 h5 h6 h7 hR hSN hb4 hK hkV hkr hR1 hlen hr hD
    go_wp2_with fail
    clear hrg s6 g4
    go_loopw [5, 6, 7] (fun s5 _ _ wr => ∃ (Zs dn : List Int), Rng wr mb r PM dn ∧ RowL wr r s5 Zs ∧ Zs.Nodup ∧ (∀ L, L ∈ Zs ↔ L ∈ dn ∧ (lookP PM L).racy = true) ∧ Zs.length + wr.rangeLeft mb r ≤ PM.length ∧ Keeps (fun i => r ≤ i) V wr) (fun _ _ _ wr => wr.rangeLeft mb r)
    case atStart => exact ⟨[], [], HR.out.1, ⟨rfl, .inl ⟨rfl, rfl⟩⟩, List.nodup_nil, fun L => by simp, by simpa using HR.out.2.2, HR.out.2.1⟩
    case round =>
      obtain ⟨Zs, dn, hrg, hrow, hnd, hmem, hln, hkp⟩ := hrel
      generalize wr = X at *
      rcases hrg.next HD.out.2.2.2.1 with ⟨hall, hnx⟩ | ⟨p, w2, hp, hpn, hnx, hR2, hk2, hlt, hen⟩
      · obtain ⟨az, cz, rfl, -⟩ := hrow.shape
        have hso := sortL_row _ Zs r X hrow (by have := HD.out.2.2.2.2.1; omega)
        have hlo : ∀ k, (Value.slice az Zs.length cz).ownBlock = some k → r ≤ k := fun k hk => by
          rcases hrow.2 with ⟨e, _⟩ | ⟨g, cap, cur, e, hb, _⟩
          · rw [e] at hk; cases hk
          · rw [e] at hk; simp [Value.ownBlock] at hk; omega
        have HM : Hid (Zs.Nodup ∧ (∀ L, L ∈ Zs ↔ ∃ b, b < ds.length ∧ rcB ds b = true ∧ lcN ds b = L) ∧ Zs.length ≤ 4096 ∧ Keeps (fun i => r ≤ i) V X ∧ ∀ k, (Value.slice az Zs.length cz).ownBlock = some k → r ≤ k) := ⟨hnd, fun L => by
          rw [hmem L, ← HP.out.2.1, ← HD.out.2.2.2.2.2.1 L]
          constructor
          · exact fun h => h.2
          · intro h
            obtain ⟨v, hv⟩ := look_racy h
            exact ⟨hall _ hv, h⟩, by have := HD.out.2.2.2.2.1; omega, hkp, hlo⟩
        have HSo : Hid _ := hso
        clear hso hlo hnd hmem hln hkp hall hrg hrow
        go_wp2_with (go_at_call 40; refine Calls.mono HSo.out ?_; rintro _ X2 ⟨rfl, hrow2, hk2⟩)
        have k3 : Keeps (fun i => r ≤ i) V X2 := HM.out.2.2.2.1.trans hk2 (fun i e _ => HM.out.2.2.2.2 i e)
        have hd2 := blk_kept HD.out.1 k3 (by have := HD.out.2.2.2.2.2.2.2.1; omega)
        have k4 := keeps_putObj X2 D (.deferred none)
        refine places_out rfl hd2 ⟨_, _, rfl, ?_, racy_sort HM.out.1 HM.out.2.1, by rw [List.length_mergeSort]; exact HM.out.2.2.1, (HD.out.2.1.trans k3 (fun i e hi => by have := HD.out.2.2.1; omega)).trans k4 (fun i e hi => by have := HD.out.2.2.2.2.2.2.1; omega)⟩
        have hrow3 := hrow2.kept k4 (fun g e e2 => by have := HM.out.2.2.2.2 g e; have := HD.out.2.2.2.2.2.2.2.1; omega)
        exact hrow3.low HD.out.2.2.1
      · obtain ⟨k, pw, pr, pb⟩ := p
        simp only [plV] at hnx hen
        have hlk := look_mem hp HD.out.2.2.2.1
        have hkk : Keeps (fun i => r ≤ i) V w2 := hkp.trans hk2 (fun i e _ => by omega)
        have hrow2 : RowL w2 r u5 Zs := hrow.kept hk2 (fun g e e2 => by
          obtain ⟨c, hc⟩ := own_block hrow e
          exact (hrg.not_cells hc).2 e2.symm)
        have HX : Hid (lookP PM k = ⟨pw, pr, pb⟩ ∧ ¬ k ∈ dn ∧ Zs.Nodup ∧ (∀ L, L ∈ Zs ↔ L ∈ dn ∧ (lookP PM L).racy = true) ∧ Zs.length + 1 + w2.rangeLeft mb r ≤ PM.length ∧ Rng w2 mb r PM (dn ++ [k]) ∧ Keeps (fun i => r ≤ i) V w2 ∧ RowL w2 r u5 Zs ∧ w2.rangeLeft mb r < X.rangeLeft mb r) := ⟨hlk, hpn, hnd, hmem, by omega, hR2, hkk, hrow2, hlt⟩
        clear hlk hpn hnd hmem hln hR2 hkk hrow2 hlt hrow hrg hk2 hkp hp
        cases pb with
        | false =>
          go_wp2_with fail
          have kA := Keeps.alloc None w2 (.cells #[.int .i64 (pw : Int), .int .i64 (pr : Int), .bool false] 79)
          go_roundw
          case rel =>
            refine ⟨Zs, dn ++ [k], HX.out.2.2.2.2.2.1.kept kA (fun f => f) (fun f => f), HX.out.2.2.2.2.2.2.2.1.kept kA (fun _ _ f => f), HX.out.2.2.1, ?_, ?_, HX.out.2.2.2.2.2.2.1.trans kA (fun _ f _ => f.elim)⟩
            · intro L
              rw [HX.out.2.2.2.1 L, List.mem_append, List.mem_singleton]
              constructor
              · exact fun h => ⟨.inl h.1, h.2⟩
              · rintro ⟨h | h, h2⟩
                · exact ⟨h, h2⟩
                · rw [h, HX.out.1] at h2; cases h2
            · rw [HX.out.2.2.2.2.2.1.left kA (fun f => f) (fun f => f)]; have := HX.out.2.2.2.2.1; omega
          case measure => rw [HX.out.2.2.2.2.2.1.left kA (fun f => f) (fun f => f)]; exact HX.out.2.2.2.2.2.2.2.2
        | true =>
          obtain ⟨az, cz, rfl, -⟩ := HX.out.2.2.2.2.2.2.2.1.shape
          go_upto_region 10 with fail
          have kA := (Keeps.alloc None w2 (.cells #[.int .i64 (pw : Int), .int .i64 (pr : Int), .bool true] 79))
          obtain ⟨w3, hw3⟩ : ∃ w3, w3 = w2.alloc (.cells #[.int .i64 (pw : Int), .int .i64 (pr : Int), .bool true] 79) := ⟨_, rfl⟩
          rw [← hw3] at kA
          rw [← hw3]
          have kB := kA.andAlloc (.cells #[.int .i64 k] 2)
          have hro := HX.out.2.2.2.2.2.2.2.1.kept kB (fun _ _ f => f)
          have hsz : r ≤ (w3.alloc (.cells #[.int .i64 k] 2)).heap.size := by
            have h1 := HX.out.2.2.2.2.2.2.1.size
            have h2 := kB.size
            have h3 := HX.out.2.2.2.2.2.1
            obtain ⟨_, _, _, _, _, _, h4, _⟩ := h3
            have := blk_lt h4
            omega
          obtain ⟨g, cap, w4, hr4, hrow4, hk4, hmv⟩ := numL_more r _ Zs k 27 _ hro hsz (by have := HX.out.2.2.2.2.1; have := HD.out.2.2.2.2.1; omega) (heap_alloc_new w3 _)
          have hRg := HX.out.2.2.2.2.2.1.kept kB (fun f => f) (fun f => f)
          have hn1 : ¬ (Value.slice az Zs.length cz).ownBlock = some mb := fun e => by
            obtain ⟨c, hc⟩ := own_block hro e
            exact (hRg.not_cells hc).1 rfl
          have hn2 : ¬ (Value.slice az Zs.length cz).ownBlock = some r := fun e => by
            obtain ⟨c, hc⟩ := own_block hro e
            exact (hRg.not_cells hc).2 rfl
          have hlo : ∀ i, (Value.slice az Zs.length cz).ownBlock = some i → r ≤ i := fun k hk => by
            rcases hro.2 with ⟨e, _⟩ | ⟨g, cap, cur, e, hb, _⟩
            · rw [e] at hk; cases hk
            · rw [e] at hk; simp [Value.ownBlock] at hk; omega
          have hl4 := (hRg.left hk4 hn1 hn2).trans (HX.out.2.2.2.2.2.1.left kB (fun f => f) (fun f => f))
          have HY : Hid (Rng w4 mb r PM (dn ++ [k]) ∧ RowL w4 r (.slice (some ⟨g, 0, none⟩) (Zs.length + 1) cap) (Zs ++ [k]) ∧ w4.rangeLeft mb r = w2.rangeLeft mb r ∧ Keeps (fun i => r ≤ i) V w4) := ⟨hRg.kept hk4 hn1 hn2, hrow4, hl4, (HX.out.2.2.2.2.2.2.1.trans kB (fun _ f _ => f.elim)).trans hk4 (fun i e _ => hlo i e)⟩
          clear kA kB hro hsz hrow4 hk4 hmv hRg hn1 hn2 hlo hl4 hw3
          go_wp2_with (at_builtin; refine wpList_append_run rfl (.tmp 32) (.tmp 34) 27 27 rfl rfl rfl hr4 ?_)
          go_roundw
          case rel =>
            refine ⟨Zs ++ [k], dn ++ [k], HY.out.1, HY.out.2.1, ?_, ?_, ?_, HY.out.2.2.2⟩
            · rw [List.nodup_append]
              refine ⟨HX.out.2.2.1, by simp, fun x hx y hy => ?_⟩
              simp at hy
              subst hy
              intro e
              subst e
              exact HX.out.2.1 ((HX.out.2.2.2.1 _).1 hx).1
            · intro L
              rw [List.mem_append, List.mem_append, List.mem_singleton, HX.out.2.2.2.1 L]
              constructor
              · rintro (h | h)
                · exact ⟨.inl h.1, h.2⟩
                · exact ⟨.inr h, by rw [h, HX.out.1]⟩
              · rintro ⟨h | h, h2⟩
                · exact .inl ⟨h, h2⟩
                · exact .inr h
            · rw [HY.out.2.2.1]; have := HX.out.2.2.2.2.1; simp; omega
          case measure => rw [HY.out.2.2.1]; exact HX.out.2.2.2.2.2.2.2.2
  case stop => exact fun D x V hD h => h.elim
end Go.Proofs.Ytolhojagbiaamab
/-! Has the deed that was gone through last a race with an earlier one? -/
namespace Go.Proofs.Ytolhojagbiaamab
set_option linter.unusedVariables false
set_option maxRecDepth 20000
set_option linter.unusedSimpArgs false
open Go.RowKit Go.HeapKit

section
variable {w0 w w' : World} {base S mb : Nat} {dv : Value} {ds : List Dd} {n m : Nat} {rc : Int → Bool}
/-- Whether a task's work is parallel to what comes next. -/
theorem SwS.par (h : SwS w0 w base S mb dv ds n m rc) (hN : Now ds n) (hn : n ≤ 4096) {x : Nat} (hx : x < cntB ds n) : ∃ b : Bool, (b = true ↔ Late (bgN ds n) x) ∧ ∀ w2, Keeps None w w2 → Calls Try.prog 56 #[.pointer (some ⟨S, 1, none⟩), .int .i64 x] w2 fun e w' => e = .returned (.bool b) ∧ SwS w0 w' base S mb dv ds n m rc ∧ Keeps (Fp w base) w w' := by
  obtain ⟨U, M, A, gu, cu, gm, cm, gl, cl, ga, ca, vd, rt, d, PM, h1, h2, h3, h4, h5, h6, h7⟩ := h.ex
  have hc := hN.cnt
  refine ⟨M.getD (rt x) false, h3.r.late (hN.all x hx), fun w2 hk2 => ?_⟩
  have h1' := h1.more hk2
  refine (isPar_ok w2 base S 1 gu cu gm cm gl cl x U M A rt d h1'.sets h2 (by omega) (by omega)).mono ?_
  rintro e w' ⟨rfl, ⟨U2, g1, g2, g3⟩, g4⟩
  have g4' := g4.mono (T := F6 S gu gl gm ga vd) (fun i e _ => .inr (.inl e))
  have hfp : Keeps (Fp w base) w w' := Fp.trans (hk2.mono (fun _ f _ => f.elim)) g4' (fun i e _ => ⟨(h1'.f6 h.b1 i e).1, (h1'.f6 h.b1 i e).2.1⟩)
  exact ⟨rfl, ⟨⟨U2, M, A, gu, cu, gm, cm, gl, cl, ga, ca, vd, rt, d, PM, h1'.sets' (g4.mono (fun i e _ => .inl e)) g1, g2, h3, g3.trans h4, h1'.pl6 h.b1 g4' (h5.more hk2), h6, h7⟩, h.kp.trans (Fp.low hfp) (fun i e _ => e), h.b1, h.b2, Nat.le_trans h.b3 hfp.size⟩, hfp⟩
/-- Whose a deed is. -/
theorem SwS.doerAt (h : SwS w0 w base S mb dv ds n m rc) {a : Nat} (ha : a < m) : ∃ g c, w.cell? ⟨S, 5, none⟩ = some (.slice (some ⟨g, 0, none⟩) m c) ∧ w.cell? ⟨g, a, none⟩ = some (.int .i64 (doer ds a : Nat)) ∧ w.cell? ⟨S, 0, none⟩ = some dv := by
  obtain ⟨U, M, A, gu, cu, gm, cm, gl, cl, ga, ca, vd, rt, d, PM, h1, _⟩ := h.ex
  obtain ⟨a0, c, e, hg⟩ := h1.rd.shape
  rw [natZ_lenB, dnN_len] at e hg
  obtain ⟨g, rfl⟩ := hg (by omega)
  have hr := h1.rd
  subst e
  have hr' : RowZ w base (.slice (some ⟨g, 0, none⟩) (natZ (dnN ds m)).length c) (natZ (dnN ds m)) := by rw [natZ_lenB, dnN_len]; exact hr
  refine ⟨g, c, h1.b5, (hr'.at (k := a) (x := ((doer ds a : Nat) : Int)) ?_).1, h1.b0⟩
  simp [natZ, dnN, ha]
end
theorem touches_ok (w : World) (k loc : Int) : Calls Try.prog 55 #[.agg #[.int .i64 k, .int .i64 loc]] w fun e w' => e = .returned (.bool (k == 3 || k == 4)) ∧ Keeps None w w' := by
  have kA := Keeps.alloc None w (.cells #[.int .i64 k, .int .i64 loc] 26)
  by_cases h3 : k = 3
  · subst h3
    go_enter Try.func55, Try.ntmps55
    go_wp2
    go_ret
    exact ⟨rfl, kA⟩
  · have b3 : (k == 3) = false := by simp [h3]
    rw [b3]
    by_cases h4 : k = 4
    · subst h4
      go_enter Try.func55, Try.ntmps55
      go_wp2
      go_ret
      exact ⟨rfl, kA⟩
    · have b4 : (k == 4) = false := by simp [h4]
      rw [b4]
      go_enter Try.func55, Try.ntmps55
      go_wp2
      go_ret
      exact ⟨rfl, kA⟩
end Go.Proofs.Ytolhojagbiaamab
