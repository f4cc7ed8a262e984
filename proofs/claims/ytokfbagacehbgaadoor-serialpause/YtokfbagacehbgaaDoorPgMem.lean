import Derived.Test.YtokfbagacehbgaaDoorPgBase
import Derived.OwnWalk
/-! The search's memory: where each point was met from; the queue; the ways. -/
namespace Go.Proofs.YtokfbagacehbgaaDoor
set_option linter.unusedVariables false
set_option maxRecDepth 20000
open Go.RowKit Go.HeapKit

theorem blk_cell {w : World} {p : Nat} {c : Array Value} {t : TypeId} {fz : Nat × Nat} (h : w.heap[p]? = some (.cells c t fz)) (i : Nat) : w.cell? ⟨p, i, none⟩ = c[i]? := by
  simp [World.cell?, h]
theorem blk_free {w : World} {p : Nat} {c : Array Value} {t : TypeId} (h : w.heap[p]? = some (.cells c t (0, 0))) (i : Nat) : w.frozen? ⟨p, i, none⟩ = false := by
  simp [World.frozen?, h]
theorem blk_set {w : World} {p i : Nat} {c : Array Value} {t : TypeId} {fz : Nat × Nat} (h : w.heap[p]? = some (.cells c t fz)) (v : Value) :
    (w.setCell ⟨p, i, none⟩ v).heap[p]? = some (.cells (c.setIfInBounds i v) t fz) := by
  simp [World.setCell, Array.getElem?_modify, h]
theorem blk_lt {w : World} {p : Nat} {o : Obj} (h : w.heap[p]? = some o) : p < w.heap.size := (Array.getElem?_eq_some_iff.1 h).1
theorem blk_kept {w w' : World} {S : Nat → Prop} {p : Nat} {o : Obj} (h : w.heap[p]? = some o) (hk : Keeps S w w') (hS : ¬ S p) : w'.heap[p]? = some o := (hk.block p (blk_lt h) hS).trans h

def ptVals (l : List Pt) : List Value := l.flatMap (fun t => [Value.int .i64 t.1, .int .i64 t.2])
theorem ptVals_length (l : List Pt) : (ptVals l).length = l.length * 2 := by
  induction l with
  | nil => rfl
  | cons x l ih => simp only [ptVals, List.flatMap_cons, List.length_append, List.length_cons, List.length_nil] at ih ⊢; omega
theorem ptVals_append (a b : List Pt) : ptVals (a ++ b) = ptVals a ++ ptVals b := by simp [ptVals]
theorem ptVals_at (l : List Pt) (k : Nat) (x : Pt) (h : l[k]? = some x) : (ptVals l)[k * 2]? = some (.int .i64 x.1) ∧ (ptVals l)[k * 2 + 1]? = some (.int .i64 x.2) := by
  induction l generalizing k with
  | nil => simp at h
  | cons y l ih =>
    have e : ptVals (y :: l) = [Value.int .i64 y.1, .int .i64 y.2] ++ ptVals l := rfl
    rw [e]
    cases k with
    | zero => simp at h; subst h; simp
    | succ k =>
      have := ih k (by simpa using h)
      rw [show (k + 1) * 2 = k * 2 + 2 by omega]
      simpa using this
theorem ptVals_set (l : List Pt) (k : Nat) (x : Pt) (hk : k < l.length) : ((ptVals l).set (k * 2) (.int .i64 x.1)).set (k * 2 + 1) (.int .i64 x.2) = ptVals (l.set k x) := by
  induction l generalizing k with
  | nil => simp at hk
  | cons y l ih =>
    have e : ptVals (y :: l) = [Value.int .i64 y.1, .int .i64 y.2] ++ ptVals l := rfl
    cases k with
    | zero => rfl
    | succ k =>
      have h1 := ih k (by simpa using hk)
      have e2 : ptVals ((y :: l).set (k + 1) x) = [Value.int .i64 y.1, .int .i64 y.2] ++ ptVals (l.set k x) := rfl
      rw [e, e2, ← h1, show (k + 1) * 2 = k * 2 + 2 by omega]
      rfl
theorem ptVals_one (l : List Pt) : ∀ u ∈ ptVals l, u.oneCell' = true := by
  intro u hu
  simp only [ptVals, List.mem_flatMap, List.mem_cons, List.not_mem_nil, or_false] at hu
  obtain ⟨t, _, rfl | rfl⟩ := hu <;> rfl

/-- Where each point was met from: n places, five states each. -/
structure IsFrom (w : World) (g n : Nat) (fr : List Pt) : Prop where
  blk : w.heap[g]? = some (.cells (ptVals fr).toArray 97 (0, 0))
  len : fr.length = n * 5
theorem IsFrom.at {w : World} {g n : Nat} {fr : List Pt} (h : IsFrom w g n fr) {k : Nat} {x : Pt} (hx : fr[k]? = some x) : w.cell? ⟨g, k * 2, none⟩ = some (.int .i64 x.1) ∧ w.cell? ⟨g, k * 2 + 1, none⟩ = some (.int .i64 x.2) := by
  rw [blk_cell h.blk, blk_cell h.blk]
  simpa using ptVals_at fr k x hx
theorem IsFrom.kept {w w' : World} {S : Nat → Prop} {g n : Nat} {fr : List Pt} (h : IsFrom w g n fr) (hk : Keeps S w w') (hS : ¬ S g) : IsFrom w' g n fr := ⟨blk_kept h.blk hk hS, h.len⟩
theorem IsFrom.set {w : World} {g n : Nat} {fr : List Pt} (h : IsFrom w g n fr) (k : Nat) (x : Pt) (hk : k < fr.length) : IsFrom ((w.setCell ⟨g, k * 2, none⟩ (.int .i64 x.1)).setCell ⟨g, k * 2 + 1, none⟩ (.int .i64 x.2)) g n (fr.set k x) := by
  refine ⟨?_, by simpa using h.len⟩
  rw [blk_set (blk_set h.blk _) _, ← ptVals_set fr k x hk]
  simp

/-- A queue of points. -/
structure IsQ (w : World) (base : Nat) (v : Value) (l : List Pt) : Prop where
  ex : (v = .slice none 0 0 ∧ l = []) ∨ ∃ g off cap cur, v = .slice (some ⟨g, off, none⟩) l.length cap ∧ base ≤ g ∧ w.heap[g]? = some (.cells cur 96 (0, 0)) ∧ l.length ≤ cap ∧ cap ≤ maxLen ∧ off + cap * 2 ≤ cur.size ∧
    ∀ j u, (ptVals l)[j]? = some u → cur[off + j]? = some u
def qBlock : Value → Option Nat
  | .slice (some a) _ _ => some a.block
  | _ => none
theorem IsQ.kept {w w' : World} {S : Nat → Prop} {base : Nat} {v : Value} {l : List Pt} (h : IsQ w base v l) (hk : Keeps S w w') (hS : ∀ g, qBlock v = some g → ¬ S g) : IsQ w' base v l := by
  refine ⟨?_⟩
  rcases h.ex with h0 | ⟨g, off, cap, cur, rfl, hb, hg, r⟩
  · exact .inl h0
  · exact .inr ⟨g, off, cap, cur, rfl, hb, blk_kept hg hk (hS g rfl), r⟩
theorem IsQ.low {w : World} {base : Nat} {v : Value} {l : List Pt} (h : IsQ w base v l) {g : Nat} (hg : qBlock v = some g) : base ≤ g ∧ g < w.heap.size ∧ ∃ cur, w.heap[g]? = some (.cells cur 96 (0, 0)) := by
  rcases h.ex with ⟨rfl, _⟩ | ⟨g', off, cap, cur, rfl, hb, hg', r⟩
  · simp [qBlock] at hg
  · simp [qBlock] at hg; subst hg; exact ⟨hb, blk_lt hg', cur, hg'⟩
theorem IsQ.head {w : World} {base : Nat} {v : Value} {x : Pt} {t : List Pt} (h : IsQ w base v (x :: t)) : ∃ g off cap, v = .slice (some ⟨g, off, none⟩) (t.length + 1) cap ∧ base ≤ g ∧ t.length + 1 ≤ cap ∧
    w.cell? ⟨g, off, none⟩ = some (.int .i64 x.1) ∧ w.cell? ⟨g, off + 1, none⟩ = some (.int .i64 x.2) ∧
    IsQ w base (.slice (some (if cap = 1 then ⟨g, off, none⟩ else ⟨g, off + 2, none⟩)) t.length (cap - 1)) t := by
  rcases h.ex with ⟨_, h0⟩ | ⟨g, off, cap, cur, rfl, hb, hg, hn, hm, hs, hc⟩
  · cases h0
  · simp only [List.length_cons] at hn ⊢
    refine ⟨g, off, cap, rfl, hb, hn, ?_, ?_, ⟨.inr ?_⟩⟩
    · rw [blk_cell hg]; exact hc 0 _ rfl
    · rw [blk_cell hg]; exact hc 1 _ rfl
    · by_cases h1 : cap = 1
      · rw [if_pos h1]
        have ht : t = [] := List.eq_nil_of_length_eq_zero (by omega)
        subst ht
        exact ⟨g, off, cap - 1, cur, rfl, hb, hg, by simp, by omega, by omega, fun j u hu => by simp [ptVals] at hu⟩
      · rw [if_neg h1]
        refine ⟨g, off + 2, cap - 1, cur, rfl, hb, hg, by omega, by omega, by omega, fun j u hu => ?_⟩
        have := hc (j + 2) u (by simpa [ptVals] using hu)
        rwa [show off + (j + 2) = off + 2 + j by omega] at this
theorem Tryd.infoPt : (Tryd.prog.info? 96).map (fun i => (i.zero, i.size, i.bytes)) = some (some (.agg #[.int .i64 0, .int .i64 0]), 2, 16) := by kernel_rfl
theorem Tryd.infoInt : (Tryd.prog.info? 3).map (fun i => (i.zero, i.size, i.bytes)) = some (some (.int .i64 0), 1, 8) := by kernel_rfl
theorem Tryd.infoFive : (Tryd.prog.info? 97).map (fun i => (i.zero, i.size, i.bytes)) = some (some (.agg (Array.replicate 10 (.int .i64 0))), 10, 80) := by kernel_rfl
/-- 'append(open, p)'. -/
theorem q_more (base : Nat) (v : Value) (l : List Pt) (x : Pt) (ty g0 : Nat) (w : World) (h : IsQ w base v l) (hb : base ≤ w.heap.size) (hlen : l.length ≤ 100000)
    (hg0 : w.heap[g0]? = some (.cells #[.int .i64 x.1, .int .i64 x.2] 96 (0, 0))) :
    ∃ v' w', (Builtin.append_ #[102, 102] ty #[v, .slice (some ⟨g0, 0, none⟩) 1 1]).run Tryd.prog w = .ok v' w' ∧ IsQ w' base v' (l ++ [x]) ∧ Keeps (fun k => qBlock v = some k) w w' ∧
      ∀ g, qBlock v' = some g → qBlock v = some g ∨ w.heap.size ≤ g := by
  obtain ⟨i0, hi, hz0, hz1, hz2⟩ := info_parts Tryd.infoPt
  have hnews : ∀ j u, [Value.int .i64 x.1, .int .i64 x.2][j]? = some u → w.cell? ((⟨g0, 0, none⟩ : Addr).add j) = some u := by
    intro j u hu
    rw [show (⟨g0, 0, none⟩ : Addr).add j = ⟨g0, j, none⟩ by unfold Addr.add; split <;> simp_all, blk_cell hg0]
    simpa using hu
  rcases h.ex with ⟨rfl, rfl⟩ | ⟨g, off, cap, cur, rfl, hbg, hg, hn, hm, hs, hc⟩
  · obtain ⟨v', w1, hr, ho, hgr, hm, -⟩ := run_append_moved (P := Tryd.prog) w base 102 ty 96 i0 _ 2 16 Tryd.underlying102 hi hz0 hz1 hz2 rfl (by decide) (.slice none 0 0) 0 [] ⟨by simp, .inl ⟨rfl, rfl⟩⟩
      ⟨g0, 0, none⟩ 1 1 [.int .i64 x.1, .int .i64 x.2] rfl hnews (by intro u hu; simp at hu; rcases hu with rfl | rfl <;> rfl) (by unfold maxLen; omega) (by omega) hb
    refine ⟨v', w1, hr, ⟨.inr ?_⟩, (Keeps.refl _ w).andGrown hgr (fun k e => by simp [Value.ownBlock] at e), ?_⟩
    · rcases ho.2 with ⟨_, h0⟩ | ⟨b, cap, cur, rfl, hb2, hg2, hn2, hm2, hs2, ht2⟩
      · omega
      · refine ⟨b, 0, cap, cur, rfl, hb2, hg2, hn2, hm2, by omega, fun j u hu => ?_⟩
        have e : ptVals ([] ++ [x]) = [Value.int .i64 x.1, .int .i64 x.2] := rfl
        rw [e, show [Value.int .i64 x.1, .int .i64 x.2] = [] ++ [Value.int .i64 x.1, .int .i64 x.2] from rfl, ← ht2, List.getElem?_take] at hu
        split at hu
        · simpa using hu
        · cases hu
    · intro g e
      rcases hm with hm | ⟨g', e', hg'⟩
      · rcases ho.2 with ⟨rfl, h0⟩ | ⟨b, cap, cur, rfl, _⟩
        · omega
        · simp [Value.ownBlock] at hm
      · rcases ho.2 with ⟨rfl, h0⟩ | ⟨b, cap, cur, rfl, _⟩
        · omega
        · simp [Value.ownBlock] at e'
          simp [qBlock] at e
          exact .inr (by omega)
  · by_cases hroom : l.length + 1 ≤ cap
    · have hcell : ∀ j, j < 2 → (w.cell? ⟨g, off + l.length * i0.size + j, none⟩).isSome = true := by
        intro j hj
        rw [blk_cell hg, hz1]
        have : off + l.length * 2 + j < cur.size := by omega
        simp [this]
      have hr := run_append_room_cells (P := Tryd.prog) w 102 ty 96 i0 Tryd.underlying102 hi g off l.length cap ⟨g0, 0, none⟩ 1 1 [.int .i64 x.1, .int .i64 x.2] (by rw [hz1]; rfl) hnews (by intro u hu; simp at hu; rcases hu with rfl | rfl <;> rfl) hroom (by simpa using hcell) (fun j _ => blk_free hg _)
      rw [hz1] at hr
      refine ⟨_, _, hr, ⟨.inr ?_⟩, ?_, ?_⟩
      · refine ⟨g, off, cap, _, by simp, hbg, blk_set (blk_set hg _) _, by simpa using hroom, hm, by simpa using hs, fun j u hu => ?_⟩
        rw [ptVals_append] at hu
        have hl2 := ptVals_length l
        by_cases hj : j < (ptVals l).length
        · rw [List.getElem?_append_left hj] at hu
          rw [Array.getElem?_setIfInBounds_ne (by omega), Array.getElem?_setIfInBounds_ne (by omega)]
          exact hc j u hu
        · rw [List.getElem?_append_right (by omega)] at hu
          have hlt := (List.getElem?_eq_some_iff.1 hu).1
          have hl3 : (ptVals [x]).length = 2 := rfl
          obtain hj2 | hj2 : j = l.length * 2 ∨ j = l.length * 2 + 1 := by omega
          · subst hj2
            rw [show l.length * 2 - (ptVals l).length = 0 by omega] at hu
            rw [Array.getElem?_setIfInBounds_ne (by omega), Array.getElem?_setIfInBounds_self_of_lt (by omega)]
            exact hu
          · subst hj2
            rw [show l.length * 2 + 1 - (ptVals l).length = 1 by omega] at hu
            rw [show off + (l.length * 2 + 1) = off + l.length * 2 + 1 by omega, Array.getElem?_setIfInBounds_self_of_lt (by simp; omega)]
            exact hu
      · exact ((Keeps.refl (fun k => qBlock (.slice (some ⟨g, off, none⟩) l.length cap) = some k) w).andSet (x := ⟨g, off + l.length * 2, none⟩) (.inl rfl) (.int .i64 x.1)).andSet (x := ⟨g, off + l.length * 2 + 1, none⟩) (.inl rfl) (.int .i64 x.2)
      · intro k e
        exact .inl e
    · obtain ⟨v', w1, hr, ho, hgr⟩ := run_append_arg_grows (P := Tryd.prog) w 102 ty 96 i0 _ 2 16 Tryd.underlying102 hi hz0 hz1 hz2 rfl (by decide) ⟨g, off, none⟩ l.length cap (ptVals l) (ptVals_length l)
        (by
          intro j u hu
          rw [show (⟨g, off, none⟩ : Addr).add j = ⟨g, off + j, none⟩ by unfold Addr.add; split <;> simp_all, blk_cell hg]
          exact hc j u hu)
        ⟨g0, 0, none⟩ 1 1 [.int .i64 x.1, .int .i64 x.2] rfl hnews (by omega) (by unfold maxLen; omega) (by omega)
      refine ⟨v', w1, hr, ⟨.inr ?_⟩, (Keeps.refl _ w).andGrown hgr (fun k e => by simp at e), ?_⟩
      · rcases ho.2 with ⟨_, h0⟩ | ⟨b, cap2, cur2, rfl, hb2, hg2, hn2, hm2, hs2, ht2⟩
        · omega
        · refine ⟨b, 0, cap2, cur2, by simp, by omega, hg2, by simpa using hn2, hm2, by omega, fun j u hu => ?_⟩
          rw [ptVals_append, show ptVals [x] = [Value.int .i64 x.1, .int .i64 x.2] from rfl, ← ht2, List.getElem?_take] at hu
          split at hu
          · simpa using hu
          · cases hu
      · intro k e
        rcases ho.2 with ⟨_, h0⟩ | ⟨b, cap2, cur2, rfl, hb2, _⟩
        · omega
        · simp [qBlock] at e
          exact .inr (by omega)
/-- 'append(list, x)' of a number. -/
theorem int_more (base : Nat) (s : Value) (l : List Int) (x : Int) (n ty g0 : Nat) (w : World) (hn : n = l.length) (h : w.ownsRow base 3 1 s n (l.map (Value.int .i64))) (hb : base ≤ w.heap.size) (hlen : (n + 1) * 8 ≤ 140737488355328)
    (hg0 : w.heap[g0]? = some (.cells #[.int .i64 x] 3 (0, 0))) :
    ∃ g cap w', (Builtin.append_ #[85, 85] ty #[s, .slice (some ⟨g0, 0, none⟩) 1 1]).run Tryd.prog w = .ok (.slice (some ⟨g, 0, none⟩) (n + 1) cap) w' ∧
      w'.ownsRow base 3 1 (.slice (some ⟨g, 0, none⟩) (n + 1) cap) (n + 1) ((l ++ [x]).map (Value.int .i64)) ∧ Keeps (fun k => s.ownBlock = some k) w w' ∧ (s.ownBlock = some g ∨ w.heap.size ≤ g) := by
  obtain ⟨i0, hi, hz0, hz1, hz2⟩ := info_parts Tryd.infoInt
  obtain ⟨v', w1, hr, ho, hgr, hm, -⟩ := run_append_moved (P := Tryd.prog) w base 85 ty 3 i0 _ 1 8 Tryd.underlying85 hi hz0 hz1 hz2 rfl (by decide) s n _ h
    ⟨g0, 0, none⟩ 1 1 [.int .i64 x] rfl (by
      intro j u hu
      rw [show (⟨g0, 0, none⟩ : Addr).add j = ⟨g0, j, none⟩ by unfold Addr.add; split <;> simp_all, blk_cell hg0]
      simpa using hu) (by
      intro u hu
      simp at hu
      subst hu
      rfl) (by unfold maxLen; omega) hlen hb
  obtain ⟨g, cap, rfl⟩ : ∃ g cap, v' = .slice (some ⟨g, 0, none⟩) (n + 1) cap := by
    rcases ho.2 with ⟨_, h0⟩ | ⟨b, cap, cur, rfl, _⟩
    · omega
    · exact ⟨b, cap, rfl⟩
  refine ⟨g, cap, w1, hr, by rw [List.map_append]; exact ho, (Keeps.refl _ w).andGrown hgr (fun k e => .inl e), ?_⟩
  rcases hm with hm | ⟨g', e, hg⟩
  · exact .inl (hm.symm.trans rfl)
  · simp [Value.ownBlock] at e; exact .inr (by omega)
end Go.Proofs.YtokfbagacehbgaaDoor
