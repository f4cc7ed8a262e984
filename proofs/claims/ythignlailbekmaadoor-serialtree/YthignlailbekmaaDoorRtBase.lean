import Derived.Test.YthignlailbekmaaDoorRtRoom3
import Derived.Test.YthignlailbekmaaDoorRdEvalLaw
/-! SerialTree: what its walk keeps. -/
namespace Go.Proofs.YthignlailbekmaaDoor
set_option linter.unusedVariables false
set_option maxRecDepth 20000
open Go.RowKit Go.HeapKit Go.PlainOps

/-- The nodes that Tree hands out, of any question. -/
def treeL (l : List Fn) (zs : List Int) (fuel : Int) : List Nd := if (evalV l zs fuel).2 = 0 then treeV l zs fuel else []
def TP (L : List Nd) (N : Nat) (er : Int) (w : World) (e : Ending) (w' : World) : Prop :=
  ∃ a c, e = .returned (.tuple #[.slice a N c, .int .i64 er]) ∧ Keeps None w w' ∧ (∀ g, (Value.slice a N c).ownBlock = some g → w.heap.size ≤ g) ∧ w'.ownsRow 0 41 7 (.slice a N c) N (ndVals L) ∧ SeenD w' a N L
theorem TreePost.all {l : List Fn} {zs : List Int} {fuel : Int} {w w' : World} {e : Ending} (h : TreePost l zs fuel w e w') : TP (treeL l zs fuel) (treeL l zs fuel).length (evalV l zs fuel).2 w e w' := by
  obtain ⟨nv, he, hk, hn, h1, h2⟩ := h
  have ho : w'.ownsRow 0 41 7 nv (treeL l zs fuel).length (ndVals (treeL l zs fuel)) := by
    unfold treeL
    split
    · rename_i h0; exact h2 h0
    · rename_i h0; rw [h1 h0]; exact ⟨rfl, .inl ⟨rfl, rfl⟩⟩
  obtain ⟨a, c, rfl, hs⟩ := row_seenD ho
  exact ⟨a, c, he, hk, hn, ho, hs⟩
theorem tree_all (a : Option Addr) (n c : Nat) (l : List Fn) (aa : Option Addr) (an ac : Nat) (zs : List Int) (fuel : Int) (w : World) (hT : Tabs w) (hS : SeenF w a n l) (hok : ∀ f ∈ l, f.Ok) (hZ : SeenA w aa an zs) (hZ2 : an ≤ 9223372036854775807) (hfu : okI fuel) :
    Calls Tryd.prog 10 #[.agg #[.slice a n c], .slice aa an ac, .int .i64 fuel] w (TP (treeL l zs fuel) (treeL l zs fuel).length (evalV l zs fuel).2 w) :=
  (tree_any a n c l aa an ac zs fuel w hT hS hok hZ hZ2 hfu).mono fun _ _ h => h.all
theorem rtree_all (a : Option Addr) (n c : Nat) (l : List Fn) (aa : Option Addr) (an ac : Nat) (zs : List Int) (fuel : Int) (w : World) (hS : SeenF w a n l) (hok : ∀ f ∈ l, f.Ok) (hZ : SeenA w aa an zs) (hZ2 : an ≤ 9223372036854775807) (hfu : okI fuel) :
    Calls Tryd.prog 11 #[.agg #[.slice a n c], .slice aa an ac, .int .i64 fuel] w (TP (treeL l zs fuel) (treeL l zs fuel).length (evalV l zs fuel).2 w) :=
  (rtree_any a n c l aa an ac zs fuel w hS hok hZ hZ2 hfu).mono fun _ _ h => h.all
/-- The program and the arguments that the law copied. -/
structure Al (W wr : World) (Q : Nat) (l : List Fn) (qv : Value) (tq : List At) (bv : Value) (an : Nat) (zs : List Int) : Prop where
  keep : Keeps None W wr
  qlow : W.heap.size ≤ Q
  qb : wr.heap[Q]? = some (.cells #[qv] 24 (0, 0))
  cp : Cp W.heap.size wr l qv tq
  brow : wr.ownsRow 0 2 1 bv an (ints zs)
  blow : ∀ g, bv.ownBlock = some g → W.heap.size ≤ g
theorem Al.more {W wr w' : World} {Q : Nat} {l : List Fn} {qv : Value} {tq : List At} {bv : Value} {an : Nat} {zs : List Int} (h : Al W wr Q l qv tq bv an zs) (hk : Keeps None wr w') : Al W w' Q l qv tq bv an zs :=
  ⟨h.keep.trans hk (fun _ f _ => f), h.qlow, blk_kept h.qb hk (fun f => f), h.cp.more hk, hk.own h.brow (fun _ _ f => f), h.blow⟩
/-- A block of nodes is written. -/
theorem Al.node {W wr w' : World} {Q : Nat} {l : List Fn} {qv : Value} {tq : List At} {bv : Value} {an : Nat} {zs : List Int} {g : Nat} {C : Array Value} (h : Al W wr Q l qv tq bv an zs) (hg : wr.heap[g]? = some (.cells C 41 (0, 0))) (hl : W.heap.size ≤ g) (hk : Keeps (· = g) wr w') : Al W w' Q l qv tq bv an zs := by
  refine ⟨h.keep.trans hk (fun i e hi => by omega), h.qlow, blk_kept h.qb hk (fun e => ?_), h.cp.kept hk (fun g' e q => absurd (own_type h.cp.row e (q ▸ hg)) (by decide)) (fun i t g' ht e q => ?_), hk.own h.brow (fun g' e q => absurd (own_type h.brow e (q ▸ hg)) (by decide)), h.blow⟩
  · have h1 := h.qb
    rw [e, hg] at h1
    injection h1 with h1
    injection h1 with _ h1
    exact absurd h1 (by decide)
  · obtain ⟨f, hf⟩ : ∃ f, l[i]? = some f := ⟨l[i]'(by have := (List.getElem?_eq_some_iff.1 ht).1; have := h.cp.len; omega), by simp⟩
    have hc := h.cp.code i f t hf ht
    exact absurd (own_type hc (by rw [← e]; exact At.blk_slice _ _ _ _) (q ▸ hg)) (by decide)
theorem treeL_most (l : List Fn) (zs : List Int) (fuel : Int) (hok : ∀ f ∈ l, f.Ok) (hz : ∀ x ∈ zs, okI x) : (treeL l zs fuel).length ≤ 8388608 := by
  unfold treeL
  split
  · rename_i he0
    have hr0 : refusedV l zs fuel = 0 := by
      by_cases h : refusedV l zs fuel = 0
      · exact h
      · unfold evalV at he0
        rw [if_pos h] at he0
        exact absurd he0 h
    obtain ⟨hcz, hpz, hf0, hf1⟩ := refused_zero hr0
    have hA := allV_of hcz hok
    obtain ⟨F, rfl⟩ := Int.eq_ofNat_of_zero_le hf0
    have hz8 := root_le hA hpz
    have hBg := root_begins hA true hz F (by omega)
    unfold treeV
    rw [show (F : Int).toNat = F from rfl]
    cases hq : runV l true zs F with
    | gave e => simp
    | done v sp s =>
      obtain ⟨_, _, _, h4, h5, _⟩ := child_done hA hBg rfl hq
      have h1 := h5.nodes
      have h2 := h5.tasks
      simp at h1 ⊢
      omega
  · simp
theorem Al.seenQ {W wr : World} {Q n : Nat} {l : List Fn} {qa : Option Addr} {qc : Nat} {tq : List At} {bv : Value} {an : Nat} {zs : List Int} (h : Al W wr Q l (.slice qa n qc) tq bv an zs) (hn : n = l.length) : SeenF wr qa n l := by
  obtain ⟨a, c, e, hs⟩ := h.cp.seen
  injection e with e1 e2 e3
  rw [e1, hn]
  exact hs
theorem Al.seenB {W wr : World} {Q : Nat} {l : List Fn} {qv : Value} {tq : List At} {ba : Option Addr} {bc an : Nat} {zs : List Int} (h : Al W wr Q l qv tq (.slice ba an bc) an zs) (hn : an = zs.length) (hl : an ≤ 9223372036854775807) (hok : ∀ x ∈ zs, okI x) : SeenA wr ba an zs := by
  obtain ⟨a, c, e, hs⟩ := rowA hn h.brow hl hok
  injection e with e1 e2 e3
  rw [e1]
  exact hs
theorem seenD_of {w : World} {a : Option Addr} {N c : Nat} {L : List Nd} (hN : N = L.length) (h : w.ownsRow 0 41 7 (.slice a N c) N (ndVals L)) : SeenD w a N L := by
  subst hN
  obtain ⟨a', c', e, hs⟩ := row_seenD h
  injection e with e1 e2 e3
  rw [e1]
  exact hs
theorem rowA_more {w : World} {b c an : Nat} {zs : List Int} {x : Int} (h : w.ownsRow 0 2 1 (.slice (some ⟨b, 0, none⟩) (an + 1) c) (an + 1) (ints (zs ++ [x]))) (hn : an = zs.length) (hl : an ≤ 9223372036854775807) (hok : ∀ x ∈ zs, okI x) : SeenA w (some ⟨b, 0, none⟩) an zs ∧ w.cell? ⟨b, an, none⟩ = some (.int .i64 x) := by
  rcases h.2 with ⟨_, h0⟩ | ⟨g, cap, cur, he, hb0, hg, hnc, hcm, hcs, htk⟩
  · omega
  · injection he with e1 e2 e3
    injection e1 with e1
    injection e1 with e1
    subst e1
    have hc : ∀ k y, (zs ++ [x])[k]? = some y → w.cell? ⟨b, k, none⟩ = some (.int .i64 y) := fun k y hy => by
      have h1 := ints_at _ k y hy
      rw [← htk, List.getElem?_take] at h1
      rw [blk_cell hg, ← Array.getElem?_toList]
      split at h1
      · exact h1
      · cases h1
    refine ⟨⟨hn, hl, hok, fun _ => ⟨b, 0, rfl, blk_lt hg, fun k y hy => ?_⟩⟩, hc an x (by rw [hn]; simp)⟩
    rw [Nat.zero_add]
    exact hc k y (by rw [List.getElem?_append_left (List.getElem?_eq_some_iff.1 hy).1]; exact hy)
/-- The two lists of nodes beside them. -/
structure Bl (W wr : World) (Q : Nat) (l : List Fn) (qv : Value) (tq : List At) (bv : Value) (an : Nat) (zs : List Int) (lv mv : Value) (N : Nat) (X Y : List Value) : Prop where
  al : Al W wr Q l qv tq bv an zs
  lrow : wr.ownsRow 0 41 7 lv N X
  mrow : wr.ownsRow 0 41 7 mv N Y
  llow : ∀ g, lv.ownBlock = some g → W.heap.size ≤ g
  dif : ∀ g, lv.ownBlock = some g → ¬ mv.ownBlock = some g
theorem Bl.more {W wr w' : World} {Q : Nat} {l : List Fn} {qv : Value} {tq : List At} {bv : Value} {an : Nat} {zs : List Int} {lv mv : Value} {N : Nat} {X Y : List Value} (h : Bl W wr Q l qv tq bv an zs lv mv N X Y) (hk : Keeps None wr w') : Bl W w' Q l qv tq bv an zs lv mv N X Y :=
  ⟨h.al.more hk, hk.own h.lrow (fun _ _ f => f), hk.own h.mrow (fun _ _ f => f), h.llow, h.dif⟩
/-- And the list that was asked for again. -/
structure C3 (W wr : World) (Q : Nat) (l : List Fn) (qv : Value) (tq : List At) (bv : Value) (an : Nat) (zs : List Int) (lv mv uv : Value) (N : Nat) (X Y : List Value) : Prop where
  bl : Bl W wr Q l qv tq bv an zs lv mv N X Y
  urow : wr.ownsRow 0 41 7 uv N Y
  udif : ∀ g, lv.ownBlock = some g → ¬ uv.ownBlock = some g
theorem C3.more {W wr w' : World} {Q : Nat} {l : List Fn} {qv : Value} {tq : List At} {bv : Value} {an : Nat} {zs : List Int} {lv mv uv : Value} {N : Nat} {X Y : List Value} (h : C3 W wr Q l qv tq bv an zs lv mv uv N X Y) (hk : Keeps None wr w') : C3 W w' Q l qv tq bv an zs lv mv uv N X Y :=
  ⟨h.bl.more hk, hk.own h.urow (fun _ _ f => f), h.udif⟩
theorem word_append (v : Value) (l : List Int) (x : Int) (n g ty : Nat) (w : World) (hn : n = l.length) (h : w.ownsRow 0 2 1 v n (ints l)) (hlen : (n + 1) * 8 ≤ 140737488355328)
    (hg : w.heap[g]? = some (.cells #[.int .i64 x] 2 (0, 0))) :
    ∃ b cap w', (Builtin.append_ #[25, 25] ty #[v, .slice (some ⟨g, 0, none⟩) 1 1]).run Tryd.prog w = .ok (.slice (some ⟨b, 0, none⟩) (n + 1) cap) w' ∧
      w'.ownsRow 0 2 1 (.slice (some ⟨b, 0, none⟩) (n + 1) cap) (n + 1) (ints (l ++ [x])) ∧ Keeps (fun k => v.ownBlock = some k) w w' ∧ (v.ownBlock = some b ∨ w.heap.size ≤ b) ∧ n + 1 ≤ cap := by
  obtain ⟨i0, hi, hz0, hz1, hz2⟩ := info_parts Tryd.infoI64
  obtain ⟨v', w', hr, ho, hgr, hm, -⟩ := run_append_moved (P := Tryd.prog) w 0 25 ty 2 i0 _ 1 8 Tryd.underlying25 hi hz0 hz1 hz2 rfl (by decide) v n (ints l) h
    ⟨g, 0, none⟩ 1 1 [.int .i64 x] rfl (by
      intro j u hu
      rw [show (⟨g, 0, none⟩ : Addr).add j = ⟨g, j, none⟩ by unfold Addr.add; split <;> simp_all, blk_cell hg]
      simpa using hu) (by
      intro u hu
      simp at hu
      subst hu
      rfl) (by unfold maxLen; omega) (by omega) (Nat.zero_le _)
  have e : ints (l ++ [x]) = ints l ++ [.int .i64 x] := by simp [ints]
  rw [e]
  rcases ho.2 with ⟨_, h0⟩ | ⟨b, cap, cur, rfl, hb', hg', hn', _⟩
  · omega
  · refine ⟨b, cap, w', hr, ho, (Keeps.refl _ w).andGrown hgr (fun k e => .inl e), ?_, hn'⟩
    rcases hm with hm | ⟨g', e, hg⟩
    · exact .inl (hm.symm.trans rfl)
    · simp [Value.ownBlock] at e; exact .inr (by omega)
end Go.Proofs.YthignlailbekmaaDoor
