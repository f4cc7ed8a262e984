import Derived.Test.YtdiabpoafennlabPkAJ
import Derived.WalkMore
import Derived.Deep.RegionHeld3
import Derived.Test.YtdiabpoafennlabPkAD
import Derived.Test.YtdiabpoafennlabProg
import Derived.WalkKit
import Derived.WalkSpells
import Derived.WalkLawsBesides
/-! Folds, as plain functions. -/
namespace Go.PlainOps
open Go.RowKit

/-- The error of a fold of n elements, or 0. -/
def foldErr (op n : Int) : Int := if isOpV op = false then 10 else if hasU op = false then 11 else if 65536 < n then 2 else 0
def foldK (op : Int) (zs : List Int) (k : Nat) : Int := (zs.take k).foldl (workV op) (unitV op)
def foldV (op : Int) (zs : List Int) : Int := zs.foldl (workV op) (unitV op)
theorem foldK_zero (op : Int) (zs : List Int) : foldK op zs 0 = unitV op := by simp [foldK]
theorem foldK_succ (op : Int) (zs : List Int) (k : Nat) (hk : k < zs.length) : workV op (foldK op zs k) (zs.getD k 0) = foldK op zs (k + 1) := by
  unfold foldK
  rw [List.take_succ_eq_append_getElem hk, List.foldl_append]
  simp [List.getD, List.getElem?_eq_getElem hk]
theorem foldK_end (op : Int) (zs : List Int) (k : Nat) (hk : zs.length ≤ k) : foldK op zs k = foldV op zs := by
  unfold foldK foldV; rw [List.take_of_length_le hk]
/-! Where the operation has a unit, a list may be cut anywhere. -/
def Fits (zs : List Int) : Prop := ∀ x ∈ zs, -9223372036854775808 ≤ x ∧ x ≤ 9223372036854775807
theorem foldl_fits (op : Int) (h : hasU op = true) : ∀ (zs : List Int) (u : Int), Fits zs → (-9223372036854775808 ≤ u ∧ u ≤ 9223372036854775807) → -9223372036854775808 ≤ zs.foldl (workV op) u ∧ zs.foldl (workV op) u ≤ 9223372036854775807
  | [], _, _, hu => hu
  | x :: r, u, hz, hu => foldl_fits op h r _ (fun y hy => hz y (List.mem_cons_of_mem _ hy)) (workV_fits op u x h hu (hz x (List.mem_cons_self ..)))
theorem foldV_fits (op : Int) (h : hasU op = true) (zs : List Int) (hz : Fits zs) : -9223372036854775808 ≤ foldV op zs ∧ foldV op zs ≤ 9223372036854775807 := foldl_fits op h zs _ hz (unitV_fits op)
theorem foldl_out (op : Int) (h : hasU op = true) : ∀ (zs : List Int) (u : Int), Fits zs → (-9223372036854775808 ≤ u ∧ u ≤ 9223372036854775807) → zs.foldl (workV op) u = workV op u (foldV op zs)
  | [], u, _, hu => by rw [List.foldl_nil]; exact (workV_unit' op u h hu.1 hu.2).symm
  | x :: r, u, hz, hu => by
    have hx := hz x (List.mem_cons_self ..)
    have hr : Fits r := fun y hy => hz y (List.mem_cons_of_mem _ hy)
    rw [List.foldl_cons, foldl_out op h r _ hr (workV_fits op u x h hu hx), workV_assoc op u x _ h]
    congr 1
    unfold foldV
    rw [List.foldl_cons, workV_unit op x h hx.1 hx.2]
    exact (foldl_out op h r x hr hx).symm
theorem foldV_append (op : Int) (h : hasU op = true) (xs ys : List Int) (hx : Fits xs) (hy : Fits ys) : foldV op (xs ++ ys) = workV op (foldV op xs) (foldV op ys) := by
  have e : foldV op (xs ++ ys) = ys.foldl (workV op) (foldV op xs) := by unfold foldV; rw [List.foldl_append]
  rw [e]
  exact foldl_out op h ys _ hy (foldV_fits op h xs hx)
theorem Fits.take {zs : List Int} (h : Fits zs) (k : Nat) : Fits (zs.take k) := fun x hx => h x (List.mem_of_mem_take hx)
theorem Fits.drop {zs : List Int} (h : Fits zs) (k : Nat) : Fits (zs.drop k) := fun x hx => h x (List.mem_of_mem_drop hx)
end Go.PlainOps
/-! The document's play on its way, in memory: its views hold lists and, beside each, a number; lists and rows are copied anew, so that nothing is written where one lies. -/
namespace Go.Proofs.Ytdiabpoafennlab.Rn
set_option linter.unusedVariables false
set_option maxRecDepth 20000
set_option linter.unusedSimpArgs false
open Go.RowKit Go.HeapKit Go.PlainOps

/-- What does not change in a play: the operation or -1, its unit, the picks. -/
structure RP where
  op : Int
  unit : Int
  pk : List Int
  pa : Option Addr
  pc : Nat
structure RX where
  va : Option Addr
  vc : Nat
  ta : Option Addr
  tc : Nat
  ma : Option Addr
  mc : Nat
  la : Option Addr
  lc : Nat
/-- The number beside a list. -/
def gV (K : RP) (l : List Int) : Int := if K.op < 0 then 0 else foldV K.op l
def cells (K : RP) (X : RX) (nx : Nat) (s : PS) : Array Value := #[.int .i64 K.op, .int .i64 K.unit, .slice X.va s.vs.length X.vc, .slice X.ta s.tk.length X.tc, .slice K.pa K.pk.length K.pc, .int .i64 nx, .int .i64 s.spn,
  .slice none 0 0, .int .i64 0, .slice X.ma s.mg.length X.mc, .slice X.la s.lk.length X.lc]
def vF (K : RP) (vs : List (List Int)) (L : Nat → Value) (k : Nat) : Value := if k % 2 = 0 then L (k / 2) else .int .i64 (gV K (vs.getD (k / 2) []))
/-- The cells of the tasks: spawn (the root's is -1), row. -/
def sF (tk : List (Nat × List Nat)) (R : Nat → Value) (k : Nat) : Value := if k % 2 = 0 then .int .i64 (if k = 0 then -1 else ((tk.getD (k / 2) (0, [])).1 : Int)) else R (k / 2)
structure Vw (w : World) (base : Nat) (K : RP) (va : Option Addr) (vc : Nat) (la : Option Addr) (lc : Nat) (L M : Nat → Value) (vs lk : List (List Int)) : Prop where
  views : w.ownsRow base 83 2 (.slice va vs.length vc) vs.length ((List.range (vs.length * 2)).map (vF K vs L))
  rows : ∀ i, i < vs.length → w.ownsRow base 2 1 (L i) (vs.getD i []).length (iv (vs.getD i []))
  looks : w.ownsRow base 28 1 (.slice la lk.length lc) lk.length ((List.range lk.length).map M)
  told : ∀ i, i < lk.length → w.ownsRow base 2 1 (M i) (lk.getD i []).length (iv (lk.getD i []))
structure Tk (w : World) (base : Nat) (ta : Option Addr) (tc : Nat) (R : Nat → Value) (tk : List (Nat × List Nat)) : Prop where
  tks : w.ownsRow base 93 2 (.slice ta tk.length tc) tk.length ((List.range (tk.length * 2)).map (sF tk R))
  rows : ∀ i, i < tk.length → w.ownsRow base 3 1 (R i) (rowOf tk i).length (nv (rowOf tk i))
structure Ar (w : World) (base : Nat) (K : RP) (nx : Nat) (pk : List Int) : Prop where
  seen : SeenV w K.pa K.pk.length (iv K.pk)
  low : ∀ b, blockOf K.pa = some b → 0 < K.pk.length → b < base
  rest : pk = K.pk.drop nx
  le : nx ≤ K.pk.length
structure PM (w : World) (base pb : Nat) (K : RP) (X : RX) (L M R : Nat → Value) (nx : Nat) (s : PS) : Prop where
  blk : w.heap[pb]? = some (.cells (cells K X nx s) 65 (0, 0))
  lo : base ≤ pb
  vw : Vw w base K X.va X.vc X.la X.lc L M s.vs s.lk
  tk : Tk w base X.ta X.tc R s.tk
  ar : Ar w base K nx s.pk
  mg : w.ownsRow base 96 3 (.slice X.ma s.mg.length X.mc) s.mg.length (mgV s.mg)
section
variable {w w' : World} {base pb nx : Nat} {K : RP} {X : RX} {L M R : Nat → Value} {s : PS} {S : Nat → Prop} {t : TypeId}
theorem Vw.other {va la : Option Addr} {vc lc : Nat} {vs lk : List (List Int)} (h : Vw w base K va vc la lc L M vs lk) (hk : Keeps S w w') (hS : OnlyT S w t) (h1 : t ≠ 2) (h2 : t ≠ 28) (h3 : t ≠ 83) : Vw w' base K va vc la lc L M vs lk :=
  ⟨row_other h.views hk hS h3, fun i hi => row_other (h.rows i hi) hk hS h1, row_other h.looks hk hS h2, fun i hi => row_other (h.told i hi) hk hS h1⟩
theorem Tk.other {ta : Option Addr} {tc : Nat} {tk : List (Nat × List Nat)} (h : Tk w base ta tc R tk) (hk : Keeps S w w') (hS : OnlyT S w t) (h1 : t ≠ 93) (h2 : t ≠ 3) : Tk w' base ta tc R tk :=
  ⟨row_other h.tks hk hS h1, fun i hi => row_other (h.rows i hi) hk hS h2⟩
theorem Ar.other {pk : List Int} (h : Ar w base K nx pk) (hk : Keeps S w w') (hS : ∀ i, S i → base ≤ i) : Ar w' base K nx pk :=
  ⟨h.seen.kept hk (fun h0 b hb hlt hs => by have := hS b hs; have := h.low b hb h0; omega), h.low, h.rest, h.le⟩
theorem PM.more (h : PM w base pb K X L M R nx s) (hk : Keeps None w w') : PM w' base pb K X L M R nx s :=
  ⟨blk_kept h.blk hk (fun f => f), h.lo, h.vw.other (t := 0) hk (fun _ f => f.elim) (by decide) (by decide) (by decide), h.tk.other (t := 0) hk (fun _ f => f.elim) (by decide) (by decide), h.ar.other hk (fun _ f => f.elim), row_kept h.mg hk (fun _ _ f => f)⟩
theorem PM.cell (h : PM w base pb K X L M R nx s) (i : Nat) : w.cell? ⟨pb, i, none⟩ = (cells K X nx s)[i]? := blk_cell h.blk i
theorem PM.free (h : PM w base pb K X L M R nx s) (i : Nat) : w.frozen? ⟨pb, i, none⟩ = false := blk_free h.blk i
/-- One of the run's cells is stored: what stands besides. -/
theorem PM.put {c : Array Value} (hb : w.heap[pb]? = some (.cells c 65 (0, 0))) (hl : base ≤ pb) {i : Nat} {v : Value} (hc : c.setIfInBounds i v = cells K X nx s) (h1 : Vw w base K X.va X.vc X.la X.lc L M s.vs s.lk) (h2 : Tk w base X.ta X.tc R s.tk) (h3 : Ar w base K nx s.pk)
    (h4 : w.ownsRow base 96 3 (.slice X.ma s.mg.length X.mc) s.mg.length (mgV s.mg)) : PM (w.setCell ⟨pb, i, none⟩ v) base pb K X L M R nx s := by
  have hk : Keeps (· = pb) w (w.setCell ⟨pb, i, none⟩ v) := keeps_one (Keeps.refl _ _) _
  have ho : OnlyT (· = pb) w 65 := onlyT_one hb
  refine ⟨?_, hl, h1.other hk ho (by decide) (by decide) (by decide), h2.other hk ho (by decide) (by decide), h3.other hk (fun i e => by omega), row_other h4 hk ho (by decide)⟩
  rw [← hc]
  exact blk_set hb v
theorem PM.c0 (h : PM w base pb K X L M R nx s) : w.cell? ⟨pb, 0, none⟩ = some (.int .i64 K.op) ∧ w.cell? ⟨pb, 1, none⟩ = some (.int .i64 K.unit) ∧ w.cell? ⟨pb, 2, none⟩ = some (.slice X.va s.vs.length X.vc) ∧ w.cell? ⟨pb, 3, none⟩ = some (.slice X.ta s.tk.length X.tc) ∧ w.cell? ⟨pb, 4, none⟩ = some (.slice K.pa K.pk.length K.pc) ∧ w.cell? ⟨pb, 5, none⟩ = some (.int .i64 nx) ∧ w.cell? ⟨pb, 6, none⟩ = some (.int .i64 s.spn) ∧
    w.cell? ⟨pb, 9, none⟩ = some (.slice X.ma s.mg.length X.mc) ∧ w.cell? ⟨pb, 10, none⟩ = some (.slice X.la s.lk.length X.lc) :=
  ⟨h.cell 0, h.cell 1, h.cell 2, h.cell 3, h.cell 4, h.cell 5, h.cell 6, h.cell 9, h.cell 10⟩
theorem PM.spawned (h : PM w base pb K X L M R nx s) : PM (w.setCell ⟨pb, 6, none⟩ (.int .i64 ((s.spn + 1 : Nat) : Int))) base pb K X L M R nx { s with spn := s.spn + 1 } :=
  PM.put (c := cells K X nx s) h.blk h.lo (by simp [cells]) h.vw h.tk h.ar h.mg
/-- The next pick is taken. -/
theorem PM.nextPick (h : PM w base pb K X L M R nx s) {x : Int} {pk : List Int} (hp : s.pk = x :: pk) : K.pk[nx]? = some x ∧ PM (w.setCell ⟨pb, 5, none⟩ (.int .i64 ((nx + 1 : Nat) : Int))) base pb K X L M R (nx + 1) { s with pk := pk } := by
  have h1 := h.ar.rest
  rw [hp] at h1
  have hlt : nx < K.pk.length := by
    rcases Nat.lt_or_ge nx K.pk.length with h2 | h2
    · exact h2
    · rw [List.drop_eq_nil_of_le h2] at h1; cases h1
  rw [List.drop_eq_getElem_cons hlt] at h1
  injection h1 with e1 e2
  refine ⟨by rw [List.getElem?_eq_getElem hlt, e1], PM.put (c := cells K X nx s) h.blk h.lo (by simp [cells]) h.vw h.tk ⟨h.ar.seen, h.ar.low, e2, hlt⟩ h.mg⟩
/-- A merge is told. -/
theorem PM.newMerge (h : PM w base pb K X L M R nx s) {w1 : World} {x : Nat × Nat × Nat} {g cap : Nat} (ho : w1.ownsRow base 96 3 (.slice (some ⟨g, 0, none⟩) (s.mg.length + 1) cap) (s.mg.length + 1) (mgV (s.mg ++ [x]))) (hk : Keeps (fun k => (Value.slice X.ma s.mg.length X.mc).ownBlock = some k) w w1) :
    PM (w1.setCell ⟨pb, 9, none⟩ (.slice (some ⟨g, 0, none⟩) (s.mg.length + 1) cap)) base pb K { X with ma := some ⟨g, 0, none⟩, mc := cap } L M R nx { s with mg := s.mg ++ [x] } := by
  have hT := onlyT_own h.mg
  refine PM.put (c := cells K X nx s) (blk_other h.blk hk hT (by decide)) h.lo (by simp [cells]) (h.vw.other hk hT (by decide) (by decide) (by decide)) (h.tk.other hk hT (by decide) (by decide)) (h.ar.other hk (fun i e => row_low h.mg e)) ?_
  show w1.ownsRow base 96 3 (.slice (some ⟨g, 0, none⟩) (s.mg ++ [x]).length cap) (s.mg ++ [x]).length _
  rw [List.length_append, List.length_singleton]
  exact ho
end
end Go.Proofs.Ytdiabpoafennlab.Rn
/-! What becomes of the document's run in memory: views, looks, tasks. -/
namespace Go.Proofs.Ytdiabpoafennlab.Rn
set_option linter.unusedVariables false
set_option maxRecDepth 20000
set_option linter.unusedSimpArgs false
open Go.RowKit Go.HeapKit Go.PlainOps

theorem v_more (K : RP) (vs : List (List Int)) (L : Nat → Value) (l : List Int) (V : Value) : (List.range ((vs ++ [l]).length * 2)).map (vF K (vs ++ [l]) (upd L vs.length V)) = (List.range (vs.length * 2)).map (vF K vs L) ++ [V, .int .i64 (gV K l)] := by
  have e : (vs ++ [l]).length * 2 = vs.length * 2 + 1 + 1 := by simp; omega
  rw [e, List.range_succ, List.range_succ, List.map_append, List.map_append, List.append_assoc]
  congr 1
  · refine range_cong (fun k hk => ?_)
    unfold vF
    rw [upd_ne (by omega), List.getD_eq_getElem?_getD, List.getElem?_append_left (by omega), ← List.getD_eq_getElem?_getD]
  · simp [vF, show (vs.length * 2 + 1) % 2 = 1 by omega, show (vs.length * 2 + 1) / 2 = vs.length by omega, upd_eq]
theorem v_set (K : RP) (vs : List (List Int)) (L : Nat → Value) (l : List Int) (V : Value) (h : Nat) (hh : h < vs.length) : (((List.range (vs.length * 2)).map (vF K vs L)).set (h * 2) V).set (h * 2 + 1) (.int .i64 (gV K l)) = (List.range (vs.length * 2)).map (vF K (vs.set h l) (upd L h V)) := by
  rw [range_setF, range_setF]
  refine range_cong (fun k hk => ?_)
  have hg : ∀ i, i ≠ h → (vs.set h l).getD i [] = vs.getD i [] := fun i hi => by rw [List.getD_eq_getElem?_getD, List.getElem?_set_ne (fun e => hi e.symm), ← List.getD_eq_getElem?_getD]
  by_cases e1 : k = h * 2 + 1
  · subst e1
    rw [upd_eq]
    simp [vF, show (h * 2 + 1) % 2 = 1 by omega, show (h * 2 + 1) / 2 = h by omega, hh]
  · rw [upd_ne e1]
    by_cases e2 : k = h * 2
    · subst e2
      rw [upd_eq]
      simp [vF, upd_eq]
    · rw [upd_ne e2]
      unfold vF
      by_cases h2 : k % 2 = 0
      · rw [if_pos h2, if_pos h2, upd_ne (by omega)]
      · rw [if_neg h2, if_neg h2, hg _ (by omega)]
theorem s_cong {tk tk' : List (Nat × List Nat)} {R R' : Nat → Value} {n : Nat} (h1 : ∀ i, i < n → (tk.getD i (0, [])).1 = (tk'.getD i (0, [])).1) (h2 : ∀ i, i < n → R i = R' i) : (List.range (n * 2)).map (sF tk R) = (List.range (n * 2)).map (sF tk' R') := by
  refine range_cong (fun k hk => ?_)
  unfold sF
  rw [h1 _ (by omega), h2 _ (by omega)]
theorem s_more {tk : List (Nat × List Nat)} (h0 : tk ≠ []) (R : Nat → Value) (x : Nat × List Nat) (V : Value) : (List.range ((tk ++ [x]).length * 2)).map (sF (tk ++ [x]) (upd R tk.length V)) = (List.range (tk.length * 2)).map (sF tk R) ++ [.int .i64 x.1, V] := by
  have hp : 0 < tk.length := List.length_pos_iff.2 h0
  have e : (tk ++ [x]).length * 2 = tk.length * 2 + 1 + 1 := by simp; omega
  rw [e, List.range_succ, List.range_succ, List.map_append, List.map_append, List.append_assoc]
  congr 1
  · refine s_cong (fun i hi => ?_) (fun i hi => upd_ne (by omega))
    rw [List.getD_eq_getElem?_getD, List.getElem?_append_left hi, ← List.getD_eq_getElem?_getD]
  · simp [sF, show (tk.length * 2 + 1) % 2 = 1 by omega, show (tk.length * 2 + 1) / 2 = tk.length by omega, upd_eq, h0]
    omega
theorem s_row (tk : List (Nat × List Nat)) (R : Nat → Value) (n i : Nat) (V : Value) : ((List.range (n * 2)).map (sF tk R)).set (i * 2 + 1) V = (List.range (n * 2)).map (sF tk (upd R i V)) := by
  rw [range_setF]
  refine range_cong (fun k hk => ?_)
  by_cases e : k = i * 2 + 1
  · subst e
    rw [upd_eq]
    simp [sF, show (i * 2 + 1) % 2 = 1 by omega, show (i * 2 + 1) / 2 = i by omega, upd_eq]
  · rw [upd_ne e]
    unfold sF
    by_cases h2 : k % 2 = 0
    · rw [if_pos h2, if_pos h2]
    · rw [if_neg h2, if_neg h2, upd_ne (by omega)]
section
variable {w w1 : World} {base pb nx : Nat} {K : RP} {X : RX} {L M R : Nat → Value} {s : PS}
/-- A new view. -/
theorem PM.newView (h : PM w base pb K X L M R nx s) (hu : K.unit = gV K []) {g cap : Nat} (ho : w1.ownsRow base 83 2 (.slice (some ⟨g, 0, none⟩) (s.vs.length + 1) cap) (s.vs.length + 1) ((List.range (s.vs.length * 2)).map (vF K s.vs L) ++ [.slice none 0 0, .int .i64 K.unit])) (hk : Keeps (fun k => (Value.slice X.va s.vs.length X.vc).ownBlock = some k) w w1) :
    PM (w1.setCell ⟨pb, 2, none⟩ (.slice (some ⟨g, 0, none⟩) (s.vs.length + 1) cap)) base pb K { X with va := some ⟨g, 0, none⟩, vc := cap } (upd L s.vs.length (.slice none 0 0)) M R nx { s with vs := s.vs ++ [[]] } := by
  have hT := onlyT_own h.vw.views
  refine PM.put (c := cells K X nx s) (blk_other h.blk hk hT (by decide)) h.lo (by simp [cells]) ⟨?_, fun i hi => ?_, row_other h.vw.looks hk hT (by decide), fun i hi => row_other (h.vw.told i hi) hk hT (by decide)⟩ (h.tk.other hk hT (by decide) (by decide)) (h.ar.other hk (fun i e => row_low h.vw.views e)) (row_other h.mg hk hT (by decide))
  · show w1.ownsRow base 83 2 (.slice (some ⟨g, 0, none⟩) (s.vs ++ [[]]).length cap) (s.vs ++ [[]]).length ((List.range ((s.vs ++ [[]]).length * 2)).map _)
    rw [v_more, List.length_append, List.length_singleton, ← hu]
    exact ho
  · show w1.ownsRow base 2 1 (upd L s.vs.length (.slice none 0 0) i) ((s.vs ++ [[]]).getD i []).length (iv ((s.vs ++ [[]]).getD i []))
    by_cases e : i = s.vs.length
    · subst e
      have e2 : (s.vs ++ [([] : List Int)]).getD s.vs.length [] = [] := by simp
      rw [upd_eq, e2]
      exact row_nil _ _ _ _
    · have hi2 : i < s.vs.length := by have : i < (s.vs ++ [[]]).length := hi; simp at this; omega
      rw [upd_ne e, List.getD_eq_getElem?_getD, List.getElem?_append_left hi2, ← List.getD_eq_getElem?_getD]
      exact row_other (h.vw.rows i hi2) hk hT (by decide)
/-- A view holds another list. -/
theorem PM.putView (h : PM w base pb K X L M R nx s) {v vb : Nat} {V : Value} {l : List Int} (hv : v < s.vs.length) (hva : X.va = some ⟨vb, 0, none⟩) (ho : w.ownsRow base 2 1 V l.length (iv l)) :
    PM ((w.setCell ⟨vb, v * 2, none⟩ V).setCell ⟨vb, v * 2 + 1, none⟩ (.int .i64 (gV K l))) base pb K X (upd L v V) M R nx { s with vs := s.vs.set v l } := by
  have hT : OnlyT (· = vb) w 83 := by
    obtain ⟨cur, hc⟩ := own_block h.vw.views (g := vb) (by rw [hva]; rfl)
    exact onlyT_one hc
  have hk : Keeps (· = vb) w ((w.setCell ⟨vb, v * 2, none⟩ V).setCell ⟨vb, v * 2 + 1, none⟩ (.int .i64 (gV K l))) := keeps_one (keeps_one (Keeps.refl _ _) _) _
  have hlo : base ≤ vb := row_low h.vw.views (by rw [hva]; rfl)
  refine ⟨?_, h.lo, ⟨?_, fun i hi => ?_, row_other h.vw.looks hk hT (by decide), fun i hi => row_other (h.vw.told i hi) hk hT (by decide)⟩, h.tk.other hk hT (by decide) (by decide), h.ar.other hk (fun i e => by omega), row_other h.mg hk hT (by decide)⟩
  · have := blk_other h.blk hk hT (by decide)
    rw [this]
    simp [cells]
  · show World.ownsRow _ base 83 2 (.slice X.va (s.vs.set v l).length X.vc) (s.vs.set v l).length ((List.range ((s.vs.set v l).length * 2)).map _)
    have hv2 := h.vw.views
    rw [List.length_set, ← v_set K s.vs L l V v hv]
    rw [hva] at hv2 ⊢
    exact row_set (row_set hv2 _ _) _ _
  · have hi2 : i < s.vs.length := by have : i < (s.vs.set v l).length := hi; simpa using this
    show World.ownsRow _ base 2 1 (upd L v V i) ((s.vs.set v l).getD i []).length (iv ((s.vs.set v l).getD i []))
    by_cases e : i = v
    · subst e
      rw [upd_eq, show (s.vs.set i l).getD i [] = l by simp [hi2]]
      exact row_other ho hk hT (by decide)
    · rw [upd_ne e, List.getD_eq_getElem?_getD, List.getElem?_set_ne (fun e2 => e e2.symm), ← List.getD_eq_getElem?_getD]
      exact row_other (h.vw.rows i hi2) hk hT (by decide)
/-- A look is told. -/
theorem PM.newLook (h : PM w base pb K X L M R nx s) {V : Value} {l : List Int} {g cap : Nat} (hv : w.ownsRow base 2 1 V l.length (iv l)) (ho : w1.ownsRow base 28 1 (.slice (some ⟨g, 0, none⟩) (s.lk.length + 1) cap) (s.lk.length + 1) ((List.range s.lk.length).map M ++ [V])) (hk : Keeps (fun k => (Value.slice X.la s.lk.length X.lc).ownBlock = some k) w w1) :
    PM (w1.setCell ⟨pb, 10, none⟩ (.slice (some ⟨g, 0, none⟩) (s.lk.length + 1) cap)) base pb K { X with la := some ⟨g, 0, none⟩, lc := cap } L (upd M s.lk.length V) R nx { s with lk := s.lk ++ [l] } := by
  have hT := onlyT_own h.vw.looks
  refine PM.put (c := cells K X nx s) (blk_other h.blk hk hT (by decide)) h.lo (by simp [cells]) ⟨row_other h.vw.views hk hT (by decide), fun i hi => row_other (h.vw.rows i hi) hk hT (by decide), ?_, fun i hi => ?_⟩ (h.tk.other hk hT (by decide) (by decide)) (h.ar.other hk (fun i e => row_low h.vw.looks e)) (row_other h.mg hk hT (by decide))
  · show w1.ownsRow base 28 1 (.slice (some ⟨g, 0, none⟩) (s.lk ++ [l]).length cap) (s.lk ++ [l]).length ((List.range (s.lk ++ [l]).length).map _)
    rw [List.length_append, List.length_singleton, List.range_succ, List.map_append, List.map_singleton, upd_eq, range_cong (G := M) (fun i hi => upd_ne (by omega))]
    exact ho
  · show w1.ownsRow base 2 1 (upd M s.lk.length V i) ((s.lk ++ [l]).getD i []).length (iv ((s.lk ++ [l]).getD i []))
    by_cases e : i = s.lk.length
    · subst e
      rw [upd_eq, show (s.lk ++ [l]).getD s.lk.length [] = l by simp]
      exact row_other hv hk hT (by decide)
    · have hi2 : i < s.lk.length := by have : i < (s.lk ++ [l]).length := hi; simp at this; omega
      rw [upd_ne e, List.getD_eq_getElem?_getD, List.getElem?_append_left hi2, ← List.getD_eq_getElem?_getD]
      exact row_other (h.vw.told i hi2) hk hT (by decide)
end
end Go.Proofs.Ytdiabpoafennlab.Rn
/-! What becomes of the document's run in memory: its tasks. -/
namespace Go.Proofs.Ytdiabpoafennlab.Rn
set_option linter.unusedVariables false
set_option maxRecDepth 20000
set_option linter.unusedSimpArgs false
open Go.RowKit Go.HeapKit Go.PlainOps

section
variable {w w1 : World} {base pb nx : Nat} {K : RP} {X : RX} {L M R : Nat → Value} {s : PS}
/-- A task begins. -/
theorem PM.spawn (h : PM w base pb K X L M R nx s) (h0 : s.tk ≠ []) {V : Value} {x : Nat × List Nat} {g cap : Nat} (hV : w.ownsRow base 3 1 V x.2.length (nv x.2)) (ho : w1.ownsRow base 93 2 (.slice (some ⟨g, 0, none⟩) (s.tk.length + 1) cap) (s.tk.length + 1) ((List.range (s.tk.length * 2)).map (sF s.tk R) ++ [.int .i64 x.1, V])) (hk : Keeps (fun k => (Value.slice X.ta s.tk.length X.tc).ownBlock = some k) w w1) :
    PM (w1.setCell ⟨pb, 3, none⟩ (.slice (some ⟨g, 0, none⟩) (s.tk.length + 1) cap)) base pb K { X with ta := some ⟨g, 0, none⟩, tc := cap } L M (upd R s.tk.length V) nx { s with tk := s.tk ++ [x] } := by
  have hT := onlyT_own h.tk.tks
  refine PM.put (c := cells K X nx s) (blk_other h.blk hk hT (by decide)) h.lo (by simp [cells]) (h.vw.other hk hT (by decide) (by decide) (by decide)) ⟨?_, fun i hi => ?_⟩ (h.ar.other hk (fun i e => row_low h.tk.tks e)) (row_other h.mg hk hT (by decide))
  · show w1.ownsRow base 93 2 (.slice (some ⟨g, 0, none⟩) (s.tk ++ [x]).length cap) (s.tk ++ [x]).length ((List.range ((s.tk ++ [x]).length * 2)).map _)
    rw [s_more h0, List.length_append, List.length_singleton]
    exact ho
  · show w1.ownsRow base 3 1 (upd R s.tk.length V i) (rowOf (s.tk ++ [x]) i).length (nv (rowOf (s.tk ++ [x]) i))
    rw [rowOf_more s.tk x i hi]
    by_cases e : i = s.tk.length
    · subst e
      rw [upd_eq, if_pos rfl]
      exact row_other hV hk hT (by decide)
    · have hi2 : i < s.tk.length := by have : i < (s.tk ++ [x]).length := hi; simp at this; omega
      rw [upd_ne e, if_neg e]
      exact row_other (h.tk.rows i hi2) hk hT (by decide)
/-- What the tasks are without the last one. -/
theorem s_init {tk : List (Nat × List Nat)} {x : Nat × List Nat} {R : Nat → Value} : (List.range (tk.length * 2)).map (sF (tk ++ [x]) R) = (List.range (tk.length * 2)).map (sF tk R) :=
  s_cong (fun i hi => by rw [List.getD_eq_getElem?_getD, List.getElem?_append_left hi, ← List.getD_eq_getElem?_getD]) (fun _ _ => rfl)
/-- The last task is gone: the others are copied. -/
theorem PM.endTask (h : PM w base pb K X L M R nx s) {tk : List (Nat × List Nat)} {x : Nat × List Nat} (hx : s.tk = tk ++ [x]) {a : Option Addr} {cap : Nat} (ho : w1.ownsRow base 93 2 (.slice a tk.length cap) tk.length ((List.range (tk.length * 2)).map (sF tk R))) (hk : Keeps None w w1) :
    PM (w1.setCell ⟨pb, 3, none⟩ (.slice a tk.length cap)) base pb K { X with ta := a, tc := cap } L M R nx { s with tk := tk } := by
  have h1 := h.more hk
  refine PM.put (c := cells K X nx s) h1.blk h.lo (by simp [cells]) h1.vw ⟨ho, fun i hi => ?_⟩ h1.ar h1.mg
  have hi2 : i < tk.length := hi
  have h2 := h1.tk.rows i (by rw [hx]; simp; omega)
  rw [hx, rowOf_more tk x i (by simp; omega), if_neg (by omega)] at h2
  exact h2
/-- The current task's row becomes another list. -/
theorem PM.putRow (h : PM w base pb K X L M R nx s) {tk : List (Nat × List Nat)} {sp tb : Nat} {r r' : List Nat} {V : Value} (hx : s.tk = tk ++ [(sp, r)]) (hta : X.ta = some ⟨tb, 0, none⟩) (hV : w.ownsRow base 3 1 V r'.length (nv r')) :
    PM (w.setCell ⟨tb, tk.length * 2 + 1, none⟩ V) base pb K X L M (upd R tk.length V) nx { s with tk := tk ++ [(sp, r')] } := by
  have hlen : s.tk.length = tk.length + 1 := by rw [hx]; simp
  have hlen2 : (tk ++ [(sp, r')]).length = s.tk.length := by rw [hx]; simp
  have hT : OnlyT (· = tb) w 93 := by
    obtain ⟨cur, hc⟩ := own_block h.tk.tks (g := tb) (by rw [hta]; rfl)
    exact onlyT_one hc
  have hk : Keeps (· = tb) w (w.setCell ⟨tb, tk.length * 2 + 1, none⟩ V) := keeps_one (Keeps.refl _ _) _
  have hlo : base ≤ tb := row_low h.tk.tks (by rw [hta]; rfl)
  refine ⟨?_, h.lo, h.vw.other hk hT (by decide) (by decide) (by decide), ⟨?_, fun i hi => ?_⟩, h.ar.other hk (fun i e => by omega), row_other h.mg hk hT (by decide)⟩
  · have := blk_other h.blk hk hT (by decide)
    rw [this]
    simp [cells, hx]
  · show World.ownsRow _ base 93 2 (.slice X.ta (tk ++ [(sp, r')]).length X.tc) (tk ++ [(sp, r')]).length ((List.range ((tk ++ [(sp, r')]).length * 2)).map (sF (tk ++ [(sp, r')]) (upd R tk.length V)))
    have ho := h.tk.tks
    rw [hlen2]
    have e : (List.range (s.tk.length * 2)).map (sF (tk ++ [(sp, r')]) (upd R tk.length V)) = (List.range (s.tk.length * 2)).map (sF s.tk (upd R tk.length V)) := by
      refine s_cong (fun i hi => ?_) (fun _ _ => rfl)
      rw [hx, List.getD_eq_getElem?_getD, List.getD_eq_getElem?_getD]
      by_cases e : i < tk.length
      · rw [List.getElem?_append_left e, List.getElem?_append_left e]
      · rw [List.getElem?_append_right (by omega), List.getElem?_append_right (by omega), show i - tk.length = 0 by omega]
        rfl
    rw [e, ← s_row]
    rw [hta] at ho ⊢
    exact row_set ho _ V
  · have hi2 : i < tk.length + 1 := by have : i < (tk ++ [(sp, r')]).length := hi; simpa using this
    show World.ownsRow _ base 3 1 (upd R tk.length V i) (rowOf (tk ++ [(sp, r')]) i).length (nv (rowOf (tk ++ [(sp, r')]) i))
    rw [rowOf_more tk (sp, r') i hi]
    by_cases e : i = tk.length
    · subst e
      rw [upd_eq, if_pos rfl]
      exact row_other hV hk hT (by decide)
    · rw [upd_ne e, if_neg e]
      have h2 := h.tk.rows i (by omega)
      rw [hx, rowOf_more tk (sp, r) i (by simp; omega), if_neg e] at h2
      exact row_other h2 hk hT (by decide)
end
end Go.Proofs.Ytdiabpoafennlab.Rn
/-! The document's run: its small calls. -/
namespace Go.Proofs.Ytdiabpoafennlab.Rn
set_option linter.unusedVariables false
set_option maxRecDepth 20000
set_option linter.unusedSimpArgs false
open Go.RowKit Go.HeapKit Go.PlainOps

section
variable {w : World} {base pb nx : Nat} {K : RP} {X : RX} {L M R : Nat → Value} {s : PS}
/-- The current task's row in memory. -/
theorem PM.cur (h : PM w base pb K X L M R nx s) {tk : List (Nat × List Nat)} {sp : Nat} {r : List Nat} (hx : s.tk = tk ++ [(sp, r)]) : ∃ tb, X.ta = some ⟨tb, 0, none⟩ ∧ base ≤ tb ∧ tb < w.heap.size ∧ tk.length + 1 ≤ X.tc ∧ w.cell? ⟨tb, tk.length * 2 + 1, none⟩ = some (R tk.length) ∧ (∀ i, w.frozen? ⟨tb, i, none⟩ = false) ∧ w.ownsRow base 3 1 (R tk.length) r.length (nv r) := by
  have hl : s.tk.length = tk.length + 1 := by rw [hx]; simp
  obtain ⟨g, e, h1, h2, h3, h4, h5⟩ := own_cellS h.tk.tks (k := tk.length * 2 + 1) (range_get _ (by omega))
  have h6 := h.tk.rows tk.length (by omega)
  rw [hx, rowOf_more tk (sp, r) _ (by simp), if_pos rfl] at h6
  refine ⟨g, e, h1, h2, by omega, ?_, h5, h6⟩
  rw [h4]
  simp [sF, show (tk.length * 2 + 1) % 2 = 1 by omega, show (tk.length * 2 + 1) / 2 = tk.length by omega]
end
set_option maxHeartbeats 800000 in
theorem last_ok (base pb nx : Nat) (K : RP) (X : RX) (L M R : Nat → Value) (s : PS) (w : World) (tk : List (Nat × List Nat)) (x : Nat × List Nat) (h : PM w base pb K X L M R nx s) (hx : s.tk = tk ++ [x]) (hn : tk.length ≤ 100000) :
    Calls Try.prog 42 #[.pointer (some ⟨pb, 0, none⟩)] w fun e w' => e = .returned (.int .i64 tk.length) ∧ w' = w := by
  obtain ⟨-, -, -, q3, -, -, -, -, -⟩ := h.c0
  rw [hx, List.length_append, List.length_singleton] at q3
  have hw : wrap64 (((tk.length + 1 : Nat) : Int) - 1) = ((tk.length : Nat) : Int) := by unfold wrap64; omega
  clear h hx
  go_enter Try.func42, Try.ntmps42
  go_wp2
  go_ret
  exact ⟨rfl, rfl⟩
set_option maxHeartbeats 1600000 in
theorem hand_ok (base pb nx : Nat) (K : RP) (X : RX) (L M R : Nat → Value) (s : PS) (w : World) (tk : List (Nat × List Nat)) (sp : Nat) (r : List Nat) (h : PM w base pb K X L M R nx s) (hx : s.tk = tk ++ [(sp, r)]) (hr : r ≠ []) (hn : tk.length ≤ 100000) (hn2 : r.length ≤ 100000) :
    Calls Try.prog 60 #[.pointer (some ⟨pb, 0, none⟩)] w fun e w' => e = .returned (.int .i64 (r.getLastD 0 : Nat)) ∧ Keeps None w w' := by
  obtain ⟨tb, hta, -, -, -, t1, -, hrow⟩ := h.cur hx
  obtain ⟨ra, rc, he⟩ := row_shape hrow
  have hpos : 0 < r.length := List.length_pos_iff.2 hr
  rw [he] at hrow t1
  obtain ⟨g, rfl, -, -, hrc, hc, -⟩ := own_cellS hrow (k := r.length - 1) (nv_at (last_at hr))
  obtain ⟨V, hV⟩ : ∃ V, V = r.getLastD 0 := ⟨_, rfl⟩
  rw [← hV] at hc ⊢
  obtain ⟨-, -, -, q3, -, -, -, -, -⟩ := h.c0
  rw [hta, hx, List.length_append, List.length_singleton] at q3
  obtain ⟨T, hT⟩ : ∃ T, T = tk.length + 1 := ⟨_, rfl⟩
  obtain ⟨J, hJ⟩ : ∃ J, J = tk.length := ⟨_, rfl⟩
  rw [← hT] at q3
  rw [← hJ] at t1
  have HJ : Hid (J = tk.length) := hJ
  have HP : Hid (PM w base pb K X L M R nx s ∧ s.tk = tk ++ [(sp, r)]) := ⟨h, hx⟩
  have HC : Hid (∀ wx, Keeps None w wx → wx.cell? ⟨pb, 3, none⟩ = some (.slice (some ⟨tb, 0, none⟩) T X.tc) ∧ wx.cell? ⟨tb, J * 2 + 1, none⟩ = some (.slice (some ⟨g, 0, none⟩) r.length rc) ∧ wx.cell? ⟨g, r.length - 1, none⟩ = some (.int .i64 V)) := fun wx hk => ⟨hk.cell q3 (fun f => f), hk.cell t1 (fun f => f), hk.cell hc (fun f => f)⟩
  have hw : wrap64 ((r.length : Int) - 1) = ((r.length - 1 : Nat) : Int) := by unfold wrap64; omega
  have hw2 : ((r.length - 1 : Nat) : Int) < (r.length : Int) := by omega
  have hw3 : (J : Int) < (T : Int) := by omega
  have hw4 : (0 : Int) ≤ (J : Int) := by omega
  have hw5 : J < T := by omega
  clear h hx t1 hc hrow he hr hV q3 hta hT hJ
  go_enter Try.func60, Try.ntmps60
  go_upto_region 1 with fail
  have hkc : Keeps None w w.drew := Keeps.drew None w
  have hs := HC.out _ hkc
  go_region_held3 (fun wx => wx.cell? ⟨pb, 3, none⟩ = some (.slice (some ⟨tb, 0, none⟩) T X.tc) ∧ wx.cell? ⟨tb, J * 2 + 1, none⟩ = some (.slice (some ⟨g, 0, none⟩) r.length rc) ∧ wx.cell? ⟨g, r.length - 1, none⟩ = some (.int .i64 V)) (first | exact hs | go_keep) (first
    | (go_at_call 42; refine Calls.mono (last_ok base pb nx K X L M R s _ tk (sp, r) (HP.out.1.more hkc) HP.out.2 hn) ?_; rintro _ wn ⟨rfl, rfl⟩; rw [← HJ.out]))
  all_goals
    obtain ⟨z1, z2, z3⟩ := hs
    go_wp2
    go_ret
    exact ⟨rfl, hkc⟩
end Go.Proofs.Ytdiabpoafennlab.Rn
/-! The document's run: its next pick. -/
namespace Go.Proofs.Ytdiabpoafennlab.Rn
set_option linter.unusedVariables false
set_option maxRecDepth 20000
set_option linter.unusedSimpArgs false
open Go.RowKit Go.HeapKit Go.PlainOps

set_option maxHeartbeats 1600000 in
theorem pick_ok (base pb nx n : Nat) (K : RP) (X : RX) (L M R : Nat → Value) (s : PS) (w : World) (h : PM w base pb K X L M R nx s) (hn : 1 ≤ n) (hn2 : n ≤ 100000) (hk : K.pk.length ≤ 1048576) :
    Calls Try.prog 62 #[.pointer (some ⟨pb, 0, none⟩), .int .i64 n] w fun e w' => e = .returned (.int .i64 (s.pk.headD 0 % (n : Int))) ∧ (∃ nx', PM w' base pb K X L M R nx' { s with pk := s.pk.tail }) ∧ Keeps (· = pb) w w' := by
  obtain ⟨-, -, -, -, q4, q5, -, -, -⟩ := h.c0
  have hf5 := h.free 5
  have hle := h.ar.le
  have HP : Hid (PM w base pb K X L M R nx s) := h
  cases hp : s.pk with
  | nil =>
    have hge : K.pk.length ≤ nx := by
      have h1 := h.ar.rest
      rw [hp] at h1
      have h2 := congrArg List.length h1
      simp at h2
      omega
    have i1 : ¬ (nx : Int) < (K.pk.length : Int) := by omega
    have HX : Hid (s.pk = []) := hp
    have i2 : ¬ (n : Int) = 0 := by omega
    clear h hp
    go_enter Try.func62, Try.ntmps62
    go_upto_region 2 with fail
    go_quiet (fail)
    go_wp2
    go_ret
    have e : ({ s with pk := [] } : PS) = s := by rw [← HX.out]
    rw [e]
    exact ⟨rfl, ⟨nx, HP.out.more (keeps_drewN _ _)⟩, (keeps_drewN _ _).mono (fun _ f _ => f.elim)⟩
  | cons x pk =>
    obtain ⟨hx, hN⟩ := h.nextPick hp
    have hlt : nx < K.pk.length := (List.getElem?_eq_some_iff.1 hx).1
    obtain ⟨b, off, v, ha, -, hv, hc⟩ := h.ar.seen.at hlt
    rw [iv, List.getElem?_map, hx] at hv
    obtain rfl : Value.int .i64 x = v := Option.some.inj hv
    rw [ha] at q4
    have HN : Hid (∀ wx, Keeps None w wx → PM (wx.setCell ⟨pb, 5, none⟩ (.int .i64 ((nx + 1 : Nat) : Int))) base pb K X L M R (nx + 1) { s with pk := pk } ∧ wx.cell? ⟨pb, 4, none⟩ = some (.slice (some ⟨b, off, none⟩) K.pk.length K.pc) ∧ wx.cell? ⟨pb, 5, none⟩ = some (.int .i64 nx) ∧ wx.cell? ⟨b, off + nx, none⟩ = some (.int .i64 x) ∧ wx.frozen? ⟨pb, 5, none⟩ = false) := fun wx hw => ⟨((h.more hw).nextPick hp).2, hw.cell q4 (fun f => f), hw.cell q5 (fun f => f), hw.cell hc (fun f => f), (h.more hw).free 5⟩
    have i1 : (nx : Int) < (K.pk.length : Int) := by omega
    have i3 : (0 : Int) ≤ (nx : Int) := by omega
    have i2 : ¬ (n : Int) = 0 := by omega
    have hm := tmod_mod x n (by omega)
    have hb := tmod_bounds x n (by omega)
    obtain ⟨y, hy⟩ : ∃ y, y = x.tmod n := ⟨_, rfl⟩
    rw [← hy] at hm hb
    have HM : Hid ((if y < 0 then y + n else y) = x % n ∧ -(n : Int) < y ∧ y < n ∧ y = x.tmod n) := ⟨hm, hb.1, hb.2, hy⟩
    have hw1 : wrap64 ((nx : Int) + 1) = (nx : Int) + 1 := by unfold wrap64; omega
    clear h hp hx hN hv ha hm hb hy
    go_enter Try.func62, Try.ntmps62
    go_upto_region 2 with fail
    go_quiet (fail)
    obtain ⟨w1, hq1⟩ : ∃ w1, w1 = w.drewN nq := ⟨_, rfl⟩
    have hk1 : Keeps None w w1 := by rw [hq1]; exact keeps_drewN _ _
    rw [← hq1]
    clear hq1
    obtain ⟨-, z4, z5, zc, zf⟩ := HN.out w1 hk1
    go_upto_region 3 with fail
    go_quiet (fail)
    obtain ⟨w2, hq2⟩ : ∃ w2, w2 = w1.drewN nq := ⟨_, rfl⟩
    have hk2 : Keeps None w w2 := hk1.trans (by rw [hq2]; exact keeps_drewN _ _) (fun _ f _ => f)
    rw [← hq2]
    clear hq2 z4 z5 zc zf q4 q5 hf5 hc
    obtain ⟨hP, z4, z5, zc, zf⟩ := HN.out w2 hk2
    have HF : Hid (PM (w2.setCell ⟨pb, 5, none⟩ (.int .i64 ((nx : Int) + 1))) base pb K X L M R (nx + 1) { s with pk := pk } ∧ Keeps (· = pb) w (w2.setCell ⟨pb, 5, none⟩ (.int .i64 ((nx : Int) + 1)))) := ⟨hP, (hk2.mono (T := (· = pb)) (fun _ f _ => f.elim)).andSet (x := ⟨pb, 5, none⟩) (.inl rfl) _⟩
    have hm2 : x.tmod (n : Int) = y := HM.out.2.2.2.symm
    have hwy : wrap64 y = y := by have := HM.out.2; unfold wrap64; omega
    have hwz : wrap64 (y + (n : Int)) = y + (n : Int) := by have := HM.out.2; unfold wrap64; omega
    clear hP hk1 hk2
    by_cases hy0 : y < 0
    · have HY : Hid (wrap64 (y + (n : Int)) = x % n) := by have h := HM.out.1; rw [if_pos hy0] at h; exact hwz.trans h
      clear hwz
      go_wp2_with fail
      go_ret
      exact ⟨congrArg (fun v => Ending.returned (Value.int .i64 v)) HY.out, ⟨nx + 1, HF.out.1⟩, HF.out.2⟩
    · have HY : Hid (y = x % n) := by have h := HM.out.1; rw [if_neg hy0] at h; exact h
      go_wp2_with fail
      go_ret
      exact ⟨congrArg (fun v => Ending.returned (Value.int .i64 v)) HY.out, ⟨nx + 1, HF.out.1⟩, HF.out.2⟩
end Go.Proofs.Ytdiabpoafennlab.Rn
/-! Bits one at a time, doublings and halvings: the document's own ways, as plain functions. -/
namespace Go.PlainOps
open Go.RowKit

def oddV (a : Int) : Bool := decide (a % 2 = 1)
def halfV (a : Int) : Int := a / 2
def shrN (a : Int) (k : Nat) : Int := a / 2 ^ k
def shlN (a : Int) (k : Nat) : Int := wrap64 (a * 2 ^ k)
def unitP (k : Nat) : Int := wrap64 (2 ^ k)
def accV (X : BitVec 64) (k : Nat) : Int := wrap64 ((X.toNat % 2 ^ k : Nat) : Int)
def combV (both one x y : Bool) : Bool := (x && y && both) || ((x != y) && one)

theorem odd_tmod (a : Int) : (a.tmod 2 != 0) = oddV a := by
  unfold oddV
  rw [Int.tmod_eq_emod]
  rw [Bool.eq_iff_iff]
  simp only [bne_iff_ne, decide_eq_true_eq]
  split <;> omega
theorem half_neg (a : Int) (h : a < 0) (ho : oddV a = true) : a.tdiv 2 - 1 = halfV a := by
  unfold halfV
  simp only [oddV, decide_eq_true_eq] at ho
  have h1 := Int.tdiv_mul_add_tmod a 2
  have h2 := Int.tmod_eq_emod (a := a) (b := 2)
  split at h2 <;> omega
theorem half_pos (a : Int) (h : ¬ (a < 0 ∧ oddV a = true)) : a.tdiv 2 = halfV a := by
  unfold halfV
  simp only [oddV, decide_eq_true_eq] at h
  have h1 := Int.tdiv_mul_add_tmod a 2
  have h2 := Int.tmod_eq_emod (a := a) (b := 2)
  split at h2 <;> omega
theorem half_bounds (a : Int) (h0 : -9223372036854775808 ≤ a) (h1 : a ≤ 9223372036854775807) : -4611686018427387904 ≤ halfV a ∧ halfV a ≤ 4611686018427387903 := by
  unfold halfV; omega
theorem tdiv_two_bounds (a : Int) (h0 : -9223372036854775808 ≤ a) (h1 : a ≤ 9223372036854775807) : -4611686018427387904 ≤ a.tdiv 2 ∧ a.tdiv 2 ≤ 4611686018427387904 := by
  have h1 := Int.tdiv_mul_add_tmod a 2
  have h2 := Int.tmod_eq_emod (a := a) (b := 2)
  split at h2 <;> omega
theorem shr_zero (a : Int) : shrN a 0 = a := by simp [shrN]
theorem shr_succ (a : Int) (k : Nat) : halfV (shrN a k) = shrN a (k + 1) := by
  unfold halfV shrN
  rw [Int.ediv_ediv_of_nonneg (Int.le_of_lt (Int.pow_pos (by decide))), Int.pow_succ]
theorem shr_fits (a : Int) (k : Nat) (h0 : -9223372036854775808 ≤ a) (h1 : a ≤ 9223372036854775807) : -9223372036854775808 ≤ shrN a k ∧ shrN a k ≤ 9223372036854775807 := by
  induction k with
  | zero => rw [shr_zero]; exact ⟨h0, h1⟩
  | succ k ih => rw [← shr_succ]; have := half_bounds _ ih.1 ih.2; omega
theorem shl_zero (a : Int) (h0 : -9223372036854775808 ≤ a) (h1 : a ≤ 9223372036854775807) : shlN a 0 = a := by
  unfold shlN wrap64; rw [Int.pow_zero]; omega
theorem shl_succ (a : Int) (k : Nat) : wrap64 (shlN a k + shlN a k) = shlN a (k + 1) := by
  unfold shlN
  rw [Int.pow_succ, ← Int.mul_assoc]
  generalize a * 2 ^ k = p
  unfold wrap64; omega
theorem unit_zero : unitP 0 = 1 := by unfold unitP wrap64; rw [Int.pow_zero]; omega
theorem unit_succ (k : Nat) : wrap64 (unitP k + unitP k) = unitP (k + 1) := by
  unfold unitP
  rw [Int.pow_succ]
  generalize (2 : Int) ^ k = p
  unfold wrap64; omega
theorem acc_zero (X : BitVec 64) : accV X 0 = 0 := by
  unfold accV; rw [Nat.pow_zero, Nat.mod_one]; unfold wrap64; omega
theorem acc_set (X : BitVec 64) (k : Nat) (h : X.getLsbD k = true) : wrap64 (accV X k + unitP k) = accV X (k + 1) := by
  have e : X.toNat % 2 ^ (k + 1) = X.toNat % 2 ^ k + 2 ^ k := by
    rw [Nat.mod_pow_succ]
    have : X.toNat.testBit k = true := h
    rw [Nat.testBit_eq_decide_div_mod_eq, decide_eq_true_eq] at this
    rw [this, Nat.mul_one]
  unfold accV unitP
  rw [e]
  have e2 : ((X.toNat % 2 ^ k + 2 ^ k : Nat) : Int) = ((X.toNat % 2 ^ k : Nat) : Int) + 2 ^ k := by simp
  rw [e2]
  generalize ((X.toNat % 2 ^ k : Nat) : Int) = p
  generalize (2 : Int) ^ k = q
  unfold wrap64; omega
theorem acc_clear (X : BitVec 64) (k : Nat) (h : X.getLsbD k = false) : accV X k = accV X (k + 1) := by
  have e : X.toNat % 2 ^ (k + 1) = X.toNat % 2 ^ k := by
    rw [Nat.mod_pow_succ]
    have : X.toNat.testBit k = false := h
    rw [Nat.testBit_eq_decide_div_mod_eq, decide_eq_false_iff_not] at this
    have h0 : X.toNat / 2 ^ k % 2 = 0 := by omega
    rw [h0, Nat.mul_zero, Nat.add_zero]
  unfold accV
  rw [e]
theorem acc_end (X : BitVec 64) : accV X 64 = X.toInt := by
  unfold accV
  rw [Nat.mod_eq_of_lt X.isLt, wrap64_bv, bv_toNat]
theorem bit_odd (a : Int) (k : Nat) (hk : k < 64) : (bv a).getLsbD k = oddV (shrN a k) := by
  have h1 : (bv a).getLsbD k = (bv a).toNat.testBit k := rfl
  rw [h1, Nat.testBit_eq_decide_div_mod_eq]
  unfold oddV shrN
  have hn : ((bv a).toNat : Int) = a % 2 ^ 64 := by simp [bv]; omega
  have e : (((bv a).toNat / 2 ^ k % 2 : Nat) : Int) = a / 2 ^ k % 2 := by
    rw [Int.natCast_emod, Int.natCast_ediv, hn, Int.natCast_pow]
    have hs : (2 : Int) ^ 64 = 2 ^ k * (2 * 2 ^ (63 - k)) := by
      rw [← Int.pow_succ', ← Int.pow_add]; congr 1; omega
    have hp : (0 : Int) < 2 ^ k := Int.pow_pos (by decide)
    have hd := Int.mul_ediv_add_emod a (2 ^ 64)
    have h2 : a / 2 ^ k = a % 2 ^ 64 / 2 ^ k + (2 * 2 ^ (63 - k)) * (a / 2 ^ 64) := by
      conv => lhs; rw [← hd, Int.add_comm]
      rw [hs, Int.mul_assoc, Int.add_mul_ediv_left _ _ (by omega)]
    rw [h2, Int.mul_assoc]
    exact (Int.add_mul_emod_self_left _ 2 _).symm
  rw [Bool.eq_iff_iff]
  simp only [decide_eq_true_eq]
  omega
/-- A word read as a signed number: shut, so that no simp lays it open. -/
def bitsR (X : BitVec 64) : Int := X.toInt
theorem and_R (a b : Int) : bits .and .i64 a b = bitsR (bv a &&& bv b) := bits_and a b
theorem or_R (a b : Int) : bits .or .i64 a b = bitsR (bv a ||| bv b) := bits_or a b
theorem xor_R (a b : Int) : bits .xor .i64 a b = bitsR (bv a ^^^ bv b) := bits_xor a b
/-- The document's quotient and rest are the operations'. -/
theorem quot_one (a : Int) : wrap64 (0 - a) = quotV a (-1) := by
  unfold quotV
  rw [if_neg (by decide), Int.tdiv_neg, Int.tdiv_one]
  congr 1
  omega
theorem rem_doc (a b : Int) (h0 : -9223372036854775808 ≤ a) (h1 : a ≤ 9223372036854775807) (hb0 : -9223372036854775808 ≤ b) (hb1 : b ≤ 9223372036854775807) : wrap64 (a - wrap64 (quotV a b * b)) = remV a b := by
  unfold quotV remV
  by_cases hb : b = 0
  · subst hb; simp [wrap64]; omega
  · rw [if_neg hb, if_neg hb]
    have e := Int.tdiv_mul_add_tmod a b
    have hr : -9223372036854775808 ≤ a.tmod b ∧ a.tmod b ≤ 9223372036854775807 := by
      rcases Int.lt_or_gt_of_ne hb with h | h
      · have := tmod_bounds a (-b) (by omega)
        rw [Int.tmod_neg] at this; omega
      · have := tmod_bounds a b (by omega); omega
    rw [← toInt_bv hr.1 hr.2]
    have e2 : a.tmod b = a - a.tdiv b * b := by omega
    rw [e2]
    simp only [wrap64_bv, bv_mul, bv_sub, bv_toInt]
end Go.PlainOps
/-! The contracts of the document's own operations. -/
namespace Go.Proofs.Ytdiabpoafennlab
open Go.RowKit Go.PlainOps
section
set_option maxHeartbeats 400000
theorem refOdd_any (a : Int) (w : World) : Calls Try.prog 78 #[.int .i64 a] w fun e w' => e = .returned (.bool (oddV a)) ∧ w' = w := by
  have h := odd_tmod a
  go_enter Try.func78, Try.ntmps78
  go_wp2
  go_ret
  exact ⟨rfl, rfl⟩
theorem refHalf_any (a : Int) (w : World) (h0 : -9223372036854775808 ≤ a) (h1 : a ≤ 9223372036854775807) : Calls Try.prog 79 #[.int .i64 a] w fun e w' => e = .returned (.int .i64 (halfV a)) ∧ w' = w := by
  have hb := tdiv_two_bounds a h0 h1
  obtain ⟨hb0, hb1⟩ := hb
  have ho := odd_tmod a
  by_cases hn : a < 0
  · cases hd : oddV a
    · rw [hd] at ho
      have E : Hid (halfV a = a.tdiv 2) := (half_pos a (by rw [hd]; simp)).symm
      clear hd
      go_enter Try.func79, Try.ntmps79
      go_wp2
      go_ret
      exact ⟨by rw [E.out]; rfl, rfl⟩
    · rw [hd] at ho
      have E : Hid (halfV a = a.tdiv 2 - 1) := (half_neg a hn hd).symm
      clear hd
      go_enter Try.func79, Try.ntmps79
      go_wp2
      go_ret
      exact ⟨by rw [E.out]; rfl, rfl⟩
  · have E : Hid (halfV a = a.tdiv 2) := (half_pos a (by omega)).symm
    clear ho
    go_enter Try.func79, Try.ntmps79
    go_wp2
    go_ret
    exact ⟨by rw [E.out]; rfl, rfl⟩
end
end Go.Proofs.Ytdiabpoafennlab
/-! The document's own bits, doublings, halvings, quotient, comparisons; its work and Apply. -/
namespace Go.Proofs.Ytdiabpoafennlab
open Go.RowKit Go.PlainOps
section
set_option maxHeartbeats 800000
theorem refBits_any (a b : Int) (both one : Bool) (X : BitVec 64) (w : World) (h0 : -9223372036854775808 ≤ a) (h1 : a ≤ 9223372036854775807) (hb0 : -9223372036854775808 ≤ b) (hb1 : b ≤ 9223372036854775807)
    (hX : ∀ i, i < 64 → X.getLsbD i = combV both one ((bv a).getLsbD i) ((bv b).getLsbD i)) :
    Calls Try.prog 73 #[.int .i64 a, .int .i64 b, .bool both, .bool one] w fun e w' => e = .returned (.int .i64 (bitsR X)) ∧ w' = w := by
  have HX : Hid (∀ i, i < 64 → X.getLsbD i = combV both one ((bv a).getLsbD i) ((bv b).getLsbD i)) := hX
  clear hX
  go_enter Try.func73, Try.ntmps73
  go_wp2
  go_loop [0, 1, 9, 10, 11] (fun x y v u i => ∃ k : Nat, k ≤ 64 ∧ i = .int .i64 k ∧ v = .int .i64 (accV X k) ∧ u = .int .i64 (unitP k) ∧ x = .int .i64 (shrN a k) ∧ y = .int .i64 (shrN b k)) (fun _ _ _ _ i => 64 - (intOf i).toNat)
  case atStart => exact ⟨0, by omega, rfl, by rw [acc_zero], by rw [unit_zero], by rw [shr_zero], by rw [shr_zero]⟩
  case round =>
    obtain ⟨k, hk, rfl, rfl, rfl, rfl, rfl⟩ := hrel
    by_cases hlt : k < 64
    · have hb := HX.out k hlt
      rw [bit_odd a k hlt, bit_odd b k hlt] at hb
      obtain ⟨fa0, fa1⟩ := shr_fits a k h0 h1
      obtain ⟨fb0, fb1⟩ := shr_fits b k hb0 hb1
      have U : Hid (wrap64 (unitP k + unitP k) = unitP (k + 1)) := unit_succ k
      have SA : Hid (halfV (shrN a k) = shrN a (k + 1)) := shr_succ a k
      have SB : Hid (halfV (shrN b k) = shrN b (k + 1)) := shr_succ b k
      cases hx : oddV (shrN a k) <;> cases hy : oddV (shrN b k) <;> cases both <;> cases one
      all_goals
        rw [hx, hy] at hb
        first
        | (have V : Hid (accV X k = accV X (k + 1)) := acc_clear X k (by rw [hb]; rfl)
           have HB : Hid True := trivial
           clear hb
           go_wp2_with (first | (go_at_call 78; refine (refOdd_any _ _).mono ?_; rintro e w' ⟨rfl, rfl⟩) | (go_at_call 79; refine (refHalf_any _ _ (by assumption) (by assumption)).mono ?_; rintro e w' ⟨rfl, rfl⟩))
           go_round
           case rel => exact ⟨k + 1, by omega, by go_num, by rw [← V.out], by rw [← U.out], by rw [← SA.out], by rw [← SB.out]⟩
           case measure => simp [intOf]; omega)
        | (have V : Hid (wrap64 (accV X k + unitP k) = accV X (k + 1)) := acc_set X k (by rw [hb]; rfl)
           clear hb
           go_wp2_with (first | (go_at_call 78; refine (refOdd_any _ _).mono ?_; rintro e w' ⟨rfl, rfl⟩) | (go_at_call 79; refine (refHalf_any _ _ (by assumption) (by assumption)).mono ?_; rintro e w' ⟨rfl, rfl⟩))
           go_round
           case rel => exact ⟨k + 1, by omega, by go_num, by rw [← V.out], by rw [← U.out], by rw [← SA.out], by rw [← SB.out]⟩
           case measure => simp [intOf]; omega)
    · have E : Hid (accV X k = bitsR X) := by
        have : k = 64 := by omega
        subst this
        exact acc_end X
      go_wp2
      go_ret
      exact ⟨by rw [← E.out]; rfl, rfl⟩
theorem refShl_any (a : Int) (s : Nat) (w : World) (h0 : -9223372036854775808 ≤ a) (h1 : a ≤ 9223372036854775807) (hs : s < 64) :
    Calls Try.prog 74 #[.int .i64 a, .int .i64 s, .bool true] w fun e w' => e = .returned (.int .i64 (shlN a s)) ∧ w' = w := by
  go_enter Try.func74, Try.ntmps74
  go_wp2
  go_loop [0, 7] (fun x i => ∃ k : Nat, k ≤ s ∧ i = .int .i64 k ∧ x = .int .i64 (shlN a k)) (fun _ i => s - (intOf i).toNat)
  case atStart => exact ⟨0, by omega, rfl, by rw [shl_zero a h0 h1]⟩
  case round =>
    obtain ⟨k, hk, rfl, rfl⟩ := hrel
    by_cases hlt : k < s
    · have U : Hid (wrap64 (shlN a k + shlN a k) = shlN a (k + 1)) := shl_succ a k
      go_wp2
      go_round
      case rel => exact ⟨k + 1, by omega, by go_num, by rw [← U.out]⟩
      case measure => simp [intOf]; omega
    · obtain rfl : k = s := by omega
      go_wp2
      go_ret
      exact ⟨rfl, rfl⟩
theorem refShr_any (a : Int) (s : Nat) (w : World) (h0 : -9223372036854775808 ≤ a) (h1 : a ≤ 9223372036854775807) (hs : s < 64) :
    Calls Try.prog 74 #[.int .i64 a, .int .i64 s, .bool false] w fun e w' => e = .returned (.int .i64 (shrN a s)) ∧ w' = w := by
  go_enter Try.func74, Try.ntmps74
  go_wp2
  go_loop [0, 7] (fun x i => ∃ k : Nat, k ≤ s ∧ i = .int .i64 k ∧ x = .int .i64 (shrN a k)) (fun _ i => s - (intOf i).toNat)
  case atStart => exact ⟨0, by omega, rfl, by rw [shr_zero]⟩
  case round =>
    obtain ⟨k, hk, rfl, rfl⟩ := hrel
    by_cases hlt : k < s
    · obtain ⟨fa0, fa1⟩ := shr_fits a k h0 h1
      have U : Hid (halfV (shrN a k) = shrN a (k + 1)) := shr_succ a k
      go_wp2_with (go_at_call 79; refine (refHalf_any _ _ (by assumption) (by assumption)).mono ?_; rintro e w' ⟨rfl, rfl⟩)
      go_round
      case rel => exact ⟨k + 1, by omega, by go_num, by rw [← U.out]⟩
      case measure => simp [intOf]; omega
    · obtain rfl : k = s := by omega
      go_wp2
      go_ret
      exact ⟨rfl, rfl⟩
end
end Go.Proofs.Ytdiabpoafennlab
