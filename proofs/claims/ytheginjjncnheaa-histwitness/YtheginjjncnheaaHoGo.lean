import Derived.Test.YtheginjjncnheaaHoMeet2
/-! The search for an order: 'goOn'. -/
namespace Go.Proofs.Ytheginjjncnheaa
set_option linter.unusedVariables false
set_option maxRecDepth 20000
set_option linter.unusedSimpArgs false
open Go.RowKit Go.HeapKit

abbrev Pl2 := List (C4 × Int) × List (C4 × List Int)
def strip (T : List St) : List (C4 × List Int) := T.map (fun t => (t.1, t.2.2))
def goI (l : List Cl) (most : Nat) (x : C4) (zs : List Int) (P : Pl2) (i : Nat) : Pl2 := match nxt l x i with
  | none => P
  | some j => if inB l x (clAt l j) 4 = true ∧ lookM P.1 (x.inc i) = none ∧ alwB most zs (clAt l j) = true then (P.1 ++ [(x.inc i, j)], P.2 ++ [(x.inc i, alwZ most zs (clAt l j))]) else P
def goK (l : List Cl) (most : Nat) (x : C4) (zs : List Int) (P : Pl2) (k : Nat) : Pl2 := (List.range k).foldl (goI l most x zs) P
theorem goK_more (l : List Cl) (most : Nat) (x : C4) (zs : List Int) (P : Pl2) (k : Nat) : goK l most x zs P (k + 1) = goI l most x zs (goK l most x zs P k) k := by
  unfold goK
  rw [List.range_succ, List.foldl_append]
  rfl
theorem goI_none {l : List Cl} {most : Nat} {x : C4} {zs : List Int} {P : Pl2} {i : Nat} (h : nxt l x i = none) : goI l most x zs P i = P := by unfold goI; rw [h]
theorem goI_not {l : List Cl} {most : Nat} {x : C4} {zs : List Int} {P : Pl2} {i q : Nat} {y : Cl} (h : nxt l x i = some (q : Int)) (hy : l[q]? = some y) (hn : ¬ (inB l x y 4 = true ∧ lookM P.1 (x.inc i) = none ∧ alwB most zs y = true)) : goI l most x zs P i = P := by
  unfold goI
  rw [h]
  show (if inB l x (clAt l ((q : Nat) : Int)) 4 = true ∧ _ then _ else P) = P
  rw [clAt_of hy, if_neg hn]
theorem goI_yes {l : List Cl} {most : Nat} {x : C4} {zs : List Int} {P : Pl2} {i q : Nat} {y : Cl} (h : nxt l x i = some (q : Int)) (hy : l[q]? = some y) (hn : inB l x y 4 = true ∧ lookM P.1 (x.inc i) = none ∧ alwB most zs y = true) : goI l most x zs P i = (P.1 ++ [(x.inc i, (q : Int))], P.2 ++ [(x.inc i, alwZ most zs y)]) := by
  unfold goI
  rw [h]
  show (if inB l x (clAt l ((q : Nat) : Int)) 4 = true ∧ _ then _ else P) = _
  rw [clAt_of hy, if_pos hn]
/-- What stands at a round. -/
structure GoAt (W : World) (S : Nat) (a : Option Addr) (n c : Nat) (vs : Nat → Value) (mb : Nat) (l : List Cl) (most : Nat) (M : List (C4 × Int)) (T : List St) (x : C4) (v : Value) (zs : List Int) (X : Nat) (wr : World) (i : Nat) (tv' : Value) (M' : List (C4 × Int)) (T' : List St) : Prop where
  sr : Sr W wr S a n c vs mb tv' l most M' T'
  is : (M', strip T') = goK l most x zs (M, strip T) i
  xb : wr.heap[X]? = some (.cells #[.int .i64 x.a, .int .i64 x.b, .int .i64 x.c, .int .i64 x.d, .int .i64 most, v] 64 (0, 0))
  held : Held wr v zs
  xt : ¬ tv'.ownBlock = some X
  len : T'.length ≤ T.length + i
section
variable {W : World} {S : Nat} {a : Option Addr} {n c : Nat} {vs : Nat → Value} {mb : Nat} {l : List Cl} {most : Nat} {M : List (C4 × Int)} {T : List St} {x : C4} {v : Value} {zs : List Int} {X : Nat} {wr wy : World} {i : Nat} {tv' : Value} {M' : List (C4 × Int)} {T' : List St}
theorem GoAt.same (h : GoAt W S a n c vs mb l most M T x v zs X wr i tv' M' T') (hk : Keeps None wr wy) (hg : goI l most x zs (goK l most x zs (M, strip T) i) i = goK l most x zs (M, strip T) i) : GoAt W S a n c vs mb l most M T x v zs X wy (i + 1) tv' M' T' :=
  ⟨h.sr.more hk, by rw [goK_more, hg]; exact h.is, blk_kept h.xb hk (fun f => f), h.held.kept hk (fun _ _ f => f), h.xt, by have := h.len; omega⟩
theorem GoAt.reads (h : GoAt W S a n c vs mb l most M T x v zs X wr i tv' M' T') (hS : Seen W a n l) (h40 : l.length ≤ 40) : SrR wr S a n c vs mb tv' W.heap.size l := ⟨h.sr.sr, h.sr.made, hS.more h.sr.keep, h40⟩
end
end Go.Proofs.Ytheginjjncnheaa
