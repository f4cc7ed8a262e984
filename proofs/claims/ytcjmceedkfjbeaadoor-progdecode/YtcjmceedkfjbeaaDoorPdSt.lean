import Derived.Test.YtcjmceedkfjbeaaDoorPdMem
import Derived.Test.YtcjmceedkfjbeaaDoorPwDecP
/-! ProgDecode: what its walk keeps. -/
namespace Go.Proofs.YtcjmceedkfjbeaaDoor
set_option linter.unusedVariables false
set_option maxRecDepth 20000
open Go.RowKit Go.HeapKit

def fil (zs old : List Int) (k : Nat) : List Int := zs.take k ++ old.drop k
theorem fil_step (zs old : List Int) (k : Nat) (x : Int) (hx : zs[k]? = some x) (hl : k < old.length) : (fil zs old k).set k x = fil zs old (k + 1) := by
  have hk := (List.getElem?_eq_some_iff.1 hx).1
  unfold fil
  rw [List.set_append_right _ _ (by simp; omega), show k - (zs.take k).length = 0 by simp; omega, List.drop_eq_getElem_cons hl, List.set_cons_zero, List.take_add_one, hx]
  simp
theorem fil_len (zs old : List Int) (k : Nat) (hk : k ≤ zs.length) (hl : zs.length ≤ old.length) : (fil zs old k).length = old.length := by simp [fil]; omega
theorem fil_end (zs : List Int) (n : Nat) (hn : n = zs.length) : fil zs (List.replicate (n + 2) 0) n = zs ++ [0, 0] := by
  unfold fil
  rw [List.take_of_length_le (by omega), List.drop_replicate, show n + 2 - n = 2 by omega]
  rfl
theorem put_one (zs : List Int) (n : Nat) (hn : n = zs.length) : (zs ++ [0, 0]).set n 123 = zs ++ [123, 0] := by
  rw [List.set_append_right _ _ (by omega), show n - zs.length = 0 by omega]
  rfl
theorem put_two (zs : List Int) (n : Nat) (hn : n = zs.length) : (zs ++ [123, 0]).set (n + 1) 456 = zs ++ [123, 456] := by
  rw [List.set_append_right _ _ (by omega), show n + 1 - zs.length = 1 by omega]
  rfl
theorem IsW.firstW {w : World} {g : Nat} {zs r : List Int} {n : Nat} (h : IsW w g (zs ++ r)) (hn : n = zs.length) (hm : n ≤ 9223372036854775807) (hok : ∀ x ∈ zs, okI x) : SeenW w (some ⟨g, 0, none⟩) n zs :=
  ⟨hn, hm, hok, fun _ => ⟨g, 0, rfl, blk_lt h, fun k x hx => by
    rw [Nat.zero_add]
    exact h.at (by rw [List.getElem?_append_left (List.getElem?_eq_some_iff.1 hx).1]; exact hx)⟩⟩
theorem SeenW.z {w : World} {a : Option Addr} {n : Nat} {zs : List Int} (h : SeenW w a n zs) (hm : n ≤ 4611686018427387904) : SeenZ w a n zs := ⟨h.len, hm, h.ex⟩
/-- The two answers, the words, and the boxes. -/
structure Sd (w1 wr : World) (lo1 hi lo2 L P1 P2 m : Nat) (xa ya : Option Addr) (xc yc : Nat) (ws : List Int) (ds fs : List Fn) : Prop where
  p : AnsH lo1 hi wr xa m fs
  q : AnsD lo2 wr ya m ds
  l : IsW wr L ws
  b1 : wr.heap[P1]? = some (.cells #[.slice xa m xc] 25 (0, 0))
  b2 : wr.heap[P2]? = some (.cells #[.slice ya m yc] 25 (0, 0))
  keep : Keeps None w1 wr
  o1 : w1.heap.size ≤ lo1
  o2 : hi ≤ lo2
  o3 : L < lo1
theorem Sd.more {w1 wr w' : World} {lo1 hi lo2 L P1 P2 m : Nat} {xa ya : Option Addr} {xc yc : Nat} {ws : List Int} {ds fs : List Fn} (h : Sd w1 wr lo1 hi lo2 L P1 P2 m xa ya xc yc ws ds fs) (hk : Keeps None wr w') : Sd w1 w' lo1 hi lo2 L P1 P2 m xa ya xc yc ws ds fs :=
  ⟨h.p.more hk, h.q.more hk, h.l.kept hk (fun f => f), blk_kept h.b1 hk (fun f => f), blk_kept h.b2 hk (fun f => f), h.keep.trans hk (fun _ f _ => f), h.o1, h.o2, h.o3⟩
/-- One function of the first answer; one of its instructions is written over. -/
theorem Sd.at {w1 wr : World} {lo1 hi lo2 L P1 P2 m : Nat} {xa ya : Option Addr} {xc yc : Nat} {ws : List Int} {ds fs : List Fn} (h : Sd w1 wr lo1 hi lo2 L P1 P2 m xa ya xc yc ws ds fs) {i : Nat} {f : Fn} (hf : fs[i]? = some f) :
    ∃ gb cb, xa = some ⟨gb, 0, none⟩ ∧ wr.cell? ⟨gb, i * 4 + 3, none⟩ = some (.slice (some ⟨cb, 0, none⟩) f.code.length f.code.length) ∧ IsCode wr cb f.code ∧ cb ≠ gb ∧ cb ≠ P1 ∧
      ∀ (w' : World), Keeps None wr w' → ∀ k (x : Ins), k < f.code.length → Sd w1 (set5 w' cb (k * 5) x) lo1 hi lo2 L P1 P2 m xa ya xc yc ws ds (fs.set i { f with code := f.code.set k x }) := by
  obtain ⟨gb, cb, e, h1, h2, h3, h4, h5, _⟩ := h.p.at hf
  have n1 : cb ≠ P1 := blk_ne h2.blk h.b1 (by decide)
  refine ⟨gb, cb, e, h1, h2, h5, n1, fun w' hk k x hx => ?_⟩
  have g := h.more hk
  obtain ⟨gb', cb', e', c2, g2, _, _, _, g6⟩ := g.p.at hf
  have ecb : cb' = cb := by
    have c1 := hk.cell h1 (fun f => f)
    rw [e] at e'
    injection e' with e'
    injection e' with e'
    subst e'
    rw [c1] at c2
    injection c2 with c2
    injection c2 with c2
    injection c2 with c2
    injection c2 with c2
    exact c2.symm
  subst ecb
  have kk := set5_keeps w' cb' (k * 5) x
  refine ⟨g6 k x hx, g.q.kept kk (fun i ei => by have := h.o2; omega), g.l.kept kk (fun ei => by have := h.o3; omega), blk_kept g.b1 kk (fun ei => n1 ei.symm), blk_kept g.b2 kk (fun ei => (blk_ne g2.blk g.b2 (by decide)) ei.symm), g.keep.trans kk (fun i ei hi => by have := h.o1; omega), h.o1, h.o2, h.o3⟩
end Go.Proofs.YtcjmceedkfjbeaaDoor
