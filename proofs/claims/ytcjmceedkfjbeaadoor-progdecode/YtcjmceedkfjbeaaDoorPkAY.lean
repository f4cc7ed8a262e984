import Derived.Test.YtcjmceedkfjbeaaDoorPkAR
import Derived.Test.YtcjmceedkfjbeaaDoorPkAX
/-! The document's 'whole': plainly, and what it holds. -/
namespace Go.Proofs.YtcjmceedkfjbeaaDoor
set_option linter.unusedVariables false
set_option maxRecDepth 20000
open Go.RowKit Go.HeapKit

def wholeV : List Int → Option (List Fn)
  | m :: r => if m < 1 ∨ 32 < m then none else match readFns m.toNat r with
    | some (fs, []) => some fs
    | _ => none
  | [] => none
def finF : Option (List Fn × List Int) → Option (List Fn)
  | some (fs, []) => some fs
  | _ => none
theorem readP_cons (h m : Int) (r : List Int) : readP (h :: m :: r) = if h ≠ 1886156142 ∨ m < 1 ∨ 32 < m then none else finF (readFns m.toNat r) := rfl
theorem wholeV_cons (m : Int) (r : List Int) : wholeV (m :: r) = if m < 1 ∨ 32 < m then none else finF (readFns m.toNat r) := rfl
theorem readP_whole (h : Int) (ys : List Int) (hy : ys ≠ []) : readP (h :: ys) = if h = 1886156142 then wholeV ys else none := by
  cases ys with
  | nil => exact absurd rfl hy
  | cons m r =>
    rw [readP_cons, wholeV_cons]
    by_cases h1 : h = 1886156142
    · rw [if_pos h1]
      by_cases h2 : m < 1 ∨ 32 < m
      · rw [if_pos (.inr h2), if_pos h2]
      · rw [if_neg (by omega), if_neg h2]
    · rw [if_neg h1, if_pos (.inl h1)]
theorem drop4 (ys : List Int) (p : Nat) (h : p + 4 ≤ ys.length) : ys.drop p = ys.getD p 0 :: ys.getD (p + 1) 0 :: ys.getD (p + 2) 0 :: ys.getD (p + 3) 0 :: ys.drop (p + 4) := by
  have g : ∀ j, j < ys.length → ys.drop j = ys.getD j 0 :: ys.drop (j + 1) := fun j hj => by
    rw [List.drop_eq_getElem_cons hj, List.getD_eq_getElem?_getD, List.getElem?_eq_getElem hj]; rfl
  rw [g p (by omega), g (p + 1) (by omega), g (p + 2) (by omega), g (p + 3) (by omega)]
theorem fn_short (zs : List Int) (h : zs.length < 4) : readFn zs = none := by
  match zs, h with
  | [], _ => rfl
  | [_], _ => rfl
  | [_, _], _ => rfl
  | [_, _, _], _ => rfl
theorem fn_count (a b c m : Int) (r : List Int) (h : m < 1 ∨ 512 < m) : readFn (a :: b :: c :: m :: r) = none := by
  simp only [readFn]
  rw [if_pos h]
theorem fn_codeS (a b c : Int) (q : Nat) (r : List Int) (h : r.length < q * 5) : readFn (a :: b :: c :: (q : Int) :: r) = none := by
  simp only [readFn]
  split
  · rfl
  · rw [Int.toNat_natCast, readCode_short q r h]; rfl
theorem fn_codeL (a b c : Int) (q : Nat) (r : List Int) (cs : List Ins) (h1 : 1 ≤ q ∧ q ≤ 512) (h : readCode q r = some (cs, r.drop (q * 5))) : readFn (a :: b :: c :: (q : Int) :: r) = some (⟨a, b, c, cs⟩, r.drop (q * 5)) := by
  simp only [readFn]
  rw [if_neg (by omega), Int.toNat_natCast, h]; rfl
/-- Where the reading stands. -/
def Inv (m : Nat) (ys : List Int) (k p : Nat) (fs : List Fn) : Prop := readFns m (ys.drop 1) = (readFns (m - k) (ys.drop p)).map (fun z => (fs ++ z.1, z.2))
theorem Inv.start (m : Nat) (ys : List Int) : Inv m ys 0 1 [] := by
  unfold Inv
  simp
theorem Inv.step {m : Nat} {ys : List Int} {k p p' : Nat} {fs : List Fn} {f : Fn} (h : Inv m ys k p fs) (hk : k < m) (hf : readFn (ys.drop p) = some (f, ys.drop p')) : Inv m ys (k + 1) p' (fs ++ [f]) := by
  unfold Inv at *
  rw [h]
  obtain ⟨d, hd⟩ : ∃ d, m - k = d + 1 := ⟨m - k - 1, by omega⟩
  rw [hd, show m - (k + 1) = d by omega]
  simp only [readFns, hf, Option.bind_some, Option.map_map]
  congr 1
  funext z
  simp
theorem Inv.nothing {m : Nat} {ys r : List Int} {k p : Nat} {fs : List Fn} (h : Inv m ys k p fs) (hk : k < m) (hf : readFn (ys.drop p) = none) (hy : ys = (m : Int) :: r) : wholeV ys = none := by
  unfold Inv at h
  obtain ⟨d, hd⟩ : ∃ d, m - k = d + 1 := ⟨m - k - 1, by omega⟩
  rw [hd] at h
  simp only [readFns, hf, Option.bind_none, Option.map_none] at h
  subst hy
  simp only [List.drop_succ_cons, List.drop_zero] at h
  rw [wholeV_cons]
  split
  · rfl
  · rw [Int.toNat_natCast, h]; rfl
theorem Inv.fin {m : Nat} {ys r : List Int} {p : Nat} {fs : List Fn} (h : Inv m ys m p fs) (h1 : 1 ≤ m ∧ m ≤ 32) (hy : ys = (m : Int) :: r) : wholeV ys = if p < ys.length then none else some fs := by
  unfold Inv at h
  rw [Nat.sub_self] at h
  simp only [readFns, Option.map_some, List.append_nil] at h
  have hl : ys.drop p = [] ↔ ¬ p < ys.length := by rw [List.drop_eq_nil_iff]; omega
  subst hy
  simp only [List.drop_succ_cons, List.drop_zero] at h
  rw [wholeV_cons, if_neg (by omega), Int.toNat_natCast, h]
  by_cases hp : p < ((m : Int) :: r).length
  · rw [if_pos hp]
    cases hd : ((m : Int) :: r).drop p with
    | nil => exact absurd hp (hl.1 hd)
    | cons y t => rfl
  · rw [if_neg hp, hl.2 hp]; rfl
/-- What 'whole' has made so far. -/
structure Wm (w wr : World) (B : Nat) (fs : List Fn) (qv : Value) (tv : List At) : Prop where
  keep : Keeps None w wr
  res : wr.heap[B]? = some (.cells #[.slice none 0 0] 25 (0, 0))
  qb : wr.heap[B + 1]? = some (.cells #[qv] 25 (0, 0))
  row : wr.ownsRow 0 40 4 qv fs.length (List.zipWith tfCells fs tv).flatten
  code : ∀ (i : Nat) (f : Fn) (t : At), fs[i]? = some f → tv[i]? = some t → wr.ownsRow 0 42 5 (.slice t.1 f.code.length t.2) f.code.length (insVals f.code)
  len : tv.length = fs.length
  low : ∀ g, qv.ownBlock = some g → w.heap.size ≤ g
  hB : w.heap.size ≤ B
theorem Wm.more {w wr w' : World} {B : Nat} {fs : List Fn} {qv : Value} {tv : List At} (h : Wm w wr B fs qv tv) (hk : Keeps None wr w') : Wm w w' B fs qv tv :=
  ⟨h.keep.trans hk (fun _ f _ => f), blk_kept h.res hk (fun f => f), blk_kept h.qb hk (fun f => f), hk.own h.row (fun _ _ f => f), fun i f t hf ht => hk.own (h.code i f t hf ht) (fun _ _ f => f), h.len, h.low, h.hB⟩
theorem Wm.next {w wr w2 : World} {B : Nat} {fs : List Fn} {qv : Value} {tv : List At} {f : Fn} {t : At} {b cap n1 : Nat} (h : Wm w wr B fs qv tv) (hn1 : n1 = fs.length + 1) (hC : wr.ownsRow 0 42 5 (.slice t.1 f.code.length t.2) f.code.length (insVals f.code))
    (hk2 : Keeps (fun k => qv.ownBlock = some k) wr w2) (ho2 : w2.ownsRow 0 40 4 (.slice (some ⟨b, 0, none⟩) n1 cap) n1 (List.zipWith tfCells fs tv ++ [tfCells f t]).flatten) (hg2 : qv.ownBlock = some b ∨ wr.heap.size ≤ b) :
    w2.cell? ⟨B + 1, 0, none⟩ = some qv ∧ w2.frozen? ⟨B + 1, 0, none⟩ = false ∧ Wm w (w2.setCell ⟨B + 1, 0, none⟩ (.slice (some ⟨b, 0, none⟩) n1 cap)) B (fs ++ [f]) (.slice (some ⟨b, 0, none⟩) n1 cap) (tv ++ [t]) := by
  subst hn1
  have hfun : ∀ {c : Array Value} {T : TypeId} {p : Nat}, T ≠ 40 → wr.heap[p]? = some (.cells c T (0, 0)) → ¬ qv.ownBlock = some p := fun hT hp e => hT ((own_type h.row e hp).symm ▸ rfl)
  have qb2 := blk_kept h.qb hk2 (hfun (by decide) h.qb)
  have kS : Keeps (· = B + 1) w2 (w2.setCell ⟨B + 1, 0, none⟩ (.slice (some ⟨b, 0, none⟩) (fs.length + 1) cap)) := Keeps.setCell (S := (· = B + 1)) w2 rfl _
  have hbB : b ≠ B + 1 := by
    rintro rfl
    have := own_type ho2 (g := B + 1) rfl qb2
    exact absurd this (by decide)
  have hB := h.hB
  have hcode : ∀ (v : Value) (m : Nat) (xs : List Value), wr.ownsRow 0 42 5 v m xs → (w2.setCell ⟨B + 1, 0, none⟩ (.slice (some ⟨b, 0, none⟩) (fs.length + 1) cap)).ownsRow 0 42 5 v m xs := by
    intro v m xs hv
    have h1 := hk2.own hv (fun g e q => by
      obtain ⟨c, hc⟩ := own_block hv e
      exact hfun (by decide) hc q)
    exact kS.own h1 (fun g e q => absurd (own_type h1 e (q ▸ qb2)) (by decide))
  refine ⟨(blk_cell qb2 0).trans rfl, blk_free qb2 0, ⟨(h.keep.trans hk2 (fun i e hi => by have := h.low i e; omega)).trans kS (fun i e hi => by omega), blk_kept (blk_kept h.res hk2 (hfun (by decide) h.res)) kS (by omega), by rw [blk_set qb2]; rfl, ?_, ?_, ?_, ?_, h.hB⟩⟩
  · have e : List.zipWith tfCells (fs ++ [f]) (tv ++ [t]) = List.zipWith tfCells fs tv ++ [tfCells f t] := by
      rw [List.zipWith_append (by rw [h.len])]
      simp
    rw [e, List.length_append]
    exact kS.own ho2 (fun g e q => by simp [Value.ownBlock] at e; exact hbB (e.trans q))
  · intro i f' t' hi hc
    by_cases hik : i < fs.length
    · rw [List.getElem?_append_left (by omega)] at hi
      rw [List.getElem?_append_left (by rw [h.len]; omega)] at hc
      exact hcode _ _ _ (h.code i f' t' hi hc)
    · have hlt := (List.getElem?_eq_some_iff.1 hi).1
      simp only [List.length_append, List.length_cons, List.length_nil] at hlt
      have hie : i = fs.length := by omega
      subst hie
      rw [List.getElem?_append_right (by omega), Nat.sub_self] at hi
      rw [List.getElem?_append_right (by rw [h.len]; omega), h.len, Nat.sub_self] at hc
      simp at hi hc
      subst hi hc
      exact hcode _ _ _ hC
  · simp [h.len]
  · intro g e
    simp [Value.ownBlock] at e
    subst e
    rcases hg2 with r | r
    · exact h.low _ r
    · have := h.keep.size; omega
theorem rows_seen2 {wr : World} {fs : List Fn} {qv : Value} {tv : List At} (hrow : wr.ownsRow 0 40 4 qv fs.length (List.zipWith tfCells fs tv).flatten) (hcode : ∀ (i : Nat) (f : Fn) (t : At), fs[i]? = some f → tv[i]? = some t → wr.ownsRow 0 42 5 (.slice t.1 f.code.length t.2) f.code.length (insVals f.code)) (hlen : tv.length = fs.length) : ∃ a c, qv = .slice a fs.length c ∧ SeenF wr a fs.length fs := by
  have four : ∀ r ∈ List.zipWith tfCells fs tv, r.length = 4 := fun r hr => by
    obtain ⟨i, hi, rfl⟩ := List.mem_iff_getElem.1 hr
    rw [List.getElem_zipWith]
    rfl
  rcases hrow.2 with ⟨rfl, h0⟩ | ⟨g, cap, cur, rfl, hb, hg, hn, hm, hc, ht⟩
  · exact ⟨none, 0, by rw [h0], ⟨rfl, fun h => by omega⟩⟩
  · refine ⟨_, cap, rfl, ⟨rfl, fun _ => ⟨g, 0, rfl, blk_lt hg, fun i f hf => ?_⟩⟩⟩
    have hi := (List.getElem?_eq_some_iff.1 hf).1
    obtain ⟨t, hti⟩ : ∃ t, tv[i]? = some t := ⟨tv[i]'(by rw [hlen]; omega), by simp⟩
    have hz := zip_at tfCells fs tv i f t hf hti
    have hcell : ∀ j, j < 4 → wr.cell? ⟨g, 0 + i * 4 + j, none⟩ = (tfCells f t)[j]? := fun j hj => by
      have h1 := flat4_at _ four i _ hz j hj
      rw [blk_cell hg, ← h1, ← ht, List.getElem?_take, if_pos (by omega), Nat.zero_add]
      simp
    obtain ⟨ca, cc, hv, hsn⟩ := codes_seen (hcode i f t hf hti)
    injection hv with e1 e2 e3
    refine ⟨t.1, t.2, ⟨hcell 0 (by omega), hcell 1 (by omega), hcell 2 (by omega), hcell 3 (by omega), by rw [e1]; exact hsn⟩⟩
/-- Functions in rows of their own. -/
structure RowsF (w : World) (qv : Value) (fs : List Fn) (tv : List At) : Prop where
  row : w.ownsRow 0 40 4 qv fs.length (List.zipWith tfCells fs tv).flatten
  code : ∀ (i : Nat) (f : Fn) (t : At), fs[i]? = some f → tv[i]? = some t → w.ownsRow 0 42 5 (.slice t.1 f.code.length t.2) f.code.length (insVals f.code)
  len : tv.length = fs.length
theorem RowsF.kept {w w' : World} {qv : Value} {fs : List Fn} {tv : List At} {S : Nat → Prop} (h : RowsF w qv fs tv) (hk : Keeps S w w') (hS : ∀ p c T, w.heap[p]? = some (.cells c T (0, 0)) → S p → T ≠ 40 ∧ T ≠ 42) : RowsF w' qv fs tv := by
  refine ⟨hk.own h.row (fun g e q => ?_), fun i f t hf ht => hk.own (h.code i f t hf ht) (fun g e q => ?_), h.len⟩
  · obtain ⟨c, hc⟩ := own_block h.row e
    exact (hS g c _ hc q).1 rfl
  · obtain ⟨c, hc⟩ := own_block (h.code i f t hf ht) e
    exact (hS g c _ hc q).2 rfl
theorem RowsF.more {w w' : World} {qv : Value} {fs : List Fn} {tv : List At} (h : RowsF w qv fs tv) (hk : Keeps None w w') : RowsF w' qv fs tv := h.kept hk (fun _ _ _ _ f => f.elim)
theorem RowsF.seen {w : World} {a : Option Addr} {k c : Nat} {fs : List Fn} {tv : List At} (h : RowsF w (.slice a k c) fs tv) : k = fs.length ∧ SeenF w a k fs := by
  obtain ⟨a', c', e, h2⟩ := rows_seen2 h.row h.code h.len
  simp only [Value.slice.injEq] at e
  obtain ⟨rfl, rfl, -⟩ := e
  exact ⟨rfl, h2⟩
/-- The result's box is written: the program can be read behind it. -/
theorem Wm.out {w wr : World} {B : Nat} {fs : List Fn} {qv : Value} {tv : List At} (h : Wm w wr B fs qv tv) : ∃ a c, qv = .slice a fs.length c ∧ (wr.setCell ⟨B, 0, none⟩ (.slice a fs.length c)).heap[B]? = some (.cells #[.slice a fs.length c] 25 (0, 0)) ∧ RowsF (wr.setCell ⟨B, 0, none⟩ (.slice a fs.length c)) (.slice a fs.length c) fs tv ∧ Keeps None w (wr.setCell ⟨B, 0, none⟩ (.slice a fs.length c)) := by
  obtain ⟨a, c, rfl, _⟩ := rows_seen2 h.row h.code h.len
  have kS : Keeps (· = B) wr (wr.setCell ⟨B, 0, none⟩ (.slice a fs.length c)) := Keeps.setCell (S := (· = B)) wr rfl _
  have hrow2 := kS.own h.row (fun g e q => absurd (own_type h.row e (q ▸ h.res)) (by decide))
  have hcd2 : ∀ (i : Nat) (f : Fn) (t : At), fs[i]? = some f → tv[i]? = some t → (wr.setCell ⟨B, 0, none⟩ (.slice a fs.length c)).ownsRow 0 42 5 (.slice t.1 f.code.length t.2) f.code.length (insVals f.code) := fun i f t hf ht => kS.own (h.code i f t hf ht) (fun g e q => absurd (own_type (h.code i f t hf ht) e (q ▸ h.res)) (by decide))
  exact ⟨a, c, rfl, by rw [blk_set h.res]; rfl, ⟨hrow2, hcd2, h.len⟩, h.keep.trans kS (fun i e hi => by have := h.hB; omega)⟩
end Go.Proofs.YtcjmceedkfjbeaaDoor
