import Derived.Test.YthignlailbekmaaDoorRtNodes
/-! The statements' own: a program with a mark behind each of its lists. -/
namespace Go.Proofs.YthignlailbekmaaDoor
set_option linter.unusedVariables false
set_option maxRecDepth 20000
open Go.RowKit Go.HeapKit

def markI : Ins := ⟨-77, 0, 0, 0, 0⟩
def markF : List Value := [.int .i64 (-77), .int .i64 0, .int .i64 0, .slice none 0 0]
structure Tm (w wr : World) (B : Nat) (pv : Value) (l : List Fn) (k : Nat) (qv : Value) (tv : List At) : Prop where
  keep : Keeps None w wr
  box : wr.heap[B]? = some (.cells #[pv] 24 (0, 0))
  res : wr.heap[B + 1]? = some (.cells #[.slice none 0 0] 24 (0, 0))
  qb : wr.heap[B + 2]? = some (.cells #[qv] 24 (0, 0))
  row : wr.ownsRow 0 44 4 qv k (List.zipWith tfCells (l.take k) tv).flatten
  code : ∀ (i : Nat) (f : Fn) (t : At), (l.take k)[i]? = some f → tv[i]? = some t → wr.ownsRow 0 46 5 (.slice t.1 (f.code.length + 1) t.2) (f.code.length + 1) (insVals (f.code ++ [markI]))
  len : tv.length = k
  low : ∀ g, qv.ownBlock = some g → w.heap.size ≤ g
  hB : w.heap.size ≤ B
theorem Tm.more {w wr w' : World} {B : Nat} {pv : Value} {l : List Fn} {k : Nat} {qv : Value} {tv : List At} (h : Tm w wr B pv l k qv tv) (hk : Keeps None wr w') : Tm w w' B pv l k qv tv :=
  ⟨h.keep.trans hk (fun _ f _ => f), blk_kept h.box hk (fun f => f), blk_kept h.res hk (fun f => f), blk_kept h.qb hk (fun f => f), hk.own h.row (fun _ _ f => f), fun i f t hf ht => hk.own (h.code i f t hf ht) (fun _ _ f => f), h.len, h.low, h.hB⟩
theorem Tm.next {w wr w2 : World} {B : Nat} {pv : Value} {l : List Fn} {k : Nat} {qv : Value} {tv : List At} {f : Fn} {t : At} {b cap : Nat} (h : Tm w wr B pv l k qv tv) (hf : l[k]? = some f) (hC : wr.ownsRow 0 46 5 (.slice t.1 (f.code.length + 1) t.2) (f.code.length + 1) (insVals (f.code ++ [markI])))
    (hk2 : Keeps (fun k => qv.ownBlock = some k) wr w2) (ho2 : w2.ownsRow 0 44 4 (.slice (some ⟨b, 0, none⟩) (k + 1) cap) (k + 1) (List.zipWith tfCells (l.take k) tv ++ [tfCells f t]).flatten) (hg2 : qv.ownBlock = some b ∨ wr.heap.size ≤ b) :
    w2.cell? ⟨B + 2, 0, none⟩ = some qv ∧ w2.frozen? ⟨B + 2, 0, none⟩ = false ∧ Tm w (w2.setCell ⟨B + 2, 0, none⟩ (.slice (some ⟨b, 0, none⟩) (k + 1) cap)) B pv l (k + 1) (.slice (some ⟨b, 0, none⟩) (k + 1) cap) (tv ++ [t]) := by
  have hlk := (List.getElem?_eq_some_iff.1 hf).1
  have ht : (l.take k).length = k := by simp; omega
  have hfun : ∀ {c : Array Value} {T : TypeId} {p : Nat}, T ≠ 44 → wr.heap[p]? = some (.cells c T (0, 0)) → ¬ qv.ownBlock = some p := fun hT hp e => hT ((own_type h.row e hp).symm ▸ rfl)
  have qb2 := blk_kept h.qb hk2 (hfun (by decide) h.qb)
  have kS : Keeps (· = B + 2) w2 (w2.setCell ⟨B + 2, 0, none⟩ (.slice (some ⟨b, 0, none⟩) (k + 1) cap)) := Keeps.setCell (S := (· = B + 2)) w2 rfl _
  have hbB : b ≠ B + 2 := by
    rintro rfl
    have := own_type ho2 (g := B + 2) rfl qb2
    exact absurd this (by decide)
  have hB := h.hB
  have hcode : ∀ (v : Value) (m : Nat) (xs : List Value), wr.ownsRow 0 46 5 v m xs → (w2.setCell ⟨B + 2, 0, none⟩ (.slice (some ⟨b, 0, none⟩) (k + 1) cap)).ownsRow 0 46 5 v m xs := by
    intro v m xs hv
    have h1 := hk2.own hv (fun g e q => by
      obtain ⟨c, hc⟩ := own_block hv e
      exact hfun (by decide) hc q)
    exact kS.own h1 (fun g e q => absurd (own_type h1 e (q ▸ qb2)) (by decide))
  refine ⟨(blk_cell qb2 0).trans rfl, blk_free qb2 0, ⟨(h.keep.trans hk2 (fun i e hi => by have := h.low i e; omega)).trans kS (fun i e hi => by omega), blk_kept (blk_kept h.box hk2 (hfun (by decide) h.box)) kS (by omega), blk_kept (blk_kept h.res hk2 (hfun (by decide) h.res)) kS (by omega), by rw [blk_set qb2]; rfl, ?_, ?_, ?_, ?_, h.hB⟩⟩
  · have e : List.zipWith tfCells (l.take (k + 1)) (tv ++ [t]) = List.zipWith tfCells (l.take k) tv ++ [tfCells f t] := by
      rw [take_snoc l k f hf, List.zipWith_append (by rw [h.len, ht])]
      simp
    rw [e]
    exact kS.own ho2 (fun g e q => by simp [Value.ownBlock] at e; exact hbB (e.trans q))
  · intro i f' t' hi hc
    rw [take_snoc l k f hf] at hi
    by_cases hik : i < k
    · rw [List.getElem?_append_left (by omega)] at hi
      rw [List.getElem?_append_left (by rw [h.len]; omega)] at hc
      exact hcode _ _ _ (h.code i f' t' hi hc)
    · have hlt := (List.getElem?_eq_some_iff.1 hi).1
      simp only [List.length_append, ht, List.length_cons, List.length_nil] at hlt
      obtain rfl : i = k := by omega
      rw [List.getElem?_append_right (by omega), ht, Nat.sub_self] at hi
      rw [List.getElem?_append_right (by rw [h.len]; omega), h.len, Nat.sub_self] at hc
      simp at hi hc
      subst hi hc
      exact hcode _ _ _ hC
  · rw [List.length_append, h.len]; rfl
  · intro g e
    simp [Value.ownBlock] at e
    subst e
    rcases hg2 with r | r
    · exact h.low _ r
    · have := h.keep.size; omega
/-- A program with the marks. -/
structure Rm (w : World) (l : List Fn) (a : Option Addr) (c : Nat) (tv : List At) : Prop where
  row : w.ownsRow 0 44 4 (.slice a (l.length + 1) c) (l.length + 1) (List.zipWith tfCells l tv ++ [markF]).flatten
  code : ∀ (i : Nat) (f : Fn) (t : At), l[i]? = some f → tv[i]? = some t → w.ownsRow 0 46 5 (.slice t.1 (f.code.length + 1) t.2) (f.code.length + 1) (insVals (f.code ++ [markI]))
  len : tv.length = l.length
theorem Rm.more {w w' : World} {l : List Fn} {a : Option Addr} {c : Nat} {tv : List At} (h : Rm w l a c tv) (hk : Keeps None w w') : Rm w' l a c tv :=
  ⟨hk.own h.row (fun _ _ f => f), fun i f t hf ht => hk.own (h.code i f t hf ht) (fun _ _ f => f), h.len⟩
/-- What its cells hold. -/
theorem Rm.at {w : World} {l : List Fn} {a : Option Addr} {c : Nat} {tv : List At} (h : Rm w l a c tv) : ∃ g, a = some ⟨g, 0, none⟩ ∧ g < w.heap.size ∧ l.length + 1 ≤ c ∧ w.cell? ⟨g, l.length * 4, none⟩ = some (.int .i64 (-77)) ∧
    ∀ i f, l[i]? = some f → ∃ b cc, FnAt w g (i * 4) f (some ⟨b, 0, none⟩) cc ∧ f.code.length + 1 ≤ cc ∧ w.cell? ⟨b, f.code.length * 5, none⟩ = some (.int .i64 (-77)) := by
  have four : ∀ r ∈ List.zipWith tfCells l tv ++ [markF], r.length = 4 := fun r hr => by
    rcases List.mem_append.1 hr with hr | hr
    · obtain ⟨i, hi, rfl⟩ := List.mem_iff_getElem.1 hr
      rw [List.getElem_zipWith]
      rfl
    · simp at hr; subst hr; rfl
  have hzl : (List.zipWith tfCells l tv).length = l.length := by rw [List.length_zipWith, h.len]; omega
  rcases h.row.2 with ⟨_, h0⟩ | ⟨g, cap, cur, he, hb, hg, hn, hm, hc, ht⟩
  · omega
  · injection he with e1 e2 e3
    subst e1
    have hcell : ∀ i x, (List.zipWith tfCells l tv ++ [markF])[i]? = some x → i < l.length + 1 → ∀ j, j < 4 → w.cell? ⟨g, i * 4 + j, none⟩ = x[j]? := fun i x hx hi j hj => by
      have h1 := flat4_at _ four i _ hx j hj
      rw [blk_cell hg, ← h1, ← ht, List.getElem?_take, if_pos (by omega)]
      simp
    refine ⟨g, rfl, blk_lt hg, by omega, ?_, fun i f hf => ?_⟩
    · have := hcell l.length markF (by rw [List.getElem?_append_right (by omega), hzl, Nat.sub_self]; rfl) (by omega) 0 (by omega)
      exact this
    · have hi := (List.getElem?_eq_some_iff.1 hf).1
      obtain ⟨t, hti⟩ : ∃ t, tv[i]? = some t := ⟨tv[i]'(by rw [h.len]; omega), by simp⟩
      have hz := zip_at tfCells l tv i f t hf hti
      have hce := hcell i _ (by rw [List.getElem?_append_left (by omega)]; exact hz) (by omega)
      have hcd := h.code i f t hf hti
      rcases hcd.2 with ⟨_, h0⟩ | ⟨b, cap', cur', he', hb', hg', hn', hm', hc', ht'⟩
      · omega
      · injection he' with e1' e2' e3'
        have hL : (f.code ++ [markI]).length = f.code.length + 1 := by simp
        obtain ⟨ca, cc, hv, hsn⟩ := codes_seen (l := f.code ++ [markI]) (by rw [hL]; exact hcd)
        injection hv with e1 e2 e3
        rw [← e1, e1', hL] at hsn
        obtain ⟨b2, o2, e, hlt, hin⟩ := hsn.ex (by omega)
        injection e with e
        injection e with eb eo
        subst eb eo
        have hmk := (hin f.code.length markI (by simp)).kind
        rw [Nat.zero_add] at hmk
        have q3 : w.cell? ⟨g, i * 4 + 3, none⟩ = some (.slice t.1 f.code.length t.2) := hce 3 (by omega)
        rw [e1'] at q3
        refine ⟨b, t.2, ⟨hce 0 (by omega), hce 1 (by omega), hce 2 (by omega), q3, ⟨rfl, fun h0 => ⟨b, 0, rfl, hlt, fun k x hx => hin k x ?_⟩⟩⟩, by omega, hmk⟩
        rw [List.getElem?_append_left (List.getElem?_eq_some_iff.1 hx).1]
        exact hx
theorem Rm.seen {w : World} {l : List Fn} {a : Option Addr} {c : Nat} {tv : List At} (h : Rm w l a c tv) : SeenF w a l.length l := by
  obtain ⟨g, rfl, hg, _, _, hat⟩ := h.at
  refine ⟨rfl, fun _ => ⟨g, 0, rfl, hg, fun k f hf => ?_⟩⟩
  obtain ⟨b, cc, hf, _⟩ := hat k f hf
  exact ⟨_, cc, by rw [Nat.zero_add]; exact hf⟩
end Go.Proofs.YthignlailbekmaaDoor
