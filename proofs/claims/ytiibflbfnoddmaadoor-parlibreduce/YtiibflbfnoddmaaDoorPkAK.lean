import Derived.Test.YtiibflbfnoddmaaDoorPkAJ
import Derived.OwnWalk
import Derived.Deep.Cut
import Derived.WalkMore
import Derived.Deep.QuietTactic
import Derived.Deep.RegionHeld3
import Derived.BigQuiet
import Derived.Laws.StructEq
import Derived.Test.YtiibflbfnoddmaaDoorPkAB
/-! A program copied. -/
namespace Go.Proofs.YtiibflbfnoddmaaDoor
set_option linter.unusedVariables false
set_option maxRecDepth 20000
open Go.RowKit Go.HeapKit

theorem flat4_at (R : List (List Value)) (h : ∀ r ∈ R, r.length = 4) (k : Nat) (x : List Value) (hx : R[k]? = some x) (j : Nat) (hj : j < 4) : R.flatten[k * 4 + j]? = x[j]? := by
  induction R generalizing k with
  | nil => simp at hx
  | cons y R ih =>
    have hy := h y (List.mem_cons_self ..)
    rw [List.flatten_cons]
    cases k with
    | zero =>
      simp at hx
      subst hx
      rw [List.getElem?_append_left (by omega), Nat.zero_mul, Nat.zero_add]
    | succ k =>
      rw [List.getElem?_append_right (by omega), show (k + 1) * 4 + j - y.length = k * 4 + j by omega]
      exact ih (fun r hr => h r (List.mem_cons_of_mem _ hr)) k (by simpa using hx)
theorem Tryd.infoFn : (Tryd.prog.info? 41).map (fun i => (i.zero, i.size, i.bytes)) = some (some (.agg #[.int .i64 0, .int .i64 0, .int .i64 0, .slice none 0 0]), 4, 48) := by kernel_rfl
theorem zip_at {α β γ : Type} (f : α → β → γ) (l : List α) (m : List β) (k : Nat) (a : α) (b : β) (ha : l[k]? = some a) (hb : m[k]? = some b) : (List.zipWith f l m)[k]? = some (f a b) := by
  rw [List.getElem?_zipWith, ha, hb]
theorem take_snoc {α : Type} (l : List α) (k : Nat) (x : α) (hx : l[k]? = some x) : l.take (k + 1) = l.take k ++ [x] := by rw [List.take_add_one, hx]; rfl
abbrev At := Option Addr × Nat
def At.blk (t : At) : Option Nat := (Value.slice t.1 0 0).ownBlock
def tfCells (f : Fn) (t : At) : List Value := [.int .i64 f.params, .int .i64 f.regs, .int .i64 f.slots, .slice t.1 f.code.length t.2]
theorem fn_append (v : Value) (R : List (List Value)) (p r s x : Value) (n g ty : Nat) (w : World) (hn : n = R.length) (h1 : p.oneCell' = true ∧ r.oneCell' = true ∧ s.oneCell' = true ∧ x.oneCell' = true) (h : w.ownsRow 0 41 4 v n R.flatten) (hlen : (n + 1) * 48 ≤ 140737488355328)
    (hg : w.heap[g]? = some (.cells #[p, r, s, x] 41 (0, 0))) :
    ∃ b cap w', (Builtin.append_ #[22, 22] ty #[v, .slice (some ⟨g, 0, none⟩) 1 1]).run Tryd.prog w = .ok (.slice (some ⟨b, 0, none⟩) (n + 1) cap) w' ∧
      w'.ownsRow 0 41 4 (.slice (some ⟨b, 0, none⟩) (n + 1) cap) (n + 1) (R ++ [[p, r, s, x]]).flatten ∧ Keeps (fun k => v.ownBlock = some k) w w' ∧ (v.ownBlock = some b ∨ w.heap.size ≤ b) := by
  obtain ⟨i0, hi, hz0, hz1, hz2⟩ := info_parts Tryd.infoFn
  obtain ⟨v', w', hr, ho, hgr, hm, -⟩ := run_append_moved (P := Tryd.prog) w 0 22 ty 41 i0 _ 4 48 Tryd.underlying22 hi hz0 hz1 hz2 rfl (by decide) v n R.flatten h
    ⟨g, 0, none⟩ 1 1 [p, r, s, x] rfl (by
      intro j u hu
      rw [show (⟨g, 0, none⟩ : Addr).add j = ⟨g, j, none⟩ by unfold Addr.add; split <;> simp_all, blk_cell hg]
      simpa using hu) (by
      intro u hu
      simp at hu
      obtain ⟨q1, q2, q3, q4⟩ := h1
      rcases hu with rfl | rfl | rfl | rfl
      · exact q1
      · exact q2
      · exact q3
      · exact q4) (by unfold maxLen; omega) (by omega) (Nat.zero_le _)
  have e : (R ++ [[p, r, s, x]]).flatten = R.flatten ++ [p, r, s, x] := by simp
  rw [e]
  rcases ho.2 with ⟨_, h0⟩ | ⟨b, cap, cur, rfl, _⟩
  · omega
  · refine ⟨b, cap, w', hr, ho, (Keeps.refl _ w).andGrown hgr (fun k e => .inl e), ?_⟩
    rcases hm with hm | ⟨g', e, hg⟩
    · exact .inl (hm.symm.trans rfl)
    · simp [Value.ownBlock] at e; exact .inr (by omega)
structure Ta (w wr : World) (B : Nat) (pv : Value) (l : List Fn) (k : Nat) (qv : Value) (tv : List At) : Prop where
  keep : Keeps None w wr
  box : wr.heap[B]? = some (.cells #[pv] 24 (0, 0))
  res : wr.heap[B + 1]? = some (.cells #[.slice none 0 0] 24 (0, 0))
  qb : wr.heap[B + 2]? = some (.cells #[qv] 24 (0, 0))
  row : wr.ownsRow 0 41 4 qv k (List.zipWith tfCells (l.take k) tv).flatten
  code : ∀ (i : Nat) (f : Fn) (t : At), (l.take k)[i]? = some f → tv[i]? = some t → wr.ownsRow 0 43 5 (.slice t.1 f.code.length t.2) f.code.length (insVals f.code)
  len : tv.length = k
  low : ∀ g, qv.ownBlock = some g → w.heap.size ≤ g
  hB : w.heap.size ≤ B
  cl : ∀ (i : Nat) (t : At) (g : Nat), tv[i]? = some t → t.blk = some g → w.heap.size ≤ g ∧ g < wr.heap.size
  nd : ∀ (i j : Nat) (t u : At) (g : Nat), tv[i]? = some t → tv[j]? = some u → t.blk = some g → u.blk = some g → i = j
theorem Ta.more {w wr w' : World} {B : Nat} {pv : Value} {l : List Fn} {k : Nat} {qv : Value} {tv : List At} (h : Ta w wr B pv l k qv tv) (hk : Keeps None wr w') : Ta w w' B pv l k qv tv :=
  ⟨h.keep.trans hk (fun _ f _ => f), blk_kept h.box hk (fun f => f), blk_kept h.res hk (fun f => f), blk_kept h.qb hk (fun f => f), hk.own h.row (fun _ _ f => f), fun i f t hf ht => hk.own (h.code i f t hf ht) (fun _ _ f => f), h.len, h.low, h.hB, fun i t g ht hg => ⟨(h.cl i t g ht hg).1, Nat.lt_of_lt_of_le (h.cl i t g ht hg).2 hk.size⟩, h.nd⟩
theorem Ta.next {w wr w2 : World} {B : Nat} {pv : Value} {l : List Fn} {k : Nat} {qv : Value} {tv : List At} {f : Fn} {t : At} {b cap : Nat} (h : Ta w wr B pv l k qv tv) (hf : l[k]? = some f) (hC : wr.ownsRow 0 43 5 (.slice t.1 f.code.length t.2) f.code.length (insVals f.code))
    (hk2 : Keeps (fun k => qv.ownBlock = some k) wr w2) (ho2 : w2.ownsRow 0 41 4 (.slice (some ⟨b, 0, none⟩) (k + 1) cap) (k + 1) (List.zipWith tfCells (l.take k) tv ++ [tfCells f t]).flatten) (hg2 : qv.ownBlock = some b ∨ wr.heap.size ≤ b) {H : Nat} (hold : ∀ (i : Nat) (u : At) (g : Nat), tv[i]? = some u → u.blk = some g → g < H) (hnew : ∀ g, t.blk = some g → w.heap.size ≤ g ∧ H ≤ g ∧ g < wr.heap.size) :
    w2.cell? ⟨B + 2, 0, none⟩ = some qv ∧ w2.frozen? ⟨B + 2, 0, none⟩ = false ∧ Ta w (w2.setCell ⟨B + 2, 0, none⟩ (.slice (some ⟨b, 0, none⟩) (k + 1) cap)) B pv l (k + 1) (.slice (some ⟨b, 0, none⟩) (k + 1) cap) (tv ++ [t]) := by
  have hlk := (List.getElem?_eq_some_iff.1 hf).1
  have ht : (l.take k).length = k := by simp; omega
  have hfun : ∀ {c : Array Value} {T : TypeId} {p : Nat}, T ≠ 41 → wr.heap[p]? = some (.cells c T (0, 0)) → ¬ qv.ownBlock = some p := fun hT hp e => hT ((own_type h.row e hp).symm ▸ rfl)
  have qb2 := blk_kept h.qb hk2 (hfun (by decide) h.qb)
  have kS : Keeps (· = B + 2) w2 (w2.setCell ⟨B + 2, 0, none⟩ (.slice (some ⟨b, 0, none⟩) (k + 1) cap)) := Keeps.setCell (S := (· = B + 2)) w2 rfl _
  have hbB : b ≠ B + 2 := by
    rintro rfl
    have := own_type ho2 (g := B + 2) rfl qb2
    exact absurd this (by decide)
  have hB := h.hB
  have hcode : ∀ (v : Value) (m : Nat) (xs : List Value), wr.ownsRow 0 43 5 v m xs → (w2.setCell ⟨B + 2, 0, none⟩ (.slice (some ⟨b, 0, none⟩) (k + 1) cap)).ownsRow 0 43 5 v m xs := by
    intro v m xs hv
    have h1 := hk2.own hv (fun g e q => by
      obtain ⟨c, hc⟩ := own_block hv e
      exact hfun (by decide) hc q)
    exact kS.own h1 (fun g e q => absurd (own_type h1 e (q ▸ qb2)) (by decide))
  refine ⟨(blk_cell qb2 0).trans rfl, blk_free qb2 0, ⟨(h.keep.trans hk2 (fun i e hi => by have := h.low i e; omega)).trans kS (fun i e hi => by omega), blk_kept (blk_kept h.box hk2 (hfun (by decide) h.box)) kS (by omega), blk_kept (blk_kept h.res hk2 (hfun (by decide) h.res)) kS (by omega), by rw [blk_set qb2]; rfl, ?_, ?_, ?_, ?_, h.hB, ?_, ?_⟩⟩
  · have e : List.zipWith tfCells (l.take (k + 1)) (tv ++ [t]) = List.zipWith tfCells (l.take k) tv ++ [tfCells f t] := by
      rw [take_snoc l k f hf, List.zipWith_append (by rw [h.len, ht])]
      simp
    rw [e]
    exact kS.own ho2 (fun g e q => by simp [Value.ownBlock] at e; exact hbB (e.trans q))
  · intro i f' t' hi hc
    rw [take_snoc l k f hf] at hi
    by_cases hik : i < k
    · rw [List.getElem?_append_left (by omega)] at hi
      rw [List.getElem?_append_left (by rw [h.len]; omega)] at hc
      exact hcode _ _ _ (h.code i f' t' hi hc)
    · have hlt := (List.getElem?_eq_some_iff.1 hi).1
      simp only [List.length_append, ht, List.length_cons, List.length_nil] at hlt
      obtain rfl : i = k := by omega
      rw [List.getElem?_append_right (by omega), ht, Nat.sub_self] at hi
      rw [List.getElem?_append_right (by rw [h.len]; omega), h.len, Nat.sub_self] at hc
      simp at hi hc
      subst hi hc
      exact hcode _ _ _ hC
  · rw [List.length_append, h.len]; rfl
  · intro g e
    simp [Value.ownBlock] at e
    subst e
    rcases hg2 with r | r
    · exact h.low _ r
    · have := h.keep.size; omega
  · intro i u g hi hg
    have hsz : wr.heap.size ≤ (w2.setCell ⟨B + 2, 0, none⟩ (.slice (some ⟨b, 0, none⟩) (k + 1) cap)).heap.size := Nat.le_trans hk2.size kS.size
    by_cases hik : i < tv.length
    · rw [List.getElem?_append_left hik] at hi
      exact ⟨(h.cl i u g hi hg).1, Nat.lt_of_lt_of_le (h.cl i u g hi hg).2 hsz⟩
    · rw [List.getElem?_append_right (by omega)] at hi
      have hlt := (List.getElem?_eq_some_iff.1 hi).1
      simp at hlt
      have e0 : i - tv.length = 0 := by omega
      rw [e0] at hi
      simp at hi
      subst hi
      exact ⟨(hnew g hg).1, Nat.lt_of_lt_of_le (hnew g hg).2.2 hsz⟩
  · intro i j u v g hi hj hu hv
    have tell : ∀ (i : Nat) (u : At), (tv ++ [t])[i]? = some u → (i < tv.length ∧ tv[i]? = some u) ∨ (i = tv.length ∧ u = t) := fun i u hi => by
      by_cases hik : i < tv.length
      · rw [List.getElem?_append_left hik] at hi
        exact .inl ⟨hik, hi⟩
      · rw [List.getElem?_append_right (by omega)] at hi
        have hlt := (List.getElem?_eq_some_iff.1 hi).1
        simp at hlt
        have e0 : i - tv.length = 0 := by omega
        rw [e0] at hi
        simp at hi
        exact .inr ⟨by omega, hi.symm⟩
    rcases tell i u hi with ⟨h1, h1'⟩ | ⟨h1, h1'⟩
    · rcases tell j v hj with ⟨h2, h2'⟩ | ⟨h2, h2'⟩
      · exact h.nd i j u v g h1' h2' hu hv
      · subst h2'
        have a1 := hold i u g h1' hu
        have a2 := hnew g hv
        omega
    · rcases tell j v hj with ⟨h2, h2'⟩ | ⟨h2, h2'⟩
      · subst h1'
        have a1 := hold j v g h2' hv
        have a2 := hnew g hu
        omega
      · omega
theorem codes_copied_nil (g c : Nat) (w : World) (ty : TypeId) : (Builtin.append_ #[39, 39] ty #[.slice (some ⟨g, 0, none⟩) 0 0, .slice none 0 c]).run Tryd.prog w = .ok (.slice (some ⟨g, 0, none⟩) 0 0) w := by
  obtain ⟨i0, hi, hz0, hz1, hz2⟩ := info_parts Tryd.infoIns
  simp [Builtin.append_, run_underlying Tryd.underlying39, sizeOf, typeInfo, zeroValue, hi, hz0, Builtin.lenOf, Builtin.firstCells, storeCells]
theorem rows_seen {wr : World} {l : List Fn} {k : Nat} {qv : Value} {tv : List At} (hrow0 : wr.ownsRow 0 41 4 qv k (List.zipWith tfCells (l.take k) tv).flatten) (hcode : ∀ (i : Nat) (f : Fn) (t : At), (l.take k)[i]? = some f → tv[i]? = some t → wr.ownsRow 0 43 5 (.slice t.1 f.code.length t.2) f.code.length (insVals f.code)) (hlen : tv.length = k) (hk : k = l.length) : ∃ a c, qv = .slice a k c ∧ SeenF wr a k l := by
  have hlt : l.take k = l := List.take_of_length_le (by omega)
  have hrow := hrow0
  rw [hlt] at hrow
  have four : ∀ r ∈ List.zipWith tfCells l tv, r.length = 4 := fun r hr => by
    obtain ⟨i, hi, rfl⟩ := List.mem_iff_getElem.1 hr
    rw [List.getElem_zipWith]
    rfl
  rcases hrow.2 with ⟨rfl, h0⟩ | ⟨g, cap, cur, rfl, hb, hg, hn, hm, hc, ht⟩
  · exact ⟨none, 0, by rw [h0], ⟨by omega, fun h => by omega⟩⟩
  · refine ⟨_, cap, rfl, ⟨by omega, fun _ => ⟨g, 0, rfl, blk_lt hg, fun i f hf => ?_⟩⟩⟩
    have hi := (List.getElem?_eq_some_iff.1 hf).1
    obtain ⟨t, hti⟩ : ∃ t, tv[i]? = some t := ⟨tv[i]'(by rw [hlen]; omega), by simp⟩
    have hz := zip_at tfCells l tv i f t hf hti
    have hcell : ∀ j, j < 4 → wr.cell? ⟨g, 0 + i * 4 + j, none⟩ = (tfCells f t)[j]? := fun j hj => by
      have h1 := flat4_at _ four i _ hz j hj
      rw [blk_cell hg, ← h1, ← ht, List.getElem?_take, if_pos (by omega), Nat.zero_add]
      simp
    have hcd := hcode i f t (by rw [hlt]; exact hf) hti
    obtain ⟨ca, cc, hv, hsn⟩ := codes_seen hcd
    injection hv with e1 e2 e3
    have q3 : wr.cell? ⟨g, 0 + i * 4 + 3, none⟩ = some (.slice t.1 f.code.length t.2) := hcell 3 (by omega)
    refine ⟨t.1, t.2, ⟨hcell 0 (by omega), hcell 1 (by omega), hcell 2 (by omega), q3, by rw [e1]; exact hsn⟩⟩
theorem Ta.seen {w wr : World} {B : Nat} {pv : Value} {l : List Fn} {k : Nat} {qv : Value} {tv : List At} (h : Ta w wr B pv l k qv tv) (hk : k = l.length) : ∃ a c, qv = .slice a k c ∧ SeenF wr a k l := rows_seen h.row h.code h.len hk
theorem codes_copied (ca : Option Addr) (n c : Nat) (code : List Ins) (w : World) (ty : TypeId) (h : SeenI w ca n code) (hs : n * 40 ≤ 140737488351232) :
    ∃ v w', (Builtin.append_ #[39, 39] ty #[.slice (some ⟨w.heap.size, 0, none⟩) 0 0, .slice ca n c]).run Tryd.prog (w.alloc (.cells #[] 43)) = .ok v w' ∧
      w'.ownsRow 0 43 5 v n (insVals code) ∧ Keeps None w w' ∧ ∀ g, v.ownBlock = some g → w.heap.size ≤ g := by
  have hl := h.len
  have hal := Keeps.alloc None w (.cells #[] 43)
  have h2 := h.more hal
  have hrow : (w.alloc (.cells #[] 43)).ownsRow 0 43 5 (.slice (some ⟨w.heap.size, 0, none⟩) 0 0) 0 [] :=
    ⟨by simp, .inr ⟨w.heap.size, 0, #[], rfl, Nat.zero_le _, heap_alloc_new _ _, Nat.le_refl _, by unfold maxLen; omega, rfl, rfl⟩⟩
  cases ca with
  | none =>
    have hn : n = 0 := by
      rcases Nat.eq_zero_or_pos n with h0 | h0
      · exact h0
      · obtain ⟨b, off, e, _⟩ := h.ex h0
        cases e
    subst hn
    have hc0 : code = [] := List.eq_nil_of_length_eq_zero hl.symm
    subst hc0
    refine ⟨.slice (some ⟨w.heap.size, 0, none⟩) 0 0, w.alloc (.cells #[] 43), ?_, hrow, hal, fun g e => by simp [Value.ownBlock] at e; omega⟩
    exact codes_copied_nil _ c _ ty
  | some x =>
    obtain ⟨i0, hi, hz0, hz1, hz2⟩ := info_parts Tryd.infoIns
    obtain ⟨v', w1, hr, ho, hgr, hm, -⟩ := run_append_moved (P := Tryd.prog) (w.alloc (.cells #[] 43)) 0 39 ty 43 i0 _ 5 40 Tryd.underlying39 hi hz0 hz1 hz2 rfl (by decide) _ 0 _ hrow
      x n c (insVals code) (by rw [insVals_length]; omega) (by
        intro j u hu
        have hj : j < n * 5 := by have := (List.getElem?_eq_some_iff.1 hu).1; rw [insVals_length] at this; omega
        obtain ⟨b, off, e, _, hc⟩ := h2.ex (by omega)
        injection e with e
        subst e
        rw [show (⟨b, off, none⟩ : Addr).add j = ⟨b, off + j, none⟩ by unfold Addr.add; split <;> simp_all]
        have hlj : code[j / 5]? = some (code[j / 5]'(by omega)) := List.getElem?_eq_getElem _
        have hin := hc (j / 5) _ hlj
        have hjj : j = j / 5 * 5 + j % 5 := by omega
        have hm5 : j % 5 < 5 := Nat.mod_lt _ (by omega)
        obtain ⟨v0, hv0⟩ : ∃ v0, (insCells (code[j / 5]'(by omega)))[j % 5]? = some v0 := ⟨(insCells (code[j / 5]'(by omega)))[j % 5]'(by simpa [insCells] using hm5), by simp⟩
        have hat := insVals_at code (j / 5) _ hlj (j % 5) v0 hv0
        rw [← hjj] at hat
        rw [hat] at hu
        injection hu with hu
        subst hu
        have hq : off + j = off + j / 5 * 5 + j % 5 := by omega
        rw [hq]
        generalize j % 5 = r at hm5 hv0
        generalize code[j / 5]'(by omega) = ii at hin hv0
        match r, hm5 with
        | 0, _ => simp [insCells] at hv0; subst hv0; exact hin.kind
        | 1, _ => simp [insCells] at hv0; subst hv0; exact hin.a
        | 2, _ => simp [insCells] at hv0; subst hv0; exact hin.b
        | 3, _ => simp [insCells] at hv0; subst hv0; exact hin.c
        | 4, _ => simp [insCells] at hv0; subst hv0; exact hin.k) (by
        intro u hu
        simp only [insVals, List.mem_flatMap] at hu
        obtain ⟨y, _, hy⟩ := hu
        simp [insCells] at hy
        rcases hy with rfl | rfl | rfl | rfl | rfl <;> rfl) (by unfold maxLen; omega) (by omega) (Nat.zero_le _)
    rw [Nat.zero_add, List.nil_append] at ho
    refine ⟨v', w1, hr, ho, hal.andGrown hgr (fun k e => .inr (by simp [Value.ownBlock] at e; omega)), fun g e => ?_⟩
    rcases hm with hm | ⟨g', e', hg'⟩
    · rw [hm] at e; simp [Value.ownBlock] at e; omega
    · rw [e'] at e
      obtain rfl := Option.some.inj e
      simp at hg'
      omega
theorem ins_put (l : List Ins) (k : Nat) (x : Ins) (y : Int) (hk : l[k]? = some x) : (insVals l).set (k * 5 + 4) (.int .i64 y) = insVals (l.set k { x with k := y }) := by
  induction l generalizing k with
  | nil => simp at hk
  | cons z l ih =>
    have e : insVals (z :: l) = insCells z ++ insVals l := rfl
    have hz : (insCells z).length = 5 := rfl
    cases k with
    | zero =>
      simp at hk
      subst hk
      have e2 : insVals ((z :: l).set 0 { z with k := y }) = insCells { z with k := y } ++ insVals l := rfl
      rw [e, e2, Nat.zero_mul, Nat.zero_add, List.set_append_left _ _ (by omega)]
      rfl
    | succ k =>
      have e2 : insVals ((z :: l).set (k + 1) { x with k := y }) = insCells z ++ insVals (l.set k { x with k := y }) := rfl
      rw [e, e2, ← ih k (by simpa using hk), List.set_append_right _ _ (by omega), hz, show (k + 1) * 5 + 4 - 5 = k * 5 + 4 by omega]
/-- A program in memory of its own: no two of its lists share any. -/
structure Cp (base : Nat) (w : World) (l : List Fn) (qv : Value) (tv : List At) : Prop where
  row : w.ownsRow 0 41 4 qv l.length (List.zipWith tfCells l tv).flatten
  code : ∀ (i : Nat) (f : Fn) (t : At), l[i]? = some f → tv[i]? = some t → w.ownsRow 0 43 5 (.slice t.1 f.code.length t.2) f.code.length (insVals f.code)
  len : tv.length = l.length
  low : ∀ g, qv.ownBlock = some g → base ≤ g
  cl : ∀ (i : Nat) (t : At) (g : Nat), tv[i]? = some t → t.blk = some g → base ≤ g
  nd : ∀ (i j : Nat) (t u : At) (g : Nat), tv[i]? = some t → tv[j]? = some u → t.blk = some g → u.blk = some g → i = j
theorem At.blk_slice (a : Option Addr) (n c k : Nat) : (Value.slice a n c).ownBlock = At.blk (a, k) := by cases a <;> rfl
theorem Cp.more {base : Nat} {w w' : World} {l : List Fn} {qv : Value} {tv : List At} (h : Cp base w l qv tv) (hk : Keeps None w w') : Cp base w' l qv tv :=
  ⟨hk.own h.row (fun _ _ f => f), fun i f t hf ht => hk.own (h.code i f t hf ht) (fun _ _ f => f), h.len, h.low, h.cl, h.nd⟩
theorem Cp.kept {base : Nat} {w w' : World} {l : List Fn} {qv : Value} {tv : List At} {S : Nat → Prop} (h : Cp base w l qv tv) (hk : Keeps S w w') (hr : ∀ g, qv.ownBlock = some g → ¬ S g) (hc : ∀ (i : Nat) (t : At) (g : Nat), tv[i]? = some t → t.blk = some g → ¬ S g) : Cp base w' l qv tv :=
  ⟨hk.own h.row (fun g e => hr g e), fun i f t hf ht => hk.own (h.code i f t hf ht) (fun g e => hc i t g ht (by rw [← e]; exact (At.blk_slice _ _ _ _).symm)), h.len, h.low, h.cl, h.nd⟩
theorem Cp.seen {base : Nat} {w : World} {l : List Fn} {qv : Value} {tv : List At} (h : Cp base w l qv tv) : ∃ a c, qv = .slice a l.length c ∧ SeenF w a l.length l := by
  have e : l.take l.length = l := List.take_of_length_le (Nat.le_refl _)
  exact rows_seen (k := l.length) (by rw [e]; exact h.row) (fun i f t hf ht => h.code i f t (by rw [e] at hf; exact hf) ht) h.len rfl
/-- One constant of it is written over. -/
theorem Cp.put {base : Nat} {w : World} {l : List Fn} {qv : Value} {tv : List At} (h : Cp base w l qv tv) {i k : Nat} {f : Fn} {x : Ins} {t : At} (hf : l[i]? = some f) (hx : f.code[k]? = some x) (ht : tv[i]? = some t) (y : Int) :
    ∃ cb, t.1 = some ⟨cb, 0, none⟩ ∧ InsAt w cb (k * 5) x ∧ (∀ j, w.frozen? ⟨cb, j, none⟩ = false) ∧ Cp base (w.setCell ⟨cb, k * 5 + 4, none⟩ (.int .i64 y)) (l.set i { f with code := f.code.set k { x with k := y } }) qv tv ∧ Keeps (· = cb) w (w.setCell ⟨cb, k * 5 + 4, none⟩ (.int .i64 y)) ∧ base ≤ cb := by
  have hkl := (List.getElem?_eq_some_iff.1 hx).1
  have hil := (List.getElem?_eq_some_iff.1 hf).1
  have hown := h.code i f t hf ht
  rcases hown.2 with ⟨_, h0⟩ | ⟨g, cap, cur, he, hb0, hg, hnc, hcm, hcs, htk⟩
  · omega
  · have he2 := he
    injection he with e1 e2 e3
    have hL := insVals_length f.code
    have hblk : t.blk = some g := by unfold At.blk; rw [e1]; rfl
    have hcell : ∀ j v, (insCells x)[j]? = some v → w.cell? ⟨g, k * 5 + j, none⟩ = some v := fun j v hv => by
      have hj : j < 5 := by have := (List.getElem?_eq_some_iff.1 hv).1; simpa [insCells] using this
      have h1 := insVals_at f.code k x hx j v hv
      rw [← htk, List.getElem?_take, if_pos (by omega)] at h1
      rw [blk_cell hg, ← Array.getElem?_toList]
      exact h1
    have kS : Keeps (· = g) w (w.setCell ⟨g, k * 5 + 4, none⟩ (.int .i64 y)) := Keeps.setCell (S := (· = g)) w (a := ⟨g, k * 5 + 4, none⟩) rfl _
    refine ⟨g, e1, ⟨hcell 0 _ rfl, hcell 1 _ rfl, hcell 2 _ rfl, hcell 3 _ rfl, hcell 4 _ rfl⟩, fun j => blk_free hg j, ?_, kS, h.cl i t g ht hblk⟩
    have hz : List.zipWith tfCells (l.set i { f with code := f.code.set k { x with k := y } }) tv = List.zipWith tfCells l tv := by
      apply List.ext_getElem?
      intro j
      rw [List.getElem?_zipWith, List.getElem?_zipWith]
      by_cases hji : i = j
      · subst hji
        rw [List.getElem?_set_self hil, hf, ht]
        simp [tfCells]
      · rw [List.getElem?_set_ne hji]
    refine ⟨?_, ?_, by rw [List.length_set]; exact h.len, h.low, h.cl, h.nd⟩
    · rw [hz, List.length_set]
      exact kS.own h.row (fun q e hq => by subst hq; exact absurd (own_type h.row e hg) (by decide))
    · intro j f' t' hf' ht'
      by_cases hji : i = j
      · subst hji
        rw [List.getElem?_set_self hil] at hf'
        obtain rfl := Option.some.inj hf'
        rw [ht] at ht'
        obtain rfl := Option.some.inj ht'
        simp only [List.length_set]
        refine ⟨by rw [insVals_length, List.length_set], .inr ⟨g, cap, _, he2, hb0, blk_set hg _, hnc, hcm, by simpa using hcs, ?_⟩⟩
        rw [Array.toList_setIfInBounds, List.take_set, htk]
        exact ins_put f.code k x y hx
      · rw [List.getElem?_set_ne hji] at hf'
        refine kS.own (h.code j f' t' hf' ht') (fun q e hq => ?_)
        subst hq
        exact hji (h.nd i j t t' q ht ht' hblk (by rw [← e]; exact (At.blk_slice _ _ _ _).symm))
end Go.Proofs.YtiibflbfnoddmaaDoor
/-! The statements' own: a program with a mark behind each of its lists. -/
namespace Go.Proofs.YtiibflbfnoddmaaDoor
set_option linter.unusedVariables false
set_option maxRecDepth 20000
open Go.RowKit Go.HeapKit

def markI : Ins := ⟨-77, 0, 0, 0, 0⟩
def markF : List Value := [.int .i64 (-77), .int .i64 0, .int .i64 0, .slice none 0 0]
structure Tm (w wr : World) (B : Nat) (pv : Value) (l : List Fn) (k : Nat) (qv : Value) (tv : List At) : Prop where
  keep : Keeps None w wr
  box : wr.heap[B]? = some (.cells #[pv] 24 (0, 0))
  res : wr.heap[B + 1]? = some (.cells #[.slice none 0 0] 24 (0, 0))
  qb : wr.heap[B + 2]? = some (.cells #[qv] 24 (0, 0))
  row : wr.ownsRow 0 41 4 qv k (List.zipWith tfCells (l.take k) tv).flatten
  code : ∀ (i : Nat) (f : Fn) (t : At), (l.take k)[i]? = some f → tv[i]? = some t → wr.ownsRow 0 43 5 (.slice t.1 (f.code.length + 1) t.2) (f.code.length + 1) (insVals (f.code ++ [markI]))
  len : tv.length = k
  low : ∀ g, qv.ownBlock = some g → w.heap.size ≤ g
  hB : w.heap.size ≤ B
  cl : ∀ (i : Nat) (t : At) (g : Nat), tv[i]? = some t → t.blk = some g → w.heap.size ≤ g ∧ g < wr.heap.size
  nd : ∀ (i j : Nat) (t u : At) (g : Nat), tv[i]? = some t → tv[j]? = some u → t.blk = some g → u.blk = some g → i = j
theorem Tm.more {w wr w' : World} {B : Nat} {pv : Value} {l : List Fn} {k : Nat} {qv : Value} {tv : List At} (h : Tm w wr B pv l k qv tv) (hk : Keeps None wr w') : Tm w w' B pv l k qv tv :=
  ⟨h.keep.trans hk (fun _ f _ => f), blk_kept h.box hk (fun f => f), blk_kept h.res hk (fun f => f), blk_kept h.qb hk (fun f => f), hk.own h.row (fun _ _ f => f), fun i f t hf ht => hk.own (h.code i f t hf ht) (fun _ _ f => f), h.len, h.low, h.hB, fun i t g ht hg => ⟨(h.cl i t g ht hg).1, Nat.lt_of_lt_of_le (h.cl i t g ht hg).2 hk.size⟩, h.nd⟩
theorem Tm.next {w wr w2 : World} {B : Nat} {pv : Value} {l : List Fn} {k : Nat} {qv : Value} {tv : List At} {f : Fn} {t : At} {b cap : Nat} (h : Tm w wr B pv l k qv tv) (hf : l[k]? = some f) (hC : wr.ownsRow 0 43 5 (.slice t.1 (f.code.length + 1) t.2) (f.code.length + 1) (insVals (f.code ++ [markI])))
    (hk2 : Keeps (fun k => qv.ownBlock = some k) wr w2) (ho2 : w2.ownsRow 0 41 4 (.slice (some ⟨b, 0, none⟩) (k + 1) cap) (k + 1) (List.zipWith tfCells (l.take k) tv ++ [tfCells f t]).flatten) (hg2 : qv.ownBlock = some b ∨ wr.heap.size ≤ b) {H : Nat} (hold : ∀ (i : Nat) (u : At) (g : Nat), tv[i]? = some u → u.blk = some g → g < H) (hnew : ∀ g, t.blk = some g → w.heap.size ≤ g ∧ H ≤ g ∧ g < wr.heap.size) :
    w2.cell? ⟨B + 2, 0, none⟩ = some qv ∧ w2.frozen? ⟨B + 2, 0, none⟩ = false ∧ Tm w (w2.setCell ⟨B + 2, 0, none⟩ (.slice (some ⟨b, 0, none⟩) (k + 1) cap)) B pv l (k + 1) (.slice (some ⟨b, 0, none⟩) (k + 1) cap) (tv ++ [t]) := by
  have hlk := (List.getElem?_eq_some_iff.1 hf).1
  have ht : (l.take k).length = k := by simp; omega
  have hfun : ∀ {c : Array Value} {T : TypeId} {p : Nat}, T ≠ 41 → wr.heap[p]? = some (.cells c T (0, 0)) → ¬ qv.ownBlock = some p := fun hT hp e => hT ((own_type h.row e hp).symm ▸ rfl)
  have qb2 := blk_kept h.qb hk2 (hfun (by decide) h.qb)
  have kS : Keeps (· = B + 2) w2 (w2.setCell ⟨B + 2, 0, none⟩ (.slice (some ⟨b, 0, none⟩) (k + 1) cap)) := Keeps.setCell (S := (· = B + 2)) w2 rfl _
  have hbB : b ≠ B + 2 := by
    rintro rfl
    have := own_type ho2 (g := B + 2) rfl qb2
    exact absurd this (by decide)
  have hB := h.hB
  have hcode : ∀ (v : Value) (m : Nat) (xs : List Value), wr.ownsRow 0 43 5 v m xs → (w2.setCell ⟨B + 2, 0, none⟩ (.slice (some ⟨b, 0, none⟩) (k + 1) cap)).ownsRow 0 43 5 v m xs := by
    intro v m xs hv
    have h1 := hk2.own hv (fun g e q => by
      obtain ⟨c, hc⟩ := own_block hv e
      exact hfun (by decide) hc q)
    exact kS.own h1 (fun g e q => absurd (own_type h1 e (q ▸ qb2)) (by decide))
  refine ⟨(blk_cell qb2 0).trans rfl, blk_free qb2 0, ⟨(h.keep.trans hk2 (fun i e hi => by have := h.low i e; omega)).trans kS (fun i e hi => by omega), blk_kept (blk_kept h.box hk2 (hfun (by decide) h.box)) kS (by omega), blk_kept (blk_kept h.res hk2 (hfun (by decide) h.res)) kS (by omega), by rw [blk_set qb2]; rfl, ?_, ?_, ?_, ?_, h.hB, ?_, ?_⟩⟩
  · have e : List.zipWith tfCells (l.take (k + 1)) (tv ++ [t]) = List.zipWith tfCells (l.take k) tv ++ [tfCells f t] := by
      rw [take_snoc l k f hf, List.zipWith_append (by rw [h.len, ht])]
      simp
    rw [e]
    exact kS.own ho2 (fun g e q => by simp [Value.ownBlock] at e; exact hbB (e.trans q))
  · intro i f' t' hi hc
    rw [take_snoc l k f hf] at hi
    by_cases hik : i < k
    · rw [List.getElem?_append_left (by omega)] at hi
      rw [List.getElem?_append_left (by rw [h.len]; omega)] at hc
      exact hcode _ _ _ (h.code i f' t' hi hc)
    · have hlt := (List.getElem?_eq_some_iff.1 hi).1
      simp only [List.length_append, ht, List.length_cons, List.length_nil] at hlt
      obtain rfl : i = k := by omega
      rw [List.getElem?_append_right (by omega), ht, Nat.sub_self] at hi
      rw [List.getElem?_append_right (by rw [h.len]; omega), h.len, Nat.sub_self] at hc
      simp at hi hc
      subst hi hc
      exact hcode _ _ _ hC
  · rw [List.length_append, h.len]; rfl
  · intro g e
    simp [Value.ownBlock] at e
    subst e
    rcases hg2 with r | r
    · exact h.low _ r
    · have := h.keep.size; omega
  · intro i u g hi hg
    have hsz : wr.heap.size ≤ (w2.setCell ⟨B + 2, 0, none⟩ (.slice (some ⟨b, 0, none⟩) (k + 1) cap)).heap.size := Nat.le_trans hk2.size kS.size
    by_cases hik : i < tv.length
    · rw [List.getElem?_append_left hik] at hi
      exact ⟨(h.cl i u g hi hg).1, Nat.lt_of_lt_of_le (h.cl i u g hi hg).2 hsz⟩
    · rw [List.getElem?_append_right (by omega)] at hi
      have hlt := (List.getElem?_eq_some_iff.1 hi).1
      simp at hlt
      have e0 : i - tv.length = 0 := by omega
      rw [e0] at hi
      simp at hi
      subst hi
      exact ⟨(hnew g hg).1, Nat.lt_of_lt_of_le (hnew g hg).2.2 hsz⟩
  · intro i j u v g hi hj hu hv
    have tell : ∀ (i : Nat) (u : At), (tv ++ [t])[i]? = some u → (i < tv.length ∧ tv[i]? = some u) ∨ (i = tv.length ∧ u = t) := fun i u hi => by
      by_cases hik : i < tv.length
      · rw [List.getElem?_append_left hik] at hi
        exact .inl ⟨hik, hi⟩
      · rw [List.getElem?_append_right (by omega)] at hi
        have hlt := (List.getElem?_eq_some_iff.1 hi).1
        simp at hlt
        have e0 : i - tv.length = 0 := by omega
        rw [e0] at hi
        simp at hi
        exact .inr ⟨by omega, hi.symm⟩
    rcases tell i u hi with ⟨h1, h1'⟩ | ⟨h1, h1'⟩
    · rcases tell j v hj with ⟨h2, h2'⟩ | ⟨h2, h2'⟩
      · exact h.nd i j u v g h1' h2' hu hv
      · subst h2'
        have a1 := hold i u g h1' hu
        have a2 := hnew g hv
        omega
    · rcases tell j v hj with ⟨h2, h2'⟩ | ⟨h2, h2'⟩
      · subst h1'
        have a1 := hold j v g h2' hv
        have a2 := hnew g hu
        omega
      · omega
/-- A program with the marks. -/
structure Rm (w : World) (l : List Fn) (a : Option Addr) (c : Nat) (tv : List At) : Prop where
  row : w.ownsRow 0 41 4 (.slice a (l.length + 1) c) (l.length + 1) (List.zipWith tfCells l tv ++ [markF]).flatten
  code : ∀ (i : Nat) (f : Fn) (t : At), l[i]? = some f → tv[i]? = some t → w.ownsRow 0 43 5 (.slice t.1 (f.code.length + 1) t.2) (f.code.length + 1) (insVals (f.code ++ [markI]))
  len : tv.length = l.length
theorem Rm.more {w w' : World} {l : List Fn} {a : Option Addr} {c : Nat} {tv : List At} (h : Rm w l a c tv) (hk : Keeps None w w') : Rm w' l a c tv :=
  ⟨hk.own h.row (fun _ _ f => f), fun i f t hf ht => hk.own (h.code i f t hf ht) (fun _ _ f => f), h.len⟩
/-- What its cells hold. -/
theorem Rm.at {w : World} {l : List Fn} {a : Option Addr} {c : Nat} {tv : List At} (h : Rm w l a c tv) : ∃ g, a = some ⟨g, 0, none⟩ ∧ g < w.heap.size ∧ l.length + 1 ≤ c ∧ w.cell? ⟨g, l.length * 4, none⟩ = some (.int .i64 (-77)) ∧
    ∀ i f, l[i]? = some f → ∃ b cc, FnAt w g (i * 4) f (some ⟨b, 0, none⟩) cc ∧ f.code.length + 1 ≤ cc ∧ w.cell? ⟨b, f.code.length * 5, none⟩ = some (.int .i64 (-77)) := by
  have four : ∀ r ∈ List.zipWith tfCells l tv ++ [markF], r.length = 4 := fun r hr => by
    rcases List.mem_append.1 hr with hr | hr
    · obtain ⟨i, hi, rfl⟩ := List.mem_iff_getElem.1 hr
      rw [List.getElem_zipWith]
      rfl
    · simp at hr; subst hr; rfl
  have hzl : (List.zipWith tfCells l tv).length = l.length := by rw [List.length_zipWith, h.len]; omega
  rcases h.row.2 with ⟨_, h0⟩ | ⟨g, cap, cur, he, hb, hg, hn, hm, hc, ht⟩
  · omega
  · injection he with e1 e2 e3
    subst e1
    have hcell : ∀ i x, (List.zipWith tfCells l tv ++ [markF])[i]? = some x → i < l.length + 1 → ∀ j, j < 4 → w.cell? ⟨g, i * 4 + j, none⟩ = x[j]? := fun i x hx hi j hj => by
      have h1 := flat4_at _ four i _ hx j hj
      rw [blk_cell hg, ← h1, ← ht, List.getElem?_take, if_pos (by omega)]
      simp
    refine ⟨g, rfl, blk_lt hg, by omega, ?_, fun i f hf => ?_⟩
    · have := hcell l.length markF (by rw [List.getElem?_append_right (by omega), hzl, Nat.sub_self]; rfl) (by omega) 0 (by omega)
      exact this
    · have hi := (List.getElem?_eq_some_iff.1 hf).1
      obtain ⟨t, hti⟩ : ∃ t, tv[i]? = some t := ⟨tv[i]'(by rw [h.len]; omega), by simp⟩
      have hz := zip_at tfCells l tv i f t hf hti
      have hce := hcell i _ (by rw [List.getElem?_append_left (by omega)]; exact hz) (by omega)
      have hcd := h.code i f t hf hti
      rcases hcd.2 with ⟨_, h0⟩ | ⟨b, cap', cur', he', hb', hg', hn', hm', hc', ht'⟩
      · omega
      · injection he' with e1' e2' e3'
        have hL : (f.code ++ [markI]).length = f.code.length + 1 := by simp
        obtain ⟨ca, cc, hv, hsn⟩ := codes_seen (l := f.code ++ [markI]) (by rw [hL]; exact hcd)
        injection hv with e1 e2 e3
        rw [← e1, e1', hL] at hsn
        obtain ⟨b2, o2, e, hlt, hin⟩ := hsn.ex (by omega)
        injection e with e
        injection e with eb eo
        subst eb eo
        have hmk := (hin f.code.length markI (by simp)).kind
        rw [Nat.zero_add] at hmk
        have q3 : w.cell? ⟨g, i * 4 + 3, none⟩ = some (.slice t.1 f.code.length t.2) := hce 3 (by omega)
        rw [e1'] at q3
        refine ⟨b, t.2, ⟨hce 0 (by omega), hce 1 (by omega), hce 2 (by omega), q3, ⟨rfl, fun h0 => ⟨b, 0, rfl, hlt, fun k x hx => hin k x ?_⟩⟩⟩, by omega, hmk⟩
        rw [List.getElem?_append_left (List.getElem?_eq_some_iff.1 hx).1]
        exact hx
theorem Rm.seen {w : World} {l : List Fn} {a : Option Addr} {c : Nat} {tv : List At} (h : Rm w l a c tv) : SeenF w a l.length l := by
  obtain ⟨g, rfl, hg, _, _, hat⟩ := h.at
  refine ⟨rfl, fun _ => ⟨g, 0, rfl, hg, fun k f hf => ?_⟩⟩
  obtain ⟨b, cc, hf, _⟩ := hat k f hf
  exact ⟨_, cc, by rw [Nat.zero_add]; exact hf⟩
theorem own_put {w : World} {e : TypeId} {z n c g : Nat} {X : List Value} {i : Nat} (y : Value) (h : w.ownsRow 0 e z (.slice (some ⟨g, 0, none⟩) n c) n X) : (w.setCell ⟨g, i, none⟩ y).ownsRow 0 e z (.slice (some ⟨g, 0, none⟩) n c) n (X.set i y) := by
  rcases h.2 with ⟨e1, _⟩ | ⟨g', cap, cur, he, hb0, hg, hnc, hcm, hcs, htk⟩
  · cases e1
  · have he2 := he
    injection he with e1 e2 e3
    injection e1 with e1
    injection e1 with e1
    subst e1
    refine ⟨by rw [List.length_set]; exact h.1, .inr ⟨g, cap, _, he2, hb0, blk_set hg _, hnc, hcm, by simpa using hcs, ?_⟩⟩
    rw [Array.toList_setIfInBounds, List.take_set, htk]

/-- The blocks from lo up to hi. -/
def Rg (lo hi : Nat) (g : Nat) : Prop := lo ≤ g ∧ g < hi
/-- A program with the marks, in memory of its own: no two of its lists share any; its blocks are from lo up to hi. -/
structure Mp (lo hi : Nat) (w : World) (l : List Fn) (a : Option Addr) (c : Nat) (tv : List At) : Prop where
  rm : Rm w l a c tv
  low : ∀ g, a = some ⟨g, 0, none⟩ → Rg lo hi g
  cl : ∀ (i : Nat) (t : At) (g : Nat), tv[i]? = some t → t.blk = some g → Rg lo hi g
  nd : ∀ (i j : Nat) (t u : At) (g : Nat), tv[i]? = some t → tv[j]? = some u → t.blk = some g → u.blk = some g → i = j
theorem Mp.kept {lo hi : Nat} {w w' : World} {l : List Fn} {a : Option Addr} {c : Nat} {tv : List At} {S : Nat → Prop} (h : Mp lo hi w l a c tv) (hk : Keeps S w w') (hS : ∀ g, Rg lo hi g → ¬ S g) : Mp lo hi w' l a c tv := by
  obtain ⟨g, rfl, _⟩ := h.rm.at
  exact ⟨⟨hk.own h.rm.row (fun q e => by simp [Value.ownBlock] at e; subst e; exact hS _ (h.low _ rfl)), fun i f t hf ht => hk.own (h.rm.code i f t hf ht) (fun q e => hS q (h.cl i t q ht (by rw [← e]; exact (At.blk_slice _ _ _ _).symm))), h.rm.len⟩, h.low, h.cl, h.nd⟩
theorem Mp.more {lo hi : Nat} {w w' : World} {l : List Fn} {a : Option Addr} {c : Nat} {tv : List At} (h : Mp lo hi w l a c tv) (hk : Keeps None w w') : Mp lo hi w' l a c tv := h.kept hk (fun _ _ f => f)
/-- A function's code is written over, in its place. -/
theorem Mp.setCode {lo hi : Nat} {w w' : World} {l : List Fn} {a : Option Addr} {c : Nat} {tv : List At} (h : Mp lo hi w l a c tv) {i : Nat} {f : Fn} {t : At} {cb : Nat} (hf : l[i]? = some f) (ht : tv[i]? = some t) (hcb : t.1 = some ⟨cb, 0, none⟩) (code : List Ins) (hl : code.length = f.code.length)
    (hk : Keeps (· = cb) w w') (ho : w'.ownsRow 0 43 5 (.slice t.1 (f.code.length + 1) t.2) (f.code.length + 1) (insVals (code ++ [markI]))) : Mp lo hi w' (l.set i { f with code := code }) a c tv := by
  have hil := (List.getElem?_eq_some_iff.1 hf).1
  have hblk : t.blk = some cb := by unfold At.blk; rw [hcb]; rfl
  have hcode := h.rm.code i f t hf ht
  have hty : ∀ q, (Value.slice a (l.length + 1) c).ownBlock = some q → ¬ q = cb := fun q e hq => by
    subst hq
    obtain ⟨cs, hc⟩ := own_block hcode (g := q) (by rw [hcb]; rfl)
    exact absurd (own_type h.rm.row e hc) (by decide)
  have hz : List.zipWith tfCells (l.set i { f with code := code }) tv = List.zipWith tfCells l tv := by
    apply List.ext_getElem?
    intro j
    rw [List.getElem?_zipWith, List.getElem?_zipWith]
    by_cases hji : i = j
    · subst hji
      rw [List.getElem?_set_self hil, hf, ht]
      simp [tfCells, hl]
    · rw [List.getElem?_set_ne hji]
  refine ⟨⟨?_, ?_, by rw [List.length_set]; exact h.rm.len⟩, h.low, h.cl, h.nd⟩
  · rw [hz, List.length_set]
    exact hk.own h.rm.row hty
  · intro j f' t' hf' ht'
    by_cases hji : i = j
    · subst hji
      rw [List.getElem?_set_self hil] at hf'
      obtain rfl := Option.some.inj hf'
      rw [ht] at ht'
      obtain rfl := Option.some.inj ht'
      simp only
      rw [hl]
      exact ho
    · rw [List.getElem?_set_ne hji] at hf'
      refine hk.own (h.rm.code j f' t' hf' ht') (fun q e hq => ?_)
      subst hq
      exact hji (h.nd i j t t' q ht ht' hblk (by rw [← e]; exact (At.blk_slice _ _ _ _).symm))
/-- Where a function's code lies. -/
theorem Mp.at {lo hi : Nat} {w : World} {l : List Fn} {a : Option Addr} {c : Nat} {tv : List At} (h : Mp lo hi w l a c tv) {i : Nat} {f : Fn} (hf : l[i]? = some f) :
    ∃ g b cc, a = some ⟨g, 0, none⟩ ∧ tv[i]? = some (some ⟨b, 0, none⟩, cc) ∧ FnAt w g (i * 4) f (some ⟨b, 0, none⟩) cc ∧ Rg lo hi b ∧ Rg lo hi g ∧ f.code.length + 1 ≤ cc ∧ (∀ j, w.frozen? ⟨b, j, none⟩ = false) ∧ w.ownsRow 0 43 5 (.slice (some ⟨b, 0, none⟩) (f.code.length + 1) cc) (f.code.length + 1) (insVals (f.code ++ [markI])) ∧ ∀ k x, f.code[k]? = some x → InsAt w b (k * 5) x := by
  obtain ⟨g, rfl, hg, hc, hmk, hat⟩ := h.rm.at
  obtain ⟨b, cc, hfn, hcc, hmb⟩ := hat i f hf
  have hi := (List.getElem?_eq_some_iff.1 hf).1
  obtain ⟨t, hti⟩ : ∃ t, tv[i]? = some t := ⟨tv[i]'(by rw [h.rm.len]; omega), by simp⟩
  have hcd := h.rm.code i f t hf hti
  have four : ∀ r ∈ List.zipWith tfCells l tv ++ [markF], r.length = 4 := fun r hr => by
    rcases List.mem_append.1 hr with hr | hr
    · obtain ⟨i, hi, rfl⟩ := List.mem_iff_getElem.1 hr
      rw [List.getElem_zipWith]
      rfl
    · simp at hr; subst hr; rfl
  have hzl : (List.zipWith tfCells l tv).length = l.length := by rw [List.length_zipWith, h.rm.len]; omega
  have e3 : w.cell? ⟨g, i * 4 + 3, none⟩ = some (.slice t.1 f.code.length t.2) := by
    rcases h.rm.row.2 with ⟨_, h0⟩ | ⟨g', cap, cur, he, hb, hg', hn, hm, hc', ht⟩
    · omega
    · injection he with e1 e2 e3
      injection e1 with e1
      injection e1 with e1
      subst e1
      have h1 := flat4_at _ four i (tfCells f t) (by rw [List.getElem?_append_left (by omega)]; exact zip_at tfCells l tv i f t hf hti) 3 (by omega)
      rw [blk_cell hg', ← Array.getElem?_toList]
      rw [← ht, List.getElem?_take, if_pos (by omega)] at h1
      exact h1
  have e4 := hfn.code.symm.trans e3
  injection e4 with e4
  injection e4 with e5 e6 e7
  obtain ⟨t1, t2⟩ := t
  simp only at e5 e7
  subst e5 e7
  have hbk := h.cl i _ b hti rfl
  obtain ⟨cs, hcs⟩ := own_block hcd (g := b) rfl
  refine ⟨g, b, cc, rfl, hti, hfn, hbk, h.low g rfl, hcc, fun j => blk_free hcs j, hcd, fun k x hx => ?_⟩
  have hk : 0 < f.code.length := by have := (List.getElem?_eq_some_iff.1 hx).1; omega
  obtain ⟨b', off, e, _, hin⟩ := hfn.seen.ex hk
  injection e with e
  injection e with ea eb
  subst ea eb
  have := hin k x hx
  rw [Nat.zero_add] at this
  exact this
end Go.Proofs.YtiibflbfnoddmaaDoor
/-! The statements' own 'sameFunc' and 'whole', where they say yes. -/
namespace Go.Proofs.YtiibflbfnoddmaaDoor
set_option linter.unusedVariables false
set_option maxRecDepth 20000
open Go.RowKit Go.HeapKit

/-- An instruction whose spawn goes to a function by so many higher. -/
def bmI (y : Int) (i : Ins) : Ins := if i.kind = 5 then { i with b := wrap64 (i.b + y) } else i
theorem neqIns' (a b c d e : Int) (w : World) : (binOp .neq 43 (.agg #[.int .i64 a, .int .i64 b, .int .i64 c, .int .i64 d, .int .i64 e]) (.agg #[.int .i64 a, .int .i64 b, .int .i64 c, .int .i64 d, .int .i64 e])).run Tryd.prog w = .ok (.bool false) w := by
  have u3 := Tryd.underlying3
  have a3 := Tryd.isAgg3
  have z3 := Tryd.sizeOf3
  have u2 := Tryd.underlying2
  have a2 := Tryd.isAgg2
  have z2 := Tryd.sizeOf2
  have hS : Tryd.prog.underlying 43 = some (.struct (Tryd.prog.fieldsOf 43)) := by kernel_rfl
  have hp : Tryd.prog.stoodInHeld 43 = false := by kernel_rfl
  rw [run_neq_struct, show (10000 : Nat) = 9999 + 1 from rfl, run_equalIn_agg w 9999 43 _ _ hS hp]
  simp only [Program.fieldsOf, Tryd.underlying43]
  go_simp
set_option maxHeartbeats 2000000 in
theorem sameFunc_any (f : Fn) (code' : List Ins) (y : Int) (ca : Option Addr) (cc : Nat) (ca' : Option Addr) (cc' : Nat) (w : World) (hC : SeenI w ca f.code.length f.code) (hC' : SeenI w ca' f.code.length code') (hc : code' = f.code.map (bmI y)) (hl : f.code.length ≤ 4611686018427387904) :
    Calls Tryd.prog 23 #[fnV f ca cc, .agg #[.int .i64 f.params, .int .i64 f.regs, .int .i64 f.slots, .slice ca' f.code.length cc'], .int .i64 y] w fun e w' => e = .returned (.bool true) ∧ Keeps None w w' := by
  unfold fnV
  obtain ⟨n, hn⟩ : ∃ n, n = f.code.length := ⟨_, rfl⟩
  rw [← hn] at hC hC' hl ⊢
  obtain ⟨b1, b2⟩ := two_boxes w #[.int .i64 f.params, .int .i64 f.regs, .int .i64 f.slots, .slice ca n cc] #[.int .i64 f.params, .int .i64 f.regs, .int .i64 f.slots, .slice ca' n cc'] 41 41
  have hk := keeps2 w (.cells #[.int .i64 f.params, .int .i64 f.regs, .int .i64 f.slots, .slice ca n cc] 41) (.cells #[.int .i64 f.params, .int .i64 f.regs, .int .i64 f.slots, .slice ca' n cc'] 41)
  obtain ⟨wa, hwa⟩ : ∃ wa, wa = (w.alloc (.cells #[.int .i64 f.params, .int .i64 f.regs, .int .i64 f.slots, .slice ca n cc] 41)).alloc (.cells #[.int .i64 f.params, .int .i64 f.regs, .int .i64 f.slots, .slice ca' n cc'] 41) := ⟨_, rfl⟩
  obtain ⟨B, hB⟩ : ∃ B, B = w.heap.size := ⟨_, rfl⟩
  rw [← hwa] at b1 b2 hk
  rw [← hB] at b1 b2
  have d0 := (cell_of_heap b1 0).trans rfl
  have d1 := (cell_of_heap b1 1).trans rfl
  have d2 := (cell_of_heap b1 2).trans rfl
  have d3 := (cell_of_heap b1 3).trans rfl
  have e0 := (cell_of_heap b2 0).trans rfl
  have e1 := (cell_of_heap b2 1).trans rfl
  have e2 := (cell_of_heap b2 2).trans rfl
  have e3 := (cell_of_heap b2 3).trans rfl
  have HC : Hid (SeenI wa ca n f.code ∧ SeenI wa ca' n code' ∧ Keeps None w wa ∧ wa.heap[B]? = some (.cells #[.int .i64 f.params, .int .i64 f.regs, .int .i64 f.slots, .slice ca n cc] 41 (0, 0)) ∧ wa.heap[B + 1]? = some (.cells #[.int .i64 f.params, .int .i64 f.regs, .int .i64 f.slots, .slice ca' n cc'] 41 (0, 0)) ∧ code' = f.code.map (bmI y)) := ⟨hC.more hk, hC'.more hk, hk, b1, b2, hc⟩
  clear hC hC' hk b1 b2 hn hc
  go_enter Tryd.func23, Tryd.ntmps23
  go_upto_region 1 with fail
  rw [← hwa, ← hB]
  clear hwa hB
  go_wp2_with fail
  clear d0 d1 d2 d3 e0 e1 e2 e3
  go_loopw [7] (fun s7 wr => ∃ k : Nat, k ≤ n ∧ s7 = .int .i64 k ∧ Keeps None wa wr) (fun i _ => n - (intOf i).toNat)
  case atStart => exact ⟨0, Nat.zero_le _, rfl, Keeps.refl _ _⟩
  case round =>
    obtain ⟨k, hk, rfl, hkp⟩ := hrel
    have d3 : wr.cell? ⟨B, 3, none⟩ = some (.slice ca n cc) := (cell_of_heap (blk_kept HC.out.2.2.2.1 hkp (fun f => f)) 3).trans rfl
    have e3 : wr.cell? ⟨B + 1, 3, none⟩ = some (.slice ca' n cc') := (cell_of_heap (blk_kept HC.out.2.2.2.2.1 hkp (fun f => f)) 3).trans rfl
    by_cases hkn : k < n
    · obtain ⟨b, off, x, rfl, hx, hat⟩ := (HC.out.1.more hkp).at hkn
      obtain ⟨b', off', x', rfl, hx', hat'⟩ := (HC.out.2.1.more hkp).at hkn
      rw [HC.out.2.2.2.2.2, List.getElem?_map, hx] at hx'
      have ex' : bmI y x = x' := Option.some.inj hx'
      subst ex'
      obtain ⟨y0, y1, y2, y3, y4⟩ := hat
      have i1 : (k : Int) < (n : Int) := by omega
      have HK : Hid (Keeps None wa wr) := hkp
      obtain ⟨N, hN⟩ : ∃ N, N = wr.heap.size := ⟨_, rfl⟩
      have hal := Keeps.alloc None wr (.cells #[.int .i64 x.kind, .int .i64 x.a, .int .i64 x.b, .int .i64 x.c, .int .i64 x.k] 43)
      have bN := heap_alloc_new wr (.cells #[.int .i64 x.kind, .int .i64 x.a, .int .i64 x.b, .int .i64 x.c, .int .i64 x.k] 43)
      obtain ⟨W1, hW1⟩ : ∃ W1, W1 = wr.alloc (.cells #[.int .i64 x.kind, .int .i64 x.a, .int .i64 x.b, .int .i64 x.c, .int .i64 x.k] 43) := ⟨_, rfl⟩
      rw [← hW1] at hal bN
      rw [← hN] at bN
      by_cases h5 : x.kind = 5
      · have exx : bmI y x = { x with b := wrap64 (x.b + y) } := if_pos h5
        rw [exx] at hat'
        have t5 : (x.kind == 5) = true := by simp [h5]
        have kS : Keeps (· = N) W1 (W1.setCell ⟨N, 2, none⟩ (.int .i64 (wrap64 (x.b + y)))) := Keeps.setCell (S := (· = N)) W1 (a := ⟨N, 2, none⟩) rfl _
        have c0 : W1.cell? ⟨N, 0, none⟩ = some (.int .i64 x.kind) := (blk_cell bN 0).trans rfl
        have c2 : W1.cell? ⟨N, 2, none⟩ = some (.int .i64 x.b) := (blk_cell bN 2).trans rfl
        have z2 := blk_free bN 2
        have HZ : Hid (Keeps None wr (W1.setCell ⟨N, 2, none⟩ (.int .i64 (wrap64 (x.b + y)))) ∧ (W1.setCell ⟨N, 2, none⟩ (.int .i64 (wrap64 (x.b + y)))).heap[N]? = some (.cells #[.int .i64 x.kind, .int .i64 x.a, .int .i64 (wrap64 (x.b + y)), .int .i64 x.c, .int .i64 x.k] 43 (0, 0)) ∧ InsAt wr b' (off' + k * 5) { x with b := wrap64 (x.b + y) } ∧ wr.cell? ⟨B + 1, 3, none⟩ = some (.slice (some ⟨b', off', none⟩) n cc')) := ⟨hal.trans kS (fun i e hi => by omega), blk_set bN _, hat', e3⟩
        clear hkp hx hx' hal bN kS hat' e3 exx h5
        go_upto_region 7 with fail
        rw [← hW1, ← hN]
        clear hW1 hN y0 y1 y2 y3 y4 d3
        go_upto_region 9 with fail
        clear c0 c2 z2
        generalize W1.setCell ⟨N, 2, none⟩ (.int .i64 (wrap64 (x.b + y))) = V at *
        obtain ⟨hkV, bV, hat', e3⟩ := HZ.out
        obtain ⟨u0, u1, u2, u3, u4⟩ := hat'
        generalize wrap64 (x.b + y) = bb at *
        have v0 : V.cell? ⟨N, 0, none⟩ = some (.int .i64 x.kind) := (blk_cell bV 0).trans rfl
        have v1 : V.cell? ⟨N, 1, none⟩ = some (.int .i64 x.a) := (blk_cell bV 1).trans rfl
        have v2 : V.cell? ⟨N, 2, none⟩ = some (.int .i64 bb) := (blk_cell bV 2).trans rfl
        have v3 : V.cell? ⟨N, 3, none⟩ = some (.int .i64 x.c) := (blk_cell bV 3).trans rfl
        have v4 : V.cell? ⟨N, 4, none⟩ = some (.int .i64 x.k) := (blk_cell bV 4).trans rfl
        have e3' := hkV.cell e3 (fun f => f)
        have u0' := hkV.cell u0 (fun f => f)
        have u1' := hkV.cell u1 (fun f => f)
        have u2' := hkV.cell u2 (fun f => f)
        have u3' := hkV.cell u3 (fun f => f)
        have u4' := hkV.cell u4 (fun f => f)
        have hne := neqIns' x.kind x.a bb x.c x.k
        have HV : Hid (Keeps None wr V) := hkV
        clear hkV bV e3 u0 u1 u2 u3 u4 HZ
        go_quiet (fail)
        go_wp2_with fail
        exact ⟨⟨k + 1, by omega, by simp, (HK.out.trans HV.out (fun _ f _ => f)).trans (Keeps.drewN None _ _) (fun _ f _ => f)⟩, by simp [intOf]; omega⟩
      · have exx : bmI y x = x := if_neg h5
        rw [exx] at hat'
        have t5 : (x.kind == 5) = false := by simp [h5]
        have v0 : W1.cell? ⟨N, 0, none⟩ = some (.int .i64 x.kind) := (blk_cell bN 0).trans rfl
        have v1 : W1.cell? ⟨N, 1, none⟩ = some (.int .i64 x.a) := (blk_cell bN 1).trans rfl
        have v2 : W1.cell? ⟨N, 2, none⟩ = some (.int .i64 x.b) := (blk_cell bN 2).trans rfl
        have v3 : W1.cell? ⟨N, 3, none⟩ = some (.int .i64 x.c) := (blk_cell bN 3).trans rfl
        have v4 : W1.cell? ⟨N, 4, none⟩ = some (.int .i64 x.k) := (blk_cell bN 4).trans rfl
        obtain ⟨u0, u1, u2, u3, u4⟩ := hat'
        have e3' := hal.cell e3 (fun f => f)
        have u0' := hal.cell u0 (fun f => f)
        have u1' := hal.cell u1 (fun f => f)
        have u2' := hal.cell u2 (fun f => f)
        have u3' := hal.cell u3 (fun f => f)
        have u4' := hal.cell u4 (fun f => f)
        have hne := neqIns' x.kind x.a x.b x.c x.k
        have HV : Hid (Keeps None wr W1) := hal
        clear hkp hx hx' hal bN u0 u1 u2 u3 u4 e3 exx h5
        go_upto_region 7 with fail
        rw [← hW1, ← hN]
        clear hW1 hN y0 y1 y2 y3 y4 d3
        go_upto_region 9 with fail
        go_quiet (fail)
        go_wp2_with fail
        exact ⟨⟨k + 1, by omega, by simp, (HK.out.trans HV.out (fun _ f _ => f)).trans (Keeps.drewN None _ _) (fun _ f _ => f)⟩, by simp [intOf]; omega⟩
    · have i1 : ¬ ((k : Int) < (n : Int)) := by omega
      have HK : Hid (Keeps None wa wr) := hkp
      clear hkp
      go_wp2_with fail
      go_ret
      exact ⟨rfl, HC.out.2.2.1.trans HK.out (fun _ f _ => f)⟩
theorem bm_zero {l : List Ins} (h : ∀ i ∈ l, i.Ok) : l = l.map (bmI 0) := by
  induction l with
  | nil => rfl
  | cons x l ih =>
    have hx := (h x (by simp)).b
    rw [List.map_cons, ← ih (fun i hi => h i (by simp [hi]))]
    congr 1
    unfold bmI
    split
    · have : wrap64 (x.b + 0) = x.b := by unfold okI at hx; unfold wrap64; omega
      rw [this]
    · rfl
set_option maxHeartbeats 2000000 in
theorem whole_any (a : Option Addr) (n c : Nat) (a' : Option Addr) (c' : Nat) (l : List Fn) (w : World) (hS : SeenF w a n l) (hS' : SeenF w a' n l) (hok : ∀ f ∈ l, f.Ok) (hl : ∀ f ∈ l, f.code.length ≤ 4611686018427387904) (hn : n ≤ 4611686018427387904) :
    Calls Tryd.prog 11 #[.agg #[.slice a n c], .agg #[.slice a' n c']] w fun e w' => e = .returned (.bool true) ∧ Keeps None w w' := by
  obtain ⟨b1, b2⟩ := two_boxes w #[.slice a n c] #[.slice a' n c'] 24 24
  have hk := keeps2 w (.cells #[.slice a n c] 24) (.cells #[.slice a' n c'] 24)
  obtain ⟨wa, hwa⟩ : ∃ wa, wa = (w.alloc (.cells #[.slice a n c] 24)).alloc (.cells #[.slice a' n c'] 24) := ⟨_, rfl⟩
  obtain ⟨B, hB⟩ : ∃ B, B = w.heap.size := ⟨_, rfl⟩
  rw [← hwa] at b1 b2 hk
  rw [← hB] at b1 b2
  have d0 := (cell_of_heap b1 0).trans rfl
  have e0 := (cell_of_heap b2 0).trans rfl
  have HC : Hid (SeenF wa a n l ∧ SeenF wa a' n l ∧ Keeps None w wa ∧ wa.heap[B]? = some (.cells #[.slice a n c] 24 (0, 0)) ∧ wa.heap[B + 1]? = some (.cells #[.slice a' n c'] 24 (0, 0)) ∧ (∀ f ∈ l, f.code.length ≤ 4611686018427387904) ∧ ∀ f ∈ l, f.Ok) := ⟨hS.more hk, hS'.more hk, hk, b1, b2, hl, hok⟩
  clear hS hS' hk b1 b2 hl hok
  go_enter Tryd.func11, Tryd.ntmps11
  go_upto_region 1 with fail
  rw [← hwa, ← hB]
  clear hwa hB
  go_wp2_with fail
  clear d0 e0
  go_loopw [5] (fun s5 wr => ∃ k : Nat, k ≤ n ∧ s5 = .int .i64 k ∧ Keeps None wa wr) (fun i _ => n - (intOf i).toNat)
  case atStart => exact ⟨0, Nat.zero_le _, rfl, Keeps.refl _ _⟩
  case round =>
    obtain ⟨k, hk, rfl, hkp⟩ := hrel
    have d0 : wr.cell? ⟨B, 0, none⟩ = some (.slice a n c) := (cell_of_heap (blk_kept HC.out.2.2.2.1 hkp (fun f => f)) 0).trans rfl
    have e0 : wr.cell? ⟨B + 1, 0, none⟩ = some (.slice a' n c') := (cell_of_heap (blk_kept HC.out.2.2.2.2.1 hkp (fun f => f)) 0).trans rfl
    by_cases hkn : k < n
    · obtain ⟨b, off, f, ca, cc, rfl, hf, hat⟩ := (HC.out.1.more hkp).at hkn
      obtain ⟨b', off', f', ca', cc', rfl, hf', hat'⟩ := (HC.out.2.1.more hkp).at hkn
      rw [hf] at hf'
      obtain rfl := Option.some.inj hf'
      have i1 : (k : Int) < (n : Int) := by omega
      have hdr := Keeps.drew None wr
      have hsf := sameFunc_any f f.code 0 ca cc ca' cc' wr.drew (hat.seen.more hdr) (hat'.seen.more hdr) (bm_zero (HC.out.2.2.2.2.2.2 f (List.mem_of_getElem? hf)).code) (HC.out.2.2.2.2.2.1 f (List.mem_of_getElem? hf))
      unfold fnV at hsf
      obtain ⟨y0, y1, y2, y3, -⟩ := hat
      obtain ⟨u0, u1, u2, u3, -⟩ := hat'
      have HK : Hid (Keeps None wa wr) := hkp
      obtain ⟨m, hm⟩ : ∃ m, m = f.code.length := ⟨_, rfl⟩
      rw [← hm] at hsf y3 u3
      clear hkp hf hm hdr
      go_upto_region 6 with fail
      go_cut [31] (fun s31 wx => s31 = .bool false ∧ Keeps None wr wx)
      case first =>
        go_region_held3 (fun w' => w'.cell? ⟨B, 0, none⟩ = some (.slice (some ⟨b, off, none⟩) n c) ∧ w'.cell? ⟨B + 1, 0, none⟩ = some (.slice (some ⟨b', off', none⟩) n c') ∧ w'.cell? ⟨b, off + k * 4, none⟩ = some (.int .i64 f.params) ∧ w'.cell? ⟨b, off + k * 4 + 1, none⟩ = some (.int .i64 f.regs) ∧ w'.cell? ⟨b, off + k * 4 + 2, none⟩ = some (.int .i64 f.slots) ∧ w'.cell? ⟨b, off + k * 4 + 3, none⟩ = some (.slice ca m cc) ∧ w'.cell? ⟨b', off' + k * 4, none⟩ = some (.int .i64 f.params) ∧ w'.cell? ⟨b', off' + k * 4 + 1, none⟩ = some (.int .i64 f.regs) ∧ w'.cell? ⟨b', off' + k * 4 + 2, none⟩ = some (.int .i64 f.slots) ∧ w'.cell? ⟨b', off' + k * 4 + 3, none⟩ = some (.slice ca' m cc')) (first | with_reducible exact hs2 | go_keep) (first
          | (go_at_call 23; refine hsf.mono ?_; rintro _ w2 ⟨rfl, hk2⟩; have hs2 := And.intro (hk2.cell d0 (fun f => f)) (And.intro (hk2.cell e0 (fun f => f)) (And.intro (hk2.cell y0 (fun f => f)) (And.intro (hk2.cell y1 (fun f => f)) (And.intro (hk2.cell y2 (fun f => f)) (And.intro (hk2.cell y3 (fun f => f)) (And.intro (hk2.cell u0 (fun f => f)) (And.intro (hk2.cell u1 (fun f => f)) (And.intro (hk2.cell u2 (fun f => f)) (hk2.cell u3 (fun f => f)))))))))))
        )
        all_goals (go_wp2_with fail; go_meet)
        all_goals exact ⟨rfl, (Keeps.drew None wr).trans hk2 (fun _ f _ => f)⟩
      case rest =>
        obtain ⟨rfl, hk2⟩ := hcut
        have HK2 : Hid (Keeps None wr wc) := hk2
        clear hk2
        go_wp2_with fail
        exact ⟨⟨k + 1, by omega, by simp, HK.out.trans HK2.out (fun _ f _ => f)⟩, by simp [intOf]; omega⟩
    · have i1 : ¬ ((k : Int) < (n : Int)) := by omega
      have HK : Hid (Keeps None wa wr) := hkp
      clear hkp
      go_wp2_with fail
      go_ret
      exact ⟨rfl, HC.out.2.2.1.trans HK.out (fun _ f _ => f)⟩
end Go.Proofs.YtiibflbfnoddmaaDoor
/-! Programs that are written out, in memory. -/
namespace Go.Proofs.YtiibflbfnoddmaaDoor
set_option linter.unusedVariables false
set_option maxRecDepth 20000
open Go.RowKit Go.HeapKit

def codeC (l : List Ins) : List Value := l.flatMap insCells
theorem codeC_at (l : List Ins) (k : Nat) (i : Ins) (h : l[k]? = some i) (j : Nat) (v : Value) (hj : (insCells i)[j]? = some v) : (codeC l)[k * 5 + j]? = some v := by
  have hj5 : j < 5 := (List.getElem?_eq_some_iff.1 hj).1
  induction l generalizing k with
  | nil => simp at h
  | cons z l ih =>
    have e : codeC (z :: l) = insCells z ++ codeC l := rfl
    have hz : (insCells z).length = 5 := rfl
    rw [e]
    cases k with
    | zero =>
      simp at h
      subst h
      rw [List.getElem?_append_left (by omega), Nat.zero_mul, Nat.zero_add]
      exact hj
    | succ k =>
      rw [List.getElem?_append_right (by omega), show (k + 1) * 5 + j - (insCells z).length = k * 5 + j by omega]
      exact ih k (by simpa using h)
theorem seen_code {w : World} {g : Nat} {l : List Ins} {t : TypeId} {z : Nat × Nat} (hb : w.heap[g]? = some (.cells (codeC l).toArray t z)) : SeenI w (some ⟨g, 0, none⟩) l.length l := by
  refine ⟨rfl, fun _ => ⟨g, 0, rfl, blk_lt hb, fun k i hi => ?_⟩⟩
  have hc : ∀ j v, (insCells i)[j]? = some v → w.cell? ⟨g, 0 + k * 5 + j, none⟩ = some v := fun j v hv => by
    rw [blk_cell hb, Nat.zero_add]
    simpa using codeC_at l k i hi j v hv
  exact ⟨hc 0 _ rfl, hc 1 _ rfl, hc 2 _ rfl, hc 3 _ rfl, hc 4 _ rfl⟩
theorem seen_one {w : World} {g h : Nat} {f : Fn} {t t2 : TypeId} {z z2 : Nat × Nat} {cc : Nat} (hb : w.heap[g]? = some (.cells (codeC f.code).toArray t z)) (hc : w.heap[h]? = some (.cells #[.int .i64 f.params, .int .i64 f.regs, .int .i64 f.slots, .slice (some ⟨g, 0, none⟩) f.code.length cc] t2 z2)) : SeenF w (some ⟨h, 0, none⟩) 1 [f] := by
  refine ⟨rfl, fun _ => ⟨_, 0, rfl, blk_lt hc, fun k f' hf => ?_⟩⟩
  cases k with
  | succ k => simp at hf
  | zero =>
    simp at hf
    subst hf
    exact ⟨_, cc, ⟨(cell_of_heap hc 0).trans rfl, (cell_of_heap hc 1).trans rfl, (cell_of_heap hc 2).trans rfl, (cell_of_heap hc 3).trans rfl, seen_code hb⟩⟩
end Go.Proofs.YtiibflbfnoddmaaDoor
