import Derived.Test.YtoehkjfdaolcnaaDoorPkAU
import Derived.OwnWalk
import Derived.Deep.Cut
import Derived.WalkMore
import Derived.Test.YtoehkjfdaolcnaaDoorPkAT
import Derived.Deep.QuietTactic
import Derived.BigQuiet
import Derived.Laws.StructEq
/-! A program copied. -/
namespace Go.Proofs.YtoehkjfdaolcnaaDoor
set_option linter.unusedVariables false
set_option maxRecDepth 20000
open Go.RowKit Go.HeapKit

theorem flat4_at (R : List (List Value)) (h : ∀ r ∈ R, r.length = 4) (k : Nat) (x : List Value) (hx : R[k]? = some x) (j : Nat) (hj : j < 4) : R.flatten[k * 4 + j]? = x[j]? := by
  induction R generalizing k with
  | nil => simp at hx
  | cons y R ih =>
    have hy := h y (List.mem_cons_self ..)
    rw [List.flatten_cons]
    cases k with
    | zero =>
      simp at hx
      subst hx
      rw [List.getElem?_append_left (by omega), Nat.zero_mul, Nat.zero_add]
    | succ k =>
      rw [List.getElem?_append_right (by omega), show (k + 1) * 4 + j - y.length = k * 4 + j by omega]
      exact ih (fun r hr => h r (List.mem_cons_of_mem _ hr)) k (by simpa using hx)
theorem Tryd.infoFn : (Tryd.prog.info? 37).map (fun i => (i.zero, i.size, i.bytes)) = some (some (.agg #[.int .i64 0, .int .i64 0, .int .i64 0, .slice none 0 0]), 4, 48) := by kernel_rfl
theorem zip_at {α β γ : Type} (f : α → β → γ) (l : List α) (m : List β) (k : Nat) (a : α) (b : β) (ha : l[k]? = some a) (hb : m[k]? = some b) : (List.zipWith f l m)[k]? = some (f a b) := by
  rw [List.getElem?_zipWith, ha, hb]
theorem take_snoc {α : Type} (l : List α) (k : Nat) (x : α) (hx : l[k]? = some x) : l.take (k + 1) = l.take k ++ [x] := by rw [List.take_add_one, hx]; rfl
abbrev At := Option Addr × Nat
def At.blk (t : At) : Option Nat := (Value.slice t.1 0 0).ownBlock
def tfCells (f : Fn) (t : At) : List Value := [.int .i64 f.params, .int .i64 f.regs, .int .i64 f.slots, .slice t.1 f.code.length t.2]
theorem fn_append (v : Value) (R : List (List Value)) (p r s x : Value) (n g ty : Nat) (w : World) (hn : n = R.length) (h1 : p.oneCell' = true ∧ r.oneCell' = true ∧ s.oneCell' = true ∧ x.oneCell' = true) (h : w.ownsRow 0 37 4 v n R.flatten) (hlen : (n + 1) * 48 ≤ 140737488355328)
    (hg : w.heap[g]? = some (.cells #[p, r, s, x] 37 (0, 0))) :
    ∃ b cap w', (Builtin.append_ #[22, 22] ty #[v, .slice (some ⟨g, 0, none⟩) 1 1]).run Tryd.prog w = .ok (.slice (some ⟨b, 0, none⟩) (n + 1) cap) w' ∧
      w'.ownsRow 0 37 4 (.slice (some ⟨b, 0, none⟩) (n + 1) cap) (n + 1) (R ++ [[p, r, s, x]]).flatten ∧ Keeps (fun k => v.ownBlock = some k) w w' ∧ (v.ownBlock = some b ∨ w.heap.size ≤ b) := by
  obtain ⟨i0, hi, hz0, hz1, hz2⟩ := info_parts Tryd.infoFn
  obtain ⟨v', w', hr, ho, hgr, hm, -⟩ := run_append_moved (P := Tryd.prog) w 0 22 ty 37 i0 _ 4 48 Tryd.underlying22 hi hz0 hz1 hz2 rfl (by decide) v n R.flatten h
    ⟨g, 0, none⟩ 1 1 [p, r, s, x] rfl (by
      intro j u hu
      rw [show (⟨g, 0, none⟩ : Addr).add j = ⟨g, j, none⟩ by unfold Addr.add; split <;> simp_all, blk_cell hg]
      simpa using hu) (by
      intro u hu
      simp at hu
      obtain ⟨q1, q2, q3, q4⟩ := h1
      rcases hu with rfl | rfl | rfl | rfl
      · exact q1
      · exact q2
      · exact q3
      · exact q4) (by unfold maxLen; omega) (by omega) (Nat.zero_le _)
  have e : (R ++ [[p, r, s, x]]).flatten = R.flatten ++ [p, r, s, x] := by simp
  rw [e]
  rcases ho.2 with ⟨_, h0⟩ | ⟨b, cap, cur, rfl, _⟩
  · omega
  · refine ⟨b, cap, w', hr, ho, (Keeps.refl _ w).andGrown hgr (fun k e => .inl e), ?_⟩
    rcases hm with hm | ⟨g', e, hg⟩
    · exact .inl (hm.symm.trans rfl)
    · simp [Value.ownBlock] at e; exact .inr (by omega)
structure Ta (w wr : World) (B : Nat) (pv : Value) (l : List Fn) (k : Nat) (qv : Value) (tv : List At) : Prop where
  keep : Keeps None w wr
  box : wr.heap[B]? = some (.cells #[pv] 24 (0, 0))
  res : wr.heap[B + 1]? = some (.cells #[.slice none 0 0] 24 (0, 0))
  qb : wr.heap[B + 2]? = some (.cells #[qv] 24 (0, 0))
  row : wr.ownsRow 0 37 4 qv k (List.zipWith tfCells (l.take k) tv).flatten
  code : ∀ (i : Nat) (f : Fn) (t : At), (l.take k)[i]? = some f → tv[i]? = some t → wr.ownsRow 0 39 5 (.slice t.1 f.code.length t.2) f.code.length (insVals f.code)
  len : tv.length = k
  low : ∀ g, qv.ownBlock = some g → w.heap.size ≤ g
  hB : w.heap.size ≤ B
  cl : ∀ (i : Nat) (t : At) (g : Nat), tv[i]? = some t → t.blk = some g → w.heap.size ≤ g ∧ g < wr.heap.size
  nd : ∀ (i j : Nat) (t u : At) (g : Nat), tv[i]? = some t → tv[j]? = some u → t.blk = some g → u.blk = some g → i = j
theorem Ta.more {w wr w' : World} {B : Nat} {pv : Value} {l : List Fn} {k : Nat} {qv : Value} {tv : List At} (h : Ta w wr B pv l k qv tv) (hk : Keeps None wr w') : Ta w w' B pv l k qv tv :=
  ⟨h.keep.trans hk (fun _ f _ => f), blk_kept h.box hk (fun f => f), blk_kept h.res hk (fun f => f), blk_kept h.qb hk (fun f => f), hk.own h.row (fun _ _ f => f), fun i f t hf ht => hk.own (h.code i f t hf ht) (fun _ _ f => f), h.len, h.low, h.hB, fun i t g ht hg => ⟨(h.cl i t g ht hg).1, Nat.lt_of_lt_of_le (h.cl i t g ht hg).2 hk.size⟩, h.nd⟩
theorem Ta.next {w wr w2 : World} {B : Nat} {pv : Value} {l : List Fn} {k : Nat} {qv : Value} {tv : List At} {f : Fn} {t : At} {b cap : Nat} (h : Ta w wr B pv l k qv tv) (hf : l[k]? = some f) (hC : wr.ownsRow 0 39 5 (.slice t.1 f.code.length t.2) f.code.length (insVals f.code))
    (hk2 : Keeps (fun k => qv.ownBlock = some k) wr w2) (ho2 : w2.ownsRow 0 37 4 (.slice (some ⟨b, 0, none⟩) (k + 1) cap) (k + 1) (List.zipWith tfCells (l.take k) tv ++ [tfCells f t]).flatten) (hg2 : qv.ownBlock = some b ∨ wr.heap.size ≤ b) {H : Nat} (hold : ∀ (i : Nat) (u : At) (g : Nat), tv[i]? = some u → u.blk = some g → g < H) (hnew : ∀ g, t.blk = some g → w.heap.size ≤ g ∧ H ≤ g ∧ g < wr.heap.size) :
    w2.cell? ⟨B + 2, 0, none⟩ = some qv ∧ w2.frozen? ⟨B + 2, 0, none⟩ = false ∧ Ta w (w2.setCell ⟨B + 2, 0, none⟩ (.slice (some ⟨b, 0, none⟩) (k + 1) cap)) B pv l (k + 1) (.slice (some ⟨b, 0, none⟩) (k + 1) cap) (tv ++ [t]) := by
  have hlk := (List.getElem?_eq_some_iff.1 hf).1
  have ht : (l.take k).length = k := by simp; omega
  have hfun : ∀ {c : Array Value} {T : TypeId} {p : Nat}, T ≠ 37 → wr.heap[p]? = some (.cells c T (0, 0)) → ¬ qv.ownBlock = some p := fun hT hp e => hT ((own_type h.row e hp).symm ▸ rfl)
  have qb2 := blk_kept h.qb hk2 (hfun (by decide) h.qb)
  have kS : Keeps (· = B + 2) w2 (w2.setCell ⟨B + 2, 0, none⟩ (.slice (some ⟨b, 0, none⟩) (k + 1) cap)) := Keeps.setCell (S := (· = B + 2)) w2 rfl _
  have hbB : b ≠ B + 2 := by
    rintro rfl
    have := own_type ho2 (g := B + 2) rfl qb2
    exact absurd this (by decide)
  have hB := h.hB
  have hcode : ∀ (v : Value) (m : Nat) (xs : List Value), wr.ownsRow 0 39 5 v m xs → (w2.setCell ⟨B + 2, 0, none⟩ (.slice (some ⟨b, 0, none⟩) (k + 1) cap)).ownsRow 0 39 5 v m xs := by
    intro v m xs hv
    have h1 := hk2.own hv (fun g e q => by
      obtain ⟨c, hc⟩ := own_block hv e
      exact hfun (by decide) hc q)
    exact kS.own h1 (fun g e q => absurd (own_type h1 e (q ▸ qb2)) (by decide))
  refine ⟨(blk_cell qb2 0).trans rfl, blk_free qb2 0, ⟨(h.keep.trans hk2 (fun i e hi => by have := h.low i e; omega)).trans kS (fun i e hi => by omega), blk_kept (blk_kept h.box hk2 (hfun (by decide) h.box)) kS (by omega), blk_kept (blk_kept h.res hk2 (hfun (by decide) h.res)) kS (by omega), by rw [blk_set qb2]; rfl, ?_, ?_, ?_, ?_, h.hB, ?_, ?_⟩⟩
  · have e : List.zipWith tfCells (l.take (k + 1)) (tv ++ [t]) = List.zipWith tfCells (l.take k) tv ++ [tfCells f t] := by
      rw [take_snoc l k f hf, List.zipWith_append (by rw [h.len, ht])]
      simp
    rw [e]
    exact kS.own ho2 (fun g e q => by simp [Value.ownBlock] at e; exact hbB (e.trans q))
  · intro i f' t' hi hc
    rw [take_snoc l k f hf] at hi
    by_cases hik : i < k
    · rw [List.getElem?_append_left (by omega)] at hi
      rw [List.getElem?_append_left (by rw [h.len]; omega)] at hc
      exact hcode _ _ _ (h.code i f' t' hi hc)
    · have hlt := (List.getElem?_eq_some_iff.1 hi).1
      simp only [List.length_append, ht, List.length_cons, List.length_nil] at hlt
      obtain rfl : i = k := by omega
      rw [List.getElem?_append_right (by omega), ht, Nat.sub_self] at hi
      rw [List.getElem?_append_right (by rw [h.len]; omega), h.len, Nat.sub_self] at hc
      simp at hi hc
      subst hi hc
      exact hcode _ _ _ hC
  · rw [List.length_append, h.len]; rfl
  · intro g e
    simp [Value.ownBlock] at e
    subst e
    rcases hg2 with r | r
    · exact h.low _ r
    · have := h.keep.size; omega
  · intro i u g hi hg
    have hsz : wr.heap.size ≤ (w2.setCell ⟨B + 2, 0, none⟩ (.slice (some ⟨b, 0, none⟩) (k + 1) cap)).heap.size := Nat.le_trans hk2.size kS.size
    by_cases hik : i < tv.length
    · rw [List.getElem?_append_left hik] at hi
      exact ⟨(h.cl i u g hi hg).1, Nat.lt_of_lt_of_le (h.cl i u g hi hg).2 hsz⟩
    · rw [List.getElem?_append_right (by omega)] at hi
      have hlt := (List.getElem?_eq_some_iff.1 hi).1
      simp at hlt
      have e0 : i - tv.length = 0 := by omega
      rw [e0] at hi
      simp at hi
      subst hi
      exact ⟨(hnew g hg).1, Nat.lt_of_lt_of_le (hnew g hg).2.2 hsz⟩
  · intro i j u v g hi hj hu hv
    have tell : ∀ (i : Nat) (u : At), (tv ++ [t])[i]? = some u → (i < tv.length ∧ tv[i]? = some u) ∨ (i = tv.length ∧ u = t) := fun i u hi => by
      by_cases hik : i < tv.length
      · rw [List.getElem?_append_left hik] at hi
        exact .inl ⟨hik, hi⟩
      · rw [List.getElem?_append_right (by omega)] at hi
        have hlt := (List.getElem?_eq_some_iff.1 hi).1
        simp at hlt
        have e0 : i - tv.length = 0 := by omega
        rw [e0] at hi
        simp at hi
        exact .inr ⟨by omega, hi.symm⟩
    rcases tell i u hi with ⟨h1, h1'⟩ | ⟨h1, h1'⟩
    · rcases tell j v hj with ⟨h2, h2'⟩ | ⟨h2, h2'⟩
      · exact h.nd i j u v g h1' h2' hu hv
      · subst h2'
        have a1 := hold i u g h1' hu
        have a2 := hnew g hv
        omega
    · rcases tell j v hj with ⟨h2, h2'⟩ | ⟨h2, h2'⟩
      · subst h1'
        have a1 := hold j v g h2' hv
        have a2 := hnew g hu
        omega
      · omega
theorem codes_copied_nil (g c : Nat) (w : World) (ty : TypeId) : (Builtin.append_ #[35, 35] ty #[.slice (some ⟨g, 0, none⟩) 0 0, .slice none 0 c]).run Tryd.prog w = .ok (.slice (some ⟨g, 0, none⟩) 0 0) w := by
  obtain ⟨i0, hi, hz0, hz1, hz2⟩ := info_parts Tryd.infoIns
  simp [Builtin.append_, run_underlying Tryd.underlying35, sizeOf, typeInfo, zeroValue, hi, hz0, Builtin.lenOf, Builtin.firstCells, storeCells]
theorem rows_seen {wr : World} {l : List Fn} {k : Nat} {qv : Value} {tv : List At} (hrow0 : wr.ownsRow 0 37 4 qv k (List.zipWith tfCells (l.take k) tv).flatten) (hcode : ∀ (i : Nat) (f : Fn) (t : At), (l.take k)[i]? = some f → tv[i]? = some t → wr.ownsRow 0 39 5 (.slice t.1 f.code.length t.2) f.code.length (insVals f.code)) (hlen : tv.length = k) (hk : k = l.length) : ∃ a c, qv = .slice a k c ∧ SeenF wr a k l := by
  have hlt : l.take k = l := List.take_of_length_le (by omega)
  have hrow := hrow0
  rw [hlt] at hrow
  have four : ∀ r ∈ List.zipWith tfCells l tv, r.length = 4 := fun r hr => by
    obtain ⟨i, hi, rfl⟩ := List.mem_iff_getElem.1 hr
    rw [List.getElem_zipWith]
    rfl
  rcases hrow.2 with ⟨rfl, h0⟩ | ⟨g, cap, cur, rfl, hb, hg, hn, hm, hc, ht⟩
  · exact ⟨none, 0, by rw [h0], ⟨by omega, fun h => by omega⟩⟩
  · refine ⟨_, cap, rfl, ⟨by omega, fun _ => ⟨g, 0, rfl, blk_lt hg, fun i f hf => ?_⟩⟩⟩
    have hi := (List.getElem?_eq_some_iff.1 hf).1
    obtain ⟨t, hti⟩ : ∃ t, tv[i]? = some t := ⟨tv[i]'(by rw [hlen]; omega), by simp⟩
    have hz := zip_at tfCells l tv i f t hf hti
    have hcell : ∀ j, j < 4 → wr.cell? ⟨g, 0 + i * 4 + j, none⟩ = (tfCells f t)[j]? := fun j hj => by
      have h1 := flat4_at _ four i _ hz j hj
      rw [blk_cell hg, ← h1, ← ht, List.getElem?_take, if_pos (by omega), Nat.zero_add]
      simp
    have hcd := hcode i f t (by rw [hlt]; exact hf) hti
    obtain ⟨ca, cc, hv, hsn⟩ := codes_seen hcd
    injection hv with e1 e2 e3
    have q3 : wr.cell? ⟨g, 0 + i * 4 + 3, none⟩ = some (.slice t.1 f.code.length t.2) := hcell 3 (by omega)
    refine ⟨t.1, t.2, ⟨hcell 0 (by omega), hcell 1 (by omega), hcell 2 (by omega), q3, by rw [e1]; exact hsn⟩⟩
theorem Ta.seen {w wr : World} {B : Nat} {pv : Value} {l : List Fn} {k : Nat} {qv : Value} {tv : List At} (h : Ta w wr B pv l k qv tv) (hk : k = l.length) : ∃ a c, qv = .slice a k c ∧ SeenF wr a k l := rows_seen h.row h.code h.len hk
theorem codes_copied (ca : Option Addr) (n c : Nat) (code : List Ins) (w : World) (ty : TypeId) (h : SeenI w ca n code) (hs : n * 40 ≤ 140737488351232) :
    ∃ v w', (Builtin.append_ #[35, 35] ty #[.slice (some ⟨w.heap.size, 0, none⟩) 0 0, .slice ca n c]).run Tryd.prog (w.alloc (.cells #[] 39)) = .ok v w' ∧
      w'.ownsRow 0 39 5 v n (insVals code) ∧ Keeps None w w' ∧ ∀ g, v.ownBlock = some g → w.heap.size ≤ g := by
  have hl := h.len
  have hal := Keeps.alloc None w (.cells #[] 39)
  have h2 := h.more hal
  have hrow : (w.alloc (.cells #[] 39)).ownsRow 0 39 5 (.slice (some ⟨w.heap.size, 0, none⟩) 0 0) 0 [] :=
    ⟨by simp, .inr ⟨w.heap.size, 0, #[], rfl, Nat.zero_le _, heap_alloc_new _ _, Nat.le_refl _, by unfold maxLen; omega, rfl, rfl⟩⟩
  cases ca with
  | none =>
    have hn : n = 0 := by
      rcases Nat.eq_zero_or_pos n with h0 | h0
      · exact h0
      · obtain ⟨b, off, e, _⟩ := h.ex h0
        cases e
    subst hn
    have hc0 : code = [] := List.eq_nil_of_length_eq_zero hl.symm
    subst hc0
    refine ⟨.slice (some ⟨w.heap.size, 0, none⟩) 0 0, w.alloc (.cells #[] 39), ?_, hrow, hal, fun g e => by simp [Value.ownBlock] at e; omega⟩
    exact codes_copied_nil _ c _ ty
  | some x =>
    obtain ⟨i0, hi, hz0, hz1, hz2⟩ := info_parts Tryd.infoIns
    obtain ⟨v', w1, hr, ho, hgr, hm, -⟩ := run_append_moved (P := Tryd.prog) (w.alloc (.cells #[] 39)) 0 35 ty 39 i0 _ 5 40 Tryd.underlying35 hi hz0 hz1 hz2 rfl (by decide) _ 0 _ hrow
      x n c (insVals code) (by rw [insVals_length]; omega) (by
        intro j u hu
        have hj : j < n * 5 := by have := (List.getElem?_eq_some_iff.1 hu).1; rw [insVals_length] at this; omega
        obtain ⟨b, off, e, _, hc⟩ := h2.ex (by omega)
        injection e with e
        subst e
        rw [show (⟨b, off, none⟩ : Addr).add j = ⟨b, off + j, none⟩ by unfold Addr.add; split <;> simp_all]
        have hlj : code[j / 5]? = some (code[j / 5]'(by omega)) := List.getElem?_eq_getElem _
        have hin := hc (j / 5) _ hlj
        have hjj : j = j / 5 * 5 + j % 5 := by omega
        have hm5 : j % 5 < 5 := Nat.mod_lt _ (by omega)
        obtain ⟨v0, hv0⟩ : ∃ v0, (insCells (code[j / 5]'(by omega)))[j % 5]? = some v0 := ⟨(insCells (code[j / 5]'(by omega)))[j % 5]'(by simpa [insCells] using hm5), by simp⟩
        have hat := insVals_at code (j / 5) _ hlj (j % 5) v0 hv0
        rw [← hjj] at hat
        rw [hat] at hu
        injection hu with hu
        subst hu
        have hq : off + j = off + j / 5 * 5 + j % 5 := by omega
        rw [hq]
        generalize j % 5 = r at hm5 hv0
        generalize code[j / 5]'(by omega) = ii at hin hv0
        match r, hm5 with
        | 0, _ => simp [insCells] at hv0; subst hv0; exact hin.kind
        | 1, _ => simp [insCells] at hv0; subst hv0; exact hin.a
        | 2, _ => simp [insCells] at hv0; subst hv0; exact hin.b
        | 3, _ => simp [insCells] at hv0; subst hv0; exact hin.c
        | 4, _ => simp [insCells] at hv0; subst hv0; exact hin.k) (by
        intro u hu
        simp only [insVals, List.mem_flatMap] at hu
        obtain ⟨y, _, hy⟩ := hu
        simp [insCells] at hy
        rcases hy with rfl | rfl | rfl | rfl | rfl <;> rfl) (by unfold maxLen; omega) (by omega) (Nat.zero_le _)
    rw [Nat.zero_add, List.nil_append] at ho
    refine ⟨v', w1, hr, ho, hal.andGrown hgr (fun k e => .inr (by simp [Value.ownBlock] at e; omega)), fun g e => ?_⟩
    rcases hm with hm | ⟨g', e', hg'⟩
    · rw [hm] at e; simp [Value.ownBlock] at e; omega
    · rw [e'] at e
      obtain rfl := Option.some.inj e
      simp at hg'
      omega
theorem ins_put (l : List Ins) (k : Nat) (x : Ins) (y : Int) (hk : l[k]? = some x) : (insVals l).set (k * 5 + 4) (.int .i64 y) = insVals (l.set k { x with k := y }) := by
  induction l generalizing k with
  | nil => simp at hk
  | cons z l ih =>
    have e : insVals (z :: l) = insCells z ++ insVals l := rfl
    have hz : (insCells z).length = 5 := rfl
    cases k with
    | zero =>
      simp at hk
      subst hk
      have e2 : insVals ((z :: l).set 0 { z with k := y }) = insCells { z with k := y } ++ insVals l := rfl
      rw [e, e2, Nat.zero_mul, Nat.zero_add, List.set_append_left _ _ (by omega)]
      rfl
    | succ k =>
      have e2 : insVals ((z :: l).set (k + 1) { x with k := y }) = insCells z ++ insVals (l.set k { x with k := y }) := rfl
      rw [e, e2, ← ih k (by simpa using hk), List.set_append_right _ _ (by omega), hz, show (k + 1) * 5 + 4 - 5 = k * 5 + 4 by omega]
/-- A program in memory of its own: no two of its lists share any. -/
structure Cp (base : Nat) (w : World) (l : List Fn) (qv : Value) (tv : List At) : Prop where
  row : w.ownsRow 0 37 4 qv l.length (List.zipWith tfCells l tv).flatten
  code : ∀ (i : Nat) (f : Fn) (t : At), l[i]? = some f → tv[i]? = some t → w.ownsRow 0 39 5 (.slice t.1 f.code.length t.2) f.code.length (insVals f.code)
  len : tv.length = l.length
  low : ∀ g, qv.ownBlock = some g → base ≤ g
  cl : ∀ (i : Nat) (t : At) (g : Nat), tv[i]? = some t → t.blk = some g → base ≤ g
  nd : ∀ (i j : Nat) (t u : At) (g : Nat), tv[i]? = some t → tv[j]? = some u → t.blk = some g → u.blk = some g → i = j
theorem At.blk_slice (a : Option Addr) (n c k : Nat) : (Value.slice a n c).ownBlock = At.blk (a, k) := by cases a <;> rfl
theorem Cp.more {base : Nat} {w w' : World} {l : List Fn} {qv : Value} {tv : List At} (h : Cp base w l qv tv) (hk : Keeps None w w') : Cp base w' l qv tv :=
  ⟨hk.own h.row (fun _ _ f => f), fun i f t hf ht => hk.own (h.code i f t hf ht) (fun _ _ f => f), h.len, h.low, h.cl, h.nd⟩
theorem Cp.kept {base : Nat} {w w' : World} {l : List Fn} {qv : Value} {tv : List At} {S : Nat → Prop} (h : Cp base w l qv tv) (hk : Keeps S w w') (hr : ∀ g, qv.ownBlock = some g → ¬ S g) (hc : ∀ (i : Nat) (t : At) (g : Nat), tv[i]? = some t → t.blk = some g → ¬ S g) : Cp base w' l qv tv :=
  ⟨hk.own h.row (fun g e => hr g e), fun i f t hf ht => hk.own (h.code i f t hf ht) (fun g e => hc i t g ht (by rw [← e]; exact (At.blk_slice _ _ _ _).symm)), h.len, h.low, h.cl, h.nd⟩
theorem Cp.seen {base : Nat} {w : World} {l : List Fn} {qv : Value} {tv : List At} (h : Cp base w l qv tv) : ∃ a c, qv = .slice a l.length c ∧ SeenF w a l.length l := by
  have e : l.take l.length = l := List.take_of_length_le (Nat.le_refl _)
  exact rows_seen (k := l.length) (by rw [e]; exact h.row) (fun i f t hf ht => h.code i f t (by rw [e] at hf; exact hf) ht) h.len rfl
/-- One constant of it is written over. -/
theorem Cp.put {base : Nat} {w : World} {l : List Fn} {qv : Value} {tv : List At} (h : Cp base w l qv tv) {i k : Nat} {f : Fn} {x : Ins} {t : At} (hf : l[i]? = some f) (hx : f.code[k]? = some x) (ht : tv[i]? = some t) (y : Int) :
    ∃ cb, t.1 = some ⟨cb, 0, none⟩ ∧ InsAt w cb (k * 5) x ∧ (∀ j, w.frozen? ⟨cb, j, none⟩ = false) ∧ Cp base (w.setCell ⟨cb, k * 5 + 4, none⟩ (.int .i64 y)) (l.set i { f with code := f.code.set k { x with k := y } }) qv tv ∧ Keeps (· = cb) w (w.setCell ⟨cb, k * 5 + 4, none⟩ (.int .i64 y)) ∧ base ≤ cb := by
  have hkl := (List.getElem?_eq_some_iff.1 hx).1
  have hil := (List.getElem?_eq_some_iff.1 hf).1
  have hown := h.code i f t hf ht
  rcases hown.2 with ⟨_, h0⟩ | ⟨g, cap, cur, he, hb0, hg, hnc, hcm, hcs, htk⟩
  · omega
  · have he2 := he
    injection he with e1 e2 e3
    have hL := insVals_length f.code
    have hblk : t.blk = some g := by unfold At.blk; rw [e1]; rfl
    have hcell : ∀ j v, (insCells x)[j]? = some v → w.cell? ⟨g, k * 5 + j, none⟩ = some v := fun j v hv => by
      have hj : j < 5 := by have := (List.getElem?_eq_some_iff.1 hv).1; simpa [insCells] using this
      have h1 := insVals_at f.code k x hx j v hv
      rw [← htk, List.getElem?_take, if_pos (by omega)] at h1
      rw [blk_cell hg, ← Array.getElem?_toList]
      exact h1
    have kS : Keeps (· = g) w (w.setCell ⟨g, k * 5 + 4, none⟩ (.int .i64 y)) := Keeps.setCell (S := (· = g)) w (a := ⟨g, k * 5 + 4, none⟩) rfl _
    refine ⟨g, e1, ⟨hcell 0 _ rfl, hcell 1 _ rfl, hcell 2 _ rfl, hcell 3 _ rfl, hcell 4 _ rfl⟩, fun j => blk_free hg j, ?_, kS, h.cl i t g ht hblk⟩
    have hz : List.zipWith tfCells (l.set i { f with code := f.code.set k { x with k := y } }) tv = List.zipWith tfCells l tv := by
      apply List.ext_getElem?
      intro j
      rw [List.getElem?_zipWith, List.getElem?_zipWith]
      by_cases hji : i = j
      · subst hji
        rw [List.getElem?_set_self hil, hf, ht]
        simp [tfCells]
      · rw [List.getElem?_set_ne hji]
    refine ⟨?_, ?_, by rw [List.length_set]; exact h.len, h.low, h.cl, h.nd⟩
    · rw [hz, List.length_set]
      exact kS.own h.row (fun q e hq => by subst hq; exact absurd (own_type h.row e hg) (by decide))
    · intro j f' t' hf' ht'
      by_cases hji : i = j
      · subst hji
        rw [List.getElem?_set_self hil] at hf'
        obtain rfl := Option.some.inj hf'
        rw [ht] at ht'
        obtain rfl := Option.some.inj ht'
        simp only [List.length_set]
        refine ⟨by rw [insVals_length, List.length_set], .inr ⟨g, cap, _, he2, hb0, blk_set hg _, hnc, hcm, by simpa using hcs, ?_⟩⟩
        rw [Array.toList_setIfInBounds, List.take_set, htk]
        exact ins_put f.code k x y hx
      · rw [List.getElem?_set_ne hji] at hf'
        refine kS.own (h.code j f' t' hf' ht') (fun q e hq => ?_)
        subst hq
        exact hji (h.nd i j t t' q ht ht' hblk (by rw [← e]; exact (At.blk_slice _ _ _ _).symm))
end Go.Proofs.YtoehkjfdaolcnaaDoor
/-! A program copied: the statements' own. -/
namespace Go.Proofs.YtoehkjfdaolcnaaDoor
set_option linter.unusedVariables false
set_option maxRecDepth 20000
open Go.RowKit Go.HeapKit

def CopiedPost (w : World) (l : List Fn) (n : Nat) (e : Ending) (w' : World) : Prop := ∃ a c, e = .returned (.agg #[.slice a n c]) ∧ SeenF w' a n l ∧ Keeps None w w'
def CopiedOwn (w : World) (l : List Fn) (n : Nat) (e : Ending) (w' : World) : Prop := ∃ a c tv, e = .returned (.agg #[.slice a n c]) ∧ Cp w.heap.size w' l (.slice a n c) tv ∧ Keeps None w w'
set_option maxHeartbeats 2000000 in
theorem copied_own (a : Option Addr) (n c : Nat) (l : List Fn) (w : World) (hS : SeenF w a n l) (hr : n * 48 ≤ 140737488351232) (hrc : ∀ f ∈ l, f.code.length * 40 ≤ 140737488351232) :
    Calls Tryd.prog 6 #[.agg #[.slice a n c]] w (CopiedOwn w l n) := by
  have hn := hS.len
  obtain ⟨B, hB⟩ : ∃ B, B = w.heap.size := ⟨_, rfl⟩
  obtain ⟨p1, p2⟩ := two_boxes w #[.slice a n c] #[.slice none 0 0] 24 24
  have hk2 := keeps2 w (.cells #[.slice a n c] 24) (.cells #[.slice none 0 0] 24)
  have s2 : ((w.alloc (.cells #[.slice a n c] 24)).alloc (.cells #[.slice none 0 0] 24)).heap.size = B + 2 := by rw [hB]; simp
  obtain ⟨w2, hw2⟩ : ∃ w2, w2 = (w.alloc (.cells #[.slice a n c] 24)).alloc (.cells #[.slice none 0 0] 24) := ⟨_, rfl⟩
  rw [← hw2] at p1 p2 hk2 s2
  rw [← hB] at p1 p2
  have hal := Keeps.alloc None w2 (.cells #[.slice none 0 0] 24)
  have p3 := heap_alloc_new w2 (.cells #[.slice none 0 0] 24)
  rw [s2] at p3
  have HS0 : Hid (Ta w (w2.alloc (.cells #[.slice none 0 0] 24)) B (.slice a n c) l 0 (.slice none 0 0) []) :=
    ⟨hk2.trans hal (fun _ f _ => f), blk_kept p1 hal (fun f => f), blk_kept p2 hal (fun f => f), p3, ⟨rfl, .inl ⟨rfl, rfl⟩⟩, fun i f t hf => by simp at hf, rfl, fun g e => by simp [Value.ownBlock] at e, by omega, fun i t g ht => by simp at ht, fun i j t u g ht => by simp at ht⟩
  have HC : Hid (SeenF w a n l ∧ n = l.length ∧ ∀ f ∈ l, f.code.length * 40 ≤ 140737488351232) := ⟨hS, hn, hrc⟩
  have hnb : (n : Int) ≤ 4611686018427387904 := by omega
  have HS2 : Hid _ := s2
  have HP : Hid (∀ e w', (∃ a c tv, e = .returned (.agg #[.slice a n c]) ∧ Cp w.heap.size w' l (.slice a n c) tv ∧ Keeps None w w') → CopiedOwn w l n e w') := fun e w' h => h
  clear hS hn hrc p1 p2 hk2 s2 hal p3
  go_enter Tryd.func6, Tryd.ntmps6
  go_upto_region 1 with fail
  rw [← hw2, ← hB]
  clear hw2 hB
  go_upto_region 2 with fail
  rw [HS2.out]
  generalize w2.alloc (.cells #[.slice none 0 0] 24) = W at *
  go_wp2_with fail
  go_loopw [4] (fun s4 wr => ∃ (k : Nat) (qv : Value) (tv : List At), k ≤ n ∧ s4 = .int .i64 k ∧ Ta w wr B (.slice a n c) l k qv tv) (fun i _ => n - (intOf i).toNat)
  case atStart => exact ⟨0, .slice none 0 0, [], Nat.zero_le _, rfl, HS0.out⟩
  case round =>
    obtain ⟨k, qv, tv, hk, rfl, hT⟩ := hrel
    have d0 : wr.cell? ⟨B, 0, none⟩ = some (.slice a n c) := (cell_of_heap hT.box 0).trans rfl
    by_cases hkn : k < n
    · obtain ⟨b, off, f, ca, cc, rfl, hf, hat⟩ := (HC.out.1.more hT.keep).at hkn
      obtain ⟨y0, y1, y2, y3, hsn⟩ := hat
      have i1 : (k : Int) < (n : Int) := by omega
      have hrf := HC.out.2.2 f (List.mem_of_getElem? hf)
      have HT : Hid (Ta w wr B (.slice (some ⟨b, off, none⟩) n c) l k qv tv ∧ l[k]? = some f) := ⟨hT, hf⟩
      obtain ⟨m, hm⟩ : ∃ m, m = f.code.length := ⟨_, rfl⟩
      rw [← hm] at y3 hsn hrf
      have HM : Hid _ := hm
      have hal := Keeps.alloc None wr (.cells #[.int .i64 f.params, .int .i64 f.regs, .int .i64 f.slots, .slice ca m cc] 37)
      have bF := heap_alloc_new wr (.cells #[.int .i64 f.params, .int .i64 f.regs, .int .i64 f.slots, .slice ca m cc] 37)
      obtain ⟨F, hF⟩ : ∃ F, F = wr.heap.size := ⟨_, rfl⟩
      obtain ⟨W1, hW1⟩ : ∃ W1, W1 = wr.alloc (.cells #[.int .i64 f.params, .int .i64 f.regs, .int .i64 f.slots, .slice ca m cc] 37) := ⟨_, rfl⟩
      rw [← hW1] at hal bF
      rw [← hF] at bF
      obtain ⟨cv, w5, hr5, ho5, hk5, hl5⟩ := codes_copied ca m cc f.code W1 35 (hsn.more hal) hrf
      obtain ⟨ca', cc', hcv⟩ : ∃ ca' cc', cv = .slice ca' m cc' := by
        have := codes_seen (by rw [← hm]; exact ho5)
        obtain ⟨x1, x2, e, _⟩ := this
        exact ⟨x1, x2, by rw [e, hm]⟩
      subst hcv
      have bF5 := blk_kept bF hk5 (fun f => f)
      have hFB : F ≠ B + 2 := by rw [hF]; have := blk_lt hT.qb; omega
      have kF : Keeps (· = F) w5 (w5.setCell ⟨F, 3, none⟩ (.slice ca' m cc')) := Keeps.setCell (S := (· = F)) w5 (a := ⟨F, 3, none⟩) rfl _
      have bF6 : (w5.setCell ⟨F, 3, none⟩ (.slice ca' m cc')).heap[F]? = some (.cells #[.int .i64 f.params, .int .i64 f.regs, .int .i64 f.slots, .slice ca' m cc'] 37 (0, 0)) := by rw [blk_set bF5]; rfl
      have kwF : Keeps None wr (w5.setCell ⟨F, 3, none⟩ (.slice ca' m cc')) := ((hal.trans hk5 (fun _ f _ => f)).trans kF (fun i e hi => by omega))
      have hT6 := hT.more kwF
      have hold : ∀ (i : Nat) (u : At) (g : Nat), tv[i]? = some u → u.blk = some g → g < wr.heap.size := fun i u g hu hg => (hT.cl i u g hu hg).2
      have hnewb : ∀ g, At.blk (ca', cc') = some g → w.heap.size ≤ g ∧ wr.heap.size ≤ g ∧ g < (w5.setCell ⟨F, 3, none⟩ (.slice ca' m cc')).heap.size := fun g hg => by
        have hg' : (Value.slice ca' m cc').ownBlock = some g := by rw [← hg]; cases ca' <;> rfl
        have h1 := hl5 g hg'
        have h2 := hal.size
        have h3 := hT.keep.size
        obtain ⟨cq, hq⟩ := own_block ho5 hg'
        have h4 := blk_lt hq
        have h5 := kF.size
        exact ⟨by omega, by omega, by omega⟩
      have HN : Hid ((∀ (i : Nat) (u : At) (g : Nat), tv[i]? = some u → u.blk = some g → g < wr.heap.size) ∧ ∀ g, At.blk (ca', cc') = some g → w.heap.size ≤ g ∧ wr.heap.size ≤ g ∧ g < (w5.setCell ⟨F, 3, none⟩ (.slice ca' m cc')).heap.size) := ⟨hold, hnewb⟩
      have ho6 := kF.own ho5 (fun g e q => absurd (own_type ho5 e (q ▸ bF5)) (by decide))
      have g3 : W1.cell? ⟨F, 3, none⟩ = some (.slice ca m cc) := (blk_cell bF 3).trans rfl
      have g3a := (Keeps.alloc None W1 (.cells #[] 39)).cell g3 (fun f => f)
      have g5 : w5.cell? ⟨F, 3, none⟩ = some (.slice ca m cc) := (blk_cell bF5 3).trans rfl
      have z5 := blk_free bF5 3
      have H6 : Hid (Ta w (w5.setCell ⟨F, 3, none⟩ (.slice ca' m cc')) B (.slice (some ⟨b, off, none⟩) n c) l k qv tv ∧ (w5.setCell ⟨F, 3, none⟩ (.slice ca' m cc')).ownsRow 0 39 5 (.slice ca' m cc') m (insVals f.code) ∧ (w5.setCell ⟨F, 3, none⟩ (.slice ca' m cc')).heap[F]? = some (.cells #[.int .i64 f.params, .int .i64 f.regs, .int .i64 f.slots, .slice ca' m cc'] 37 (0, 0))) := ⟨hT6, ho6, bF6⟩
      clear hT hf hsn hm hal bF bF5 kF bF6 kwF hT6 ho6 ho5 hk5 hl5 hrf hFB hold hnewb
      go_upto_region 6 with fail
      rw [← hW1, ← hF]
      clear hW1 hF y0 y1 y2 y3 d0
      go_upto_region 7 with (at_builtin; refine wpList_append_run rfl (.tmp 18) (.tmp 20) 35 35 rfl rfl rfl hr5 ?_)
      generalize w5.setCell ⟨F, 3, none⟩ (.slice ca' m cc') = V at *
      have q0 : V.cell? ⟨B + 2, 0, none⟩ = some qv := (cell_of_heap H6.out.1.qb 0).trans rfl
      have f0 : V.cell? ⟨F, 0, none⟩ = some (.int .i64 f.params) := (cell_of_heap H6.out.2.2 0).trans rfl
      have f1 : V.cell? ⟨F, 1, none⟩ = some (.int .i64 f.regs) := (cell_of_heap H6.out.2.2 1).trans rfl
      have f2 : V.cell? ⟨F, 2, none⟩ = some (.int .i64 f.slots) := (cell_of_heap H6.out.2.2 2).trans rfl
      have f3 : V.cell? ⟨F, 3, none⟩ = some (.slice ca' m cc') := (cell_of_heap H6.out.2.2 3).trans rfl
      have hal2 := Keeps.alloc None V (.cells #[.int .i64 f.params, .int .i64 f.regs, .int .i64 f.slots, .slice ca' m cc'] 37)
      have hT7 := H6.out.1.more hal2
      have ho7 := hal2.own H6.out.2.1 (fun _ _ f => f)
      have hln := HC.out.2.1
      have hcl : (l.take k).length = k := by simp; omega
      obtain ⟨b2, cap2, w7, hrn, hoo, hkk, hgg⟩ := fn_append qv (List.zipWith tfCells (l.take k) tv) (.int .i64 f.params) (.int .i64 f.regs) (.int .i64 f.slots) (.slice ca' m cc') k V.heap.size 22 (V.alloc (.cells #[.int .i64 f.params, .int .i64 f.regs, .int .i64 f.slots, .slice ca' m cc'] 37)) (by rw [List.length_zipWith, hcl, hT7.len]; omega) ⟨rfl, rfl, rfl, rfl⟩ hT7.row (by omega) (heap_alloc_new _ _)
      obtain ⟨u1, u2, hnx⟩ := hT7.next (t := (ca', cc')) HT.out.2 (by rw [← HM.out]; exact ho7) hkk (by unfold tfCells at *; rw [← HM.out]; exact hoo) hgg HN.out.1 (fun g hg => ⟨(HN.out.2 g hg).1, (HN.out.2 g hg).2.1, Nat.lt_of_lt_of_le (HN.out.2 g hg).2.2 hal2.size⟩)
      have HX : Hid _ := hnx
      clear hnx hT7 ho7 hal2 hoo hkk hgg hcl hln hr5 g3 g3a g5 z5
      go_wp2_with (at_builtin; refine wpList_append_run rfl (.tmp 24) (.tmp 26) 22 22 rfl rfl rfl hrn ?_)
      exact ⟨⟨k + 1, _, _, by omega, by simp, HX.out⟩, by simp [intOf]; omega⟩
    · have hkn2 : k = n := by omega
      subst hkn2
      have i1 : ¬ (k : Int) < (k : Int) := by omega
      obtain ⟨xa, xc, hqv, hsn⟩ := hT.seen HC.out.2.1
      subst hqv
      have q0 : wr.cell? ⟨B + 2, 0, none⟩ = some (.slice xa k xc) := (cell_of_heap hT.qb 0).trans rfl
      have r0 : wr.cell? ⟨B + 1, 0, none⟩ = some (.slice none 0 0) := (cell_of_heap hT.res 0).trans rfl
      have z0 := blk_free hT.res 0
      have kS : Keeps (· = B + 1) wr (wr.setCell ⟨B + 1, 0, none⟩ (.slice xa k xc)) := Keeps.setCell (S := (· = B + 1)) wr rfl _
      have rs := blk_set (i := 0) hT.res (.slice xa k xc)
      have htk : l.take k = l := List.take_of_length_le (by have := HC.out.2.1; omega)
      have hcp : Cp w.heap.size (wr.setCell ⟨B + 1, 0, none⟩ (.slice xa k xc)) l (.slice xa k xc) tv := by
        have hrow := hT.row
        rw [htk] at hrow
        have hcode := hT.code
        rw [htk] at hcode
        refine ⟨?_, fun i f t hf ht => ?_, by rw [hT.len]; exact HC.out.2.1, hT.low, fun i t g ht hg => (hT.cl i t g ht hg).1, hT.nd⟩
        · have h1 := kS.own hrow (fun g e q => absurd (own_type hrow e (q ▸ hT.res)) (by decide))
          have hq : k = l.length := HC.out.2.1
          generalize l.length = m at hq ⊢
          subst hq
          exact h1
        · exact kS.own (hcode i f t hf ht) (fun g e q => absurd (own_type (hcode i f t hf ht) e (q ▸ hT.res)) (by decide))
      have HQ : Hid (_ ∧ _ ∧ _) := And.intro rs (And.intro hcp (hT.keep.trans kS (fun i e hi => by have := hT.hB; omega)))
      clear hT hsn hcp kS rs htk
      go_wp2_with fail
      exact bodyPost_ret (results_one (q := 2) (ty := 24) rfl rfl (load_prog _ _ _ (.slice xa k xc) HQ.out.1)) rfl (HP.out _ _ ⟨xa, xc, tv, rfl, HQ.out.2.1, HQ.out.2.2⟩)
theorem copied_any (a : Option Addr) (n c : Nat) (l : List Fn) (w : World) (hS : SeenF w a n l) (hr : n * 48 ≤ 140737488351232) (hrc : ∀ f ∈ l, f.code.length * 40 ≤ 140737488351232) :
    Calls Tryd.prog 6 #[.agg #[.slice a n c]] w (CopiedPost w l n) := by
  refine (copied_own a n c l w hS hr hrc).mono ?_
  rintro e w' ⟨a', c', tv, he, hc, hk⟩
  obtain ⟨x, y, hq, hs⟩ := hc.seen
  injection hq with e1 e2 e3
  subst e1
  rw [← hS.len] at hs
  exact ⟨_, _, he, hs, hk⟩
end Go.Proofs.YtoehkjfdaolcnaaDoor
/-! The statements' own: two programs that are the same. (Laid out of RdSame.) -/
namespace Go.Proofs.YtoehkjfdaolcnaaDoor
set_option linter.unusedVariables false
set_option maxRecDepth 20000
open Go.RowKit Go.HeapKit
theorem eqFault (a b c : Int) (w : World) : (binOp .eql 28 (.agg #[.int .i64 a, .int .i64 b, .int .i64 c]) (.agg #[.int .i64 a, .int .i64 b, .int .i64 c])).run Tryd.prog w = .ok (.bool true) w := by
  have u3 := Tryd.underlying3
  have a3 := Tryd.isAgg3
  have z3 := Tryd.sizeOf3
  have u2 := Tryd.underlying2
  have a2 := Tryd.isAgg2
  have z2 := Tryd.sizeOf2
  have hS : Tryd.prog.underlying 28 = some (.struct (Tryd.prog.fieldsOf 28)) := by kernel_rfl
  have hp : Tryd.prog.stoodInHeld 28 = false := by kernel_rfl
  rw [run_eql_struct, show (10000 : Nat) = 9999 + 1 from rfl, run_equalIn_agg w 9999 28 _ _ hS hp]
  simp only [Program.fieldsOf, Tryd.underlying28]
  go_simp
theorem neqIns6 (a b c d e : Int) (w : World) : (binOp .neq 39 (.agg #[.int .i64 a, .int .i64 b, .int .i64 c, .int .i64 d, .int .i64 e]) (.agg #[.int .i64 a, .int .i64 b, .int .i64 c, .int .i64 d, .int .i64 e])).run Tryd.prog w = .ok (.bool false) w := by
  have u3 := Tryd.underlying3
  have a3 := Tryd.isAgg3
  have z3 := Tryd.sizeOf3
  have u2 := Tryd.underlying2
  have a2 := Tryd.isAgg2
  have z2 := Tryd.sizeOf2
  have hS : Tryd.prog.underlying 39 = some (.struct (Tryd.prog.fieldsOf 39)) := by kernel_rfl
  have hp : Tryd.prog.stoodInHeld 39 = false := by kernel_rfl
  rw [run_neq_struct, show (10000 : Nat) = 9999 + 1 from rfl, run_equalIn_agg w 9999 39 _ _ hS hp]
  simp only [Program.fieldsOf, Tryd.underlying39]
  go_simp
set_option maxHeartbeats 2000000 in
theorem same6_any (a : Option Addr) (n c : Nat) (a' : Option Addr) (c' : Nat) (l : List Fn) (w : World) (hS : SeenF w a n l) (hS' : SeenF w a' n l) (hn : n * 48 ≤ 140737488351232) (hrc : ∀ f ∈ l, f.code.length * 40 ≤ 140737488351232) :
    Calls Tryd.prog 9 #[.agg #[.slice a n c], .agg #[.slice a' n c']] w fun e w' => e = .returned (.bool true) ∧ Keeps None w w' := by
  obtain ⟨b1, b2⟩ := two_boxes w #[.slice a n c] #[.slice a' n c'] 24 24
  have hk := keeps2 w (.cells #[.slice a n c] 24) (.cells #[.slice a' n c'] 24)
  obtain ⟨wa, hwa⟩ : ∃ wa, wa = (w.alloc (.cells #[.slice a n c] 24)).alloc (.cells #[.slice a' n c'] 24) := ⟨_, rfl⟩
  obtain ⟨B, hB⟩ : ∃ B, B = w.heap.size := ⟨_, rfl⟩
  rw [← hwa] at b1 b2 hk
  rw [← hB] at b1 b2
  have d0 : wa.cell? ⟨B, 0, none⟩ = some (.slice a n c) := (blk_cell b1 0).trans rfl
  have e0 : wa.cell? ⟨B + 1, 0, none⟩ = some (.slice a' n c') := (blk_cell b2 0).trans rfl
  have HC : Hid (SeenF wa a n l ∧ SeenF wa a' n l ∧ Keeps None w wa ∧ wa.heap[B]? = some (.cells #[.slice a n c] 24 (0, 0)) ∧ wa.heap[B + 1]? = some (.cells #[.slice a' n c'] 24 (0, 0)) ∧ ∀ f ∈ l, f.code.length * 40 ≤ 140737488351232) := ⟨hS.more hk, hS'.more hk, hk, b1, b2, hrc⟩
  have hnb : (n : Int) ≤ 4611686018427387904 := by omega
  clear hS hS' hk b1 b2 hrc
  go_enter Tryd.func9, Tryd.ntmps9
  go_upto_region 1 with fail
  rw [← hwa, ← hB]
  clear hwa hB
  go_wp2_with fail
  clear d0 e0
  go_loopw [5] (fun s5 wr => ∃ k : Nat, k ≤ n ∧ s5 = .int .i64 k ∧ Keeps None wa wr) (fun i _ => n - (intOf i).toNat)
  case atStart => exact ⟨0, Nat.zero_le _, rfl, Keeps.refl _ _⟩
  case round =>
    obtain ⟨k, hk, rfl, hkp⟩ := hrel
    have d0 : wr.cell? ⟨B, 0, none⟩ = some (.slice a n c) := (blk_cell (blk_kept HC.out.2.2.2.1 hkp (fun f => f)) 0).trans rfl
    have e0 : wr.cell? ⟨B + 1, 0, none⟩ = some (.slice a' n c') := (blk_cell (blk_kept HC.out.2.2.2.2.1 hkp (fun f => f)) 0).trans rfl
    by_cases hkn : k < n
    · obtain ⟨b, off, f, ca, cc, rfl, hf, hat⟩ := (HC.out.1.more hkp).at hkn
      obtain ⟨b', off', f', ca', cc', rfl, hf', hat'⟩ := (HC.out.2.1.more hkp).at hkn
      rw [hf] at hf'
      obtain rfl := Option.some.inj hf'
      obtain ⟨m, hm⟩ : ∃ m, m = f.code.length := ⟨_, rfl⟩
      have hmb := HC.out.2.2.2.2.2 f (List.mem_of_getElem? hf)
      obtain ⟨y0, y1, y2, y3, hsn⟩ := hat
      obtain ⟨u0, u1, u2, u3, hsn'⟩ := hat'
      rw [← hm] at y3 u3 hsn hsn' hmb
      have hmm : (m : Int) ≤ 4611686018427387904 := by omega
      obtain ⟨q1, q2⟩ := two_boxes wr #[.int .i64 f.params, .int .i64 f.regs, .int .i64 f.slots, .slice ca m cc] #[.int .i64 f.params, .int .i64 f.regs, .int .i64 f.slots, .slice ca' m cc'] 37 37
      have hk2 := keeps2 wr (.cells #[.int .i64 f.params, .int .i64 f.regs, .int .i64 f.slots, .slice ca m cc] 37) (.cells #[.int .i64 f.params, .int .i64 f.regs, .int .i64 f.slots, .slice ca' m cc'] 37)
      have hk1 := Keeps.alloc None wr (.cells #[.int .i64 f.params, .int .i64 f.regs, .int .i64 f.slots, .slice ca m cc] 37)
      have e1 := hk1.cell e0 (fun f => f)
      have v0 := hk1.cell u0 (fun f => f)
      have v1 := hk1.cell u1 (fun f => f)
      have v2 := hk1.cell u2 (fun f => f)
      have v3 := hk1.cell u3 (fun f => f)
      obtain ⟨wb, hwb⟩ : ∃ wb, wb = (wr.alloc (.cells #[.int .i64 f.params, .int .i64 f.regs, .int .i64 f.slots, .slice ca m cc] 37)).alloc (.cells #[.int .i64 f.params, .int .i64 f.regs, .int .i64 f.slots, .slice ca' m cc'] 37) := ⟨_, rfl⟩
      obtain ⟨F, hF⟩ : ∃ F, F = wr.heap.size := ⟨_, rfl⟩
      rw [← hwb] at q1 q2 hk2
      rw [← hF] at q1 q2
      have i1 : (k : Int) < (n : Int) := by omega
      have HB : Hid (SeenI wb ca m f.code ∧ SeenI wb ca' m f.code ∧ Keeps None wa wb ∧ wb.heap[F]? = some (.cells #[.int .i64 f.params, .int .i64 f.regs, .int .i64 f.slots, .slice ca m cc] 37 (0, 0)) ∧ wb.heap[F + 1]? = some (.cells #[.int .i64 f.params, .int .i64 f.regs, .int .i64 f.slots, .slice ca' m cc'] 37 (0, 0))) := ⟨hsn.more hk2, hsn'.more hk2, hkp.trans hk2 (fun _ f _ => f), q1, q2⟩
      have x0 : wb.cell? ⟨F, 0, none⟩ = some (.int .i64 f.params) := (blk_cell q1 0).trans rfl
      have x1 : wb.cell? ⟨F, 1, none⟩ = some (.int .i64 f.regs) := (blk_cell q1 1).trans rfl
      have x2 : wb.cell? ⟨F, 2, none⟩ = some (.int .i64 f.slots) := (blk_cell q1 2).trans rfl
      have x3 : wb.cell? ⟨F, 3, none⟩ = some (.slice ca m cc) := (blk_cell q1 3).trans rfl
      have z0 : wb.cell? ⟨F + 1, 0, none⟩ = some (.int .i64 f.params) := (blk_cell q2 0).trans rfl
      have z1 : wb.cell? ⟨F + 1, 1, none⟩ = some (.int .i64 f.regs) := (blk_cell q2 1).trans rfl
      have z2 : wb.cell? ⟨F + 1, 2, none⟩ = some (.int .i64 f.slots) := (blk_cell q2 2).trans rfl
      have z3 : wb.cell? ⟨F + 1, 3, none⟩ = some (.slice ca' m cc') := (blk_cell q2 3).trans rfl
      clear hkp hf hsn hsn' hm q1 q2 hk2 hk1
      go_upto_region 8 with fail
      rw [← hwb, ← hF]
      clear hwb hF y0 y1 y2 y3 u0 u1 u2 u3 v0 v1 v2 v3 d0 e0 e1
      go_wp2_with fail
      clear x0 x1 x2 x3 z0 z1 z2 z3
      go_loopw [8] (fun s8 wy => ∃ j : Nat, j ≤ m ∧ s8 = .int .i64 j ∧ Keeps None wb wy) (fun i _ => m - (intOf i).toNat)
      case atStart => exact ⟨0, Nat.zero_le _, rfl, Keeps.refl _ _⟩
      case round =>
        obtain ⟨j, hj, rfl, hkq⟩ := hrel
        have d3 : wr.cell? ⟨F, 3, none⟩ = some (.slice ca m cc) := (blk_cell (blk_kept HB.out.2.2.2.1 hkq (fun f => f)) 3).trans rfl
        have e3 : wr.cell? ⟨F + 1, 3, none⟩ = some (.slice ca' m cc') := (blk_cell (blk_kept HB.out.2.2.2.2 hkq (fun f => f)) 3).trans rfl
        by_cases hjm : j < m
        · obtain ⟨g, o, x, rfl, hx, hat⟩ := (HB.out.1.more hkq).at hjm
          obtain ⟨g', o', x', rfl, hx', hat'⟩ := (HB.out.2.1.more hkq).at hjm
          rw [hx] at hx'
          obtain rfl := Option.some.inj hx'
          obtain ⟨y0, y1, y2, y3, y4⟩ := hat
          obtain ⟨u0, u1, u2, u3, u4⟩ := hat'
          have i2 : (j : Int) < (m : Int) := by omega
          have hne := neqIns6 x.kind x.a x.b x.c x.k
          have HK : Hid (Keeps None wb wr) := hkq
          clear hkq hx
          go_upto_region 13 with fail
          go_quiet (fail)
          go_wp2_with fail
          exact ⟨⟨j + 1, by omega, by simp, HK.out.trans (Keeps.drewN None _ _) (fun _ f _ => f)⟩, by simp [intOf]; omega⟩
        · have i2 : ¬ ((j : Int) < (m : Int)) := by omega
          have HK : Hid (Keeps None wb wr) := hkq
          clear hkq
          go_wp2_with fail
          exact ⟨⟨k + 1, by omega, by simp, HB.out.2.2.1.trans HK.out (fun _ f _ => f)⟩, by simp [intOf]; omega⟩
    · have i1 : ¬ ((k : Int) < (n : Int)) := by omega
      have HK : Hid (Keeps None wa wr) := hkp
      clear hkp
      go_wp2_with fail
      go_ret
      exact ⟨rfl, HC.out.2.2.1.trans HK.out (fun _ f _ => f)⟩
end Go.Proofs.YtoehkjfdaolcnaaDoor
/-! TrimNeat. -/
namespace Go.Proofs.YtoehkjfdaolcnaaDoor
set_option linter.unusedVariables false
set_option maxRecDepth 20000
set_option linter.unusedSimpArgs false
open Go.RowKit Go.HeapKit

set_option maxHeartbeats 4000000 in
theorem trimNeat_walk (a : Option Addr) (n c : Nat) (l : List Fn) (w : World) (hT : Tabs w) (hS : SeenF w a n l) (hok : ∀ f ∈ l, f.Ok) (hr : n * 48 ≤ 140737488351232 ∧ ∀ f ∈ l, f.code.length * 40 ≤ 140737488351232) :
    Calls Tryd.prog 3 #[.agg #[.slice a n c]] w fun e w' => e = .returned (.bool true) ∧ Keeps None w w' := by
  obtain ⟨hr, hrc⟩ := hr
  have b1 := heap_alloc_new w (.cells #[.slice a n c] 24)
  have k1 := Keeps.alloc None w (.cells #[.slice a n c] 24)
  obtain ⟨W, hW⟩ : ∃ W, W = w.alloc (.cells #[.slice a n c] 24) := ⟨_, rfl⟩
  obtain ⟨X, hX⟩ : ∃ X, X = w.heap.size := ⟨_, rfl⟩
  rw [← hW] at b1 k1
  rw [← hX] at b1
  have x0 : W.cell? ⟨X, 0, none⟩ = some (.slice a n c) := (blk_cell b1 0).trans rfl
  have HCP : Hid (Calls Tryd.prog 6 #[.agg #[.slice a n c]] W (CopiedPost W l n)) := copied_any a n c l W (hS.more k1) hr hrc
  have HA : Hid (Tabs w ∧ SeenF w a n l ∧ (∀ f ∈ l, f.Ok) ∧ Keeps None w W ∧ n * 48 ≤ 140737488351232 ∧ (∀ f ∈ l, f.code.length * 40 ≤ 140737488351232)) := ⟨hT, hS, hok, k1, hr, hrc⟩
  clear hT hS hok hr hrc b1 k1
  go_enter Tryd.func3, Tryd.ntmps3
  go_upto_region 1 with fail
  rw [← hW, ← hX]
  clear hW hX
  go_upto_region 2 with (go_at_call 6; refine Calls.mono HCP.out ?_; rintro _ w2 ⟨a2, c2, rfl, hS2, hk2⟩)
  have b3 := heap_alloc_new w2 (.cells #[.slice a2 n c2] 24)
  have k3 := hk2.andAlloc (.cells #[.slice a2 n c2] 24)
  have k3' := Keeps.alloc None w2 (.cells #[.slice a2 n c2] 24)
  obtain ⟨w3, hw3⟩ : ∃ w3, w3 = w2.alloc (.cells #[.slice a2 n c2] 24) := ⟨_, rfl⟩
  obtain ⟨Q, hQ⟩ : ∃ Q, Q = w2.heap.size := ⟨_, rfl⟩
  rw [← hw3] at b3 k3 k3'
  rw [← hQ] at b3
  rw [← hw3, ← hQ]
  have q0 : w3.cell? ⟨Q, 0, none⟩ = some (.slice a2 n c2) := (blk_cell b3 0).trans rfl
  have x3 : w3.cell? ⟨X, 0, none⟩ = some (.slice a n c) := k3.cell x0 (fun f => f)
  have H3 : Hid (Keeps None w w3 ∧ SeenF w3 a2 n l) := ⟨HA.out.2.2.2.1.trans k3 (fun _ f _ => f), hS2.more k3'⟩
  clear hw3 hQ b3 k3 k3' hS2 hk2 x0 HCP
  have HNE : Hid (Calls Tryd.prog 7 #[.agg #[.slice a n c]] w3 fun e w' => ∃ x k y, e = .returned (.agg #[.int .i64 x, .int .i64 k, .int .i64 y]) ∧ NeatP l slN mxV x k y ∧ Keeps None w3 w') := neat_ok a n c l w3 (HA.out.1.more H3.out.1) (HA.out.2.1.more H3.out.1) HA.out.2.2.1
  go_upto_region 3 with (go_at_call 7; refine Calls.mono HNE.out ?_; rintro _ w4 ⟨x, k, y, rfl, hN, hk4⟩)
  have b5 := heap_alloc_new w4 (.cells #[.int .i64 x, .int .i64 k, .int .i64 y] 28)
  have k5 := hk4.andAlloc (.cells #[.int .i64 x, .int .i64 k, .int .i64 y] 28)
  obtain ⟨w5, hw5⟩ : ∃ w5, w5 = w4.alloc (.cells #[.int .i64 x, .int .i64 k, .int .i64 y] 28) := ⟨_, rfl⟩
  obtain ⟨B, hB⟩ : ∃ B, B = w4.heap.size := ⟨_, rfl⟩
  rw [← hw5] at b5 k5
  rw [← hB] at b5
  rw [← hw5, ← hB]
  have g0 : w5.cell? ⟨B, 0, none⟩ = some (.int .i64 x) := (blk_cell b5 0).trans rfl
  have g1 : w5.cell? ⟨B, 1, none⟩ = some (.int .i64 k) := (blk_cell b5 1).trans rfl
  have g2 : w5.cell? ⟨B, 2, none⟩ = some (.int .i64 y) := (blk_cell b5 2).trans rfl
  have q5 : w5.cell? ⟨Q, 0, none⟩ = some (.slice a2 n c2) := k5.cell q0 (fun f => f)
  have x5 : w5.cell? ⟨X, 0, none⟩ = some (.slice a n c) := k5.cell x3 (fun f => f)
  have H5 : Hid (Keeps None w w5 ∧ SeenF w5 a2 n l ∧ SeenF w5 a n l) := ⟨H3.out.1.trans k5 (fun _ f _ => f), H3.out.2.more k5, HA.out.2.1.more (H3.out.1.trans k5 (fun _ f _ => f))⟩
  have HSA : Hid (∀ w', Keeps None w5 w' → w'.cell? ⟨B, 0, none⟩ = some (.int .i64 x) ∧ w'.cell? ⟨B, 1, none⟩ = some (.int .i64 k) ∧ w'.cell? ⟨B, 2, none⟩ = some (.int .i64 y) ∧ w'.cell? ⟨Q, 0, none⟩ = some (.slice a2 n c2) ∧ w'.cell? ⟨X, 0, none⟩ = some (.slice a n c)) := fun w' hk => ⟨hk.cell g0 (fun f => f), hk.cell g1 (fun f => f), hk.cell g2 (fun f => f), hk.cell q5 (fun f => f), hk.cell x5 (fun f => f)⟩
  have HRN : Hid (∀ w', Keeps None w5 w' → Calls Tryd.prog 8 #[.agg #[.slice a2 n c2]] w' fun e w'' => e = .returned (.agg #[.int .i64 x, .int .i64 k, .int .i64 y]) ∧ Keeps None w5 w'') := fun w' hk => (rneat_ok a2 n c2 l w' (H5.out.2.1.more hk) HA.out.2.2.1).mono fun e w'' hp => by
    obtain ⟨x', k', y', h1, h2, h3⟩ := hp
    obtain ⟨rfl, rfl, rfl⟩ := NeatP.same hN h2
    exact ⟨h1, hk.trans h3 (fun _ f _ => f)⟩
  have HSM : Hid (∀ w', Keeps None w5 w' → Calls Tryd.prog 9 #[.agg #[.slice a n c], .agg #[.slice a2 n c2]] w' fun e w'' => e = .returned (.bool true) ∧ Keeps None w5 w'') := fun w' hk => (same6_any a n c a2 c2 l w' (H5.out.2.2.more hk) (H5.out.2.1.more hk) HA.out.2.2.2.2.1 HA.out.2.2.2.2.2).mono fun e w'' hp => ⟨hp.1, hk.trans hp.2 (fun _ f _ => f)⟩
  have heq := eqFault x k y
  clear hw5 hB b5 k5 hN hk4 HNE q0 x3
  go_region_held3 (fun w' => w'.cell? ⟨B, 0, none⟩ = some (.int .i64 x) ∧ w'.cell? ⟨B, 1, none⟩ = some (.int .i64 k) ∧ w'.cell? ⟨B, 2, none⟩ = some (.int .i64 y) ∧ w'.cell? ⟨Q, 0, none⟩ = some (.slice a2 n c2) ∧ w'.cell? ⟨X, 0, none⟩ = some (.slice a n c)) (first | exact hs8 | exact hs7 | go_keep) (first | (go_at_call 8; refine Calls.mono (HRN.out _ (Keeps.drew None _)) ?_; rintro _ w7 ⟨rfl, hk7⟩; have hs7 := HSA.out _ hk7) | (go_at_call 9; refine Calls.mono (HSM.out _ hk7) ?_; rintro _ w8 ⟨rfl, hk8⟩; have hs8 := HSA.out _ hk8))
  all_goals (go_wp2_with fail; go_ret)
  all_goals exact ⟨rfl, H5.out.1.trans hk8 (fun _ f _ => f)⟩
end Go.Proofs.YtoehkjfdaolcnaaDoor
