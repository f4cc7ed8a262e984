import Derived.Test.YtbdpdojeaahpjaaGreatDoorPkAN
import Derived.OwnWalk
import Derived.Deep.Cut
import Derived.WalkMore
import Derived.Test.YtbdpdojeaahpjaaGreatDoorPkAM
import Derived.Deep.QuietTactic
import Derived.BigQuiet
import Derived.Laws.StructEq
import Derived.Test.YtbdpdojeaahpjaaGreatDoorPkAC
import Derived.Deep.RegionHeld3
import Derived.Deep.RegionLaw
/-! A program copied. -/
namespace Go.Proofs.YtbdpdojeaahpjaaGreatDoor
set_option linter.unusedVariables false
set_option maxRecDepth 20000
open Go.RowKit Go.HeapKit

theorem flat4_at (R : List (List Value)) (h : ∀ r ∈ R, r.length = 4) (k : Nat) (x : List Value) (hx : R[k]? = some x) (j : Nat) (hj : j < 4) : R.flatten[k * 4 + j]? = x[j]? := by
  induction R generalizing k with
  | nil => simp at hx
  | cons y R ih =>
    have hy := h y (List.mem_cons_self ..)
    rw [List.flatten_cons]
    cases k with
    | zero =>
      simp at hx
      subst hx
      rw [List.getElem?_append_left (by omega), Nat.zero_mul, Nat.zero_add]
    | succ k =>
      rw [List.getElem?_append_right (by omega), show (k + 1) * 4 + j - y.length = k * 4 + j by omega]
      exact ih (fun r hr => h r (List.mem_cons_of_mem _ hr)) k (by simpa using hx)
theorem Tryz.infoFn : (Tryz.prog.info? 35).map (fun i => (i.zero, i.size, i.bytes)) = some (some (.agg #[.int .i64 0, .int .i64 0, .int .i64 0, .slice none 0 0]), 4, 48) := by kernel_rfl
theorem zip_at {α β γ : Type} (f : α → β → γ) (l : List α) (m : List β) (k : Nat) (a : α) (b : β) (ha : l[k]? = some a) (hb : m[k]? = some b) : (List.zipWith f l m)[k]? = some (f a b) := by
  rw [List.getElem?_zipWith, ha, hb]
theorem take_snoc {α : Type} (l : List α) (k : Nat) (x : α) (hx : l[k]? = some x) : l.take (k + 1) = l.take k ++ [x] := by rw [List.take_add_one, hx]; rfl
abbrev At := Option Addr × Nat
def At.blk (t : At) : Option Nat := (Value.slice t.1 0 0).ownBlock
def tfCells (f : Fn) (t : At) : List Value := [.int .i64 f.params, .int .i64 f.regs, .int .i64 f.slots, .slice t.1 f.code.length t.2]
theorem fn_append (v : Value) (R : List (List Value)) (p r s x : Value) (n g ty : Nat) (w : World) (hn : n = R.length) (h1 : p.oneCell' = true ∧ r.oneCell' = true ∧ s.oneCell' = true ∧ x.oneCell' = true) (h : w.ownsRow 0 35 4 v n R.flatten) (hlen : (n + 1) * 48 ≤ 140737488355328)
    (hg : w.heap[g]? = some (.cells #[p, r, s, x] 35 (0, 0))) :
    ∃ b cap w', (Builtin.append_ #[22, 22] ty #[v, .slice (some ⟨g, 0, none⟩) 1 1]).run Tryz.prog w = .ok (.slice (some ⟨b, 0, none⟩) (n + 1) cap) w' ∧
      w'.ownsRow 0 35 4 (.slice (some ⟨b, 0, none⟩) (n + 1) cap) (n + 1) (R ++ [[p, r, s, x]]).flatten ∧ Keeps (fun k => v.ownBlock = some k) w w' ∧ (v.ownBlock = some b ∨ w.heap.size ≤ b) := by
  obtain ⟨i0, hi, hz0, hz1, hz2⟩ := info_parts Tryz.infoFn
  obtain ⟨v', w', hr, ho, hgr, hm, -⟩ := run_append_moved (P := Tryz.prog) w 0 22 ty 35 i0 _ 4 48 Tryz.underlying22 hi hz0 hz1 hz2 rfl (by decide) v n R.flatten h
    ⟨g, 0, none⟩ 1 1 [p, r, s, x] rfl (by
      intro j u hu
      rw [show (⟨g, 0, none⟩ : Addr).add j = ⟨g, j, none⟩ by unfold Addr.add; split <;> simp_all, blk_cell hg]
      simpa using hu) (by
      intro u hu
      simp at hu
      obtain ⟨q1, q2, q3, q4⟩ := h1
      rcases hu with rfl | rfl | rfl | rfl
      · exact q1
      · exact q2
      · exact q3
      · exact q4) (by unfold maxLen; omega) (by omega) (Nat.zero_le _)
  have e : (R ++ [[p, r, s, x]]).flatten = R.flatten ++ [p, r, s, x] := by simp
  rw [e]
  rcases ho.2 with ⟨_, h0⟩ | ⟨b, cap, cur, rfl, _⟩
  · omega
  · refine ⟨b, cap, w', hr, ho, (Keeps.refl _ w).andGrown hgr (fun k e => .inl e), ?_⟩
    rcases hm with hm | ⟨g', e, hg⟩
    · exact .inl (hm.symm.trans rfl)
    · simp [Value.ownBlock] at e; exact .inr (by omega)
structure Ta (w wr : World) (B : Nat) (pv : Value) (l : List Fn) (k : Nat) (qv : Value) (tv : List At) : Prop where
  keep : Keeps None w wr
  box : wr.heap[B]? = some (.cells #[pv] 24 (0, 0))
  res : wr.heap[B + 1]? = some (.cells #[.slice none 0 0] 24 (0, 0))
  qb : wr.heap[B + 2]? = some (.cells #[qv] 24 (0, 0))
  row : wr.ownsRow 0 35 4 qv k (List.zipWith tfCells (l.take k) tv).flatten
  code : ∀ (i : Nat) (f : Fn) (t : At), (l.take k)[i]? = some f → tv[i]? = some t → wr.ownsRow 0 37 5 (.slice t.1 f.code.length t.2) f.code.length (insVals f.code)
  len : tv.length = k
  low : ∀ g, qv.ownBlock = some g → w.heap.size ≤ g
  hB : w.heap.size ≤ B
  cl : ∀ (i : Nat) (t : At) (g : Nat), tv[i]? = some t → t.blk = some g → w.heap.size ≤ g ∧ g < wr.heap.size
  nd : ∀ (i j : Nat) (t u : At) (g : Nat), tv[i]? = some t → tv[j]? = some u → t.blk = some g → u.blk = some g → i = j
theorem Ta.more {w wr w' : World} {B : Nat} {pv : Value} {l : List Fn} {k : Nat} {qv : Value} {tv : List At} (h : Ta w wr B pv l k qv tv) (hk : Keeps None wr w') : Ta w w' B pv l k qv tv :=
  ⟨h.keep.trans hk (fun _ f _ => f), blk_kept h.box hk (fun f => f), blk_kept h.res hk (fun f => f), blk_kept h.qb hk (fun f => f), hk.own h.row (fun _ _ f => f), fun i f t hf ht => hk.own (h.code i f t hf ht) (fun _ _ f => f), h.len, h.low, h.hB, fun i t g ht hg => ⟨(h.cl i t g ht hg).1, Nat.lt_of_lt_of_le (h.cl i t g ht hg).2 hk.size⟩, h.nd⟩
theorem Ta.next {w wr w2 : World} {B : Nat} {pv : Value} {l : List Fn} {k : Nat} {qv : Value} {tv : List At} {f : Fn} {t : At} {b cap : Nat} (h : Ta w wr B pv l k qv tv) (hf : l[k]? = some f) (hC : wr.ownsRow 0 37 5 (.slice t.1 f.code.length t.2) f.code.length (insVals f.code))
    (hk2 : Keeps (fun k => qv.ownBlock = some k) wr w2) (ho2 : w2.ownsRow 0 35 4 (.slice (some ⟨b, 0, none⟩) (k + 1) cap) (k + 1) (List.zipWith tfCells (l.take k) tv ++ [tfCells f t]).flatten) (hg2 : qv.ownBlock = some b ∨ wr.heap.size ≤ b) {H : Nat} (hold : ∀ (i : Nat) (u : At) (g : Nat), tv[i]? = some u → u.blk = some g → g < H) (hnew : ∀ g, t.blk = some g → w.heap.size ≤ g ∧ H ≤ g ∧ g < wr.heap.size) :
    w2.cell? ⟨B + 2, 0, none⟩ = some qv ∧ w2.frozen? ⟨B + 2, 0, none⟩ = false ∧ Ta w (w2.setCell ⟨B + 2, 0, none⟩ (.slice (some ⟨b, 0, none⟩) (k + 1) cap)) B pv l (k + 1) (.slice (some ⟨b, 0, none⟩) (k + 1) cap) (tv ++ [t]) := by
  have hlk := (List.getElem?_eq_some_iff.1 hf).1
  have ht : (l.take k).length = k := by simp; omega
  have hfun : ∀ {c : Array Value} {T : TypeId} {p : Nat}, T ≠ 35 → wr.heap[p]? = some (.cells c T (0, 0)) → ¬ qv.ownBlock = some p := fun hT hp e => hT ((own_type h.row e hp).symm ▸ rfl)
  have qb2 := blk_kept h.qb hk2 (hfun (by decide) h.qb)
  have kS : Keeps (· = B + 2) w2 (w2.setCell ⟨B + 2, 0, none⟩ (.slice (some ⟨b, 0, none⟩) (k + 1) cap)) := Keeps.setCell (S := (· = B + 2)) w2 rfl _
  have hbB : b ≠ B + 2 := by
    rintro rfl
    have := own_type ho2 (g := B + 2) rfl qb2
    exact absurd this (by decide)
  have hB := h.hB
  have hcode : ∀ (v : Value) (m : Nat) (xs : List Value), wr.ownsRow 0 37 5 v m xs → (w2.setCell ⟨B + 2, 0, none⟩ (.slice (some ⟨b, 0, none⟩) (k + 1) cap)).ownsRow 0 37 5 v m xs := by
    intro v m xs hv
    have h1 := hk2.own hv (fun g e q => by
      obtain ⟨c, hc⟩ := own_block hv e
      exact hfun (by decide) hc q)
    exact kS.own h1 (fun g e q => absurd (own_type h1 e (q ▸ qb2)) (by decide))
  refine ⟨(blk_cell qb2 0).trans rfl, blk_free qb2 0, ⟨(h.keep.trans hk2 (fun i e hi => by have := h.low i e; omega)).trans kS (fun i e hi => by omega), blk_kept (blk_kept h.box hk2 (hfun (by decide) h.box)) kS (by omega), blk_kept (blk_kept h.res hk2 (hfun (by decide) h.res)) kS (by omega), by rw [blk_set qb2]; rfl, ?_, ?_, ?_, ?_, h.hB, ?_, ?_⟩⟩
  · have e : List.zipWith tfCells (l.take (k + 1)) (tv ++ [t]) = List.zipWith tfCells (l.take k) tv ++ [tfCells f t] := by
      rw [take_snoc l k f hf, List.zipWith_append (by rw [h.len, ht])]
      simp
    rw [e]
    exact kS.own ho2 (fun g e q => by simp [Value.ownBlock] at e; exact hbB (e.trans q))
  · intro i f' t' hi hc
    rw [take_snoc l k f hf] at hi
    by_cases hik : i < k
    · rw [List.getElem?_append_left (by omega)] at hi
      rw [List.getElem?_append_left (by rw [h.len]; omega)] at hc
      exact hcode _ _ _ (h.code i f' t' hi hc)
    · have hlt := (List.getElem?_eq_some_iff.1 hi).1
      simp only [List.length_append, ht, List.length_cons, List.length_nil] at hlt
      obtain rfl : i = k := by omega
      rw [List.getElem?_append_right (by omega), ht, Nat.sub_self] at hi
      rw [List.getElem?_append_right (by rw [h.len]; omega), h.len, Nat.sub_self] at hc
      simp at hi hc
      subst hi hc
      exact hcode _ _ _ hC
  · rw [List.length_append, h.len]; rfl
  · intro g e
    simp [Value.ownBlock] at e
    subst e
    rcases hg2 with r | r
    · exact h.low _ r
    · have := h.keep.size; omega
  · intro i u g hi hg
    have hsz : wr.heap.size ≤ (w2.setCell ⟨B + 2, 0, none⟩ (.slice (some ⟨b, 0, none⟩) (k + 1) cap)).heap.size := Nat.le_trans hk2.size kS.size
    by_cases hik : i < tv.length
    · rw [List.getElem?_append_left hik] at hi
      exact ⟨(h.cl i u g hi hg).1, Nat.lt_of_lt_of_le (h.cl i u g hi hg).2 hsz⟩
    · rw [List.getElem?_append_right (by omega)] at hi
      have hlt := (List.getElem?_eq_some_iff.1 hi).1
      simp at hlt
      have e0 : i - tv.length = 0 := by omega
      rw [e0] at hi
      simp at hi
      subst hi
      exact ⟨(hnew g hg).1, Nat.lt_of_lt_of_le (hnew g hg).2.2 hsz⟩
  · intro i j u v g hi hj hu hv
    have tell : ∀ (i : Nat) (u : At), (tv ++ [t])[i]? = some u → (i < tv.length ∧ tv[i]? = some u) ∨ (i = tv.length ∧ u = t) := fun i u hi => by
      by_cases hik : i < tv.length
      · rw [List.getElem?_append_left hik] at hi
        exact .inl ⟨hik, hi⟩
      · rw [List.getElem?_append_right (by omega)] at hi
        have hlt := (List.getElem?_eq_some_iff.1 hi).1
        simp at hlt
        have e0 : i - tv.length = 0 := by omega
        rw [e0] at hi
        simp at hi
        exact .inr ⟨by omega, hi.symm⟩
    rcases tell i u hi with ⟨h1, h1'⟩ | ⟨h1, h1'⟩
    · rcases tell j v hj with ⟨h2, h2'⟩ | ⟨h2, h2'⟩
      · exact h.nd i j u v g h1' h2' hu hv
      · subst h2'
        have a1 := hold i u g h1' hu
        have a2 := hnew g hv
        omega
    · rcases tell j v hj with ⟨h2, h2'⟩ | ⟨h2, h2'⟩
      · subst h1'
        have a1 := hold j v g h2' hv
        have a2 := hnew g hu
        omega
      · omega
theorem codes_copied_nil (g c : Nat) (w : World) (ty : TypeId) : (Builtin.append_ #[33, 33] ty #[.slice (some ⟨g, 0, none⟩) 0 0, .slice none 0 c]).run Tryz.prog w = .ok (.slice (some ⟨g, 0, none⟩) 0 0) w := by
  obtain ⟨i0, hi, hz0, hz1, hz2⟩ := info_parts Tryz.infoIns
  simp [Builtin.append_, run_underlying Tryz.underlying33, sizeOf, typeInfo, zeroValue, hi, hz0, Builtin.lenOf, Builtin.firstCells, storeCells]
theorem rows_seen {wr : World} {l : List Fn} {k : Nat} {qv : Value} {tv : List At} (hrow0 : wr.ownsRow 0 35 4 qv k (List.zipWith tfCells (l.take k) tv).flatten) (hcode : ∀ (i : Nat) (f : Fn) (t : At), (l.take k)[i]? = some f → tv[i]? = some t → wr.ownsRow 0 37 5 (.slice t.1 f.code.length t.2) f.code.length (insVals f.code)) (hlen : tv.length = k) (hk : k = l.length) : ∃ a c, qv = .slice a k c ∧ SeenF wr a k l := by
  have hlt : l.take k = l := List.take_of_length_le (by omega)
  have hrow := hrow0
  rw [hlt] at hrow
  have four : ∀ r ∈ List.zipWith tfCells l tv, r.length = 4 := fun r hr => by
    obtain ⟨i, hi, rfl⟩ := List.mem_iff_getElem.1 hr
    rw [List.getElem_zipWith]
    rfl
  rcases hrow.2 with ⟨rfl, h0⟩ | ⟨g, cap, cur, rfl, hb, hg, hn, hm, hc, ht⟩
  · exact ⟨none, 0, by rw [h0], ⟨by omega, fun h => by omega⟩⟩
  · refine ⟨_, cap, rfl, ⟨by omega, fun _ => ⟨g, 0, rfl, blk_lt hg, fun i f hf => ?_⟩⟩⟩
    have hi := (List.getElem?_eq_some_iff.1 hf).1
    obtain ⟨t, hti⟩ : ∃ t, tv[i]? = some t := ⟨tv[i]'(by rw [hlen]; omega), by simp⟩
    have hz := zip_at tfCells l tv i f t hf hti
    have hcell : ∀ j, j < 4 → wr.cell? ⟨g, 0 + i * 4 + j, none⟩ = (tfCells f t)[j]? := fun j hj => by
      have h1 := flat4_at _ four i _ hz j hj
      rw [blk_cell hg, ← h1, ← ht, List.getElem?_take, if_pos (by omega), Nat.zero_add]
      simp
    have hcd := hcode i f t (by rw [hlt]; exact hf) hti
    obtain ⟨ca, cc, hv, hsn⟩ := codes_seen hcd
    injection hv with e1 e2 e3
    have q3 : wr.cell? ⟨g, 0 + i * 4 + 3, none⟩ = some (.slice t.1 f.code.length t.2) := hcell 3 (by omega)
    refine ⟨t.1, t.2, ⟨hcell 0 (by omega), hcell 1 (by omega), hcell 2 (by omega), q3, by rw [e1]; exact hsn⟩⟩
theorem Ta.seen {w wr : World} {B : Nat} {pv : Value} {l : List Fn} {k : Nat} {qv : Value} {tv : List At} (h : Ta w wr B pv l k qv tv) (hk : k = l.length) : ∃ a c, qv = .slice a k c ∧ SeenF wr a k l := rows_seen h.row h.code h.len hk
theorem codes_copied (ca : Option Addr) (n c : Nat) (code : List Ins) (w : World) (ty : TypeId) (h : SeenI w ca n code) (hs : n * 40 ≤ 140737488351232) :
    ∃ v w', (Builtin.append_ #[33, 33] ty #[.slice (some ⟨w.heap.size, 0, none⟩) 0 0, .slice ca n c]).run Tryz.prog (w.alloc (.cells #[] 37)) = .ok v w' ∧
      w'.ownsRow 0 37 5 v n (insVals code) ∧ Keeps None w w' ∧ ∀ g, v.ownBlock = some g → w.heap.size ≤ g := by
  have hl := h.len
  have hal := Keeps.alloc None w (.cells #[] 37)
  have h2 := h.more hal
  have hrow : (w.alloc (.cells #[] 37)).ownsRow 0 37 5 (.slice (some ⟨w.heap.size, 0, none⟩) 0 0) 0 [] :=
    ⟨by simp, .inr ⟨w.heap.size, 0, #[], rfl, Nat.zero_le _, heap_alloc_new _ _, Nat.le_refl _, by unfold maxLen; omega, rfl, rfl⟩⟩
  cases ca with
  | none =>
    have hn : n = 0 := by
      rcases Nat.eq_zero_or_pos n with h0 | h0
      · exact h0
      · obtain ⟨b, off, e, _⟩ := h.ex h0
        cases e
    subst hn
    have hc0 : code = [] := List.eq_nil_of_length_eq_zero hl.symm
    subst hc0
    refine ⟨.slice (some ⟨w.heap.size, 0, none⟩) 0 0, w.alloc (.cells #[] 37), ?_, hrow, hal, fun g e => by simp [Value.ownBlock] at e; omega⟩
    exact codes_copied_nil _ c _ ty
  | some x =>
    obtain ⟨i0, hi, hz0, hz1, hz2⟩ := info_parts Tryz.infoIns
    obtain ⟨v', w1, hr, ho, hgr, hm, -⟩ := run_append_moved (P := Tryz.prog) (w.alloc (.cells #[] 37)) 0 33 ty 37 i0 _ 5 40 Tryz.underlying33 hi hz0 hz1 hz2 rfl (by decide) _ 0 _ hrow
      x n c (insVals code) (by rw [insVals_length]; omega) (by
        intro j u hu
        have hj : j < n * 5 := by have := (List.getElem?_eq_some_iff.1 hu).1; rw [insVals_length] at this; omega
        obtain ⟨b, off, e, _, hc⟩ := h2.ex (by omega)
        injection e with e
        subst e
        rw [show (⟨b, off, none⟩ : Addr).add j = ⟨b, off + j, none⟩ by unfold Addr.add; split <;> simp_all]
        have hlj : code[j / 5]? = some (code[j / 5]'(by omega)) := List.getElem?_eq_getElem _
        have hin := hc (j / 5) _ hlj
        have hjj : j = j / 5 * 5 + j % 5 := by omega
        have hm5 : j % 5 < 5 := Nat.mod_lt _ (by omega)
        obtain ⟨v0, hv0⟩ : ∃ v0, (insCells (code[j / 5]'(by omega)))[j % 5]? = some v0 := ⟨(insCells (code[j / 5]'(by omega)))[j % 5]'(by simpa [insCells] using hm5), by simp⟩
        have hat := insVals_at code (j / 5) _ hlj (j % 5) v0 hv0
        rw [← hjj] at hat
        rw [hat] at hu
        injection hu with hu
        subst hu
        have hq : off + j = off + j / 5 * 5 + j % 5 := by omega
        rw [hq]
        generalize j % 5 = r at hm5 hv0
        generalize code[j / 5]'(by omega) = ii at hin hv0
        match r, hm5 with
        | 0, _ => simp [insCells] at hv0; subst hv0; exact hin.kind
        | 1, _ => simp [insCells] at hv0; subst hv0; exact hin.a
        | 2, _ => simp [insCells] at hv0; subst hv0; exact hin.b
        | 3, _ => simp [insCells] at hv0; subst hv0; exact hin.c
        | 4, _ => simp [insCells] at hv0; subst hv0; exact hin.k) (by
        intro u hu
        simp only [insVals, List.mem_flatMap] at hu
        obtain ⟨y, _, hy⟩ := hu
        simp [insCells] at hy
        rcases hy with rfl | rfl | rfl | rfl | rfl <;> rfl) (by unfold maxLen; omega) (by omega) (Nat.zero_le _)
    rw [Nat.zero_add, List.nil_append] at ho
    refine ⟨v', w1, hr, ho, hal.andGrown hgr (fun k e => .inr (by simp [Value.ownBlock] at e; omega)), fun g e => ?_⟩
    rcases hm with hm | ⟨g', e', hg'⟩
    · rw [hm] at e; simp [Value.ownBlock] at e; omega
    · rw [e'] at e
      obtain rfl := Option.some.inj e
      simp at hg'
      omega
theorem ins_put (l : List Ins) (k : Nat) (x : Ins) (y : Int) (hk : l[k]? = some x) : (insVals l).set (k * 5 + 4) (.int .i64 y) = insVals (l.set k { x with k := y }) := by
  induction l generalizing k with
  | nil => simp at hk
  | cons z l ih =>
    have e : insVals (z :: l) = insCells z ++ insVals l := rfl
    have hz : (insCells z).length = 5 := rfl
    cases k with
    | zero =>
      simp at hk
      subst hk
      have e2 : insVals ((z :: l).set 0 { z with k := y }) = insCells { z with k := y } ++ insVals l := rfl
      rw [e, e2, Nat.zero_mul, Nat.zero_add, List.set_append_left _ _ (by omega)]
      rfl
    | succ k =>
      have e2 : insVals ((z :: l).set (k + 1) { x with k := y }) = insCells z ++ insVals (l.set k { x with k := y }) := rfl
      rw [e, e2, ← ih k (by simpa using hk), List.set_append_right _ _ (by omega), hz, show (k + 1) * 5 + 4 - 5 = k * 5 + 4 by omega]
/-- A program in memory of its own: no two of its lists share any. -/
structure Cp (base : Nat) (w : World) (l : List Fn) (qv : Value) (tv : List At) : Prop where
  row : w.ownsRow 0 35 4 qv l.length (List.zipWith tfCells l tv).flatten
  code : ∀ (i : Nat) (f : Fn) (t : At), l[i]? = some f → tv[i]? = some t → w.ownsRow 0 37 5 (.slice t.1 f.code.length t.2) f.code.length (insVals f.code)
  len : tv.length = l.length
  low : ∀ g, qv.ownBlock = some g → base ≤ g
  cl : ∀ (i : Nat) (t : At) (g : Nat), tv[i]? = some t → t.blk = some g → base ≤ g
  nd : ∀ (i j : Nat) (t u : At) (g : Nat), tv[i]? = some t → tv[j]? = some u → t.blk = some g → u.blk = some g → i = j
theorem At.blk_slice (a : Option Addr) (n c k : Nat) : (Value.slice a n c).ownBlock = At.blk (a, k) := by cases a <;> rfl
theorem Cp.more {base : Nat} {w w' : World} {l : List Fn} {qv : Value} {tv : List At} (h : Cp base w l qv tv) (hk : Keeps None w w') : Cp base w' l qv tv :=
  ⟨hk.own h.row (fun _ _ f => f), fun i f t hf ht => hk.own (h.code i f t hf ht) (fun _ _ f => f), h.len, h.low, h.cl, h.nd⟩
theorem Cp.kept {base : Nat} {w w' : World} {l : List Fn} {qv : Value} {tv : List At} {S : Nat → Prop} (h : Cp base w l qv tv) (hk : Keeps S w w') (hr : ∀ g, qv.ownBlock = some g → ¬ S g) (hc : ∀ (i : Nat) (t : At) (g : Nat), tv[i]? = some t → t.blk = some g → ¬ S g) : Cp base w' l qv tv :=
  ⟨hk.own h.row (fun g e => hr g e), fun i f t hf ht => hk.own (h.code i f t hf ht) (fun g e => hc i t g ht (by rw [← e]; exact (At.blk_slice _ _ _ _).symm)), h.len, h.low, h.cl, h.nd⟩
theorem Cp.seen {base : Nat} {w : World} {l : List Fn} {qv : Value} {tv : List At} (h : Cp base w l qv tv) : ∃ a c, qv = .slice a l.length c ∧ SeenF w a l.length l := by
  have e : l.take l.length = l := List.take_of_length_le (Nat.le_refl _)
  exact rows_seen (k := l.length) (by rw [e]; exact h.row) (fun i f t hf ht => h.code i f t (by rw [e] at hf; exact hf) ht) h.len rfl
/-- One constant of it is written over. -/
theorem Cp.put {base : Nat} {w : World} {l : List Fn} {qv : Value} {tv : List At} (h : Cp base w l qv tv) {i k : Nat} {f : Fn} {x : Ins} {t : At} (hf : l[i]? = some f) (hx : f.code[k]? = some x) (ht : tv[i]? = some t) (y : Int) :
    ∃ cb, t.1 = some ⟨cb, 0, none⟩ ∧ InsAt w cb (k * 5) x ∧ (∀ j, w.frozen? ⟨cb, j, none⟩ = false) ∧ Cp base (w.setCell ⟨cb, k * 5 + 4, none⟩ (.int .i64 y)) (l.set i { f with code := f.code.set k { x with k := y } }) qv tv ∧ Keeps (· = cb) w (w.setCell ⟨cb, k * 5 + 4, none⟩ (.int .i64 y)) ∧ base ≤ cb := by
  have hkl := (List.getElem?_eq_some_iff.1 hx).1
  have hil := (List.getElem?_eq_some_iff.1 hf).1
  have hown := h.code i f t hf ht
  rcases hown.2 with ⟨_, h0⟩ | ⟨g, cap, cur, he, hb0, hg, hnc, hcm, hcs, htk⟩
  · omega
  · have he2 := he
    injection he with e1 e2 e3
    have hL := insVals_length f.code
    have hblk : t.blk = some g := by unfold At.blk; rw [e1]; rfl
    have hcell : ∀ j v, (insCells x)[j]? = some v → w.cell? ⟨g, k * 5 + j, none⟩ = some v := fun j v hv => by
      have hj : j < 5 := by have := (List.getElem?_eq_some_iff.1 hv).1; simpa [insCells] using this
      have h1 := insVals_at f.code k x hx j v hv
      rw [← htk, List.getElem?_take, if_pos (by omega)] at h1
      rw [blk_cell hg, ← Array.getElem?_toList]
      exact h1
    have kS : Keeps (· = g) w (w.setCell ⟨g, k * 5 + 4, none⟩ (.int .i64 y)) := Keeps.setCell (S := (· = g)) w (a := ⟨g, k * 5 + 4, none⟩) rfl _
    refine ⟨g, e1, ⟨hcell 0 _ rfl, hcell 1 _ rfl, hcell 2 _ rfl, hcell 3 _ rfl, hcell 4 _ rfl⟩, fun j => blk_free hg j, ?_, kS, h.cl i t g ht hblk⟩
    have hz : List.zipWith tfCells (l.set i { f with code := f.code.set k { x with k := y } }) tv = List.zipWith tfCells l tv := by
      apply List.ext_getElem?
      intro j
      rw [List.getElem?_zipWith, List.getElem?_zipWith]
      by_cases hji : i = j
      · subst hji
        rw [List.getElem?_set_self hil, hf, ht]
        simp [tfCells]
      · rw [List.getElem?_set_ne hji]
    refine ⟨?_, ?_, by rw [List.length_set]; exact h.len, h.low, h.cl, h.nd⟩
    · rw [hz, List.length_set]
      exact kS.own h.row (fun q e hq => by subst hq; exact absurd (own_type h.row e hg) (by decide))
    · intro j f' t' hf' ht'
      by_cases hji : i = j
      · subst hji
        rw [List.getElem?_set_self hil] at hf'
        obtain rfl := Option.some.inj hf'
        rw [ht] at ht'
        obtain rfl := Option.some.inj ht'
        simp only [List.length_set]
        refine ⟨by rw [insVals_length, List.length_set], .inr ⟨g, cap, _, he2, hb0, blk_set hg _, hnc, hcm, by simpa using hcs, ?_⟩⟩
        rw [Array.toList_setIfInBounds, List.take_set, htk]
        exact ins_put f.code k x y hx
      · rw [List.getElem?_set_ne hji] at hf'
        refine kS.own (h.code j f' t' hf' ht') (fun q e hq => ?_)
        subst hq
        exact hji (h.nd i j t t' q ht ht' hblk (by rw [← e]; exact (At.blk_slice _ _ _ _).symm))
end Go.Proofs.YtbdpdojeaahpjaaGreatDoor
/-! A program copied: the statements' own. -/
namespace Go.Proofs.YtbdpdojeaahpjaaGreatDoor
set_option linter.unusedVariables false
set_option maxRecDepth 20000
open Go.RowKit Go.HeapKit

def CopiedOwn (w : World) (l : List Fn) (n : Nat) (e : Ending) (w' : World) : Prop := ∃ a c tv, e = .returned (.agg #[.slice a n c]) ∧ Cp w.heap.size w' l (.slice a n c) tv ∧ Keeps None w w'
end Go.Proofs.YtbdpdojeaahpjaaGreatDoor
/-! The statements' own: two programs, two lists that are the same; a list copied. -/
namespace Go.Proofs.YtbdpdojeaahpjaaGreatDoor
set_option linter.unusedVariables false
set_option maxRecDepth 20000
open Go.RowKit Go.HeapKit Go.PlainOps

theorem neqIns6 (a b c d e : Int) (w : World) : (binOp .neq 37 (.agg #[.int .i64 a, .int .i64 b, .int .i64 c, .int .i64 d, .int .i64 e]) (.agg #[.int .i64 a, .int .i64 b, .int .i64 c, .int .i64 d, .int .i64 e])).run Tryz.prog w = .ok (.bool false) w := by
  have u3 := Tryz.underlying3
  have a3 := Tryz.isAgg3
  have z3 := Tryz.sizeOf3
  have u2 := Tryz.underlying2
  have a2 := Tryz.isAgg2
  have z2 := Tryz.sizeOf2
  have hS : Tryz.prog.underlying 37 = some (.struct (Tryz.prog.fieldsOf 37)) := by kernel_rfl
  have hp : Tryz.prog.stoodInHeld 37 = false := by kernel_rfl
  rw [run_neq_struct, show (10000 : Nat) = 9999 + 1 from rfl, run_equalIn_agg w 9999 37 _ _ hS hp]
  simp only [Program.fieldsOf, Tryz.underlying37]
  go_simp
end Go.Proofs.YtbdpdojeaahpjaaGreatDoor
/-! pay, wait, leave. -/
namespace Go.Proofs.YtbdpdojeaahpjaaGreatDoor
set_option linter.unusedVariables false
set_option maxRecDepth 20000
open Go.RowKit Go.HeapKit Go.PlainOps

theorem pay_out (R X : Nat) (fv nv : Value) (L : Bool) (s : Rn) (w : World) (h : IsRn w R fv L s nv) (h0 : s.fuel = 0) :
    Calls Tryz.prog 27 #[.pointer (some ⟨R, 0, none⟩), .pointer (some ⟨X, 0, none⟩)] w fun e w' => e = .panicked (thrownE 62) ∧ w' = w := by
  have c1 : w.cell? ⟨R, 1, none⟩ = some (.int .i64 0) := by rw [blk_cell h.blk]; simp [h0]
  clear h h0
  go_enter Tryz.func27, Tryz.ntmps27
  go_wp2_with (go_at_call 25; refine (sgiveUp_any _ _).mono ?_; rintro _ w' ⟨rfl, rfl⟩)
  exact ⟨rfl, rfl, rfl⟩
theorem pay_any (R X : Nat) (fv nv : Value) (L : Bool) (s : Rn) (at_ : Int) (t : Tk) (w : World) (h : IsRn w R fv L s nv) (ht : IsTk w X at_ t) (h0 : s.fuel ≠ 0) (hs : s.fuel ≤ 8388608) (b1 : 0 ≤ t.node.work ∧ t.node.work ≤ 8388608) (b2 : 0 ≤ t.span ∧ t.span ≤ 8388608) :
    Calls Tryz.prog 27 #[.pointer (some ⟨R, 0, none⟩), .pointer (some ⟨X, 0, none⟩)] w fun e w' => e = .returned (.tuple #[]) ∧ IsRn w' R fv L (payS s) nv ∧ IsTk w' X at_ (payT t) ∧ Keeps (fun k => k = R ∨ k = X) w w' := by
  obtain ⟨m, hm⟩ : ∃ m, s.fuel = m + 1 := ⟨s.fuel - 1, by omega⟩
  obtain ⟨F, hF⟩ : ∃ F : Int, F = (m : Int) + 1 := ⟨_, rfl⟩
  have c1 : w.cell? ⟨R, 1, none⟩ = some (.int .i64 F) := by rw [blk_cell h.blk]; simp [hm, hF]
  have c2 := ht.tail 3 rfl
  have c3 := ht.tail 9 rfl
  have z1 := blk_free h.blk 1
  have z2 := ht.free 31
  have z3 := ht.free 37
  have n1 := h.ne ht
  have n2 := n1.symm
  have f1 : (F == 0) = false := by simp; omega
  have f2 : F ≤ 8388609 := by omega
  have f3 : 1 ≤ F := by omega
  have k1 : Keeps (· = R) w (w.setCell ⟨R, 1, none⟩ (.int .i64 (F - 1))) := Keeps.setCell (S := (· = R)) w (a := ⟨R, 1, none⟩) rfl _
  have r1 : IsRn (w.setCell ⟨R, 1, none⟩ (.int .i64 (F - 1))) R fv L (payS s) nv := h.put rfl (by simp [payS, hm, hF])
  have t1 := ht.kept k1 n2
  have t2 := t1.putTail (nf' := t.node.func) (np' := t.node.ped) (t' := { t with node := { t.node with work := t.node.work + 1 } }) (j := 3) (x := t.node.work + 1) rfl rfl rfl
  have t3 := t2.putTail (nf' := t.node.func) (np' := t.node.ped) (t' := payT t) (j := 9) (x := t.span + 1) rfl rfl rfl
  have k2 : Keeps (· = X) (w.setCell ⟨R, 1, none⟩ (.int .i64 (F - 1))) _ := ((Keeps.refl (· = X) _).andSet (x := ⟨X, 31, none⟩) (.inl rfl) (.int .i64 (t.node.work + 1))).andSet (x := ⟨X, 37, none⟩) (.inl rfl) (.int .i64 (t.span + 1))
  have HH : Hid _ := And.intro (r1.kept k2 (fun k hk e => by subst e; rcases hk with hk | hk; exact n2 hk; exact r1.nX t1 hk)) (And.intro t3 ((k1.mono (fun _ e _ => Or.inl e)).trans k2 (fun _ e _ => Or.inr e)))
  clear h ht k1 r1 t1 t2 t3 k2 hF hm h0 hs
  obtain ⟨W, hW⟩ : ∃ W, W = t.node.work := ⟨_, rfl⟩
  obtain ⟨P, hP⟩ : ∃ P, P = t.span := ⟨_, rfl⟩
  go_enter Tryz.func27, Tryz.ntmps27
  go_wp2_with fail
  go_end0
  exact ⟨rfl, HH.out⟩
end Go.Proofs.YtbdpdojeaahpjaaGreatDoor
/-! wait, leave, enter. -/
namespace Go.Proofs.YtbdpdojeaahpjaaGreatDoor
set_option linter.unusedVariables false
set_option maxRecDepth 20000
open Go.RowKit Go.HeapKit Go.PlainOps

theorem wrap_small {x : Int} (h : -9223372036854775808 ≤ x ∧ x ≤ 9223372036854775807) : IntKind.i64.wrap x = x := by
  simp [IntKind.wrap, IntKind.bits, IntKind.signed]; omega
theorem wait_any (X : Nat) (at_ : Int) (t : Tk) (w : World) (ht : IsTk w X at_ t) (b1 : 0 ≤ t.due ∧ t.due ≤ 8388608) (b2 : 0 ≤ t.span ∧ t.span ≤ 8388608) :
    Calls Tryz.prog 29 #[.pointer (some ⟨X, 0, none⟩)] w fun e w' => e = .returned (.tuple #[]) ∧ IsTk w' X at_ (waitT t) ∧ Keeps (· = X) w w' := by
  have c1 := ht.tail 9 rfl
  have c2 := ht.tail 10 rfl
  have z1 := ht.free 37
  have t1 := ht.putTail (nf' := t.node.func) (np' := t.node.ped) (t' := waitT t) (j := 9) (x := imax t.span (t.due + 1)) rfl rfl rfl
  have k1 : Keeps (· = X) w _ := (Keeps.refl (· = X) w).andSet (x := ⟨X, 37, none⟩) (.inl rfl) (.int .i64 (imax t.span (t.due + 1)))
  have HH : Hid _ := And.intro (t1.kept (Keeps.drew None _) (fun f => f)) k1.andDrew
  clear ht t1 k1
  go_enter Tryz.func29, Tryz.ntmps29
  go_wp2_with fail
  go_region
  all_goals go_end0
  all_goals exact ⟨rfl, HH.out⟩
theorem leave_off (R X : Nat) (fv nv : Value) (s : Rn) (at_ : Int) (t : Tk) (w : World) (h : IsRn w R fv false s nv) :
    Calls Tryz.prog 30 #[.pointer (some ⟨R, 0, none⟩), .pointer (some ⟨X, 0, none⟩)] w fun e w' => e = .returned (.tuple #[]) ∧ w' = w := by
  have c1 : w.cell? ⟨R, 4, none⟩ = some (.bool false) := (blk_cell h.blk 4).trans rfl
  clear h
  go_enter Tryz.func30, Tryz.ntmps30
  go_wp2_with fail
  go_end0
  exact ⟨rfl, rfl⟩
theorem leave_on (R X : Nat) (fv nv : Value) (s : Rn) (at_ : Int) (t : Tk) (w : World) (h : IsRn w R fv true s nv) (ht : IsTk w X at_ t) (hn : 0 ≤ t.number ∧ t.number < s.nodes.length) :
    Calls Tryz.prog 30 #[.pointer (some ⟨R, 0, none⟩), .pointer (some ⟨X, 0, none⟩)] w fun e w' => e = .returned (.tuple #[]) ∧ IsRn w' R fv true (leaveS true s t) nv ∧ IsTk w' X at_ t ∧ Keeps (RFoot R nv) w w' := by
  have hL := ndVals_length s.nodes
  have nX := h.nX ht
  have nR := h.nR
  rcases h.row.2 with ⟨_, h0⟩ | ⟨g, cap, cur, rfl, hb, hg, hnc, hcm, hcs, htk⟩
  · omega
  · obtain ⟨k, hk⟩ := Int.eq_ofNat_of_zero_le hn.1
    have hk2 : k < s.nodes.length := by omega
    have c1 : w.cell? ⟨R, 4, none⟩ = some (.bool true) := (blk_cell h.blk 4).trans rfl
    have c2 : w.cell? ⟨R, 5, none⟩ = some (.slice (some ⟨g, 0, none⟩) s.nodes.length cap) := (blk_cell h.blk 5).trans rfl
    have d0 := ht.tail 0 rfl
    have d1 := ht.tail 1 rfl
    have d2 := ht.tail 2 rfl
    have d3 := ht.tail 3 rfl
    have d4 := ht.tail 4 rfl
    have d5 := ht.tail 5 rfl
    have d6 := ht.tail 6 rfl
    have d7 : w.cell? ⟨X, 35, none⟩ = some (.int .i64 (k : Int)) := by rw [← hk]; exact ht.tail 7 rfl
    have z : ∀ j, w.frozen? ⟨g, j, none⟩ = false := fun j => blk_free hg j
    have z0 := z (k * 7)
    have z1 := z (k * 7 + 1)
    have z2 := z (k * 7 + 2)
    have z3 := z (k * 7 + 3)
    have z4 := z (k * 7 + 4)
    have z5 := z (k * 7 + 5)
    have z6 := z (k * 7 + 6)
    have hsz : s.nodes.length * 7 ≤ cur.size := by rw [hcs]; exact Nat.mul_le_mul_right _ hnc
    have at_ : ∀ j, j < 7 → ∃ v, w.cell? ⟨g, k * 7 + j, none⟩ = some v := fun j hj => ⟨cur[k * 7 + j]'(by omega), by rw [blk_cell hg]; simp⟩
    obtain ⟨v0, y0⟩ := at_ 0 (by omega)
    obtain ⟨v1, y1⟩ := at_ 1 (by omega)
    obtain ⟨v2, y2⟩ := at_ 2 (by omega)
    obtain ⟨v3, y3⟩ := at_ 3 (by omega)
    obtain ⟨v4, y4⟩ := at_ 4 (by omega)
    obtain ⟨v5, y5⟩ := at_ 5 (by omega)
    obtain ⟨v6, y6⟩ := at_ 6 (by omega)
    simp only [Nat.add_zero] at y0
    have i1 : (k : Int) < (s.nodes.length : Int) := by omega
    obtain ⟨w2, hw2⟩ : ∃ w2, w2 = ((((((w.setCell ⟨g, k * 7, none⟩ (.int .i64 t.node.parent)).setCell ⟨g, k * 7 + 1, none⟩ (.int .i64 t.node.idx)).setCell ⟨g, k * 7 + 2, none⟩ (.int .i64 t.node.func)).setCell ⟨g, k * 7 + 3, none⟩ (.int .i64 t.node.work)).setCell ⟨g, k * 7 + 4, none⟩ (.int .i64 t.node.ped)).setCell ⟨g, k * 7 + 5, none⟩ (.int .i64 t.node.arg)).setCell ⟨g, k * 7 + 6, none⟩ (.int .i64 t.node.v) := ⟨_, rfl⟩
    have hk1 : Keeps (· = g) w w2 := by
      rw [hw2]
      exact (((((((Keeps.refl (· = g) w).andSet (x := ⟨g, k * 7, none⟩) (.inl rfl) _).andSet (x := ⟨g, k * 7 + 1, none⟩) (.inl rfl) _).andSet (x := ⟨g, k * 7 + 2, none⟩) (.inl rfl) _).andSet (x := ⟨g, k * 7 + 3, none⟩) (.inl rfl) _).andSet (x := ⟨g, k * 7 + 4, none⟩) (.inl rfl) _).andSet (x := ⟨g, k * 7 + 5, none⟩) (.inl rfl) _).andSet (x := ⟨g, k * 7 + 6, none⟩) (.inl rfl) _
    have ngX : g ≠ X := fun e => nX (by rw [← e]; rfl)
    have ngR : g ≠ R := fun e => nR (by rw [← e]; rfl)
    have hrn : IsRn w2 R fv true (leaveS true s t) (.slice (some ⟨g, 0, none⟩) s.nodes.length cap) := by
      refine ⟨blk_kept h.blk hk1 (fun e => ngR e.symm), ?_⟩
      have hlen : (leaveS true s t).nodes.length = s.nodes.length := by simp [leaveS]
      rw [hlen]
      refine ⟨by rw [ndVals_length, hlen], .inr ⟨g, cap, _, rfl, hb, by rw [hw2]; exact blk_set (blk_set (blk_set (blk_set (blk_set (blk_set (blk_set hg _) _) _) _) _) _) _, hnc, hcm, by simpa using hcs, ?_⟩⟩
      have e : (leaveS true s t).nodes = s.nodes.set k t.node := by simp [leaveS, hk]
      rw [e, ← ndVals_set s.nodes k t.node hk2]
      simp only [Array.toList_setIfInBounds]
      have hall : ∀ (l : List Value) (q : Nat) (v : Value), (l.set q v).take (s.nodes.length * 7) = (l.take (s.nodes.length * 7)).set q v := fun l q v => by rw [List.take_set]
      rw [hall, hall, hall, hall, hall, hall, hall, htk]
    have HH : Hid _ := And.intro (hrn.kept (Keeps.drew None _) (fun _ _ f => f)) (And.intro ((ht.kept hk1 (fun e => ngX e.symm)).kept (Keeps.drew None _) (fun f => f)) (hk1.andDrew.mono (fun i e _ => (Or.inr (by subst e; rfl) : RFoot R (.slice (some ⟨g, 0, none⟩) s.nodes.length cap) i))))
    rw [hw2] at HH
    clear h ht hrn hk1 hw2 at_ z
    go_enter Tryz.func30, Tryz.ntmps30
    go_wp2_with fail
    go_region
    all_goals go_end0
    all_goals exact ⟨rfl, HH.out⟩
end Go.Proofs.YtbdpdojeaahpjaaGreatDoor
/-! enter. -/
namespace Go.Proofs.YtbdpdojeaahpjaaGreatDoor
set_option linter.unusedVariables false
set_option maxRecDepth 20000
set_option linter.unusedSimpArgs false
open Go.RowKit Go.HeapKit Go.PlainOps

theorem enter_deep (R X : Nat) (t : Tk) (w : World) (ht : IsTkN w X 0 0 0 t) (hd : 4096 < t.depth) :
    Calls Tryz.prog 26 #[.pointer (some ⟨R, 0, none⟩), .pointer (some ⟨X, 0, none⟩)] w fun e w' => e = .panicked (thrownE 63) ∧ w' = w := by
  have c1 := ht.tail 8 rfl
  clear ht
  go_enter Tryz.func26, Tryz.ntmps26
  go_wp2_with (go_at_call 25; refine (sgiveUp_any _ _).mono ?_; rintro _ w' ⟨rfl, rfl⟩)
  exact ⟨rfl, rfl, rfl⟩
/-- What 'enter' does ahead of the node's own cells. -/
def entW (w : World) (R X : Nat) (T0 M : Int) : World := (((w.setCell ⟨X, 35, none⟩ (.int .i64 T0)).setCell ⟨R, 2, none⟩ (.int .i64 (T0 + 1))).setCell ⟨R, 3, none⟩ (.int .i64 M)).drew
theorem entered {R X : Nat} {fv nv : Value} {L : Bool} {s : Rn} {t : Tk} {w : World} (h : IsRn w R fv L s nv) (ht : IsTkN w X 0 0 0 t) :
    IsRn (entW w R X s.tasks (imax s.depth t.depth)) R fv L { s with tasks := s.tasks + 1, depth := imax s.depth t.depth } nv ∧
    IsTkN (entW w R X s.tasks (imax s.depth t.depth)) X 0 0 0 { t with number := s.tasks } ∧
    Keeps (fun k => k = R ∨ k = X) w (entW w R X s.tasks (imax s.depth t.depth)) := by
  have n1 := h.ne ht
  have ka : Keeps (· = X) w (w.setCell ⟨X, 35, none⟩ (.int .i64 s.tasks)) := Keeps.setCell (S := (· = X)) w (a := ⟨X, 35, none⟩) rfl _
  have ta := ht.putTail (nf' := 0) (np' := 0) (t' := { t with number := s.tasks }) (j := 7) (x := s.tasks) rfl rfl rfl
  have ra := h.kept ka (fun k hk e => by subst e; rcases hk with hk | hk; exact n1 hk.symm; exact h.nX ht hk)
  have rb := ra.put (k := 2) (x := (s.tasks : Int) + 1) (s' := { s with tasks := s.tasks + 1 }) rfl (by simp)
  have kb : Keeps (· = R) _ _ := Keeps.setCell (S := (· = R)) (w.setCell ⟨X, 35, none⟩ (.int .i64 s.tasks)) (a := ⟨R, 2, none⟩) rfl (.int .i64 ((s.tasks : Int) + 1))
  have tb := ta.kept kb n1.symm
  have rc := rb.put (k := 3) (x := imax s.depth t.depth) (s' := { s with tasks := s.tasks + 1, depth := imax s.depth t.depth }) rfl (by simp)
  have kc : Keeps (· = R) _ _ := Keeps.setCell (S := (· = R)) ((w.setCell ⟨X, 35, none⟩ (.int .i64 s.tasks)).setCell ⟨R, 2, none⟩ (.int .i64 ((s.tasks : Int) + 1))) (a := ⟨R, 3, none⟩) rfl (.int .i64 (imax s.depth t.depth))
  have tc := tb.kept kc n1.symm
  have kd := Keeps.drew None (((w.setCell ⟨X, 35, none⟩ (.int .i64 s.tasks)).setCell ⟨R, 2, none⟩ (.int .i64 ((s.tasks : Int) + 1))).setCell ⟨R, 3, none⟩ (.int .i64 (imax s.depth t.depth)))
  refine ⟨rc.kept kd (fun _ _ f => f), tc.kept kd (fun f => f), ?_⟩
  exact (((ka.mono (fun _ e _ => Or.inr e)).trans kb (fun _ e _ => Or.inl e)).trans kc (fun _ e _ => Or.inl e)).trans kd (fun _ f _ => f.elim)
/-- The node's own cells. -/
def entN (W : World) (X : Nat) (F P A0 : Int) : World := (((W.setCell ⟨X, 30, none⟩ (.int .i64 F)).setCell ⟨X, 32, none⟩ (.int .i64 P)).setCell ⟨X, 33, none⟩ (.int .i64 A0)).drew
theorem entered2 {R X : Nat} {fv nv : Value} {L : Bool} {s s' : Rn} {t : Tk} {W : World} (h : IsRn W R fv L s nv) (ht : IsTkN W X 0 0 0 { t with number := s'.tasks }) :
    IsRn (entN W X t.node.func t.node.ped (t.regs.getD 0 0)) R fv L s nv ∧ IsTk (entN W X t.node.func t.node.ped (t.regs.getD 0 0)) X 0 (enterT s' t) ∧ Keeps (· = X) W (entN W X t.node.func t.node.ped (t.regs.getD 0 0)) := by
  have n1 := h.ne ht
  have ta := ht.putTail (nf' := t.node.func) (np' := 0) (t' := { t with number := s'.tasks }) (j := 2) (x := t.node.func) rfl rfl rfl
  have tb := ta.putTail (nf' := t.node.func) (np' := t.node.ped) (t' := { t with number := s'.tasks }) (j := 4) (x := t.node.ped) rfl rfl rfl
  have tc := tb.putTail (nf' := t.node.func) (np' := t.node.ped) (t' := enterT s' t) (j := 5) (x := t.regs.getD 0 0) rfl rfl rfl
  have kk : Keeps (· = X) W _ := (((Keeps.refl (· = X) W).andSet (x := ⟨X, 30, none⟩) (.inl rfl) (.int .i64 t.node.func)).andSet (x := ⟨X, 32, none⟩) (.inl rfl) (.int .i64 t.node.ped)).andSet (x := ⟨X, 33, none⟩) (.inl rfl) (.int .i64 (t.regs.getD 0 0))
  exact ⟨h.kept kk.andDrew (fun k hk e => by subst e; rcases hk with hk | hk; exact n1 hk.symm; exact h.nX ht hk), tc.kept (Keeps.drew None _) (fun f => f), kk.andDrew⟩
set_option maxHeartbeats 1000000 in
theorem enter_off (R X : Nat) (fv nv : Value) (s : Rn) (t : Tk) (w : World) (h : IsRn w R fv false s nv) (ht : IsTkN w X 0 0 0 t) (hd : ¬ 4096 < t.depth) (b1 : s.tasks ≤ 8388608) :
    Calls Tryz.prog 26 #[.pointer (some ⟨R, 0, none⟩), .pointer (some ⟨X, 0, none⟩)] w fun e w' => e = .returned (.tuple #[]) ∧ IsRn w' R fv false (enterS false s t) nv ∧ IsTk w' X 0 (enterT s t) ∧ Keeps (fun k => k = R ∨ k = X) w w' := by
  have c1 := ht.tail 8 rfl
  have c2 : w.cell? ⟨R, 2, none⟩ = some (.int .i64 s.tasks) := (blk_cell h.blk 2).trans rfl
  have c3 : w.cell? ⟨R, 3, none⟩ = some (.int .i64 s.depth) := (blk_cell h.blk 3).trans rfl
  have c4 : w.cell? ⟨R, 4, none⟩ = some (.bool false) := (blk_cell h.blk 4).trans rfl
  have c7 := ht.tail 7 rfl
  have z1 := ht.free 35
  have z3 := blk_free h.blk 2
  have z4 := blk_free h.blk 3
  have n1 := h.ne ht
  have n2 := n1.symm
  obtain ⟨h2, t2, k2⟩ := entered h ht
  obtain ⟨h3, t3, k3⟩ := entered2 (s' := s) h2 t2
  have HH : Hid (IsRn (entN (entW w R X s.tasks (imax s.depth t.depth)) X t.node.func t.node.ped (t.regs.getD 0 0)) R fv false (enterS false s t) nv ∧ IsTk (entN (entW w R X s.tasks (imax s.depth t.depth)) X t.node.func t.node.ped (t.regs.getD 0 0)) X 0 (enterT s t) ∧ Keeps (fun k => k = R ∨ k = X) w (entN (entW w R X s.tasks (imax s.depth t.depth)) X t.node.func t.node.ped (t.regs.getD 0 0))) := ⟨h3, t3, k2.trans k3 (fun _ e _ => .inr e)⟩
  have d1 := t2.tsk.func
  have d2 := t2.tsk.ped
  have d3 := t2.reg (k := 0) (by omega)
  have d4 : (entW w R X s.tasks (imax s.depth t.depth)).cell? ⟨R, 4, none⟩ = some (.bool false) := (blk_cell h2.blk 4).trans rfl
  have e1 := t2.tail 2 rfl
  have e2 := t2.tail 4 rfl
  have e3 := t2.tail 5 rfl
  have f1 := t2.free 30
  have f2 := t2.free 32
  have f3 := t2.free 33
  clear h ht h2 t2 k2 h3 t3 k3
  obtain ⟨T0, hT0⟩ : ∃ T0 : Int, T0 = s.tasks := ⟨_, rfl⟩
  rw [← hT0] at c2 HH d1 d2 d3 d4 e1 e2 e3 f1 f2 f3
  have b2 : 0 ≤ T0 ∧ T0 ≤ 8388608 := by omega
  obtain ⟨W, hW⟩ : ∃ W, W = entW w R X T0 (imax s.depth t.depth) := ⟨_, rfl⟩
  rw [← hW] at HH d1 d2 d3 d4 e1 e2 e3 f1 f2 f3
  unfold entN at HH
  clear hT0
  have dd1 : W.cell? ⟨X, 0, none⟩ = some (.int .i64 t.node.func) := d1
  have dd2 : W.cell? ⟨X, 18, none⟩ = some (.int .i64 t.node.ped) := d2
  have dd3 : W.cell? ⟨X, 2, none⟩ = some (.int .i64 (t.regs.getD 0 0)) := d3
  clear d1 d2 d3
  unfold entW at hW
  have HW : Hid _ := hW
  clear hW
  generalize t.regs.getD 0 0 = A0 at *
  go_enter Tryz.func26, Tryz.ntmps26
  by_cases hlt : s.depth < t.depth
  · have e : imax s.depth t.depth = t.depth := if_pos hlt
    rw [e] at HW
    clear e
    go_wp2_with fail
    go_region
    all_goals go_upto_region 5 with fail
    all_goals rw [← HW.out]
    all_goals clear c1 c2 c3 c4 c7 z1 z3 z4 HW
    all_goals go_region
    all_goals go_wp2_with fail
    all_goals go_end0
    all_goals exact ⟨rfl, HH.out⟩
  · have e : imax s.depth t.depth = s.depth := if_neg hlt
    rw [e] at HW
    clear e
    go_wp2_with fail
    go_region
    all_goals go_upto_region 5 with fail
    all_goals rw [← HW.out]
    all_goals clear c1 c2 c3 c4 c7 z1 z3 z4 HW
    all_goals go_region
    all_goals go_wp2_with fail
    all_goals go_end0
    all_goals exact ⟨rfl, HH.out⟩
end Go.Proofs.YtbdpdojeaahpjaaGreatDoor
