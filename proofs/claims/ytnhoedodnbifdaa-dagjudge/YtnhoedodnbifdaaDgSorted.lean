import Derived.Test.YtnhoedodnbifdaaDgSeq
/-! slices.Sorted(slices.Values(..)) of whole numbers. -/
namespace Go.Proofs.Ytnhoedodnbifdaa
set_option linter.unusedVariables false
set_option maxRecDepth 20000
open Go.RowKit Go.HeapKit Go.Shelf Go.Sort
attribute [local go_sem] Oper.semAt_some

theorem row_grown {A B : World} {row : Option Nat} {base : Nat} {e : TypeId} {size : Nat} {v : Value} {k : Nat} {xs : List Value} (h : A.ownsRow base e size v k xs) (hg : A.grownBy B row)
    (hr : ∀ r, row = some r → ∃ o : Obj, A.heap[r]? = some o ∧ o.isCells = false) : B.ownsRow base e size v k xs := by
  refine row_kept h (Keeps.grown (S := fun i => row = some i) hg (fun i e => e)) (fun g hg' e => ?_)
  obtain ⟨o, ho, hc⟩ := hr g e
  rcases ownsRow_ne_a h ho (fun cur e2 => by subst e2; cases hc) with e1 | e1
  · rw [hg'] at e1; cases e1
  · exact e1 hg'
set_option maxRecDepth 100000 in
set_option maxHeartbeats 2000000 in
theorem appendSeq_any (n : Nat) (hn : 3 ≤ n) (Bs : Nat) (ap : Option Addr) (len cap : Nat) (zs : List Int) (hlen : len = zs.length) (hreach : len ≤ 4096) (w : World) (hBs : Bs < w.heap.size)
    (hc : w.cell? ⟨Bs, 0, none⟩ = some (.slice ap len cap)) (hI : 0 < len → ∃ b off, ap = some ⟨b, off, none⟩ ∧ b < w.heap.size ∧ ∀ k x, zs[k]? = some x → w.cell? ⟨b, off + k, none⟩ = some (.int .i64 x)) :
    CallsIn Fence.wide n Try.prog 69 #[.slice none 0 0, .func (.func 65) #[] #[.pointer (some ⟨Bs, 0, none⟩)]] w fun e w' => ∃ v, e = .returned v ∧ w'.ownsRow w.heap.size 3 1 v len (iv zs) ∧ Below w.heap.size w w' := by
  have h1 : 1 ≤ n := by omega
  have hro : Fence.wide.round = none := rfl
  have HL : Hid (len = zs.length) := hlen
  have HI : Hid (0 < len → ∃ b off, ap = some ⟨b, off, none⟩ ∧ b < w.heap.size ∧ ∀ k x, zs[k]? = some x → w.cell? ⟨b, off + k, none⟩ = some (.int .i64 x)) := hI
  have HC : Hid (w.cell? ⟨Bs, 0, none⟩ = some (.slice ap len cap)) := hc
  clear hlen hI hc
  obtain ⟨i0, hi, hz0, hz1, hz2⟩ := info_parts Try.sortedA.i26
  refine callsIn_of_wp_marks Try.func69 rfl trivial ?_ hro
  simp only [Try.ntmps69, List.size_toArray, List.length_cons, List.length_nil, Nat.reduceAdd, Nat.reduceSub, Array.replicate_succ, Array.replicate_zero, List.push_toArray, List.append_toArray, List.nil_append, List.cons_append]
  gi_wp2
  have hbox : (w.alloc (.cells #[.slice none 0 0] 25)).heap[w.heap.size]? = some (.cells #[.slice none 0 0] 25 (0, 0)) := heap_alloc_new w _
  have hB0 : Below w.heap.size w (w.alloc (.cells #[.slice none 0 0] 25)) := (Below.refl _ w).alloc (Nat.le_refl _) _
  have hsz : (w.alloc (.cells #[.slice none 0 0] 25)).heap.size = w.heap.size + 1 := by simp
  refine wpIn_rangeFunc_ownG hro h1 (gf := 65) (lb := #[.pointer (some ⟨Bs, 0, none⟩)]) rfl trivial (enters_of Try.func65 (by kernel_rfl) rfl)
    (vals_stops Fence.wide (n - 1) trivial hro (by omega) Bs w.heap.size ap len cap zs HL.out hreach _ (by omega) (by omega) ((hB0.cell (p := ⟨Bs, 0, none⟩) hBs).trans HC.out) (fun h => by
      obtain ⟨b, off, e, hb, hcc⟩ := HI.out h
      exact ⟨b, off, e, hb, fun k x hx => (hB0.cell (p := ⟨b, off + k, none⟩) hb).trans (hcc k x hx)⟩)) belowK_t (belowK_b (by omega)) (Below.refl _ _) (fun _ => rfl)
    (fun pre W => (∃ v, W.heap[w.heap.size]? = some (.cells #[v] 25 (0, 0)) ∧ W.ownsRow w.heap.size 3 1 v pre.length (iv pre)) ∧ Below w.heap.size w W)
    (fun _ _ _ => False)
    (OwnFrom.and (Own.from (fun s A B row hs hg hr => by
      obtain ⟨v, hv, hrow⟩ := hs
      exact ⟨v, (grownBy_keeps_cells hg hr hv rfl).trans hv, row_grown hrow hg hr⟩) _) (ownFrom_below (Nat.le_refl _) (by omega)))
    (fun _ _ _ _ _ hs _ _ => hs)
    ⟨⟨_, hbox, row_nil _ _ _ _⟩, hB0⟩
    (fun x => { tmps := #[.slice none 0 0, .func (.func 65) #[] #[.pointer (some ⟨Bs, 0, none⟩)], .pointer (some ⟨w.heap.size, 0, none⟩), undef, .slice none 0 0, .int .i64 x, .func (.func 65) #[] #[.pointer (some ⟨Bs, 0, none⟩)], .int .i64 x, undef, undef, undef, undef, undef], defers := [] }) ?assign ?body ?done ?stop
  case assign =>
    intro l x W K hK
    gi_wp2
    exact hK
  case body =>
    rintro l pre x W ⟨⟨v, hv, hrow⟩, hB⟩ hpre
    have c0 : W.cell? ⟨w.heap.size, 0, none⟩ = some v := (blk_cell hv 0).trans rfl
    obtain ⟨va, vc, rfl⟩ := row_shape hrow
    have hBz := hB.size
    have HB : Hid (W.heap[w.heap.size]? = some (.cells #[.slice va pre.length vc] 25 (0, 0)) ∧ W.ownsRow w.heap.size 3 1 (.slice va pre.length vc) pre.length (iv pre) ∧ Below w.heap.size w W) := ⟨hv, hrow, hB⟩
    clear hv hrow hB hbox hB0 hsz
    gi_wp2_with (first
      | (gi_at_builtin; refine wpListIn_append_own _ rfl _ _ 25 rfl w.heap.size 3 i0 (.int .i64 0) 1 8 Try.sortedA.t24 hi hz0 hz1 hz2 rfl (by decide) _ _ _ rfl (HB.out.2.1.alloc _) ⟨W.heap.size, 0, none⟩ 1 1 [.int .i64 x] rfl rfl (cell_one_new _ _ _) (by simp [Value.oneCell']) (by unfold maxLen; omega) (by omega) (by simp; omega) ?_
         intro v' w3 hown' hg3 hnil3
         obtain ⟨va', vc', rfl⟩ := row_shape hown'
         have hne : ∀ g, (Value.slice va pre.length vc).ownBlock = some g → g ≠ w.heap.size := fun g e e2 => absurd (own_type HB.out.2.1 e (e2 ▸ HB.out.1)) (by decide)
         have hk3 : Keeps (fun g => (Value.slice va pre.length vc).ownBlock = some g) W w3 := (Keeps.alloc (fun g => (Value.slice va pre.length vc).ownBlock = some g) W (.cells #[.int .i64 x] 3)).trans (Keeps.grown (S := fun g => (Value.slice va pre.length vc).ownBlock = some g) hg3 (fun g e => e)) (fun g e _ => e)
         have hv3 : w3.heap[w.heap.size]? = some (.cells #[.slice va pre.length vc] 25 (0, 0)) := blk_kept HB.out.1 hk3 (fun e => hne _ e rfl)
         have c3 : w3.cell? ⟨w.heap.size, 0, none⟩ = some (.slice va pre.length vc) := (blk_cell hv3 0).trans rfl
         have f3 := blk_free hv3 0
         have H3 : Hid (w3.ownsRow w.heap.size 3 1 (.slice va' (pre.length + 1) vc') (pre.length + 1) (iv pre ++ [.int .i64 x]) ∧ (W.alloc (.cells #[.int .i64 x] 3)).grownBy w3 (Value.slice va pre.length vc).ownBlock ∧ w3.heap[w.heap.size]? = some (.cells #[.slice va pre.length vc] 25 (0, 0))) := ⟨hown', hg3, hv3⟩
         clear hown' hg3 hnil3 hne hk3 hv3)
      | gi_in)
    have hb3 : Below w.heap.size W w3 := ((Below.refl w.heap.size W).alloc hBz _).grown H3.out.2.1 (by simp; omega) (fun k e => (HB.out.2.1.lt k e).1)
    have hb4 := hb3.setCell (p := ⟨w.heap.size, 0, none⟩) (Nat.le_refl _) (.slice va' (pre.length + 1) vc')
    have hrow4 : (w3.setCell ⟨w.heap.size, 0, none⟩ (.slice va' (pre.length + 1) vc')).ownsRow w.heap.size 3 1 (.slice va' (pre.length + 1) vc') (pre.length + 1) (iv pre ++ [.int .i64 x]) :=
      row_kept H3.out.1 (Keeps.setCell (S := (· = w.heap.size)) w3 rfl _) (fun g e e2 => absurd (own_type H3.out.1 e (e2 ▸ H3.out.2.2)) (by decide))
    refine ⟨(((KeepsOthers.alloc W _).trans (KeepsOthers.of_grownBy H3.out.2.1 (fun j o e hj => ?_))).trans (KeepsOthers.setCell _ _ _)).from _, hb4, ⟨_, blk_set H3.out.2.2 _, ?_⟩, HB.out.2.2.trans hb4⟩
    · by_cases ho : o.isCells = true
      · exact ho
      · rcases ownsRow_ne_a (HB.out.2.1.alloc _) hj (fun cur e2 => by subst e2; exact ho rfl) with e1 | e1
        · rw [e] at e1; cases e1
        · exact absurd e e1
    · have e5 : iv (pre ++ [x]) = iv pre ++ [.int .i64 x] := by simp [iv]
      rw [e5, List.length_append]
      exact hrow4
  case done =>
    rintro D ys W hD rfl ⟨⟨v, hv, hrow⟩, hB⟩ hK
    have c0 : W.cell? ⟨w.heap.size, 0, none⟩ = some v := (blk_cell hv 0).trans rfl
    obtain ⟨va, vc, rfl⟩ := row_shape hrow
    have HB : Hid (W.ownsRow w.heap.size 3 1 (.slice va ys.length vc) ys.length (iv ys) ∧ Below w.heap.size w W) := ⟨hrow, hB⟩
    clear hv hrow hB hbox hB0 hsz
    gi_wp2
    refine ⟨by simp, .inl ⟨_, _, rfl, run_takeDeferred hK, ?_⟩⟩
    refine ⟨_, results_tmp rfl _ _ _, _, rfl, ?_, HB.out.2.trans (belowK_b (w := w) (Nat.le_refl _) W D _ _ (by simp at hD; omega) hK rfl rfl)⟩
    rw [HL.out]
    exact row_grown HB.out.1 (grownBy_putObj' _ D _) (fun r e => by cases e; exact ⟨_, hK, rfl⟩)
  case stop =>
    rintro D c pre W _ _ h _
    exact h.elim
set_option maxHeartbeats 1000000 in
theorem collect_any (n : Nat) (hn : 4 ≤ n) (Bs : Nat) (ap : Option Addr) (len cap : Nat) (zs : List Int) (hlen : len = zs.length) (hreach : len ≤ 4096) (w : World) (hBs : Bs < w.heap.size)
    (hc : w.cell? ⟨Bs, 0, none⟩ = some (.slice ap len cap)) (hI : 0 < len → ∃ b off, ap = some ⟨b, off, none⟩ ∧ b < w.heap.size ∧ ∀ k x, zs[k]? = some x → w.cell? ⟨b, off + k, none⟩ = some (.int .i64 x)) :
    CallsIn Fence.wide n Try.prog 63 #[.func (.func 65) #[] #[.pointer (some ⟨Bs, 0, none⟩)]] w fun e w' => ∃ v, e = .returned v ∧ w'.ownsRow w.heap.size 3 1 v len (iv zs) ∧ Below w.heap.size w w' := by
  have cA := appendSeq_any (n - 1) (by omega) Bs ap len cap zs hlen hreach w hBs hc hI
  clear hlen hI hc
  have h1 : 1 ≤ n := by omega
  have hfA : Fence.wide.fn 69 := trivial
  refine callsIn_of_wp Try.func63 rfl trivial ?_ rfl
  simp only [Try.ntmps63, List.size_toArray, List.length_cons, List.length_nil, Nat.reduceAdd, Nat.reduceSub, Array.replicate_succ, Array.replicate_zero, List.push_toArray, List.append_toArray, List.nil_append, List.cons_append]
  gi_wp2_with (gi_at_call 69; refine cA.mono ?_; rintro e w' ⟨v, rfl, hrow, hb⟩)
  go_ret
  exact ⟨v, rfl, hrow, hb⟩
set_option maxRecDepth 100000 in
set_option maxHeartbeats 2000000 in
theorem sorted_in (n : Nat) (hn : 5 ≤ n) (Bs : Nat) (ap : Option Addr) (len cap : Nat) (zs : List Int) (hlen : len = zs.length) (hreach : len ≤ 4096) (w : World) (hBs : Bs < w.heap.size)
    (hc : w.cell? ⟨Bs, 0, none⟩ = some (.slice ap len cap)) (hI : 0 < len → ∃ b off, ap = some ⟨b, off, none⟩ ∧ b < w.heap.size ∧ ∀ k x, zs[k]? = some x → w.cell? ⟨b, off + k, none⟩ = some (.int .i64 x)) :
    CallsIn Fence.wide n Try.prog 55 #[.func (.func 65) #[] #[.pointer (some ⟨Bs, 0, none⟩)]] w fun e w' => ∃ v, e = .returned v ∧ w'.ownsRow w.heap.size 3 1 v len (iv (zs.mergeSort fun x y => decide (x ≤ y))) ∧ Below w.heap.size w w' := by
  have cC := collect_any (n - 1) (by omega) Bs ap len cap zs hlen hreach w hBs hc hI
  have HL : Hid (len = zs.length) := hlen
  clear hlen hI hc
  have h1 : 1 ≤ n := by omega
  have hfC : Fence.wide.fn 63 := trivial
  have hfS : Fence.wide.fn 64 := trivial
  refine callsIn_of_wp Try.func55 rfl trivial ?_ rfl
  simp only [Try.ntmps55, List.size_toArray, List.length_cons, List.length_nil, Nat.reduceAdd, Nat.reduceSub, Array.replicate_succ, Array.replicate_zero, List.push_toArray, List.append_toArray, List.nil_append, List.cons_append]
  gi_wp2_with (gi_at_call 63; refine cC.mono ?_; rintro e W ⟨v, rfl, hrow, hb⟩)
  rcases hrow.2 with ⟨rfl, hz⟩ | ⟨gb, cap, cur, rfl, hbase, hgb, r1, r2, r3, r4⟩
  · have hss : zs = [] := List.eq_nil_of_length_eq_zero (by rw [← HL.out]; exact hz)
    subst hss
    have cS : CallsIn Fence.wide (n - 1) Try.prog 64 #[.slice none 0 0] W fun e w' => e = .returned (.tuple #[]) ∧ w' = W := callsIn_wide.2 (AnyM.slices_Sort_int_none Try.sortA none 0 W)
    have HR : Hid (W.ownsRow w.heap.size 3 1 (.slice none 0 0) len (iv []) ∧ Below w.heap.size w W) := ⟨hrow, hb⟩
    clear hrow hb hz
    gi_wp2_with (gi_at_call 64; refine cS.mono ?_; rintro e w' ⟨rfl, rfl⟩)
    go_ret
    exact ⟨_, rfl, by simpa using HR.out.1, HR.out.2⟩
  · have hH : Holds (Value.int .i64) W gb 0 zs.toArray := holds_of_block_i hgb (by simpa [iv, HL.out] using r4)
    have hgl : gb < W.heap.size := (Array.getElem?_eq_some_iff.1 hgb).1
    have hsz : zs.length < 4611686018427387904 := by have := HL.out; omega
    have cS0 : CallsIn Fence.wide (n - 1) Try.prog 64 #[.slice (some ⟨gb, 0, none⟩) zs.length cap] W _ := callsIn_wide.2 (AnyM.slices_Sort_int Try.sortA gb 0 cap zs W hH hgl hsz)
    rw [← HL.out] at cS0
    have HR : Hid (W.heap[gb]? = some (.cells cur 3 (0, 0)) ∧ len ≤ cap ∧ cap ≤ maxLen ∧ cur.size = cap * 1 ∧ w.heap.size ≤ gb ∧ Below w.heap.size w W) := ⟨hgb, r1, r2, r3, hbase, hb⟩
    clear hrow hb hgb r1 r2 r3 r4 hH hbase
    gi_wp2_with (gi_at_call 64; refine cS0.mono ?_; rintro e w' ⟨rfl, nn, os, rfl⟩)
    go_ret
    obtain ⟨hgb, r1, r2, r3, hbase, hb⟩ := HR.out
    have hL := HL.out
    subst hL
    exact ⟨_, rfl, ownsRow_sorted_i (by simp) hbase hgb r1 r2 r3, hb.grown (grownBy_sorted_i _) hb.size (fun j hj => by cases hj; exact hbase)⟩
end Go.Proofs.Ytnhoedodnbifdaa
