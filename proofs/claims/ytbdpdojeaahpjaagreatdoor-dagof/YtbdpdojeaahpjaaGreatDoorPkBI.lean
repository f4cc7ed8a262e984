import Derived.Test.YtbdpdojeaahpjaaGreatDoorPkBH
import Derived.Test.YtbdpdojeaahpjaaGreatDoorPkAP
import Derived.Test.YtbdpdojeaahpjaaGreatDoorPkAW
import Derived.Test.YtbdpdojeaahpjaaGreatDoorPkAV
/-! The document's Eval and Tree: the faces. -/
namespace Go.Proofs.YtbdpdojeaahpjaaGreatDoor
set_option linter.unusedVariables false
set_option maxRecDepth 20000
set_option linter.unusedSimpArgs false
open Go.RowKit Go.HeapKit Go.PlainOps

theorem results_ct {P : Program} {fn : Func} {q r : Tmp} {t : TypeId} (h : fn.results = #[.cell q t, .tmp r]) {tmps : Array Value} {w : World} {g : Nat} (ha : tmps.getD q undef = .pointer (some ⟨g, 0, none⟩)) {v : Value}
    (hl : (loadVar t ⟨g, 0, none⟩).run P w = .ok v w) : (results fn tmps).run P w = .ok (.tuple #[v, tmps.getD r undef]) w := by
  have ha' : tmps[q]?.getD undef = .pointer (some ⟨g, 0, none⟩) := by simpa using ha
  simp [results, h, ha', asAddr, hl]
set_option maxHeartbeats 2000000 in
theorem reval_any (a : Option Addr) (n c : Nat) (l : List Fn) (aa : Option Addr) (an ac : Nat) (zs : List Int) (fuel : Int) (w : World) (hS : SeenF w a n l) (hok : ∀ f ∈ l, f.Ok) (hZ : SeenA w aa an zs) (hZ2 : an ≤ 9223372036854775807) (hfu : okI fuel) :
    Calls Tryz.prog 11 #[.agg #[.slice a n c], .slice aa an ac, .int .i64 fuel] w fun e w' => e = .returned (.tuple #[.agg (valC (evalV l zs fuel).1), .int .i64 (evalV l zs fuel).2]) ∧ Keeps None w w' := by
  obtain ⟨B, hB⟩ : ∃ B, B = w.heap.size := ⟨_, rfl⟩
  obtain ⟨b1, b2⟩ := two_boxes w #[.slice a n c] (valC zeroVal) 24 44
  have hk2 := keeps2 w (.cells #[.slice a n c] 24) (.cells (valC zeroVal) 44)
  obtain ⟨W, hW⟩ : ∃ W, W = (w.alloc (.cells #[.slice a n c] 24)).alloc (.cells (valC zeroVal) 44) := ⟨_, rfl⟩
  rw [← hW, ← hB] at b1 b2
  rw [← hW] at hk2
  have hbo := rboth_any a n c l aa an ac zs fuel W (hS.more hk2) hok (hZ.more hk2) hZ2 hfu
  have d0 : W.cell? ⟨B, 0, none⟩ = some (.slice a n c) := (blk_cell b1 0).trans rfl
  have HX : Hid (B = w.heap.size ∧ Keeps None w W ∧ W.heap[B + 1]? = some (.cells (valC zeroVal) 44 (0, 0))) := ⟨hB, hk2, b2⟩
  unfold BothPost at hbo
  obtain ⟨⟨v0, v1, v2, v3, v4⟩, hev⟩ : ∃ ev, ev = (evalV l zs fuel).1 := ⟨_, rfl⟩
  rw [← hev] at hbo ⊢
  generalize (evalV l zs fuel).2 = er at *
  generalize treeV l zs fuel = tv at *
  unfold valC at hbo
  clear hS hok hZ b1 b2 hk2 hev
  go_enter Tryz.func11, Tryz.ntmps11
  go_upto_region 1 with fail
  change Code.wp _ _ _ _ ((w.alloc (.cells #[.slice a n c] 24)).alloc (.cells (valC zeroVal) 44))
  rw [← hW, ← hB]
  clear hW hB
  go_upto_region 2 with (go_at_call 20; refine hbo.mono ?_; rintro _ w3 ⟨nv, rfl, hk3, _, _, _⟩)
  have bZ := blk_kept HX.out.2.2 hk3 (fun f => f)
  have hal := Keeps.alloc None w3 (.cells #[.int .i64 v0, .int .i64 v1, .int .i64 v2, .int .i64 v3, .int .i64 v4] 44)
  have bV := heap_alloc_new w3 (.cells #[.int .i64 v0, .int .i64 v1, .int .i64 v2, .int .i64 v3, .int .i64 v4] 44)
  obtain ⟨V, hV⟩ : ∃ V, V = w3.alloc (.cells #[.int .i64 v0, .int .i64 v1, .int .i64 v2, .int .i64 v3, .int .i64 v4] 44) := ⟨_, rfl⟩
  obtain ⟨G, hG⟩ : ∃ G, G = w3.heap.size := ⟨_, rfl⟩
  rw [← hV] at hal bV
  rw [← hG] at bV
  rw [← hV, ← hG]
  have bZ2 := blk_kept bZ hal (fun f => f)
  have nG : G ≠ B + 1 := by rw [hG]; have := blk_lt bZ; omega
  have x0 : V.cell? ⟨G, 0, none⟩ = some (.int .i64 v0) := (blk_cell bV 0).trans rfl
  have x1 : V.cell? ⟨G, 1, none⟩ = some (.int .i64 v1) := (blk_cell bV 1).trans rfl
  have x2 : V.cell? ⟨G, 2, none⟩ = some (.int .i64 v2) := (blk_cell bV 2).trans rfl
  have x3 : V.cell? ⟨G, 3, none⟩ = some (.int .i64 v3) := (blk_cell bV 3).trans rfl
  have x4 : V.cell? ⟨G, 4, none⟩ = some (.int .i64 v4) := (blk_cell bV 4).trans rfl
  unfold valC zeroVal at bZ2
  have y0 : V.cell? ⟨B + 1, 0, none⟩ = some (.int .i64 0) := (blk_cell bZ2 0).trans rfl
  have y1 : V.cell? ⟨B + 1, 1, none⟩ = some (.int .i64 0) := (blk_cell bZ2 1).trans rfl
  have y2 : V.cell? ⟨B + 1, 2, none⟩ = some (.int .i64 0) := (blk_cell bZ2 2).trans rfl
  have y3 : V.cell? ⟨B + 1, 3, none⟩ = some (.int .i64 0) := (blk_cell bZ2 3).trans rfl
  have y4 : V.cell? ⟨B + 1, 4, none⟩ = some (.int .i64 0) := (blk_cell bZ2 4).trans rfl
  have z0 := blk_free bZ2 0
  have z1 := blk_free bZ2 1
  have z2 := blk_free bZ2 2
  have z3 := blk_free bZ2 3
  have z4 := blk_free bZ2 4
  obtain ⟨w7, hw7⟩ : ∃ w7, w7 = (((((V.setCell ⟨B + 1, 0, none⟩ (.int .i64 v0)).setCell ⟨B + 1, 1, none⟩ (.int .i64 v1)).setCell ⟨B + 1, 2, none⟩ (.int .i64 v2)).setCell ⟨B + 1, 3, none⟩ (.int .i64 v3)).setCell ⟨B + 1, 4, none⟩ (.int .i64 v4)) := ⟨_, rfl⟩
  have bV7 : w7.heap[B + 1]? = some (.cells (valC ⟨v0, v1, v2, v3, v4⟩) 44 (0, 0)) := by
    rw [hw7, blk_set (blk_set (blk_set (blk_set (blk_set bZ2 _) _) _) _) _]
    rfl
  have k7 : Keeps (· = B + 1) V w7 := by
    rw [hw7]
    exact (((((Keeps.refl (· = B + 1) V).andSet (x := ⟨B + 1, 0, none⟩) (.inl rfl) _).andSet (x := ⟨B + 1, 1, none⟩) (.inl rfl) _).andSet (x := ⟨B + 1, 2, none⟩) (.inl rfl) _).andSet (x := ⟨B + 1, 3, none⟩) (.inl rfl) _).andSet (x := ⟨B + 1, 4, none⟩) (.inl rfl) _
  have HQ : Hid (w7.heap[B + 1]? = some (.cells (valC ⟨v0, v1, v2, v3, v4⟩) 44 (0, 0)) ∧ Keeps None w w7) := ⟨bV7, ((HX.out.2.1.trans hk3 (fun _ f _ => f)).trans hal (fun _ f _ => f)).trans k7 (fun i e hi => by have := HX.out.1; omega)⟩
  rw [hw7] at HQ
  clear hw7 bV7 k7 bZ bZ2 bV hal hk3 hbo d0 hV hG
  go_wp2_with fail
  exact bodyPost_ret (results_ct (q := 6) (r := 7) (t := 44) rfl rfl (load_val _ (B + 1) _ HQ.out.1)) rfl ⟨rfl, HQ.out.2⟩
end Go.Proofs.YtbdpdojeaahpjaaGreatDoor
/-! SerialEval. -/
namespace Go.Proofs.YtbdpdojeaahpjaaGreatDoor
set_option linter.unusedVariables false
set_option maxRecDepth 20000
open Go.RowKit Go.HeapKit Go.PlainOps

theorem words_copied_nil (g c : Nat) (w : World) (ty : TypeId) : (Builtin.append_ #[25, 25] ty #[.slice (some ⟨g, 0, none⟩) 0 0, .slice none 0 c]).run Tryz.prog w = .ok (.slice (some ⟨g, 0, none⟩) 0 0) w := by
  obtain ⟨i0, hi, hz0, hz1, hz2⟩ := info_parts Tryz.infoI64
  simp [Builtin.append_, run_underlying Tryz.underlying25, sizeOf, typeInfo, zeroValue, hi, hz0, Builtin.lenOf, Builtin.firstCells, storeCells]
/-- 'append([]int64{}, l...)'. -/
theorem words_copied (ca : Option Addr) (n c : Nat) (zs : List Int) (w : World) (ty : TypeId) (h : SeenA w ca n zs) (hs : n * 8 ≤ 140737488351232) :
    ∃ v w', (Builtin.append_ #[25, 25] ty #[.slice (some ⟨w.heap.size, 0, none⟩) 0 0, .slice ca n c]).run Tryz.prog (w.alloc (.cells #[] 2)) = .ok v w' ∧
      w'.ownsRow 0 2 1 v n (ints zs) ∧ Keeps None w w' ∧ ∀ g, v.ownBlock = some g → w.heap.size ≤ g := by
  have hl := h.len
  have hal := Keeps.alloc None w (.cells #[] 2)
  have h2 := h.more hal
  have hrow : (w.alloc (.cells #[] 2)).ownsRow 0 2 1 (.slice (some ⟨w.heap.size, 0, none⟩) 0 0) 0 [] :=
    ⟨by simp, .inr ⟨w.heap.size, 0, #[], rfl, Nat.zero_le _, heap_alloc_new _ _, Nat.le_refl _, by unfold maxLen; omega, rfl, rfl⟩⟩
  cases ca with
  | none =>
    have hn : n = 0 := by
      rcases Nat.eq_zero_or_pos n with h0 | h0
      · exact h0
      · obtain ⟨b, off, e, _⟩ := h.ex h0
        cases e
    subst hn
    have hc0 : zs = [] := List.eq_nil_of_length_eq_zero hl.symm
    subst hc0
    exact ⟨.slice (some ⟨w.heap.size, 0, none⟩) 0 0, w.alloc (.cells #[] 2), words_copied_nil _ c _ ty, hrow, hal, fun g e => by simp [Value.ownBlock] at e; omega⟩
  | some x =>
    obtain ⟨i0, hi, hz0, hz1, hz2⟩ := info_parts Tryz.infoI64
    obtain ⟨v', w1, hr, ho, hgr, hm, -⟩ := run_append_moved (P := Tryz.prog) (w.alloc (.cells #[] 2)) 0 25 ty 2 i0 _ 1 8 Tryz.underlying25 hi hz0 hz1 hz2 rfl (by decide) _ 0 _ hrow
      x n c (ints zs) (by rw [ints_len]; omega) (by
        intro j u hu
        have hj : j < n := by have := (List.getElem?_eq_some_iff.1 hu).1; rw [ints_len] at this; omega
        obtain ⟨b, off, e, _, hc⟩ := h2.ex (by omega)
        injection e with e
        subst e
        rw [show (⟨b, off, none⟩ : Addr).add j = ⟨b, off + j, none⟩ by unfold Addr.add; split <;> simp_all]
        have hlj : zs[j]? = some (zs[j]'(by omega)) := List.getElem?_eq_getElem _
        rw [hc j _ hlj]
        rw [ints_at zs j _ hlj] at hu
        exact hu) (by
        intro u hu
        simp [ints] at hu
        obtain ⟨y, _, rfl⟩ := hu
        rfl) (by unfold maxLen; omega) (by omega) (Nat.zero_le _)
    rw [Nat.zero_add, List.nil_append] at ho
    refine ⟨v', w1, hr, ho, hal.andGrown hgr (fun k e => .inr (by simp [Value.ownBlock] at e; omega)), fun g e => ?_⟩
    rcases hm with hm | ⟨g', e', hg'⟩
    · rw [hm] at e; simp [Value.ownBlock] at e; omega
    · rw [e'] at e
      obtain rfl := Option.some.inj e
      simp at hg'
      omega
theorem rowA {w : World} {av : Value} {n : Nat} {l : List Int} (hn : n = l.length) (h : w.ownsRow 0 2 1 av n (ints l)) (hl : n ≤ 9223372036854775807) (hok : ∀ x ∈ l, okI x) : ∃ a c, av = .slice a n c ∧ SeenA w a n l := by
  rcases h.2 with ⟨rfl, h0⟩ | ⟨g, cap, cur, rfl, hb0, hg, hnc, hcm, hcs, htk⟩
  · refine ⟨none, 0, by rw [h0], ⟨hn, by omega, hok, fun h => by omega⟩⟩
  · refine ⟨some ⟨g, 0, none⟩, cap, rfl, ⟨hn, by omega, hok, fun _ => ⟨g, 0, rfl, blk_lt hg, fun k x hx => ?_⟩⟩⟩
    have h1 := ints_at l k x hx
    rw [← htk, List.getElem?_take] at h1
    rw [Nat.zero_add, blk_cell hg, ← Array.getElem?_toList]
    split at h1
    · exact h1
    · cases h1
end Go.Proofs.YtbdpdojeaahpjaaGreatDoor
/-! SerialTree: what its walk keeps. -/
namespace Go.Proofs.YtbdpdojeaahpjaaGreatDoor
set_option linter.unusedVariables false
set_option maxRecDepth 20000
open Go.RowKit Go.HeapKit Go.PlainOps

/-- The nodes that Tree hands out, of any question. -/
def treeL (l : List Fn) (zs : List Int) (fuel : Int) : List Nd := if (evalV l zs fuel).2 = 0 then treeV l zs fuel else []
def TP (L : List Nd) (N : Nat) (er : Int) (w : World) (e : Ending) (w' : World) : Prop :=
  ∃ a c, e = .returned (.tuple #[.slice a N c, .int .i64 er]) ∧ Keeps None w w' ∧ (∀ g, (Value.slice a N c).ownBlock = some g → w.heap.size ≤ g) ∧ w'.ownsRow 0 65 7 (.slice a N c) N (ndVals L) ∧ SeenD w' a N L
theorem TreePost.all {l : List Fn} {zs : List Int} {fuel : Int} {w w' : World} {e : Ending} (h : TreePost l zs fuel w e w') : TP (treeL l zs fuel) (treeL l zs fuel).length (evalV l zs fuel).2 w e w' := by
  obtain ⟨nv, he, hk, hn, h1, h2⟩ := h
  have ho : w'.ownsRow 0 65 7 nv (treeL l zs fuel).length (ndVals (treeL l zs fuel)) := by
    unfold treeL
    split
    · rename_i h0; exact h2 h0
    · rename_i h0; rw [h1 h0]; exact ⟨rfl, .inl ⟨rfl, rfl⟩⟩
  obtain ⟨a, c, rfl, hs⟩ := row_seenD ho
  exact ⟨a, c, he, hk, hn, ho, hs⟩
/-- The program and the arguments that the law copied. -/
structure Al (W wr : World) (Q : Nat) (l : List Fn) (qv : Value) (tq : List At) (bv : Value) (an : Nat) (zs : List Int) : Prop where
  keep : Keeps None W wr
  qlow : W.heap.size ≤ Q
  qb : wr.heap[Q]? = some (.cells #[qv] 24 (0, 0))
  cp : Cp W.heap.size wr l qv tq
  brow : wr.ownsRow 0 2 1 bv an (ints zs)
  blow : ∀ g, bv.ownBlock = some g → W.heap.size ≤ g
theorem Al.more {W wr w' : World} {Q : Nat} {l : List Fn} {qv : Value} {tq : List At} {bv : Value} {an : Nat} {zs : List Int} (h : Al W wr Q l qv tq bv an zs) (hk : Keeps None wr w') : Al W w' Q l qv tq bv an zs :=
  ⟨h.keep.trans hk (fun _ f _ => f), h.qlow, blk_kept h.qb hk (fun f => f), h.cp.more hk, hk.own h.brow (fun _ _ f => f), h.blow⟩
/-- A block of nodes is written. -/
theorem Al.node {W wr w' : World} {Q : Nat} {l : List Fn} {qv : Value} {tq : List At} {bv : Value} {an : Nat} {zs : List Int} {g : Nat} {C : Array Value} (h : Al W wr Q l qv tq bv an zs) (hg : wr.heap[g]? = some (.cells C 65 (0, 0))) (hl : W.heap.size ≤ g) (hk : Keeps (· = g) wr w') : Al W w' Q l qv tq bv an zs := by
  refine ⟨h.keep.trans hk (fun i e hi => by omega), h.qlow, blk_kept h.qb hk (fun e => ?_), h.cp.kept hk (fun g' e q => absurd (own_type h.cp.row e (q ▸ hg)) (by decide)) (fun i t g' ht e q => ?_), hk.own h.brow (fun g' e q => absurd (own_type h.brow e (q ▸ hg)) (by decide)), h.blow⟩
  · have h1 := h.qb
    rw [e, hg] at h1
    injection h1 with h1
    injection h1 with _ h1
    exact absurd h1 (by decide)
  · obtain ⟨f, hf⟩ : ∃ f, l[i]? = some f := ⟨l[i]'(by have := (List.getElem?_eq_some_iff.1 ht).1; have := h.cp.len; omega), by simp⟩
    have hc := h.cp.code i f t hf ht
    exact absurd (own_type hc (by rw [← e]; exact At.blk_slice _ _ _ _) (q ▸ hg)) (by decide)
theorem treeL_most (l : List Fn) (zs : List Int) (fuel : Int) (hok : ∀ f ∈ l, f.Ok) (hz : ∀ x ∈ zs, okI x) : (treeL l zs fuel).length ≤ 8388608 := by
  unfold treeL
  split
  · rename_i he0
    have hr0 : refusedV l zs fuel = 0 := by
      by_cases h : refusedV l zs fuel = 0
      · exact h
      · unfold evalV at he0
        rw [if_pos h] at he0
        exact absurd he0 h
    obtain ⟨hcz, hpz, hf0, hf1⟩ := refused_zero hr0
    have hA := allV_of hcz hok
    obtain ⟨F, rfl⟩ := Int.eq_ofNat_of_zero_le hf0
    have hz8 := root_le hA hpz
    have hBg := root_begins hA true hz F (by omega)
    unfold treeV
    rw [show (F : Int).toNat = F from rfl]
    cases hq : runV l true zs F with
    | gave e => simp
    | done v sp s =>
      obtain ⟨_, _, _, h4, h5, _⟩ := child_done hA hBg rfl hq
      have h1 := h5.nodes
      have h2 := h5.tasks
      simp at h1 ⊢
      omega
  · simp
theorem Al.seenQ {W wr : World} {Q n : Nat} {l : List Fn} {qa : Option Addr} {qc : Nat} {tq : List At} {bv : Value} {an : Nat} {zs : List Int} (h : Al W wr Q l (.slice qa n qc) tq bv an zs) (hn : n = l.length) : SeenF wr qa n l := by
  obtain ⟨a, c, e, hs⟩ := h.cp.seen
  injection e with e1 e2 e3
  rw [e1, hn]
  exact hs
theorem Al.seenB {W wr : World} {Q : Nat} {l : List Fn} {qv : Value} {tq : List At} {ba : Option Addr} {bc an : Nat} {zs : List Int} (h : Al W wr Q l qv tq (.slice ba an bc) an zs) (hn : an = zs.length) (hl : an ≤ 9223372036854775807) (hok : ∀ x ∈ zs, okI x) : SeenA wr ba an zs := by
  obtain ⟨a, c, e, hs⟩ := rowA hn h.brow hl hok
  injection e with e1 e2 e3
  rw [e1]
  exact hs
theorem seenD_of {w : World} {a : Option Addr} {N c : Nat} {L : List Nd} (hN : N = L.length) (h : w.ownsRow 0 65 7 (.slice a N c) N (ndVals L)) : SeenD w a N L := by
  subst hN
  obtain ⟨a', c', e, hs⟩ := row_seenD h
  injection e with e1 e2 e3
  rw [e1]
  exact hs
theorem rowA_more {w : World} {b c an : Nat} {zs : List Int} {x : Int} (h : w.ownsRow 0 2 1 (.slice (some ⟨b, 0, none⟩) (an + 1) c) (an + 1) (ints (zs ++ [x]))) (hn : an = zs.length) (hl : an ≤ 9223372036854775807) (hok : ∀ x ∈ zs, okI x) : SeenA w (some ⟨b, 0, none⟩) an zs ∧ w.cell? ⟨b, an, none⟩ = some (.int .i64 x) := by
  rcases h.2 with ⟨_, h0⟩ | ⟨g, cap, cur, he, hb0, hg, hnc, hcm, hcs, htk⟩
  · omega
  · injection he with e1 e2 e3
    injection e1 with e1
    injection e1 with e1
    subst e1
    have hc : ∀ k y, (zs ++ [x])[k]? = some y → w.cell? ⟨b, k, none⟩ = some (.int .i64 y) := fun k y hy => by
      have h1 := ints_at _ k y hy
      rw [← htk, List.getElem?_take] at h1
      rw [blk_cell hg, ← Array.getElem?_toList]
      split at h1
      · exact h1
      · cases h1
    refine ⟨⟨hn, hl, hok, fun _ => ⟨b, 0, rfl, blk_lt hg, fun k y hy => ?_⟩⟩, hc an x (by rw [hn]; simp)⟩
    rw [Nat.zero_add]
    exact hc k y (by rw [List.getElem?_append_left (List.getElem?_eq_some_iff.1 hy).1]; exact hy)
/-- The two lists of nodes beside them. -/
structure Bl (W wr : World) (Q : Nat) (l : List Fn) (qv : Value) (tq : List At) (bv : Value) (an : Nat) (zs : List Int) (lv mv : Value) (N : Nat) (X Y : List Value) : Prop where
  al : Al W wr Q l qv tq bv an zs
  lrow : wr.ownsRow 0 65 7 lv N X
  mrow : wr.ownsRow 0 65 7 mv N Y
  llow : ∀ g, lv.ownBlock = some g → W.heap.size ≤ g
  dif : ∀ g, lv.ownBlock = some g → ¬ mv.ownBlock = some g
theorem Bl.more {W wr w' : World} {Q : Nat} {l : List Fn} {qv : Value} {tq : List At} {bv : Value} {an : Nat} {zs : List Int} {lv mv : Value} {N : Nat} {X Y : List Value} (h : Bl W wr Q l qv tq bv an zs lv mv N X Y) (hk : Keeps None wr w') : Bl W w' Q l qv tq bv an zs lv mv N X Y :=
  ⟨h.al.more hk, hk.own h.lrow (fun _ _ f => f), hk.own h.mrow (fun _ _ f => f), h.llow, h.dif⟩
/-- And the list that was asked for again. -/
structure C3 (W wr : World) (Q : Nat) (l : List Fn) (qv : Value) (tq : List At) (bv : Value) (an : Nat) (zs : List Int) (lv mv uv : Value) (N : Nat) (X Y : List Value) : Prop where
  bl : Bl W wr Q l qv tq bv an zs lv mv N X Y
  urow : wr.ownsRow 0 65 7 uv N Y
  udif : ∀ g, lv.ownBlock = some g → ¬ uv.ownBlock = some g
theorem C3.more {W wr w' : World} {Q : Nat} {l : List Fn} {qv : Value} {tq : List At} {bv : Value} {an : Nat} {zs : List Int} {lv mv uv : Value} {N : Nat} {X Y : List Value} (h : C3 W wr Q l qv tq bv an zs lv mv uv N X Y) (hk : Keeps None wr w') : C3 W w' Q l qv tq bv an zs lv mv uv N X Y :=
  ⟨h.bl.more hk, hk.own h.urow (fun _ _ f => f), h.udif⟩
theorem word_append (v : Value) (l : List Int) (x : Int) (n g ty : Nat) (w : World) (hn : n = l.length) (h : w.ownsRow 0 2 1 v n (ints l)) (hlen : (n + 1) * 8 ≤ 140737488355328)
    (hg : w.heap[g]? = some (.cells #[.int .i64 x] 2 (0, 0))) :
    ∃ b cap w', (Builtin.append_ #[25, 25] ty #[v, .slice (some ⟨g, 0, none⟩) 1 1]).run Tryz.prog w = .ok (.slice (some ⟨b, 0, none⟩) (n + 1) cap) w' ∧
      w'.ownsRow 0 2 1 (.slice (some ⟨b, 0, none⟩) (n + 1) cap) (n + 1) (ints (l ++ [x])) ∧ Keeps (fun k => v.ownBlock = some k) w w' ∧ (v.ownBlock = some b ∨ w.heap.size ≤ b) ∧ n + 1 ≤ cap := by
  obtain ⟨i0, hi, hz0, hz1, hz2⟩ := info_parts Tryz.infoI64
  obtain ⟨v', w', hr, ho, hgr, hm, -⟩ := run_append_moved (P := Tryz.prog) w 0 25 ty 2 i0 _ 1 8 Tryz.underlying25 hi hz0 hz1 hz2 rfl (by decide) v n (ints l) h
    ⟨g, 0, none⟩ 1 1 [.int .i64 x] rfl (by
      intro j u hu
      rw [show (⟨g, 0, none⟩ : Addr).add j = ⟨g, j, none⟩ by unfold Addr.add; split <;> simp_all, blk_cell hg]
      simpa using hu) (by
      intro u hu
      simp at hu
      subst hu
      rfl) (by unfold maxLen; omega) (by omega) (Nat.zero_le _)
  have e : ints (l ++ [x]) = ints l ++ [.int .i64 x] := by simp [ints]
  rw [e]
  rcases ho.2 with ⟨_, h0⟩ | ⟨b, cap, cur, rfl, hb', hg', hn', _⟩
  · omega
  · refine ⟨b, cap, w', hr, ho, (Keeps.refl _ w).andGrown hgr (fun k e => .inl e), ?_, hn'⟩
    rcases hm with hm | ⟨g', e, hg⟩
    · exact .inl (hm.symm.trans rfl)
    · simp [Value.ownBlock] at e; exact .inr (by omega)
end Go.Proofs.YtbdpdojeaahpjaaGreatDoor
/-! SerialTree: what it writes. -/
namespace Go.Proofs.YtbdpdojeaahpjaaGreatDoor
set_option linter.unusedVariables false
set_option maxRecDepth 20000
open Go.RowKit Go.HeapKit Go.PlainOps

def mkN (i : Nat) : Nd := ⟨i, 0, 0, 0, 0, 0, -1⟩
theorem own_put {w : World} {e : TypeId} {z n c g : Nat} {X : List Value} {i : Nat} (y : Value) (h : w.ownsRow 0 e z (.slice (some ⟨g, 0, none⟩) n c) n X) : (w.setCell ⟨g, i, none⟩ y).ownsRow 0 e z (.slice (some ⟨g, 0, none⟩) n c) n (X.set i y) := by
  rcases h.2 with ⟨e1, _⟩ | ⟨g', cap, cur, he, hb0, hg, hnc, hcm, hcs, htk⟩
  · cases e1
  · have he2 := he
    injection he with e1 e2 e3
    injection e1 with e1
    injection e1 with e1
    subst e1
    refine ⟨by rw [List.length_set]; exact h.1, .inr ⟨g, cap, _, he2, hb0, blk_set hg _, hnc, hcm, by simpa using hcs, ?_⟩⟩
    rw [Array.toList_setIfInBounds, List.take_set, htk]
theorem nd_put (M : List Nd) (k : Nat) (x : Nd) (hk : k < M.length) :
    ((((((((ndVals M).set (k * 7) (.int .i64 x.parent)).set (k * 7 + 1) (.int .i64 x.idx)).set (k * 7 + 2) (.int .i64 x.func)).set (k * 7 + 3) (.int .i64 x.work)).set (k * 7 + 4) (.int .i64 x.ped)).set (k * 7 + 5) (.int .i64 x.arg)).set (k * 7 + 6) (.int .i64 x.v)) = ndVals (M.set k x) := by
  induction M generalizing k with
  | nil => simp at hk
  | cons z M ih =>
    cases k with
    | zero => rfl
    | succ k =>
      rw [show (k + 1) * 7 = k * 7 + 7 by omega, show k * 7 + 7 + 1 = k * 7 + 1 + 7 by omega, show k * 7 + 7 + 2 = k * 7 + 2 + 7 by omega, show k * 7 + 7 + 3 = k * 7 + 3 + 7 by omega, show k * 7 + 7 + 4 = k * 7 + 4 + 7 by omega, show k * 7 + 7 + 5 = k * 7 + 5 + 7 by omega, show k * 7 + 7 + 6 = k * 7 + 6 + 7 by omega]
      have e2 : ndVals ((z :: M).set (k + 1) x) = ints z.l ++ ndVals (M.set k x) := rfl
      have e1 : ndVals (z :: M) = .int .i64 z.parent :: .int .i64 z.idx :: .int .i64 z.func :: .int .i64 z.work :: .int .i64 z.ped :: .int .i64 z.arg :: .int .i64 z.v :: ndVals M := rfl
      rw [e2, ← ih k (by simpa using hk), e1]
      rfl
def putNd (w : World) (g k : Nat) (x : Nd) : World := ((((((w.setCell ⟨g, k * 7, none⟩ (.int .i64 x.parent)).setCell ⟨g, k * 7 + 1, none⟩ (.int .i64 x.idx)).setCell ⟨g, k * 7 + 2, none⟩ (.int .i64 x.func)).setCell ⟨g, k * 7 + 3, none⟩ (.int .i64 x.work)).setCell ⟨g, k * 7 + 4, none⟩ (.int .i64 x.ped)).setCell ⟨g, k * 7 + 5, none⟩ (.int .i64 x.arg)).setCell ⟨g, k * 7 + 6, none⟩ (.int .i64 x.v)
theorem putNd_keeps (w : World) (g k : Nat) (x : Nd) : Keeps (· = g) w (putNd w g k x) := by
  unfold putNd
  have s : ∀ (w' : World) (i : Nat) (v : Value), Keeps (· = g) w' (w'.setCell ⟨g, i, none⟩ v) := fun w' i v => Keeps.setCell (S := (· = g)) w' (a := ⟨g, i, none⟩) rfl v
  exact ((((((s _ _ _).trans (s _ _ _) (fun _ f _ => f)).trans (s _ _ _) (fun _ f _ => f)).trans (s _ _ _) (fun _ f _ => f)).trans (s _ _ _) (fun _ f _ => f)).trans (s _ _ _) (fun _ f _ => f)).trans (s _ _ _) (fun _ f _ => f)
theorem C3.put {W wr : World} {Q : Nat} {l : List Fn} {qv : Value} {tq : List At} {bv : Value} {an : Nat} {zs : List Int} {la : Option Addr} {lc : Nat} {mv uv : Value} {N : Nat} {M : List Nd} {Y : List Value} (h : C3 W wr Q l qv tq bv an zs (.slice la N lc) mv uv N (ndVals M) Y) (hM : M.length = N) {k : Nat} (hk : k < N) (x : Nd) :
    ∃ g, la = some ⟨g, 0, none⟩ ∧ (∀ j, wr.frozen? ⟨g, j, none⟩ = false) ∧ (∀ y, M[k]? = some y → ∀ j v, y.l[j]? = some v → wr.cell? ⟨g, k * 7 + j, none⟩ = some (.int .i64 v)) ∧ C3 W (putNd wr g k x) Q l qv tq bv an zs (.slice (some ⟨g, 0, none⟩) N lc) mv uv N (ndVals (M.set k x)) Y := by
  rcases h.bl.lrow.2 with ⟨_, h0⟩ | ⟨g, cap, cur, he, hb0, hg, hnc, hcm, hcs, htk⟩
  · omega
  · injection he with e1 e2 e3
    subst e1
    have hP := putNd_keeps wr g k x
    have hne : ∀ (v : Value), (∀ g', (Value.slice (some ⟨g, 0, none⟩) N lc).ownBlock = some g' → ¬ v.ownBlock = some g') → ∀ g', v.ownBlock = some g' → ¬ g' = g := fun v hv g' e q => hv g rfl (by rw [e, q])
    refine ⟨g, rfl, fun j => blk_free hg j, fun y hy j v hv => ?_, ⟨⟨h.bl.al.node hg (h.bl.llow g rfl) hP, ?_, hP.own h.bl.mrow (hne mv h.bl.dif), h.bl.llow, h.bl.dif⟩, hP.own h.urow (hne uv h.udif), h.udif⟩⟩
    · have h1 := ndVals_at M k y hy j v hv
      rw [← htk, List.getElem?_take] at h1
      rw [blk_cell hg, ← Array.getElem?_toList]
      split at h1
      · exact h1
      · cases h1
    · rw [← nd_put M k x (by omega)]
      unfold putNd
      exact own_put _ (own_put _ (own_put _ (own_put _ (own_put _ (own_put _ (own_put _ h.bl.lrow))))))
end Go.Proofs.YtbdpdojeaahpjaaGreatDoor
/-! DagOf: the copies written over; the function's code from a region on. -/
namespace Go.Proofs.YtbdpdojeaahpjaaGreatDoor
set_option linter.unusedVariables false
set_option maxRecDepth 20000
open Go.RowKit Go.HeapKit Go.PlainOps

theorem ints_put (zs : List Int) (k : Nat) (y : Int) : (ints zs).set k (.int .i64 y) = ints (zs.set k y) := by
  unfold ints
  rw [List.map_set]
theorem ok_put {zs : List Int} {k : Nat} {y : Int} (h : ∀ x ∈ zs, okI x) (hy : okI y) : ∀ x ∈ zs.set k y, okI x := fun x hx => by
  rcases List.mem_or_eq_of_mem_set hx with h1 | h1
  · exact h x h1
  · rw [h1]; exact hy
/-- One of the arguments is written over. -/
theorem Al.putB {W wr : World} {Q : Nat} {l : List Fn} {qv : Value} {tq : List At} {ba : Option Addr} {bc an : Nat} {zs : List Int} (h : Al W wr Q l qv tq (.slice ba an bc) an zs) (hn : an = zs.length) {k : Nat} {x : Int} (hx : zs[k]? = some x) :
    ∃ g, ba = some ⟨g, 0, none⟩ ∧ wr.frozen? ⟨g, k, none⟩ = false ∧ wr.cell? ⟨g, k, none⟩ = some (.int .i64 x) ∧ ∀ y, Al W (wr.setCell ⟨g, k, none⟩ (.int .i64 y)) Q l qv tq (.slice (some ⟨g, 0, none⟩) an bc) an (zs.set k y) := by
  have hkl := (List.getElem?_eq_some_iff.1 hx).1
  rcases h.brow.2 with ⟨_, h0⟩ | ⟨g, cap, cur, he, hb0, hg, hnc, hcm, hcs, htk⟩
  · omega
  · injection he with e1 e2 e3
    subst e1
    refine ⟨g, rfl, blk_free hg k, ?_, fun y => ?_⟩
    · have h1 := ints_at zs k x hx
      rw [← htk, List.getElem?_take] at h1
      rw [blk_cell hg, ← Array.getElem?_toList]
      split at h1
      · exact h1
      · cases h1
    · have hk : Keeps (· = g) wr (wr.setCell ⟨g, k, none⟩ (.int .i64 y)) := Keeps.setCell (S := (· = g)) wr (a := ⟨g, k, none⟩) rfl _
      have hl := h.blow g rfl
      refine ⟨h.keep.trans hk (fun i e hi => by omega), h.qlow, blk_kept h.qb hk (fun e => ?_), h.cp.kept hk (fun g' e q => absurd (own_type h.cp.row e (q ▸ hg)) (by decide)) (fun i t g' ht e q => ?_), ?_, h.blow⟩
      · have h1 := h.qb
        rw [e, hg] at h1
        injection h1 with h1
        injection h1 with _ h1
        exact absurd h1 (by decide)
      · obtain ⟨f, hf⟩ : ∃ f, l[i]? = some f := ⟨l[i]'(by have := (List.getElem?_eq_some_iff.1 ht).1; have := h.cp.len; omega), by simp⟩
        have hc := h.cp.code i f t hf ht
        exact absurd (own_type hc (by rw [← e]; exact At.blk_slice _ _ _ _) (q ▸ hg)) (by decide)
      · rw [← ints_put]
        exact own_put _ h.brow
/-- One constant of the program is written over. -/
theorem Al.putK {W wr : World} {Q : Nat} {l : List Fn} {qa : Option Addr} {qc n : Nat} {tq : List At} {bv : Value} {an : Nat} {zs : List Int} (h : Al W wr Q l (.slice qa n qc) tq bv an zs) (hn : n = l.length) {i k : Nat} {f : Fn} {x : Ins} (hf : l[i]? = some f) (hx : f.code[k]? = some x) :
    ∃ g cb cc, qa = some ⟨g, 0, none⟩ ∧ wr.cell? ⟨g, i * 4 + 3, none⟩ = some (.slice (some ⟨cb, 0, none⟩) f.code.length cc) ∧ InsAt wr cb (k * 5) x ∧ wr.frozen? ⟨cb, k * 5 + 4, none⟩ = false ∧ cb ≠ Q ∧ cb ≠ g ∧
      ∀ y, Al W (wr.setCell ⟨cb, k * 5 + 4, none⟩ (.int .i64 y)) Q (l.set i { f with code := f.code.set k { x with k := y } }) (.slice qa n qc) tq bv an zs := by
  have hil := (List.getElem?_eq_some_iff.1 hf).1
  obtain ⟨t, ht⟩ : ∃ t, tq[i]? = some t := ⟨tq[i]'(by rw [h.cp.len]; exact hil), by simp⟩
  have four : ∀ r ∈ List.zipWith tfCells l tq, r.length = 4 := fun r hr => by
    obtain ⟨i, hi, rfl⟩ := List.mem_iff_getElem.1 hr
    rw [List.getElem_zipWith]
    rfl
  have hz := zip_at tfCells l tq i f t hf ht
  rcases h.cp.row.2 with ⟨_, h0⟩ | ⟨g, cap, cur, he, hb0, hg, hnc, hcm, hcs, htk⟩
  · omega
  · injection he with e1 e2 e3
    obtain ⟨cb, ht1, hin, hfz, _⟩ := h.cp.put hf hx ht 0
    obtain ⟨C0, hC0⟩ : ∃ C, wr.heap[cb]? = some (.cells C 37 (0, 0)) := own_block (h.cp.code i f t hf ht) (by rw [ht1]; rfl)
    refine ⟨g, cb, t.2, e1, ?_, hin, hfz _, fun e => ?_, fun e => ?_, fun y => ?_⟩
    · have h1 := flat4_at _ four i _ hz 3 (by omega)
      rw [blk_cell hg, ← Array.getElem?_toList]
      have h2 : (List.zipWith tfCells l tq).flatten[i * 4 + 3]? = some (.slice t.1 f.code.length t.2) := h1
      rw [← htk, List.getElem?_take, if_pos (by omega), ht1] at h2
      exact h2
    · have h1 := h.qb
      rw [← e, hC0] at h1
      injection h1 with h1
      injection h1 with _ h1
      exact absurd h1 (by decide)
    · rw [e, hg] at hC0
      injection hC0 with h1
      injection h1 with _ h1
      exact absurd h1 (by decide)
    · obtain ⟨cb', ht1', _, _, hcp, hk, hbl⟩ := h.cp.put hf hx ht y
      have ecb : cb' = cb := by
        rw [ht1] at ht1'
        injection ht1' with q
        injection q with q
        exact q.symm
      subst ecb
      obtain ⟨C, hC⟩ : ∃ C, wr.heap[cb']? = some (.cells C 37 (0, 0)) := own_block (h.cp.code i f t hf ht) (by rw [ht1]; rfl)
      refine ⟨h.keep.trans hk (fun i e hi => by omega), h.qlow, blk_kept h.qb hk (fun e => ?_), hcp, hk.own h.brow (fun g' e q => absurd (own_type h.brow e (q ▸ hC)) (by decide)), h.blow⟩
      have h1 := h.qb
      rw [e, hC] at h1
      injection h1 with h1
      injection h1 with _ h1
      exact absurd h1 (by decide)
theorem putK_ok {l : List Fn} {i k : Nat} {f : Fn} {x : Ins} {y : Int} (h : ∀ f ∈ l, f.Ok) (hf : l[i]? = some f) (hx : f.code[k]? = some x) (hy : okI y) : ∀ f' ∈ l.set i { f with code := f.code.set k { x with k := y } }, f'.Ok := fun f' hf' => by
  have hF := h f (List.mem_of_getElem? hf)
  rcases List.mem_or_eq_of_mem_set hf' with h1 | h1
  · exact h f' h1
  · subst h1
    refine ⟨hF.params, hF.regs, hF.slots, fun x' hx' => ?_⟩
    rcases List.mem_or_eq_of_mem_set hx' with h2 | h2
    · exact hF.code x' h2
    · subst h2
      have hX := hF.code x (List.mem_of_getElem? hx)
      exact ⟨hX.kind, hX.a, hX.b, hX.c, hy⟩
theorem putK_len {l : List Fn} {i k : Nat} {f : Fn} {x : Ins} {y : Int} (h : ∀ f ∈ l, f.code.length * 40 ≤ 140737488351232) (hf : l[i]? = some f) : ∀ f' ∈ l.set i { f with code := f.code.set k { x with k := y } }, f'.code.length * 40 ≤ 140737488351232 := fun f' hf' => by
  rcases List.mem_or_eq_of_mem_set hf' with h1 | h1
  · exact h f' h1
  · subst h1
    simp only [List.length_set]
    exact h f (List.mem_of_getElem? hf)
def regFirst : Code → Option Nat
  | .region n _ _ => some n
  | .seq a _ => regFirst a
  | _ => none
def tailAt (k : Nat) : Code → Option Code
  | .seq a b => if regFirst a = some k then some (.seq a b) else tailAt k b
  | _ => none
noncomputable def ofTail (k : Nat) : Code := (Tryz.f3.body.bind (tailAt k)).getD .skip
end Go.Proofs.YtbdpdojeaahpjaaGreatDoor
/-! DagOf: a program copied, and two that are alike. -/
namespace Go.Proofs.YtbdpdojeaahpjaaGreatDoor
set_option linter.unusedVariables false
set_option maxRecDepth 20000
open Go.RowKit Go.HeapKit Go.PlainOps

set_option maxHeartbeats 2000000 in
theorem twin_own (a : Option Addr) (n c : Nat) (l : List Fn) (w : World) (hS : SeenF w a n l) (hr : n * 48 ≤ 140737488351232) (hrc : ∀ f ∈ l, f.code.length * 40 ≤ 140737488351232) :
    Calls Tryz.prog 4 #[.agg #[.slice a n c]] w (CopiedOwn w l n) := by
  have hn := hS.len
  obtain ⟨B, hB⟩ : ∃ B, B = w.heap.size := ⟨_, rfl⟩
  obtain ⟨p1, p2⟩ := two_boxes w #[.slice a n c] #[.slice none 0 0] 24 24
  have hk2 := keeps2 w (.cells #[.slice a n c] 24) (.cells #[.slice none 0 0] 24)
  have s2 : ((w.alloc (.cells #[.slice a n c] 24)).alloc (.cells #[.slice none 0 0] 24)).heap.size = B + 2 := by rw [hB]; simp
  obtain ⟨w2, hw2⟩ : ∃ w2, w2 = (w.alloc (.cells #[.slice a n c] 24)).alloc (.cells #[.slice none 0 0] 24) := ⟨_, rfl⟩
  rw [← hw2] at p1 p2 hk2 s2
  rw [← hB] at p1 p2
  have hal := Keeps.alloc None w2 (.cells #[.slice none 0 0] 24)
  have p3 := heap_alloc_new w2 (.cells #[.slice none 0 0] 24)
  rw [s2] at p3
  have HS0 : Hid (Ta w (w2.alloc (.cells #[.slice none 0 0] 24)) B (.slice a n c) l 0 (.slice none 0 0) []) :=
    ⟨hk2.trans hal (fun _ f _ => f), blk_kept p1 hal (fun f => f), blk_kept p2 hal (fun f => f), p3, ⟨rfl, .inl ⟨rfl, rfl⟩⟩, fun i f t hf => by simp at hf, rfl, fun g e => by simp [Value.ownBlock] at e, by omega, fun i t g ht => by simp at ht, fun i j t u g ht => by simp at ht⟩
  have HC : Hid (SeenF w a n l ∧ n = l.length ∧ ∀ f ∈ l, f.code.length * 40 ≤ 140737488351232) := ⟨hS, hn, hrc⟩
  have hnb : (n : Int) ≤ 4611686018427387904 := by omega
  have HS2 : Hid _ := s2
  have HP : Hid (∀ e w', (∃ a c tv, e = .returned (.agg #[.slice a n c]) ∧ Cp w.heap.size w' l (.slice a n c) tv ∧ Keeps None w w') → CopiedOwn w l n e w') := fun e w' h => h
  clear hS hn hrc p1 p2 hk2 s2 hal p3
  go_enter Tryz.func4, Tryz.ntmps4
  go_upto_region 1 with fail
  rw [← hw2, ← hB]
  clear hw2 hB
  go_upto_region 2 with fail
  rw [HS2.out]
  generalize w2.alloc (.cells #[.slice none 0 0] 24) = W at *
  go_wp2_with fail
  go_loopw [4] (fun s4 wr => ∃ (k : Nat) (qv : Value) (tv : List At), k ≤ n ∧ s4 = .int .i64 k ∧ Ta w wr B (.slice a n c) l k qv tv) (fun i _ => n - (intOf i).toNat)
  case atStart => exact ⟨0, .slice none 0 0, [], Nat.zero_le _, rfl, HS0.out⟩
  case round =>
    obtain ⟨k, qv, tv, hk, rfl, hT⟩ := hrel
    have d0 : wr.cell? ⟨B, 0, none⟩ = some (.slice a n c) := (cell_of_heap hT.box 0).trans rfl
    by_cases hkn : k < n
    · obtain ⟨b, off, f, ca, cc, rfl, hf, hat⟩ := (HC.out.1.more hT.keep).at hkn
      obtain ⟨y0, y1, y2, y3, hsn⟩ := hat
      have i1 : (k : Int) < (n : Int) := by omega
      have hrf := HC.out.2.2 f (List.mem_of_getElem? hf)
      have HT : Hid (Ta w wr B (.slice (some ⟨b, off, none⟩) n c) l k qv tv ∧ l[k]? = some f) := ⟨hT, hf⟩
      obtain ⟨m, hm⟩ : ∃ m, m = f.code.length := ⟨_, rfl⟩
      rw [← hm] at y3 hsn hrf
      have HM : Hid _ := hm
      have hal := Keeps.alloc None wr (.cells #[.int .i64 f.params, .int .i64 f.regs, .int .i64 f.slots, .slice ca m cc] 35)
      have bF := heap_alloc_new wr (.cells #[.int .i64 f.params, .int .i64 f.regs, .int .i64 f.slots, .slice ca m cc] 35)
      obtain ⟨F, hF⟩ : ∃ F, F = wr.heap.size := ⟨_, rfl⟩
      obtain ⟨W1, hW1⟩ : ∃ W1, W1 = wr.alloc (.cells #[.int .i64 f.params, .int .i64 f.regs, .int .i64 f.slots, .slice ca m cc] 35) := ⟨_, rfl⟩
      rw [← hW1] at hal bF
      rw [← hF] at bF
      obtain ⟨cv, w5, hr5, ho5, hk5, hl5⟩ := codes_copied ca m cc f.code W1 33 (hsn.more hal) hrf
      obtain ⟨ca', cc', hcv⟩ : ∃ ca' cc', cv = .slice ca' m cc' := by
        have := codes_seen (by rw [← hm]; exact ho5)
        obtain ⟨x1, x2, e, _⟩ := this
        exact ⟨x1, x2, by rw [e, hm]⟩
      subst hcv
      have bF5 := blk_kept bF hk5 (fun f => f)
      have hFB : F ≠ B + 2 := by rw [hF]; have := blk_lt hT.qb; omega
      have kF : Keeps (· = F) w5 (w5.setCell ⟨F, 3, none⟩ (.slice ca' m cc')) := Keeps.setCell (S := (· = F)) w5 (a := ⟨F, 3, none⟩) rfl _
      have bF6 : (w5.setCell ⟨F, 3, none⟩ (.slice ca' m cc')).heap[F]? = some (.cells #[.int .i64 f.params, .int .i64 f.regs, .int .i64 f.slots, .slice ca' m cc'] 35 (0, 0)) := by rw [blk_set bF5]; rfl
      have kwF : Keeps None wr (w5.setCell ⟨F, 3, none⟩ (.slice ca' m cc')) := ((hal.trans hk5 (fun _ f _ => f)).trans kF (fun i e hi => by omega))
      have hT6 := hT.more kwF
      have hold : ∀ (i : Nat) (u : At) (g : Nat), tv[i]? = some u → u.blk = some g → g < wr.heap.size := fun i u g hu hg => (hT.cl i u g hu hg).2
      have hnewb : ∀ g, At.blk (ca', cc') = some g → w.heap.size ≤ g ∧ wr.heap.size ≤ g ∧ g < (w5.setCell ⟨F, 3, none⟩ (.slice ca' m cc')).heap.size := fun g hg => by
        have hg' : (Value.slice ca' m cc').ownBlock = some g := by rw [← hg]; cases ca' <;> rfl
        have h1 := hl5 g hg'
        have h2 := hal.size
        have h3 := hT.keep.size
        obtain ⟨cq, hq⟩ := own_block ho5 hg'
        have h4 := blk_lt hq
        have h5 := kF.size
        exact ⟨by omega, by omega, by omega⟩
      have HN : Hid ((∀ (i : Nat) (u : At) (g : Nat), tv[i]? = some u → u.blk = some g → g < wr.heap.size) ∧ ∀ g, At.blk (ca', cc') = some g → w.heap.size ≤ g ∧ wr.heap.size ≤ g ∧ g < (w5.setCell ⟨F, 3, none⟩ (.slice ca' m cc')).heap.size) := ⟨hold, hnewb⟩
      have ho6 := kF.own ho5 (fun g e q => absurd (own_type ho5 e (q ▸ bF5)) (by decide))
      have g3 : W1.cell? ⟨F, 3, none⟩ = some (.slice ca m cc) := (blk_cell bF 3).trans rfl
      have g3a := (Keeps.alloc None W1 (.cells #[] 37)).cell g3 (fun f => f)
      have g5 : w5.cell? ⟨F, 3, none⟩ = some (.slice ca m cc) := (blk_cell bF5 3).trans rfl
      have z5 := blk_free bF5 3
      have H6 : Hid (Ta w (w5.setCell ⟨F, 3, none⟩ (.slice ca' m cc')) B (.slice (some ⟨b, off, none⟩) n c) l k qv tv ∧ (w5.setCell ⟨F, 3, none⟩ (.slice ca' m cc')).ownsRow 0 37 5 (.slice ca' m cc') m (insVals f.code) ∧ (w5.setCell ⟨F, 3, none⟩ (.slice ca' m cc')).heap[F]? = some (.cells #[.int .i64 f.params, .int .i64 f.regs, .int .i64 f.slots, .slice ca' m cc'] 35 (0, 0))) := ⟨hT6, ho6, bF6⟩
      have d0a := hal.cell d0 (fun f => f)
      have y3a := hal.cell y3 (fun f => f)
      have d0b := (Keeps.alloc None W1 (.cells #[] 37)).cell d0a (fun f => f)
      have y3b := (Keeps.alloc None W1 (.cells #[] 37)).cell y3a (fun f => f)
      clear hT hf hsn hm hal bF bF5 kF bF6 kwF hT6 ho6 ho5 hk5 hl5 hrf hFB hold hnewb
      go_upto_region 6 with fail
      rw [← hW1, ← hF]
      clear hW1 hF y0 y1 y2 y3 d0
      go_upto_region 7 with (at_builtin; refine wpList_append_run rfl (.tmp 18) (.tmp 24) 33 33 rfl rfl rfl hr5 ?_)
      generalize w5.setCell ⟨F, 3, none⟩ (.slice ca' m cc') = V at *
      have q0 : V.cell? ⟨B + 2, 0, none⟩ = some qv := (cell_of_heap H6.out.1.qb 0).trans rfl
      have f0 : V.cell? ⟨F, 0, none⟩ = some (.int .i64 f.params) := (cell_of_heap H6.out.2.2 0).trans rfl
      have f1 : V.cell? ⟨F, 1, none⟩ = some (.int .i64 f.regs) := (cell_of_heap H6.out.2.2 1).trans rfl
      have f2 : V.cell? ⟨F, 2, none⟩ = some (.int .i64 f.slots) := (cell_of_heap H6.out.2.2 2).trans rfl
      have f3 : V.cell? ⟨F, 3, none⟩ = some (.slice ca' m cc') := (cell_of_heap H6.out.2.2 3).trans rfl
      have hal2 := Keeps.alloc None V (.cells #[.int .i64 f.params, .int .i64 f.regs, .int .i64 f.slots, .slice ca' m cc'] 35)
      have hT7 := H6.out.1.more hal2
      have ho7 := hal2.own H6.out.2.1 (fun _ _ f => f)
      have hln := HC.out.2.1
      have hcl : (l.take k).length = k := by simp; omega
      obtain ⟨b2, cap2, w7, hrn, hoo, hkk, hgg⟩ := fn_append qv (List.zipWith tfCells (l.take k) tv) (.int .i64 f.params) (.int .i64 f.regs) (.int .i64 f.slots) (.slice ca' m cc') k V.heap.size 22 (V.alloc (.cells #[.int .i64 f.params, .int .i64 f.regs, .int .i64 f.slots, .slice ca' m cc'] 35)) (by rw [List.length_zipWith, hcl, hT7.len]; omega) ⟨rfl, rfl, rfl, rfl⟩ hT7.row (by omega) (heap_alloc_new _ _)
      obtain ⟨u1, u2, hnx⟩ := hT7.next (t := (ca', cc')) HT.out.2 (by rw [← HM.out]; exact ho7) hkk (by unfold tfCells at *; rw [← HM.out]; exact hoo) hgg HN.out.1 (fun g hg => ⟨(HN.out.2 g hg).1, (HN.out.2 g hg).2.1, Nat.lt_of_lt_of_le (HN.out.2 g hg).2.2 hal2.size⟩)
      have HX : Hid _ := hnx
      clear d0a y3a d0b y3b
      clear hnx hT7 ho7 hal2 hoo hkk hgg hcl hln hr5 g3 g3a g5 z5
      go_wp2_with (at_builtin; refine wpList_append_run rfl (.tmp 28) (.tmp 30) 22 22 rfl rfl rfl hrn ?_)
      exact ⟨⟨k + 1, _, _, by omega, by simp, HX.out⟩, by simp [intOf]; omega⟩
    · have hkn2 : k = n := by omega
      subst hkn2
      have i1 : ¬ (k : Int) < (k : Int) := by omega
      obtain ⟨xa, xc, hqv, hsn⟩ := hT.seen HC.out.2.1
      subst hqv
      have q0 : wr.cell? ⟨B + 2, 0, none⟩ = some (.slice xa k xc) := (cell_of_heap hT.qb 0).trans rfl
      have r0 : wr.cell? ⟨B + 1, 0, none⟩ = some (.slice none 0 0) := (cell_of_heap hT.res 0).trans rfl
      have z0 := blk_free hT.res 0
      have kS : Keeps (· = B + 1) wr (wr.setCell ⟨B + 1, 0, none⟩ (.slice xa k xc)) := Keeps.setCell (S := (· = B + 1)) wr rfl _
      have rs := blk_set (i := 0) hT.res (.slice xa k xc)
      have htk : l.take k = l := List.take_of_length_le (by have := HC.out.2.1; omega)
      have hcp : Cp w.heap.size (wr.setCell ⟨B + 1, 0, none⟩ (.slice xa k xc)) l (.slice xa k xc) tv := by
        have hrow := hT.row
        rw [htk] at hrow
        have hcode := hT.code
        rw [htk] at hcode
        refine ⟨?_, fun i f t hf ht => ?_, by rw [hT.len]; exact HC.out.2.1, hT.low, fun i t g ht hg => (hT.cl i t g ht hg).1, hT.nd⟩
        · have h1 := kS.own hrow (fun g e q => absurd (own_type hrow e (q ▸ hT.res)) (by decide))
          have hq : k = l.length := HC.out.2.1
          generalize l.length = m at hq ⊢
          subst hq
          exact h1
        · exact kS.own (hcode i f t hf ht) (fun g e q => absurd (own_type (hcode i f t hf ht) e (q ▸ hT.res)) (by decide))
      have HQ : Hid (_ ∧ _ ∧ _) := And.intro rs (And.intro hcp (hT.keep.trans kS (fun i e hi => by have := hT.hB; omega)))
      clear hT hsn hcp kS rs htk
      go_wp2_with fail
      exact bodyPost_ret (results_one (q := 2) (ty := 24) rfl rfl (load_prog _ _ _ (.slice xa k xc) HQ.out.1)) rfl (HP.out _ _ ⟨xa, xc, tv, rfl, HQ.out.2.1, HQ.out.2.2⟩)
set_option maxHeartbeats 2000000 in
theorem alike_any (a : Option Addr) (n c : Nat) (a' : Option Addr) (c' : Nat) (l : List Fn) (w : World) (hS : SeenF w a n l) (hS' : SeenF w a' n l) (hn : n * 48 ≤ 140737488351232) (hrc : ∀ f ∈ l, f.code.length * 40 ≤ 140737488351232) :
    Calls Tryz.prog 7 #[.agg #[.slice a n c], .agg #[.slice a' n c']] w fun e w' => e = .returned (.bool true) ∧ Keeps None w w' := by
  obtain ⟨b1, b2⟩ := two_boxes w #[.slice a n c] #[.slice a' n c'] 24 24
  have hk := keeps2 w (.cells #[.slice a n c] 24) (.cells #[.slice a' n c'] 24)
  obtain ⟨wa, hwa⟩ : ∃ wa, wa = (w.alloc (.cells #[.slice a n c] 24)).alloc (.cells #[.slice a' n c'] 24) := ⟨_, rfl⟩
  obtain ⟨B, hB⟩ : ∃ B, B = w.heap.size := ⟨_, rfl⟩
  rw [← hwa] at b1 b2 hk
  rw [← hB] at b1 b2
  have d0 : wa.cell? ⟨B, 0, none⟩ = some (.slice a n c) := (blk_cell b1 0).trans rfl
  have e0 : wa.cell? ⟨B + 1, 0, none⟩ = some (.slice a' n c') := (blk_cell b2 0).trans rfl
  have HC : Hid (SeenF wa a n l ∧ SeenF wa a' n l ∧ Keeps None w wa ∧ wa.heap[B]? = some (.cells #[.slice a n c] 24 (0, 0)) ∧ wa.heap[B + 1]? = some (.cells #[.slice a' n c'] 24 (0, 0)) ∧ ∀ f ∈ l, f.code.length * 40 ≤ 140737488351232) := ⟨hS.more hk, hS'.more hk, hk, b1, b2, hrc⟩
  have hnb : (n : Int) ≤ 4611686018427387904 := by omega
  clear hS hS' hk b1 b2 hrc
  go_enter Tryz.func7, Tryz.ntmps7
  go_upto_region 1 with fail
  rw [← hwa, ← hB]
  clear hwa hB
  go_wp2_with fail
  clear d0 e0
  go_loopw [5] (fun s5 wr => ∃ k : Nat, k ≤ n ∧ s5 = .int .i64 k ∧ Keeps None wa wr) (fun i _ => n - (intOf i).toNat)
  case atStart => exact ⟨0, Nat.zero_le _, rfl, Keeps.refl _ _⟩
  case round =>
    obtain ⟨k, hk, rfl, hkp⟩ := hrel
    have d0 : wr.cell? ⟨B, 0, none⟩ = some (.slice a n c) := (blk_cell (blk_kept HC.out.2.2.2.1 hkp (fun f => f)) 0).trans rfl
    have e0 : wr.cell? ⟨B + 1, 0, none⟩ = some (.slice a' n c') := (blk_cell (blk_kept HC.out.2.2.2.2.1 hkp (fun f => f)) 0).trans rfl
    by_cases hkn : k < n
    · obtain ⟨b, off, f, ca, cc, rfl, hf, hat⟩ := (HC.out.1.more hkp).at hkn
      obtain ⟨b', off', f', ca', cc', rfl, hf', hat'⟩ := (HC.out.2.1.more hkp).at hkn
      rw [hf] at hf'
      obtain rfl := Option.some.inj hf'
      obtain ⟨m, hm⟩ : ∃ m, m = f.code.length := ⟨_, rfl⟩
      have hmb := HC.out.2.2.2.2.2 f (List.mem_of_getElem? hf)
      obtain ⟨y0, y1, y2, y3, hsn⟩ := hat
      obtain ⟨u0, u1, u2, u3, hsn'⟩ := hat'
      rw [← hm] at y3 u3 hsn hsn' hmb
      have hmm : (m : Int) ≤ 4611686018427387904 := by omega
      obtain ⟨q1, q2⟩ := two_boxes wr #[.int .i64 f.params, .int .i64 f.regs, .int .i64 f.slots, .slice ca m cc] #[.int .i64 f.params, .int .i64 f.regs, .int .i64 f.slots, .slice ca' m cc'] 35 35
      have hk2 := keeps2 wr (.cells #[.int .i64 f.params, .int .i64 f.regs, .int .i64 f.slots, .slice ca m cc] 35) (.cells #[.int .i64 f.params, .int .i64 f.regs, .int .i64 f.slots, .slice ca' m cc'] 35)
      have hk1 := Keeps.alloc None wr (.cells #[.int .i64 f.params, .int .i64 f.regs, .int .i64 f.slots, .slice ca m cc] 35)
      have e1 := hk1.cell e0 (fun f => f)
      have v0 := hk1.cell u0 (fun f => f)
      have v1 := hk1.cell u1 (fun f => f)
      have v2 := hk1.cell u2 (fun f => f)
      have v3 := hk1.cell u3 (fun f => f)
      obtain ⟨wb, hwb⟩ : ∃ wb, wb = (wr.alloc (.cells #[.int .i64 f.params, .int .i64 f.regs, .int .i64 f.slots, .slice ca m cc] 35)).alloc (.cells #[.int .i64 f.params, .int .i64 f.regs, .int .i64 f.slots, .slice ca' m cc'] 35) := ⟨_, rfl⟩
      obtain ⟨F, hF⟩ : ∃ F, F = wr.heap.size := ⟨_, rfl⟩
      rw [← hwb] at q1 q2 hk2
      rw [← hF] at q1 q2
      have i1 : (k : Int) < (n : Int) := by omega
      have HB : Hid (SeenI wb ca m f.code ∧ SeenI wb ca' m f.code ∧ Keeps None wa wb ∧ wb.heap[F]? = some (.cells #[.int .i64 f.params, .int .i64 f.regs, .int .i64 f.slots, .slice ca m cc] 35 (0, 0)) ∧ wb.heap[F + 1]? = some (.cells #[.int .i64 f.params, .int .i64 f.regs, .int .i64 f.slots, .slice ca' m cc'] 35 (0, 0))) := ⟨hsn.more hk2, hsn'.more hk2, hkp.trans hk2 (fun _ f _ => f), q1, q2⟩
      have x0 : wb.cell? ⟨F, 0, none⟩ = some (.int .i64 f.params) := (blk_cell q1 0).trans rfl
      have x1 : wb.cell? ⟨F, 1, none⟩ = some (.int .i64 f.regs) := (blk_cell q1 1).trans rfl
      have x2 : wb.cell? ⟨F, 2, none⟩ = some (.int .i64 f.slots) := (blk_cell q1 2).trans rfl
      have x3 : wb.cell? ⟨F, 3, none⟩ = some (.slice ca m cc) := (blk_cell q1 3).trans rfl
      have z0 : wb.cell? ⟨F + 1, 0, none⟩ = some (.int .i64 f.params) := (blk_cell q2 0).trans rfl
      have z1 : wb.cell? ⟨F + 1, 1, none⟩ = some (.int .i64 f.regs) := (blk_cell q2 1).trans rfl
      have z2 : wb.cell? ⟨F + 1, 2, none⟩ = some (.int .i64 f.slots) := (blk_cell q2 2).trans rfl
      have z3 : wb.cell? ⟨F + 1, 3, none⟩ = some (.slice ca' m cc') := (blk_cell q2 3).trans rfl
      clear hkp hf hsn hsn' hm q1 q2 hk2 hk1
      go_upto_region 8 with fail
      rw [← hwb, ← hF]
      clear hwb hF y0 y1 y2 y3 u0 u1 u2 u3 v0 v1 v2 v3 d0 e0 e1
      go_wp2_with fail
      clear x0 x1 x2 x3 z0 z1 z2 z3
      go_loopw [8] (fun s8 wy => ∃ j : Nat, j ≤ m ∧ s8 = .int .i64 j ∧ Keeps None wb wy) (fun i _ => m - (intOf i).toNat)
      case atStart => exact ⟨0, Nat.zero_le _, rfl, Keeps.refl _ _⟩
      case round =>
        obtain ⟨j, hj, rfl, hkq⟩ := hrel
        have d3 : wr.cell? ⟨F, 3, none⟩ = some (.slice ca m cc) := (blk_cell (blk_kept HB.out.2.2.2.1 hkq (fun f => f)) 3).trans rfl
        have e3 : wr.cell? ⟨F + 1, 3, none⟩ = some (.slice ca' m cc') := (blk_cell (blk_kept HB.out.2.2.2.2 hkq (fun f => f)) 3).trans rfl
        by_cases hjm : j < m
        · obtain ⟨g, o, x, rfl, hx, hat⟩ := (HB.out.1.more hkq).at hjm
          obtain ⟨g', o', x', rfl, hx', hat'⟩ := (HB.out.2.1.more hkq).at hjm
          rw [hx] at hx'
          obtain rfl := Option.some.inj hx'
          obtain ⟨y0, y1, y2, y3, y4⟩ := hat
          obtain ⟨u0, u1, u2, u3, u4⟩ := hat'
          have i2 : (j : Int) < (m : Int) := by omega
          have hne := neqIns6 x.kind x.a x.b x.c x.k
          have HK : Hid (Keeps None wb wr) := hkq
          clear hkq hx
          go_upto_region 13 with fail
          go_quiet (fail)
          go_wp2_with fail
          exact ⟨⟨j + 1, by omega, by simp, HK.out.trans (Keeps.drewN None _ _) (fun _ f _ => f)⟩, by simp [intOf]; omega⟩
        · have i2 : ¬ ((j : Int) < (m : Int)) := by omega
          have HK : Hid (Keeps None wb wr) := hkq
          clear hkq
          go_wp2_with fail
          exact ⟨⟨k + 1, by omega, by simp, HB.out.2.2.1.trans HK.out (fun _ f _ => f)⟩, by simp [intOf]; omega⟩
    · have i1 : ¬ ((k : Int) < (n : Int)) := by omega
      have HK : Hid (Keeps None wa wr) := hkp
      clear hkp
      go_wp2_with fail
      go_ret
      exact ⟨rfl, HC.out.2.2.1.trans HK.out (fun _ f _ => f)⟩
end Go.Proofs.YtbdpdojeaahpjaaGreatDoor
/-! Two functions of a program change places: it is valid as before. -/
namespace Go.Proofs.YtbdpdojeaahpjaaGreatDoor
set_option linter.unusedVariables false
set_option maxRecDepth 20000
open Go.RowKit Go.PlainOps

def sig (F k : Nat) : Nat := if k = 0 then F else if k = F then 0 else k
def rho (F : Nat) (b : Int) : Int := if b = 0 then (F : Int) else if b = (F : Int) then 0 else b
def insR (F : Nat) (i : Ins) : Ins := if i.kind = 5 then { i with b := rho F i.b } else i
def fnR (F : Nat) (f : Fn) : Fn := { f with code := f.code.map (insR F) }
def swapP (l : List Fn) (F : Nat) : List Fn := match l[0]?, l[F]? with
  | some x, some y => (l.set 0 y).set F x
  | _, _ => l
def swapL (l : List Fn) (F : Nat) : List Fn := (swapP l F).map (fnR F)
theorem sig_sig (F k : Nat) : sig F (sig F k) = k := by
  unfold sig
  by_cases h0 : k = 0
  · subst h0
    by_cases hF : F = 0
    · simp [hF]
    · simp [hF]
  · by_cases h1 : k = F
    · subst h1; simp [h0]
    · simp [h0, h1]
theorem swapP_len (l : List Fn) (F : Nat) : (swapP l F).length = l.length := by unfold swapP; split <;> simp
theorem swapL_len (l : List Fn) (F : Nat) : (swapL l F).length = l.length := by rw [swapL, List.length_map, swapP_len]
theorem swapP_at {l : List Fn} {F : Nat} (hF : F < l.length) (k : Nat) : (swapP l F)[k]? = l[sig F k]? := by
  have h0 : l[0]? = some (l[0]'(by omega)) := List.getElem?_eq_getElem _
  have h1 : l[F]? = some (l[F]'hF) := List.getElem?_eq_getElem _
  unfold swapP
  rw [h0, h1]
  simp only
  unfold sig
  by_cases hkF : F = k
  · subst hkF
    rw [List.getElem?_set_self (by simpa using hF)]
    by_cases hF0 : F = 0
    · subst hF0; rw [if_pos rfl, h1]
    · rw [if_neg hF0, if_pos rfl, h0]
  · rw [List.getElem?_set_ne hkF]
    by_cases hk0 : k = 0
    · subst hk0
      rw [List.getElem?_set_self (by omega), if_pos rfl, h1]
    · rw [List.getElem?_set_ne (by omega), if_neg hk0, if_neg (by omega)]
theorem swapL_at {l : List Fn} {F : Nat} (hF : F < l.length) (k : Nat) : (swapL l F)[k]? = (l[sig F k]?).map (fnR F) := by
  rw [swapL, List.getElem?_map, swapP_at hF]
theorem rho_nat {F : Nat} {b : Int} (hb : 0 ≤ b) : (rho F b).toNat = sig F b.toNat ∧ 0 ≤ rho F b := by
  obtain ⟨k, rfl⟩ := Int.eq_ofNat_of_zero_le hb
  unfold rho sig
  by_cases h0 : k = 0
  · subst h0; simp
  · by_cases h1 : k = F
    · subst h1
      rw [if_neg (by omega), if_pos rfl]
      simp [h0]
    · rw [if_neg (by omega), if_neg (by omega)]
      simp [h0, h1]
theorem rho_lt {F : Nat} {b : Int} {n : Nat} (hF : F < n) (hb : 0 ≤ b ∧ b < (n : Int)) : 0 ≤ rho F b ∧ rho F b < (n : Int) := by
  unfold rho
  repeat' split
  all_goals omega
theorem par_swap {l : List Fn} {F : Nat} (hF : F < l.length) {b : Int} (hb : 0 ≤ b) : parV (swapL l F) (rho F b) = parV l b := by
  unfold parV
  rw [(rho_nat hb).1, swapL_at hF, sig_sig]
  cases l[b.toNat]? <;> rfl
theorem code_swap {l : List Fn} {F : Nat} (hF : F < l.length) {f : Int} (hf : 0 ≤ f) : codeOf (swapL l F) (rho F f) = (codeOf l f).map (insR F) := by
  unfold codeOf
  rw [(rho_nat hf).1, swapL_at hF, sig_sig]
  cases l[f.toNat]? <;> rfl
theorem insR_kind (F : Nat) (i : Ins) : (insR F i).kind = i.kind := by unfold insR; split <;> rfl
theorem insR_a (F : Nat) (i : Ins) : (insR F i).a = i.a := by unfold insR; split <;> rfl
theorem insR_c (F : Nat) (i : Ins) : (insR F i).c = i.c := by unfold insR; split <;> rfl
theorem insR_k (F : Nat) (i : Ins) : (insR F i).k = i.k := by unfold insR; split <;> rfl
theorem insR_b {F : Nat} {i : Ins} (h : i.kind ≠ 5) : (insR F i).b = i.b := by unfold insR; rw [if_neg h]
theorem insR_b5 {F : Nat} {i : Ins} (h : i.kind = 5) : (insR F i).b = rho F i.b := by unfold insR; rw [if_pos h]
/-! ### The search does not see it -/
theorem after_swap (F : Nat) (i : Ins) (slot st : Int) : afterV (insR F i) slot st = afterV i slot st := by unfold afterV; rw [insR_kind, insR_a]
theorem exits_swap (F : Nat) (at_ : Int) (i : Ins) : exitsV at_ (insR F i) = exitsV at_ i := by
  unfold exitsV
  rw [insR_kind, insR_a]
  by_cases h : i.kind = 5
  · rw [h]; rfl
  · rw [insR_b h]
theorem run_swap (F : Nat) (f : Fn) (slot : Int) (goal : Pt) : ∀ (k : Nat) (fr op : List Pt), runS (fnR F f) slot goal k fr op = runS f slot goal k fr op
  | 0, _, _ => by cases ‹List Pt› <;> rfl
  | k + 1, fr, [] => rfl
  | k + 1, fr, h :: t => by
    simp only [runS, fnR, List.getElem?_map]
    cases f.code[h.1.toNat]? with
    | none => rfl
    | some i =>
      simp only [Option.map_some, after_swap, exits_swap]
      split
      · rfl
      · exact run_swap F f slot goal k _ _
theorem search_swap (F : Nat) (f : Fn) (slot : Int) (goal : Pt) : searchV (fnR F f) slot goal = searchV f slot goal := by
  unfold searchV
  rw [run_swap]
  simp [fnR]
theorem row_swap (F : Nat) (f : Fn) (n : Nat) : rowV (fnR F f) n = rowV f n := by
  unfold rowV
  simp only [search_swap]
  rfl
theorem misuse_swap (F : Nat) (i : Ins) (row : List Int) : misuseV (insR F i) row = misuseV i row := by
  unfold misuseV
  rw [insR_kind, insR_a]
  by_cases h : i.kind = 5
  · rw [if_pos h, if_pos h]
  · rw [insR_b h]
theorem fits_swap {l : List Fn} {F : Nat} (hF : F < l.length) {f : Fn} {i : Ins} (h : fitsV false l f i = true) : fitsV false (swapL l F) (fnR F f) (insR F i) = true := by
  have hk := fits_kind h
  have hl : (fnR F f).code.length = f.code.length := by simp [fnR]
  have hr : (fnR F f).regs = f.regs := rfl
  have hs : (fnR F f).slots = f.slots := rfl
  unfold fitsV at h ⊢
  by_cases h5 : i.kind = 5
  · simp only [insR_kind, insR_a, insR_c, insR_k, insR_b5 h5, h5] at h ⊢
    simp [fA, fB, fC, fK, allowsV, belowV, holdsV, hr, hs] at h ⊢
    obtain ⟨h1, h2⟩ := h
    have hb : 0 ≤ i.b ∧ i.b < (l.length : Int) := by omega
    have hb2 := rho_lt hF hb
    rw [insR_b5 h5, par_swap hF hb.1, swapL_len]
    refine ⟨⟨h1.1, by omega⟩, h2⟩
  · have e : insR F i = i := by unfold insR; rw [if_neg h5]
    rw [e]
    have ha : ∀ what x, what ≠ 4 → what ≠ 5 → allowsV false (swapL l F) (fnR F f) what x i = allowsV false l f what x i := fun what x h4 h5' => by
      unfold allowsV
      rw [hr, hs, hl]
      simp [h4, h5']
    have hkk : i.kind = 0 ∨ i.kind = 1 ∨ i.kind = 2 ∨ i.kind = 3 ∨ i.kind = 4 ∨ i.kind = 6 ∨ i.kind = 7 ∨ i.kind = 8 ∨ i.kind = 9 := by omega
    have hne : ∀ n : Nat, n = 0 ∨ n = 1 ∨ n = 2 ∨ n = 3 ∨ n = 4 ∨ n = 6 ∨ n = 7 ∨ n = 8 ∨ n = 9 → fA n ≠ 4 ∧ fA n ≠ 5 ∧ fB n ≠ 4 ∧ fB n ≠ 5 ∧ fC n ≠ 4 ∧ fC n ≠ 5 := by
      rintro n (rfl | rfl | rfl | rfl | rfl | rfl | rfl | rfl | rfl) <;> decide
    obtain ⟨n1, n2, n3, n4, n5, n6⟩ := hne i.kind.toNat (by omega)
    rw [ha _ _ n1 n2, ha _ _ n3 n4, ha _ _ n5 n6]
    exact h
theorem valid_swap {l : List Fn} {F : Nat} (hF : F < l.length) {f : Fn} (h : Valid l f) : Valid (swapL l F) (fnR F f) := by
  have hlen : (fnR F f).code.length = f.code.length := by simp [fnR]
  refine ⟨?_, ?_, ?_⟩
  · have := h.shape
    unfold shapeV at this ⊢
    rw [hlen]
    exact this
  · have hc := h.code
    unfold codeFault at hc ⊢
    split at hc
    · cases hc
    · rename_i h1
      have h2 := firstAt_all _ _ _ h1
      rw [firstAt_none]
      · simp only
        have hro : runsOut (fnR F f) = runsOut f := by
          unfold runsOut
          rw [hlen]
          simp only [fnR, List.getElem?_map]
          cases f.code[f.code.length - 1]? with
          | none => rfl
          | some i => simp only [Option.map_some, insR_kind]
        rw [hro]
        split at hc
        · cases hc
        · rename_i h3
          rw [if_neg h3]
      · intro j y hy
        simp only [fnR, List.getElem?_map, Option.map_eq_some_iff] at hy
        obtain ⟨i, hi, rfl⟩ := hy
        have h4 := h2 j i hi
        split at h4
        · rename_i h5
          rw [if_pos (fits_swap hF h5)]
        · cases h4
  · have hc := h.slot
    unfold slotFault at hc ⊢
    simp only [Option.map_eq_none_iff] at hc ⊢
    have h2 := firstAt_all _ _ _ hc
    rw [firstAt_none]
    intro j y hy
    simp only [fnR, List.getElem?_map, Option.map_eq_some_iff] at hy
    obtain ⟨i, hi, rfl⟩ := hy
    have h4 := h2 j i hi
    rw [misuse_swap, row_swap]
    exact h4
theorem valid_check {l : List Fn} (h0 : 1 ≤ l.length ∧ l.length ≤ 32) (h : ∀ f ∈ l, Valid l f) : checkV l = (0, 0, 0) := by
  unfold checkV
  rw [if_neg (by omega), firstAt_none]
  · simp only
    rw [firstAt_none]
    · simp only
      rw [firstAt_none]
      intro j y hy
      exact (h y (List.mem_of_getElem? hy)).slot
    · intro j y hy
      exact (h y (List.mem_of_getElem? hy)).code
  · intro j y hy
    rw [if_pos (h y (List.mem_of_getElem? hy)).shape]
theorem check_swap {l : List Fn} {F : Nat} (hF : F < l.length) (h : checkV l = (0, 0, 0)) : checkV (swapL l F) = (0, 0, 0) := by
  obtain ⟨h1, h2, h3⟩ := check_valid h
  refine valid_check (by rw [swapL_len]; omega) fun f hf => ?_
  obtain ⟨j, hj, e⟩ := List.getElem_of_mem hf
  have h4 : (swapL l F)[j]? = some f := by rw [List.getElem?_eq_getElem hj, e]
  rw [swapL_at hF, Option.map_eq_some_iff] at h4
  obtain ⟨g, hg, rfl⟩ := h4
  exact valid_swap hF (h3 g (List.mem_of_getElem? hg))
theorem ok_swap {l : List Fn} {F : Nat} (hF : F < l.length) (hl : l.length ≤ 32) (h : ∀ f ∈ l, f.Ok) : ∀ f ∈ swapL l F, f.Ok := fun f hf => by
  obtain ⟨j, hj, e⟩ := List.getElem_of_mem hf
  have h4 : (swapL l F)[j]? = some f := by rw [List.getElem?_eq_getElem hj, e]
  rw [swapL_at hF, Option.map_eq_some_iff] at h4
  obtain ⟨g, hg, rfl⟩ := h4
  have hG := h g (List.mem_of_getElem? hg)
  refine ⟨hG.params, hG.regs, hG.slots, fun i hi => ?_⟩
  simp only [fnR, List.mem_map] at hi
  obtain ⟨i0, hi0, rfl⟩ := hi
  have hI := hG.code i0 hi0
  by_cases h5 : i0.kind = 5
  · refine ⟨by rw [insR_kind]; exact hI.kind, by rw [insR_a]; exact hI.a, ?_, by rw [insR_c]; exact hI.c, by rw [insR_k]; exact hI.k⟩
    rw [insR_b5 h5]
    have := hI.b
    unfold rho okI at *
    repeat' split
    all_goals omega
  · rw [show insR F i0 = i0 by unfold insR; rw [if_neg h5]]
    exact hI
end Go.Proofs.YtbdpdojeaahpjaaGreatDoor
