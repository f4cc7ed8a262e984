import Derived.Test.YtbdpdojeaahpjaaGreatDoorPkBG
import Derived.Test.YtbdpdojeaahpjaaGreatDoorPkAO
import Derived.Test.YtbdpdojeaahpjaaGreatDoorPkAU
/-! The document's Eval and Tree: the faces. -/
namespace Go.Proofs.YtbdpdojeaahpjaaGreatDoor
set_option linter.unusedVariables false
set_option maxRecDepth 20000
set_option linter.unusedSimpArgs false
open Go.RowKit Go.HeapKit Go.PlainOps

theorem results_ct {P : Program} {fn : Func} {q r : Tmp} {t : TypeId} (h : fn.results = #[.cell q t, .tmp r]) {tmps : Array Value} {w : World} {g : Nat} (ha : tmps.getD q undef = .pointer (some ⟨g, 0, none⟩)) {v : Value}
    (hl : (loadVar t ⟨g, 0, none⟩).run P w = .ok v w) : (results fn tmps).run P w = .ok (.tuple #[v, tmps.getD r undef]) w := by
  have ha' : tmps[q]?.getD undef = .pointer (some ⟨g, 0, none⟩) := by simpa using ha
  simp [results, h, ha', asAddr, hl]
set_option maxHeartbeats 2000000 in
theorem reval_any (a : Option Addr) (n c : Nat) (l : List Fn) (aa : Option Addr) (an ac : Nat) (zs : List Int) (fuel : Int) (w : World) (hS : SeenF w a n l) (hok : ∀ f ∈ l, f.Ok) (hZ : SeenA w aa an zs) (hZ2 : an ≤ 9223372036854775807) (hfu : okI fuel) :
    Calls Tryz.prog 11 #[.agg #[.slice a n c], .slice aa an ac, .int .i64 fuel] w fun e w' => e = .returned (.tuple #[.agg (valC (evalV l zs fuel).1), .int .i64 (evalV l zs fuel).2]) ∧ Keeps None w w' := by
  obtain ⟨B, hB⟩ : ∃ B, B = w.heap.size := ⟨_, rfl⟩
  obtain ⟨b1, b2⟩ := two_boxes w #[.slice a n c] (valC zeroVal) 24 44
  have hk2 := keeps2 w (.cells #[.slice a n c] 24) (.cells (valC zeroVal) 44)
  obtain ⟨W, hW⟩ : ∃ W, W = (w.alloc (.cells #[.slice a n c] 24)).alloc (.cells (valC zeroVal) 44) := ⟨_, rfl⟩
  rw [← hW, ← hB] at b1 b2
  rw [← hW] at hk2
  have hbo := rboth_any a n c l aa an ac zs fuel W (hS.more hk2) hok (hZ.more hk2) hZ2 hfu
  have d0 : W.cell? ⟨B, 0, none⟩ = some (.slice a n c) := (blk_cell b1 0).trans rfl
  have HX : Hid (B = w.heap.size ∧ Keeps None w W ∧ W.heap[B + 1]? = some (.cells (valC zeroVal) 44 (0, 0))) := ⟨hB, hk2, b2⟩
  unfold BothPost at hbo
  obtain ⟨⟨v0, v1, v2, v3, v4⟩, hev⟩ : ∃ ev, ev = (evalV l zs fuel).1 := ⟨_, rfl⟩
  rw [← hev] at hbo ⊢
  generalize (evalV l zs fuel).2 = er at *
  generalize treeV l zs fuel = tv at *
  unfold valC at hbo
  clear hS hok hZ b1 b2 hk2 hev
  go_enter Tryz.func11, Tryz.ntmps11
  go_upto_region 1 with fail
  change Code.wp _ _ _ _ ((w.alloc (.cells #[.slice a n c] 24)).alloc (.cells (valC zeroVal) 44))
  rw [← hW, ← hB]
  clear hW hB
  go_upto_region 2 with (go_at_call 20; refine hbo.mono ?_; rintro _ w3 ⟨nv, rfl, hk3, _, _, _⟩)
  have bZ := blk_kept HX.out.2.2 hk3 (fun f => f)
  have hal := Keeps.alloc None w3 (.cells #[.int .i64 v0, .int .i64 v1, .int .i64 v2, .int .i64 v3, .int .i64 v4] 44)
  have bV := heap_alloc_new w3 (.cells #[.int .i64 v0, .int .i64 v1, .int .i64 v2, .int .i64 v3, .int .i64 v4] 44)
  obtain ⟨V, hV⟩ : ∃ V, V = w3.alloc (.cells #[.int .i64 v0, .int .i64 v1, .int .i64 v2, .int .i64 v3, .int .i64 v4] 44) := ⟨_, rfl⟩
  obtain ⟨G, hG⟩ : ∃ G, G = w3.heap.size := ⟨_, rfl⟩
  rw [← hV] at hal bV
  rw [← hG] at bV
  rw [← hV, ← hG]
  have bZ2 := blk_kept bZ hal (fun f => f)
  have nG : G ≠ B + 1 := by rw [hG]; have := blk_lt bZ; omega
  have x0 : V.cell? ⟨G, 0, none⟩ = some (.int .i64 v0) := (blk_cell bV 0).trans rfl
  have x1 : V.cell? ⟨G, 1, none⟩ = some (.int .i64 v1) := (blk_cell bV 1).trans rfl
  have x2 : V.cell? ⟨G, 2, none⟩ = some (.int .i64 v2) := (blk_cell bV 2).trans rfl
  have x3 : V.cell? ⟨G, 3, none⟩ = some (.int .i64 v3) := (blk_cell bV 3).trans rfl
  have x4 : V.cell? ⟨G, 4, none⟩ = some (.int .i64 v4) := (blk_cell bV 4).trans rfl
  unfold valC zeroVal at bZ2
  have y0 : V.cell? ⟨B + 1, 0, none⟩ = some (.int .i64 0) := (blk_cell bZ2 0).trans rfl
  have y1 : V.cell? ⟨B + 1, 1, none⟩ = some (.int .i64 0) := (blk_cell bZ2 1).trans rfl
  have y2 : V.cell? ⟨B + 1, 2, none⟩ = some (.int .i64 0) := (blk_cell bZ2 2).trans rfl
  have y3 : V.cell? ⟨B + 1, 3, none⟩ = some (.int .i64 0) := (blk_cell bZ2 3).trans rfl
  have y4 : V.cell? ⟨B + 1, 4, none⟩ = some (.int .i64 0) := (blk_cell bZ2 4).trans rfl
  have z0 := blk_free bZ2 0
  have z1 := blk_free bZ2 1
  have z2 := blk_free bZ2 2
  have z3 := blk_free bZ2 3
  have z4 := blk_free bZ2 4
  obtain ⟨w7, hw7⟩ : ∃ w7, w7 = (((((V.setCell ⟨B + 1, 0, none⟩ (.int .i64 v0)).setCell ⟨B + 1, 1, none⟩ (.int .i64 v1)).setCell ⟨B + 1, 2, none⟩ (.int .i64 v2)).setCell ⟨B + 1, 3, none⟩ (.int .i64 v3)).setCell ⟨B + 1, 4, none⟩ (.int .i64 v4)) := ⟨_, rfl⟩
  have bV7 : w7.heap[B + 1]? = some (.cells (valC ⟨v0, v1, v2, v3, v4⟩) 44 (0, 0)) := by
    rw [hw7, blk_set (blk_set (blk_set (blk_set (blk_set bZ2 _) _) _) _) _]
    rfl
  have k7 : Keeps (· = B + 1) V w7 := by
    rw [hw7]
    exact (((((Keeps.refl (· = B + 1) V).andSet (x := ⟨B + 1, 0, none⟩) (.inl rfl) _).andSet (x := ⟨B + 1, 1, none⟩) (.inl rfl) _).andSet (x := ⟨B + 1, 2, none⟩) (.inl rfl) _).andSet (x := ⟨B + 1, 3, none⟩) (.inl rfl) _).andSet (x := ⟨B + 1, 4, none⟩) (.inl rfl) _
  have HQ : Hid (w7.heap[B + 1]? = some (.cells (valC ⟨v0, v1, v2, v3, v4⟩) 44 (0, 0)) ∧ Keeps None w w7) := ⟨bV7, ((HX.out.2.1.trans hk3 (fun _ f _ => f)).trans hal (fun _ f _ => f)).trans k7 (fun i e hi => by have := HX.out.1; omega)⟩
  rw [hw7] at HQ
  clear hw7 bV7 k7 bZ bZ2 bV hal hk3 hbo d0 hV hG
  go_wp2_with fail
  exact bodyPost_ret (results_ct (q := 6) (r := 7) (t := 44) rfl rfl (load_val _ (B + 1) _ HQ.out.1)) rfl ⟨rfl, HQ.out.2⟩
end Go.Proofs.YtbdpdojeaahpjaaGreatDoor
/-! SerialEval. -/
namespace Go.Proofs.YtbdpdojeaahpjaaGreatDoor
set_option linter.unusedVariables false
set_option maxRecDepth 20000
open Go.RowKit Go.HeapKit Go.PlainOps

end Go.Proofs.YtbdpdojeaahpjaaGreatDoor
/-! SerialTree: what its walk keeps. -/
namespace Go.Proofs.YtbdpdojeaahpjaaGreatDoor
set_option linter.unusedVariables false
set_option maxRecDepth 20000
open Go.RowKit Go.HeapKit Go.PlainOps

/-- The program and the arguments that the law copied. -/
structure Al (W wr : World) (Q : Nat) (l : List Fn) (qv : Value) (tq : List At) (bv : Value) (an : Nat) (zs : List Int) : Prop where
  keep : Keeps None W wr
  qlow : W.heap.size ≤ Q
  qb : wr.heap[Q]? = some (.cells #[qv] 24 (0, 0))
  cp : Cp W.heap.size wr l qv tq
  brow : wr.ownsRow 0 2 1 bv an (ints zs)
  blow : ∀ g, bv.ownBlock = some g → W.heap.size ≤ g
theorem Al.more {W wr w' : World} {Q : Nat} {l : List Fn} {qv : Value} {tq : List At} {bv : Value} {an : Nat} {zs : List Int} (h : Al W wr Q l qv tq bv an zs) (hk : Keeps None wr w') : Al W w' Q l qv tq bv an zs :=
  ⟨h.keep.trans hk (fun _ f _ => f), h.qlow, blk_kept h.qb hk (fun f => f), h.cp.more hk, hk.own h.brow (fun _ _ f => f), h.blow⟩
/-- A block of nodes is written. -/
theorem Al.node {W wr w' : World} {Q : Nat} {l : List Fn} {qv : Value} {tq : List At} {bv : Value} {an : Nat} {zs : List Int} {g : Nat} {C : Array Value} (h : Al W wr Q l qv tq bv an zs) (hg : wr.heap[g]? = some (.cells C 65 (0, 0))) (hl : W.heap.size ≤ g) (hk : Keeps (· = g) wr w') : Al W w' Q l qv tq bv an zs := by
  refine ⟨h.keep.trans hk (fun i e hi => by omega), h.qlow, blk_kept h.qb hk (fun e => ?_), h.cp.kept hk (fun g' e q => absurd (own_type h.cp.row e (q ▸ hg)) (by decide)) (fun i t g' ht e q => ?_), hk.own h.brow (fun g' e q => absurd (own_type h.brow e (q ▸ hg)) (by decide)), h.blow⟩
  · have h1 := h.qb
    rw [e, hg] at h1
    injection h1 with h1
    injection h1 with _ h1
    exact absurd h1 (by decide)
  · obtain ⟨f, hf⟩ : ∃ f, l[i]? = some f := ⟨l[i]'(by have := (List.getElem?_eq_some_iff.1 ht).1; have := h.cp.len; omega), by simp⟩
    have hc := h.cp.code i f t hf ht
    exact absurd (own_type hc (by rw [← e]; exact At.blk_slice _ _ _ _) (q ▸ hg)) (by decide)
theorem Al.seenQ {W wr : World} {Q n : Nat} {l : List Fn} {qa : Option Addr} {qc : Nat} {tq : List At} {bv : Value} {an : Nat} {zs : List Int} (h : Al W wr Q l (.slice qa n qc) tq bv an zs) (hn : n = l.length) : SeenF wr qa n l := by
  obtain ⟨a, c, e, hs⟩ := h.cp.seen
  injection e with e1 e2 e3
  rw [e1, hn]
  exact hs
end Go.Proofs.YtbdpdojeaahpjaaGreatDoor
/-! SerialTree: what it writes. -/
namespace Go.Proofs.YtbdpdojeaahpjaaGreatDoor
set_option linter.unusedVariables false
set_option maxRecDepth 20000
open Go.RowKit Go.HeapKit Go.PlainOps

theorem own_put {w : World} {e : TypeId} {z n c g : Nat} {X : List Value} {i : Nat} (y : Value) (h : w.ownsRow 0 e z (.slice (some ⟨g, 0, none⟩) n c) n X) : (w.setCell ⟨g, i, none⟩ y).ownsRow 0 e z (.slice (some ⟨g, 0, none⟩) n c) n (X.set i y) := by
  rcases h.2 with ⟨e1, _⟩ | ⟨g', cap, cur, he, hb0, hg, hnc, hcm, hcs, htk⟩
  · cases e1
  · have he2 := he
    injection he with e1 e2 e3
    injection e1 with e1
    injection e1 with e1
    subst e1
    refine ⟨by rw [List.length_set]; exact h.1, .inr ⟨g, cap, _, he2, hb0, blk_set hg _, hnc, hcm, by simpa using hcs, ?_⟩⟩
    rw [Array.toList_setIfInBounds, List.take_set, htk]
end Go.Proofs.YtbdpdojeaahpjaaGreatDoor
/-! DagOf: the copies written over; the function's code from a region on. -/
namespace Go.Proofs.YtbdpdojeaahpjaaGreatDoor
set_option linter.unusedVariables false
set_option maxRecDepth 20000
open Go.RowKit Go.HeapKit Go.PlainOps

theorem ints_put (zs : List Int) (k : Nat) (y : Int) : (ints zs).set k (.int .i64 y) = ints (zs.set k y) := by
  unfold ints
  rw [List.map_set]
/-- One of the arguments is written over. -/
theorem Al.putB {W wr : World} {Q : Nat} {l : List Fn} {qv : Value} {tq : List At} {ba : Option Addr} {bc an : Nat} {zs : List Int} (h : Al W wr Q l qv tq (.slice ba an bc) an zs) (hn : an = zs.length) {k : Nat} {x : Int} (hx : zs[k]? = some x) :
    ∃ g, ba = some ⟨g, 0, none⟩ ∧ wr.frozen? ⟨g, k, none⟩ = false ∧ wr.cell? ⟨g, k, none⟩ = some (.int .i64 x) ∧ ∀ y, Al W (wr.setCell ⟨g, k, none⟩ (.int .i64 y)) Q l qv tq (.slice (some ⟨g, 0, none⟩) an bc) an (zs.set k y) := by
  have hkl := (List.getElem?_eq_some_iff.1 hx).1
  rcases h.brow.2 with ⟨_, h0⟩ | ⟨g, cap, cur, he, hb0, hg, hnc, hcm, hcs, htk⟩
  · omega
  · injection he with e1 e2 e3
    subst e1
    refine ⟨g, rfl, blk_free hg k, ?_, fun y => ?_⟩
    · have h1 := ints_at zs k x hx
      rw [← htk, List.getElem?_take] at h1
      rw [blk_cell hg, ← Array.getElem?_toList]
      split at h1
      · exact h1
      · cases h1
    · have hk : Keeps (· = g) wr (wr.setCell ⟨g, k, none⟩ (.int .i64 y)) := Keeps.setCell (S := (· = g)) wr (a := ⟨g, k, none⟩) rfl _
      have hl := h.blow g rfl
      refine ⟨h.keep.trans hk (fun i e hi => by omega), h.qlow, blk_kept h.qb hk (fun e => ?_), h.cp.kept hk (fun g' e q => absurd (own_type h.cp.row e (q ▸ hg)) (by decide)) (fun i t g' ht e q => ?_), ?_, h.blow⟩
      · have h1 := h.qb
        rw [e, hg] at h1
        injection h1 with h1
        injection h1 with _ h1
        exact absurd h1 (by decide)
      · obtain ⟨f, hf⟩ : ∃ f, l[i]? = some f := ⟨l[i]'(by have := (List.getElem?_eq_some_iff.1 ht).1; have := h.cp.len; omega), by simp⟩
        have hc := h.cp.code i f t hf ht
        exact absurd (own_type hc (by rw [← e]; exact At.blk_slice _ _ _ _) (q ▸ hg)) (by decide)
      · rw [← ints_put]
        exact own_put _ h.brow
/-- One constant of the program is written over. -/
theorem Al.putK {W wr : World} {Q : Nat} {l : List Fn} {qa : Option Addr} {qc n : Nat} {tq : List At} {bv : Value} {an : Nat} {zs : List Int} (h : Al W wr Q l (.slice qa n qc) tq bv an zs) (hn : n = l.length) {i k : Nat} {f : Fn} {x : Ins} (hf : l[i]? = some f) (hx : f.code[k]? = some x) :
    ∃ g cb cc, qa = some ⟨g, 0, none⟩ ∧ wr.cell? ⟨g, i * 4 + 3, none⟩ = some (.slice (some ⟨cb, 0, none⟩) f.code.length cc) ∧ InsAt wr cb (k * 5) x ∧ wr.frozen? ⟨cb, k * 5 + 4, none⟩ = false ∧ cb ≠ Q ∧ cb ≠ g ∧
      ∀ y, Al W (wr.setCell ⟨cb, k * 5 + 4, none⟩ (.int .i64 y)) Q (l.set i { f with code := f.code.set k { x with k := y } }) (.slice qa n qc) tq bv an zs := by
  have hil := (List.getElem?_eq_some_iff.1 hf).1
  obtain ⟨t, ht⟩ : ∃ t, tq[i]? = some t := ⟨tq[i]'(by rw [h.cp.len]; exact hil), by simp⟩
  have four : ∀ r ∈ List.zipWith tfCells l tq, r.length = 4 := fun r hr => by
    obtain ⟨i, hi, rfl⟩ := List.mem_iff_getElem.1 hr
    rw [List.getElem_zipWith]
    rfl
  have hz := zip_at tfCells l tq i f t hf ht
  rcases h.cp.row.2 with ⟨_, h0⟩ | ⟨g, cap, cur, he, hb0, hg, hnc, hcm, hcs, htk⟩
  · omega
  · injection he with e1 e2 e3
    obtain ⟨cb, ht1, hin, hfz, _⟩ := h.cp.put hf hx ht 0
    obtain ⟨C0, hC0⟩ : ∃ C, wr.heap[cb]? = some (.cells C 37 (0, 0)) := own_block (h.cp.code i f t hf ht) (by rw [ht1]; rfl)
    refine ⟨g, cb, t.2, e1, ?_, hin, hfz _, fun e => ?_, fun e => ?_, fun y => ?_⟩
    · have h1 := flat4_at _ four i _ hz 3 (by omega)
      rw [blk_cell hg, ← Array.getElem?_toList]
      have h2 : (List.zipWith tfCells l tq).flatten[i * 4 + 3]? = some (.slice t.1 f.code.length t.2) := h1
      rw [← htk, List.getElem?_take, if_pos (by omega), ht1] at h2
      exact h2
    · have h1 := h.qb
      rw [← e, hC0] at h1
      injection h1 with h1
      injection h1 with _ h1
      exact absurd h1 (by decide)
    · rw [e, hg] at hC0
      injection hC0 with h1
      injection h1 with _ h1
      exact absurd h1 (by decide)
    · obtain ⟨cb', ht1', _, _, hcp, hk, hbl⟩ := h.cp.put hf hx ht y
      have ecb : cb' = cb := by
        rw [ht1] at ht1'
        injection ht1' with q
        injection q with q
        exact q.symm
      subst ecb
      obtain ⟨C, hC⟩ : ∃ C, wr.heap[cb']? = some (.cells C 37 (0, 0)) := own_block (h.cp.code i f t hf ht) (by rw [ht1]; rfl)
      refine ⟨h.keep.trans hk (fun i e hi => by omega), h.qlow, blk_kept h.qb hk (fun e => ?_), hcp, hk.own h.brow (fun g' e q => absurd (own_type h.brow e (q ▸ hC)) (by decide)), h.blow⟩
      have h1 := h.qb
      rw [e, hC] at h1
      injection h1 with h1
      injection h1 with _ h1
      exact absurd h1 (by decide)
theorem putK_ok {l : List Fn} {i k : Nat} {f : Fn} {x : Ins} {y : Int} (h : ∀ f ∈ l, f.Ok) (hf : l[i]? = some f) (hx : f.code[k]? = some x) (hy : okI y) : ∀ f' ∈ l.set i { f with code := f.code.set k { x with k := y } }, f'.Ok := fun f' hf' => by
  have hF := h f (List.mem_of_getElem? hf)
  rcases List.mem_or_eq_of_mem_set hf' with h1 | h1
  · exact h f' h1
  · subst h1
    refine ⟨hF.params, hF.regs, hF.slots, fun x' hx' => ?_⟩
    rcases List.mem_or_eq_of_mem_set hx' with h2 | h2
    · exact hF.code x' h2
    · subst h2
      have hX := hF.code x (List.mem_of_getElem? hx)
      exact ⟨hX.kind, hX.a, hX.b, hX.c, hy⟩
def regFirst : Code → Option Nat
  | .region n _ _ => some n
  | .seq a _ => regFirst a
  | _ => none
def tailAt (k : Nat) : Code → Option Code
  | .seq a b => if regFirst a = some k then some (.seq a b) else tailAt k b
  | _ => none
noncomputable def ofTail (k : Nat) : Code := (Tryz.f3.body.bind (tailAt k)).getD .skip
end Go.Proofs.YtbdpdojeaahpjaaGreatDoor
/-! DagOf: a program copied, and two that are alike. -/
namespace Go.Proofs.YtbdpdojeaahpjaaGreatDoor
set_option linter.unusedVariables false
set_option maxRecDepth 20000
open Go.RowKit Go.HeapKit Go.PlainOps

set_option maxHeartbeats 2000000 in
theorem twin_own (a : Option Addr) (n c : Nat) (l : List Fn) (w : World) (hS : SeenF w a n l) (hr : n * 48 ≤ 140737488351232) (hrc : ∀ f ∈ l, f.code.length * 40 ≤ 140737488351232) :
    Calls Tryz.prog 4 #[.agg #[.slice a n c]] w (CopiedOwn w l n) := by
  have hn := hS.len
  obtain ⟨B, hB⟩ : ∃ B, B = w.heap.size := ⟨_, rfl⟩
  obtain ⟨p1, p2⟩ := two_boxes w #[.slice a n c] #[.slice none 0 0] 24 24
  have hk2 := keeps2 w (.cells #[.slice a n c] 24) (.cells #[.slice none 0 0] 24)
  have s2 : ((w.alloc (.cells #[.slice a n c] 24)).alloc (.cells #[.slice none 0 0] 24)).heap.size = B + 2 := by rw [hB]; simp
  obtain ⟨w2, hw2⟩ : ∃ w2, w2 = (w.alloc (.cells #[.slice a n c] 24)).alloc (.cells #[.slice none 0 0] 24) := ⟨_, rfl⟩
  rw [← hw2] at p1 p2 hk2 s2
  rw [← hB] at p1 p2
  have hal := Keeps.alloc None w2 (.cells #[.slice none 0 0] 24)
  have p3 := heap_alloc_new w2 (.cells #[.slice none 0 0] 24)
  rw [s2] at p3
  have HS0 : Hid (Ta w (w2.alloc (.cells #[.slice none 0 0] 24)) B (.slice a n c) l 0 (.slice none 0 0) []) :=
    ⟨hk2.trans hal (fun _ f _ => f), blk_kept p1 hal (fun f => f), blk_kept p2 hal (fun f => f), p3, ⟨rfl, .inl ⟨rfl, rfl⟩⟩, fun i f t hf => by simp at hf, rfl, fun g e => by simp [Value.ownBlock] at e, by omega, fun i t g ht => by simp at ht, fun i j t u g ht => by simp at ht⟩
  have HC : Hid (SeenF w a n l ∧ n = l.length ∧ ∀ f ∈ l, f.code.length * 40 ≤ 140737488351232) := ⟨hS, hn, hrc⟩
  have hnb : (n : Int) ≤ 4611686018427387904 := by omega
  have HS2 : Hid _ := s2
  have HP : Hid (∀ e w', (∃ a c tv, e = .returned (.agg #[.slice a n c]) ∧ Cp w.heap.size w' l (.slice a n c) tv ∧ Keeps None w w') → CopiedOwn w l n e w') := fun e w' h => h
  clear hS hn hrc p1 p2 hk2 s2 hal p3
  go_enter Tryz.func4, Tryz.ntmps4
  go_upto_region 1 with fail
  rw [← hw2, ← hB]
  clear hw2 hB
  go_upto_region 2 with fail
  rw [HS2.out]
  generalize w2.alloc (.cells #[.slice none 0 0] 24) = W at *
  go_wp2_with fail
  go_loopw [4] (fun s4 wr => ∃ (k : Nat) (qv : Value) (tv : List At), k ≤ n ∧ s4 = .int .i64 k ∧ Ta w wr B (.slice a n c) l k qv tv) (fun i _ => n - (intOf i).toNat)
  case atStart => exact ⟨0, .slice none 0 0, [], Nat.zero_le _, rfl, HS0.out⟩
  case round =>
    obtain ⟨k, qv, tv, hk, rfl, hT⟩ := hrel
    have d0 : wr.cell? ⟨B, 0, none⟩ = some (.slice a n c) := (cell_of_heap hT.box 0).trans rfl
    by_cases hkn : k < n
    · obtain ⟨b, off, f, ca, cc, rfl, hf, hat⟩ := (HC.out.1.more hT.keep).at hkn
      obtain ⟨y0, y1, y2, y3, hsn⟩ := hat
      have i1 : (k : Int) < (n : Int) := by omega
      have hrf := HC.out.2.2 f (List.mem_of_getElem? hf)
      have HT : Hid (Ta w wr B (.slice (some ⟨b, off, none⟩) n c) l k qv tv ∧ l[k]? = some f) := ⟨hT, hf⟩
      obtain ⟨m, hm⟩ : ∃ m, m = f.code.length := ⟨_, rfl⟩
      rw [← hm] at y3 hsn hrf
      have HM : Hid _ := hm
      have hal := Keeps.alloc None wr (.cells #[.int .i64 f.params, .int .i64 f.regs, .int .i64 f.slots, .slice ca m cc] 35)
      have bF := heap_alloc_new wr (.cells #[.int .i64 f.params, .int .i64 f.regs, .int .i64 f.slots, .slice ca m cc] 35)
      obtain ⟨F, hF⟩ : ∃ F, F = wr.heap.size := ⟨_, rfl⟩
      obtain ⟨W1, hW1⟩ : ∃ W1, W1 = wr.alloc (.cells #[.int .i64 f.params, .int .i64 f.regs, .int .i64 f.slots, .slice ca m cc] 35) := ⟨_, rfl⟩
      rw [← hW1] at hal bF
      rw [← hF] at bF
      obtain ⟨cv, w5, hr5, ho5, hk5, hl5⟩ := codes_copied ca m cc f.code W1 33 (hsn.more hal) hrf
      obtain ⟨ca', cc', hcv⟩ : ∃ ca' cc', cv = .slice ca' m cc' := by
        have := codes_seen (by rw [← hm]; exact ho5)
        obtain ⟨x1, x2, e, _⟩ := this
        exact ⟨x1, x2, by rw [e, hm]⟩
      subst hcv
      have bF5 := blk_kept bF hk5 (fun f => f)
      have hFB : F ≠ B + 2 := by rw [hF]; have := blk_lt hT.qb; omega
      have kF : Keeps (· = F) w5 (w5.setCell ⟨F, 3, none⟩ (.slice ca' m cc')) := Keeps.setCell (S := (· = F)) w5 (a := ⟨F, 3, none⟩) rfl _
      have bF6 : (w5.setCell ⟨F, 3, none⟩ (.slice ca' m cc')).heap[F]? = some (.cells #[.int .i64 f.params, .int .i64 f.regs, .int .i64 f.slots, .slice ca' m cc'] 35 (0, 0)) := by rw [blk_set bF5]; rfl
      have kwF : Keeps None wr (w5.setCell ⟨F, 3, none⟩ (.slice ca' m cc')) := ((hal.trans hk5 (fun _ f _ => f)).trans kF (fun i e hi => by omega))
      have hT6 := hT.more kwF
      have hold : ∀ (i : Nat) (u : At) (g : Nat), tv[i]? = some u → u.blk = some g → g < wr.heap.size := fun i u g hu hg => (hT.cl i u g hu hg).2
      have hnewb : ∀ g, At.blk (ca', cc') = some g → w.heap.size ≤ g ∧ wr.heap.size ≤ g ∧ g < (w5.setCell ⟨F, 3, none⟩ (.slice ca' m cc')).heap.size := fun g hg => by
        have hg' : (Value.slice ca' m cc').ownBlock = some g := by rw [← hg]; cases ca' <;> rfl
        have h1 := hl5 g hg'
        have h2 := hal.size
        have h3 := hT.keep.size
        obtain ⟨cq, hq⟩ := own_block ho5 hg'
        have h4 := blk_lt hq
        have h5 := kF.size
        exact ⟨by omega, by omega, by omega⟩
      have HN : Hid ((∀ (i : Nat) (u : At) (g : Nat), tv[i]? = some u → u.blk = some g → g < wr.heap.size) ∧ ∀ g, At.blk (ca', cc') = some g → w.heap.size ≤ g ∧ wr.heap.size ≤ g ∧ g < (w5.setCell ⟨F, 3, none⟩ (.slice ca' m cc')).heap.size) := ⟨hold, hnewb⟩
      have ho6 := kF.own ho5 (fun g e q => absurd (own_type ho5 e (q ▸ bF5)) (by decide))
      have g3 : W1.cell? ⟨F, 3, none⟩ = some (.slice ca m cc) := (blk_cell bF 3).trans rfl
      have g3a := (Keeps.alloc None W1 (.cells #[] 37)).cell g3 (fun f => f)
      have g5 : w5.cell? ⟨F, 3, none⟩ = some (.slice ca m cc) := (blk_cell bF5 3).trans rfl
      have z5 := blk_free bF5 3
      have H6 : Hid (Ta w (w5.setCell ⟨F, 3, none⟩ (.slice ca' m cc')) B (.slice (some ⟨b, off, none⟩) n c) l k qv tv ∧ (w5.setCell ⟨F, 3, none⟩ (.slice ca' m cc')).ownsRow 0 37 5 (.slice ca' m cc') m (insVals f.code) ∧ (w5.setCell ⟨F, 3, none⟩ (.slice ca' m cc')).heap[F]? = some (.cells #[.int .i64 f.params, .int .i64 f.regs, .int .i64 f.slots, .slice ca' m cc'] 35 (0, 0))) := ⟨hT6, ho6, bF6⟩
      have d0a := hal.cell d0 (fun f => f)
      have y3a := hal.cell y3 (fun f => f)
      have d0b := (Keeps.alloc None W1 (.cells #[] 37)).cell d0a (fun f => f)
      have y3b := (Keeps.alloc None W1 (.cells #[] 37)).cell y3a (fun f => f)
      clear hT hf hsn hm hal bF bF5 kF bF6 kwF hT6 ho6 ho5 hk5 hl5 hrf hFB hold hnewb
      go_upto_region 6 with fail
      rw [← hW1, ← hF]
      clear hW1 hF y0 y1 y2 y3 d0
      go_upto_region 7 with (at_builtin; refine wpList_append_run rfl (.tmp 18) (.tmp 24) 33 33 rfl rfl rfl hr5 ?_)
      generalize w5.setCell ⟨F, 3, none⟩ (.slice ca' m cc') = V at *
      have q0 : V.cell? ⟨B + 2, 0, none⟩ = some qv := (cell_of_heap H6.out.1.qb 0).trans rfl
      have f0 : V.cell? ⟨F, 0, none⟩ = some (.int .i64 f.params) := (cell_of_heap H6.out.2.2 0).trans rfl
      have f1 : V.cell? ⟨F, 1, none⟩ = some (.int .i64 f.regs) := (cell_of_heap H6.out.2.2 1).trans rfl
      have f2 : V.cell? ⟨F, 2, none⟩ = some (.int .i64 f.slots) := (cell_of_heap H6.out.2.2 2).trans rfl
      have f3 : V.cell? ⟨F, 3, none⟩ = some (.slice ca' m cc') := (cell_of_heap H6.out.2.2 3).trans rfl
      have hal2 := Keeps.alloc None V (.cells #[.int .i64 f.params, .int .i64 f.regs, .int .i64 f.slots, .slice ca' m cc'] 35)
      have hT7 := H6.out.1.more hal2
      have ho7 := hal2.own H6.out.2.1 (fun _ _ f => f)
      have hln := HC.out.2.1
      have hcl : (l.take k).length = k := by simp; omega
      obtain ⟨b2, cap2, w7, hrn, hoo, hkk, hgg⟩ := fn_append qv (List.zipWith tfCells (l.take k) tv) (.int .i64 f.params) (.int .i64 f.regs) (.int .i64 f.slots) (.slice ca' m cc') k V.heap.size 22 (V.alloc (.cells #[.int .i64 f.params, .int .i64 f.regs, .int .i64 f.slots, .slice ca' m cc'] 35)) (by rw [List.length_zipWith, hcl, hT7.len]; omega) ⟨rfl, rfl, rfl, rfl⟩ hT7.row (by omega) (heap_alloc_new _ _)
      obtain ⟨u1, u2, hnx⟩ := hT7.next (t := (ca', cc')) HT.out.2 (by rw [← HM.out]; exact ho7) hkk (by unfold tfCells at *; rw [← HM.out]; exact hoo) hgg HN.out.1 (fun g hg => ⟨(HN.out.2 g hg).1, (HN.out.2 g hg).2.1, Nat.lt_of_lt_of_le (HN.out.2 g hg).2.2 hal2.size⟩)
      have HX : Hid _ := hnx
      clear d0a y3a d0b y3b
      clear hnx hT7 ho7 hal2 hoo hkk hgg hcl hln hr5 g3 g3a g5 z5
      go_wp2_with (at_builtin; refine wpList_append_run rfl (.tmp 28) (.tmp 30) 22 22 rfl rfl rfl hrn ?_)
      exact ⟨⟨k + 1, _, _, by omega, by simp, HX.out⟩, by simp [intOf]; omega⟩
    · have hkn2 : k = n := by omega
      subst hkn2
      have i1 : ¬ (k : Int) < (k : Int) := by omega
      obtain ⟨xa, xc, hqv, hsn⟩ := hT.seen HC.out.2.1
      subst hqv
      have q0 : wr.cell? ⟨B + 2, 0, none⟩ = some (.slice xa k xc) := (cell_of_heap hT.qb 0).trans rfl
      have r0 : wr.cell? ⟨B + 1, 0, none⟩ = some (.slice none 0 0) := (cell_of_heap hT.res 0).trans rfl
      have z0 := blk_free hT.res 0
      have kS : Keeps (· = B + 1) wr (wr.setCell ⟨B + 1, 0, none⟩ (.slice xa k xc)) := Keeps.setCell (S := (· = B + 1)) wr rfl _
      have rs := blk_set (i := 0) hT.res (.slice xa k xc)
      have htk : l.take k = l := List.take_of_length_le (by have := HC.out.2.1; omega)
      have hcp : Cp w.heap.size (wr.setCell ⟨B + 1, 0, none⟩ (.slice xa k xc)) l (.slice xa k xc) tv := by
        have hrow := hT.row
        rw [htk] at hrow
        have hcode := hT.code
        rw [htk] at hcode
        refine ⟨?_, fun i f t hf ht => ?_, by rw [hT.len]; exact HC.out.2.1, hT.low, fun i t g ht hg => (hT.cl i t g ht hg).1, hT.nd⟩
        · have h1 := kS.own hrow (fun g e q => absurd (own_type hrow e (q ▸ hT.res)) (by decide))
          have hq : k = l.length := HC.out.2.1
          generalize l.length = m at hq ⊢
          subst hq
          exact h1
        · exact kS.own (hcode i f t hf ht) (fun g e q => absurd (own_type (hcode i f t hf ht) e (q ▸ hT.res)) (by decide))
      have HQ : Hid (_ ∧ _ ∧ _) := And.intro rs (And.intro hcp (hT.keep.trans kS (fun i e hi => by have := hT.hB; omega)))
      clear hT hsn hcp kS rs htk
      go_wp2_with fail
      exact bodyPost_ret (results_one (q := 2) (ty := 24) rfl rfl (load_prog _ _ _ (.slice xa k xc) HQ.out.1)) rfl (HP.out _ _ ⟨xa, xc, tv, rfl, HQ.out.2.1, HQ.out.2.2⟩)
set_option maxHeartbeats 2000000 in
theorem alike_any (a : Option Addr) (n c : Nat) (a' : Option Addr) (c' : Nat) (l : List Fn) (w : World) (hS : SeenF w a n l) (hS' : SeenF w a' n l) (hn : n * 48 ≤ 140737488351232) (hrc : ∀ f ∈ l, f.code.length * 40 ≤ 140737488351232) :
    Calls Tryz.prog 7 #[.agg #[.slice a n c], .agg #[.slice a' n c']] w fun e w' => e = .returned (.bool true) ∧ Keeps None w w' := by
  obtain ⟨b1, b2⟩ := two_boxes w #[.slice a n c] #[.slice a' n c'] 24 24
  have hk := keeps2 w (.cells #[.slice a n c] 24) (.cells #[.slice a' n c'] 24)
  obtain ⟨wa, hwa⟩ : ∃ wa, wa = (w.alloc (.cells #[.slice a n c] 24)).alloc (.cells #[.slice a' n c'] 24) := ⟨_, rfl⟩
  obtain ⟨B, hB⟩ : ∃ B, B = w.heap.size := ⟨_, rfl⟩
  rw [← hwa] at b1 b2 hk
  rw [← hB] at b1 b2
  have d0 : wa.cell? ⟨B, 0, none⟩ = some (.slice a n c) := (blk_cell b1 0).trans rfl
  have e0 : wa.cell? ⟨B + 1, 0, none⟩ = some (.slice a' n c') := (blk_cell b2 0).trans rfl
  have HC : Hid (SeenF wa a n l ∧ SeenF wa a' n l ∧ Keeps None w wa ∧ wa.heap[B]? = some (.cells #[.slice a n c] 24 (0, 0)) ∧ wa.heap[B + 1]? = some (.cells #[.slice a' n c'] 24 (0, 0)) ∧ ∀ f ∈ l, f.code.length * 40 ≤ 140737488351232) := ⟨hS.more hk, hS'.more hk, hk, b1, b2, hrc⟩
  have hnb : (n : Int) ≤ 4611686018427387904 := by omega
  clear hS hS' hk b1 b2 hrc
  go_enter Tryz.func7, Tryz.ntmps7
  go_upto_region 1 with fail
  rw [← hwa, ← hB]
  clear hwa hB
  go_wp2_with fail
  clear d0 e0
  go_loopw [5] (fun s5 wr => ∃ k : Nat, k ≤ n ∧ s5 = .int .i64 k ∧ Keeps None wa wr) (fun i _ => n - (intOf i).toNat)
  case atStart => exact ⟨0, Nat.zero_le _, rfl, Keeps.refl _ _⟩
  case round =>
    obtain ⟨k, hk, rfl, hkp⟩ := hrel
    have d0 : wr.cell? ⟨B, 0, none⟩ = some (.slice a n c) := (blk_cell (blk_kept HC.out.2.2.2.1 hkp (fun f => f)) 0).trans rfl
    have e0 : wr.cell? ⟨B + 1, 0, none⟩ = some (.slice a' n c') := (blk_cell (blk_kept HC.out.2.2.2.2.1 hkp (fun f => f)) 0).trans rfl
    by_cases hkn : k < n
    · obtain ⟨b, off, f, ca, cc, rfl, hf, hat⟩ := (HC.out.1.more hkp).at hkn
      obtain ⟨b', off', f', ca', cc', rfl, hf', hat'⟩ := (HC.out.2.1.more hkp).at hkn
      rw [hf] at hf'
      obtain rfl := Option.some.inj hf'
      obtain ⟨m, hm⟩ : ∃ m, m = f.code.length := ⟨_, rfl⟩
      have hmb := HC.out.2.2.2.2.2 f (List.mem_of_getElem? hf)
      obtain ⟨y0, y1, y2, y3, hsn⟩ := hat
      obtain ⟨u0, u1, u2, u3, hsn'⟩ := hat'
      rw [← hm] at y3 u3 hsn hsn' hmb
      have hmm : (m : Int) ≤ 4611686018427387904 := by omega
      obtain ⟨q1, q2⟩ := two_boxes wr #[.int .i64 f.params, .int .i64 f.regs, .int .i64 f.slots, .slice ca m cc] #[.int .i64 f.params, .int .i64 f.regs, .int .i64 f.slots, .slice ca' m cc'] 35 35
      have hk2 := keeps2 wr (.cells #[.int .i64 f.params, .int .i64 f.regs, .int .i64 f.slots, .slice ca m cc] 35) (.cells #[.int .i64 f.params, .int .i64 f.regs, .int .i64 f.slots, .slice ca' m cc'] 35)
      have hk1 := Keeps.alloc None wr (.cells #[.int .i64 f.params, .int .i64 f.regs, .int .i64 f.slots, .slice ca m cc] 35)
      have e1 := hk1.cell e0 (fun f => f)
      have v0 := hk1.cell u0 (fun f => f)
      have v1 := hk1.cell u1 (fun f => f)
      have v2 := hk1.cell u2 (fun f => f)
      have v3 := hk1.cell u3 (fun f => f)
      obtain ⟨wb, hwb⟩ : ∃ wb, wb = (wr.alloc (.cells #[.int .i64 f.params, .int .i64 f.regs, .int .i64 f.slots, .slice ca m cc] 35)).alloc (.cells #[.int .i64 f.params, .int .i64 f.regs, .int .i64 f.slots, .slice ca' m cc'] 35) := ⟨_, rfl⟩
      obtain ⟨F, hF⟩ : ∃ F, F = wr.heap.size := ⟨_, rfl⟩
      rw [← hwb] at q1 q2 hk2
      rw [← hF] at q1 q2
      have i1 : (k : Int) < (n : Int) := by omega
      have HB : Hid (SeenI wb ca m f.code ∧ SeenI wb ca' m f.code ∧ Keeps None wa wb ∧ wb.heap[F]? = some (.cells #[.int .i64 f.params, .int .i64 f.regs, .int .i64 f.slots, .slice ca m cc] 35 (0, 0)) ∧ wb.heap[F + 1]? = some (.cells #[.int .i64 f.params, .int .i64 f.regs, .int .i64 f.slots, .slice ca' m cc'] 35 (0, 0))) := ⟨hsn.more hk2, hsn'.more hk2, hkp.trans hk2 (fun _ f _ => f), q1, q2⟩
      have x0 : wb.cell? ⟨F, 0, none⟩ = some (.int .i64 f.params) := (blk_cell q1 0).trans rfl
      have x1 : wb.cell? ⟨F, 1, none⟩ = some (.int .i64 f.regs) := (blk_cell q1 1).trans rfl
      have x2 : wb.cell? ⟨F, 2, none⟩ = some (.int .i64 f.slots) := (blk_cell q1 2).trans rfl
      have x3 : wb.cell? ⟨F, 3, none⟩ = some (.slice ca m cc) := (blk_cell q1 3).trans rfl
      have z0 : wb.cell? ⟨F + 1, 0, none⟩ = some (.int .i64 f.params) := (blk_cell q2 0).trans rfl
      have z1 : wb.cell? ⟨F + 1, 1, none⟩ = some (.int .i64 f.regs) := (blk_cell q2 1).trans rfl
      have z2 : wb.cell? ⟨F + 1, 2, none⟩ = some (.int .i64 f.slots) := (blk_cell q2 2).trans rfl
      have z3 : wb.cell? ⟨F + 1, 3, none⟩ = some (.slice ca' m cc') := (blk_cell q2 3).trans rfl
      clear hkp hf hsn hsn' hm q1 q2 hk2 hk1
      go_upto_region 8 with fail
      rw [← hwb, ← hF]
      clear hwb hF y0 y1 y2 y3 u0 u1 u2 u3 v0 v1 v2 v3 d0 e0 e1
      go_wp2_with fail
      clear x0 x1 x2 x3 z0 z1 z2 z3
      go_loopw [8] (fun s8 wy => ∃ j : Nat, j ≤ m ∧ s8 = .int .i64 j ∧ Keeps None wb wy) (fun i _ => m - (intOf i).toNat)
      case atStart => exact ⟨0, Nat.zero_le _, rfl, Keeps.refl _ _⟩
      case round =>
        obtain ⟨j, hj, rfl, hkq⟩ := hrel
        have d3 : wr.cell? ⟨F, 3, none⟩ = some (.slice ca m cc) := (blk_cell (blk_kept HB.out.2.2.2.1 hkq (fun f => f)) 3).trans rfl
        have e3 : wr.cell? ⟨F + 1, 3, none⟩ = some (.slice ca' m cc') := (blk_cell (blk_kept HB.out.2.2.2.2 hkq (fun f => f)) 3).trans rfl
        by_cases hjm : j < m
        · obtain ⟨g, o, x, rfl, hx, hat⟩ := (HB.out.1.more hkq).at hjm
          obtain ⟨g', o', x', rfl, hx', hat'⟩ := (HB.out.2.1.more hkq).at hjm
          rw [hx] at hx'
          obtain rfl := Option.some.inj hx'
          obtain ⟨y0, y1, y2, y3, y4⟩ := hat
          obtain ⟨u0, u1, u2, u3, u4⟩ := hat'
          have i2 : (j : Int) < (m : Int) := by omega
          have hne := neqIns6 x.kind x.a x.b x.c x.k
          have HK : Hid (Keeps None wb wr) := hkq
          clear hkq hx
          go_upto_region 13 with fail
          go_quiet (fail)
          go_wp2_with fail
          exact ⟨⟨j + 1, by omega, by simp, HK.out.trans (Keeps.drewN None _ _) (fun _ f _ => f)⟩, by simp [intOf]; omega⟩
        · have i2 : ¬ ((j : Int) < (m : Int)) := by omega
          have HK : Hid (Keeps None wb wr) := hkq
          clear hkq
          go_wp2_with fail
          exact ⟨⟨k + 1, by omega, by simp, HB.out.2.2.1.trans HK.out (fun _ f _ => f)⟩, by simp [intOf]; omega⟩
    · have i1 : ¬ ((k : Int) < (n : Int)) := by omega
      have HK : Hid (Keeps None wa wr) := hkp
      clear hkp
      go_wp2_with fail
      go_ret
      exact ⟨rfl, HC.out.2.2.1.trans HK.out (fun _ f _ => f)⟩
end Go.Proofs.YtbdpdojeaahpjaaGreatDoor
/-! Two functions of a program change places: it is valid as before. -/
namespace Go.Proofs.YtbdpdojeaahpjaaGreatDoor
set_option linter.unusedVariables false
set_option maxRecDepth 20000
open Go.RowKit Go.PlainOps

/-! ### The search does not see it -/
end Go.Proofs.YtbdpdojeaahpjaaGreatDoor
/-! A sync ahead of each function: it is valid as before. -/
namespace Go.Proofs.YtbdpdojeaahpjaaGreatDoor
set_option linter.unusedVariables false
set_option maxRecDepth 20000
open Go.RowKit Go.PlainOps

/-! ### The longer code -/
end Go.Proofs.YtbdpdojeaahpjaaGreatDoor
/-! The sizes of a run that ends, plainly. -/
namespace Go.Proofs.YtbdpdojeaahpjaaGreatDoor
set_option linter.unusedVariables false
set_option maxRecDepth 20000
open Go.RowKit Go.PlainOps

end Go.Proofs.YtbdpdojeaahpjaaGreatDoor
/-! Fuel changes nothing but whether there is an answer, plainly. -/
namespace Go.Proofs.YtbdpdojeaahpjaaGreatDoor
set_option linter.unusedVariables false
set_option maxRecDepth 20000
open Go.RowKit Go.PlainOps

def Rn.at (s : Rn) (F : Nat) : Rn := { s with fuel := F }
section
variable {fs : List Fn} (hA : AllV fs) (L : Bool)
include hA
end
end Go.Proofs.YtbdpdojeaahpjaaGreatDoor
/-! A run with a sync ahead of each task. -/
namespace Go.Proofs.YtbdpdojeaahpjaaGreatDoor
set_option linter.unusedVariables false
set_option maxRecDepth 20000
open Go.RowKit Go.PlainOps

end Go.Proofs.YtbdpdojeaahpjaaGreatDoor
/-! A run traced, plainly: the nodes and edges of its dag, as tasks.Walk shows them to dag's trace. -/
namespace Go.Proofs.YtbdpdojeaahpjaaGreatDoor
set_option linter.unusedVariables false
set_option maxRecDepth 20000
open Go.RowKit Go.PlainOps

structure Trc where
  n : Nat
  es : List (Nat × Nat)
  lasts : List Nat
  ends : List (List Nat)
def trc0 : Trc := ⟨0, [], [], []⟩
def sortN (l : List Nat) : List Nat := l.mergeSort (fun a b => decide (a ≤ b))
/-- A task that is shown for the first time has a place of its own. -/
def openT (T : Trc) (work : Int) : Trc := if work = 0 then { T with lasts := T.lasts ++ [0], ends := T.ends ++ [[]] } else T
/-- The nodes that an instruction has to wait for. -/
def fromsV (T : Trc) (num : Nat) (work : Int) (par : Option Nat) (i : Ins) : List Nat :=
  let fr := if work = 0 then (match par with | some p => [T.lasts.getD p 0] | none => []) else [T.lasts.getD num 0]
  if i.kind = 6 then sortN (fr ++ T.ends.getD num []) else fr
def clearT (T : Trc) (num : Nat) (i : Ins) : Trc := if i.kind = 6 then { T with ends := T.ends.set num [] } else T
def markT (T : Trc) (num : Nat) (par : Option Nat) (i : Ins) (fr : List Nat) : Trc :=
  let T3 : Trc := { T with n := T.n + 1, es := T.es ++ fr.map (fun f => (f, T.n)), lasts := T.lasts.set num T.n }
  match par with
  | some p => if i.kind = 9 then { T3 with ends := T3.ends.set p (T3.ends.getD p [] ++ [T.n]) } else T3
  | none => T3
def addV (T : Trc) (num : Nat) (work : Int) (par : Option Nat) (i : Ins) : Trc :=
  markT (clearT (openT T work) num i) num par i (fromsV (openT T work) num work par i)
/-- A task from instruction 'at_' on, shown. -/
def walkV (fs : List Fn) : Nat → Nat → Trc → Tk → Option Nat → Nat → Option (Int × Nat × Trc)
  | 0, _, _, _, _, _ => none
  | g + 1, k, T, t, par, at_ => match (codeOf fs t.node.func)[at_]? with
    | none => none
    | some i =>
      if i.kind = 3 then walkV fs g k (addV T t.number.toNat t.node.work par i) (payT t) par i.a.toNat
      else if i.kind = 4 then walkV fs g k (addV T t.number.toNat t.node.work par i) (payT t) par (if t.regs.getD i.a.toNat 0 = 0 then at_ + 1 else i.b.toNat)
      else if i.kind = 5 then match walkV fs g (k + 1) (addV T t.number.toNat t.node.work par i) (enterT ⟨0, k, 0, []⟩ (childV fs (payT t) i)) (some t.number.toNat) 0 with
        | none => none
        | some (v, k2, T2) => walkV fs g k2 T2 (gotT (spawnT (payT t)) i.a.toNat v 0) par (at_ + 1)
      else if i.kind = 9 then some (t.regs.getD i.a.toNat 0, k, addV T t.number.toNat t.node.work par i)
      else walkV fs g k (addV T t.number.toNat t.node.work par i) (computeT (payT t) i) par (at_ + 1)
/-- Two tasks that differ in their spans alone. -/
structure SameT (t t' : Tk) : Prop where
  regs : t'.regs = t.regs
  slots : t'.slots = t.slots
  node : t'.node = t.node
  number : t'.number = t.number
  spawned : t'.spawned = t.spawned
end Go.Proofs.YtbdpdojeaahpjaaGreatDoor
/-! Of a run that is shown: which places the trace has. -/
namespace Go.Proofs.YtbdpdojeaahpjaaGreatDoor
set_option linter.unusedVariables false
set_option maxRecDepth 20000
open Go.RowKit Go.PlainOps

theorem add_len (T : Trc) (num : Nat) (work : Int) (par : Option Nat) (i : Ins) : (addV T num work par i).lasts.length = T.lasts.length + (if work = 0 then 1 else 0) ∧ (addV T num work par i).ends.length = T.ends.length + (if work = 0 then 1 else 0) ∧ (addV T num work par i).n = T.n + 1 := by
  unfold addV markT clearT openT
  cases par <;> simp only <;> (repeat' split) <;> simp
/-- A task's place, and its parent's. -/
structure Jn (T : Trc) (k : Nat) (t : Tk) (par : Option Nat) : Prop where
  two : T.lasts.length = T.ends.length
  num : (t.node.work = 0 ∧ t.number = (T.lasts.length : Int) ∧ T.lasts.length + 1 = k) ∨ (0 < t.node.work ∧ 0 ≤ t.number ∧ t.number < (T.lasts.length : Int) ∧ T.lasts.length = k)
  par : ∀ p, par = some p → p < T.lasts.length
theorem Jn.work {T : Trc} {k : Nat} {t : Tk} {par : Option Nat} (h : Jn T k t par) : 0 ≤ t.node.work := by rcases h.num with h | h <;> omega
/-- Behind an instruction that is shown. -/
theorem Jn.shown {T : Trc} {k : Nat} {t : Tk} {par : Option Nat} (h : Jn T k t par) (i : Ins) {t' : Tk} (hw : t'.node.work = t.node.work + 1) (hn : t'.number = t.number) : Jn (addV T t.number.toNat t.node.work par i) k t' par := by
  obtain ⟨h1, h2, h3⟩ := add_len T t.number.toNat t.node.work par i
  have h0 := h.two
  rcases h.num with ⟨a, b, c⟩ | ⟨a, b, c, d⟩
  · rw [if_pos a] at h1 h2
    refine ⟨by omega, .inr ⟨by omega, by rw [hn]; omega, by rw [hn]; omega, by omega⟩, fun p hp => by have := h.par p hp; omega⟩
  · rw [if_neg (by omega)] at h1 h2
    refine ⟨by omega, .inr ⟨by omega, by rw [hn]; omega, by rw [hn]; omega, by omega⟩, fun p hp => by have := h.par p hp; omega⟩
theorem Jn.len {T : Trc} {k : Nat} {t : Tk} {par : Option Nat} (h : Jn T k t par) (i : Ins) : (addV T t.number.toNat t.node.work par i).lasts.length = k ∧ (addV T t.number.toNat t.node.work par i).ends.length = k := by
  obtain ⟨h1, h2, h3⟩ := add_len T t.number.toNat t.node.work par i
  have h0 := h.two
  rcases h.num with ⟨a, b, c⟩ | ⟨a, b, c, d⟩
  · rw [if_pos a] at h1 h2; omega
  · rw [if_neg (by omega)] at h1 h2; omega
theorem Jn.child {fs : List Fn} {T : Trc} {k : Nat} {t : Tk} {par : Option Nat} (h : Jn T k t par) (i : Ins) : Jn (addV T t.number.toNat t.node.work par i) (k + 1) (enterT ⟨0, k, 0, []⟩ (childV fs (payT t) i)) (some t.number.toNat) := by
  obtain ⟨h1, h2⟩ := h.len i
  refine ⟨by omega, .inl ⟨rfl, by show ((k : Nat) : Int) = _; rw [h1], by omega⟩, fun p hp => ?_⟩
  obtain rfl := Option.some.inj hp
  rcases h.num with ⟨a, b, c⟩ | ⟨a, b, c, d⟩ <;> omega
theorem Jn.back {T T2 : Trc} {k k2 : Nat} {t t' : Tk} {par : Option Nat} (h : Jn T k t par) (hw : 0 < t'.node.work) (hn : t'.number = t.number) (h1 : T2.lasts.length = k2) (h2 : T2.ends.length = k2) (hk : k ≤ k2) : Jn T2 k2 t' par := by
  refine ⟨by omega, .inr ⟨hw, ?_, ?_, h1⟩, fun p hp => ?_⟩
  · rw [hn]; rcases h.num with ⟨a, b, c⟩ | ⟨a, b, c, d⟩ <;> omega
  · rw [hn]; rcases h.num with ⟨a, b, c⟩ | ⟨a, b, c, d⟩ <;> omega
  · have := h.par p hp
    rcases h.num with ⟨a, b, c⟩ | ⟨a, b, c, d⟩ <;> omega
theorem walk_len {fs : List Fn} : ∀ (g k : Nat) (T : Trc) (t : Tk) (par : Option Nat) (at_ : Nat) (v : Int) (k2 : Nat) (T2 : Trc), walkV fs g k T t par at_ = some (v, k2, T2) → Jn T k t par → T2.lasts.length = k2 ∧ T2.ends.length = k2 ∧ k ≤ k2
  | 0, k, T, t, par, at_, v, k2, T2, h, hj => by simp [walkV] at h
  | g + 1, k, T, t, par, at_, v, k2, T2, h, hj => by
    unfold walkV at h
    cases hc : (codeOf fs t.node.func)[at_]? with
    | none => rw [hc] at h; cases h
    | some i =>
      rw [hc] at h
      simp only at h
      by_cases k3 : i.kind = 3
      · rw [if_pos k3] at h
        exact walk_len g k _ _ par _ v k2 T2 h (hj.shown i rfl rfl)
      · rw [if_neg k3] at h
        by_cases k4 : i.kind = 4
        · rw [if_pos k4] at h
          exact walk_len g k _ _ par _ v k2 T2 h (hj.shown i rfl rfl)
        · rw [if_neg k4] at h
          by_cases k5 : i.kind = 5
          · rw [if_pos k5] at h
            cases hr : walkV fs g (k + 1) (addV T t.number.toNat t.node.work par i) (enterT ⟨0, k, 0, []⟩ (childV fs (payT t) i)) (some t.number.toNat) 0 with
            | none => rw [hr] at h; cases h
            | some x =>
              obtain ⟨v1, k1, T1⟩ := x
              rw [hr] at h
              simp only at h
              obtain ⟨q1, q2, q3⟩ := walk_len g (k + 1) _ _ _ 0 v1 k1 T1 hr (hj.child i)
              have hw := hj.work
              obtain ⟨r1, r2, r3⟩ := walk_len g k1 T1 _ par _ v k2 T2 h (hj.back (t' := gotT (spawnT (payT t)) i.a.toNat v1 0) (by show 0 < t.node.work + 1; omega) rfl q1 q2 (by omega))
              exact ⟨r1, r2, by omega⟩
          · rw [if_neg k5] at h
            by_cases k9 : i.kind = 9
            · rw [if_pos k9] at h
              injection h with h
              injection h with e1 e2
              injection e2 with e2 e3
              subst e2 e3
              obtain ⟨q1, q2⟩ := hj.len i
              exact ⟨q1, q2, Nat.le_refl _⟩
            · rw [if_neg k9] at h
              refine walk_len g k _ _ par _ v k2 T2 h (hj.shown i ?_ ?_)
              · unfold computeT
                repeat' split
                all_goals rfl
              · unfold computeT
                repeat' split
                all_goals rfl
end Go.Proofs.YtbdpdojeaahpjaaGreatDoor
