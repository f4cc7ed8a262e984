import Derived.Test.YtklepknkdkponaaDoorPwUnt
import Derived.Test.YtklepknkdkponaaDoorRpCheck
import Derived.Laws.StructEq
/-! checkPlaced, and the law. -/
namespace Go.Proofs.YtklepknkdkponaaDoor
set_option linter.unusedVariables false
set_option maxRecDepth 20000
open Go.RowKit Go.HeapKit

theorem eqFault' (a b c : Int) (w : World) : (binOp .eql 27 (.agg #[.int .i64 a, .int .i64 b, .int .i64 c]) (.agg #[.int .i64 a, .int .i64 b, .int .i64 c])).run Tryd.prog w = .ok (.bool true) w := by
  have u3 := Tryd.underlying3
  have a3 := Tryd.isAgg3
  have z3 := Tryd.sizeOf3
  have u4 := Tryd.underlying25
  have a4 := Tryd.isAgg25
  have z4 := Tryd.sizeOf25
  have hS : Tryd.prog.underlying 27 = some (.struct (Tryd.prog.fieldsOf 27)) := by kernel_rfl
  have hp : Tryd.prog.stoodInHeld 27 = false := by kernel_rfl
  rw [run_eql_struct, show (10000 : Nat) = 9999 + 1 from rfl, run_equalIn_agg w 9999 27 _ _ hS hp]
  simp only [Program.fieldsOf, Tryd.underlying27]
  go_simp
theorem bump_ok {i : Ins} (h : i.Ok) : (bumpI i).Ok := ⟨h.kind, h.a, h.b, h.c, by simp only [bumpI, okI, wrap64]; omega⟩
theorem turn_ok {f : Fn} (h : f.Ok) : (turnF f).Ok := ⟨h.params, h.regs, h.slots, fun i hi => by
  simp only [turnF, List.mem_reverse, List.mem_map] at hi
  obtain ⟨j, hj, rfl⟩ := hi
  exact bump_ok (h.code j hj)⟩
theorem turns_ok {l : List Fn} (h : ∀ f ∈ l, f.Ok) : ∀ f ∈ l.map turnF, f.Ok := fun f hf => by
  obtain ⟨g, hg, rfl⟩ := List.mem_map.1 hf
  exact turn_ok (h g hg)
theorem turns_reach {l : List Fn} (h : ∀ f ∈ l, f.code.length * 40 ≤ 140737488351232) : ∀ f ∈ l.map turnF, f.code.length * 40 ≤ 140737488351232 := fun f hf => by
  obtain ⟨g, hg, rfl⟩ := List.mem_map.1 hf
  rw [turn_len]
  exact h g hg
/-- All that was seen stays while only newer memory is written. -/
theorem keeps_low {w0 w w' : World} {S : Nat → Prop} (h0 : Keeps None w0 w) (h : Keeps S w w') (hS : ∀ k, S k → w0.heap.size ≤ k) : Keeps None w0 w' := h0.trans h (fun i e hi => by have := hS i e; omega)
set_option maxHeartbeats 2000000 in
theorem checkPlaced_any (a : Option Addr) (n c : Nat) (l : List Fn) (w : World) (hT : Tabs w) (hS : SeenF w a n l) (hok : ∀ f ∈ l, f.Ok) (hr : n * 48 ≤ 140737488351232) (hrc : ∀ f ∈ l, f.code.length * 40 ≤ 140737488351232) :
    Calls Tryd.prog 13 #[.agg #[.slice a n c]] w fun e w' => e = .returned (.bool true) ∧ Keeps None w w' := by
  have hn := hS.len
  obtain ⟨lt, hlt⟩ : ∃ lt, lt = l.map turnF := ⟨_, rfl⟩
  obtain ⟨e1, f1, a1, h1⟩ : ∃ e1 f1 a1, checkF lt = .agg #[.int .i64 e1, .int .i64 f1, .int .i64 a1] := ⟨_, _, _, rfl⟩
  obtain ⟨e2, f2, a2, h2⟩ : ∃ e2 f2 a2, checkF l = .agg #[.int .i64 e2, .int .i64 f2, .int .i64 a2] := ⟨_, _, _, rfl⟩
  have hokt : ∀ f ∈ lt, f.Ok := by rw [hlt]; exact turns_ok hok
  have hrt : ∀ f ∈ lt, f.code.length * 40 ≤ 140737488351232 := by rw [hlt]; exact turns_reach hrc
  have hltl : lt.length = n := by rw [hlt, hn]; simp
  have hmx : Mix l lt 0 0 := by rw [hlt]; exact Mix.turned l
  have hq1 := eqFault' e1 f1 a1
  have hq2 := eqFault' e2 f2 a2
  have b1 := heap_alloc_new w (.cells #[.slice a n c] 24)
  have k1 := Keeps.alloc None w (.cells #[.slice a n c] 24)
  obtain ⟨B, hB⟩ : ∃ B, B = w.heap.size := ⟨_, rfl⟩
  obtain ⟨w1, hw1⟩ : ∃ w1, w1 = w.alloc (.cells #[.slice a n c] 24) := ⟨_, rfl⟩
  rw [← hw1] at b1 k1
  rw [← hB] at b1
  have hta := turnedAll_any a n c l w1 (hS.more k1) hr hrc
  have HC : Hid (Tabs w ∧ SeenF w a n l ∧ (∀ f ∈ l, f.Ok) ∧ (∀ f ∈ lt, f.Ok) ∧ (∀ f ∈ lt, f.code.length * 40 ≤ 140737488351232) ∧ (∀ f ∈ l, f.code.length * 40 ≤ 140737488351232) ∧ lt = l.map turnF ∧ lt.length = n ∧ Mix l lt 0 0 ∧ checkF lt = .agg #[.int .i64 e1, .int .i64 f1, .int .i64 a1] ∧ checkF l = .agg #[.int .i64 e2, .int .i64 f2, .int .i64 a2] ∧ w.heap.size = B) := ⟨hT, hS, hok, hokt, hrt, hrc, hlt, hltl, hmx, h1, h2, hB.symm⟩
  have H1 : Hid (w1.heap[B]? = some (.cells #[.slice a n c] 24 (0, 0)) ∧ Keeps None w w1) := ⟨b1, k1⟩
  have d0 : w1.cell? ⟨B, 0, none⟩ = some (.slice a n c) := (cell_of_heap b1 0).trans rfl
  clear hT hS hok hokt hrt hrc hlt hltl hmx h1 h2 b1 k1 hn
  go_enter Tryd.func13, Tryd.ntmps13
  go_upto_region 1 with fail
  rw [← hw1, ← hB]
  clear hw1 hB
  go_wp2_with fail
  refine hta.mono ?_
  rintro e w2 ⟨ta, tc, rfl, hSt, hk2⟩
  clear d0 hta
  -- the turned program's box
  have k3 := Keeps.alloc None w2 (.cells #[.slice ta n tc] 24)
  have b3 := heap_alloc_new w2 (.cells #[.slice ta n tc] 24)
  obtain ⟨T, hTb⟩ : ∃ T, T = w2.heap.size := ⟨_, rfl⟩
  rw [← hTb] at b3
  have k13 := (H1.out.2.trans hk2 (fun _ f _ => f)).trans k3 (fun _ f _ => f)
  have hSt3 := hSt.more k3
  rw [← HC.out.2.2.2.2.2.2.1] at hSt3
  have hwr := wrap_any ta n tc lt _ hSt3 hr HC.out.2.2.2.2.1
  have H3 : Hid ((w2.alloc (.cells #[.slice ta n tc] 24)).heap[T]? = some (.cells #[.slice ta n tc] 24 (0, 0)) ∧ Keeps None w (w2.alloc (.cells #[.slice ta n tc] 24)) ∧ SeenF (w2.alloc (.cells #[.slice ta n tc] 24)) ta n lt ∧ (w2.alloc (.cells #[.slice ta n tc] 24)).heap[B]? = some (.cells #[.slice a n c] 24 (0, 0))) := ⟨b3, k13, hSt3, blk_kept (blk_kept H1.out.1 hk2 (fun f => f)) k3 (fun f => f)⟩
  clear k3 b3 k13 hSt hSt3 hk2
  go_upto_region 2 with fail
  rw [← hTb]
  clear hTb
  generalize w2.alloc (.cells #[.slice ta n tc] 24) = w3 at *
  have d0 : w3.cell? ⟨T, 0, none⟩ = some (.slice ta n tc) := (cell_of_heap H3.out.1 0).trans rfl
  go_wp2_with fail
  refine hwr.mono ?_
  rintro e w4 ⟨G, cv, cs, rfl, hg4, hk4⟩
  clear d0 hwr
  obtain ⟨xa, xm, xc, hcv⟩ : ∃ xa xm xc, cv = .slice xa xm xc := by
    rcases hg4.codes.2 with ⟨rfl, h0⟩ | ⟨g, cap, cur, rfl, _⟩
    · exact ⟨none, 0, 0, rfl⟩
    · exact ⟨_, _, cap, rfl⟩
  subst hcv
  have k5 := Keeps.alloc None w4 (.cells #[.slice (some ⟨G, 0, none⟩) n (n + 1), .slice (some ⟨G, 0, none⟩) (n + 1) (n + 1), .slice xa xm xc] 31)
  have b5 := heap_alloc_new w4 (.cells #[.slice (some ⟨G, 0, none⟩) n (n + 1), .slice (some ⟨G, 0, none⟩) (n + 1) (n + 1), .slice xa xm xc] 31)
  obtain ⟨D, hD⟩ : ∃ D, D = w4.heap.size := ⟨_, rfl⟩
  rw [← hD] at b5
  have k45 := hk4.trans k5 (fun _ f _ => f)
  have H5 : Hid (IsGift w3.heap.size (w4.alloc (.cells #[.slice (some ⟨G, 0, none⟩) n (n + 1), .slice (some ⟨G, 0, none⟩) (n + 1) (n + 1), .slice xa xm xc] 31)) G (.slice xa xm xc) cs lt [oddFc] ∧ Keeps None w3 (w4.alloc (.cells #[.slice (some ⟨G, 0, none⟩) n (n + 1), .slice (some ⟨G, 0, none⟩) (n + 1) (n + 1), .slice xa xm xc] 31)) ∧ (w4.alloc (.cells #[.slice (some ⟨G, 0, none⟩) n (n + 1), .slice (some ⟨G, 0, none⟩) (n + 1) (n + 1), .slice xa xm xc] 31)).heap[D]? = some (.cells #[.slice (some ⟨G, 0, none⟩) n (n + 1), .slice (some ⟨G, 0, none⟩) (n + 1) (n + 1), .slice xa xm xc] 31 (0, 0))) := ⟨hg4.more k5, k45, b5⟩
  clear k5 b5 k45 hg4 hk4
  go_upto_region 3 with fail
  rw [← hD]
  clear hD
  generalize w4.alloc (.cells #[.slice (some ⟨G, 0, none⟩) n (n + 1), .slice (some ⟨G, 0, none⟩) (n + 1) (n + 1), .slice xa xm xc] 31) = w5 at *
  have d0 : w5.cell? ⟨D, 0, none⟩ = some (.slice (some ⟨G, 0, none⟩) n (n + 1)) := (cell_of_heap H5.out.2.2 0).trans rfl
  have k05 : Keeps None w w5 := H3.out.2.1.trans H5.out.2.1 (fun _ f _ => f)
  have hsg := H5.out.1.seen
  rw [HC.out.2.2.2.2.2.2.2.1] at hsg
  have hck := check_any (some ⟨G, 0, none⟩) n (n + 1) lt w5 (HC.out.1.more k05) hsg HC.out.2.2.2.1
  rw [HC.out.2.2.2.2.2.2.2.2.2.1] at hck
  have HK5 : Hid _ := k05
  clear k05 hsg
  go_wp2_with fail
  refine hck.mono ?_
  rintro e w6 ⟨rfl, hk6⟩
  clear d0 hck
  have k7 := Keeps.alloc None w6 (.cells #[.int .i64 e1, .int .i64 f1, .int .i64 a1] 27)
  have b7 := heap_alloc_new w6 (.cells #[.int .i64 e1, .int .i64 f1, .int .i64 a1] 27)
  obtain ⟨X1, hX1⟩ : ∃ X1, X1 = w6.heap.size := ⟨_, rfl⟩
  rw [← hX1] at b7
  have k57 := hk6.trans k7 (fun _ f _ => f)
  have H7 : Hid (IsGift w3.heap.size (w6.alloc (.cells #[.int .i64 e1, .int .i64 f1, .int .i64 a1] 27)) G (.slice xa xm xc) cs lt [oddFc] ∧ Keeps None w5 (w6.alloc (.cells #[.int .i64 e1, .int .i64 f1, .int .i64 a1] 27)) ∧ (w6.alloc (.cells #[.int .i64 e1, .int .i64 f1, .int .i64 a1] 27)).heap[X1]? = some (.cells #[.int .i64 e1, .int .i64 f1, .int .i64 a1] 27 (0, 0))) := ⟨H5.out.1.more k57, k57, b7⟩
  clear k7 b7 k57 hk6
  go_upto_region 4 with fail
  rw [← hX1]
  clear hX1
  generalize w6.alloc (.cells #[.int .i64 e1, .int .i64 f1, .int .i64 a1] 27) = w7 at *
  have k07 : Keeps None w w7 := HK5.out.trans H7.out.2.1 (fun _ f _ => f)
  have k37 : Keeps None w3 w7 := H5.out.2.1.trans H7.out.2.1 (fun _ f _ => f)
  have bD7 := blk_kept H5.out.2.2 H7.out.2.1 (fun f => f)
  have bB7 := blk_kept H3.out.2.2.2 k37 (fun f => f)
  have bT7 := blk_kept H3.out.1 k37 (fun f => f)
  have d0 : w7.cell? ⟨D, 0, none⟩ = some (.slice (some ⟨G, 0, none⟩) n (n + 1)) := (cell_of_heap bD7 0).trans rfl
  have d1 : w7.cell? ⟨B, 0, none⟩ = some (.slice a n c) := (cell_of_heap bB7 0).trans rfl
  have hly := lay_any a n c (n + 1) l lt w w7 w3.heap.size G (.slice xa xm xc) cs [oddFc] HC.out.2.1 k07 H3.out.2.1.size H7.out.1 HC.out.2.2.2.2.2.2.2.2.1 hr HC.out.2.2.2.2.2.1
  have H7b : Hid (Keeps None w w7 ∧ Keeps None w3 w7 ∧ w7.heap[D]? = some (.cells #[.slice (some ⟨G, 0, none⟩) n (n + 1), .slice (some ⟨G, 0, none⟩) (n + 1) (n + 1), .slice xa xm xc] 31 (0, 0)) ∧ w7.heap[B]? = some (.cells #[.slice a n c] 24 (0, 0)) ∧ w7.heap[T]? = some (.cells #[.slice ta n tc] 24 (0, 0))) := ⟨k07, k37, bD7, bB7, bT7⟩
  clear k07 k37 bD7 bB7 bT7
  go_wp2_with fail
  refine hly.mono ?_
  rintro e w8 ⟨rfl, hg8, hk8⟩
  clear d0 d1 hly
  have hcsT : ∀ {p : Nat} {cc : Array Value} {ty : TypeId}, ty ≠ 47 → w7.heap[p]? = some (.cells cc ty (0, 0)) → p ∉ cs := by
    intro p cc ty hty hp hin
    obtain ⟨i, hi, rfl⟩ := List.mem_iff_getElem.1 hin
    have hl2 := H7.out.1.len
    have := H7.out.1.code i (lt[i]'(by omega)) cs[i] (List.getElem?_eq_getElem _) (List.getElem?_eq_getElem _)
    exact blk_ne hp this hty rfl
  have k08 : Keeps None w w8 := keeps_low H7b.out.1 hk8 (fun k e => Nat.le_trans H3.out.2.1.size (H7.out.1.lowC k e))
  have k38 : Keeps None w3 w8 := keeps_low H7b.out.2.1 hk8 (fun k e => H7.out.1.lowC k e)
  have H8 : Hid (IsGift w3.heap.size w8 G (.slice xa xm xc) cs l [oddFc] ∧ Keeps None w w8 ∧ Keeps None w3 w8 ∧ w8.heap[D]? = some (.cells #[.slice (some ⟨G, 0, none⟩) n (n + 1), .slice (some ⟨G, 0, none⟩) (n + 1) (n + 1), .slice xa xm xc] 31 (0, 0)) ∧ w8.heap[B]? = some (.cells #[.slice a n c] 24 (0, 0)) ∧ w8.heap[T]? = some (.cells #[.slice ta n tc] 24 (0, 0)) ∧ w8.heap[X1]? = some (.cells #[.int .i64 e1, .int .i64 f1, .int .i64 a1] 27 (0, 0))) :=
    ⟨hg8, k08, k38, blk_kept H7b.out.2.2.1 hk8 (hcsT (by decide) H7b.out.2.2.1), blk_kept H7b.out.2.2.2.1 hk8 (hcsT (by decide) H7b.out.2.2.2.1), blk_kept H7b.out.2.2.2.2 hk8 (hcsT (by decide) H7b.out.2.2.2.2), blk_kept H7.out.2.2 hk8 (hcsT (by decide) H7.out.2.2)⟩
  clear hg8 hk8 hcsT k08 k38
  go_upto_region 5 with fail
  have d0 : w8.cell? ⟨D, 0, none⟩ = some (.slice (some ⟨G, 0, none⟩) n (n + 1)) := (cell_of_heap H8.out.2.2.2.1 0).trans rfl
  have hsg := H8.out.1.seen
  rw [← HC.out.2.1.len] at hsg
  have hck := check_any (some ⟨G, 0, none⟩) n (n + 1) l w8 (HC.out.1.more H8.out.2.1) hsg HC.out.2.2.1
  rw [HC.out.2.2.2.2.2.2.2.2.2.2.1] at hck
  clear hsg
  go_wp2_with fail
  refine hck.mono ?_
  rintro e w9 ⟨rfl, hk9⟩
  clear d0 hck
  have k10 := Keeps.alloc None w9 (.cells #[.int .i64 e2, .int .i64 f2, .int .i64 a2] 27)
  have b10 := heap_alloc_new w9 (.cells #[.int .i64 e2, .int .i64 f2, .int .i64 a2] 27)
  obtain ⟨X2, hX2⟩ : ∃ X2, X2 = w9.heap.size := ⟨_, rfl⟩
  rw [← hX2] at b10
  have k810 := hk9.trans k10 (fun _ f _ => f)
  have HT10 : Hid (Keeps None w (w9.alloc (.cells #[.int .i64 e2, .int .i64 f2, .int .i64 a2] 27)) ∧ Keeps None w3 (w9.alloc (.cells #[.int .i64 e2, .int .i64 f2, .int .i64 a2] 27)) ∧ (w9.alloc (.cells #[.int .i64 e2, .int .i64 f2, .int .i64 a2] 27)).heap[X1]? = some (.cells #[.int .i64 e1, .int .i64 f1, .int .i64 a1] 27 (0, 0)) ∧ (w9.alloc (.cells #[.int .i64 e2, .int .i64 f2, .int .i64 a2] 27)).heap[X2]? = some (.cells #[.int .i64 e2, .int .i64 f2, .int .i64 a2] 27 (0, 0)) ∧ (w9.alloc (.cells #[.int .i64 e2, .int .i64 f2, .int .i64 a2] 27)).heap[B]? = some (.cells #[.slice a n c] 24 (0, 0)) ∧ (w9.alloc (.cells #[.int .i64 e2, .int .i64 f2, .int .i64 a2] 27)).heap[T]? = some (.cells #[.slice ta n tc] 24 (0, 0))) :=
    ⟨H8.out.2.1.trans k810 (fun _ f _ => f), H8.out.2.2.1.trans k810 (fun _ f _ => f), blk_kept H8.out.2.2.2.2.2.2 k810 (fun f => f), b10, blk_kept H8.out.2.2.2.2.1 k810 (fun f => f), blk_kept H8.out.2.2.2.2.2.1 k810 (fun f => f)⟩
  clear k10 b10 k810 hk9
  go_upto_region 6 with fail
  rw [← hX2]
  clear hX2
  generalize w9.alloc (.cells #[.int .i64 e2, .int .i64 f2, .int .i64 a2] 27) = w10 at *
  have c0 : w10.cell? ⟨X1, 0, none⟩ = some (.int .i64 e1) := (cell_of_heap HT10.out.2.2.1 0).trans rfl
  have c1 : w10.cell? ⟨X1, 1, none⟩ = some (.int .i64 f1) := (cell_of_heap HT10.out.2.2.1 1).trans rfl
  have c2 : w10.cell? ⟨X1, 2, none⟩ = some (.int .i64 a1) := (cell_of_heap HT10.out.2.2.1 2).trans rfl
  have c3 : w10.cell? ⟨X2, 0, none⟩ = some (.int .i64 e2) := (cell_of_heap HT10.out.2.2.2.1 0).trans rfl
  have c4 : w10.cell? ⟨X2, 1, none⟩ = some (.int .i64 f2) := (cell_of_heap HT10.out.2.2.2.1 1).trans rfl
  have c5 : w10.cell? ⟨X2, 2, none⟩ = some (.int .i64 a2) := (cell_of_heap HT10.out.2.2.2.1 2).trans rfl
  have c6 : w10.cell? ⟨T, 0, none⟩ = some (.slice ta n tc) := (cell_of_heap HT10.out.2.2.2.2.2 0).trans rfl
  have c7 : w10.cell? ⟨B, 0, none⟩ = some (.slice a n c) := (cell_of_heap HT10.out.2.2.2.2.1 0).trans rfl
  have hr1 : ∀ wx, Keeps None w10 wx → Calls Tryd.prog 9 #[.agg #[.slice ta n tc]] wx fun e w' => e = .returned (.agg #[.int .i64 e1, .int .i64 f1, .int .i64 a1]) ∧ Keeps None wx w' := fun wx hk => by
    have := rcheck_any ta n tc lt wx (H3.out.2.2.1.more (HT10.out.2.1.trans hk (fun _ f _ => f))) HC.out.2.2.2.1
    rw [HC.out.2.2.2.2.2.2.2.2.2.1] at this
    exact this
  have hr2 : ∀ wx, Keeps None w10 wx → Calls Tryd.prog 9 #[.agg #[.slice a n c]] wx fun e w' => e = .returned (.agg #[.int .i64 e2, .int .i64 f2, .int .i64 a2]) ∧ Keeps None wx w' := fun wx hk => by
    have := rcheck_any a n c l wx (HC.out.2.1.more (HT10.out.1.trans hk (fun _ f _ => f))) HC.out.2.2.1
    rw [HC.out.2.2.2.2.2.2.2.2.2.2.1] at this
    exact this
  have HR1 : Hid _ := hr1
  have HR2 : Hid _ := hr2
  clear hr1 hr2 H1 H3 H5 H7 H7b H8 HK5
  go_region_held3 (fun w' => w'.cell? ⟨X1, 0, none⟩ = some (.int .i64 e1) ∧ w'.cell? ⟨X1, 1, none⟩ = some (.int .i64 f1) ∧ w'.cell? ⟨X1, 2, none⟩ = some (.int .i64 a1) ∧ w'.cell? ⟨X2, 0, none⟩ = some (.int .i64 e2) ∧ w'.cell? ⟨X2, 1, none⟩ = some (.int .i64 f2) ∧ w'.cell? ⟨X2, 2, none⟩ = some (.int .i64 a2) ∧ w'.cell? ⟨T, 0, none⟩ = some (.slice ta n tc) ∧ w'.cell? ⟨B, 0, none⟩ = some (.slice a n c)) (first | go_keep | with_reducible exact hS5 | with_reducible exact hS6) (first
    | (go_at_call_of 9 (Value.agg #[Value.slice ta n tc]); refine (HR1.out _ (Keeps.drew None _)).mono ?_; rintro _ w14 ⟨rfl, hk14⟩; have hkP : Keeps None w10 w14 := (Keeps.drew None w10).trans hk14 (fun _ f _ => f); have hS5 := (And.intro (hkP.cell c0 (fun f => f)) (And.intro (hkP.cell c1 (fun f => f)) (And.intro (hkP.cell c2 (fun f => f)) (And.intro (hkP.cell c3 (fun f => f)) (And.intro (hkP.cell c4 (fun f => f)) (And.intro (hkP.cell c5 (fun f => f)) (And.intro (hkP.cell c6 (fun f => f)) (hkP.cell c7 (fun f => f))))))))))
    | (go_at_call_of 9 (Value.agg #[Value.slice a n c]); refine (HR2.out _ hkP).mono ?_; rintro _ w16 ⟨rfl, hk16⟩; have hkQ : Keeps None w10 w16 := hkP.trans hk16 (fun _ f _ => f); have hS6 := (And.intro (hkQ.cell c0 (fun f => f)) (And.intro (hkQ.cell c1 (fun f => f)) (And.intro (hkQ.cell c2 (fun f => f)) (And.intro (hkQ.cell c3 (fun f => f)) (And.intro (hkQ.cell c4 (fun f => f)) (And.intro (hkQ.cell c5 (fun f => f)) (And.intro (hkQ.cell c6 (fun f => f)) (hkQ.cell c7 (fun f => f)))))))))))
  all_goals
    have HFI : Hid (Keeps None w w16) := HT10.out.1.trans hkQ (fun _ f _ => f)
    go_wp2_with fail
    go_ret
    exact ⟨rfl, HFI.out⟩
end Go.Proofs.YtklepknkdkponaaDoor
