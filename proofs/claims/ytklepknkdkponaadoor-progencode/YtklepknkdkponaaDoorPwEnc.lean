import Derived.Test.YtklepknkdkponaaDoorPwChk
import Derived.Test.YtklepknkdkponaaDoorRpEncode
/-! encodePlaced. -/
namespace Go.Proofs.YtklepknkdkponaaDoor
set_option linter.unusedVariables false
set_option maxRecDepth 20000
open Go.RowKit Go.HeapKit

set_option maxHeartbeats 2000000 in
theorem encodePlaced_any (a : Option Addr) (n c : Nat) (l : List Fn) (w : World) (hT : Tabs w) (hS : SeenF w a n l) (hok : ∀ f ∈ l, f.Ok) (hr : n * 48 ≤ 140737488351232) (hrc : ∀ f ∈ l, f.code.length * 40 ≤ 140737488351232) :
    Calls Tryd.prog 30 #[.agg #[.slice a n c]] w fun e w' => e = .returned (.bool true) ∧ Keeps None w w' := by
  have hn := hS.len
  obtain ⟨lt, hlt⟩ : ∃ lt, lt = l.map turnF := ⟨_, rfl⟩
  obtain ⟨e1, h1⟩ : ∃ e1, e1 = (checkV lt).1 := ⟨_, rfl⟩
  obtain ⟨e2, h2⟩ : ∃ e2, e2 = (checkV l).1 := ⟨_, rfl⟩
  have hokt : ∀ f ∈ lt, f.Ok := by rw [hlt]; exact turns_ok hok
  have hrt : ∀ f ∈ lt, f.code.length * 40 ≤ 140737488351232 := by rw [hlt]; exact turns_reach hrc
  have hltl : lt.length = n := by rw [hlt, hn]; simp
  have hmx : Mix l lt 0 0 := by rw [hlt]; exact Mix.turned l
  have b1 := heap_alloc_new w (.cells #[.slice a n c] 24)
  have k1 := Keeps.alloc None w (.cells #[.slice a n c] 24)
  obtain ⟨B, hB⟩ : ∃ B, B = w.heap.size := ⟨_, rfl⟩
  obtain ⟨w1, hw1⟩ : ∃ w1, w1 = w.alloc (.cells #[.slice a n c] 24) := ⟨_, rfl⟩
  rw [← hw1] at b1 k1
  rw [← hB] at b1
  have hta := turnedAll_any a n c l w1 (hS.more k1) hr hrc
  have HC : Hid (Tabs w ∧ SeenF w a n l ∧ (∀ f ∈ l, f.Ok) ∧ (∀ f ∈ lt, f.Ok) ∧ (∀ f ∈ lt, f.code.length * 40 ≤ 140737488351232) ∧ (∀ f ∈ l, f.code.length * 40 ≤ 140737488351232) ∧ lt = l.map turnF ∧ lt.length = n ∧ Mix l lt 0 0 ∧ e1 = (checkV lt).1 ∧ e2 = (checkV l).1 ∧ w.heap.size = B) := ⟨hT, hS, hok, hokt, hrt, hrc, hlt, hltl, hmx, h1, h2, hB.symm⟩
  have H1 : Hid (w1.heap[B]? = some (.cells #[.slice a n c] 24 (0, 0)) ∧ Keeps None w w1) := ⟨b1, k1⟩
  have d0 : w1.cell? ⟨B, 0, none⟩ = some (.slice a n c) := (cell_of_heap b1 0).trans rfl
  clear hT hS hok hokt hrt hrc hlt hltl hmx h1 h2 b1 k1 hn
  go_enter Tryd.func30, Tryd.ntmps30
  go_upto_region 1 with fail
  rw [← hw1, ← hB]
  clear hw1 hB
  go_wp2_with fail
  refine hta.mono ?_
  rintro e w2 ⟨ta, tc, rfl, hSt, hk2⟩
  clear d0 hta
  -- the turned program's box
  have k3 := Keeps.alloc None w2 (.cells #[.slice ta n tc] 24)
  have b3 := heap_alloc_new w2 (.cells #[.slice ta n tc] 24)
  obtain ⟨T, hTb⟩ : ∃ T, T = w2.heap.size := ⟨_, rfl⟩
  rw [← hTb] at b3
  have k13 := (H1.out.2.trans hk2 (fun _ f _ => f)).trans k3 (fun _ f _ => f)
  have hSt3 := hSt.more k3
  rw [← HC.out.2.2.2.2.2.2.1] at hSt3
  have hwr := wrap_any ta n tc lt _ hSt3 hr HC.out.2.2.2.2.1
  have H3 : Hid ((w2.alloc (.cells #[.slice ta n tc] 24)).heap[T]? = some (.cells #[.slice ta n tc] 24 (0, 0)) ∧ Keeps None w (w2.alloc (.cells #[.slice ta n tc] 24)) ∧ SeenF (w2.alloc (.cells #[.slice ta n tc] 24)) ta n lt ∧ (w2.alloc (.cells #[.slice ta n tc] 24)).heap[B]? = some (.cells #[.slice a n c] 24 (0, 0))) := ⟨b3, k13, hSt3, blk_kept (blk_kept H1.out.1 hk2 (fun f => f)) k3 (fun f => f)⟩
  clear k3 b3 k13 hSt hSt3 hk2
  go_upto_region 2 with fail
  rw [← hTb]
  clear hTb
  generalize w2.alloc (.cells #[.slice ta n tc] 24) = w3 at *
  have d0 : w3.cell? ⟨T, 0, none⟩ = some (.slice ta n tc) := (cell_of_heap H3.out.1 0).trans rfl
  go_wp2_with fail
  refine hwr.mono ?_
  rintro e w4 ⟨G, cv, cs, rfl, hg4, hk4⟩
  clear d0 hwr
  obtain ⟨xa, xm, xc, hcv⟩ : ∃ xa xm xc, cv = .slice xa xm xc := by
    rcases hg4.codes.2 with ⟨rfl, h0⟩ | ⟨g, cap, cur, rfl, _⟩
    · exact ⟨none, 0, 0, rfl⟩
    · exact ⟨_, _, cap, rfl⟩
  subst hcv
  have k5 := Keeps.alloc None w4 (.cells #[.slice (some ⟨G, 0, none⟩) n (n + 1), .slice (some ⟨G, 0, none⟩) (n + 1) (n + 1), .slice xa xm xc] 31)
  have b5 := heap_alloc_new w4 (.cells #[.slice (some ⟨G, 0, none⟩) n (n + 1), .slice (some ⟨G, 0, none⟩) (n + 1) (n + 1), .slice xa xm xc] 31)
  obtain ⟨D, hD⟩ : ∃ D, D = w4.heap.size := ⟨_, rfl⟩
  rw [← hD] at b5
  have k45 := hk4.trans k5 (fun _ f _ => f)
  have H5 : Hid (IsGift w3.heap.size (w4.alloc (.cells #[.slice (some ⟨G, 0, none⟩) n (n + 1), .slice (some ⟨G, 0, none⟩) (n + 1) (n + 1), .slice xa xm xc] 31)) G (.slice xa xm xc) cs lt [oddFc] ∧ Keeps None w3 (w4.alloc (.cells #[.slice (some ⟨G, 0, none⟩) n (n + 1), .slice (some ⟨G, 0, none⟩) (n + 1) (n + 1), .slice xa xm xc] 31)) ∧ (w4.alloc (.cells #[.slice (some ⟨G, 0, none⟩) n (n + 1), .slice (some ⟨G, 0, none⟩) (n + 1) (n + 1), .slice xa xm xc] 31)).heap[D]? = some (.cells #[.slice (some ⟨G, 0, none⟩) n (n + 1), .slice (some ⟨G, 0, none⟩) (n + 1) (n + 1), .slice xa xm xc] 31 (0, 0))) := ⟨hg4.more k5, k45, b5⟩
  clear k5 b5 k45 hg4 hk4
  go_upto_region 3 with fail
  rw [← hD]
  clear hD
  generalize w4.alloc (.cells #[.slice (some ⟨G, 0, none⟩) n (n + 1), .slice (some ⟨G, 0, none⟩) (n + 1) (n + 1), .slice xa xm xc] 31) = w5 at *
  have d0 : w5.cell? ⟨D, 0, none⟩ = some (.slice (some ⟨G, 0, none⟩) n (n + 1)) := (cell_of_heap H5.out.2.2 0).trans rfl
  have k05 : Keeps None w w5 := H3.out.2.1.trans H5.out.2.1 (fun _ f _ => f)
  have hsg := H5.out.1.seen
  rw [HC.out.2.2.2.2.2.2.2.1] at hsg
  have hck := encode_ans (some ⟨G, 0, none⟩) n (n + 1) lt w5 (HC.out.1.more k05) hsg HC.out.2.2.2.1
  rw [← HC.out.2.2.2.2.2.2.2.2.2.1] at hck
  have HK5 : Hid _ := k05
  clear k05 hsg
  go_wp2_with fail
  refine hck.mono ?_
  rintro e w7 ⟨x1, N1, c1, rfl, hk7, hA1⟩
  clear d0 hck
  have H7 : Hid (IsGift w3.heap.size w7 G (.slice xa xm xc) cs lt [oddFc] ∧ Keeps None w5 w7 ∧ AnsW w5.heap.size w7 lt x1 N1 c1) := ⟨H5.out.1.more hk7, hk7, hA1⟩
  clear hk7 hA1
  go_upto_region 4 with fail
  have k07 : Keeps None w w7 := HK5.out.trans H7.out.2.1 (fun _ f _ => f)
  have k37 : Keeps None w3 w7 := H5.out.2.1.trans H7.out.2.1 (fun _ f _ => f)
  have bD7 := blk_kept H5.out.2.2 H7.out.2.1 (fun f => f)
  have bB7 := blk_kept H3.out.2.2.2 k37 (fun f => f)
  have bT7 := blk_kept H3.out.1 k37 (fun f => f)
  have d0 : w7.cell? ⟨D, 0, none⟩ = some (.slice (some ⟨G, 0, none⟩) n (n + 1)) := (cell_of_heap bD7 0).trans rfl
  have d1 : w7.cell? ⟨B, 0, none⟩ = some (.slice a n c) := (cell_of_heap bB7 0).trans rfl
  have hly := lay_any a n c (n + 1) l lt w w7 w3.heap.size G (.slice xa xm xc) cs [oddFc] HC.out.2.1 k07 H3.out.2.1.size H7.out.1 HC.out.2.2.2.2.2.2.2.2.1 hr HC.out.2.2.2.2.2.1
  have H7b : Hid (Keeps None w w7 ∧ Keeps None w3 w7 ∧ w7.heap[D]? = some (.cells #[.slice (some ⟨G, 0, none⟩) n (n + 1), .slice (some ⟨G, 0, none⟩) (n + 1) (n + 1), .slice xa xm xc] 31 (0, 0)) ∧ w7.heap[B]? = some (.cells #[.slice a n c] 24 (0, 0)) ∧ w7.heap[T]? = some (.cells #[.slice ta n tc] 24 (0, 0))) := ⟨k07, k37, bD7, bB7, bT7⟩
  clear k07 k37 bD7 bB7 bT7
  go_wp2_with fail
  refine hly.mono ?_
  rintro e w8 ⟨rfl, hg8, hk8⟩
  clear d0 d1 hly
  have hcsT : ∀ {p : Nat} {cc : Array Value} {ty : TypeId}, ty ≠ 47 → w7.heap[p]? = some (.cells cc ty (0, 0)) → p ∉ cs := by
    intro p cc ty hty hp hin
    obtain ⟨i, hi, rfl⟩ := List.mem_iff_getElem.1 hin
    have hl2 := H7.out.1.len
    have := H7.out.1.code i (lt[i]'(by omega)) cs[i] (List.getElem?_eq_getElem _) (List.getElem?_eq_getElem _)
    exact blk_ne hp this hty rfl
  have k08 : Keeps None w w8 := keeps_low H7b.out.1 hk8 (fun k e => Nat.le_trans H3.out.2.1.size (H7.out.1.lowC k e))
  have k38 : Keeps None w3 w8 := keeps_low H7b.out.2.1 hk8 (fun k e => H7.out.1.lowC k e)
  have hA8 : AnsW w5.heap.size w8 lt x1 N1 c1 := ⟨H7.out.2.2.len, hk8.own H7.out.2.2.own (fun g hg hin => by
    obtain ⟨cx, hcx⟩ := own_block H7.out.2.2.own hg
    exact hcsT (by decide) hcx hin)⟩
  have H8 : Hid (IsGift w3.heap.size w8 G (.slice xa xm xc) cs l [oddFc] ∧ Keeps None w w8 ∧ Keeps None w3 w8 ∧ w8.heap[D]? = some (.cells #[.slice (some ⟨G, 0, none⟩) n (n + 1), .slice (some ⟨G, 0, none⟩) (n + 1) (n + 1), .slice xa xm xc] 31 (0, 0)) ∧ w8.heap[B]? = some (.cells #[.slice a n c] 24 (0, 0)) ∧ w8.heap[T]? = some (.cells #[.slice ta n tc] 24 (0, 0)) ∧ AnsW w5.heap.size w8 lt x1 N1 c1) :=
    ⟨hg8, k08, k38, blk_kept H7b.out.2.2.1 hk8 (hcsT (by decide) H7b.out.2.2.1), blk_kept H7b.out.2.2.2.1 hk8 (hcsT (by decide) H7b.out.2.2.2.1), blk_kept H7b.out.2.2.2.2 hk8 (hcsT (by decide) H7b.out.2.2.2.2), hA8⟩
  clear hg8 hk8 hcsT k08 k38 hA8
  go_upto_region 5 with fail
  have d0 : w8.cell? ⟨D, 0, none⟩ = some (.slice (some ⟨G, 0, none⟩) n (n + 1)) := (cell_of_heap H8.out.2.2.2.1 0).trans rfl
  have hsg := H8.out.1.seen
  rw [← HC.out.2.1.len] at hsg
  have hck := encode_ans (some ⟨G, 0, none⟩) n (n + 1) l w8 (HC.out.1.more H8.out.2.1) hsg HC.out.2.2.1
  rw [← HC.out.2.2.2.2.2.2.2.2.2.2.1] at hck
  clear hsg
  go_wp2_with fail
  refine hck.mono ?_
  rintro e w9 ⟨x2, N2, c2, rfl, hk9, hA2⟩
  clear d0 hck
  have H9 : Hid (Keeps None w8 w9 ∧ AnsW w8.heap.size w9 l x2 N2 c2) := ⟨hk9, hA2⟩
  clear hk9 hA2
  go_upto_region 6 with fail
  have d0 : w9.cell? ⟨T, 0, none⟩ = some (.slice ta n tc) := (cell_of_heap (blk_kept H8.out.2.2.2.2.2.1 H9.out.1 (fun f => f)) 0).trans rfl
  have k39 := H8.out.2.2.1.trans H9.out.1 (fun _ f _ => f)
  have hck := rencode_ans ta n tc lt w9 (H3.out.2.2.1.more k39) HC.out.2.2.2.1
  rw [← HC.out.2.2.2.2.2.2.2.2.2.1] at hck
  clear k39
  go_wp2_with fail
  refine hck.mono ?_
  rintro e w10 ⟨x3, N3, c3, rfl, hk10, hA3⟩
  clear d0 hck
  have H10 : Hid (Keeps None w8 w10 ∧ AnsW w9.heap.size w10 lt x3 N3 c3) := ⟨H9.out.1.trans hk10 (fun _ f _ => f), hA3⟩
  have H10b : Hid (Keeps None w9 w10) := hk10
  clear hk10 hA3
  go_upto_region 7 with fail
  have d0 : w10.cell? ⟨B, 0, none⟩ = some (.slice a n c) := (cell_of_heap (blk_kept H8.out.2.2.2.2.1 H10.out.1 (fun f => f)) 0).trans rfl
  have hck := rencode_ans a n c l w10 (HC.out.2.1.more (H8.out.2.1.trans H10.out.1 (fun _ f _ => f))) HC.out.2.2.1
  rw [← HC.out.2.2.2.2.2.2.2.2.2.2.1] at hck
  go_wp2_with fail
  refine hck.mono ?_
  rintro e w11 ⟨x4, N4, c4, rfl, hk11, hA4⟩
  clear d0 hck
  have z1 := ((H8.out.2.2.2.2.2.2.more H10.out.1).more hk11).seen
  have z2 := ((H9.out.2.more H10b.out).more hk11).seen
  have z3 := (H10.out.2.more hk11).seen
  have z4 := hA4.seen
  have n13 : N3 = N1 := by rw [z1.len, z3.len]
  have n24 : N4 = N2 := by rw [z2.len, z4.len]
  subst n13 n24
  have hs1 := sameWords_any x1 x3 _ c1 c3 (ansW lt) w11 z1 z3
  have H11 : Hid (Keeps None w w11 ∧ SeenZ w11 x2 N4 (ansW l) ∧ SeenZ w11 x4 N4 (ansW l)) := ⟨(H8.out.2.1.trans H10.out.1 (fun _ f _ => f)).trans hk11 (fun _ f _ => f), z2, z4⟩
  clear z1 z2 z3 z4 hk11 hA4 H1 H3 H5 H7 H7b H8 H9 H10 H10b HK5
  go_upto_region 8 with fail
  go_wp2_with fail
  refine hs1.mono ?_
  rintro e w12 ⟨rfl, hk12⟩
  clear hs1
  have hs2 := sameWords_any x2 x4 N4 c2 c4 (ansW l) w12 (H11.out.2.1.more hk12) (H11.out.2.2.more hk12)
  have H12 : Hid (Keeps None w w12) := H11.out.1.trans hk12 (fun _ f _ => f)
  clear hk12
  go_wp2_with fail
  refine hs2.mono ?_
  rintro e w13 ⟨rfl, hk13⟩
  have H13 : Hid (Keeps None w w13) := H12.out.trans hk13 (fun _ f _ => f)
  clear hk13 hs2
  go_wp2_with fail
  go_ret
  exact ⟨rfl, H13.out⟩
end Go.Proofs.YtklepknkdkponaaDoor
