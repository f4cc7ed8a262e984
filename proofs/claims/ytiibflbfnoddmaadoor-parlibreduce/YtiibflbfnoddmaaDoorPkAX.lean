import Derived.Test.YtiibflbfnoddmaaDoorPkAW
/-! ParlibReduce. -/
namespace Go.Proofs.YtiibflbfnoddmaaDoor
set_option linter.unusedVariables false
set_option maxRecDepth 20000
open Go.RowKit Go.HeapKit Go.PlainOps


set_option maxHeartbeats 4000000 in
theorem parlibReduce_walk (a : Option Addr) (n c : Nat) (l : List Fn) (b k u : Int) (w : World) (hT : Tabs w) (hS : SeenF w a n l) (hok : ∀ f ∈ l, f.Ok) (hr : n * 48 ≤ 140737488351232 ∧ ∀ f ∈ l, f.code.length * 40 ≤ 140737488351232) (hb : okI b) (hk : okI k) (hu : okI u) :
    Calls Tryd.prog 4 #[.agg #[.slice a n c], .int .i64 b, .int .i64 k, .int .i64 u] w fun e w' => e = .returned (.bool true) ∧ Keeps None w w' := by
  obtain ⟨hr, hrc⟩ := hr
  obtain ⟨W0, B, hW0, hB, bB, k0, d0, s0⟩ := box_prog w a n c
  have hcopy := marked_copy a n c l W0 (hS.more k0) hr hrc
  unfold MarkPost at hcopy
  obtain ⟨E, hE⟩ : ∃ E, E = redE l b k := ⟨_, rfl⟩
  have HC : Hid (Tabs W0 ∧ SeenF W0 a n l ∧ (∀ f ∈ l, f.Ok) ∧ n * 48 ≤ 140737488351232 ∧ (∀ f ∈ l, f.code.length * 40 ≤ 140737488351232) ∧ Keeps None w W0 ∧ W0.heap[B]? = some (.cells #[.slice a n c] 24 (0, 0)) ∧ n = l.length ∧ E = redE l b k ∧ okI u) := ⟨hT.more k0, hS.more k0, hok, hr, hrc, k0, bB, hS.len, hE, hu⟩
  have HF : Hid (∀ (a : Option Addr) (c : Nat) (l : List Fn) (w : World), Tabs w → SeenF w a n l → (∀ f ∈ l, f.Ok) → Calls Tryd.prog 15 #[.agg #[.slice a n c], .int .i64 b, .int .i64 k, .int .i64 u] w (RedPost l b k u w)) := fun a c l w h1 h2 h3 => reduce_any a n c l b k u w h1 h2 h3
  have HRF : Hid (∀ w', Keeps None W0 w' → Calls Tryd.prog 16 #[.agg #[.slice a n c], .int .i64 b, .int .i64 k] w' fun e w'' => e = .returned (.int .i64 E) ∧ Keeps None w' w'') := fun w' hk => by rw [hE]; exact rred_any a n c l b k w' ((hS.more k0).more hk) hok
  clear hT hS hok hr hrc k0 bB s0 hE
  go_enter Tryd.func4, Tryd.ntmps4
  go_upto_region 1 with fail
  rw [← hW0, ← hB]
  clear hW0 hB
  go_wp2_with fail
  refine hcopy.mono ?_
  rintro _ w1 ⟨pa, pc, tv, rfl, hM1, k1⟩
  clear hcopy d0
  obtain ⟨g, rfl, _⟩ := hM1.rm.at
  obtain ⟨lo, hlo⟩ : ∃ lo, lo = W0.heap.size := ⟨_, rfl⟩
  obtain ⟨hi, hhi⟩ : ∃ hi, hi = w1.heap.size := ⟨_, rfl⟩
  rw [← hlo, ← hhi] at hM1
  have al1 := Keeps.alloc None w1 (.cells #[.slice (some ⟨g, 0, none⟩) n pc] 24)
  have bP := heap_alloc_new w1 (.cells #[.slice (some ⟨g, 0, none⟩) n pc] 24)
  rw [← hhi] at bP
  obtain ⟨W1, hW1⟩ : ∃ W1, W1 = w1.alloc (.cells #[.slice (some ⟨g, 0, none⟩) n pc] 24) := ⟨_, rfl⟩
  rw [← hW1] at al1 bP
  have hiW : hi < W1.heap.size := blk_lt bP
  have hmv := moved_any lo hi (some ⟨g, 0, none⟩) n pc pc l tv W1 (hM1.more al1) HC.out.2.2.2.2.2.2.2.1 (by omega) HC.out.2.2.1 HC.out.2.2.2.1 HC.out.2.2.2.2.1
  have p1 : W1.cell? ⟨hi, 0, none⟩ = some (.slice (some ⟨g, 0, none⟩) n pc) := (blk_cell bP 0).trans rfl
  have lohi : lo ≤ hi := by have := k1.size; omega
  have H1 : Hid (Keeps None W0 W1 ∧ W1.heap[hi]? = some (.cells #[.slice (some ⟨g, 0, none⟩) n pc] 24 (0, 0)) ∧ lo = W0.heap.size ∧ lo ≤ hi ∧ hi < W1.heap.size) := ⟨k1.trans al1 (fun _ f _ => f), bP, hlo, lohi, hiW⟩
  clear hM1 k1 hlo al1 bP hiW lohi
  go_upto_region 2 with fail
  rw [← hW1, ← hhi]
  clear hW1 hhi
  go_wp2_with fail
  refine hmv.mono ?_
  rintro _ w2 ⟨rfl, ⟨L, hM2, hMix, hokL⟩, k2⟩
  clear hmv p1
  have kr2 : Keeps (Rg lo hi) W0 w2 := (H1.out.1.mono (fun _ f _ => f.elim)).trans k2 (fun _ e _ => e)
  have bP2 := blk_kept H1.out.2.1 k2 (fun e => by have := e.2; omega)
  have p2 : w2.cell? ⟨hi, 0, none⟩ = some (.slice (some ⟨g, 0, none⟩) n pc) := (blk_cell bP2 0).trans rfl
  have hsL := hM2.rm.seen
  rw [hMix.1, ← HC.out.2.2.2.2.2.2.2.1] at hsL
  have hf1 := (HF.out (some ⟨g, 0, none⟩) pc L w2 (HC.out.1.more (keepRg kr2 (by have := H1.out.2.2.1; omega))) hsL hokL).mono (R' := fun e w' => (∃ v, e = .returned v) ∧ Keeps None w2 w') (by
    rintro e w' ⟨hk, h | ⟨_, v, L', h, _⟩⟩
    · exact ⟨⟨_, h.2⟩, hk⟩
    · exact ⟨⟨_, h⟩, hk⟩)
  have H2 : Hid (Keeps (Rg lo hi) W0 w2 ∧ w2.heap[hi]? = some (.cells #[.slice (some ⟨g, 0, none⟩) n pc] 24 (0, 0)) ∧ Mp lo hi w2 L (some ⟨g, 0, none⟩) pc tv ∧ Mix l L 0 0) := ⟨kr2, bP2, hM2, hMix⟩
  clear kr2 bP2 hM2 hMix hokL hsL k2
  go_wp2_with fail
  refine hf1.mono ?_
  rintro _ w3 ⟨⟨v3, rfl⟩, k3⟩
  clear hf1 p2
  have kr3 : Keeps (Rg lo hi) W0 w3 := H2.out.1.trans k3 (fun _ f _ => f.elim)
  have bP3 := blk_kept H2.out.2.1 k3 (fun f => f)
  have p3 : w3.cell? ⟨hi, 0, none⟩ = some (.slice (some ⟨g, 0, none⟩) n pc) := (blk_cell bP3 0).trans rfl
  have bB3 := blk_kept HC.out.2.2.2.2.2.2.1 (keepRg kr3 (by have := H1.out.2.2.1; omega)) (fun f => f)
  have d3 : w3.cell? ⟨B, 0, none⟩ = some (.slice a n c) := (blk_cell bB3 0).trans rfl
  have hbk := back_any lo hi a n c n pc pc g l L tv W0 w3 HC.out.2.1 kr3 (by have := H1.out.2.2.1; omega) (H2.out.2.2.1.more k3) rfl (by have := blk_lt bP3; omega) H2.out.2.2.2 HC.out.2.2.2.1 HC.out.2.2.2.2.1
  have H3 : Hid (Keeps (Rg lo hi) W0 w3 ∧ w3.heap[hi]? = some (.cells #[.slice (some ⟨g, 0, none⟩) n pc] 24 (0, 0))) := ⟨kr3, bP3⟩
  clear kr3 bP3 bB3 k3
  go_wp2_with fail
  refine hbk.mono ?_
  rintro _ w4 ⟨rfl, hM4, k4⟩
  clear hbk p3 d3
  have kr4 : Keeps (Rg lo hi) W0 w4 := H3.out.1.trans k4 (fun _ e _ => e)
  have kn4 := keepRg kr4 (by have := H1.out.2.2.1; omega)
  have bP4 := blk_kept H3.out.2 k4 (fun e => by have := e.2; omega)
  have p4 : w4.cell? ⟨hi, 0, none⟩ = some (.slice (some ⟨g, 0, none⟩) n pc) := (blk_cell bP4 0).trans rfl
  have hs4 := hM4.rm.seen
  rw [← HC.out.2.2.2.2.2.2.2.1] at hs4
  have hf4 := (HF.out (some ⟨g, 0, none⟩) pc l w4 (HC.out.1.more kn4) hs4 HC.out.2.2.1).mono (R' := fun e w' => Keeps None w4 w' ∧ ∃ qa qn qc, e = .returned (.tuple #[.agg #[.slice qa qn qc], .int .i64 E]) ∧ ((E ≠ 0 ∧ qn = 0) ∨ (E = 0 ∧ ∃ L', OwnF w' w4.heap.size (.slice qa qn qc) L' ∧ qn = L'.length ∧ L'.map (·.1) = redP l b k u))) (by
    have eE := HC.out.2.2.2.2.2.2.2.2.1
    rintro e w' ⟨hk, ⟨h0, h⟩ | ⟨h0, v, L', h, ho, hm⟩⟩
    · exact ⟨hk, none, 0, 0, by rw [h, eE], .inl ⟨by rw [eE]; exact h0, rfl⟩⟩
    · obtain ⟨qa, qc, rfl, _⟩ := ho.seen
      exact ⟨hk, qa, _, qc, by rw [h, eE, h0], .inr ⟨eE.trans h0, L', ho, rfl, hm⟩⟩)
  have H4 : Hid (Keeps None W0 w4 ∧ w4.heap[hi]? = some (.cells #[.slice (some ⟨g, 0, none⟩) n pc] 24 (0, 0)) ∧ Mp lo hi w4 l (some ⟨g, 0, none⟩) pc tv) := ⟨kn4, bP4, hM4⟩
  clear kr4 kn4 bP4 hM4 hs4 k4
  go_wp2_with fail
  refine hf4.mono ?_
  rintro _ w5 ⟨k5, qa, qn, qc, rfl, hq⟩
  clear hf4 p4
  have al5 := Keeps.alloc None w5 (.cells #[.slice qa qn qc] 24)
  have bQ := heap_alloc_new w5 (.cells #[.slice qa qn qc] 24)
  obtain ⟨Q, hQ⟩ : ∃ Q, Q = w5.heap.size := ⟨_, rfl⟩
  rw [← hQ] at bQ
  obtain ⟨W5, hW5⟩ : ∃ W5, W5 = w5.alloc (.cells #[.slice qa qn qc] 24) := ⟨_, rfl⟩
  rw [← hW5] at al5 bQ
  have k45 : Keeps None w4 W5 := k5.trans al5 (fun _ f _ => f)
  have hrf := HRF.out W5 (H4.out.1.trans k45 (fun _ f _ => f))
  have d5 : W5.cell? ⟨B, 0, none⟩ = some (.slice a n c) := (blk_cell (blk_kept HC.out.2.2.2.2.2.2.1 (H4.out.1.trans k45 (fun _ f _ => f)) (fun f => f)) 0).trans rfl
  have H5 : Hid (Keeps None w4 W5 ∧ W5.heap[Q]? = some (.cells #[.slice qa qn qc] 24 (0, 0)) ∧ Keeps None w5 W5 ∧ Q = w5.heap.size ∧ w4.heap.size ≤ Q ∧ ((E ≠ 0 ∧ qn = 0) ∨ (E = 0 ∧ ∃ L', OwnF w5 w4.heap.size (.slice qa qn qc) L' ∧ qn = L'.length ∧ L'.map (·.1) = redP l b k u))) := ⟨k45, bQ, al5, hQ, by rw [hQ]; exact k5.size, hq⟩
  clear al5 bQ k45 k5 hq
  go_upto_region 6 with fail
  rw [← hW5, ← hQ]
  clear hW5 hQ
  go_wp2_with fail
  refine hrf.mono ?_
  rintro _ w6 ⟨rfl, k6⟩
  clear hrf d5
  have k46 : Keeps None w4 w6 := H5.out.1.trans k6 (fun _ f _ => f)
  have k06 : Keeps None W0 w6 := H4.out.1.trans k46 (fun _ f _ => f)
  have p6 : w6.cell? ⟨hi, 0, none⟩ = some (.slice (some ⟨g, 0, none⟩) n pc) := (blk_cell (blk_kept H4.out.2.1 k46 (fun f => f)) 0).trans rfl
  have hmk := marked_any (some ⟨g, 0, none⟩) n pc l tv w6 (H4.out.2.2.more k46).rm HC.out.2.2.2.2.2.2.2.1 HC.out.2.2.2.1 HC.out.2.2.2.2.1
  have t7 : (E != E) = false := by simp
  have H6 : Hid (Keeps None w4 w6 ∧ Keeps None W0 w6 ∧ Keeps None W5 w6) := ⟨k46, k06, k6⟩
  clear k46 k06 k6
  go_wp2_with fail
  refine hmk.mono ?_
  rintro _ w7 ⟨rfl, k7⟩
  clear hmk p6
  have k47 : Keeps None w4 w7 := H6.out.1.trans k7 (fun _ f _ => f)
  have k07 : Keeps None W0 w7 := H6.out.2.1.trans k7 (fun _ f _ => f)
  have p7 : w7.cell? ⟨hi, 0, none⟩ = some (.slice (some ⟨g, 0, none⟩) n pc) := (blk_cell (blk_kept H4.out.2.1 k47 (fun f => f)) 0).trans rfl
  have d7 : w7.cell? ⟨B, 0, none⟩ = some (.slice a n c) := (blk_cell (blk_kept HC.out.2.2.2.2.2.2.1 k07 (fun f => f)) 0).trans rfl
  have hs7 := (H4.out.2.2.more k47).rm.seen
  rw [← HC.out.2.2.2.2.2.2.2.1] at hs7
  have hwh := whole_any a n c (some ⟨g, 0, none⟩) pc l w7 (HC.out.2.1.more k07) hs7 HC.out.2.2.1 (fun f hf => by have := HC.out.2.2.2.2.1 f hf; omega) (by have := HC.out.2.2.2.1; omega)
  have H7 : Hid (Keeps None w4 w7 ∧ Keeps None W0 w7 ∧ Keeps None W5 w7) := ⟨k47, k07, H6.out.2.2.trans k7 (fun _ f _ => f)⟩
  clear k47 k07 k7 hs7
  go_wp2_with fail
  refine hwh.mono ?_
  rintro _ w8 ⟨rfl, k8⟩
  clear hwh p7 d7
  have k48 : Keeps None w4 w8 := H7.out.1.trans k8 (fun _ f _ => f)
  have k08 : Keeps None W0 w8 := H7.out.2.1.trans k8 (fun _ f _ => f)
  have k58 : Keeps None W5 w8 := H7.out.2.2.trans k8 (fun _ f _ => f)
  have H8 : Hid (Keeps None w4 w8 ∧ Keeps None W0 w8 ∧ Keeps None W5 w8) := ⟨k48, k08, k58⟩
  clear k48 k08 k58 k8
  by_cases h0 : E = 0
  · have t0 : (E != 0) = false := by simp [h0]
    obtain ⟨L', ho, hqn, hLP⟩ : ∃ L', OwnF w5 w4.heap.size (.slice qa qn qc) L' ∧ qn = L'.length ∧ L'.map (·.1) = redP l b k u := by
      rcases H5.out.2.2.2.2.2 with h | h
      · exact absurd h0 h.1
      · exact h.2
    have hgd : Gd l (redP l b k u) := red_good (HC.out.2.2.2.2.2.2.2.2.1.symm.trans h0) HC.out.2.2.1 HC.out.2.2.2.2.2.2.2.2.2
    have HGD : Hid (Gd l (redP l b k u)) := hgd
    have hLl : L'.length = n + 2 := by rw [← List.length_map (f := (·.1)), hLP, hgd.len, HC.out.2.2.2.2.2.2.2.1]
    have hcd : ∀ x ∈ L', 1 ≤ x.1.code.length ∧ x.1.code.length ≤ 512 := fun x hx => hgd.codes x.1 (by rw [← hLP]; exact List.mem_map_of_mem hx)
    obtain ⟨gq, rfl⟩ : ∃ gq, qa = some ⟨gq, 0, none⟩ := by
      rcases ho.row.2 with ⟨_, h⟩ | ⟨g', cap, cur, he, _⟩
      · omega
      · injection he with e1
        exact ⟨g', e1⟩
    obtain ⟨Mq, hcq, hMq⟩ := ho.cw hqn (fun x hx => (hcd x hx).1)
    have HQ : Hid (OwnF w5 w4.heap.size (.slice (some ⟨gq, 0, none⟩) qn qc) L' ∧ Cw w4.heap.size w5.heap.size w5 gq qn Mq ∧ (∀ (i : Nat) x, L'[i]? = some x → ∃ d, Mq[i]? = some d ∧ d.v = x.2 ∧ d.m = x.1.code.length ∧ d.xs = codeC x.1.code) ∧ L'.map (·.1) = redP l b k u ∧ qn = n + 2 ∧ L'.length = n + 2 ∧ (∀ d ∈ Mq, d.m ≤ 1000)) := ⟨ho, hcq, hMq, hLP, hqn.trans hLl, hLl, fun d hd => by
      obtain ⟨i, hi, rfl⟩ := List.getElem_of_mem hd
      obtain ⟨d', hd', _, h2, _⟩ := hMq i (L'[i]'(by have := hcq.len; omega)) (by simp)
      rw [List.getElem?_eq_getElem hi] at hd'
      obtain rfl := Option.some.inj hd'
      rw [h2]
      have := (hcd (L'[i]'(by have := hcq.len; omega)) (List.getElem_mem _)).2
      omega⟩
    have hn28 := hgd.n28
    rw [← HC.out.2.2.2.2.2.2.2.1] at hn28
    clear ho hcq hMq hLP hqn hLl hcd hgd
    have p8 : w8.cell? ⟨hi, 0, none⟩ = some (.slice (some ⟨g, 0, none⟩) n pc) := (blk_cell (blk_kept H4.out.2.1 H8.out.1 (fun f => f)) 0).trans rfl
    have hs8 := (H4.out.2.2.more H8.out.1).rm.seen
    rw [← HC.out.2.2.2.2.2.2.2.1] at hs8
    have hf8 := (HF.out (some ⟨g, 0, none⟩) pc l w8 (HC.out.1.more H8.out.2.1) hs8 HC.out.2.2.1).mono (R' := fun e w' => Keeps None w8 w' ∧ ∃ ra rn rc, e = .returned (.tuple #[.agg #[.slice ra rn rc], .int .i64 0]) ∧ ∃ L', OwnF w' w8.heap.size (.slice ra rn rc) L' ∧ rn = L'.length ∧ L'.map (·.1) = redP l b k u) (by
      have eE := HC.out.2.2.2.2.2.2.2.2.1
      rintro e w' ⟨hk, ⟨h1, h⟩ | ⟨h1, v, L', h, ho, hm⟩⟩
      · exact absurd (eE.symm.trans h0) h1
      · obtain ⟨qa, qc, rfl, _⟩ := ho.seen
        exact ⟨hk, qa, _, qc, h, L', ho, rfl, hm⟩)
    clear hs8 h0
    go_wp2_with fail
    refine hf8.mono ?_
    rintro _ w9 ⟨k9, ra, rn, rc, rfl, Lr, ho, hrn, hLP⟩
    clear hf8 p8
    have hLl : Lr.length = n + 2 := by rw [← List.length_map (f := (·.1)), hLP, HGD.out.len, HC.out.2.2.2.2.2.2.2.1]
    have hcd : ∀ x ∈ Lr, 1 ≤ x.1.code.length ∧ x.1.code.length ≤ 512 := fun x hx => HGD.out.codes x.1 (by rw [← hLP]; exact List.mem_map_of_mem hx)
    obtain ⟨gr, rfl⟩ : ∃ gr, ra = some ⟨gr, 0, none⟩ := by
      rcases ho.row.2 with ⟨_, h⟩ | ⟨g', cap, cur, he, _⟩
      · omega
      · injection he with e1
        exact ⟨g', e1⟩
    obtain ⟨Mr, hcr, hMr⟩ := ho.cw hrn (fun x hx => (hcd x hx).1)
    have hMr5 : ∀ d ∈ Mr, d.m ≤ 1000 := fun d hd => by
      obtain ⟨i, hi, rfl⟩ := List.getElem_of_mem hd
      obtain ⟨d', hd', _, h2, _⟩ := hMr i (Lr[i]'(by have := hcr.len; omega)) (by simp)
      rw [List.getElem?_eq_getElem hi] at hd'
      obtain rfl := Option.some.inj hd'
      rw [h2]
      have := (hcd (Lr[i]'(by have := hcr.len; omega)) (List.getElem_mem _)).2
      omega
    have al9 := Keeps.alloc None w9 (.cells #[.slice (some ⟨gr, 0, none⟩) rn rc] 24)
    have bR := heap_alloc_new w9 (.cells #[.slice (some ⟨gr, 0, none⟩) rn rc] 24)
    obtain ⟨R, hR⟩ : ∃ R, R = w9.heap.size := ⟨_, rfl⟩
    rw [← hR] at bR
    obtain ⟨W9, hW9⟩ : ∃ W9, W9 = w9.alloc (.cells #[.slice (some ⟨gr, 0, none⟩) rn rc] 24) := ⟨_, rfl⟩
    rw [← hW9] at al9 bR
    have k89 : Keeps None w8 W9 := k9.trans al9 (fun _ f _ => f)
    have k49 : Keeps None w4 W9 := H8.out.1.trans k89 (fun _ f _ => f)
    have hMp9 := H4.out.2.2.more k49
    obtain ⟨Mp0, hcp, hmp⟩ := hMp9.cw
    rw [← HC.out.2.2.2.2.2.2.2.1] at hcp
    have hMp5 : ∀ d ∈ Mp0, d.m ≤ 1000 := fun d hd => by
      have h1 : d.m ∈ Mp0.map (·.m) := List.mem_map_of_mem hd
      rw [hmp] at h1
      obtain ⟨f, hf, e⟩ := List.mem_map.1 h1
      obtain ⟨i, hf⟩ := List.getElem?_of_mem hf
      have := (HGD.out.sh i f hf).1
      omega
    have bP9 := blk_kept H4.out.2.1 k49 (fun f => f)
    have p9 : W9.cell? ⟨hi, 0, none⟩ = some (.slice (some ⟨g, 0, none⟩) n pc) := (blk_cell bP9 0).trans rfl
    have hwp := wiped_any lo hi g n pc Mp0 W9 hcp (by have := blk_lt bP9; omega) (by omega) hMp5
    have q1 := H8.out.2.2.size
    have q2 := blk_lt H5.out.2.1
    have q3 := H5.out.2.2.2.2.1
    have q4 := blk_lt H4.out.2.1
    have q5 := k9.size
    have H9 : Hid (Keeps None W0 W9 ∧ W9.heap[hi]? = some (.cells #[.slice (some ⟨g, 0, none⟩) n pc] 24 (0, 0)) ∧ W9.heap[R]? = some (.cells #[.slice (some ⟨gr, 0, none⟩) rn rc] 24 (0, 0)) ∧ W9.heap[Q]? = some (.cells #[.slice (some ⟨gq, 0, none⟩) qn qc] 24 (0, 0)) ∧ Cw w8.heap.size R W9 gr rn Mr ∧ Cw w4.heap.size Q W9 gq qn Mq ∧ OwnF W9 w4.heap.size (.slice (some ⟨gq, 0, none⟩) qn qc) L' ∧ (∀ d ∈ Mr, d.m ≤ 1000) ∧ rn = n + 2 ∧ (∀ d ∈ Mp0, d.m ≤ 1000)) :=
      ⟨H4.out.1.trans k49 (fun _ f _ => f), bP9, bR, blk_kept H5.out.2.1 (H8.out.2.2.trans k89 (fun _ f _ => f)) (fun f => f), by rw [hR]; exact hcr.more al9, by rw [H5.out.2.2.2.1]; exact HQ.out.2.1.more ((H5.out.2.2.1.trans H8.out.2.2 (fun _ f _ => f)).trans k89 (fun _ f _ => f)), HQ.out.1.more ((H5.out.2.2.1.trans H8.out.2.2 (fun _ f _ => f)).trans k89 (fun _ f _ => f)), hMr5, hrn.trans hLl, hMp5⟩
    have HO : Hid (lo ≤ hi ∧ hi < w4.heap.size ∧ w4.heap.size ≤ Q ∧ Q < w8.heap.size ∧ w8.heap.size ≤ R ∧ W0.heap.size ≤ lo) := ⟨H1.out.2.2.2.1, q4, q3, by omega, by rw [hR]; exact q5, by rw [H1.out.2.2.1]; exact Nat.le_refl _⟩
    clear ho hrn hLP hLl hcd hcr hMr hMr5 k9 al9 bR k89 k49 hMp9 hcp hmp hMp5 bP9 q1 q2 q3 q4 q5
    go_upto_region 12 with fail
    rw [← hW9, ← hR]
    clear hW9 hR
    go_wp2_with fail
    refine hwp.mono ?_
    rintro _ w10 ⟨rfl, ⟨Mp1, hcp, hmp⟩, k10⟩
    clear hwp p9
    have hnR : ¬ Rg lo hi R := fun e => by have := e.2; have := HO.out; omega
    have hnQ : ¬ Rg lo hi Q := fun e => by have := e.2; have := HO.out; omega
    have hnP : ¬ Rg lo hi hi := fun e => by have := e.2; omega
    have bR10 := blk_kept H9.out.2.2.1 k10 hnR
    have r10 : w10.cell? ⟨R, 0, none⟩ = some (.slice (some ⟨gr, 0, none⟩) rn rc) := (blk_cell bR10 0).trans rfl
    have hcr10 := H9.out.2.2.2.2.1.kept k10 (fun k hk _ e => by have := hk.1; have := e.2; have := HO.out; omega)
    have hcq10 := H9.out.2.2.2.2.2.1.kept k10 (fun k hk _ e => by have := hk.1; have := e.2; have := HO.out; omega)
    have hoq10 := OwnF.kept H9.out.2.2.2.2.2.2.1 k10 (fun k hk e => by have := e.2; have := HO.out; omega)
    have hwr := wiped_any w8.heap.size R gr rn rc Mr w10 hcr10 (by have := blk_lt bR10; omega) (by have := H9.out.2.2.2.2.2.2.2.2.1; omega) H9.out.2.2.2.2.2.2.2.1
    have H10 : Hid (Keeps None W0 w10 ∧ w10.heap[hi]? = some (.cells #[.slice (some ⟨g, 0, none⟩) n pc] 24 (0, 0)) ∧ w10.heap[R]? = some (.cells #[.slice (some ⟨gr, 0, none⟩) rn rc] 24 (0, 0)) ∧ w10.heap[Q]? = some (.cells #[.slice (some ⟨gq, 0, none⟩) qn qc] 24 (0, 0)) ∧ Cw lo hi w10 g n Mp1 ∧ Cw w4.heap.size Q w10 gq qn Mq ∧ OwnF w10 w4.heap.size (.slice (some ⟨gq, 0, none⟩) qn qc) L' ∧ Mp1.map Cd.key = Mp0.map Cd.key) :=
      ⟨H9.out.1.trans k10 (fun i e hi => by have := e.1; have := HO.out; omega), blk_kept H9.out.2.1 k10 hnP, bR10, blk_kept H9.out.2.2.2.1 k10 hnQ, hcp, hcq10, hoq10, hmp⟩
    clear hnR hnQ hnP bR10 hcr10 hcq10 hoq10 hcp hmp k10
    go_wp2_with fail
    refine hwr.mono ?_
    rintro _ w11 ⟨rfl, ⟨Mr1, hcr, hmr⟩, k11⟩
    clear hwr r10
    have hnR : ¬ Rg w8.heap.size R R := fun e => by have := e.2; omega
    have hnQ : ¬ Rg w8.heap.size R Q := fun e => by have := e.1; have := HO.out; omega
    have hnP : ¬ Rg w8.heap.size R hi := fun e => by have := e.1; have := HO.out; omega
    have bR11 := blk_kept H10.out.2.2.1 k11 hnR
    have bQ11 := blk_kept H10.out.2.2.2.1 k11 hnQ
    have bP11 := blk_kept H10.out.2.1 k11 hnP
    have hcp11 := H10.out.2.2.2.2.1.kept k11 (fun k hk _ e => by have := hk.2; have := e.1; have := HO.out; omega)
    have hcq11 := H10.out.2.2.2.2.2.1.kept k11 (fun k hk _ e => by have := hk.2; have := e.1; have := HO.out; omega)
    have hoq11 := OwnF.kept2 H10.out.2.2.2.2.2.2.1 k11 (hi := Q) H10.out.2.2.2.2.2.1 HQ.out.2.2.1 (fun k hk e => by have := hk.2; have := e.1; have := HO.out; omega)
    have hMr2 : ∀ d ∈ Mr1, d.m ≤ 1000 := key_small hmr H9.out.2.2.2.2.2.2.2.1
    have hMp2 : ∀ d ∈ Mp1, d.m ≤ 1000 := key_small H10.out.2.2.2.2.2.2.2 H9.out.2.2.2.2.2.2.2.2.2
    have H11 : Hid (Keeps None W0 w11 ∧ w11.heap[hi]? = some (.cells #[.slice (some ⟨g, 0, none⟩) n pc] 24 (0, 0)) ∧ w11.heap[R]? = some (.cells #[.slice (some ⟨gr, 0, none⟩) rn rc] 24 (0, 0)) ∧ w11.heap[Q]? = some (.cells #[.slice (some ⟨gq, 0, none⟩) qn qc] 24 (0, 0)) ∧ Cw lo hi w11 g n Mp1 ∧ Cw w4.heap.size Q w11 gq qn Mq ∧ OwnF w11 w4.heap.size (.slice (some ⟨gq, 0, none⟩) qn qc) L' ∧ Cw w8.heap.size R w11 gr rn Mr1 ∧ (∀ d ∈ Mr1, d.m ≤ 1000) ∧ (∀ d ∈ Mp1, d.m ≤ 1000)) :=
      ⟨H10.out.1.trans k11 (fun i e hi => by have := e.1; have := HO.out; have := H1.out; omega), bP11, bR11, bQ11, hcp11, hcq11, hoq11, hcr, hMr2, hMp2⟩
    have HGQ : Hid (∀ w', Keeps None w11 w' → Calls Tryd.prog 13 #[.agg #[.slice (some ⟨gq, 0, none⟩) qn qc]] w' fun e w'' => (∃ t : Nat, e = .returned (.int .i64 t) ∧ t ≤ 200000 ∧ qn ≤ t) ∧ OwnF w'' w4.heap.size (.slice (some ⟨gq, 0, none⟩) qn qc) L' ∧ Keeps (Rg w4.heap.size Q) w' w'') := fun w' hk =>
      (grown_any w4.heap.size Q gq qn qc Mq w' (H11.out.2.2.2.2.2.1.more hk) (by have := blk_lt H11.out.2.2.2.1; have := hk.size; omega) (by have := HQ.out.2.2.2.2.1; omega) HQ.out.2.2.2.2.2.2).mono (fun e w'' h => ⟨h.1, OwnF.grown (H11.out.2.2.2.2.2.2.1.more hk) HQ.out.2.2.1 (H11.out.2.2.2.2.2.1.more hk) h.2.1 h.2.2, h.2.2.mono (fun k e _ => by obtain ⟨i, d, hd, rfl⟩ := e; exact (h.2.1.at_ i d hd).2.2)⟩)
    have HGR : Hid (∀ w', Keeps (Rg w4.heap.size Q) w11 w' → Calls Tryd.prog 13 #[.agg #[.slice (some ⟨gr, 0, none⟩) rn rc]] w' fun e w'' => (∃ t : Nat, e = .returned (.int .i64 t) ∧ t ≤ 200000 ∧ rn ≤ t) ∧ Keeps (Rg w8.heap.size R) w' w'') := fun w' hk =>
      (grown_any w8.heap.size R gr rn rc Mr1 w' (H11.out.2.2.2.2.2.2.2.1.kept hk (fun k hk2 _ e => by have := hk2.1; have := e.2; have := HO.out; omega)) (by have := blk_lt H11.out.2.2.1; have := hk.size; omega) (by have := H9.out.2.2.2.2.2.2.2.2.1; omega) H11.out.2.2.2.2.2.2.2.2.1).mono (fun e w'' h => ⟨h.1, h.2.2.mono (fun k e _ => by obtain ⟨i, d, hd, rfl⟩ := e; exact (h.2.1.at_ i d hd).2.2)⟩)
    have HGP : Hid (∀ w', Keeps (fun k => hi ≤ k) w11 w' → Calls Tryd.prog 13 #[.agg #[.slice (some ⟨g, 0, none⟩) n pc]] w' fun e w'' => (∃ t : Nat, e = .returned (.int .i64 t) ∧ t ≤ 200000 ∧ n ≤ t) ∧ Keeps (Rg lo hi) w' w'') := fun w' hk =>
      (grown_any lo hi g n pc Mp1 w' (H11.out.2.2.2.2.1.kept hk (fun k hk2 _ e => by have := hk2.2; have e' : hi ≤ k := e; omega)) (by have := blk_lt H11.out.2.1; have := hk.size; omega) (by omega) H11.out.2.2.2.2.2.2.2.2.2).mono (fun e w'' h => ⟨h.1, h.2.2.mono (fun k e _ => by obtain ⟨i, d, hd, rfl⟩ := e; exact (h.2.1.at_ i d hd).2.2)⟩)
    clear hnR hnQ hnP bR11 bQ11 bP11 hcp11 hcq11 hoq11 hMr2 hMp2 hcr hmr k11
    go_upto_region 14 with fail
    have cells11 : ∀ w', Keeps (fun k => Rg lo hi k ∨ Rg w4.heap.size Q k ∨ Rg w8.heap.size R k) w11 w' → w'.cell? ⟨Q, 0, none⟩ = some (.slice (some ⟨gq, 0, none⟩) qn qc) ∧ w'.cell? ⟨R, 0, none⟩ = some (.slice (some ⟨gr, 0, none⟩) rn rc) ∧ w'.cell? ⟨hi, 0, none⟩ = some (.slice (some ⟨g, 0, none⟩) n pc) := fun w' hk =>
      have h := HO.out
      ⟨(blk_cell (blk_kept H11.out.2.2.2.1 hk (fun e => by unfold Rg at e; omega)) 0).trans rfl, (blk_cell (blk_kept H11.out.2.2.1 hk (fun e => by unfold Rg at e; omega)) 0).trans rfl, (blk_cell (blk_kept H11.out.2.1 hk (fun e => by unfold Rg at e; omega)) 0).trans rfl⟩
    have HCL : Hid _ := cells11
    have r00 := cells11 w11 (Keeps.refl _ _)
    have r0 := cells11 w11.drew (Keeps.drew _ w11)
    clear cells11
    obtain ⟨r00a, r00b, r00c⟩ := r00
    go_cut [15] (fun sS wx => ∃ t : Nat, sS = .int .i64 t ∧ 0 < t ∧ OwnF wx w4.heap.size (.slice (some ⟨gq, 0, none⟩) qn qc) L' ∧ Keeps None W0 wx ∧ wx.heap[Q]? = some (.cells #[.slice (some ⟨gq, 0, none⟩) qn qc] 24 (0, 0)))
    case first =>
      refine wp_region_held_drew (S := (fun w' => w'.cell? ⟨Q, 0, none⟩ = some (.slice (some ⟨gq, 0, none⟩) qn qc) ∧ w'.cell? ⟨R, 0, none⟩ = some (.slice (some ⟨gr, 0, none⟩) rn rc) ∧ w'.cell? ⟨hi, 0, none⟩ = some (.slice (some ⟨g, 0, none⟩) n pc))) (by kernel_rfl) ?_ (fun hHeld => ?_)
      · (try dsimp only); first | exact r6 | exact r3 | exact r1 | exact r0
      refine wpAnyH_take (i := 0) (oi := { dst := some 72, op := Op.load 24 (Operand.tmp 10), type := 24, pos := "law.go:163", after := #[], guard := none }) (v := ?_) rfl (by kernel_rfl) (by kernel_rfl) (by kernel_rfl) (fun _ _ _ h => h) (Or.inl ⟨by rfl, ?_⟩) (by assumption) ?_
      rotate_left
      · (intro wz hSw; (try dsimp only at hSw); go_simp; try with_reducible rfl)
      simp only [Act.put, List.setIfInBounds_toArray, List.set_cons_zero, List.set_cons_succ]
      refine wpAnyH_take (i := 2) (oi := { dst := some 74, op := Op.load 24 (Operand.tmp 13), type := 24, pos := "law.go:163", after := #[], guard := none }) (v := ?_) rfl (by kernel_rfl) (by kernel_rfl) (by kernel_rfl) (fun _ _ _ h => h) (Or.inl ⟨by rfl, ?_⟩) (by assumption) ?_
      rotate_left
      · (intro wz hSw; (try dsimp only at hSw); go_simp; try with_reducible rfl)
      simp only [Act.put, List.setIfInBounds_toArray, List.set_cons_zero, List.set_cons_succ]
      refine wpAnyH_take (i := 5) (oi := { dst := some 77, op := Op.load 24 (Operand.tmp 9), type := 24, pos := "law.go:163", after := #[], guard := none }) (v := ?_) rfl (by kernel_rfl) (by kernel_rfl) (by kernel_rfl) (fun _ _ _ h => h) (Or.inl ⟨by rfl, ?_⟩) (by assumption) ?_
      rotate_left
      · (intro wz hSw; (try dsimp only at hSw); go_simp; try with_reducible rfl)
      simp only [Act.put, List.setIfInBounds_toArray, List.set_cons_zero, List.set_cons_succ]
      refine wpAnyH_ready (rs := [1]) (by kernel_rfl) (by simp) ?_
      refine AllReadyH.cons (o := { dst := some 73, op := Op.call { callee := Callee.value (Operand.func 13), args := #[Operand.tmp 72], argTypes := #[24] }, type := 3, pos := "law.go:163", after := #[{ on := 0, ground := Ground.data }], guard := none }) rfl (fun K hK => ?_) ?_
      · go_simp
        refine (HGQ.out _ (Keeps.drew None w11)).mono ?_
        rintro _ w12 ⟨⟨t1, rfl, x1, y1⟩, o12, k12⟩
        have j12 : Keeps (Rg w4.heap.size Q) w11 w12 := (Keeps.drew _ w11).trans k12 (fun _ e _ => e)
        have r1 := HCL.out w12 (j12.mono (fun _ e _ => .inr (.inl e)))
        refine hK.out _ _ ?_ (fun hHeld2 => ?_)
        · (try dsimp only); first | exact r6 | exact r3 | exact r1 | exact r0
        clear hK K
        try simp only [Act.put, List.setIfInBounds_toArray, List.set_cons_zero, List.set_cons_succ]
        refine wpAnyH_ready (rs := [3]) (by kernel_rfl) (by simp) ?_
        refine AllReadyH.cons (o := { dst := some 75, op := Op.call { callee := Callee.value (Operand.func 13), args := #[Operand.tmp 74], argTypes := #[24] }, type := 3, pos := "law.go:163", after := #[{ on := 2, ground := Ground.data }, { on := 1, ground := Ground.chain }], guard := none }) rfl (fun K hK => ?_) ?_
        · go_simp
          refine (HGR.out _ j12).mono ?_
          rintro _ w13 ⟨⟨t2, rfl, x2, y2⟩, k13⟩
          have j13 : Keeps (fun k => Rg w4.heap.size Q k ∨ Rg w8.heap.size R k) w11 w13 := (j12.mono (fun _ e _ => .inl e)).trans k13 (fun _ e _ => .inr e)
          have r3 := HCL.out w13 (j13.mono (fun _ e _ => .inr e))
          have s1 : IntKind.i64.wrap ((t1 : Int) + (t2 : Int)) = (t1 : Int) + (t2 : Int) := by rw [IntKind.wrap_i64]; omega
          refine hK.out _ _ ?_ (fun hHeld2 => ?_)
          · (try dsimp only); first | exact r6 | exact r3 | exact r1 | exact r0
          clear hK K
          try simp only [Act.put, List.setIfInBounds_toArray, List.set_cons_zero, List.set_cons_succ]
          refine wpAnyH_take (i := 4) (oi := { dst := some 76, op := Op.binOp BinOp.add 3 (Operand.tmp 73) (Operand.tmp 75) 3, type := 3, pos := "law.go:163", after := #[{ on := 1, ground := Ground.data }, { on := 3, ground := Ground.data }], guard := none }) (v := ?_) rfl (by kernel_rfl) (by kernel_rfl) (by kernel_rfl) (fun _ _ _ h => h) (Or.inl ⟨by rfl, ?_⟩) (by assumption) ?_
          rotate_left
          · (intro wz hSw; (try dsimp only at hSw); go_simp; try with_reducible rfl)
          simp only [Act.put, List.setIfInBounds_toArray, List.set_cons_zero, List.set_cons_succ]
          refine wpAnyH_ready (rs := [6]) (by kernel_rfl) (by simp) ?_
          refine AllReadyH.cons (o := { dst := some 78, op := Op.call { callee := Callee.value (Operand.func 13), args := #[Operand.tmp 77], argTypes := #[24] }, type := 3, pos := "law.go:163", after := #[{ on := 5, ground := Ground.data }, { on := 3, ground := Ground.chain }], guard := none }) rfl (fun K hK => ?_) ?_
          · go_simp
            refine (HGP.out _ (j13.mono (fun k e _ => by have h := HO.out; unfold Rg at e; show hi ≤ k; omega))).mono ?_
            rintro _ w14 ⟨⟨t3, rfl, x3, y3⟩, k14⟩
            have j14 : Keeps (fun k => Rg lo hi k ∨ Rg w4.heap.size Q k ∨ Rg w8.heap.size R k) w11 w14 := (j13.mono (fun _ e _ => .inr e)).trans k14 (fun _ e _ => .inl e)
            have r6 := HCL.out w14 j14
            have s2 : IntKind.i64.wrap ((t1 : Int) + (t2 : Int) + (t3 : Int)) = (t1 : Int) + (t2 : Int) + (t3 : Int) := by rw [IntKind.wrap_i64]; omega
            have HZ : Hid (OwnF w14 w4.heap.size (.slice (some ⟨gq, 0, none⟩) qn qc) L' ∧ Keeps None W0 w14 ∧ w14.heap[Q]? = some (.cells #[.slice (some ⟨gq, 0, none⟩) qn qc] 24 (0, 0)) ∧ 0 < t1 + t2 + t3) := by
              have h := HO.out
              refine ⟨OwnF.far (OwnF.far o12 k13 (blk_lt H11.out.2.2.2.1) HQ.out.2.2.1 H11.out.2.2.2.2.2.1 (fun k hk e => by unfold Rg at e hk; omega)) k14 (blk_lt H11.out.2.2.2.1) HQ.out.2.2.1 H11.out.2.2.2.2.2.1 (fun k hk e => by unfold Rg at e hk; omega), H11.out.1.trans j14 (fun k e hk => by unfold Rg at e; omega), blk_kept H11.out.2.2.2.1 j14 (fun e => by unfold Rg at e; omega), ?_⟩
              have := H9.out.2.2.2.2.2.2.2.2.1
              omega
            clear o12 k12 k13 k14
            refine hK.out _ _ ?_ (fun hHeld2 => ?_)
            · (try dsimp only); first | exact r6 | exact r3 | exact r1 | exact r0
            clear hK K
            try simp only [Act.put, List.setIfInBounds_toArray, List.set_cons_zero, List.set_cons_succ]
            refine wpAnyH_take (i := 7) (oi := { dst := some 79, op := Op.binOp BinOp.add 3 (Operand.tmp 76) (Operand.tmp 78) 3, type := 3, pos := "law.go:163", after := #[{ on := 4, ground := Ground.data }, { on := 6, ground := Ground.data }], guard := none }) (v := ?_) rfl (by kernel_rfl) (by kernel_rfl) (by kernel_rfl) (fun _ _ _ h => h) (Or.inl ⟨by rfl, ?_⟩) (by assumption) ?_
            rotate_left
            · (intro wz hSw; (try dsimp only at hSw); go_simp; try with_reducible rfl)
            simp only [Act.put, List.setIfInBounds_toArray, List.set_cons_zero, List.set_cons_succ]
            refine wpAnyH_take (i := 8) (oi := { dst := some 15, op := Op.assign (Operand.tmp 79), type := 3, pos := "law.go:163", after := #[{ on := 7, ground := Ground.data }, { on := 6, ground := Ground.chain }, { on := 0, ground := Ground.phase }, { on := 1, ground := Ground.phase }, { on := 2, ground := Ground.phase }, { on := 3, ground := Ground.phase }, { on := 4, ground := Ground.phase }, { on := 5, ground := Ground.phase }, { on := 6, ground := Ground.phase }, { on := 7, ground := Ground.phase }], guard := none }) (v := ?_) rfl (by kernel_rfl) (by kernel_rfl) (by kernel_rfl) (fun _ _ _ h => h) (Or.inl ⟨by rfl, ?_⟩) (by assumption) ?_
            rotate_left
            · (intro wz hSw; (try dsimp only at hSw); go_simp; try with_reducible rfl)
            simp only [Act.put, List.setIfInBounds_toArray, List.set_cons_zero, List.set_cons_succ]
            refine wpAnyH_done (by kernel_rfl) ?_ _
            go_wp2_with fail
            go_meet
            exact ⟨t1 + t2 + t3, by simp, HZ.out.2.2.2, HZ.out.1, HZ.out.2.1, HZ.out.2.2.1⟩
          exact AllReadyH.nil
        exact AllReadyH.nil
      exact AllReadyH.nil
    case rest =>
      obtain ⟨t, rfl, ht, hoq, hk, bQ⟩ := hcut
      clear r0 r00a r00b r00c
      obtain ⟨aq, cq, eq, hsq⟩ := hoq.seen
      injection eq with e1 e2 e3
      subst e1
      rw [HQ.out.2.2.2.1, HQ.out.2.2.2.2.2.1, ← HQ.out.2.2.2.2.1] at hsq
      obtain ⟨f0, hf0, hp0⟩ := HGD.out.f0
      have hshp := shaped_any a n c (some ⟨gq, 0, none⟩) qn qc l (redP l b k u) wc (HC.out.2.1.more hk) hsq HQ.out.2.2.2.2.1 (by omega) HGD.out.ok HGD.out.chk HGD.out.ask f0 hf0 hp0 HGD.out.sh
      have q0 : wc.cell? ⟨Q, 0, none⟩ = some (.slice (some ⟨gq, 0, none⟩) qn qc) := (blk_cell bQ 0).trans rfl
      have d0 : wc.cell? ⟨B, 0, none⟩ = some (.slice a n c) := (blk_cell (blk_kept HC.out.2.2.2.2.2.2.1 hk (fun f => f)) 0).trans rfl
      have HK : Hid (Keeps None W0 wc) := hk
      have i1 : (0 : Int) < (t : Int) := by omega
      have HT0 : Hid (0 < t) := ht
      clear hoq hsq hf0 hp0 hk bQ ht e2 e3
      go_wp2_with fail
      refine hshp.mono ?_
      rintro _ w15 ⟨rfl, k15⟩
      have HK2 : Hid (Keeps None w w15) := (HC.out.2.2.2.2.2.1.trans HK.out (fun _ f _ => f)).trans k15 (fun _ f _ => f)
      clear hshp k15
      go_wp2
      go_ret
      exact ⟨by have h := HT0.out; simp [h], HK2.out⟩
  · have t0 : (E != 0) = true := by simp [h0]
    have hqn : qn = 0 := by
      rcases H5.out.2.2.2.2.2 with h | h
      · exact h.2
      · exact absurd h.1 h0
    subst hqn
    have q8 : w8.cell? ⟨Q, 0, none⟩ = some (.slice qa 0 qc) := (blk_cell (blk_kept H5.out.2.1 H8.out.2.2 (fun f => f)) 0).trans rfl
    clear h0
    go_wp2
    go_ret
    exact ⟨rfl, HC.out.2.2.2.2.2.1.trans H8.out.2.1 (fun _ f _ => f)⟩
end Go.Proofs.YtiibflbfnoddmaaDoor
