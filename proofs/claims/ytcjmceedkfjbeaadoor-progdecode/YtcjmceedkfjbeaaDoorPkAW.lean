import Derived.Test.YtcjmceedkfjbeaaDoorPkAV
/-! wrap. -/
namespace Go.Proofs.YtcjmceedkfjbeaaDoor
set_option linter.unusedVariables false
set_option maxRecDepth 20000
open Go.RowKit Go.HeapKit

theorem load_gift (w : World) (g : Nat) (t : TypeId) (a b c : Value) (hb : w.heap[g]? = some (.cells #[a, b, c] t (0, 0))) : (loadVar 46 ⟨g, 0, none⟩).run Tryd.prog w = .ok (.agg #[a, b, c]) w :=
  run_loadVar_row _ g t 46 _ _ _ hb Tryd.underlying46 rfl (by kernel_rfl)
structure Wr (w wr : World) (B G n : Nat) (pv : Value) (l : List Fn) (k : Nat) (cv : Value) (cs : List Nat) : Prop where
  keep : Keeps None w wr
  box : wr.heap[B]? = some (.cells #[pv] 25 (0, 0))
  res : wr.heap[B + 1]? = some (.cells #[.slice none 0 0, .slice none 0 0, .slice none 0 0] 46 (0, 0))
  gb : wr.heap[B + 2]? = some (.cells #[.slice none 0 0, .slice (some ⟨G, 0, none⟩) (n + 1) (n + 1), cv] 46 (0, 0))
  gift : IsGift w.heap.size wr G cv cs (l.take k) (List.replicate (n + 1 - k) zeroFc)
  hB : w.heap.size ≤ B
  hG : B + 2 < G
theorem Wr.more {w wr w' : World} {B G n : Nat} {pv : Value} {l : List Fn} {k : Nat} {cv : Value} {cs : List Nat} (h : Wr w wr B G n pv l k cv cs) (hk : Keeps None wr w') : Wr w w' B G n pv l k cv cs :=
  ⟨h.keep.trans hk (fun _ f _ => f), blk_kept h.box hk (fun f => f), blk_kept h.res hk (fun f => f), blk_kept h.gb hk (fun f => f), h.gift.more hk, h.hB, h.hG⟩
theorem take_snoc {α : Type} (l : List α) (k : Nat) (x : α) (hx : l[k]? = some x) : l.take (k + 1) = l.take k ++ [x] := by rw [List.take_add_one, hx]; rfl
theorem gift_rows (l : List Fn) (cs : List Nat) (n k : Nat) (f : Fn) (g : Nat) (hf : l[k]? = some f) (hc : cs.length = (l.take k).length) (hkn : k < n) :
    ((List.zipWith gfCells (l.take k) cs ++ List.replicate (n + 1 - k) zeroFc).set k (gfCells f g)) = List.zipWith gfCells (l.take (k + 1)) (cs ++ [g]) ++ List.replicate (n + 1 - (k + 1)) zeroFc := by
  have hk := (List.getElem?_eq_some_iff.1 hf).1
  have ht : (l.take k).length = k := by simp; omega
  have hz : (List.zipWith gfCells (l.take k) cs).length = k := by rw [List.length_zipWith]; omega
  rw [List.set_append_right _ _ (by omega), hz, Nat.sub_self, show n + 1 - k = (n + 1 - (k + 1)) + 1 by omega, List.replicate_succ, List.set_cons_zero, take_snoc l k f hf, List.zipWith_append (by omega)]
  simp
theorem gift_codes (l : List Fn) (cs : List Nat) (k : Nat) (f : Fn) (g : Nat) (hf : l[k]? = some f) (hc : cs.length = (l.take k).length) :
    List.zipWith gcV (l.take k) cs ++ [gcV f g] = List.zipWith gcV (l.take (k + 1)) (cs ++ [g]) := by
  rw [take_snoc l k f hf, List.zipWith_append (by omega)]
  simp
theorem Wr.next {w wr w2 : World} {B G n : Nat} {pv : Value} {l : List Fn} {k : Nat} {cv : Value} {cs : List Nat} {f : Fn} {g b cap : Nat} {o : Obj} (h : Wr w wr B G n pv l k cv cs) (hf : l[k]? = some f) (hkn : k < n) (hC : IsC wr g (oddL f.code)) (hng : g ∉ cs) (hlow : w.heap.size ≤ g) (hgB : B + 2 < g)
    (hk2 : Keeps (fun k => cv.ownBlock = some k) ((set4 wr G (k * 4) (.int .i64 f.params) (.int .i64 f.regs) (.int .i64 f.slots) (.slice (some ⟨g, 0, none⟩) f.code.length (f.code.length + 2))).alloc o) w2)
    (ho2 : w2.ownsRow 0 38 1 (.slice (some ⟨b, 0, none⟩) (k + 1) cap) (k + 1) (List.zipWith gcV (l.take k) cs ++ [gcV f g])) (hg2 : cv.ownBlock = some b ∨ (set4 wr G (k * 4) (.int .i64 f.params) (.int .i64 f.regs) (.int .i64 f.slots) (.slice (some ⟨g, 0, none⟩) f.code.length (f.code.length + 2))).heap.size ≤ b) :
    w2.cell? ⟨B + 2, 2, none⟩ = some cv ∧ w2.frozen? ⟨B + 2, 2, none⟩ = false ∧ Wr w (w2.setCell ⟨B + 2, 2, none⟩ (.slice (some ⟨b, 0, none⟩) (k + 1) cap)) B G n pv l (k + 1) (.slice (some ⟨b, 0, none⟩) (k + 1) cap) (cs ++ [g]) := by
  have hlk := (List.getElem?_eq_some_iff.1 hf).1
  have ht : (l.take k).length = k := by simp; omega
  have hcl := h.gift.len
  have k4 := set4_keeps wr G (k * 4) (.int .i64 f.params) (.int .i64 f.regs) (.int .i64 f.slots) (.slice (some ⟨g, 0, none⟩) f.code.length (f.code.length + 2))
  have hzl : (List.zipWith gfCells (l.take k) cs ++ List.replicate (n + 1 - k) zeroFc).length = n + 1 := by rw [List.length_append, List.length_zipWith, List.length_replicate]; omega
  have fb4 := h.gift.fb.set k (by omega) (.int .i64 f.params) (.int .i64 f.regs) (.int .i64 f.slots) (.slice (some ⟨g, 0, none⟩) f.code.length (f.code.length + 2))
  have hgr := gift_rows l cs n k f g hf hcl hkn
  have fb5 : IsR4 (set4 wr G (k * 4) (.int .i64 f.params) (.int .i64 f.regs) (.int .i64 f.slots) (.slice (some ⟨g, 0, none⟩) f.code.length (f.code.length + 2))) G ((List.zipWith gfCells (l.take k) cs ++ List.replicate (n + 1 - k) zeroFc).set k (gfCells f g)) := fb4
  rw [hgr] at fb5
  clear fb4
  have hfun : ∀ {c : Array Value} {T : TypeId} {p : Nat}, T ≠ 38 → wr.heap[p]? = some (.cells c T (0, 0)) → ¬ cv.ownBlock = some p := fun hT hp e => hT ((own_type h.gift.codes e hp).symm ▸ rfl)
  have hal := Keeps.alloc None (set4 wr G (k * 4) (.int .i64 f.params) (.int .i64 f.regs) (.int .i64 f.slots) (.slice (some ⟨g, 0, none⟩) f.code.length (f.code.length + 2))) o
  have hG := h.hG
  have hB := h.hB
  have k42 : Keeps (fun i => i = G ∨ cv.ownBlock = some i) wr w2 := ((k4.mono (fun _ e _ => Or.inl e)).trans hal (fun _ f _ => f.elim)).trans hk2 (fun _ e _ => Or.inr e)
  have gb2 := blk_kept h.gb k42 (by rintro (e | e); · omega
                                    · exact hfun (by decide) h.gb e)
  have kS : Keeps (· = B + 2) w2 (w2.setCell ⟨B + 2, 2, none⟩ (.slice (some ⟨b, 0, none⟩) (k + 1) cap)) := Keeps.setCell (S := (· = B + 2)) w2 rfl _
  have hbB : b ≠ B + 2 := by
    rintro rfl
    have := own_type ho2 (g := B + 2) rfl gb2
    exact absurd this (by decide)
  refine ⟨(blk_cell gb2 2).trans rfl, blk_free gb2 2, ⟨?_, ?_, ?_, ?_, ?_, h.hB, h.hG⟩⟩
  · refine (h.keep.trans k42 (fun i e hi => ?_)).trans kS (fun i e hi => by omega)
    rcases e with e | e
    · have := h.gift.lowG; omega
    · have := h.gift.lowV i e; omega
  · refine blk_kept (blk_kept h.box k42 ?_) kS (by omega)
    rintro (e | e)
    · omega
    · exact hfun (by decide) h.box e
  · refine blk_kept (blk_kept h.res k42 ?_) kS (by omega)
    rintro (e | e)
    · omega
    · exact hfun (by decide) h.res e
  · rw [blk_set gb2]; rfl
  · have hll : (l.take (k + 1)).length = k + 1 := by simp; omega
    have hone : ∀ c fl, IsC wr c fl → IsC (w2.setCell ⟨B + 2, 2, none⟩ (.slice (some ⟨b, 0, none⟩) (k + 1) cap)) c fl := by
      intro c fl hc
      have h1 : IsC w2 c fl := hc.kept k42 (by
        rintro (e | e)
        · exact blk_ne hc h.gift.fb.blk (by decide) e
        · exact hfun (by decide) hc e)
      exact h1.kept kS (blk_ne h1 gb2 (by decide))
    refine ⟨((fb5.kept hal (fun f => f)).kept hk2 (hfun (by decide) h.gift.fb.blk)).kept kS (by omega), ?_, ?_, ?_, ?_, h.gift.lowG, ?_, ?_⟩
    · rw [hll, ← gift_codes l cs k f g hf hcl]
      exact kS.own ho2 (fun q e r => by simp [Value.ownBlock] at e; exact hbB (e.trans r))
    · intro i f' c' hi hc
      rw [take_snoc l k f hf] at hi
      by_cases hik : i < k
      · rw [List.getElem?_append_left (by omega)] at hi
        rw [List.getElem?_append_left (by omega)] at hc
        exact hone _ _ (h.gift.code i f' c' hi hc)
      · have hlt := (List.getElem?_eq_some_iff.1 hi).1
        simp only [List.length_append, ht, List.length_cons, List.length_nil] at hlt
        obtain rfl : i = k := by omega
        rw [List.getElem?_append_right (by omega), ht, Nat.sub_self] at hi
        rw [List.getElem?_append_right (by omega), hcl, ht, Nat.sub_self] at hc
        simp at hi hc
        subst hi hc
        exact hone _ _ hC
    · rw [List.length_append, hll, hcl, ht]; rfl
    · rw [List.nodup_append]
      refine ⟨h.gift.nodup, by simp, fun x hx y hy => ?_⟩
      simp at hy
      subst hy
      rintro rfl
      exact hng hx
    · intro c hc
      rcases List.mem_append.1 hc with h1 | h1
      · exact h.gift.lowC c h1
      · simp at h1; subst h1; exact hlow
    · intro q e
      simp [Value.ownBlock] at e
      subst e
      rcases hg2 with r | r
      · exact h.gift.lowV _ r
      · have h1 := k4.size
        have h2 := h.keep.size
        omega
set_option maxHeartbeats 2000000 in
theorem wrap_any (a : Option Addr) (n c : Nat) (l : List Fn) (w : World) (hS : SeenF w a n l) (hr : n * 48 ≤ 140737488351232) (hrc : ∀ f ∈ l, f.code.length * 40 ≤ 140737488351232) :
    Calls Tryd.prog 16 #[.agg #[.slice a n c]] w fun e w' => ∃ G cv cs, e = .returned (.agg #[.slice (some ⟨G, 0, none⟩) n (n + 1), .slice (some ⟨G, 0, none⟩) (n + 1) (n + 1), cv]) ∧ IsGift w.heap.size w' G cv cs l [oddFc] ∧ Keeps None w w' := by
  have hn := hS.len
  obtain ⟨B, hB⟩ : ∃ B, B = w.heap.size := ⟨_, rfl⟩
  obtain ⟨p1, p2⟩ := two_boxes w #[.slice a n c] #[.slice none 0 0, .slice none 0 0, .slice none 0 0] 25 46
  have hk2 := keeps2 w (.cells #[.slice a n c] 25) (.cells #[.slice none 0 0, .slice none 0 0, .slice none 0 0] 46)
  have s2 : ((w.alloc (.cells #[.slice a n c] 25)).alloc (.cells #[.slice none 0 0, .slice none 0 0, .slice none 0 0] 46)).heap.size = B + 2 := by rw [hB]; simp
  obtain ⟨w2, hw2⟩ : ∃ w2, w2 = (w.alloc (.cells #[.slice a n c] 25)).alloc (.cells #[.slice none 0 0, .slice none 0 0, .slice none 0 0] 46) := ⟨_, rfl⟩
  rw [← hw2] at p1 p2 hk2 s2
  rw [← hB] at p1 p2
  have hal := Keeps.alloc None w2 (.cells #[.slice none 0 0, .slice none 0 0, .slice none 0 0] 46)
  have p3 := heap_alloc_new w2 (.cells #[.slice none 0 0, .slice none 0 0, .slice none 0 0] 46)
  have s3 : (w2.alloc (.cells #[.slice none 0 0, .slice none 0 0, .slice none 0 0] 46)).heap.size = B + 3 := by simp [s2]
  rw [s2] at p3
  obtain ⟨w3, hw3⟩ : ∃ w3, w3 = w2.alloc (.cells #[.slice none 0 0, .slice none 0 0, .slice none 0 0] 46) := ⟨_, rfl⟩
  rw [← hw3] at hal p3 s3
  obtain ⟨w4, hmk, hR4, hk4⟩ := funcs_made w3 (n + 1) (by omega)
  rw [s3] at hmk hR4
  have kS : Keeps (· = B + 2) w4 (w4.setCell ⟨B + 2, 1, none⟩ (.slice (some ⟨B + 3, 0, none⟩) (n + 1) (n + 1))) := Keeps.setCell (S := (· = B + 2)) w4 rfl _
  have g4 := blk_kept p3 hk4 (fun f => f)
  have HS0 : Hid (Wr w (w4.setCell ⟨B + 2, 1, none⟩ (.slice (some ⟨B + 3, 0, none⟩) (n + 1) (n + 1))) B (B + 3) n (.slice a n c) l 0 (.slice none 0 0) []) := by
    refine ⟨((hk2.trans hal (fun _ f _ => f)).trans hk4 (fun _ f _ => f)).trans kS (fun i e hi => by omega), blk_kept (blk_kept (blk_kept p1 hal (fun f => f)) hk4 (fun f => f)) kS (by omega), blk_kept (blk_kept (blk_kept p2 hal (fun f => f)) hk4 (fun f => f)) kS (by omega), by rw [blk_set g4]; rfl, ⟨hR4.kept kS (by omega), ⟨rfl, .inl ⟨rfl, rfl⟩⟩, fun i f c hf => by simp at hf, rfl, List.nodup_nil, by omega, (fun c hc => by cases hc), fun g e => by simp [Value.ownBlock] at e⟩, by omega, by omega⟩
  have c1 : w4.cell? ⟨B + 2, 1, none⟩ = some (.slice none 0 0) := (cell_of_heap g4 1).trans rfl
  have z1 := blk_free g4 1
  have HS2 : Hid _ := s2
  have d0 : w2.cell? ⟨B, 0, none⟩ = some (.slice a n c) := (cell_of_heap p1 0).trans rfl
  have HC : Hid (SeenF w a n l ∧ n = l.length ∧ ∀ f ∈ l, f.code.length * 40 ≤ 140737488351232) := ⟨hS, hn, hrc⟩
  have hnb : (n : Int) ≤ 4611686018427387904 := by omega
  rw [show ((n + 1 : Nat) : Int) = (n : Int) + 1 by omega] at hmk
  have HBE : Hid _ := hB
  clear hS hn hrc p1 p2 hk2 s2 hal p3 s3 hR4 hk4 kS g4
  go_enter Tryd.func16, Tryd.ntmps16
  go_upto_region 1 with fail
  rw [← hw2, ← hB]
  clear hw2 hB
  go_upto_region 3 with fail
  rw [← hw3, HS2.out]
  clear hw3
  go_upto_region 4 with (at_make; refine wpList_make_run rfl (.tmp 12) (.tmp 12) 23 rfl rfl rfl hmk ?_)
  generalize w4.setCell ⟨B + 2, 1, none⟩ (.slice (some ⟨B + 3, 0, none⟩) (n + 1) (n + 1)) = W at *
  clear hmk c1 z1 d0
  go_wp2_with fail
  go_loopw [5] (fun s5 wr => ∃ (k : Nat) (cv : Value) (cs : List Nat), k ≤ n ∧ s5 = .int .i64 k ∧ Wr w wr B (B + 3) n (.slice a n c) l k cv cs) (fun i _ => n - (intOf i).toNat)
  case atStart => exact ⟨0, .slice none 0 0, [], Nat.zero_le _, rfl, HS0.out⟩
  case round =>
    obtain ⟨k, cv, cs, hk, rfl, hT⟩ := hrel
    by_cases hkn : k < n
    · have d0 : wr.cell? ⟨B, 0, none⟩ = some (.slice a n c) := (cell_of_heap hT.box 0).trans rfl
      obtain ⟨b, off, f, ca, cc, rfl, hf, hat⟩ := (HC.out.1.more hT.keep).at hkn
      obtain ⟨y0, y1, y2, y3, hsn⟩ := hat
      have i1 : (k : Int) < (n : Int) := by omega
      have hsp := spare_any f ca cc wr hsn (HC.out.2.2 f (List.mem_of_getElem? hf)) _ rfl
      have HT : Hid (Wr w wr B (B + 3) n (.slice (some ⟨b, off, none⟩) n c) l k cv cs ∧ l[k]? = some f) := ⟨hT, hf⟩
      clear hT hf hsn
      go_wp2_with fail
      refine hsp.mono ?_
      rintro e w5 ⟨g, rfl, hC5, hk5, hg5⟩
      obtain ⟨m, hm⟩ : ∃ m, m = f.code.length := ⟨_, rfl⟩
      rw [← hm]
      have HM : Hid _ := hm
      have hT5 := HT.out.1.more hk5
      have hal := Keeps.alloc None w5 (.cells #[.int .i64 f.params, .int .i64 f.regs, .int .i64 f.slots, .slice (some ⟨g, 0, none⟩) m (m + 2)] 40)
      have hT6 := hT5.more hal
      have hC6 := hC5.kept hal (fun f => f)
      have hng : g ∉ cs := fun hin => by
        obtain ⟨i, hi, rfl⟩ := List.mem_iff_getElem.1 hin
        have hl2 := HT.out.1.gift.len
        have := blk_lt (HT.out.1.gift.code i ((l.take k)[i]'(by omega)) cs[i] (List.getElem?_eq_getElem _) (List.getElem?_eq_getElem _))
        omega
      have hlow : w.heap.size ≤ g := Nat.le_trans HT.out.1.keep.size hg5
      have hgB : B + 2 < g := by have := blk_lt HT.out.1.gb; omega
      obtain ⟨F, hF⟩ : ∃ F, F = w5.heap.size := ⟨_, rfl⟩
      have bF := heap_alloc_new w5 (.cells #[.int .i64 f.params, .int .i64 f.regs, .int .i64 f.slots, .slice (some ⟨g, 0, none⟩) m (m + 2)] 40)
      rw [← hF] at bF
      have HF : Hid _ := hF
      have H6 : Hid (Wr w (w5.alloc (.cells #[.int .i64 f.params, .int .i64 f.regs, .int .i64 f.slots, .slice (some ⟨g, 0, none⟩) m (m + 2)] 40)) B (B + 3) n (.slice (some ⟨b, off, none⟩) n c) l k cv cs ∧ IsC (w5.alloc (.cells #[.int .i64 f.params, .int .i64 f.regs, .int .i64 f.slots, .slice (some ⟨g, 0, none⟩) m (m + 2)] 40)) g (oddL f.code) ∧ g ∉ cs ∧ w.heap.size ≤ g ∧ B + 2 < g ∧ (w5.alloc (.cells #[.int .i64 f.params, .int .i64 f.regs, .int .i64 f.slots, .slice (some ⟨g, 0, none⟩) m (m + 2)] 40)).heap[F]? = some (.cells #[.int .i64 f.params, .int .i64 f.regs, .int .i64 f.slots, .slice (some ⟨g, 0, none⟩) m (m + 2)] 40 (0, 0))) := ⟨hT6, hC6, hng, hlow, hgB, bF⟩
      clear hT5 hT6 hC5 hC6 hk5 hg5 hng hlow hgB bF hal hm y0 y1 y2 y3 d0 hsp
      go_upto_region 8 with fail
      rw [← hF]
      clear hF
      obtain ⟨V, hV⟩ : ∃ V, V = w5.alloc (.cells #[.int .i64 f.params, .int .i64 f.regs, .int .i64 f.slots, .slice (some ⟨g, 0, none⟩) m (m + 2)] 40) := ⟨_, rfl⟩
      rw [← hV] at H6 ⊢
      clear hV
      have h6 := H6.out.1
      have q1 : V.cell? ⟨B + 2, 1, none⟩ = some (.slice (some ⟨B + 3, 0, none⟩) (n + 1) (n + 1)) := (cell_of_heap h6.gb 1).trans rfl
      have q2 : V.cell? ⟨B + 2, 2, none⟩ = some cv := (cell_of_heap h6.gb 2).trans rfl
      have f0 : V.cell? ⟨F, 0, none⟩ = some (.int .i64 f.params) := (cell_of_heap H6.out.2.2.2.2.2 0).trans rfl
      have f1 : V.cell? ⟨F, 1, none⟩ = some (.int .i64 f.regs) := (cell_of_heap H6.out.2.2.2.2.2 1).trans rfl
      have f2 : V.cell? ⟨F, 2, none⟩ = some (.int .i64 f.slots) := (cell_of_heap H6.out.2.2.2.2.2 2).trans rfl
      have f3 : V.cell? ⟨F, 3, none⟩ = some (.slice (some ⟨g, 0, none⟩) m (m + 2)) := (cell_of_heap H6.out.2.2.2.2.2 3).trans rfl
      have hzl : (List.zipWith gfCells (l.take k) cs ++ List.replicate (n + 1 - k) zeroFc)[k]? = some zeroFc := by
        have hl2 := h6.gift.len
        have hln := HC.out.2.1
        have ht : (l.take k).length = k := by simp; omega
        rw [List.getElem?_append_right (by rw [List.length_zipWith]; omega), List.length_zipWith, List.getElem?_replicate, if_pos (by omega)]
      obtain ⟨r0, r1, r2, r3⟩ := h6.gift.fb.at (k := k) (a := .int .i64 0) (b := .int .i64 0) (c := .int .i64 0) (d := .slice none 0 0) hzl
      have t0 := h6.gift.fb.free (k * 4)
      have t1 := h6.gift.fb.free (k * 4 + 1)
      have t2 := h6.gift.fb.free (k * 4 + 2)
      have t3 := h6.gift.fb.free (k * 4 + 3)
      have i2 : (k : Int) < ((n + 1 : Nat) : Int) := by omega
      clear h6 hzl
      go_upto_region 9 with fail
      have k4 := set4_keeps V (B + 3) (k * 4) (.int .i64 f.params) (.int .i64 f.regs) (.int .i64 f.slots) (.slice (some ⟨g, 0, none⟩) m (m + 2))
      have hrow := k4.own H6.out.1.gift.codes (fun q e r => absurd (own_type H6.out.1.gift.codes e (r ▸ H6.out.1.gift.fb.blk)) (by decide))
      have q2' := k4.cell q2 (by show ¬ B + 2 = B + 3; omega)
      have hcl : (l.take k).length = k := by have := HC.out.2.1; simp; omega
      rw [hcl] at hrow
      obtain ⟨S4, hS4⟩ : ∃ S4, S4 = set4 V (B + 3) (k * 4) (.int .i64 f.params) (.int .i64 f.regs) (.int .i64 f.slots) (.slice (some ⟨g, 0, none⟩) m (m + 2)) := ⟨_, rfl⟩
      change Code.wp _ _ _ _ (set4 V (B + 3) (k * 4) (.int .i64 f.params) (.int .i64 f.regs) (.int .i64 f.slots) (.slice (some ⟨g, 0, none⟩) m (m + 2)))
      rw [← hS4] at hrow q2' ⊢
      have hrow2 := hrow.alloc (.cells #[.slice (some ⟨g, 0, none⟩) (m + 2) (m + 2)] 38)
      obtain ⟨b2, cap2, w7, hrn, ho7, hk7, hg7⟩ := code_append cv (List.zipWith gcV (l.take k) cs) (.slice (some ⟨g, 0, none⟩) (m + 2) (m + 2)) k S4.heap.size 44 (S4.alloc (.cells #[.slice (some ⟨g, 0, none⟩) (m + 2) (m + 2)] 38)) (by rw [List.length_zipWith, hcl]; have := H6.out.1.gift.len; rw [hcl] at this; omega) rfl hrow2 (by omega) (heap_alloc_new _ _)
      have hnx := H6.out.1.next (o := .cells #[.slice (some ⟨g, 0, none⟩) (m + 2) (m + 2)] 38) (w2 := w7) (b := b2) (cap := cap2) HT.out.2 hkn H6.out.2.1 H6.out.2.2.1 H6.out.2.2.2.1 H6.out.2.2.2.2.1 (by rw [← HM.out, ← hS4]; exact hk7) (by unfold gcV at *; rw [← HM.out]; exact ho7) (by rw [← HM.out, ← hS4]; rcases hg7 with e | e; exact .inl e; simp only [World.size_alloc] at e; exact .inr (by omega))
      obtain ⟨u1, u2, hnx⟩ := hnx
      have HX : Hid _ := hnx
      clear hnx hrow hrow2 ho7 hk7 hg7 k4 hS4 hcl f0 f1 f2 f3 r0 r1 r2 r3 t0 t1 t2 t3 q1 q2
      go_wp2_with (at_builtin; refine wpList_append_run rfl (.tmp 35) (.tmp 37) 44 44 rfl rfl rfl hrn ?_)
      exact ⟨⟨k + 1, _, _, by omega, by simp, HX.out⟩, by simp [intOf]; omega⟩
    · have hkn2 : k = n := by omega
      subst hkn2
      have i1 : ¬ (k : Int) < (k : Int) := by omega
      have hlt : l.take k = l := List.take_of_length_le (by have := HC.out.2.1; omega)
      obtain ⟨xa, xm, xc, hcv⟩ : ∃ xa xm xc, cv = .slice xa xm xc := by
        rcases hT.gift.codes.2 with ⟨rfl, h0⟩ | ⟨g, cap, cur, rfl, _⟩
        · exact ⟨none, 0, 0, rfl⟩
        · exact ⟨_, _, cap, rfl⟩
      subst hcv
      have hgf := hT.gift
      rw [hlt, show k + 1 - k = 1 by omega] at hgf
      have hzl2 : (List.zipWith gfCells l cs).length = k := by rw [List.length_zipWith]; have := hgf.len; have := HC.out.2.1; omega
      have hzl : (List.zipWith gfCells l cs ++ List.replicate 1 zeroFc)[k]? = some zeroFc := by
        rw [List.getElem?_append_right (by omega), hzl2, Nat.sub_self]; rfl
      have hst : (List.zipWith gfCells l cs ++ List.replicate 1 zeroFc).set k [.int .i64 (-5), .int .i64 0, .int .i64 0, .slice none 0 0] = List.zipWith gfCells l cs ++ [oddFc] := by
        rw [List.set_append_right _ _ (by omega), hzl2, Nat.sub_self]; rfl
      obtain ⟨r0, r1, r2, r3⟩ := hgf.fb.at (k := k) (a := .int .i64 0) (b := .int .i64 0) (c := .int .i64 0) (d := .slice none 0 0) hzl
      have t0 := hgf.fb.free (k * 4)
      have t1 := hgf.fb.free (k * 4 + 1)
      have t2 := hgf.fb.free (k * 4 + 2)
      have t3 := hgf.fb.free (k * 4 + 3)
      have i2 : (k : Int) < ((k + 1 : Nat) : Int) := by omega
      have i3 : (k : Int) ≤ ((k + 1 : Nat) : Int) := by omega
      have q1 : wr.cell? ⟨B + 2, 1, none⟩ = some (.slice (some ⟨B + 3, 0, none⟩) (k + 1) (k + 1)) := (cell_of_heap hT.gb 1).trans rfl
      have fb4 := hgf.fb.set k (by rw [List.length_append, hzl2]; simp) (.int .i64 (-5)) (.int .i64 0) (.int .i64 0) (.slice none 0 0)
      rw [hst] at fb4
      have k4 := set4_keeps wr (B + 3) (k * 4) (.int .i64 (-5)) (.int .i64 0) (.int .i64 0) (.slice none 0 0)
      have hbn : ∀ {cc : Array Value} {T : TypeId} {p : Nat}, T ≠ 38 → wr.heap[p]? = some (.cells cc T (0, 0)) → ¬ (Value.slice xa xm xc).ownBlock = some p := fun hTT hp e => hTT ((own_type hgf.codes e hp).symm ▸ rfl)
      have gb4 := blk_kept hT.gb k4 (by omega)
      have rs4 := blk_kept hT.res k4 (by omega)
      have g4 : IsGift w.heap.size (set4 wr (B + 3) (k * 4) (.int .i64 (-5)) (.int .i64 0) (.int .i64 0) (.slice none 0 0)) (B + 3) (.slice xa xm xc) cs l [oddFc] :=
        ⟨fb4, k4.own hgf.codes (fun q e r => hbn (by decide) hgf.fb.blk (r ▸ e)), fun i f c' hf hc => (hgf.code i f c' hf hc).kept k4 (blk_ne (hgf.code i f c' hf hc) hgf.fb.blk (by decide)), hgf.len, hgf.nodup, hgf.lowG, hgf.lowC, hgf.lowV⟩
      have H4 : Hid (IsGift w.heap.size (set4 wr (B + 3) (k * 4) (.int .i64 (-5)) (.int .i64 0) (.int .i64 0) (.slice none 0 0)) (B + 3) (.slice xa xm xc) cs l [oddFc] ∧ (set4 wr (B + 3) (k * 4) (.int .i64 (-5)) (.int .i64 0) (.int .i64 0) (.slice none 0 0)).heap[B + 2]? = some (.cells #[.slice none 0 0, .slice (some ⟨B + 3, 0, none⟩) (k + 1) (k + 1), (.slice xa xm xc)] 46 (0, 0)) ∧ (set4 wr (B + 3) (k * 4) (.int .i64 (-5)) (.int .i64 0) (.int .i64 0) (.slice none 0 0)).heap[B + 1]? = some (.cells #[.slice none 0 0, .slice none 0 0, .slice none 0 0] 46 (0, 0)) ∧ Keeps None w (set4 wr (B + 3) (k * 4) (.int .i64 (-5)) (.int .i64 0) (.int .i64 0) (.slice none 0 0)) ∧ w.heap.size ≤ B) := ⟨g4, gb4, rs4, hT.keep.trans k4 (fun i e hi => by have := hT.hB; omega), hT.hB⟩
      clear hT hlt hgf hzl2 hzl hst fb4 k4 gb4 rs4 g4
      go_upto_region 11 with fail
      obtain ⟨V, hV⟩ : ∃ V, V = set4 wr (B + 3) (k * 4) (.int .i64 (-5)) (.int .i64 0) (.int .i64 0) (.slice none 0 0) := ⟨_, rfl⟩
      change Code.wp _ _ _ _ (set4 wr (B + 3) (k * 4) (.int .i64 (-5)) (.int .i64 0) (.int .i64 0) (.slice none 0 0))
      rw [← hV] at H4 ⊢
      clear hV r0 r1 r2 r3 t0 t1 t2 t3 q1
      obtain ⟨g4, gb4, rs4, hk4, hBw⟩ := H4.out
      have q0 : V.cell? ⟨B + 2, 0, none⟩ = some (.slice none 0 0) := (cell_of_heap gb4 0).trans rfl
      have q1 : V.cell? ⟨B + 2, 1, none⟩ = some (.slice (some ⟨B + 3, 0, none⟩) (k + 1) (k + 1)) := (cell_of_heap gb4 1).trans rfl
      have z0 := blk_free gb4 0
      have kS : Keeps (· = B + 2) V (V.setCell ⟨B + 2, 0, none⟩ (.slice (some ⟨B + 3, 0, none⟩) k (k + 1))) := Keeps.setCell (S := (· = B + 2)) V rfl _
      have gb5 := blk_set (i := 0) gb4 (.slice (some ⟨B + 3, 0, none⟩) k (k + 1))
      have rs5 := blk_kept rs4 kS (by omega)
      have keepG : ∀ (p : Nat) (V' V'' : World) (_ : Keeps (· = p) V' V'') (_ : ∃ cc, V'.heap[p]? = some (.cells cc 46 (0, 0))), IsGift w.heap.size V' (B + 3) (.slice xa xm xc) cs l [oddFc] → IsGift w.heap.size V'' (B + 3) (.slice xa xm xc) cs l [oddFc] := by
        rintro p V' V'' hk ⟨cc, hp⟩ hg
        refine ⟨hg.fb.kept hk (blk_ne hg.fb.blk hp (by decide)), hk.own hg.codes (fun q e r => absurd (own_type hg.codes e (r ▸ hp)) (by decide)), fun i f c' hf hc => (hg.code i f c' hf hc).kept hk (blk_ne (hg.code i f c' hf hc) hp (by decide)), hg.len, hg.nodup, hg.lowG, hg.lowC, hg.lowV⟩
      have g5 := keepG _ _ _ kS ⟨_, gb4⟩ g4
      have kR : Keeps (· = B + 1) (V.setCell ⟨B + 2, 0, none⟩ (.slice (some ⟨B + 3, 0, none⟩) k (k + 1))) _ := (((Keeps.refl (· = B + 1) _).andSet (x := ⟨B + 1, 0, none⟩) (.inl rfl) (.slice (some ⟨B + 3, 0, none⟩) k (k + 1))).andSet (x := ⟨B + 1, 1, none⟩) (.inl rfl) (.slice (some ⟨B + 3, 0, none⟩) (k + 1) (k + 1))).andSet (x := ⟨B + 1, 2, none⟩) (.inl rfl) (.slice xa xm xc)
      have g6 := keepG _ _ _ kR ⟨_, rs5⟩ g5
      have rs6 := blk_set (i := 2) (blk_set (i := 1) (blk_set (i := 0) rs5 (.slice (some ⟨B + 3, 0, none⟩) k (k + 1))) (.slice (some ⟨B + 3, 0, none⟩) (k + 1) (k + 1))) (.slice xa xm xc)
      have HQ : Hid (_ ∧ _ ∧ _) := And.intro rs6 (And.intro g6 ((hk4.trans kS (fun i e hi => by omega)).trans kR (fun i e hi => by omega)))
      have v0 : (V.setCell ⟨B + 2, 0, none⟩ (.slice (some ⟨B + 3, 0, none⟩) k (k + 1))).cell? ⟨B + 2, 0, none⟩ = some (.slice (some ⟨B + 3, 0, none⟩) k (k + 1)) := (cell_of_heap gb5 0).trans rfl
      have v1 : (V.setCell ⟨B + 2, 0, none⟩ (.slice (some ⟨B + 3, 0, none⟩) k (k + 1))).cell? ⟨B + 2, 1, none⟩ = some (.slice (some ⟨B + 3, 0, none⟩) (k + 1) (k + 1)) := (cell_of_heap gb5 1).trans rfl
      have v2 : (V.setCell ⟨B + 2, 0, none⟩ (.slice (some ⟨B + 3, 0, none⟩) k (k + 1))).cell? ⟨B + 2, 2, none⟩ = some (.slice xa xm xc) := (cell_of_heap gb5 2).trans rfl
      have x0 : (V.setCell ⟨B + 2, 0, none⟩ (.slice (some ⟨B + 3, 0, none⟩) k (k + 1))).cell? ⟨B + 1, 0, none⟩ = some (.slice none 0 0) := (cell_of_heap rs5 0).trans rfl
      have x1 : (V.setCell ⟨B + 2, 0, none⟩ (.slice (some ⟨B + 3, 0, none⟩) k (k + 1))).cell? ⟨B + 1, 1, none⟩ = some (.slice none 0 0) := (cell_of_heap rs5 1).trans rfl
      have x2 : (V.setCell ⟨B + 2, 0, none⟩ (.slice (some ⟨B + 3, 0, none⟩) k (k + 1))).cell? ⟨B + 1, 2, none⟩ = some (.slice none 0 0) := (cell_of_heap rs5 2).trans rfl
      have w0 := blk_free rs5 0
      have w1 := blk_free rs5 1
      have w2' := blk_free rs5 2
      clear g4 gb4 rs4 hk4 gb5 rs5 keepG g5 kR g6 rs6 kS
      go_upto_region 12 with fail
      generalize (V.setCell ⟨B + 2, 0, none⟩ (.slice (some ⟨B + 3, 0, none⟩) k (k + 1))) = Z at *
      clear q0 q1 z0
      go_wp2_with fail
      exact bodyPost_ret (results_one (q := 2) (ty := 46) rfl rfl (load_gift _ _ _ (.slice (some ⟨B + 3, 0, none⟩) k (k + 1)) (.slice (some ⟨B + 3, 0, none⟩) (k + 1) (k + 1)) (.slice xa xm xc) HQ.out.1)) rfl ⟨B + 3, (.slice xa xm xc), rfl, ⟨cs, HQ.out.2.1⟩, HQ.out.2.2⟩
end Go.Proofs.YtcjmceedkfjbeaaDoor
