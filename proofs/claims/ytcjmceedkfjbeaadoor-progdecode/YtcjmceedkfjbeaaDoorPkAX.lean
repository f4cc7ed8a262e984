import Derived.Test.YtcjmceedkfjbeaaDoorPkAW
/-! turnedAll. -/
namespace Go.Proofs.YtcjmceedkfjbeaaDoor
set_option linter.unusedVariables false
set_option maxRecDepth 20000
open Go.RowKit Go.HeapKit

abbrev At := Option Addr × Nat
def tfCells (f : Fn) (t : At) : List Value := [.int .i64 f.params, .int .i64 f.regs, .int .i64 f.slots, .slice t.1 f.code.length t.2]
theorem turn_len (f : Fn) : (turnF f).code.length = f.code.length := by simp [turnF]
theorem fn_append (v : Value) (R : List (List Value)) (p r s x : Value) (n g ty : Nat) (w : World) (hn : n = R.length) (h1 : p.oneCell' = true ∧ r.oneCell' = true ∧ s.oneCell' = true ∧ x.oneCell' = true) (h : w.ownsRow 0 40 4 v n R.flatten) (hlen : (n + 1) * 48 ≤ 140737488355328)
    (hg : w.heap[g]? = some (.cells #[p, r, s, x] 40 (0, 0))) :
    ∃ b cap w', (Builtin.append_ #[23, 23] ty #[v, .slice (some ⟨g, 0, none⟩) 1 1]).run Tryd.prog w = .ok (.slice (some ⟨b, 0, none⟩) (n + 1) cap) w' ∧
      w'.ownsRow 0 40 4 (.slice (some ⟨b, 0, none⟩) (n + 1) cap) (n + 1) (R ++ [[p, r, s, x]]).flatten ∧ Keeps (fun k => v.ownBlock = some k) w w' ∧ (v.ownBlock = some b ∨ w.heap.size ≤ b) := by
  obtain ⟨i0, hi, hz0, hz1, hz2⟩ := info_parts Tryd.infoFn
  obtain ⟨v', w', hr, ho, hgr, hm, -⟩ := run_append_moved (P := Tryd.prog) w 0 23 ty 40 i0 _ 4 48 Tryd.underlying23 hi hz0 hz1 hz2 rfl (by decide) v n R.flatten h
    ⟨g, 0, none⟩ 1 1 [p, r, s, x] rfl (by
      intro j u hu
      rw [show (⟨g, 0, none⟩ : Addr).add j = ⟨g, j, none⟩ by unfold Addr.add; split <;> simp_all, blk_cell hg]
      simpa using hu) (by
      intro u hu
      simp at hu
      obtain ⟨q1, q2, q3, q4⟩ := h1
      rcases hu with rfl | rfl | rfl | rfl
      · exact q1
      · exact q2
      · exact q3
      · exact q4) (by unfold maxLen; omega) (by omega) (Nat.zero_le _)
  have e : (R ++ [[p, r, s, x]]).flatten = R.flatten ++ [p, r, s, x] := by simp
  rw [e]
  rcases ho.2 with ⟨_, h0⟩ | ⟨b, cap, cur, rfl, _⟩
  · omega
  · refine ⟨b, cap, w', hr, ho, (Keeps.refl _ w).andGrown hgr (fun k e => .inl e), ?_⟩
    rcases hm with hm | ⟨g', e, hg⟩
    · exact .inl (hm.symm.trans rfl)
    · simp [Value.ownBlock] at e; exact .inr (by omega)
structure Ta (w wr : World) (B : Nat) (pv : Value) (l : List Fn) (k : Nat) (qv : Value) (tv : List At) : Prop where
  keep : Keeps None w wr
  box : wr.heap[B]? = some (.cells #[pv] 25 (0, 0))
  res : wr.heap[B + 1]? = some (.cells #[.slice none 0 0] 25 (0, 0))
  qb : wr.heap[B + 2]? = some (.cells #[qv] 25 (0, 0))
  row : wr.ownsRow 0 40 4 qv k (List.zipWith tfCells (l.take k) tv).flatten
  code : ∀ (i : Nat) (f : Fn) (t : At), (l.take k)[i]? = some f → tv[i]? = some t → wr.ownsRow 0 42 5 (.slice t.1 f.code.length t.2) f.code.length (insVals (turnF f).code)
  len : tv.length = k
  low : ∀ g, qv.ownBlock = some g → w.heap.size ≤ g
  hB : w.heap.size ≤ B
theorem Ta.more {w wr w' : World} {B : Nat} {pv : Value} {l : List Fn} {k : Nat} {qv : Value} {tv : List At} (h : Ta w wr B pv l k qv tv) (hk : Keeps None wr w') : Ta w w' B pv l k qv tv :=
  ⟨h.keep.trans hk (fun _ f _ => f), blk_kept h.box hk (fun f => f), blk_kept h.res hk (fun f => f), blk_kept h.qb hk (fun f => f), hk.own h.row (fun _ _ f => f), fun i f t hf ht => hk.own (h.code i f t hf ht) (fun _ _ f => f), h.len, h.low, h.hB⟩
theorem Ta.next {w wr w2 : World} {B : Nat} {pv : Value} {l : List Fn} {k : Nat} {qv : Value} {tv : List At} {f : Fn} {t : At} {b cap : Nat} (h : Ta w wr B pv l k qv tv) (hf : l[k]? = some f) (hC : wr.ownsRow 0 42 5 (.slice t.1 f.code.length t.2) f.code.length (insVals (turnF f).code))
    (hk2 : Keeps (fun k => qv.ownBlock = some k) wr w2) (ho2 : w2.ownsRow 0 40 4 (.slice (some ⟨b, 0, none⟩) (k + 1) cap) (k + 1) (List.zipWith tfCells (l.take k) tv ++ [tfCells f t]).flatten) (hg2 : qv.ownBlock = some b ∨ wr.heap.size ≤ b) :
    w2.cell? ⟨B + 2, 0, none⟩ = some qv ∧ w2.frozen? ⟨B + 2, 0, none⟩ = false ∧ Ta w (w2.setCell ⟨B + 2, 0, none⟩ (.slice (some ⟨b, 0, none⟩) (k + 1) cap)) B pv l (k + 1) (.slice (some ⟨b, 0, none⟩) (k + 1) cap) (tv ++ [t]) := by
  have hlk := (List.getElem?_eq_some_iff.1 hf).1
  have ht : (l.take k).length = k := by simp; omega
  have hfun : ∀ {c : Array Value} {T : TypeId} {p : Nat}, T ≠ 40 → wr.heap[p]? = some (.cells c T (0, 0)) → ¬ qv.ownBlock = some p := fun hT hp e => hT ((own_type h.row e hp).symm ▸ rfl)
  have qb2 := blk_kept h.qb hk2 (hfun (by decide) h.qb)
  have kS : Keeps (· = B + 2) w2 (w2.setCell ⟨B + 2, 0, none⟩ (.slice (some ⟨b, 0, none⟩) (k + 1) cap)) := Keeps.setCell (S := (· = B + 2)) w2 rfl _
  have hbB : b ≠ B + 2 := by
    rintro rfl
    have := own_type ho2 (g := B + 2) rfl qb2
    exact absurd this (by decide)
  have hB := h.hB
  have hcode : ∀ (v : Value) (m : Nat) (xs : List Value), wr.ownsRow 0 42 5 v m xs → (w2.setCell ⟨B + 2, 0, none⟩ (.slice (some ⟨b, 0, none⟩) (k + 1) cap)).ownsRow 0 42 5 v m xs := by
    intro v m xs hv
    have h1 := hk2.own hv (fun g e q => by
      obtain ⟨c, hc⟩ := own_block hv e
      exact hfun (by decide) hc q)
    exact kS.own h1 (fun g e q => absurd (own_type h1 e (q ▸ qb2)) (by decide))
  refine ⟨(blk_cell qb2 0).trans rfl, blk_free qb2 0, ⟨(h.keep.trans hk2 (fun i e hi => by have := h.low i e; omega)).trans kS (fun i e hi => by omega), blk_kept (blk_kept h.box hk2 (hfun (by decide) h.box)) kS (by omega), blk_kept (blk_kept h.res hk2 (hfun (by decide) h.res)) kS (by omega), by rw [blk_set qb2]; rfl, ?_, ?_, ?_, ?_, h.hB⟩⟩
  · have e : List.zipWith tfCells (l.take (k + 1)) (tv ++ [t]) = List.zipWith tfCells (l.take k) tv ++ [tfCells f t] := by
      rw [take_snoc l k f hf, List.zipWith_append (by rw [h.len, ht])]
      simp
    rw [e]
    exact kS.own ho2 (fun g e q => by simp [Value.ownBlock] at e; exact hbB (e.trans q))
  · intro i f' t' hi hc
    rw [take_snoc l k f hf] at hi
    by_cases hik : i < k
    · rw [List.getElem?_append_left (by omega)] at hi
      rw [List.getElem?_append_left (by rw [h.len]; omega)] at hc
      exact hcode _ _ _ (h.code i f' t' hi hc)
    · have hlt := (List.getElem?_eq_some_iff.1 hi).1
      simp only [List.length_append, ht, List.length_cons, List.length_nil] at hlt
      obtain rfl : i = k := by omega
      rw [List.getElem?_append_right (by omega), ht, Nat.sub_self] at hi
      rw [List.getElem?_append_right (by rw [h.len]; omega), h.len, Nat.sub_self] at hc
      simp at hi hc
      subst hi hc
      exact hcode _ _ _ hC
  · rw [List.length_append, h.len]; rfl
  · intro g e
    simp [Value.ownBlock] at e
    subst e
    rcases hg2 with r | r
    · exact h.low _ r
    · have := h.keep.size; omega
theorem rows_seen {wr : World} {l : List Fn} {k : Nat} {qv : Value} {tv : List At} (hrow0 : wr.ownsRow 0 40 4 qv k (List.zipWith tfCells (l.take k) tv).flatten) (hcode : ∀ (i : Nat) (f : Fn) (t : At), (l.take k)[i]? = some f → tv[i]? = some t → wr.ownsRow 0 42 5 (.slice t.1 f.code.length t.2) f.code.length (insVals (turnF f).code)) (hlen : tv.length = k) (hk : k = l.length) : ∃ a c, qv = .slice a k c ∧ SeenF wr a k (l.map turnF) := by
  have hlt : l.take k = l := List.take_of_length_le (by omega)
  have hrow := hrow0
  rw [hlt] at hrow
  have four : ∀ r ∈ List.zipWith tfCells l tv, r.length = 4 := fun r hr => by
    obtain ⟨i, hi, rfl⟩ := List.mem_iff_getElem.1 hr
    rw [List.getElem_zipWith]
    rfl
  rcases hrow.2 with ⟨rfl, h0⟩ | ⟨g, cap, cur, rfl, hb, hg, hn, hm, hc, ht⟩
  · exact ⟨none, 0, by rw [h0], ⟨by simp; omega, fun h => by omega⟩⟩
  · refine ⟨_, cap, rfl, ⟨by simp; omega, fun _ => ⟨g, 0, rfl, blk_lt hg, fun i f' hf' => ?_⟩⟩⟩
    rw [List.getElem?_map] at hf'
    obtain ⟨f, hf, rfl⟩ := Option.map_eq_some_iff.1 hf'
    have hi := (List.getElem?_eq_some_iff.1 hf).1
    obtain ⟨t, hti⟩ : ∃ t, tv[i]? = some t := ⟨tv[i]'(by rw [hlen]; omega), by simp⟩
    have hz := zip_at tfCells l tv i f t hf hti
    have hcell : ∀ j, j < 4 → wr.cell? ⟨g, 0 + i * 4 + j, none⟩ = (tfCells f t)[j]? := fun j hj => by
      have h1 := flat4_at _ four i _ hz j hj
      rw [blk_cell hg, ← h1, ← ht, List.getElem?_take, if_pos (by omega), Nat.zero_add]
      simp
    have hcd := hcode i f t (by rw [hlt]; exact hf) hti
    have hcd2 : wr.ownsRow 0 42 5 (.slice t.1 f.code.length t.2) (turnF f).code.length (insVals (turnF f).code) := by rw [turn_len]; exact hcd
    obtain ⟨ca, cc, hv, hsn⟩ := codes_seen hcd2
    rw [turn_len] at hv hsn
    injection hv with e1 e2 e3
    have q3 : wr.cell? ⟨g, 0 + i * 4 + 3, none⟩ = some (.slice t.1 f.code.length t.2) := hcell 3 (by omega)
    refine ⟨t.1, t.2, ⟨hcell 0 (by omega), hcell 1 (by omega), hcell 2 (by omega), by rw [turn_len]; exact q3, by rw [turn_len, e1]; exact hsn⟩⟩
theorem Ta.seen {w wr : World} {B : Nat} {pv : Value} {l : List Fn} {k : Nat} {qv : Value} {tv : List At} (h : Ta w wr B pv l k qv tv) (hk : k = l.length) : ∃ a c, qv = .slice a k c ∧ SeenF wr a k (l.map turnF) := rows_seen h.row h.code h.len hk
def TurnedPost (w : World) (l : List Fn) (n : Nat) (e : Ending) (w' : World) : Prop := ∃ a c, e = .returned (.agg #[.slice a n c]) ∧ SeenF w' a n (l.map turnF) ∧ Keeps None w w'
set_option maxHeartbeats 2000000 in
theorem turnedAll_any (a : Option Addr) (n c : Nat) (l : List Fn) (w : World) (hS : SeenF w a n l) (hr : n * 48 ≤ 140737488351232) (hrc : ∀ f ∈ l, f.code.length * 40 ≤ 140737488351232) :
    Calls Tryd.prog 33 #[.agg #[.slice a n c]] w (TurnedPost w l n) := by
  have hn := hS.len
  obtain ⟨B, hB⟩ : ∃ B, B = w.heap.size := ⟨_, rfl⟩
  obtain ⟨p1, p2⟩ := two_boxes w #[.slice a n c] #[.slice none 0 0] 25 25
  have hk2 := keeps2 w (.cells #[.slice a n c] 25) (.cells #[.slice none 0 0] 25)
  have s2 : ((w.alloc (.cells #[.slice a n c] 25)).alloc (.cells #[.slice none 0 0] 25)).heap.size = B + 2 := by rw [hB]; simp
  obtain ⟨w2, hw2⟩ : ∃ w2, w2 = (w.alloc (.cells #[.slice a n c] 25)).alloc (.cells #[.slice none 0 0] 25) := ⟨_, rfl⟩
  rw [← hw2] at p1 p2 hk2 s2
  rw [← hB] at p1 p2
  have hal := Keeps.alloc None w2 (.cells #[.slice none 0 0] 25)
  have p3 := heap_alloc_new w2 (.cells #[.slice none 0 0] 25)
  rw [s2] at p3
  have HS0 : Hid (Ta w (w2.alloc (.cells #[.slice none 0 0] 25)) B (.slice a n c) l 0 (.slice none 0 0) []) :=
    ⟨hk2.trans hal (fun _ f _ => f), blk_kept p1 hal (fun f => f), blk_kept p2 hal (fun f => f), p3, ⟨rfl, .inl ⟨rfl, rfl⟩⟩, fun i f t hf => by simp at hf, rfl, fun g e => by simp [Value.ownBlock] at e, by omega⟩
  have HC : Hid (SeenF w a n l ∧ n = l.length ∧ ∀ f ∈ l, f.code.length * 40 ≤ 140737488351232) := ⟨hS, hn, hrc⟩
  have hnb : (n : Int) ≤ 4611686018427387904 := by omega
  have HS2 : Hid _ := s2
  have HP : Hid (∀ e w', (∃ a c, e = .returned (.agg #[.slice a n c]) ∧ SeenF w' a n (l.map turnF) ∧ Keeps None w w') → TurnedPost w l n e w') := fun e w' h => h
  clear hS hn hrc p1 p2 hk2 s2 hal p3
  go_enter Tryd.func33, Tryd.ntmps33
  go_upto_region 1 with fail
  rw [← hw2, ← hB]
  clear hw2 hB
  go_upto_region 2 with fail
  rw [HS2.out]
  generalize w2.alloc (.cells #[.slice none 0 0] 25) = W at *
  go_wp2_with fail
  go_loopw [4] (fun s4 wr => ∃ (k : Nat) (qv : Value) (tv : List At), k ≤ n ∧ s4 = .int .i64 k ∧ Ta w wr B (.slice a n c) l k qv tv) (fun i _ => n - (intOf i).toNat)
  case atStart => exact ⟨0, .slice none 0 0, [], Nat.zero_le _, rfl, HS0.out⟩
  case round =>
    obtain ⟨k, qv, tv, hk, rfl, hT⟩ := hrel
    have d0 : wr.cell? ⟨B, 0, none⟩ = some (.slice a n c) := (cell_of_heap hT.box 0).trans rfl
    by_cases hkn : k < n
    · obtain ⟨b, off, f, ca, cc, rfl, hf, hat⟩ := (HC.out.1.more hT.keep).at hkn
      obtain ⟨y0, y1, y2, y3, hsn⟩ := hat
      have i1 : (k : Int) < (n : Int) := by omega
      have hsp := turned_any f ca cc wr hsn (HC.out.2.2 f (List.mem_of_getElem? hf))
      unfold fnV at hsp
      rw [turn_len] at hsp
      have HT : Hid (Ta w wr B (.slice (some ⟨b, off, none⟩) n c) l k qv tv ∧ l[k]? = some f) := ⟨hT, hf⟩
      obtain ⟨m, hm⟩ : ∃ m, m = f.code.length := ⟨_, rfl⟩
      rw [← hm] at hsp y3
      have HM : Hid _ := hm
      clear hT hf hsn hm
      go_wp2_with fail
      refine hsp.mono ?_
      rintro e w5 ⟨ca', cc', rfl, ho5, hk5, hl5⟩
      have hT5 := HT.out.1.more hk5
      have hal := Keeps.alloc None w5 (.cells #[.int .i64 f.params, .int .i64 f.regs, .int .i64 f.slots, .slice ca' m cc'] 40)
      have bF := heap_alloc_new w5 (.cells #[.int .i64 f.params, .int .i64 f.regs, .int .i64 f.slots, .slice ca' m cc'] 40)
      have hT6 := hT5.more hal
      have ho6 := hal.own ho5 (fun _ _ f => f)
      obtain ⟨F, hF⟩ : ∃ F, F = w5.heap.size := ⟨_, rfl⟩
      rw [← hF] at bF
      have H6 : Hid (Ta w (w5.alloc (.cells #[.int .i64 f.params, .int .i64 f.regs, .int .i64 f.slots, .slice ca' m cc'] 40)) B (.slice (some ⟨b, off, none⟩) n c) l k qv tv ∧ (w5.alloc (.cells #[.int .i64 f.params, .int .i64 f.regs, .int .i64 f.slots, .slice ca' m cc'] 40)).ownsRow 0 42 5 (.slice ca' m cc') m (insVals (turnF f).code) ∧ (w5.alloc (.cells #[.int .i64 f.params, .int .i64 f.regs, .int .i64 f.slots, .slice ca' m cc'] 40)).heap[F]? = some (.cells #[.int .i64 f.params, .int .i64 f.regs, .int .i64 f.slots, .slice ca' m cc'] 40 (0, 0))) := ⟨hT6, ho6, bF⟩
      clear hT5 hT6 ho5 ho6 hk5 hl5 hal bF y0 y1 y2 y3 d0 hsp
      go_upto_region 6 with fail
      change Code.wp _ _ _ _ (w5.alloc (.cells #[.int .i64 f.params, .int .i64 f.regs, .int .i64 f.slots, .slice ca' m cc'] 40))
      rw [← hF]
      clear hF
      generalize w5.alloc (.cells #[.int .i64 f.params, .int .i64 f.regs, .int .i64 f.slots, .slice ca' m cc'] 40) = V at *
      have q0 : V.cell? ⟨B + 2, 0, none⟩ = some qv := (cell_of_heap H6.out.1.qb 0).trans rfl
      have f0 : V.cell? ⟨F, 0, none⟩ = some (.int .i64 f.params) := (cell_of_heap H6.out.2.2 0).trans rfl
      have f1 : V.cell? ⟨F, 1, none⟩ = some (.int .i64 f.regs) := (cell_of_heap H6.out.2.2 1).trans rfl
      have f2 : V.cell? ⟨F, 2, none⟩ = some (.int .i64 f.slots) := (cell_of_heap H6.out.2.2 2).trans rfl
      have f3 : V.cell? ⟨F, 3, none⟩ = some (.slice ca' m cc') := (cell_of_heap H6.out.2.2 3).trans rfl
      have hal2 := Keeps.alloc None V (.cells #[.int .i64 f.params, .int .i64 f.regs, .int .i64 f.slots, .slice ca' m cc'] 40)
      have hT7 := H6.out.1.more hal2
      have ho7 := hal2.own H6.out.2.1 (fun _ _ f => f)
      have hln := HC.out.2.1
      have hcl : (l.take k).length = k := by simp; omega
      obtain ⟨b2, cap2, w7, hrn, hoo, hkk, hgg⟩ := fn_append qv (List.zipWith tfCells (l.take k) tv) (.int .i64 f.params) (.int .i64 f.regs) (.int .i64 f.slots) (.slice ca' m cc') k V.heap.size 23 (V.alloc (.cells #[.int .i64 f.params, .int .i64 f.regs, .int .i64 f.slots, .slice ca' m cc'] 40)) (by rw [List.length_zipWith, hcl, hT7.len]; omega) ⟨rfl, rfl, rfl, rfl⟩ hT7.row (by omega) (heap_alloc_new _ _)
      obtain ⟨u1, u2, hnx⟩ := hT7.next (t := (ca', cc')) HT.out.2 (by rw [← HM.out]; exact ho7) hkk (by unfold tfCells at *; rw [← HM.out]; exact hoo) hgg
      have HX : Hid _ := hnx
      clear hnx hT7 ho7 hal2 hoo hkk hgg hcl hln
      go_wp2_with (at_builtin; refine wpList_append_run rfl (.tmp 20) (.tmp 22) 23 23 rfl rfl rfl hrn ?_)
      exact ⟨⟨k + 1, _, _, by omega, by simp, HX.out⟩, by simp [intOf]; omega⟩
    · have hkn2 : k = n := by omega
      subst hkn2
      have i1 : ¬ (k : Int) < (k : Int) := by omega
      obtain ⟨xa, xc, hqv, hsn⟩ := hT.seen HC.out.2.1
      subst hqv
      have q0 : wr.cell? ⟨B + 2, 0, none⟩ = some (.slice xa k xc) := (cell_of_heap hT.qb 0).trans rfl
      have r0 : wr.cell? ⟨B + 1, 0, none⟩ = some (.slice none 0 0) := (cell_of_heap hT.res 0).trans rfl
      have z0 := blk_free hT.res 0
      have kS : Keeps (· = B + 1) wr (wr.setCell ⟨B + 1, 0, none⟩ (.slice xa k xc)) := Keeps.setCell (S := (· = B + 1)) wr rfl _
      have rs := blk_set (i := 0) hT.res (.slice xa k xc)
      have hsn2 : SeenF (wr.setCell ⟨B + 1, 0, none⟩ (.slice xa k xc)) xa k (l.map turnF) := by
        have hrow2 := kS.own hT.row (fun g e q => absurd (own_type hT.row e (q ▸ hT.res)) (by decide))
        have hcd2 : ∀ (i : Nat) (f : Fn) (t : At), (l.take k)[i]? = some f → tv[i]? = some t → (wr.setCell ⟨B + 1, 0, none⟩ (.slice xa k xc)).ownsRow 0 42 5 (.slice t.1 f.code.length t.2) f.code.length (insVals (turnF f).code) := fun i f t hf ht => kS.own (hT.code i f t hf ht) (fun g e q => absurd (own_type (hT.code i f t hf ht) e (q ▸ hT.res)) (by decide))
        obtain ⟨xa2, xc2, e, h2⟩ := rows_seen hrow2 hcd2 hT.len HC.out.2.1
        injection e with e1 e2 e3
        subst e1
        exact h2
      have HQ : Hid (_ ∧ _ ∧ _) := And.intro rs (And.intro hsn2 (hT.keep.trans kS (fun i e hi => by have := hT.hB; omega)))
      clear hT hsn hsn2 kS rs
      go_wp2_with fail
      exact bodyPost_ret (results_one (q := 2) (ty := 25) rfl rfl (load_prog _ _ _ (.slice xa k xc) HQ.out.1)) rfl (HP.out _ _ ⟨xa, xc, rfl, HQ.out.2.1, HQ.out.2.2⟩)
end Go.Proofs.YtcjmceedkfjbeaaDoor
