import Derived.Test.YthignlailbekmaaDoorRtRoom
/-! A program laid with marks behind its lists: the walk. -/
namespace Go.Proofs.YthignlailbekmaaDoor
set_option linter.unusedVariables false
set_option maxRecDepth 20000
open Go.RowKit Go.HeapKit

def RoomyPost (w : World) (l : List Fn) (n : Nat) (e : Ending) (w' : World) : Prop := ∃ a c tv, e = .returned (.agg #[.slice a n c]) ∧ Rm w' l a c tv ∧ Keeps None w w'
set_option maxHeartbeats 4000000 in
theorem roomy_any (a : Option Addr) (n c : Nat) (l : List Fn) (w : World) (hS : SeenF w a n l) (hr : n * 48 ≤ 140737488351232) (hrc : ∀ f ∈ l, f.code.length * 40 ≤ 140737488351232) :
    Calls Tryd.prog 13 #[.agg #[.slice a n c]] w (RoomyPost w l n) := by
  have hn := hS.len
  obtain ⟨B, hB⟩ : ∃ B, B = w.heap.size := ⟨_, rfl⟩
  obtain ⟨p1, p2⟩ := two_boxes w #[.slice a n c] #[.slice none 0 0] 24 24
  have hk2 := keeps2 w (.cells #[.slice a n c] 24) (.cells #[.slice none 0 0] 24)
  have s2 : ((w.alloc (.cells #[.slice a n c] 24)).alloc (.cells #[.slice none 0 0] 24)).heap.size = B + 2 := by rw [hB]; simp
  obtain ⟨w2, hw2⟩ : ∃ w2, w2 = (w.alloc (.cells #[.slice a n c] 24)).alloc (.cells #[.slice none 0 0] 24) := ⟨_, rfl⟩
  rw [← hw2] at p1 p2 hk2 s2
  rw [← hB] at p1 p2
  have hal := Keeps.alloc None w2 (.cells #[.slice none 0 0] 24)
  have p3 := heap_alloc_new w2 (.cells #[.slice none 0 0] 24)
  rw [s2] at p3
  have HS0 : Hid (Tm w (w2.alloc (.cells #[.slice none 0 0] 24)) B (.slice a n c) l 0 (.slice none 0 0) []) :=
    ⟨hk2.trans hal (fun _ f _ => f), blk_kept p1 hal (fun f => f), blk_kept p2 hal (fun f => f), p3, ⟨rfl, .inl ⟨rfl, rfl⟩⟩, fun i f t hf => by simp at hf, rfl, fun g e => by simp [Value.ownBlock] at e, by omega⟩
  have HC : Hid (SeenF w a n l ∧ n = l.length ∧ ∀ f ∈ l, f.code.length * 40 ≤ 140737488351232) := ⟨hS, hn, hrc⟩
  have hnb : (n : Int) ≤ 4611686018427387904 := by omega
  have HS2 : Hid _ := s2
  have HP : Hid (∀ e w', (∃ a c tv, e = .returned (.agg #[.slice a n c]) ∧ Rm w' l a c tv ∧ Keeps None w w') → RoomyPost w l n e w') := fun e w' h => h
  clear hS hn hrc p1 p2 hk2 s2 hal p3
  go_enter Tryd.func13, Tryd.ntmps13
  go_upto_region 1 with fail
  rw [← hw2, ← hB]
  clear hw2 hB
  go_upto_region 2 with fail
  rw [HS2.out]
  generalize w2.alloc (.cells #[.slice none 0 0] 24) = W at *
  go_wp2_with fail
  go_loopw [4] (fun s4 wr => ∃ (k : Nat) (qv : Value) (tv : List At), k ≤ n ∧ s4 = .int .i64 k ∧ Tm w wr B (.slice a n c) l k qv tv) (fun i _ => n - (intOf i).toNat)
  case atStart => exact ⟨0, .slice none 0 0, [], Nat.zero_le _, rfl, HS0.out⟩
  case round =>
    obtain ⟨k, qv, tv, hk, rfl, hT⟩ := hrel
    have d0 : wr.cell? ⟨B, 0, none⟩ = some (.slice a n c) := (cell_of_heap hT.box 0).trans rfl
    by_cases hkn : k < n
    · obtain ⟨b, off, f, ca, cc, rfl, hf, hat⟩ := (HC.out.1.more hT.keep).at hkn
      obtain ⟨y0, y1, y2, y3, hsn⟩ := hat
      have i1 : (k : Int) < (n : Int) := by omega
      have hrf := HC.out.2.2 f (List.mem_of_getElem? hf)
      have HT : Hid (Tm w wr B (.slice (some ⟨b, off, none⟩) n c) l k qv tv ∧ l[k]? = some f) := ⟨hT, hf⟩
      obtain ⟨m, hm⟩ : ∃ m, m = f.code.length := ⟨_, rfl⟩
      rw [← hm] at y3 hsn hrf
      have HM : Hid _ := hm
      have hal := Keeps.alloc None wr (.cells #[.int .i64 f.params, .int .i64 f.regs, .int .i64 f.slots, .slice ca m cc] 44)
      have bF := heap_alloc_new wr (.cells #[.int .i64 f.params, .int .i64 f.regs, .int .i64 f.slots, .slice ca m cc] 44)
      obtain ⟨F, hF⟩ : ∃ F, F = wr.heap.size := ⟨_, rfl⟩
      obtain ⟨W1, hW1⟩ : ∃ W1, W1 = wr.alloc (.cells #[.int .i64 f.params, .int .i64 f.regs, .int .i64 f.slots, .slice ca m cc] 44) := ⟨_, rfl⟩
      rw [← hW1] at hal bF
      rw [← hF] at bF
      obtain ⟨cv, w5, hr5, ho5, hk5, hl5⟩ := codes_copied ca m cc f.code W1 42 (hsn.more hal) hrf
      obtain ⟨ca', cc', hcv⟩ : ∃ ca' cc', cv = .slice ca' m cc' := by
        have := codes_seen (by rw [← hm]; exact ho5)
        obtain ⟨x1, x2, e, _⟩ := this
        exact ⟨x1, x2, by rw [e, hm]⟩
      subst hcv
      have hal5 := Keeps.alloc None w5 (.cells #[.int .i64 (-77), .int .i64 0, .int .i64 0, .int .i64 0, .int .i64 0] 46)
      obtain ⟨b6, c6, w6, hr6, ho6, hk6, hg6⟩ := ins_append (.slice ca' m cc') f.code markI m w5.heap.size 42 (w5.alloc (.cells #[.int .i64 (-77), .int .i64 0, .int .i64 0, .int .i64 0, .int .i64 0] 46)) hm (hal5.own ho5 (fun _ _ f => f)) (by omega) (heap_alloc_new _ _)
      have hk16 : Keeps None W1 w6 := (hk5.trans hal5 (fun _ f _ => f)).trans hk6 (fun i e hi => by have := hl5 i e; omega)
      have hc6 : m + 1 ≤ c6 := by
        rcases ho6.2 with ⟨_, h0⟩ | ⟨b', cap', cur', he', hb', hg', hn', _⟩
        · omega
        · injection he' with e1 e2 e3; omega
      have c60 : ¬ c6 = 0 := by omega
      have c61 : (m : Int) ≤ (c6 : Int) := by omega
      have bF5 := blk_kept bF hk16 (fun f => f)
      have kF : Keeps (· = F) w6 (w6.setCell ⟨F, 3, none⟩ (.slice (some ⟨b6, 0, none⟩) m c6)) := Keeps.setCell (S := (· = F)) w6 (a := ⟨F, 3, none⟩) rfl _
      have bF6 : (w6.setCell ⟨F, 3, none⟩ (.slice (some ⟨b6, 0, none⟩) m c6)).heap[F]? = some (.cells #[.int .i64 f.params, .int .i64 f.regs, .int .i64 f.slots, .slice (some ⟨b6, 0, none⟩) m c6] 44 (0, 0)) := by rw [blk_set bF5]; rfl
      have kwF : Keeps None wr (w6.setCell ⟨F, 3, none⟩ (.slice (some ⟨b6, 0, none⟩) m c6)) := ((hal.trans hk16 (fun _ f _ => f)).trans kF (fun i e hi => by omega))
      have hT6 := hT.more kwF
      have ho7 := kF.own ho6 (fun g e q => absurd (own_type ho6 e (q ▸ bF5)) (by decide))
      have g3 : W1.cell? ⟨F, 3, none⟩ = some (.slice ca m cc) := (blk_cell bF 3).trans rfl
      have g3a := (Keeps.alloc None W1 (.cells #[] 46)).cell g3 (fun f => f)
      have g5 : w6.cell? ⟨F, 3, none⟩ = some (.slice ca m cc) := (blk_cell bF5 3).trans rfl
      have z5 := blk_free bF5 3
      have H6 : Hid (Tm w (w6.setCell ⟨F, 3, none⟩ (.slice (some ⟨b6, 0, none⟩) m c6)) B (.slice (some ⟨b, off, none⟩) n c) l k qv tv ∧ (w6.setCell ⟨F, 3, none⟩ (.slice (some ⟨b6, 0, none⟩) m c6)).ownsRow 0 46 5 (.slice (some ⟨b6, 0, none⟩) (m + 1) c6) (m + 1) (insVals (f.code ++ [markI])) ∧ (w6.setCell ⟨F, 3, none⟩ (.slice (some ⟨b6, 0, none⟩) m c6)).heap[F]? = some (.cells #[.int .i64 f.params, .int .i64 f.regs, .int .i64 f.slots, .slice (some ⟨b6, 0, none⟩) m c6] 44 (0, 0))) := ⟨hT6, ho7, bF6⟩
      clear hT hf hsn hm hal bF bF5 kF bF6 kwF hT6 ho6 ho7 ho5 hk5 hl5 hrf hal5 hk16 hk6 hg6
      go_upto_region 6 with fail
      rw [← hW1, ← hF]
      clear hW1 hF y0 y1 y2 y3 d0
      go_upto_region 7 with (at_builtin; refine wpList_append_run rfl (.tmp 19) (.tmp 21) 42 42 rfl rfl rfl hr5 ?_)
      clear hr5
      go_upto_region 8 with (at_builtin; refine wpList_append_run rfl (.tmp 23) (.tmp 25) 42 42 rfl rfl rfl hr6 ?_)
      clear hr6
      go_upto_region 9 with fail
      generalize w6.setCell ⟨F, 3, none⟩ (.slice (some ⟨b6, 0, none⟩) m c6) = V at *
      have q0 : V.cell? ⟨B + 2, 0, none⟩ = some qv := (cell_of_heap H6.out.1.qb 0).trans rfl
      have f0 : V.cell? ⟨F, 0, none⟩ = some (.int .i64 f.params) := (cell_of_heap H6.out.2.2 0).trans rfl
      have f1 : V.cell? ⟨F, 1, none⟩ = some (.int .i64 f.regs) := (cell_of_heap H6.out.2.2 1).trans rfl
      have f2 : V.cell? ⟨F, 2, none⟩ = some (.int .i64 f.slots) := (cell_of_heap H6.out.2.2 2).trans rfl
      have f3 : V.cell? ⟨F, 3, none⟩ = some (.slice (some ⟨b6, 0, none⟩) m c6) := (cell_of_heap H6.out.2.2 3).trans rfl
      have hal2 := Keeps.alloc None V (.cells #[.int .i64 f.params, .int .i64 f.regs, .int .i64 f.slots, .slice (some ⟨b6, 0, none⟩) m c6] 44)
      have hT7 := H6.out.1.more hal2
      have ho7 := hal2.own H6.out.2.1 (fun _ _ f => f)
      have hln := HC.out.2.1
      have hcl : (l.take k).length = k := by simp; omega
      obtain ⟨b2, cap2, w7, hrn, hoo, hkk, hgg⟩ := fn_append qv (List.zipWith tfCells (l.take k) tv) (.int .i64 f.params) (.int .i64 f.regs) (.int .i64 f.slots) (.slice (some ⟨b6, 0, none⟩) m c6) k V.heap.size 22 (V.alloc (.cells #[.int .i64 f.params, .int .i64 f.regs, .int .i64 f.slots, .slice (some ⟨b6, 0, none⟩) m c6] 44)) (by rw [List.length_zipWith, hcl, hT7.len]; omega) ⟨rfl, rfl, rfl, rfl⟩ hT7.row (by omega) (heap_alloc_new _ _)
      obtain ⟨u1, u2, hnx⟩ := hT7.next (t := (some ⟨b6, 0, none⟩, c6)) HT.out.2 (by rw [← HM.out]; exact ho7) hkk (by unfold tfCells at *; rw [← HM.out]; exact hoo) hgg
      have HX : Hid _ := hnx
      clear hnx hT7 ho7 hal2 hoo hkk hgg hcl hln g3 g3a g5 z5 hc6 c60 c61
      go_wp2_with (at_builtin; refine wpList_append_run rfl (.tmp 34) (.tmp 36) 22 22 rfl rfl rfl hrn ?_)
      exact ⟨⟨k + 1, _, _, by omega, by simp, HX.out⟩, by simp [intOf]; omega⟩
    · have hkn2 : k = n := by omega
      subst hkn2
      have i1 : ¬ (k : Int) < (k : Int) := by omega
      have htk : l.take k = l := List.take_of_length_le (by have := HC.out.2.1; omega)
      have q0 : wr.cell? ⟨B + 2, 0, none⟩ = some qv := (cell_of_heap hT.qb 0).trans rfl
      have hal := Keeps.alloc None wr (.cells #[.int .i64 (-77), .int .i64 0, .int .i64 0, .slice none 0 0] 44)
      have hT7 := hT.more hal
      have hlz : k = (List.zipWith tfCells (l.take k) tv).length := by have := HC.out.2.1; rw [List.length_zipWith, htk, hT.len]; omega
      obtain ⟨b2, cap2, w7, hrn, hoo, hkk, hgg⟩ := fn_append qv (List.zipWith tfCells (l.take k) tv) (.int .i64 (-77)) (.int .i64 0) (.int .i64 0) (.slice none 0 0) k wr.heap.size 22 (wr.alloc (.cells #[.int .i64 (-77), .int .i64 0, .int .i64 0, .slice none 0 0] 44)) hlz ⟨rfl, rfl, rfl, rfl⟩ hT7.row (by omega) (heap_alloc_new _ _)
      have hfun : ∀ {c : Array Value} {T : TypeId} {p : Nat}, T ≠ 44 → (wr.alloc (.cells #[.int .i64 (-77), .int .i64 0, .int .i64 0, .slice none 0 0] 44)).heap[p]? = some (.cells c T (0, 0)) → ¬ qv.ownBlock = some p := fun hT hp e => hT ((own_type hT7.row e hp).symm ▸ rfl)
      have qb7 := blk_kept hT7.qb hkk (hfun (by decide) hT7.qb)
      have bx7 := blk_kept hT7.box hkk (hfun (by decide) hT7.box)
      have rs7 := blk_kept hT7.res hkk (hfun (by decide) hT7.res)
      have hc2 : k + 1 ≤ cap2 := by
        rcases hoo.2 with ⟨_, h0⟩ | ⟨b', cap', cur', he', hb', hg', hn', _⟩
        · omega
        · injection he' with e1 e2 e3; omega
      have c60 : ¬ cap2 = 0 := by omega
      have c61 : (k : Int) ≤ (cap2 : Int) := by omega
      have hB0 := hT.hB
      have kp7 : Keeps None w w7 := hT7.keep.trans hkk (fun i e hi => by have := hT7.low i e; omega)
      have u1 : w7.cell? ⟨B + 2, 0, none⟩ = some qv := (blk_cell qb7 0).trans rfl
      have u2 := blk_free qb7 0
      -- the first store
      have k8 : Keeps (· = B + 2) w7 (w7.setCell ⟨B + 2, 0, none⟩ (.slice (some ⟨b2, 0, none⟩) (k + 1) cap2)) := Keeps.setCell (S := (· = B + 2)) w7 rfl _
      have qb8 := blk_set (i := 0) qb7 (.slice (some ⟨b2, 0, none⟩) (k + 1) cap2)
      have H8 : Hid (Keeps (· = B + 2) w7 (w7.setCell ⟨B + 2, 0, none⟩ (.slice (some ⟨b2, 0, none⟩) (k + 1) cap2)) ∧ (w7.setCell ⟨B + 2, 0, none⟩ (.slice (some ⟨b2, 0, none⟩) (k + 1) cap2)).heap[B + 2]? = some (.cells #[.slice (some ⟨b2, 0, none⟩) (k + 1) cap2] 24 (0, 0))) := ⟨k8, qb8⟩
      have HQ : Hid (w7.heap[B]? = some (.cells #[.slice a k c] 24 (0, 0)) ∧ w7.heap[B + 1]? = some (.cells #[.slice none 0 0] 24 (0, 0)) ∧ Keeps None w w7 ∧ w.heap.size ≤ B ∧ w7.ownsRow 0 44 4 (.slice (some ⟨b2, 0, none⟩) (k + 1) cap2) (k + 1) (List.zipWith tfCells l tv ++ [markF]).flatten ∧ (∀ (i : Nat) (f : Fn) (t : At), l[i]? = some f → tv[i]? = some t → w7.ownsRow 0 46 5 (.slice t.1 (f.code.length + 1) t.2) (f.code.length + 1) (insVals (f.code ++ [markI]))) ∧ tv.length = k ∧ w7.heap[B + 2]? = some (.cells #[qv] 24 (0, 0))) :=
        ⟨bx7, rs7, kp7, hB0, by rw [htk] at hoo; exact hoo, fun i f t hf ht => hkk.own (hT7.code i f t (by rw [htk]; exact hf) ht) (fun g e q => by
          obtain ⟨c', hc'⟩ := own_block (hT7.code i f t (by rw [htk]; exact hf) ht) e
          exact hfun (by decide) hc' q), hT.len, qb7⟩
      clear hT hT7 hal hlz hoo hkk hgg hfun qb7 bx7 rs7 hc2 hB0 kp7 k8 qb8 htk
      go_upto_region 11 with (at_builtin; refine wpList_append_run rfl (.tmp 40) (.tmp 42) 22 22 rfl rfl rfl hrn ?_)
      clear hrn q0 u1 u2 d0
      generalize w7.setCell ⟨B + 2, 0, none⟩ (.slice (some ⟨b2, 0, none⟩) (k + 1) cap2) = w8 at *
      have q8 : w8.cell? ⟨B + 2, 0, none⟩ = some (.slice (some ⟨b2, 0, none⟩) (k + 1) cap2) := (cell_of_heap H8.out.2 0).trans rfl
      have z8 := blk_free H8.out.2 0
      have bx8 := blk_kept HQ.out.1 H8.out.1 (by omega)
      have rs8 := blk_kept HQ.out.2.1 H8.out.1 (by omega)
      have d8 : w8.cell? ⟨B, 0, none⟩ = some (.slice a k c) := (cell_of_heap bx8 0).trans rfl
      have k9 : Keeps (· = B + 2) w8 (w8.setCell ⟨B + 2, 0, none⟩ (.slice (some ⟨b2, 0, none⟩) k cap2)) := Keeps.setCell (S := (· = B + 2)) w8 rfl _
      have qb9 := blk_set (i := 0) H8.out.2 (.slice (some ⟨b2, 0, none⟩) k cap2)
      have H9 : Hid (Keeps (· = B + 2) w8 (w8.setCell ⟨B + 2, 0, none⟩ (.slice (some ⟨b2, 0, none⟩) k cap2)) ∧ (w8.setCell ⟨B + 2, 0, none⟩ (.slice (some ⟨b2, 0, none⟩) k cap2)).heap[B + 2]? = some (.cells #[.slice (some ⟨b2, 0, none⟩) k cap2] 24 (0, 0)) ∧ w8.heap[B + 1]? = some (.cells #[.slice none 0 0] 24 (0, 0))) := ⟨k9, qb9, rs8⟩
      clear k9 qb9 rs8 bx8
      go_upto_region 12 with fail
      clear q8 z8 d8 c60 c61
      generalize w8.setCell ⟨B + 2, 0, none⟩ (.slice (some ⟨b2, 0, none⟩) k cap2) = w9 at *
      have q9 : w9.cell? ⟨B + 2, 0, none⟩ = some (.slice (some ⟨b2, 0, none⟩) k cap2) := (cell_of_heap H9.out.2.1 0).trans rfl
      have rs9 := blk_kept H9.out.2.2 H9.out.1 (by omega)
      have r0 : w9.cell? ⟨B + 1, 0, none⟩ = some (.slice none 0 0) := (cell_of_heap rs9 0).trans rfl
      have z0 := blk_free rs9 0
      have kS : Keeps (· = B + 1) w9 (w9.setCell ⟨B + 1, 0, none⟩ (.slice (some ⟨b2, 0, none⟩) k cap2)) := Keeps.setCell (S := (· = B + 1)) w9 rfl _
      have rsS := blk_set (i := 0) rs9 (.slice (some ⟨b2, 0, none⟩) k cap2)
      have hty : ∀ (T : TypeId) (z : Nat) (v : Value) (m : Nat) (xs : List Value), T ≠ 24 → w7.ownsRow 0 T z v m xs → (w9.setCell ⟨B + 1, 0, none⟩ (.slice (some ⟨b2, 0, none⟩) k cap2)).ownsRow 0 T z v m xs := fun T z v m xs hT hv => by
        have h8 := H8.out.1.own hv (fun g e q => hT (own_type hv e (q ▸ HQ.out.2.2.2.2.2.2.2)))
        have h9 := H9.out.1.own h8 (fun g e q => hT (own_type h8 e (q ▸ H8.out.2)))
        exact kS.own h9 (fun g e q => hT (own_type h9 e (q ▸ rs9)))
      have hrm : Rm (w9.setCell ⟨B + 1, 0, none⟩ (.slice (some ⟨b2, 0, none⟩) k cap2)) l (some ⟨b2, 0, none⟩) cap2 tv := by
        have hq : k = l.length := HC.out.2.1
        refine ⟨?_, fun i f t hf ht => hty _ _ _ _ _ (by decide) (HQ.out.2.2.2.2.2.1 i f t hf ht), by rw [HQ.out.2.2.2.2.2.2.1]; exact hq⟩
        rw [← hq]
        exact hty _ _ _ _ _ (by decide) HQ.out.2.2.2.2.1
      have HB0 := HQ.out.2.2.2.1
      have HR : Hid (_ ∧ _ ∧ _) := And.intro rsS (And.intro hrm (((HQ.out.2.2.1.trans H8.out.1 (fun i e hi => by omega)).trans H9.out.1 (fun i e hi => by omega)).trans kS (fun i e hi => by omega)))
      clear hrm hty kS rsS rs9 HB0
      go_wp2_with fail
      exact bodyPost_ret (results_one (q := 2) (ty := 24) rfl rfl (load_prog _ _ _ (.slice (some ⟨b2, 0, none⟩) k cap2) HR.out.1)) rfl (HP.out _ _ ⟨_, cap2, tv, rfl, HR.out.2.1, HR.out.2.2⟩)
end Go.Proofs.YthignlailbekmaaDoor
