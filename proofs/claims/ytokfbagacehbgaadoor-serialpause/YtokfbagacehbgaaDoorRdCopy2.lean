import Derived.Test.YtokfbagacehbgaaDoorRdCopy
/-! A program copied: the statements' own. -/
namespace Go.Proofs.YtokfbagacehbgaaDoor
set_option linter.unusedVariables false
set_option maxRecDepth 20000
open Go.RowKit Go.HeapKit

def CopiedPost (w : World) (l : List Fn) (n : Nat) (e : Ending) (w' : World) : Prop := ∃ a c, e = .returned (.agg #[.slice a n c]) ∧ SeenF w' a n l ∧ Keeps None w w'
def CopiedOwn (w : World) (l : List Fn) (n : Nat) (e : Ending) (w' : World) : Prop := ∃ a c tv, e = .returned (.agg #[.slice a n c]) ∧ Cp w.heap.size w' l (.slice a n c) tv ∧ Keeps None w w'
set_option maxHeartbeats 2000000 in
theorem copied_own (a : Option Addr) (n c : Nat) (l : List Fn) (w : World) (hS : SeenF w a n l) (hr : n * 48 ≤ 140737488351232) (hrc : ∀ f ∈ l, f.code.length * 40 ≤ 140737488351232) :
    Calls Tryd.prog 6 #[.agg #[.slice a n c]] w (CopiedOwn w l n) := by
  have hn := hS.len
  obtain ⟨B, hB⟩ : ∃ B, B = w.heap.size := ⟨_, rfl⟩
  obtain ⟨p1, p2⟩ := two_boxes w #[.slice a n c] #[.slice none 0 0] 24 24
  have hk2 := keeps2 w (.cells #[.slice a n c] 24) (.cells #[.slice none 0 0] 24)
  have s2 : ((w.alloc (.cells #[.slice a n c] 24)).alloc (.cells #[.slice none 0 0] 24)).heap.size = B + 2 := by rw [hB]; simp
  obtain ⟨w2, hw2⟩ : ∃ w2, w2 = (w.alloc (.cells #[.slice a n c] 24)).alloc (.cells #[.slice none 0 0] 24) := ⟨_, rfl⟩
  rw [← hw2] at p1 p2 hk2 s2
  rw [← hB] at p1 p2
  have hal := Keeps.alloc None w2 (.cells #[.slice none 0 0] 24)
  have p3 := heap_alloc_new w2 (.cells #[.slice none 0 0] 24)
  rw [s2] at p3
  have HS0 : Hid (Ta w (w2.alloc (.cells #[.slice none 0 0] 24)) B (.slice a n c) l 0 (.slice none 0 0) []) :=
    ⟨hk2.trans hal (fun _ f _ => f), blk_kept p1 hal (fun f => f), blk_kept p2 hal (fun f => f), p3, ⟨rfl, .inl ⟨rfl, rfl⟩⟩, fun i f t hf => by simp at hf, rfl, fun g e => by simp [Value.ownBlock] at e, by omega, fun i t g ht => by simp at ht, fun i j t u g ht => by simp at ht⟩
  have HC : Hid (SeenF w a n l ∧ n = l.length ∧ ∀ f ∈ l, f.code.length * 40 ≤ 140737488351232) := ⟨hS, hn, hrc⟩
  have hnb : (n : Int) ≤ 4611686018427387904 := by omega
  have HS2 : Hid _ := s2
  have HP : Hid (∀ e w', (∃ a c tv, e = .returned (.agg #[.slice a n c]) ∧ Cp w.heap.size w' l (.slice a n c) tv ∧ Keeps None w w') → CopiedOwn w l n e w') := fun e w' h => h
  clear hS hn hrc p1 p2 hk2 s2 hal p3
  go_enter Tryd.func6, Tryd.ntmps6
  go_upto_region 1 with fail
  rw [← hw2, ← hB]
  clear hw2 hB
  go_upto_region 2 with fail
  rw [HS2.out]
  generalize w2.alloc (.cells #[.slice none 0 0] 24) = W at *
  go_wp2_with fail
  go_loopw [4] (fun s4 wr => ∃ (k : Nat) (qv : Value) (tv : List At), k ≤ n ∧ s4 = .int .i64 k ∧ Ta w wr B (.slice a n c) l k qv tv) (fun i _ => n - (intOf i).toNat)
  case atStart => exact ⟨0, .slice none 0 0, [], Nat.zero_le _, rfl, HS0.out⟩
  case round =>
    obtain ⟨k, qv, tv, hk, rfl, hT⟩ := hrel
    have d0 : wr.cell? ⟨B, 0, none⟩ = some (.slice a n c) := (cell_of_heap hT.box 0).trans rfl
    by_cases hkn : k < n
    · obtain ⟨b, off, f, ca, cc, rfl, hf, hat⟩ := (HC.out.1.more hT.keep).at hkn
      obtain ⟨y0, y1, y2, y3, hsn⟩ := hat
      have i1 : (k : Int) < (n : Int) := by omega
      have hrf := HC.out.2.2 f (List.mem_of_getElem? hf)
      have HT : Hid (Ta w wr B (.slice (some ⟨b, off, none⟩) n c) l k qv tv ∧ l[k]? = some f) := ⟨hT, hf⟩
      obtain ⟨m, hm⟩ : ∃ m, m = f.code.length := ⟨_, rfl⟩
      rw [← hm] at y3 hsn hrf
      have HM : Hid _ := hm
      have hal := Keeps.alloc None wr (.cells #[.int .i64 f.params, .int .i64 f.regs, .int .i64 f.slots, .slice ca m cc] 35)
      have bF := heap_alloc_new wr (.cells #[.int .i64 f.params, .int .i64 f.regs, .int .i64 f.slots, .slice ca m cc] 35)
      obtain ⟨F, hF⟩ : ∃ F, F = wr.heap.size := ⟨_, rfl⟩
      obtain ⟨W1, hW1⟩ : ∃ W1, W1 = wr.alloc (.cells #[.int .i64 f.params, .int .i64 f.regs, .int .i64 f.slots, .slice ca m cc] 35) := ⟨_, rfl⟩
      rw [← hW1] at hal bF
      rw [← hF] at bF
      obtain ⟨cv, w5, hr5, ho5, hk5, hl5⟩ := codes_copied ca m cc f.code W1 33 (hsn.more hal) hrf
      obtain ⟨ca', cc', hcv⟩ : ∃ ca' cc', cv = .slice ca' m cc' := by
        have := codes_seen (by rw [← hm]; exact ho5)
        obtain ⟨x1, x2, e, _⟩ := this
        exact ⟨x1, x2, by rw [e, hm]⟩
      subst hcv
      have bF5 := blk_kept bF hk5 (fun f => f)
      have hFB : F ≠ B + 2 := by rw [hF]; have := blk_lt hT.qb; omega
      have kF : Keeps (· = F) w5 (w5.setCell ⟨F, 3, none⟩ (.slice ca' m cc')) := Keeps.setCell (S := (· = F)) w5 (a := ⟨F, 3, none⟩) rfl _
      have bF6 : (w5.setCell ⟨F, 3, none⟩ (.slice ca' m cc')).heap[F]? = some (.cells #[.int .i64 f.params, .int .i64 f.regs, .int .i64 f.slots, .slice ca' m cc'] 35 (0, 0)) := by rw [blk_set bF5]; rfl
      have kwF : Keeps None wr (w5.setCell ⟨F, 3, none⟩ (.slice ca' m cc')) := ((hal.trans hk5 (fun _ f _ => f)).trans kF (fun i e hi => by omega))
      have hT6 := hT.more kwF
      have hold : ∀ (i : Nat) (u : At) (g : Nat), tv[i]? = some u → u.blk = some g → g < wr.heap.size := fun i u g hu hg => (hT.cl i u g hu hg).2
      have hnewb : ∀ g, At.blk (ca', cc') = some g → w.heap.size ≤ g ∧ wr.heap.size ≤ g ∧ g < (w5.setCell ⟨F, 3, none⟩ (.slice ca' m cc')).heap.size := fun g hg => by
        have hg' : (Value.slice ca' m cc').ownBlock = some g := by rw [← hg]; cases ca' <;> rfl
        have h1 := hl5 g hg'
        have h2 := hal.size
        have h3 := hT.keep.size
        obtain ⟨cq, hq⟩ := own_block ho5 hg'
        have h4 := blk_lt hq
        have h5 := kF.size
        exact ⟨by omega, by omega, by omega⟩
      have HN : Hid ((∀ (i : Nat) (u : At) (g : Nat), tv[i]? = some u → u.blk = some g → g < wr.heap.size) ∧ ∀ g, At.blk (ca', cc') = some g → w.heap.size ≤ g ∧ wr.heap.size ≤ g ∧ g < (w5.setCell ⟨F, 3, none⟩ (.slice ca' m cc')).heap.size) := ⟨hold, hnewb⟩
      have ho6 := kF.own ho5 (fun g e q => absurd (own_type ho5 e (q ▸ bF5)) (by decide))
      have g3 : W1.cell? ⟨F, 3, none⟩ = some (.slice ca m cc) := (blk_cell bF 3).trans rfl
      have g3a := (Keeps.alloc None W1 (.cells #[] 37)).cell g3 (fun f => f)
      have g5 : w5.cell? ⟨F, 3, none⟩ = some (.slice ca m cc) := (blk_cell bF5 3).trans rfl
      have z5 := blk_free bF5 3
      have H6 : Hid (Ta w (w5.setCell ⟨F, 3, none⟩ (.slice ca' m cc')) B (.slice (some ⟨b, off, none⟩) n c) l k qv tv ∧ (w5.setCell ⟨F, 3, none⟩ (.slice ca' m cc')).ownsRow 0 37 5 (.slice ca' m cc') m (insVals f.code) ∧ (w5.setCell ⟨F, 3, none⟩ (.slice ca' m cc')).heap[F]? = some (.cells #[.int .i64 f.params, .int .i64 f.regs, .int .i64 f.slots, .slice ca' m cc'] 35 (0, 0))) := ⟨hT6, ho6, bF6⟩
      clear hT hf hsn hm hal bF bF5 kF bF6 kwF hT6 ho6 ho5 hk5 hl5 hrf hFB hold hnewb
      go_upto_region 6 with fail
      rw [← hW1, ← hF]
      clear hW1 hF y0 y1 y2 y3 d0
      go_upto_region 7 with (at_builtin; refine wpList_append_run rfl (.tmp 18) (.tmp 20) 33 33 rfl rfl rfl hr5 ?_)
      generalize w5.setCell ⟨F, 3, none⟩ (.slice ca' m cc') = V at *
      have q0 : V.cell? ⟨B + 2, 0, none⟩ = some qv := (cell_of_heap H6.out.1.qb 0).trans rfl
      have f0 : V.cell? ⟨F, 0, none⟩ = some (.int .i64 f.params) := (cell_of_heap H6.out.2.2 0).trans rfl
      have f1 : V.cell? ⟨F, 1, none⟩ = some (.int .i64 f.regs) := (cell_of_heap H6.out.2.2 1).trans rfl
      have f2 : V.cell? ⟨F, 2, none⟩ = some (.int .i64 f.slots) := (cell_of_heap H6.out.2.2 2).trans rfl
      have f3 : V.cell? ⟨F, 3, none⟩ = some (.slice ca' m cc') := (cell_of_heap H6.out.2.2 3).trans rfl
      have hal2 := Keeps.alloc None V (.cells #[.int .i64 f.params, .int .i64 f.regs, .int .i64 f.slots, .slice ca' m cc'] 35)
      have hT7 := H6.out.1.more hal2
      have ho7 := hal2.own H6.out.2.1 (fun _ _ f => f)
      have hln := HC.out.2.1
      have hcl : (l.take k).length = k := by simp; omega
      obtain ⟨b2, cap2, w7, hrn, hoo, hkk, hgg⟩ := fn_append qv (List.zipWith tfCells (l.take k) tv) (.int .i64 f.params) (.int .i64 f.regs) (.int .i64 f.slots) (.slice ca' m cc') k V.heap.size 22 (V.alloc (.cells #[.int .i64 f.params, .int .i64 f.regs, .int .i64 f.slots, .slice ca' m cc'] 35)) (by rw [List.length_zipWith, hcl, hT7.len]; omega) ⟨rfl, rfl, rfl, rfl⟩ hT7.row (by omega) (heap_alloc_new _ _)
      obtain ⟨u1, u2, hnx⟩ := hT7.next (t := (ca', cc')) HT.out.2 (by rw [← HM.out]; exact ho7) hkk (by unfold tfCells at *; rw [← HM.out]; exact hoo) hgg HN.out.1 (fun g hg => ⟨(HN.out.2 g hg).1, (HN.out.2 g hg).2.1, Nat.lt_of_lt_of_le (HN.out.2 g hg).2.2 hal2.size⟩)
      have HX : Hid _ := hnx
      clear hnx hT7 ho7 hal2 hoo hkk hgg hcl hln hr5 g3 g3a g5 z5
      go_wp2_with (at_builtin; refine wpList_append_run rfl (.tmp 24) (.tmp 26) 22 22 rfl rfl rfl hrn ?_)
      exact ⟨⟨k + 1, _, _, by omega, by simp, HX.out⟩, by simp [intOf]; omega⟩
    · have hkn2 : k = n := by omega
      subst hkn2
      have i1 : ¬ (k : Int) < (k : Int) := by omega
      obtain ⟨xa, xc, hqv, hsn⟩ := hT.seen HC.out.2.1
      subst hqv
      have q0 : wr.cell? ⟨B + 2, 0, none⟩ = some (.slice xa k xc) := (cell_of_heap hT.qb 0).trans rfl
      have r0 : wr.cell? ⟨B + 1, 0, none⟩ = some (.slice none 0 0) := (cell_of_heap hT.res 0).trans rfl
      have z0 := blk_free hT.res 0
      have kS : Keeps (· = B + 1) wr (wr.setCell ⟨B + 1, 0, none⟩ (.slice xa k xc)) := Keeps.setCell (S := (· = B + 1)) wr rfl _
      have rs := blk_set (i := 0) hT.res (.slice xa k xc)
      have htk : l.take k = l := List.take_of_length_le (by have := HC.out.2.1; omega)
      have hcp : Cp w.heap.size (wr.setCell ⟨B + 1, 0, none⟩ (.slice xa k xc)) l (.slice xa k xc) tv := by
        have hrow := hT.row
        rw [htk] at hrow
        have hcode := hT.code
        rw [htk] at hcode
        refine ⟨?_, fun i f t hf ht => ?_, by rw [hT.len]; exact HC.out.2.1, hT.low, fun i t g ht hg => (hT.cl i t g ht hg).1, hT.nd⟩
        · have h1 := kS.own hrow (fun g e q => absurd (own_type hrow e (q ▸ hT.res)) (by decide))
          have hq : k = l.length := HC.out.2.1
          generalize l.length = m at hq ⊢
          subst hq
          exact h1
        · exact kS.own (hcode i f t hf ht) (fun g e q => absurd (own_type (hcode i f t hf ht) e (q ▸ hT.res)) (by decide))
      have HQ : Hid (_ ∧ _ ∧ _) := And.intro rs (And.intro hcp (hT.keep.trans kS (fun i e hi => by have := hT.hB; omega)))
      clear hT hsn hcp kS rs htk
      go_wp2_with fail
      exact bodyPost_ret (results_one (q := 2) (ty := 24) rfl rfl (load_prog _ _ _ (.slice xa k xc) HQ.out.1)) rfl (HP.out _ _ ⟨xa, xc, tv, rfl, HQ.out.2.1, HQ.out.2.2⟩)
theorem copied_any (a : Option Addr) (n c : Nat) (l : List Fn) (w : World) (hS : SeenF w a n l) (hr : n * 48 ≤ 140737488351232) (hrc : ∀ f ∈ l, f.code.length * 40 ≤ 140737488351232) :
    Calls Tryd.prog 6 #[.agg #[.slice a n c]] w (CopiedPost w l n) := by
  refine (copied_own a n c l w hS hr hrc).mono ?_
  rintro e w' ⟨a', c', tv, he, hc, hk⟩
  obtain ⟨x, y, hq, hs⟩ := hc.seen
  injection hq with e1 e2 e3
  subst e1
  rw [← hS.len] at hs
  exact ⟨_, _, he, hs, hk⟩
end Go.Proofs.YtokfbagacehbgaaDoor
