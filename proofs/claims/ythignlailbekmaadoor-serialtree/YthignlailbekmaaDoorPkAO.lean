import Derived.Test.YthignlailbekmaaDoorPkAN
import Derived.Deep.QuietTactic
import Derived.BigQuiet
import Derived.Laws.StructEq
import Derived.Test.YthignlailbekmaaDoorPkAC
import Derived.Deep.RegionHeld3
import Derived.Deep.RegionLaw
import Derived.Deep.Cut
/-! A program copied: the statements' own. -/
namespace Go.Proofs.YthignlailbekmaaDoor
set_option linter.unusedVariables false
set_option maxRecDepth 20000
open Go.RowKit Go.HeapKit

def CopiedPost (w : World) (l : List Fn) (n : Nat) (e : Ending) (w' : World) : Prop := ∃ a c, e = .returned (.agg #[.slice a n c]) ∧ SeenF w' a n l ∧ Keeps None w w'
def CopiedOwn (w : World) (l : List Fn) (n : Nat) (e : Ending) (w' : World) : Prop := ∃ a c tv, e = .returned (.agg #[.slice a n c]) ∧ Cp w.heap.size w' l (.slice a n c) tv ∧ Keeps None w w'
set_option maxHeartbeats 2000000 in
theorem copied_own (a : Option Addr) (n c : Nat) (l : List Fn) (w : World) (hS : SeenF w a n l) (hr : n * 48 ≤ 140737488351232) (hrc : ∀ f ∈ l, f.code.length * 40 ≤ 140737488351232) :
    Calls Tryd.prog 5 #[.agg #[.slice a n c]] w (CopiedOwn w l n) := by
  have hn := hS.len
  obtain ⟨B, hB⟩ : ∃ B, B = w.heap.size := ⟨_, rfl⟩
  obtain ⟨p1, p2⟩ := two_boxes w #[.slice a n c] #[.slice none 0 0] 24 24
  have hk2 := keeps2 w (.cells #[.slice a n c] 24) (.cells #[.slice none 0 0] 24)
  have s2 : ((w.alloc (.cells #[.slice a n c] 24)).alloc (.cells #[.slice none 0 0] 24)).heap.size = B + 2 := by rw [hB]; simp
  obtain ⟨w2, hw2⟩ : ∃ w2, w2 = (w.alloc (.cells #[.slice a n c] 24)).alloc (.cells #[.slice none 0 0] 24) := ⟨_, rfl⟩
  rw [← hw2] at p1 p2 hk2 s2
  rw [← hB] at p1 p2
  have hal := Keeps.alloc None w2 (.cells #[.slice none 0 0] 24)
  have p3 := heap_alloc_new w2 (.cells #[.slice none 0 0] 24)
  rw [s2] at p3
  have HS0 : Hid (Ta w (w2.alloc (.cells #[.slice none 0 0] 24)) B (.slice a n c) l 0 (.slice none 0 0) []) :=
    ⟨hk2.trans hal (fun _ f _ => f), blk_kept p1 hal (fun f => f), blk_kept p2 hal (fun f => f), p3, ⟨rfl, .inl ⟨rfl, rfl⟩⟩, fun i f t hf => by simp at hf, rfl, fun g e => by simp [Value.ownBlock] at e, by omega, fun i t g ht => by simp at ht, fun i j t u g ht => by simp at ht⟩
  have HC : Hid (SeenF w a n l ∧ n = l.length ∧ ∀ f ∈ l, f.code.length * 40 ≤ 140737488351232) := ⟨hS, hn, hrc⟩
  have hnb : (n : Int) ≤ 4611686018427387904 := by omega
  have HS2 : Hid _ := s2
  have HP : Hid (∀ e w', (∃ a c tv, e = .returned (.agg #[.slice a n c]) ∧ Cp w.heap.size w' l (.slice a n c) tv ∧ Keeps None w w') → CopiedOwn w l n e w') := fun e w' h => h
  clear hS hn hrc p1 p2 hk2 s2 hal p3
  go_enter Tryd.func5, Tryd.ntmps5
  go_upto_region 1 with fail
  rw [← hw2, ← hB]
  clear hw2 hB
  go_upto_region 2 with fail
  rw [HS2.out]
  generalize w2.alloc (.cells #[.slice none 0 0] 24) = W at *
  go_wp2_with fail
  go_loopw [4] (fun s4 wr => ∃ (k : Nat) (qv : Value) (tv : List At), k ≤ n ∧ s4 = .int .i64 k ∧ Ta w wr B (.slice a n c) l k qv tv) (fun i _ => n - (intOf i).toNat)
  case atStart => exact ⟨0, .slice none 0 0, [], Nat.zero_le _, rfl, HS0.out⟩
  case round =>
    obtain ⟨k, qv, tv, hk, rfl, hT⟩ := hrel
    have d0 : wr.cell? ⟨B, 0, none⟩ = some (.slice a n c) := (cell_of_heap hT.box 0).trans rfl
    by_cases hkn : k < n
    · obtain ⟨b, off, f, ca, cc, rfl, hf, hat⟩ := (HC.out.1.more hT.keep).at hkn
      obtain ⟨y0, y1, y2, y3, hsn⟩ := hat
      have i1 : (k : Int) < (n : Int) := by omega
      have hrf := HC.out.2.2 f (List.mem_of_getElem? hf)
      have HT : Hid (Ta w wr B (.slice (some ⟨b, off, none⟩) n c) l k qv tv ∧ l[k]? = some f) := ⟨hT, hf⟩
      obtain ⟨m, hm⟩ : ∃ m, m = f.code.length := ⟨_, rfl⟩
      rw [← hm] at y3 hsn hrf
      have HM : Hid _ := hm
      have hal := Keeps.alloc None wr (.cells #[.int .i64 f.params, .int .i64 f.regs, .int .i64 f.slots, .slice ca m cc] 44)
      have bF := heap_alloc_new wr (.cells #[.int .i64 f.params, .int .i64 f.regs, .int .i64 f.slots, .slice ca m cc] 44)
      obtain ⟨F, hF⟩ : ∃ F, F = wr.heap.size := ⟨_, rfl⟩
      obtain ⟨W1, hW1⟩ : ∃ W1, W1 = wr.alloc (.cells #[.int .i64 f.params, .int .i64 f.regs, .int .i64 f.slots, .slice ca m cc] 44) := ⟨_, rfl⟩
      rw [← hW1] at hal bF
      rw [← hF] at bF
      obtain ⟨cv, w5, hr5, ho5, hk5, hl5⟩ := codes_copied ca m cc f.code W1 42 (hsn.more hal) hrf
      obtain ⟨ca', cc', hcv⟩ : ∃ ca' cc', cv = .slice ca' m cc' := by
        have := codes_seen (by rw [← hm]; exact ho5)
        obtain ⟨x1, x2, e, _⟩ := this
        exact ⟨x1, x2, by rw [e, hm]⟩
      subst hcv
      have bF5 := blk_kept bF hk5 (fun f => f)
      have hFB : F ≠ B + 2 := by rw [hF]; have := blk_lt hT.qb; omega
      have kF : Keeps (· = F) w5 (w5.setCell ⟨F, 3, none⟩ (.slice ca' m cc')) := Keeps.setCell (S := (· = F)) w5 (a := ⟨F, 3, none⟩) rfl _
      have bF6 : (w5.setCell ⟨F, 3, none⟩ (.slice ca' m cc')).heap[F]? = some (.cells #[.int .i64 f.params, .int .i64 f.regs, .int .i64 f.slots, .slice ca' m cc'] 44 (0, 0)) := by rw [blk_set bF5]; rfl
      have kwF : Keeps None wr (w5.setCell ⟨F, 3, none⟩ (.slice ca' m cc')) := ((hal.trans hk5 (fun _ f _ => f)).trans kF (fun i e hi => by omega))
      have hT6 := hT.more kwF
      have hold : ∀ (i : Nat) (u : At) (g : Nat), tv[i]? = some u → u.blk = some g → g < wr.heap.size := fun i u g hu hg => (hT.cl i u g hu hg).2
      have hnewb : ∀ g, At.blk (ca', cc') = some g → w.heap.size ≤ g ∧ wr.heap.size ≤ g ∧ g < (w5.setCell ⟨F, 3, none⟩ (.slice ca' m cc')).heap.size := fun g hg => by
        have hg' : (Value.slice ca' m cc').ownBlock = some g := by rw [← hg]; cases ca' <;> rfl
        have h1 := hl5 g hg'
        have h2 := hal.size
        have h3 := hT.keep.size
        obtain ⟨cq, hq⟩ := own_block ho5 hg'
        have h4 := blk_lt hq
        have h5 := kF.size
        exact ⟨by omega, by omega, by omega⟩
      have HN : Hid ((∀ (i : Nat) (u : At) (g : Nat), tv[i]? = some u → u.blk = some g → g < wr.heap.size) ∧ ∀ g, At.blk (ca', cc') = some g → w.heap.size ≤ g ∧ wr.heap.size ≤ g ∧ g < (w5.setCell ⟨F, 3, none⟩ (.slice ca' m cc')).heap.size) := ⟨hold, hnewb⟩
      have ho6 := kF.own ho5 (fun g e q => absurd (own_type ho5 e (q ▸ bF5)) (by decide))
      have g3 : W1.cell? ⟨F, 3, none⟩ = some (.slice ca m cc) := (blk_cell bF 3).trans rfl
      have g3a := (Keeps.alloc None W1 (.cells #[] 46)).cell g3 (fun f => f)
      have g5 : w5.cell? ⟨F, 3, none⟩ = some (.slice ca m cc) := (blk_cell bF5 3).trans rfl
      have z5 := blk_free bF5 3
      have H6 : Hid (Ta w (w5.setCell ⟨F, 3, none⟩ (.slice ca' m cc')) B (.slice (some ⟨b, off, none⟩) n c) l k qv tv ∧ (w5.setCell ⟨F, 3, none⟩ (.slice ca' m cc')).ownsRow 0 46 5 (.slice ca' m cc') m (insVals f.code) ∧ (w5.setCell ⟨F, 3, none⟩ (.slice ca' m cc')).heap[F]? = some (.cells #[.int .i64 f.params, .int .i64 f.regs, .int .i64 f.slots, .slice ca' m cc'] 44 (0, 0))) := ⟨hT6, ho6, bF6⟩
      clear hT hf hsn hm hal bF bF5 kF bF6 kwF hT6 ho6 ho5 hk5 hl5 hrf hFB hold hnewb
      go_upto_region 6 with fail
      rw [← hW1, ← hF]
      clear hW1 hF y0 y1 y2 y3 d0
      go_upto_region 7 with (at_builtin; refine wpList_append_run rfl (.tmp 18) (.tmp 20) 42 42 rfl rfl rfl hr5 ?_)
      generalize w5.setCell ⟨F, 3, none⟩ (.slice ca' m cc') = V at *
      have q0 : V.cell? ⟨B + 2, 0, none⟩ = some qv := (cell_of_heap H6.out.1.qb 0).trans rfl
      have f0 : V.cell? ⟨F, 0, none⟩ = some (.int .i64 f.params) := (cell_of_heap H6.out.2.2 0).trans rfl
      have f1 : V.cell? ⟨F, 1, none⟩ = some (.int .i64 f.regs) := (cell_of_heap H6.out.2.2 1).trans rfl
      have f2 : V.cell? ⟨F, 2, none⟩ = some (.int .i64 f.slots) := (cell_of_heap H6.out.2.2 2).trans rfl
      have f3 : V.cell? ⟨F, 3, none⟩ = some (.slice ca' m cc') := (cell_of_heap H6.out.2.2 3).trans rfl
      have hal2 := Keeps.alloc None V (.cells #[.int .i64 f.params, .int .i64 f.regs, .int .i64 f.slots, .slice ca' m cc'] 44)
      have hT7 := H6.out.1.more hal2
      have ho7 := hal2.own H6.out.2.1 (fun _ _ f => f)
      have hln := HC.out.2.1
      have hcl : (l.take k).length = k := by simp; omega
      obtain ⟨b2, cap2, w7, hrn, hoo, hkk, hgg⟩ := fn_append qv (List.zipWith tfCells (l.take k) tv) (.int .i64 f.params) (.int .i64 f.regs) (.int .i64 f.slots) (.slice ca' m cc') k V.heap.size 22 (V.alloc (.cells #[.int .i64 f.params, .int .i64 f.regs, .int .i64 f.slots, .slice ca' m cc'] 44)) (by rw [List.length_zipWith, hcl, hT7.len]; omega) ⟨rfl, rfl, rfl, rfl⟩ hT7.row (by omega) (heap_alloc_new _ _)
      obtain ⟨u1, u2, hnx⟩ := hT7.next (t := (ca', cc')) HT.out.2 (by rw [← HM.out]; exact ho7) hkk (by unfold tfCells at *; rw [← HM.out]; exact hoo) hgg HN.out.1 (fun g hg => ⟨(HN.out.2 g hg).1, (HN.out.2 g hg).2.1, Nat.lt_of_lt_of_le (HN.out.2 g hg).2.2 hal2.size⟩)
      have HX : Hid _ := hnx
      clear hnx hT7 ho7 hal2 hoo hkk hgg hcl hln hr5 g3 g3a g5 z5
      go_wp2_with (at_builtin; refine wpList_append_run rfl (.tmp 24) (.tmp 26) 22 22 rfl rfl rfl hrn ?_)
      exact ⟨⟨k + 1, _, _, by omega, by simp, HX.out⟩, by simp [intOf]; omega⟩
    · have hkn2 : k = n := by omega
      subst hkn2
      have i1 : ¬ (k : Int) < (k : Int) := by omega
      obtain ⟨xa, xc, hqv, hsn⟩ := hT.seen HC.out.2.1
      subst hqv
      have q0 : wr.cell? ⟨B + 2, 0, none⟩ = some (.slice xa k xc) := (cell_of_heap hT.qb 0).trans rfl
      have r0 : wr.cell? ⟨B + 1, 0, none⟩ = some (.slice none 0 0) := (cell_of_heap hT.res 0).trans rfl
      have z0 := blk_free hT.res 0
      have kS : Keeps (· = B + 1) wr (wr.setCell ⟨B + 1, 0, none⟩ (.slice xa k xc)) := Keeps.setCell (S := (· = B + 1)) wr rfl _
      have rs := blk_set (i := 0) hT.res (.slice xa k xc)
      have htk : l.take k = l := List.take_of_length_le (by have := HC.out.2.1; omega)
      have hcp : Cp w.heap.size (wr.setCell ⟨B + 1, 0, none⟩ (.slice xa k xc)) l (.slice xa k xc) tv := by
        have hrow := hT.row
        rw [htk] at hrow
        have hcode := hT.code
        rw [htk] at hcode
        refine ⟨?_, fun i f t hf ht => ?_, by rw [hT.len]; exact HC.out.2.1, hT.low, fun i t g ht hg => (hT.cl i t g ht hg).1, hT.nd⟩
        · have h1 := kS.own hrow (fun g e q => absurd (own_type hrow e (q ▸ hT.res)) (by decide))
          have hq : k = l.length := HC.out.2.1
          generalize l.length = m at hq ⊢
          subst hq
          exact h1
        · exact kS.own (hcode i f t hf ht) (fun g e q => absurd (own_type (hcode i f t hf ht) e (q ▸ hT.res)) (by decide))
      have HQ : Hid (_ ∧ _ ∧ _) := And.intro rs (And.intro hcp (hT.keep.trans kS (fun i e hi => by have := hT.hB; omega)))
      clear hT hsn hcp kS rs htk
      go_wp2_with fail
      exact bodyPost_ret (results_one (q := 2) (ty := 24) rfl rfl (load_prog _ _ _ (.slice xa k xc) HQ.out.1)) rfl (HP.out _ _ ⟨xa, xc, tv, rfl, HQ.out.2.1, HQ.out.2.2⟩)
theorem copied_any (a : Option Addr) (n c : Nat) (l : List Fn) (w : World) (hS : SeenF w a n l) (hr : n * 48 ≤ 140737488351232) (hrc : ∀ f ∈ l, f.code.length * 40 ≤ 140737488351232) :
    Calls Tryd.prog 5 #[.agg #[.slice a n c]] w (CopiedPost w l n) := by
  refine (copied_own a n c l w hS hr hrc).mono ?_
  rintro e w' ⟨a', c', tv, he, hc, hk⟩
  obtain ⟨x, y, hq, hs⟩ := hc.seen
  injection hq with e1 e2 e3
  subst e1
  rw [← hS.len] at hs
  exact ⟨_, _, he, hs, hk⟩
end Go.Proofs.YthignlailbekmaaDoor
/-! The statements' own: two programs, two lists that are the same; a list copied. -/
namespace Go.Proofs.YthignlailbekmaaDoor
set_option linter.unusedVariables false
set_option maxRecDepth 20000
open Go.RowKit Go.HeapKit Go.PlainOps

theorem neqIns6 (a b c d e : Int) (w : World) : (binOp .neq 46 (.agg #[.int .i64 a, .int .i64 b, .int .i64 c, .int .i64 d, .int .i64 e]) (.agg #[.int .i64 a, .int .i64 b, .int .i64 c, .int .i64 d, .int .i64 e])).run Tryd.prog w = .ok (.bool false) w := by
  have u3 := Tryd.underlying3
  have a3 := Tryd.isAgg3
  have z3 := Tryd.sizeOf3
  have u2 := Tryd.underlying2
  have a2 := Tryd.isAgg2
  have z2 := Tryd.sizeOf2
  have hS : Tryd.prog.underlying 46 = some (.struct (Tryd.prog.fieldsOf 46)) := by kernel_rfl
  have hp : Tryd.prog.stoodInHeld 46 = false := by kernel_rfl
  rw [run_neq_struct, show (10000 : Nat) = 9999 + 1 from rfl, run_equalIn_agg w 9999 46 _ _ hS hp]
  simp only [Program.fieldsOf, Tryd.underlying46]
  go_simp
theorem neqVal6 (a b c d e : Int) (w : World) : (binOp .neq 28 (.agg #[.int .i64 a, .int .i64 b, .int .i64 c, .int .i64 d, .int .i64 e]) (.agg #[.int .i64 a, .int .i64 b, .int .i64 c, .int .i64 d, .int .i64 e])).run Tryd.prog w = .ok (.bool false) w := by
  have u3 := Tryd.underlying3
  have a3 := Tryd.isAgg3
  have z3 := Tryd.sizeOf3
  have u2 := Tryd.underlying2
  have a2 := Tryd.isAgg2
  have z2 := Tryd.sizeOf2
  have hS : Tryd.prog.underlying 28 = some (.struct (Tryd.prog.fieldsOf 28)) := by kernel_rfl
  have hp : Tryd.prog.stoodInHeld 28 = false := by kernel_rfl
  rw [run_neq_struct, show (10000 : Nat) = 9999 + 1 from rfl, run_equalIn_agg w 9999 28 _ _ hS hp]
  simp only [Program.fieldsOf, Tryd.underlying28]
  go_simp
theorem eqVal6 (a b c d e : Int) (w : World) : (binOp .eql 28 (.agg #[.int .i64 a, .int .i64 b, .int .i64 c, .int .i64 d, .int .i64 e]) (.agg #[.int .i64 a, .int .i64 b, .int .i64 c, .int .i64 d, .int .i64 e])).run Tryd.prog w = .ok (.bool true) w := by
  have u3 := Tryd.underlying3
  have a3 := Tryd.isAgg3
  have z3 := Tryd.sizeOf3
  have u2 := Tryd.underlying2
  have a2 := Tryd.isAgg2
  have z2 := Tryd.sizeOf2
  have hS : Tryd.prog.underlying 28 = some (.struct (Tryd.prog.fieldsOf 28)) := by kernel_rfl
  have hp : Tryd.prog.stoodInHeld 28 = false := by kernel_rfl
  rw [run_eql_struct, show (10000 : Nat) = 9999 + 1 from rfl, run_equalIn_agg w 9999 28 _ _ hS hp]
  simp only [Program.fieldsOf, Tryd.underlying28]
  go_simp
set_option maxHeartbeats 1000000 in
theorem sameInts_any (a : Option Addr) (n c : Nat) (a' : Option Addr) (c' : Nat) (zs : List Int) (w : World) (hS : SeenA w a n zs) (hS' : SeenA w a' n zs) (hn : (n : Int) ≤ 4611686018427387904) :
    Calls Tryd.prog 9 #[.slice a n c, .slice a' n c'] w fun e w' => e = .returned (.bool true) ∧ Keeps None w w' := by
  have HC : Hid (SeenA w a n zs ∧ SeenA w a' n zs) := ⟨hS, hS'⟩
  clear hS hS'
  go_enter Tryd.func9, Tryd.ntmps9
  go_wp2_with fail
  go_loopw [5] (fun s5 wr => ∃ k : Nat, k ≤ n ∧ s5 = .int .i64 k ∧ Keeps None w wr) (fun i _ => n - (intOf i).toNat)
  case atStart => exact ⟨0, Nat.zero_le _, rfl, Keeps.refl _ _⟩
  case round =>
    obtain ⟨k, hk, rfl, hkp⟩ := hrel
    by_cases hkn : k < n
    · obtain ⟨b, off, rfl, _, hc⟩ := (HC.out.1.more hkp).ex (by omega)
      obtain ⟨b', off', rfl, _, hc'⟩ := (HC.out.2.more hkp).ex (by omega)
      obtain ⟨x, hx⟩ : ∃ x, zs[k]? = some x := ⟨zs[k]'(by have := HC.out.1.len; omega), by simp⟩
      have y0 := hc k x hx
      have y1 := hc' k x hx
      have i1 : (k : Int) < (n : Int) := by omega
      have HK : Hid (Keeps None w wr) := hkp
      clear hkp hx hc hc'
      go_upto_region 6 with fail
      go_quiet (fail)
      go_wp2_with fail
      exact ⟨⟨k + 1, by omega, by simp, HK.out.trans (Keeps.drewN None _ _) (fun _ f _ => f)⟩, by simp [intOf]; omega⟩
    · have i1 : ¬ ((k : Int) < (n : Int)) := by omega
      have HK : Hid (Keeps None w wr) := hkp
      clear hkp
      go_wp2_with fail
      go_ret
      exact ⟨rfl, HK.out⟩
set_option maxHeartbeats 2000000 in
theorem same6_any (a : Option Addr) (n c : Nat) (a' : Option Addr) (c' : Nat) (l : List Fn) (w : World) (hS : SeenF w a n l) (hS' : SeenF w a' n l) (hn : n * 48 ≤ 140737488351232) (hrc : ∀ f ∈ l, f.code.length * 40 ≤ 140737488351232) :
    Calls Tryd.prog 8 #[.agg #[.slice a n c], .agg #[.slice a' n c']] w fun e w' => e = .returned (.bool true) ∧ Keeps None w w' := by
  obtain ⟨b1, b2⟩ := two_boxes w #[.slice a n c] #[.slice a' n c'] 24 24
  have hk := keeps2 w (.cells #[.slice a n c] 24) (.cells #[.slice a' n c'] 24)
  obtain ⟨wa, hwa⟩ : ∃ wa, wa = (w.alloc (.cells #[.slice a n c] 24)).alloc (.cells #[.slice a' n c'] 24) := ⟨_, rfl⟩
  obtain ⟨B, hB⟩ : ∃ B, B = w.heap.size := ⟨_, rfl⟩
  rw [← hwa] at b1 b2 hk
  rw [← hB] at b1 b2
  have d0 : wa.cell? ⟨B, 0, none⟩ = some (.slice a n c) := (blk_cell b1 0).trans rfl
  have e0 : wa.cell? ⟨B + 1, 0, none⟩ = some (.slice a' n c') := (blk_cell b2 0).trans rfl
  have HC : Hid (SeenF wa a n l ∧ SeenF wa a' n l ∧ Keeps None w wa ∧ wa.heap[B]? = some (.cells #[.slice a n c] 24 (0, 0)) ∧ wa.heap[B + 1]? = some (.cells #[.slice a' n c'] 24 (0, 0)) ∧ ∀ f ∈ l, f.code.length * 40 ≤ 140737488351232) := ⟨hS.more hk, hS'.more hk, hk, b1, b2, hrc⟩
  have hnb : (n : Int) ≤ 4611686018427387904 := by omega
  clear hS hS' hk b1 b2 hrc
  go_enter Tryd.func8, Tryd.ntmps8
  go_upto_region 1 with fail
  rw [← hwa, ← hB]
  clear hwa hB
  go_wp2_with fail
  clear d0 e0
  go_loopw [5] (fun s5 wr => ∃ k : Nat, k ≤ n ∧ s5 = .int .i64 k ∧ Keeps None wa wr) (fun i _ => n - (intOf i).toNat)
  case atStart => exact ⟨0, Nat.zero_le _, rfl, Keeps.refl _ _⟩
  case round =>
    obtain ⟨k, hk, rfl, hkp⟩ := hrel
    have d0 : wr.cell? ⟨B, 0, none⟩ = some (.slice a n c) := (blk_cell (blk_kept HC.out.2.2.2.1 hkp (fun f => f)) 0).trans rfl
    have e0 : wr.cell? ⟨B + 1, 0, none⟩ = some (.slice a' n c') := (blk_cell (blk_kept HC.out.2.2.2.2.1 hkp (fun f => f)) 0).trans rfl
    by_cases hkn : k < n
    · obtain ⟨b, off, f, ca, cc, rfl, hf, hat⟩ := (HC.out.1.more hkp).at hkn
      obtain ⟨b', off', f', ca', cc', rfl, hf', hat'⟩ := (HC.out.2.1.more hkp).at hkn
      rw [hf] at hf'
      obtain rfl := Option.some.inj hf'
      obtain ⟨m, hm⟩ : ∃ m, m = f.code.length := ⟨_, rfl⟩
      have hmb := HC.out.2.2.2.2.2 f (List.mem_of_getElem? hf)
      obtain ⟨y0, y1, y2, y3, hsn⟩ := hat
      obtain ⟨u0, u1, u2, u3, hsn'⟩ := hat'
      rw [← hm] at y3 u3 hsn hsn' hmb
      have hmm : (m : Int) ≤ 4611686018427387904 := by omega
      obtain ⟨q1, q2⟩ := two_boxes wr #[.int .i64 f.params, .int .i64 f.regs, .int .i64 f.slots, .slice ca m cc] #[.int .i64 f.params, .int .i64 f.regs, .int .i64 f.slots, .slice ca' m cc'] 44 44
      have hk2 := keeps2 wr (.cells #[.int .i64 f.params, .int .i64 f.regs, .int .i64 f.slots, .slice ca m cc] 44) (.cells #[.int .i64 f.params, .int .i64 f.regs, .int .i64 f.slots, .slice ca' m cc'] 44)
      have hk1 := Keeps.alloc None wr (.cells #[.int .i64 f.params, .int .i64 f.regs, .int .i64 f.slots, .slice ca m cc] 44)
      have e1 := hk1.cell e0 (fun f => f)
      have v0 := hk1.cell u0 (fun f => f)
      have v1 := hk1.cell u1 (fun f => f)
      have v2 := hk1.cell u2 (fun f => f)
      have v3 := hk1.cell u3 (fun f => f)
      obtain ⟨wb, hwb⟩ : ∃ wb, wb = (wr.alloc (.cells #[.int .i64 f.params, .int .i64 f.regs, .int .i64 f.slots, .slice ca m cc] 44)).alloc (.cells #[.int .i64 f.params, .int .i64 f.regs, .int .i64 f.slots, .slice ca' m cc'] 44) := ⟨_, rfl⟩
      obtain ⟨F, hF⟩ : ∃ F, F = wr.heap.size := ⟨_, rfl⟩
      rw [← hwb] at q1 q2 hk2
      rw [← hF] at q1 q2
      have i1 : (k : Int) < (n : Int) := by omega
      have HB : Hid (SeenI wb ca m f.code ∧ SeenI wb ca' m f.code ∧ Keeps None wa wb ∧ wb.heap[F]? = some (.cells #[.int .i64 f.params, .int .i64 f.regs, .int .i64 f.slots, .slice ca m cc] 44 (0, 0)) ∧ wb.heap[F + 1]? = some (.cells #[.int .i64 f.params, .int .i64 f.regs, .int .i64 f.slots, .slice ca' m cc'] 44 (0, 0))) := ⟨hsn.more hk2, hsn'.more hk2, hkp.trans hk2 (fun _ f _ => f), q1, q2⟩
      have x0 : wb.cell? ⟨F, 0, none⟩ = some (.int .i64 f.params) := (blk_cell q1 0).trans rfl
      have x1 : wb.cell? ⟨F, 1, none⟩ = some (.int .i64 f.regs) := (blk_cell q1 1).trans rfl
      have x2 : wb.cell? ⟨F, 2, none⟩ = some (.int .i64 f.slots) := (blk_cell q1 2).trans rfl
      have x3 : wb.cell? ⟨F, 3, none⟩ = some (.slice ca m cc) := (blk_cell q1 3).trans rfl
      have z0 : wb.cell? ⟨F + 1, 0, none⟩ = some (.int .i64 f.params) := (blk_cell q2 0).trans rfl
      have z1 : wb.cell? ⟨F + 1, 1, none⟩ = some (.int .i64 f.regs) := (blk_cell q2 1).trans rfl
      have z2 : wb.cell? ⟨F + 1, 2, none⟩ = some (.int .i64 f.slots) := (blk_cell q2 2).trans rfl
      have z3 : wb.cell? ⟨F + 1, 3, none⟩ = some (.slice ca' m cc') := (blk_cell q2 3).trans rfl
      clear hkp hf hsn hsn' hm q1 q2 hk2 hk1
      go_upto_region 8 with fail
      rw [← hwb, ← hF]
      clear hwb hF y0 y1 y2 y3 u0 u1 u2 u3 v0 v1 v2 v3 d0 e0 e1
      go_wp2_with fail
      clear x0 x1 x2 x3 z0 z1 z2 z3
      go_loopw [8] (fun s8 wy => ∃ j : Nat, j ≤ m ∧ s8 = .int .i64 j ∧ Keeps None wb wy) (fun i _ => m - (intOf i).toNat)
      case atStart => exact ⟨0, Nat.zero_le _, rfl, Keeps.refl _ _⟩
      case round =>
        obtain ⟨j, hj, rfl, hkq⟩ := hrel
        have d3 : wr.cell? ⟨F, 3, none⟩ = some (.slice ca m cc) := (blk_cell (blk_kept HB.out.2.2.2.1 hkq (fun f => f)) 3).trans rfl
        have e3 : wr.cell? ⟨F + 1, 3, none⟩ = some (.slice ca' m cc') := (blk_cell (blk_kept HB.out.2.2.2.2 hkq (fun f => f)) 3).trans rfl
        by_cases hjm : j < m
        · obtain ⟨g, o, x, rfl, hx, hat⟩ := (HB.out.1.more hkq).at hjm
          obtain ⟨g', o', x', rfl, hx', hat'⟩ := (HB.out.2.1.more hkq).at hjm
          rw [hx] at hx'
          obtain rfl := Option.some.inj hx'
          obtain ⟨y0, y1, y2, y3, y4⟩ := hat
          obtain ⟨u0, u1, u2, u3, u4⟩ := hat'
          have i2 : (j : Int) < (m : Int) := by omega
          have hne := neqIns6 x.kind x.a x.b x.c x.k
          have HK : Hid (Keeps None wb wr) := hkq
          clear hkq hx
          go_upto_region 13 with fail
          go_quiet (fail)
          go_wp2_with fail
          exact ⟨⟨j + 1, by omega, by simp, HK.out.trans (Keeps.drewN None _ _) (fun _ f _ => f)⟩, by simp [intOf]; omega⟩
        · have i2 : ¬ ((j : Int) < (m : Int)) := by omega
          have HK : Hid (Keeps None wb wr) := hkq
          clear hkq
          go_wp2_with fail
          exact ⟨⟨k + 1, by omega, by simp, HB.out.2.2.1.trans HK.out (fun _ f _ => f)⟩, by simp [intOf]; omega⟩
    · have i1 : ¬ ((k : Int) < (n : Int)) := by omega
      have HK : Hid (Keeps None wa wr) := hkp
      clear hkp
      go_wp2_with fail
      go_ret
      exact ⟨rfl, HC.out.2.2.1.trans HK.out (fun _ f _ => f)⟩
end Go.Proofs.YthignlailbekmaaDoor
/-! pay, wait, leave. -/
namespace Go.Proofs.YthignlailbekmaaDoor
set_option linter.unusedVariables false
set_option maxRecDepth 20000
open Go.RowKit Go.HeapKit Go.PlainOps

theorem pay_out (R X : Nat) (fv nv : Value) (L : Bool) (s : Rn) (w : World) (h : IsRn w R fv L s nv) (h0 : s.fuel = 0) :
    Calls Tryd.prog 24 #[.pointer (some ⟨R, 0, none⟩), .pointer (some ⟨X, 0, none⟩)] w fun e w' => e = .panicked (thrownE 62) ∧ w' = w := by
  have c1 : w.cell? ⟨R, 1, none⟩ = some (.int .i64 0) := by rw [blk_cell h.blk]; simp [h0]
  clear h h0
  go_enter Tryd.func24, Tryd.ntmps24
  go_wp2_with (go_at_call 22; refine (sgiveUp_any _ _).mono ?_; rintro _ w' ⟨rfl, rfl⟩)
  exact ⟨rfl, rfl, rfl⟩
theorem pay_any (R X : Nat) (fv nv : Value) (L : Bool) (s : Rn) (at_ : Int) (t : Tk) (w : World) (h : IsRn w R fv L s nv) (ht : IsTk w X at_ t) (h0 : s.fuel ≠ 0) (hs : s.fuel ≤ 8388608) (b1 : 0 ≤ t.node.work ∧ t.node.work ≤ 8388608) (b2 : 0 ≤ t.span ∧ t.span ≤ 8388608) :
    Calls Tryd.prog 24 #[.pointer (some ⟨R, 0, none⟩), .pointer (some ⟨X, 0, none⟩)] w fun e w' => e = .returned (.tuple #[]) ∧ IsRn w' R fv L (payS s) nv ∧ IsTk w' X at_ (payT t) ∧ Keeps (fun k => k = R ∨ k = X) w w' := by
  obtain ⟨m, hm⟩ : ∃ m, s.fuel = m + 1 := ⟨s.fuel - 1, by omega⟩
  obtain ⟨F, hF⟩ : ∃ F : Int, F = (m : Int) + 1 := ⟨_, rfl⟩
  have c1 : w.cell? ⟨R, 1, none⟩ = some (.int .i64 F) := by rw [blk_cell h.blk]; simp [hm, hF]
  have c2 := ht.tail 3 rfl
  have c3 := ht.tail 9 rfl
  have z1 := blk_free h.blk 1
  have z2 := ht.free 31
  have z3 := ht.free 37
  have n1 := h.ne ht
  have n2 := n1.symm
  have f1 : (F == 0) = false := by simp; omega
  have f2 : F ≤ 8388609 := by omega
  have f3 : 1 ≤ F := by omega
  have k1 : Keeps (· = R) w (w.setCell ⟨R, 1, none⟩ (.int .i64 (F - 1))) := Keeps.setCell (S := (· = R)) w (a := ⟨R, 1, none⟩) rfl _
  have r1 : IsRn (w.setCell ⟨R, 1, none⟩ (.int .i64 (F - 1))) R fv L (payS s) nv := h.put rfl (by simp [payS, hm, hF])
  have t1 := ht.kept k1 n2
  have t2 := t1.putTail (nf' := t.node.func) (np' := t.node.ped) (t' := { t with node := { t.node with work := t.node.work + 1 } }) (j := 3) (x := t.node.work + 1) rfl rfl rfl
  have t3 := t2.putTail (nf' := t.node.func) (np' := t.node.ped) (t' := payT t) (j := 9) (x := t.span + 1) rfl rfl rfl
  have k2 : Keeps (· = X) (w.setCell ⟨R, 1, none⟩ (.int .i64 (F - 1))) _ := ((Keeps.refl (· = X) _).andSet (x := ⟨X, 31, none⟩) (.inl rfl) (.int .i64 (t.node.work + 1))).andSet (x := ⟨X, 37, none⟩) (.inl rfl) (.int .i64 (t.span + 1))
  have HH : Hid _ := And.intro (r1.kept k2 (fun k hk e => by subst e; rcases hk with hk | hk; exact n2 hk; exact r1.nX t1 hk)) (And.intro t3 ((k1.mono (fun _ e _ => Or.inl e)).trans k2 (fun _ e _ => Or.inr e)))
  clear h ht k1 r1 t1 t2 t3 k2 hF hm h0 hs
  obtain ⟨W, hW⟩ : ∃ W, W = t.node.work := ⟨_, rfl⟩
  obtain ⟨P, hP⟩ : ∃ P, P = t.span := ⟨_, rfl⟩
  go_enter Tryd.func24, Tryd.ntmps24
  go_wp2_with fail
  go_end0
  exact ⟨rfl, HH.out⟩
end Go.Proofs.YthignlailbekmaaDoor
/-! wait, leave, enter. -/
namespace Go.Proofs.YthignlailbekmaaDoor
set_option linter.unusedVariables false
set_option maxRecDepth 20000
open Go.RowKit Go.HeapKit Go.PlainOps

theorem wrap_small {x : Int} (h : -9223372036854775808 ≤ x ∧ x ≤ 9223372036854775807) : IntKind.i64.wrap x = x := by
  simp [IntKind.wrap, IntKind.bits, IntKind.signed]; omega
theorem wait_any (X : Nat) (at_ : Int) (t : Tk) (w : World) (ht : IsTk w X at_ t) (b1 : 0 ≤ t.due ∧ t.due ≤ 8388608) (b2 : 0 ≤ t.span ∧ t.span ≤ 8388608) :
    Calls Tryd.prog 26 #[.pointer (some ⟨X, 0, none⟩)] w fun e w' => e = .returned (.tuple #[]) ∧ IsTk w' X at_ (waitT t) ∧ Keeps (· = X) w w' := by
  have c1 := ht.tail 9 rfl
  have c2 := ht.tail 10 rfl
  have z1 := ht.free 37
  have t1 := ht.putTail (nf' := t.node.func) (np' := t.node.ped) (t' := waitT t) (j := 9) (x := imax t.span (t.due + 1)) rfl rfl rfl
  have k1 : Keeps (· = X) w _ := (Keeps.refl (· = X) w).andSet (x := ⟨X, 37, none⟩) (.inl rfl) (.int .i64 (imax t.span (t.due + 1)))
  have HH : Hid _ := And.intro (t1.kept (Keeps.drew None _) (fun f => f)) k1.andDrew
  clear ht t1 k1
  go_enter Tryd.func26, Tryd.ntmps26
  go_wp2_with fail
  go_region
  all_goals go_end0
  all_goals exact ⟨rfl, HH.out⟩
theorem leave_off (R X : Nat) (fv nv : Value) (s : Rn) (at_ : Int) (t : Tk) (w : World) (h : IsRn w R fv false s nv) :
    Calls Tryd.prog 27 #[.pointer (some ⟨R, 0, none⟩), .pointer (some ⟨X, 0, none⟩)] w fun e w' => e = .returned (.tuple #[]) ∧ w' = w := by
  have c1 : w.cell? ⟨R, 4, none⟩ = some (.bool false) := (blk_cell h.blk 4).trans rfl
  clear h
  go_enter Tryd.func27, Tryd.ntmps27
  go_wp2_with fail
  go_end0
  exact ⟨rfl, rfl⟩
theorem leave_on (R X : Nat) (fv nv : Value) (s : Rn) (at_ : Int) (t : Tk) (w : World) (h : IsRn w R fv true s nv) (ht : IsTk w X at_ t) (hn : 0 ≤ t.number ∧ t.number < s.nodes.length) :
    Calls Tryd.prog 27 #[.pointer (some ⟨R, 0, none⟩), .pointer (some ⟨X, 0, none⟩)] w fun e w' => e = .returned (.tuple #[]) ∧ IsRn w' R fv true (leaveS true s t) nv ∧ IsTk w' X at_ t ∧ Keeps (RFoot R nv) w w' := by
  have hL := ndVals_length s.nodes
  have nX := h.nX ht
  have nR := h.nR
  rcases h.row.2 with ⟨_, h0⟩ | ⟨g, cap, cur, rfl, hb, hg, hnc, hcm, hcs, htk⟩
  · omega
  · obtain ⟨k, hk⟩ := Int.eq_ofNat_of_zero_le hn.1
    have hk2 : k < s.nodes.length := by omega
    have c1 : w.cell? ⟨R, 4, none⟩ = some (.bool true) := (blk_cell h.blk 4).trans rfl
    have c2 : w.cell? ⟨R, 5, none⟩ = some (.slice (some ⟨g, 0, none⟩) s.nodes.length cap) := (blk_cell h.blk 5).trans rfl
    have d0 := ht.tail 0 rfl
    have d1 := ht.tail 1 rfl
    have d2 := ht.tail 2 rfl
    have d3 := ht.tail 3 rfl
    have d4 := ht.tail 4 rfl
    have d5 := ht.tail 5 rfl
    have d6 := ht.tail 6 rfl
    have d7 : w.cell? ⟨X, 35, none⟩ = some (.int .i64 (k : Int)) := by rw [← hk]; exact ht.tail 7 rfl
    have z : ∀ j, w.frozen? ⟨g, j, none⟩ = false := fun j => blk_free hg j
    have z0 := z (k * 7)
    have z1 := z (k * 7 + 1)
    have z2 := z (k * 7 + 2)
    have z3 := z (k * 7 + 3)
    have z4 := z (k * 7 + 4)
    have z5 := z (k * 7 + 5)
    have z6 := z (k * 7 + 6)
    have hsz : s.nodes.length * 7 ≤ cur.size := by rw [hcs]; exact Nat.mul_le_mul_right _ hnc
    have at_ : ∀ j, j < 7 → ∃ v, w.cell? ⟨g, k * 7 + j, none⟩ = some v := fun j hj => ⟨cur[k * 7 + j]'(by omega), by rw [blk_cell hg]; simp⟩
    obtain ⟨v0, y0⟩ := at_ 0 (by omega)
    obtain ⟨v1, y1⟩ := at_ 1 (by omega)
    obtain ⟨v2, y2⟩ := at_ 2 (by omega)
    obtain ⟨v3, y3⟩ := at_ 3 (by omega)
    obtain ⟨v4, y4⟩ := at_ 4 (by omega)
    obtain ⟨v5, y5⟩ := at_ 5 (by omega)
    obtain ⟨v6, y6⟩ := at_ 6 (by omega)
    simp only [Nat.add_zero] at y0
    have i1 : (k : Int) < (s.nodes.length : Int) := by omega
    obtain ⟨w2, hw2⟩ : ∃ w2, w2 = ((((((w.setCell ⟨g, k * 7, none⟩ (.int .i64 t.node.parent)).setCell ⟨g, k * 7 + 1, none⟩ (.int .i64 t.node.idx)).setCell ⟨g, k * 7 + 2, none⟩ (.int .i64 t.node.func)).setCell ⟨g, k * 7 + 3, none⟩ (.int .i64 t.node.work)).setCell ⟨g, k * 7 + 4, none⟩ (.int .i64 t.node.ped)).setCell ⟨g, k * 7 + 5, none⟩ (.int .i64 t.node.arg)).setCell ⟨g, k * 7 + 6, none⟩ (.int .i64 t.node.v) := ⟨_, rfl⟩
    have hk1 : Keeps (· = g) w w2 := by
      rw [hw2]
      exact (((((((Keeps.refl (· = g) w).andSet (x := ⟨g, k * 7, none⟩) (.inl rfl) _).andSet (x := ⟨g, k * 7 + 1, none⟩) (.inl rfl) _).andSet (x := ⟨g, k * 7 + 2, none⟩) (.inl rfl) _).andSet (x := ⟨g, k * 7 + 3, none⟩) (.inl rfl) _).andSet (x := ⟨g, k * 7 + 4, none⟩) (.inl rfl) _).andSet (x := ⟨g, k * 7 + 5, none⟩) (.inl rfl) _).andSet (x := ⟨g, k * 7 + 6, none⟩) (.inl rfl) _
    have ngX : g ≠ X := fun e => nX (by rw [← e]; rfl)
    have ngR : g ≠ R := fun e => nR (by rw [← e]; rfl)
    have hrn : IsRn w2 R fv true (leaveS true s t) (.slice (some ⟨g, 0, none⟩) s.nodes.length cap) := by
      refine ⟨blk_kept h.blk hk1 (fun e => ngR e.symm), ?_⟩
      have hlen : (leaveS true s t).nodes.length = s.nodes.length := by simp [leaveS]
      rw [hlen]
      refine ⟨by rw [ndVals_length, hlen], .inr ⟨g, cap, _, rfl, hb, by rw [hw2]; exact blk_set (blk_set (blk_set (blk_set (blk_set (blk_set (blk_set hg _) _) _) _) _) _) _, hnc, hcm, by simpa using hcs, ?_⟩⟩
      have e : (leaveS true s t).nodes = s.nodes.set k t.node := by simp [leaveS, hk]
      rw [e, ← ndVals_set s.nodes k t.node hk2]
      simp only [Array.toList_setIfInBounds]
      have hall : ∀ (l : List Value) (q : Nat) (v : Value), (l.set q v).take (s.nodes.length * 7) = (l.take (s.nodes.length * 7)).set q v := fun l q v => by rw [List.take_set]
      rw [hall, hall, hall, hall, hall, hall, hall, htk]
    have HH : Hid _ := And.intro (hrn.kept (Keeps.drew None _) (fun _ _ f => f)) (And.intro ((ht.kept hk1 (fun e => ngX e.symm)).kept (Keeps.drew None _) (fun f => f)) (hk1.andDrew.mono (fun i e _ => (Or.inr (by subst e; rfl) : RFoot R (.slice (some ⟨g, 0, none⟩) s.nodes.length cap) i))))
    rw [hw2] at HH
    clear h ht hrn hk1 hw2 at_ z
    go_enter Tryd.func27, Tryd.ntmps27
    go_wp2_with fail
    go_region
    all_goals go_end0
    all_goals exact ⟨rfl, HH.out⟩
end Go.Proofs.YthignlailbekmaaDoor
/-! enter. -/
namespace Go.Proofs.YthignlailbekmaaDoor
set_option linter.unusedVariables false
set_option maxRecDepth 20000
set_option linter.unusedSimpArgs false
open Go.RowKit Go.HeapKit Go.PlainOps

theorem enter_deep (R X : Nat) (t : Tk) (w : World) (ht : IsTkN w X 0 0 0 t) (hd : 4096 < t.depth) :
    Calls Tryd.prog 23 #[.pointer (some ⟨R, 0, none⟩), .pointer (some ⟨X, 0, none⟩)] w fun e w' => e = .panicked (thrownE 63) ∧ w' = w := by
  have c1 := ht.tail 8 rfl
  clear ht
  go_enter Tryd.func23, Tryd.ntmps23
  go_wp2_with (go_at_call 22; refine (sgiveUp_any _ _).mono ?_; rintro _ w' ⟨rfl, rfl⟩)
  exact ⟨rfl, rfl, rfl⟩
/-- What 'enter' does ahead of the node's own cells. -/
def entW (w : World) (R X : Nat) (T0 M : Int) : World := (((w.setCell ⟨X, 35, none⟩ (.int .i64 T0)).setCell ⟨R, 2, none⟩ (.int .i64 (T0 + 1))).setCell ⟨R, 3, none⟩ (.int .i64 M)).drew
theorem entered {R X : Nat} {fv nv : Value} {L : Bool} {s : Rn} {t : Tk} {w : World} (h : IsRn w R fv L s nv) (ht : IsTkN w X 0 0 0 t) :
    IsRn (entW w R X s.tasks (imax s.depth t.depth)) R fv L { s with tasks := s.tasks + 1, depth := imax s.depth t.depth } nv ∧
    IsTkN (entW w R X s.tasks (imax s.depth t.depth)) X 0 0 0 { t with number := s.tasks } ∧
    Keeps (fun k => k = R ∨ k = X) w (entW w R X s.tasks (imax s.depth t.depth)) := by
  have n1 := h.ne ht
  have ka : Keeps (· = X) w (w.setCell ⟨X, 35, none⟩ (.int .i64 s.tasks)) := Keeps.setCell (S := (· = X)) w (a := ⟨X, 35, none⟩) rfl _
  have ta := ht.putTail (nf' := 0) (np' := 0) (t' := { t with number := s.tasks }) (j := 7) (x := s.tasks) rfl rfl rfl
  have ra := h.kept ka (fun k hk e => by subst e; rcases hk with hk | hk; exact n1 hk.symm; exact h.nX ht hk)
  have rb := ra.put (k := 2) (x := (s.tasks : Int) + 1) (s' := { s with tasks := s.tasks + 1 }) rfl (by simp)
  have kb : Keeps (· = R) _ _ := Keeps.setCell (S := (· = R)) (w.setCell ⟨X, 35, none⟩ (.int .i64 s.tasks)) (a := ⟨R, 2, none⟩) rfl (.int .i64 ((s.tasks : Int) + 1))
  have tb := ta.kept kb n1.symm
  have rc := rb.put (k := 3) (x := imax s.depth t.depth) (s' := { s with tasks := s.tasks + 1, depth := imax s.depth t.depth }) rfl (by simp)
  have kc : Keeps (· = R) _ _ := Keeps.setCell (S := (· = R)) ((w.setCell ⟨X, 35, none⟩ (.int .i64 s.tasks)).setCell ⟨R, 2, none⟩ (.int .i64 ((s.tasks : Int) + 1))) (a := ⟨R, 3, none⟩) rfl (.int .i64 (imax s.depth t.depth))
  have tc := tb.kept kc n1.symm
  have kd := Keeps.drew None (((w.setCell ⟨X, 35, none⟩ (.int .i64 s.tasks)).setCell ⟨R, 2, none⟩ (.int .i64 ((s.tasks : Int) + 1))).setCell ⟨R, 3, none⟩ (.int .i64 (imax s.depth t.depth)))
  refine ⟨rc.kept kd (fun _ _ f => f), tc.kept kd (fun f => f), ?_⟩
  exact (((ka.mono (fun _ e _ => Or.inr e)).trans kb (fun _ e _ => Or.inl e)).trans kc (fun _ e _ => Or.inl e)).trans kd (fun _ f _ => f.elim)
/-- The node's own cells. -/
def entN (W : World) (X : Nat) (F P A0 : Int) : World := (((W.setCell ⟨X, 30, none⟩ (.int .i64 F)).setCell ⟨X, 32, none⟩ (.int .i64 P)).setCell ⟨X, 33, none⟩ (.int .i64 A0)).drew
theorem entered2 {R X : Nat} {fv nv : Value} {L : Bool} {s s' : Rn} {t : Tk} {W : World} (h : IsRn W R fv L s nv) (ht : IsTkN W X 0 0 0 { t with number := s'.tasks }) :
    IsRn (entN W X t.node.func t.node.ped (t.regs.getD 0 0)) R fv L s nv ∧ IsTk (entN W X t.node.func t.node.ped (t.regs.getD 0 0)) X 0 (enterT s' t) ∧ Keeps (· = X) W (entN W X t.node.func t.node.ped (t.regs.getD 0 0)) := by
  have n1 := h.ne ht
  have ta := ht.putTail (nf' := t.node.func) (np' := 0) (t' := { t with number := s'.tasks }) (j := 2) (x := t.node.func) rfl rfl rfl
  have tb := ta.putTail (nf' := t.node.func) (np' := t.node.ped) (t' := { t with number := s'.tasks }) (j := 4) (x := t.node.ped) rfl rfl rfl
  have tc := tb.putTail (nf' := t.node.func) (np' := t.node.ped) (t' := enterT s' t) (j := 5) (x := t.regs.getD 0 0) rfl rfl rfl
  have kk : Keeps (· = X) W _ := (((Keeps.refl (· = X) W).andSet (x := ⟨X, 30, none⟩) (.inl rfl) (.int .i64 t.node.func)).andSet (x := ⟨X, 32, none⟩) (.inl rfl) (.int .i64 t.node.ped)).andSet (x := ⟨X, 33, none⟩) (.inl rfl) (.int .i64 (t.regs.getD 0 0))
  exact ⟨h.kept kk.andDrew (fun k hk e => by subst e; rcases hk with hk | hk; exact n1 hk.symm; exact h.nX ht hk), tc.kept (Keeps.drew None _) (fun f => f), kk.andDrew⟩
set_option maxHeartbeats 1000000 in
theorem enter_off (R X : Nat) (fv nv : Value) (s : Rn) (t : Tk) (w : World) (h : IsRn w R fv false s nv) (ht : IsTkN w X 0 0 0 t) (hd : ¬ 4096 < t.depth) (b1 : s.tasks ≤ 8388608) :
    Calls Tryd.prog 23 #[.pointer (some ⟨R, 0, none⟩), .pointer (some ⟨X, 0, none⟩)] w fun e w' => e = .returned (.tuple #[]) ∧ IsRn w' R fv false (enterS false s t) nv ∧ IsTk w' X 0 (enterT s t) ∧ Keeps (fun k => k = R ∨ k = X) w w' := by
  have c1 := ht.tail 8 rfl
  have c2 : w.cell? ⟨R, 2, none⟩ = some (.int .i64 s.tasks) := (blk_cell h.blk 2).trans rfl
  have c3 : w.cell? ⟨R, 3, none⟩ = some (.int .i64 s.depth) := (blk_cell h.blk 3).trans rfl
  have c4 : w.cell? ⟨R, 4, none⟩ = some (.bool false) := (blk_cell h.blk 4).trans rfl
  have c7 := ht.tail 7 rfl
  have z1 := ht.free 35
  have z3 := blk_free h.blk 2
  have z4 := blk_free h.blk 3
  have n1 := h.ne ht
  have n2 := n1.symm
  obtain ⟨h2, t2, k2⟩ := entered h ht
  obtain ⟨h3, t3, k3⟩ := entered2 (s' := s) h2 t2
  have HH : Hid (IsRn (entN (entW w R X s.tasks (imax s.depth t.depth)) X t.node.func t.node.ped (t.regs.getD 0 0)) R fv false (enterS false s t) nv ∧ IsTk (entN (entW w R X s.tasks (imax s.depth t.depth)) X t.node.func t.node.ped (t.regs.getD 0 0)) X 0 (enterT s t) ∧ Keeps (fun k => k = R ∨ k = X) w (entN (entW w R X s.tasks (imax s.depth t.depth)) X t.node.func t.node.ped (t.regs.getD 0 0))) := ⟨h3, t3, k2.trans k3 (fun _ e _ => .inr e)⟩
  have d1 := t2.tsk.func
  have d2 := t2.tsk.ped
  have d3 := t2.reg (k := 0) (by omega)
  have d4 : (entW w R X s.tasks (imax s.depth t.depth)).cell? ⟨R, 4, none⟩ = some (.bool false) := (blk_cell h2.blk 4).trans rfl
  have e1 := t2.tail 2 rfl
  have e2 := t2.tail 4 rfl
  have e3 := t2.tail 5 rfl
  have f1 := t2.free 30
  have f2 := t2.free 32
  have f3 := t2.free 33
  clear h ht h2 t2 k2 h3 t3 k3
  obtain ⟨T0, hT0⟩ : ∃ T0 : Int, T0 = s.tasks := ⟨_, rfl⟩
  rw [← hT0] at c2 HH d1 d2 d3 d4 e1 e2 e3 f1 f2 f3
  have b2 : 0 ≤ T0 ∧ T0 ≤ 8388608 := by omega
  obtain ⟨W, hW⟩ : ∃ W, W = entW w R X T0 (imax s.depth t.depth) := ⟨_, rfl⟩
  rw [← hW] at HH d1 d2 d3 d4 e1 e2 e3 f1 f2 f3
  unfold entN at HH
  clear hT0
  have dd1 : W.cell? ⟨X, 0, none⟩ = some (.int .i64 t.node.func) := d1
  have dd2 : W.cell? ⟨X, 18, none⟩ = some (.int .i64 t.node.ped) := d2
  have dd3 : W.cell? ⟨X, 2, none⟩ = some (.int .i64 (t.regs.getD 0 0)) := d3
  clear d1 d2 d3
  unfold entW at hW
  have HW : Hid _ := hW
  clear hW
  generalize t.regs.getD 0 0 = A0 at *
  go_enter Tryd.func23, Tryd.ntmps23
  by_cases hlt : s.depth < t.depth
  · have e : imax s.depth t.depth = t.depth := if_pos hlt
    rw [e] at HW
    clear e
    go_wp2_with fail
    go_region
    all_goals go_upto_region 5 with fail
    all_goals rw [← HW.out]
    all_goals clear c1 c2 c3 c4 c7 z1 z3 z4 HW
    all_goals go_region
    all_goals go_wp2_with fail
    all_goals go_end0
    all_goals exact ⟨rfl, HH.out⟩
  · have e : imax s.depth t.depth = s.depth := if_neg hlt
    rw [e] at HW
    clear e
    go_wp2_with fail
    go_region
    all_goals go_upto_region 5 with fail
    all_goals rw [← HW.out]
    all_goals clear c1 c2 c3 c4 c7 z1 z3 z4 HW
    all_goals go_region
    all_goals go_wp2_with fail
    all_goals go_end0
    all_goals exact ⟨rfl, HH.out⟩
end Go.Proofs.YthignlailbekmaaDoor
