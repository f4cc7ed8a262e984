import Derived.Test.YtoehkjfdaolcnaaDoorPkAC
import Derived.Deep.RegionHeld3
import Derived.Deep.QuietTactic
import Derived.Deep.DeepCutAuto
import Derived.BigQuiet
import Derived.Deep.RegionWith
import Derived.OwnWalk
/-! Whether an instruction may be. -/
namespace Go.Proofs.YtoehkjfdaolcnaaDoor
set_option linter.unusedVariables false
set_option maxRecDepth 20000
open Go.RowKit Go.HeapKit

def codeV (number : Int) (f : Fn) (ca : Option Addr) (cc : Nat) (fa : Option Addr) (fn fc : Nat) (al : Bool) : Value :=
  .agg #[.int .i64 number, .int .i64 f.params, .int .i64 f.regs, .int .i64 f.slots, .slice ca f.code.length cc, .slice fa fn fc, .bool al]
theorem sub_small {r x : Int} (hr : 0 ≤ r ∧ r ≤ 16) (hx : okI x) (h0 : 0 ≤ x) : wrap64 (r - x) = r - x := by
  unfold okI at hx
  unfold wrap64
  omega
theorem holds_any (number : Int) (f : Fn) (ca : Option Addr) (cc : Nat) (fa : Option Addr) (fn fc : Nat) (al : Bool) (first n : Int) (w : World) (hr : 0 ≤ f.regs ∧ f.regs ≤ 16) (hx : okI first) :
    Calls Tryd.prog 83 #[codeV number f ca cc fa fn fc al, .int .i64 first, .int .i64 n] w fun e w' => e = .returned (.bool (holdsV f first n)) ∧ Keeps None w w' := by
  unfold codeV
  go_enter Tryd.func83, Tryd.ntmps83
  go_wp2
  all_goals first
    | (go_ret; refine ⟨?_, (Keeps.refl _ _).andAlloc _⟩; simp [holdsV, *]; done)
    | (go_ret; refine ⟨?_, (Keeps.refl _ _).andAlloc _⟩; rw [sub_small hr hx (by omega)]; simp [holdsV, *]; done)
    | (rename_i h1 h2; have h3 : ¬ 0 ≤ first := by omega
       go_ret; refine ⟨?_, (Keeps.refl _ _).andAlloc _⟩; simp [holdsV, h1, h3]; done)
theorem keeps2 (w : World) (a b : Obj) : Keeps None w ((w.alloc a).alloc b) := ((Keeps.refl _ _).andAlloc _).andAlloc _
theorem two_boxes (w : World) (c1 c2 : Array Value) (t1 t2 : TypeId) : ((w.alloc (.cells c1 t1)).alloc (.cells c2 t2)).heap[w.heap.size]? = some (.cells c1 t1 (0, 0)) ∧ ((w.alloc (.cells c1 t1)).alloc (.cells c2 t2)).heap[w.heap.size + 1]? = some (.cells c2 t2 (0, 0)) := by
  refine ⟨?_, ?_⟩
  · rw [Below.heap_alloc (w.alloc (.cells c1 t1)) _ w.heap.size (by simp)]
    exact heap_alloc_new w _
  · have := heap_alloc_new (w.alloc (.cells c1 t1)) (.cells c2 t2)
    simpa using this
theorem allows_plain (al : Bool) (number : Int) (f : Fn) (ca : Option Addr) (cc : Nat) (fa : Option Addr) (fn fc : Nat) (what x : Int) (i : Ins) (w : World) (fs : List Fn) (hl : al = false → fn = fs.length) (h5 : (what == 5) = false) :
    Calls Tryd.prog 80 #[codeV number f ca cc fa fn fc al, .int .i64 what, .int .i64 x, insV i] w fun e w' => e = .returned (.bool (allowsV al fs f what x i)) ∧ Keeps None w w' := by
  unfold codeV insV
  cases al
  all_goals
    go_enter Tryd.func80, Tryd.ntmps80
    go_wp2_with (go_at_call 79; refine (below_any _ _ _).mono ?_; rintro e w' ⟨rfl, rfl⟩)
  all_goals first
    | (go_ret; refine ⟨?_, keeps2 _ _ _⟩; simp_all [allowsV]; done)
theorem allows_args (number : Int) (f : Fn) (ca : Option Addr) (cc : Nat) (fa : Option Addr) (fn fc : Nat) (x : Int) (i : Ins) (w : World) (fs : List Fn) (hS : SeenF w fa fn fs) (hb0 : 0 ≤ i.b) (hb1 : i.b < fn) (hr : 0 ≤ f.regs ∧ f.regs ≤ 16) (hx : okI x) :
    Calls Tryd.prog 80 #[codeV number f ca cc fa fn fc false, .int .i64 5, .int .i64 x, insV i] w fun e w' => e = .returned (.bool (allowsV false fs f 5 x i)) ∧ Keeps None w w' := by
  obtain ⟨ik, ia, ib, ic, iK⟩ := i
  simp only at hb0 hb1
  obtain ⟨k, rfl⟩ := Int.eq_ofNat_of_zero_le hb0
  obtain ⟨b, off, g, ca', cc', rfl, hg, hat⟩ := hS.at (k := k) (by omega)
  have hkn : k < fn := by omega
  have hk : Keeps None w ((w.alloc (Obj.cells #[.int .i64 number, .int .i64 f.params, .int .i64 f.regs, .int .i64 f.slots, .slice ca f.code.length cc, .slice (some ⟨b, off, none⟩) fn fc, .bool false] 83)).alloc (Obj.cells #[.int .i64 ik, .int .i64 ia, .int .i64 k, .int .i64 ic, .int .i64 iK] 39)) := keeps2 _ _ _
  have hat2 := hat.more hk
  have c0 := hat2.params
  have hv : allowsV false fs f 5 x ⟨ik, ia, k, ic, iK⟩ = holdsV f x g.params := by simp [allowsV, parV, hg]
  rw [hv]
  clear hv hS hat hat2
  have hc : ∀ wx, Calls Tryd.prog 83 #[.agg #[.int .i64 number, .int .i64 f.params, .int .i64 f.regs, .int .i64 f.slots, .slice ca f.code.length cc, .slice (some ⟨b, off, none⟩) fn fc, .bool false], .int .i64 x, .int .i64 g.params] wx fun e w' => e = .returned (.bool (holdsV f x g.params)) ∧ Keeps None wx w' := fun wx => holds_any number f ca cc _ fn fc false x _ wx hr hx
  unfold codeV insV
  obtain ⟨b1, b2⟩ := two_boxes w #[.int .i64 number, .int .i64 f.params, .int .i64 f.regs, .int .i64 f.slots, .slice ca f.code.length cc, .slice (some ⟨b, off, none⟩) fn fc, .bool false] #[.int .i64 ik, .int .i64 ia, .int .i64 k, .int .i64 ic, .int .i64 iK] 83 39
  generalize hw0 : ((w.alloc (Obj.cells #[.int .i64 number, .int .i64 f.params, .int .i64 f.regs, .int .i64 f.slots, .slice ca f.code.length cc, .slice (some ⟨b, off, none⟩) fn fc, .bool false] 83)).alloc (Obj.cells #[.int .i64 ik, .int .i64 ia, .int .i64 k, .int .i64 ic, .int .i64 iK] 39)) = w0 at hk c0 b1 b2
  have d0 := (cell_of_heap b1 0).trans rfl
  have d1 := (cell_of_heap b1 1).trans rfl
  have d2 := (cell_of_heap b1 2).trans rfl
  have d3 := (cell_of_heap b1 3).trans rfl
  have d4 := (cell_of_heap b1 4).trans rfl
  have d5 := (cell_of_heap b1 5).trans rfl
  have d6 := (cell_of_heap b1 6).trans rfl
  have e2 := (cell_of_heap b2 2).trans rfl
  clear b1 b2
  go_enter Tryd.func80, Tryd.ntmps80
  go_upto_region 11 with fail
  have i0 : (0 : Int) ≤ (k : Int) := by omega
  go_region_held3 (fun w' => w'.cell? ⟨w.heap.size, 0, none⟩ = some (.int .i64 number) ∧ w'.cell? ⟨w.heap.size, 1, none⟩ = some (.int .i64 f.params) ∧ w'.cell? ⟨w.heap.size, 2, none⟩ = some (.int .i64 f.regs) ∧ w'.cell? ⟨w.heap.size, 3, none⟩ = some (.int .i64 f.slots) ∧ w'.cell? ⟨w.heap.size, 4, none⟩ = some (.slice ca f.code.length cc) ∧ w'.cell? ⟨w.heap.size, 5, none⟩ = some (.slice (some ⟨b, off, none⟩) fn fc) ∧ w'.cell? ⟨w.heap.size, 6, none⟩ = some (.bool false) ∧ w'.cell? ⟨w.heap.size + 1, 2, none⟩ = some (.int .i64 k) ∧ w'.cell? ⟨b, off + k * 4, none⟩ = some (.int .i64 g.params)) (first | exact hs2 | go_keep) (first
    | (go_at_call 83; refine (hc _).mono ?_; rintro e w2 ⟨rfl, hk2⟩; have hk3 : Keeps None w0 w2 := (Keeps.drew None w0).trans hk2 (fun _ f _ => f); have hs2 : w2.cell? ⟨w.heap.size, 0, none⟩ = some (.int .i64 number) ∧ w2.cell? ⟨w.heap.size, 1, none⟩ = some (.int .i64 f.params) ∧ w2.cell? ⟨w.heap.size, 2, none⟩ = some (.int .i64 f.regs) ∧ w2.cell? ⟨w.heap.size, 3, none⟩ = some (.int .i64 f.slots) ∧ w2.cell? ⟨w.heap.size, 4, none⟩ = some (.slice ca f.code.length cc) ∧ w2.cell? ⟨w.heap.size, 5, none⟩ = some (.slice (some ⟨b, off, none⟩) fn fc) ∧ w2.cell? ⟨w.heap.size, 6, none⟩ = some (.bool false) ∧ w2.cell? ⟨w.heap.size + 1, 2, none⟩ = some (.int .i64 k) ∧ w2.cell? ⟨b, off + k * 4, none⟩ = some (.int .i64 g.params) := ⟨hk3.cell d0 (fun f => f), hk3.cell d1 (fun f => f), hk3.cell d2 (fun f => f), hk3.cell d3 (fun f => f), hk3.cell d4 (fun f => f), hk3.cell d5 (fun f => f), hk3.cell d6 (fun f => f), hk3.cell e2 (fun f => f), hk3.cell c0 (fun f => f)⟩))
  all_goals go_wp2_with fail
  all_goals go_ret
  all_goals exact ⟨rfl, hk.trans hk3 (fun _ f _ => f)⟩

theorem andE {a b : Bool} : (a && b) = true ↔ a = true ∧ b = true := by simp
/-- What a field may hold, whichever it is. -/
theorem allows_any (number : Int) (f : Fn) (ca : Option Addr) (cc : Nat) (fa : Option Addr) (fn fc : Nat) (what x : Int) (i : Ins) (w : World) (fs : List Fn) (hS : SeenF w fa fn fs) (hb : what = 5 → 0 ≤ i.b ∧ i.b < fn) (hr : 0 ≤ f.regs ∧ f.regs ≤ 16) (hx : okI x) :
    Calls Tryd.prog 80 #[codeV number f ca cc fa fn fc false, .int .i64 what, .int .i64 x, insV i] w fun e w' => e = .returned (.bool (allowsV false fs f what x i)) ∧ Keeps None w w' := by
  by_cases h5 : what = 5
  · subst h5
    exact allows_args number f ca cc fa fn fc x i w fs hS (hb rfl).1 (hb rfl).2 hr hx
  · exact allows_plain false number f ca cc fa fn fc what x i w fs (fun _ => hS.len) (by simpa using h5)
theorem fits_no (number : Int) (f : Fn) (ca : Option Addr) (cc : Nat) (fa : Option Addr) (fn fc : Nat) (al : Bool) (i : Ins) (w : World) (hb : belowV i.kind 10 = false) :
    Calls Tryd.prog 73 #[codeV number f ca cc fa fn fc al, insV i] w fun e w' => e = .returned (.bool false) ∧ Keeps None w w' := by
  unfold insV codeV
  go_enter Tryd.func73, Tryd.ntmps73
  go_wp2_with (go_at_call 79; refine (below_any _ _ _).mono ?_; rintro e w' ⟨rfl, rfl⟩)
  go_ret
  exact ⟨rfl, keeps2 _ _ _⟩
set_option maxHeartbeats 1000000 in
theorem fits_some (number : Int) (f : Fn) (ca : Option Addr) (cc : Nat) (fa : Option Addr) (fn fc : Nat) (k : Nat) (ia ib ic iK : Int) (w : World) (hT : Tabs w) (hk10 : k < 10) (o2 o3 oa ob oc : Bool)
    (h2 : decide (iK < 0) = o2) (h3 : decide (16 ≤ iK) = o3)
    (ha : ∀ wx, Keeps None w wx → Calls Tryd.prog 80 #[codeV number f ca cc fa fn fc false, .int .i64 (fA k), .int .i64 ia, insV ⟨k, ia, ib, ic, iK⟩] wx fun e w' => e = .returned (.bool oa) ∧ Keeps None wx w')
    (hb : oa = true → ∀ wx, Keeps None w wx → Calls Tryd.prog 80 #[codeV number f ca cc fa fn fc false, .int .i64 (fB k), .int .i64 ib, insV ⟨k, ia, ib, ic, iK⟩] wx fun e w' => e = .returned (.bool ob) ∧ Keeps None wx w')
    (hc : oa = true → ob = true → ∀ wx, Keeps None w wx → Calls Tryd.prog 80 #[codeV number f ca cc fa fn fc false, .int .i64 (fC k), .int .i64 ic, insV ⟨k, ia, ib, ic, iK⟩] wx fun e w' => e = .returned (.bool oc) ∧ Keeps None wx w') :
    Calls Tryd.prog 73 #[codeV number f ca cc fa fn fc false, insV ⟨k, ia, ib, ic, iK⟩] w fun e w' => e = .returned (.bool (!(decide (fK k = 6) && (o2 || o3)) && (oa && ob && oc))) ∧ Keeps None w w' := by
  have hbl : belowV k 10 = true := by rw [belowV_iff]; omega
  unfold insV codeV at *
  obtain ⟨b1, b2⟩ := two_boxes w #[.int .i64 number, .int .i64 f.params, .int .i64 f.regs, .int .i64 f.slots, .slice ca f.code.length cc, .slice fa fn fc, .bool false] #[.int .i64 k, .int .i64 ia, .int .i64 ib, .int .i64 ic, .int .i64 iK] 83 39
  have hk := keeps2 w (Obj.cells #[.int .i64 number, .int .i64 f.params, .int .i64 f.regs, .int .i64 f.slots, .slice ca f.code.length cc, .slice fa fn fc, .bool false] 83) (Obj.cells #[.int .i64 k, .int .i64 ia, .int .i64 ib, .int .i64 ic, .int .i64 iK] 39)
  generalize hw0 : ((w.alloc (Obj.cells #[.int .i64 number, .int .i64 f.params, .int .i64 f.regs, .int .i64 f.slots, .slice ca f.code.length cc, .slice fa fn fc, .bool false] 83)).alloc (Obj.cells #[.int .i64 k, .int .i64 ia, .int .i64 ib, .int .i64 ic, .int .i64 iK] 39)) = w0 at hk b1 b2
  obtain ⟨t0, t1, t2, t3, t4⟩ := (hT.more hk).at k ‹_›
  have e0 := (cell_of_heap b2 0).trans rfl
  have i0 : (0 : Int) ≤ (k : Int) := by omega
  have i1 : (k : Int) < 10 := by omega
  have HB : Hid (w0.heap[w.heap.size]? = _ ∧ w0.heap[w.heap.size + 1]? = _ ∧ Keeps None w w0) := ⟨b1, b2, hk⟩
  have HC : Hid _ := And.intro ha (And.intro hb hc)
  clear b1 b2 hk ha hb hc
  go_enter Tryd.func73, Tryd.ntmps73
  go_upto_region 3 with (go_at_call 79; refine (below_any _ _ _).mono ?_; rintro e w' ⟨rfl, hw⟩; have hw2 := hw.symm; subst hw2; clear hw)
  go_cut [5] (fun s5 wx => s5 = .pointer (some ⟨w0.heap.size, 0, none⟩) ∧ wx.heap[w0.heap.size]? = some (.cells #[.int .i64 (fA k), .int .i64 (fB k), .int .i64 (fC k), .int .i64 (fK k), .bool (fN k)] 97 (0, 0)) ∧ Keeps None w0 wx)
  case first =>
    go_wp2_with fail
    go_meet
    exact ⟨rfl, heap_alloc_new _ _, Keeps.alloc _ _ _⟩
  case rest =>
    obtain ⟨rfl, hF, hkx⟩ := hcut
    have hkW : Keeps None w wc := HB.out.2.2.trans hkx (fun _ f _ => f)
    have b1 := (hkx.block w.heap.size (Array.getElem?_eq_some_iff.1 HB.out.1).1 (fun f => f)).trans HB.out.1
    have b2 := (hkx.block (w.heap.size + 1) (Array.getElem?_eq_some_iff.1 HB.out.2.1).1 (fun f => f)).trans HB.out.2.1
    have d0 := (cell_of_heap b1 0).trans rfl
    have d1 := (cell_of_heap b1 1).trans rfl
    have d2 := (cell_of_heap b1 2).trans rfl
    have d3 := (cell_of_heap b1 3).trans rfl
    have d4 := (cell_of_heap b1 4).trans rfl
    have d5 := (cell_of_heap b1 5).trans rfl
    have d6 := (cell_of_heap b1 6).trans rfl
    have e0x := (cell_of_heap b2 0).trans rfl
    have e1x := (cell_of_heap b2 1).trans rfl
    have e2x := (cell_of_heap b2 2).trans rfl
    have e3x := (cell_of_heap b2 3).trans rfl
    have e4x := (cell_of_heap b2 4).trans rfl
    have g0 := (cell_of_heap hF 0).trans rfl
    have g1 := (cell_of_heap hF 1).trans rfl
    have g2 := (cell_of_heap hF 2).trans rfl
    have g3 := (cell_of_heap hF 3).trans rfl
    have g4 := (cell_of_heap hF 4).trans rfl
    clear b1 b2 hF t0 t1 t2 t3 t4 e0 hw0
    have e0 := e0x; clear e0x
    have e1 := e1x; clear e1x
    have e2 := e2x; clear e2x
    have e3 := e3x; clear e3x
    have e4 := e4x; clear e4x
    by_cases q1 : fK k = 6
    · have q1' : (fK k == 6) = true := by simpa using q1
      by_cases q2 : iK < 0
      · have q2' : o2 = true := by rw [← h2]; simpa using q2
        go_wp2_with fail
        go_ret
        refine ⟨?_, hkW⟩
        rw [q2', show decide (fK k = 6) = true by simpa using q1]; simp
      · by_cases q3 : 16 ≤ iK
        · have q3' : o3 = true := by rw [← h3]; simpa using q3
          have q2c : 0 ≤ iK := by omega
          go_wp2_with fail
          go_ret
          refine ⟨?_, hkW⟩
          rfl
        · have q2' : o2 = false := by rw [← h2]; simpa using q2
          have q3' : o3 = false := by rw [← h3]; simpa using q3
          have q2c : 0 ≤ iK := by omega
          have q3c : iK < 16 := by omega
          have hv : Hid ((!(decide (fK k = 6) && (o2 || o3)) && (oa && ob && oc)) = (oa && ob && oc)) := by unfold Hid; simp [q2', q3']
          cases oa
          · go_wp2_with (go_at_call_of 80 (Value.int .i64 (fA k)); refine (HC.out.1 _ hkW).mono ?_; rintro e w2 ⟨rfl, hk2⟩; have hkA := hkW.trans hk2 (fun _ f _ => f); have d0A := hk2.cell d0 (fun f => f); have d1A := hk2.cell d1 (fun f => f); have d2A := hk2.cell d2 (fun f => f); have d3A := hk2.cell d3 (fun f => f); have d4A := hk2.cell d4 (fun f => f); have d5A := hk2.cell d5 (fun f => f); have d6A := hk2.cell d6 (fun f => f); have e0A := hk2.cell e0 (fun f => f); have e1A := hk2.cell e1 (fun f => f); have e2A := hk2.cell e2 (fun f => f); have e3A := hk2.cell e3 (fun f => f); have e4A := hk2.cell e4 (fun f => f); have g0A := hk2.cell g0 (fun f => f); have g1A := hk2.cell g1 (fun f => f); have g2A := hk2.cell g2 (fun f => f); have g3A := hk2.cell g3 (fun f => f); have g4A := hk2.cell g4 (fun f => f))
            go_ret
            refine ⟨?_, hkA⟩
            rw [hv.out]; rfl
          · have HCb : Hid _ := HC.out.2.1 rfl
            cases ob
            · go_wp2_with (first | (go_at_call_of 80 (Value.int .i64 (fA k)); refine (HC.out.1 _ hkW).mono ?_; rintro e w2 ⟨rfl, hk2⟩; have hkA := hkW.trans hk2 (fun _ f _ => f); have d0A := hk2.cell d0 (fun f => f); have d1A := hk2.cell d1 (fun f => f); have d2A := hk2.cell d2 (fun f => f); have d3A := hk2.cell d3 (fun f => f); have d4A := hk2.cell d4 (fun f => f); have d5A := hk2.cell d5 (fun f => f); have d6A := hk2.cell d6 (fun f => f); have e0A := hk2.cell e0 (fun f => f); have e1A := hk2.cell e1 (fun f => f); have e2A := hk2.cell e2 (fun f => f); have e3A := hk2.cell e3 (fun f => f); have e4A := hk2.cell e4 (fun f => f); have g0A := hk2.cell g0 (fun f => f); have g1A := hk2.cell g1 (fun f => f); have g2A := hk2.cell g2 (fun f => f); have g3A := hk2.cell g3 (fun f => f); have g4A := hk2.cell g4 (fun f => f)) | (go_at_call_of 80 (Value.int .i64 (fB k)); refine (HCb.out _ hkA).mono ?_; rintro e w3 ⟨rfl, hk2⟩; have hkB := hkA.trans hk2 (fun _ f _ => f); have d0B := hk2.cell d0A (fun f => f); have d1B := hk2.cell d1A (fun f => f); have d2B := hk2.cell d2A (fun f => f); have d3B := hk2.cell d3A (fun f => f); have d4B := hk2.cell d4A (fun f => f); have d5B := hk2.cell d5A (fun f => f); have d6B := hk2.cell d6A (fun f => f); have e0B := hk2.cell e0A (fun f => f); have e1B := hk2.cell e1A (fun f => f); have e2B := hk2.cell e2A (fun f => f); have e3B := hk2.cell e3A (fun f => f); have e4B := hk2.cell e4A (fun f => f); have g0B := hk2.cell g0A (fun f => f); have g1B := hk2.cell g1A (fun f => f); have g2B := hk2.cell g2A (fun f => f); have g3B := hk2.cell g3A (fun f => f); have g4B := hk2.cell g4A (fun f => f)))
              go_ret
              refine ⟨?_, hkB⟩
              rw [hv.out]; rfl
            · have HCc : Hid _ := HC.out.2.2 rfl rfl
              go_wp2_with (first | (go_at_call_of 80 (Value.int .i64 (fA k)); refine (HC.out.1 _ hkW).mono ?_; rintro e w2 ⟨rfl, hk2⟩; have hkA := hkW.trans hk2 (fun _ f _ => f); have d0A := hk2.cell d0 (fun f => f); have d1A := hk2.cell d1 (fun f => f); have d2A := hk2.cell d2 (fun f => f); have d3A := hk2.cell d3 (fun f => f); have d4A := hk2.cell d4 (fun f => f); have d5A := hk2.cell d5 (fun f => f); have d6A := hk2.cell d6 (fun f => f); have e0A := hk2.cell e0 (fun f => f); have e1A := hk2.cell e1 (fun f => f); have e2A := hk2.cell e2 (fun f => f); have e3A := hk2.cell e3 (fun f => f); have e4A := hk2.cell e4 (fun f => f); have g0A := hk2.cell g0 (fun f => f); have g1A := hk2.cell g1 (fun f => f); have g2A := hk2.cell g2 (fun f => f); have g3A := hk2.cell g3 (fun f => f); have g4A := hk2.cell g4 (fun f => f)) | (go_at_call_of 80 (Value.int .i64 (fB k)); refine (HCb.out _ hkA).mono ?_; rintro e w3 ⟨rfl, hk2⟩; have hkB := hkA.trans hk2 (fun _ f _ => f); have d0B := hk2.cell d0A (fun f => f); have d1B := hk2.cell d1A (fun f => f); have d2B := hk2.cell d2A (fun f => f); have d3B := hk2.cell d3A (fun f => f); have d4B := hk2.cell d4A (fun f => f); have d5B := hk2.cell d5A (fun f => f); have d6B := hk2.cell d6A (fun f => f); have e0B := hk2.cell e0A (fun f => f); have e1B := hk2.cell e1A (fun f => f); have e2B := hk2.cell e2A (fun f => f); have e3B := hk2.cell e3A (fun f => f); have e4B := hk2.cell e4A (fun f => f); have g0B := hk2.cell g0A (fun f => f); have g1B := hk2.cell g1A (fun f => f); have g2B := hk2.cell g2A (fun f => f); have g3B := hk2.cell g3A (fun f => f); have g4B := hk2.cell g4A (fun f => f)) | (go_at_call_of 80 (Value.int .i64 (fC k)); refine (HCc.out _ hkB).mono ?_; rintro e w4 ⟨rfl, hk2⟩; have hkC := hkB.trans hk2 (fun _ f _ => f)))
              go_ret
              refine ⟨?_, hkC⟩
              rw [hv.out]; rfl
    · have q1' : (fK k == 6) = false := by simpa using q1
      have hv : Hid ((!(decide (fK k = 6) && (o2 || o3)) && (oa && ob && oc)) = (oa && ob && oc)) := by unfold Hid; simp [q1]
      cases oa
      · go_wp2_with (go_at_call_of 80 (Value.int .i64 (fA k)); refine (HC.out.1 _ hkW).mono ?_; rintro e w2 ⟨rfl, hk2⟩; have hkA := hkW.trans hk2 (fun _ f _ => f); have d0A := hk2.cell d0 (fun f => f); have d1A := hk2.cell d1 (fun f => f); have d2A := hk2.cell d2 (fun f => f); have d3A := hk2.cell d3 (fun f => f); have d4A := hk2.cell d4 (fun f => f); have d5A := hk2.cell d5 (fun f => f); have d6A := hk2.cell d6 (fun f => f); have e0A := hk2.cell e0 (fun f => f); have e1A := hk2.cell e1 (fun f => f); have e2A := hk2.cell e2 (fun f => f); have e3A := hk2.cell e3 (fun f => f); have e4A := hk2.cell e4 (fun f => f); have g0A := hk2.cell g0 (fun f => f); have g1A := hk2.cell g1 (fun f => f); have g2A := hk2.cell g2 (fun f => f); have g3A := hk2.cell g3 (fun f => f); have g4A := hk2.cell g4 (fun f => f))
        go_ret
        refine ⟨?_, hkA⟩
        rw [hv.out]; rfl
      · have HCb : Hid _ := HC.out.2.1 rfl
        cases ob
        · go_wp2_with (first | (go_at_call_of 80 (Value.int .i64 (fA k)); refine (HC.out.1 _ hkW).mono ?_; rintro e w2 ⟨rfl, hk2⟩; have hkA := hkW.trans hk2 (fun _ f _ => f); have d0A := hk2.cell d0 (fun f => f); have d1A := hk2.cell d1 (fun f => f); have d2A := hk2.cell d2 (fun f => f); have d3A := hk2.cell d3 (fun f => f); have d4A := hk2.cell d4 (fun f => f); have d5A := hk2.cell d5 (fun f => f); have d6A := hk2.cell d6 (fun f => f); have e0A := hk2.cell e0 (fun f => f); have e1A := hk2.cell e1 (fun f => f); have e2A := hk2.cell e2 (fun f => f); have e3A := hk2.cell e3 (fun f => f); have e4A := hk2.cell e4 (fun f => f); have g0A := hk2.cell g0 (fun f => f); have g1A := hk2.cell g1 (fun f => f); have g2A := hk2.cell g2 (fun f => f); have g3A := hk2.cell g3 (fun f => f); have g4A := hk2.cell g4 (fun f => f)) | (go_at_call_of 80 (Value.int .i64 (fB k)); refine (HCb.out _ hkA).mono ?_; rintro e w3 ⟨rfl, hk2⟩; have hkB := hkA.trans hk2 (fun _ f _ => f); have d0B := hk2.cell d0A (fun f => f); have d1B := hk2.cell d1A (fun f => f); have d2B := hk2.cell d2A (fun f => f); have d3B := hk2.cell d3A (fun f => f); have d4B := hk2.cell d4A (fun f => f); have d5B := hk2.cell d5A (fun f => f); have d6B := hk2.cell d6A (fun f => f); have e0B := hk2.cell e0A (fun f => f); have e1B := hk2.cell e1A (fun f => f); have e2B := hk2.cell e2A (fun f => f); have e3B := hk2.cell e3A (fun f => f); have e4B := hk2.cell e4A (fun f => f); have g0B := hk2.cell g0A (fun f => f); have g1B := hk2.cell g1A (fun f => f); have g2B := hk2.cell g2A (fun f => f); have g3B := hk2.cell g3A (fun f => f); have g4B := hk2.cell g4A (fun f => f)))
          go_ret
          refine ⟨?_, hkB⟩
          rw [hv.out]; rfl
        · have HCc : Hid _ := HC.out.2.2 rfl rfl
          go_wp2_with (first | (go_at_call_of 80 (Value.int .i64 (fA k)); refine (HC.out.1 _ hkW).mono ?_; rintro e w2 ⟨rfl, hk2⟩; have hkA := hkW.trans hk2 (fun _ f _ => f); have d0A := hk2.cell d0 (fun f => f); have d1A := hk2.cell d1 (fun f => f); have d2A := hk2.cell d2 (fun f => f); have d3A := hk2.cell d3 (fun f => f); have d4A := hk2.cell d4 (fun f => f); have d5A := hk2.cell d5 (fun f => f); have d6A := hk2.cell d6 (fun f => f); have e0A := hk2.cell e0 (fun f => f); have e1A := hk2.cell e1 (fun f => f); have e2A := hk2.cell e2 (fun f => f); have e3A := hk2.cell e3 (fun f => f); have e4A := hk2.cell e4 (fun f => f); have g0A := hk2.cell g0 (fun f => f); have g1A := hk2.cell g1 (fun f => f); have g2A := hk2.cell g2 (fun f => f); have g3A := hk2.cell g3 (fun f => f); have g4A := hk2.cell g4 (fun f => f)) | (go_at_call_of 80 (Value.int .i64 (fB k)); refine (HCb.out _ hkA).mono ?_; rintro e w3 ⟨rfl, hk2⟩; have hkB := hkA.trans hk2 (fun _ f _ => f); have d0B := hk2.cell d0A (fun f => f); have d1B := hk2.cell d1A (fun f => f); have d2B := hk2.cell d2A (fun f => f); have d3B := hk2.cell d3A (fun f => f); have d4B := hk2.cell d4A (fun f => f); have d5B := hk2.cell d5A (fun f => f); have d6B := hk2.cell d6A (fun f => f); have e0B := hk2.cell e0A (fun f => f); have e1B := hk2.cell e1A (fun f => f); have e2B := hk2.cell e2A (fun f => f); have e3B := hk2.cell e3A (fun f => f); have e4B := hk2.cell e4A (fun f => f); have g0B := hk2.cell g0A (fun f => f); have g1B := hk2.cell g1A (fun f => f); have g2B := hk2.cell g2A (fun f => f); have g3B := hk2.cell g3A (fun f => f); have g4B := hk2.cell g4A (fun f => f)) | (go_at_call_of 80 (Value.int .i64 (fC k)); refine (HCc.out _ hkB).mono ?_; rintro e w4 ⟨rfl, hk2⟩; have hkC := hkB.trans hk2 (fun _ f _ => f)))
          go_ret
          refine ⟨?_, hkC⟩
          rw [hv.out]; rfl
end Go.Proofs.YtoehkjfdaolcnaaDoor
