import Derived.Test.YtcjmceedkfjbeaaDoorPkAS
import Derived.OwnWalk
import Derived.Deep.Cut
import Derived.WalkMore
/-! turned, spare. -/
namespace Go.Proofs.YtcjmceedkfjbeaaDoor
set_option linter.unusedVariables false
set_option maxRecDepth 20000
open Go.RowKit Go.HeapKit

def bumpI (i : Ins) : Ins := { i with k := wrap64 (i.k + 1) }
def turnF (f : Fn) : Fn := { f with code := (f.code.map bumpI).reverse }
theorem results_cell_tmp {P : Program} {fn : Func} {q u : Tmp} {ty : TypeId} (h : fn.results = #[.cell q ty, .tmp u]) {tmps : Array Value} {w : World} {g : Nat} (ha : tmps.getD q undef = .pointer (some ⟨g, 0, none⟩)) {v : Value}
    (hl : (loadVar ty ⟨g, 0, none⟩).run P w = .ok v w) : (results fn tmps).run P w = .ok (.tuple #[v, tmps.getD u undef]) w := by
  have ha' : tmps[q]?.getD undef = .pointer (some ⟨g, 0, none⟩) := by simpa using ha
  simp [results, h, ha', asAddr, hl]
/-- The list while it is turned. -/
def turnsTo (l : List Ins) (k : Nat) : List Ins := ((l.drop k).map bumpI).reverse
theorem turns_step (l : List Ins) (a : Nat) (x : Ins) (hx : l[a]? = some x) : turnsTo l (a + 1) ++ [bumpI x] = turnsTo l a := by
  have ha := (List.getElem?_eq_some_iff.1 hx).1
  unfold turnsTo
  rw [List.drop_eq_getElem_cons ha]
  rw [List.getElem?_eq_getElem ha] at hx
  rw [Option.some.inj hx]
  simp
theorem turns_len (l : List Ins) (k : Nat) : (turnsTo l k).length = l.length - k := by simp [turnsTo]
structure Tn (w wr : World) (B n : Nat) (f : Fn) (fv : Array Value) (k : Nat) (cv : Value) : Prop where
  keep : Keeps None w wr
  box : wr.heap[B]? = some (.cells fv 40 (0, 0))
  res : wr.heap[B + 1]? = some (.cells #[.int .i64 0, .int .i64 0, .int .i64 0, .slice none 0 0] 40 (0, 0))
  g : wr.heap[B + 2]? = some (.cells #[.int .i64 f.params, .int .i64 f.regs, .int .i64 f.slots, cv] 40 (0, 0))
  row : wr.ownsRow 0 42 5 cv (n - k) (insVals (turnsTo f.code k))
  low : ∀ g, cv.ownBlock = some g → w.heap.size ≤ g
  hB : w.heap.size ≤ B
theorem Tn.more {w wr w' : World} {B n : Nat} {f : Fn} {fv : Array Value} {k : Nat} {cv : Value} (h : Tn w wr B n f fv k cv) (hk : Keeps None wr w') : Tn w w' B n f fv k cv :=
  ⟨h.keep.trans hk (fun _ f _ => f), blk_kept h.box hk (fun f => f), blk_kept h.res hk (fun f => f), blk_kept h.g hk (fun f => f), hk.own h.row (fun _ _ f => f), h.low, h.hB⟩
theorem Tn.next {w wr w' : World} {B n : Nat} {f : Fn} {fv : Array Value} {a : Nat} {cv : Value} {x : Ins} {b cap : Nat} (h : Tn w wr B n f fv (a + 1) cv) (hx : f.code[a]? = some x) (hn : n = f.code.length)
    (ho : w'.ownsRow 0 42 5 (.slice (some ⟨b, 0, none⟩) (n - a) cap) (n - a) (insVals (turnsTo f.code (a + 1) ++ [bumpI x]))) (hk : Keeps (fun k => cv.ownBlock = some k) wr w') (hg : cv.ownBlock = some b ∨ wr.heap.size ≤ b) :
    w'.cell? ⟨B + 2, 3, none⟩ = some cv ∧ w'.frozen? ⟨B + 2, 3, none⟩ = false ∧ Tn w (w'.setCell ⟨B + 2, 3, none⟩ (.slice (some ⟨b, 0, none⟩) (n - a) cap)) B n f fv a (.slice (some ⟨b, 0, none⟩) (n - a) cap) := by
  have no : ∀ {p : Nat} {c : Array Value}, wr.heap[p]? = some (.cells c 40 (0, 0)) → ¬ cv.ownBlock = some p := fun hp e => absurd (own_type h.row e hp) (by decide)
  have g1 := blk_kept h.g hk (no h.g)
  have hkS : Keeps (· = B + 2) w' (w'.setCell ⟨B + 2, 3, none⟩ (.slice (some ⟨b, 0, none⟩) (n - a) cap)) := Keeps.setCell (S := (· = B + 2)) w' rfl _
  have hbne : b ≠ B + 2 := by
    rintro rfl
    have := own_type ho (g := B + 2) rfl g1
    exact absurd this (by decide)
  refine ⟨(blk_cell g1 3).trans rfl, blk_free g1 3, ⟨(h.keep.trans hk (fun i e hi => by have := h.low i e; omega)).trans hkS (fun i e hi => by have := h.hB; omega), blk_kept (blk_kept h.box hk (no h.box)) hkS (by omega), blk_kept (blk_kept h.res hk (no h.res)) hkS (by omega), by rw [blk_set g1]; rfl, ?_, fun g e => ?_, h.hB⟩⟩
  · rw [← turns_step f.code a x hx]
    exact hkS.own ho (fun g e q => by simp [Value.ownBlock] at e; exact hbne (e.trans q))
  · simp [Value.ownBlock] at e
    subst e
    rcases hg with q | q
    · exact h.low _ q
    · have := h.keep.size; omega
set_option maxHeartbeats 2000000 in
theorem turned_any (f : Fn) (ca : Option Addr) (cc : Nat) (w : World) (hC : SeenI w ca f.code.length f.code) (hr : f.code.length * 40 ≤ 140737488351232) :
    Calls Tryd.prog 49 #[fnV f ca cc] w fun e w' => ∃ ca' cc', e = .returned (fnV (turnF f) ca' cc') ∧ w'.ownsRow 0 42 5 (.slice ca' f.code.length cc') f.code.length (insVals (turnF f).code) ∧ Keeps None w w' ∧ ∀ g, (Value.slice ca' f.code.length cc').ownBlock = some g → w.heap.size ≤ g := by
  obtain ⟨n, hn⟩ : ∃ n, n = f.code.length := ⟨_, rfl⟩
  unfold fnV
  have hlt : (turnF f).code.length = n := by simp [turnF, hn]
  rw [← hn] at hC hr ⊢
  have HTL : Hid _ := hlt
  have HC : Hid (SeenI w ca n f.code ∧ n = f.code.length) := ⟨hC, hn⟩
  clear hC hn hlt
  obtain ⟨B, hB⟩ : ∃ B, B = w.heap.size := ⟨_, rfl⟩
  obtain ⟨fv, hfv⟩ : ∃ fv : Array Value, fv = #[.int .i64 f.params, .int .i64 f.regs, .int .i64 f.slots, .slice ca n cc] := ⟨_, rfl⟩
  have hst : Tn w (((w.alloc (.cells #[.int .i64 f.params, .int .i64 f.regs, .int .i64 f.slots, .slice ca n cc] 40)).alloc (.cells #[.int .i64 0, .int .i64 0, .int .i64 0, .slice none 0 0] 40)).alloc (.cells #[.int .i64 f.params, .int .i64 f.regs, .int .i64 f.slots, .slice none 0 0] 40)) B n f fv n (.slice none 0 0) := by
    obtain ⟨p1, p2⟩ := two_boxes w #[.int .i64 f.params, .int .i64 f.regs, .int .i64 f.slots, .slice ca n cc] #[.int .i64 0, .int .i64 0, .int .i64 0, .slice none 0 0] 40 40
    have hk2 := keeps2 w (.cells #[.int .i64 f.params, .int .i64 f.regs, .int .i64 f.slots, .slice ca n cc] 40) (.cells #[.int .i64 0, .int .i64 0, .int .i64 0, .slice none 0 0] 40)
    have s2 : ((w.alloc (.cells #[.int .i64 f.params, .int .i64 f.regs, .int .i64 f.slots, .slice ca n cc] 40)).alloc (.cells #[.int .i64 0, .int .i64 0, .int .i64 0, .slice none 0 0] 40)).heap.size = B + 2 := by rw [hB]; simp
    generalize (w.alloc (.cells #[.int .i64 f.params, .int .i64 f.regs, .int .i64 f.slots, .slice ca n cc] 40)).alloc (.cells #[.int .i64 0, .int .i64 0, .int .i64 0, .slice none 0 0] 40) = w2 at *
    have hal := Keeps.alloc None w2 (.cells #[.int .i64 f.params, .int .i64 f.regs, .int .i64 f.slots, .slice none 0 0] 40)
    have p3 := heap_alloc_new w2 (.cells #[.int .i64 f.params, .int .i64 f.regs, .int .i64 f.slots, .slice none 0 0] 40)
    rw [s2] at p3
    rw [← hB] at p1 p2
    refine ⟨hk2.trans hal (fun _ f _ => f), by rw [hfv]; exact blk_kept p1 hal (fun f => f), blk_kept p2 hal (fun f => f), p3, ⟨?_, .inl ⟨rfl, by omega⟩⟩, fun g e => by simp [Value.ownBlock] at e, by omega⟩
    have := turns_len f.code n
    rw [insVals_length, this]
    have := HC.out.2
    omega
  have HST : Hid _ := hst
  have HB : Hid _ := hB
  have HF : Hid _ := hfv
  clear hst
  go_enter Tryd.func49, Tryd.ntmps49
  go_upto_region 3 with fail
  rw [← hB]
  clear hB hfv
  generalize ((w.alloc (.cells #[.int .i64 f.params, .int .i64 f.regs, .int .i64 f.slots, .slice ca n cc] 40)).alloc (.cells #[.int .i64 0, .int .i64 0, .int .i64 0, .slice none 0 0] 40)).alloc (.cells #[.int .i64 f.params, .int .i64 f.regs, .int .i64 f.slots, .slice none 0 0] 40) = W at *
  have hbx := HST.out.box
  rw [HF.out] at hbx
  have d3 : W.cell? ⟨B, 3, none⟩ = some (.slice ca n cc) := (cell_of_heap hbx 3).trans rfl
  have hnb : (n : Int) ≤ 4611686018427387904 := by omega
  clear hbx
  go_wp2_with fail
  clear d3
  go_loopw [4] (fun s4 wr => ∃ (k : Nat) (cv : Value), k ≤ n ∧ s4 = .int .i64 ((k : Int) - 1) ∧ Tn w wr B n f fv k cv) (fun i _ => (intOf i + 1).toNat)
  case atStart => exact ⟨n, .slice none 0 0, Nat.le_refl _, rfl, HST.out⟩
  case round =>
    obtain ⟨k, cv, hk, rfl, hT⟩ := hrel
    cases k with
    | zero =>
      have i1 : ¬ (0 : Int) ≤ ((0 : Nat) : Int) - 1 := by omega
      have e1 : ((0 : Nat) : Int) - 1 = -1 := by omega
      rw [e1]
      have c0 : wr.cell? ⟨B + 2, 0, none⟩ = some (.int .i64 f.params) := (cell_of_heap hT.g 0).trans rfl
      have c1 : wr.cell? ⟨B + 2, 1, none⟩ = some (.int .i64 f.regs) := (cell_of_heap hT.g 1).trans rfl
      have c2 : wr.cell? ⟨B + 2, 2, none⟩ = some (.int .i64 f.slots) := (cell_of_heap hT.g 2).trans rfl
      have c3 : wr.cell? ⟨B + 2, 3, none⟩ = some cv := (cell_of_heap hT.g 3).trans rfl
      have r0 : wr.cell? ⟨B + 1, 0, none⟩ = some (.int .i64 0) := (cell_of_heap hT.res 0).trans rfl
      have r1 : wr.cell? ⟨B + 1, 1, none⟩ = some (.int .i64 0) := (cell_of_heap hT.res 1).trans rfl
      have r2 : wr.cell? ⟨B + 1, 2, none⟩ = some (.int .i64 0) := (cell_of_heap hT.res 2).trans rfl
      have r3 : wr.cell? ⟨B + 1, 3, none⟩ = some (.slice none 0 0) := (cell_of_heap hT.res 3).trans rfl
      have z0 := blk_free hT.res 0
      have z1 := blk_free hT.res 1
      have z2 := blk_free hT.res 2
      have z3 := blk_free hT.res 3
      obtain ⟨ca', cc', hcv⟩ : ∃ a c, cv = .slice a n c := by
        have := hT.row
        rw [Nat.sub_zero] at this
        rcases this.2 with ⟨rfl, h0⟩ | ⟨g, cap, cur, rfl, _⟩
        · exact ⟨none, 0, by rw [h0]⟩
        · exact ⟨_, cap, rfl⟩
      subst hcv
      have hkS : Keeps (· = B + 1) wr _ := ((((Keeps.refl (· = B + 1) wr).andSet (x := ⟨B + 1, 0, none⟩) (.inl rfl) (.int .i64 f.params)).andSet (x := ⟨B + 1, 1, none⟩) (.inl rfl) (.int .i64 f.regs)).andSet (x := ⟨B + 1, 2, none⟩) (.inl rfl) (.int .i64 f.slots)).andSet (x := ⟨B + 1, 3, none⟩) (.inl rfl) (.slice ca' n cc')
      have hrw := hT.row
      rw [Nat.sub_zero] at hrw
      have hb4 := blk_set (i := 3) (blk_set (i := 2) (blk_set (i := 1) (blk_set (i := 0) hT.res (.int .i64 f.params)) (.int .i64 f.regs)) (.int .i64 f.slots)) (.slice ca' n cc')
      have HQ : Hid (_ ∧ _ ∧ _ ∧ _) := And.intro hb4 (And.intro (hkS.own hrw (fun g e q => absurd (own_type hrw e (q ▸ hT.res)) (by decide))) (And.intro (hT.keep.trans hkS (fun i e hi => by have := hT.hB; omega)) hT.low))
      clear hT hkS hrw hb4
      go_wp2_with fail
      refine bodyPost_ret (results_one (q := 2) (ty := 40) rfl rfl (load_fnv _ _ _ f.params f.regs f.slots (.slice ca' n cc') HQ.out.1)) rfl ⟨ca', cc', ?_, HQ.out.2.1, HQ.out.2.2.1, HQ.out.2.2.2⟩
      rw [HTL.out]
      rfl
    | succ a =>
      have e1 : ((a + 1 : Nat) : Int) - 1 = (a : Int) := by omega
      rw [e1]
      have i1 : (0 : Int) ≤ (a : Int) := by omega
      have han : a < n := by omega
      obtain ⟨b, off, x, rfl, hx, hat⟩ := (HC.out.1.more hT.keep).at han
      obtain ⟨y0, y1, y2, y3, y4⟩ := hat
      have hbx := hT.box
      rw [HF.out] at hbx
      have d3 : wr.cell? ⟨B, 3, none⟩ = some (.slice (some ⟨b, off, none⟩) n cc) := (cell_of_heap hbx 3).trans rfl
      have i2 : (a : Int) < (n : Int) := by omega
      obtain ⟨C, hCs⟩ : ∃ C, C = wr.heap.size := ⟨_, rfl⟩
      have HCS : Hid _ := hCs
      have HT : Hid (Tn w wr B n f fv (a + 1) cv ∧ f.code[a]? = some x) := ⟨hT, hx⟩
      clear hbx hT hx
      go_upto_region 7 with fail
      rw [← hCs]
      go_cut [5] (fun s5 wx => s5 = .pointer (some ⟨C, 0, none⟩) ∧ wx.heap[C]? = some (.cells #[.int .i64 x.kind, .int .i64 x.a, .int .i64 x.b, .int .i64 x.c, .int .i64 (wrap64 (x.k + 1))] 42 (0, 0)) ∧ Keeps None wr wx)
      case first =>
        have hal := heap_alloc_new wr (.cells #[.int .i64 x.kind, .int .i64 x.a, .int .i64 x.b, .int .i64 x.c, .int .i64 x.k] 42)
        have hkl := Keeps.alloc None wr (.cells #[.int .i64 x.kind, .int .i64 x.a, .int .i64 x.b, .int .i64 x.c, .int .i64 x.k] 42)
        rw [← hCs] at hal
        have q4 : (wr.alloc (.cells #[.int .i64 x.kind, .int .i64 x.a, .int .i64 x.b, .int .i64 x.c, .int .i64 x.k] 42)).cell? ⟨C, 4, none⟩ = some (.int .i64 x.k) := (cell_of_heap hal 4).trans rfl
        have z4 := blk_free hal 4
        have HAL : Hid _ := And.intro hal hkl
        clear hal hkl hCs
        go_wp2_with fail
        go_meet
        refine ⟨rfl, ?_, HAL.out.2.andSet (.inr (by show wr.heap.size ≤ C; have := HCS.out; omega)) _⟩
        rw [blk_set HAL.out.1]
        rfl
      case rest =>
        obtain ⟨rfl, hcb, hkc⟩ := hcut
        have hT2 := HT.out.1.more hkc
        have hcl := HC.out.2
        have hT3 := hT2.more (Keeps.alloc None wc (.cells #[.int .i64 x.kind, .int .i64 x.a, .int .i64 x.b, .int .i64 x.c, .int .i64 (wrap64 (x.k + 1))] 42))
        obtain ⟨b2, cap2, w2, hrn, ho2, hk2, hg2⟩ := ins_append cv (turnsTo f.code (a + 1)) (bumpI x) (n - (a + 1)) wc.heap.size 38 (wc.alloc (.cells #[.int .i64 x.kind, .int .i64 x.a, .int .i64 x.b, .int .i64 x.c, .int .i64 (wrap64 (x.k + 1))] 42)) (by rw [turns_len]; omega) hT3.row (by omega) (heap_alloc_new wc _)
        rw [show n - (a + 1) + 1 = n - a by omega] at hrn ho2
        obtain ⟨f3, f4, hT4⟩ := hT3.next HT.out.2 hcl ho2 hk2 hg2
        have g3 : wc.cell? ⟨B + 2, 3, none⟩ = some cv := (cell_of_heap hT2.g 3).trans rfl
        have c0 : wc.cell? ⟨C, 0, none⟩ = some (.int .i64 x.kind) := (cell_of_heap hcb 0).trans rfl
        have c1 : wc.cell? ⟨C, 1, none⟩ = some (.int .i64 x.a) := (cell_of_heap hcb 1).trans rfl
        have c2 : wc.cell? ⟨C, 2, none⟩ = some (.int .i64 x.b) := (cell_of_heap hcb 2).trans rfl
        have c3 : wc.cell? ⟨C, 3, none⟩ = some (.int .i64 x.c) := (cell_of_heap hcb 3).trans rfl
        have c4 : wc.cell? ⟨C, 4, none⟩ = some (.int .i64 (wrap64 (x.k + 1))) := (cell_of_heap hcb 4).trans rfl
        have H4 : Hid _ := hT4
        clear hT2 hT3 ho2 hk2 hg2 hT4 hcb hkc hcl y0 y1 y2 y3 y4 d3 hCs
        generalize wrap64 (x.k + 1) = xk at *
        go_wp2_with (at_builtin; refine wpList_append_run rfl (.tmp 26) (.tmp 28) 38 38 rfl rfl rfl hrn ?_)
        refine ⟨⟨a, _, by omega, by simp, H4.out⟩, ?_⟩
        simp [intOf]
end Go.Proofs.YtcjmceedkfjbeaaDoor
