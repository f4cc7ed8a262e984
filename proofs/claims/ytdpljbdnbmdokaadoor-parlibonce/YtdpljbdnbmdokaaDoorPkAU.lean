import Derived.Test.YtdpljbdnbmdokaaDoorPkAT
import Derived.Laws.StructEq
import Derived.Test.YtdpljbdnbmdokaaDoorPkAL
/-! Tree. -/
namespace Go.Proofs.YtdpljbdnbmdokaaDoor
set_option linter.unusedVariables false
set_option maxRecDepth 20000
open Go.RowKit Go.HeapKit Go.PlainOps

theorem nd_made (T : Nat) (hT : T ≤ 8388608) : ∃ M : Array Value, M.size = T * 7 ∧ ∀ w : World, (Instr.makeSlice 40 (.int .i64 0) (.int .i64 (T : Int))).run Tryd.prog w = .ok (.slice (some ⟨w.heap.size, 0, none⟩) 0 T) (w.alloc (.cells M 44)) := by
  obtain ⟨i0, hi, hz0, hz1, hz2⟩ := info_parts Tryd.infoNd
  refine ⟨madeCells (Value.agg #[.int .i64 0, .int .i64 0, .int .i64 0, .int .i64 0, .int .i64 0, .int .i64 0, .int .i64 0]).cells (T * 7), size_madeCells _ _, fun w => ?_⟩
  have h := run_make (P := Tryd.prog) w 40 44 i0 _ Tryd.underlying40 hi hz0 .i64 .i64 0 (T : Int) (by omega) (by omega) (by rw [hz2]; omega) (by omega)
  rw [hz1] at h
  simpa using h
/-- What Tree hands out. -/
def TreePost (l : List Fn) (zs : List Int) (fuel : Int) (w : World) (e : Ending) (w' : World) : Prop :=
  ∃ nv, e = .returned (.tuple #[nv, .int .i64 (evalV l zs fuel).2]) ∧ Keeps None w w' ∧ (∀ g, nv.ownBlock = some g → w.heap.size ≤ g) ∧
    ((evalV l zs fuel).2 ≠ 0 → nv = .slice none 0 0) ∧ ((evalV l zs fuel).2 = 0 → w'.ownsRow 0 44 7 nv (treeV l zs fuel).length (ndVals (treeV l zs fuel)))
set_option maxHeartbeats 2000000 in
theorem tree_any (a : Option Addr) (n c : Nat) (l : List Fn) (aa : Option Addr) (an ac : Nat) (zs : List Int) (fuel : Int) (w : World) (hT : Tabs w) (hS : SeenF w a n l) (hok : ∀ f ∈ l, f.Ok) (hZ : SeenA w aa an zs) (hZ2 : an ≤ 9223372036854775807) (hfu : okI fuel) :
    Calls Tryd.prog 10 #[.agg #[.slice a n c], .slice aa an ac, .int .i64 fuel] w (TreePost l zs fuel w) := by
  obtain ⟨B, hB⟩ : ∃ B, B = w.heap.size := ⟨_, rfl⟩
  have b1 := heap_alloc_new w (.cells #[.slice a n c] 25)
  have hk1 := Keeps.alloc None w (.cells #[.slice a n c] 25)
  obtain ⟨W, hW⟩ : ∃ W, W = w.alloc (.cells #[.slice a n c] 25) := ⟨_, rfl⟩
  rw [← hW, ← hB] at b1
  rw [← hW] at hk1
  have hev := eval_any a n c l aa an ac zs fuel W (hT.more hk1) (hS.more hk1) hok (hZ.more hk1) hZ2 hfu
  have d0 : W.cell? ⟨B, 0, none⟩ = some (.slice a n c) := (blk_cell b1 0).trans rfl
  have HX : Hid (B = w.heap.size ∧ Keeps None w W ∧ W.heap[B]? = some (.cells #[.slice a n c] 25 (0, 0)) ∧ SeenF w a n l ∧ (∀ f ∈ l, f.Ok) ∧ SeenA w aa an zs) := ⟨hB, hk1, b1, hS, hok, hZ⟩
  by_cases he0 : (evalV l zs fuel).2 = 0
  · have hr0 : refusedV l zs fuel = 0 := by
      by_cases h : refusedV l zs fuel = 0
      · exact h
      · unfold evalV at he0
        rw [if_pos h] at he0
        exact absurd he0 h
    obtain ⟨hcz, hpz, hf0, hf1⟩ := refused_zero hr0
    have hA := allV_of hcz hok
    obtain ⟨F, rfl⟩ := Int.eq_ofNat_of_zero_le hf0
    have hz8 := root_le hA hpz
    have hBg := root_begins hA true hZ.ok F (by omega)
    have hbare := run_bare' l zs F
    obtain ⟨v, sp, s, hrun, hdone⟩ : ∃ v sp s, runV l true zs F = .done v sp s ∧ evalV l zs (F : Int) = (⟨v, (F : Int) - s.fuel, s.tasks, s.depth, sp⟩, 0) := by
      have hev2 : evalV l zs (F : Int) = (match runV l false zs F with
        | .gave e => (zeroVal, e)
        | .done v sp s => (⟨v, (F : Int) - s.fuel, s.tasks, s.depth, sp⟩, 0)) := by
        unfold evalV
        rw [if_neg (by simpa using hr0)]
        rfl
      rw [hbare] at hev2
      cases hq : runV l true zs F with
      | gave e =>
        rw [hq] at hev2
        have : evalV l zs (F : Int) = (zeroVal, e) := hev2
        rw [this] at he0
        have he : e ≠ 0 := gave_ne hA hBg hq
        exact absurd he0 he
      | done v sp s =>
        rw [hq] at hev2
        exact ⟨v, sp, s, rfl, hev2⟩
    obtain ⟨_, _, _, h4, h5, _⟩ := child_done hA hBg rfl hrun
    have htk : s.tasks ≤ 8388608 := by have := h5.tasks; omega
    obtain ⟨M, hMs, hmk⟩ := nd_made s.tasks htk
    have htv : treeV l zs (F : Int) = s.nodes := by
      unfold treeV
      rw [show (F : Int).toNat = F from rfl, hrun]
    have hpl := fun (R : Nat) (nv : Value) (wx : World) (hRx : w.heap.size ≤ R) (hnx : ∀ g, nv.ownBlock = some g → w.heap.size ≤ g) (hkx : Keeps None w wx) (hrx : IsRn wx R (.slice a n c) true (startS F) nv) => play_any l hA true a n c w R F (F + 1) (startS F) (rootT zs) nv wx (Nat.lt_succ_self _) (Nat.le_refl _) hrx ⟨hS, hkx, hRx, hnx⟩ hBg
    have hpl2 : ∀ (R : Nat) (nv : Value) (wx : World) (hRx : w.heap.size ≤ R) (hnx : ∀ g, nv.ownBlock = some g → w.heap.size ≤ g) (hkx : Keeps None w wx) (hrx : IsRn wx R (.slice a n c) true (startS F) nv), Calls Tryd.prog 14 #[.pointer (some ⟨R, 0, none⟩), tkV (rootT zs)] wx (PlaysTo R (.slice a n c) true nv wx (.done v sp s)) := by
      rw [← hrun]
      exact hpl
    have hrt := fun (wx : World) (hkx : Keeps None w wx) => root_any aa an ac zs wx (hZ.more hkx) (by have := hZ.len; omega)
    have HPL : Hid _ := hpl2
    have HRT : Hid _ := hrt
    have HTV : Hid (treeV l zs (F : Int) = s.nodes ∧ evalV l zs (F : Int) = (⟨v, (F : Int) - s.fuel, s.tasks, s.depth, sp⟩, 0) ∧ M.size = s.tasks * 7 ∧ s.tasks ≤ 8388608) := ⟨htv, hdone, hMs, htk⟩
    rw [hdone] at hev
    unfold valC at hev
    simp only at hev
    clear hpl hpl2 hrt htv hBg hbare hrun hdone h4 h5 htk hA hcz hpz hr0 he0 hz8 hT hS hok hZ hk1 b1 hMs
    unfold tkV at HPL HRT
    generalize Value.agg (ints ((rootT zs).l 0 0 0)).toArray = tv at *
    go_enter Tryd.func10, Tryd.ntmps10
    go_upto_region 1 with fail
    rw [← hW, ← hB]
    clear hW hB
    go_upto_region 2 with (go_at_call 7; refine hev.mono ?_; rintro _ w2 ⟨rfl, hk2⟩)
    have e0 := hk2.cell d0 (fun f => f)
    have hal := Keeps.alloc None w2 (.cells #[.int .i64 v, .int .i64 ((F : Int) - s.fuel), .int .i64 s.tasks, .int .i64 s.depth, .int .i64 sp] 31)
    have bV := heap_alloc_new w2 (.cells #[.int .i64 v, .int .i64 ((F : Int) - s.fuel), .int .i64 s.tasks, .int .i64 s.depth, .int .i64 sp] 31)
    obtain ⟨V, hV⟩ : ∃ V, V = w2.alloc (.cells #[.int .i64 v, .int .i64 ((F : Int) - s.fuel), .int .i64 s.tasks, .int .i64 s.depth, .int .i64 sp] 31) := ⟨_, rfl⟩
    obtain ⟨G, hG⟩ : ∃ G, G = w2.heap.size := ⟨_, rfl⟩
    rw [← hV] at hal bV
    rw [← hG] at bV
    rw [← hV, ← hG]
    have f0 := hal.cell e0 (fun f => f)
    have f1 : V.cell? ⟨G, 2, none⟩ = some (.int .i64 s.tasks) := (blk_cell bV 2).trans rfl
    have HV : Hid (Keeps None w V ∧ w.heap.size ≤ V.heap.size) := ⟨(HX.out.2.1.trans hk2 (fun _ f _ => f)).trans hal (fun _ f _ => f), ((HX.out.2.1.trans hk2 (fun _ f _ => f)).trans hal (fun _ f _ => f)).size⟩
    clear hV hG hal bV hk2 e0 d0 hev
    go_upto_region 4 with fail
    go_cut [10] (fun s10 wx => ∃ R g, s10 = .pointer (some ⟨R, 0, none⟩) ∧ w.heap.size ≤ R ∧ w.heap.size ≤ g ∧ IsRn wx R (.slice a n c) true (startS F) (.slice (some ⟨g, 0, none⟩) 0 s.tasks) ∧ Keeps None w wx)
    case first =>
      go_region_held3 (fun w' => w'.cell? ⟨B, 0, none⟩ = some (.slice a n c) ∧ w'.cell? ⟨G, 2, none⟩ = some (.int .i64 s.tasks)) (go_keep) (fail)
      all_goals (go_wp2_with fail; go_meet)
      · obtain ⟨p1, p2⟩ := two_boxes V M #[.slice a n c, .int .i64 F, .int .i64 0, .int .i64 0, .bool true, .slice (some ⟨V.heap.size, 0, none⟩) 0 s.tasks] 44 51
        have hk := keeps2 V (.cells M 44) (.cells #[.slice a n c, .int .i64 F, .int .i64 0, .int .i64 0, .bool true, .slice (some ⟨V.heap.size, 0, none⟩) 0 s.tasks] 51)
        exact ⟨V.heap.size + 1, V.heap.size, rfl, by have := HV.out.2; omega, HV.out.2, ⟨p2, ⟨rfl, .inr ⟨_, s.tasks, M, rfl, Nat.zero_le _, p1, Nat.zero_le _, by have := HTV.out.2.2.2; unfold maxLen; omega, HTV.out.2.2.1, rfl⟩⟩⟩, (HV.out.1.trans hk (fun _ f _ => f)).andDrew⟩
      · obtain ⟨p1, p2⟩ := two_boxes V #[.slice a n c, .int .i64 F, .int .i64 0, .int .i64 0, .bool true, .slice (some ⟨V.heap.size + 1, 0, none⟩) 0 s.tasks] M 51 44
        have hk := keeps2 V (.cells #[.slice a n c, .int .i64 F, .int .i64 0, .int .i64 0, .bool true, .slice (some ⟨V.heap.size + 1, 0, none⟩) 0 s.tasks] 51) (.cells M 44)
        exact ⟨V.heap.size, V.heap.size + 1, rfl, HV.out.2, by have := HV.out.2; omega, ⟨p1, ⟨rfl, .inr ⟨_, s.tasks, M, rfl, Nat.zero_le _, p2, Nat.zero_le _, by have := HTV.out.2.2.2; unfold maxLen; omega, HTV.out.2.2.1, rfl⟩⟩⟩, (HV.out.1.trans hk (fun _ f _ => f)).andDrew⟩
    case rest =>
      obtain ⟨R, g, rfl, hR, hg, hrn, hkc⟩ := hcut
      have hrt := HRT.out wc hkc
      have hpl := fun wx (hx : Keeps None wc wx) => HPL.out R (.slice (some ⟨g, 0, none⟩) 0 s.tasks) wx hR (fun g' e => by simp [Value.ownBlock] at e; omega) (hkc.trans hx (fun _ f _ => f)) (hrn.kept hx (fun _ _ f => f))
      have HPL2 : Hid _ := hpl
      have HC : Hid (w.heap.size ≤ R ∧ w.heap.size ≤ g ∧ Keeps None w wc) := ⟨hR, hg, hkc⟩
      clear hpl HPL HRT hR hg hkc hrn f0 f1 hmk
      go_upto_region 6 with (first | (go_at_call 15; refine hrt.mono ?_; rintro _ w5 ⟨rfl, hk5⟩) | (go_at_call 14; refine (HPL2.out _ hk5).mono ?_; rintro _ w6 ⟨rfl, nv6, hr6, hk6, hm6⟩))
      have g5 : w6.cell? ⟨R, 5, none⟩ = some nv6 := (blk_cell hr6.blk 5).trans rfl
      have hkw : Keeps None w w6 := (HC.out.2.2.trans hk5 (fun _ f _ => f)).trans hk6 (fun i e hi => by rcases e with e | e; have := HC.out.1; omega; simp [Value.ownBlock] at e; have := HC.out.2.1; omega)
      have HQ : Hid (TreePost l zs (F : Int) w (.returned (.tuple #[nv6, .int .i64 0])) w6) := by
        refine ⟨nv6, by rw [HTV.out.2.1], hkw, fun g' e => ?_, fun h => by rw [HTV.out.2.1] at h; exact absurd rfl h, fun _ => by rw [HTV.out.1]; exact hr6.row⟩
        rcases hm6 with h | ⟨g2, e2, h2⟩
        · rw [h] at e
          simp [Value.ownBlock] at e
          have := HC.out.2.1
          omega
        · rw [e2] at e
          obtain rfl := Option.some.inj e
          have := hk5.size
          have := HC.out.2.2.size
          omega
      clear hr6 hk6 hm6 hkw hk5 hrt
      go_wp2_with fail
      go_ret2
      exact HQ.out
  · have heb : ((evalV l zs fuel).2 != 0) = true := by simpa using he0
    have HQ : Hid (∀ w', Keeps None w w' → TreePost l zs fuel w (.returned (.tuple #[.slice none 0 0, .int .i64 (evalV l zs fuel).2])) w') := fun w' hk => ⟨_, rfl, hk, fun g e => by simp [Value.ownBlock] at e, fun _ => rfl, fun h => absurd h he0⟩
    generalize (evalV l zs fuel).2 = er at *
    unfold valC at hev
    generalize (evalV l zs fuel).1 = ev at *
    clear hT hS hok hZ hk1 b1
    go_enter Tryd.func10, Tryd.ntmps10
    go_upto_region 1 with fail
    rw [← hW, ← hB]
    clear hW hB
    go_upto_region 2 with (go_at_call 7; refine hev.mono ?_; rintro _ w2 ⟨rfl, hk2⟩)
    have HK2 : Hid (Keeps None w w2) := HX.out.2.1.trans hk2 (fun _ f _ => f)
    clear hk2 hev
    go_wp2_with fail
    go_ret2
    exact HQ.out _ (HK2.out.andAlloc _)
end Go.Proofs.YtdpljbdnbmdokaaDoor
/-! The statements' 'lives'. -/
namespace Go.Proofs.YtdpljbdnbmdokaaDoor
set_option linter.unusedVariables false
set_option maxRecDepth 20000
open Go.RowKit Go.HeapKit Go.PlainOps

def liveF (c : Int) : Fn := ⟨0, 1, 0, [⟨0, 0, 0, 0, c⟩, ⟨9, 0, 0, 0, 0⟩]⟩
theorem live_check (c : Int) : checkV [liveF c] = (0, 0, 0) := by rfl
theorem live_eval (c : Int) : evalV [liveF c] [] 2 = (⟨c, 2, 1, 1, 2⟩, 0) := by
  have h1 : refusedV [liveF c] [] 2 = 0 := by
    unfold refusedV
    rw [live_check]
    rfl
  unfold evalV
  rw [h1]
  rfl
theorem live_tree (c : Int) : treeV [liveF c] [] 2 = [⟨-1, 0, 0, 2, 1, 0, c⟩] := by rfl
theorem live_ok (c : Int) (hc : okI c) : ∀ f ∈ [liveF c], f.Ok := by
  intro f hf
  simp at hf
  subst hf
  refine ⟨by simp [liveF, okI], by simp [liveF, okI], by simp [liveF, okI], fun i hi => ?_⟩
  simp [liveF] at hi
  rcases hi with rfl | rfl
  · exact ⟨by simp [okI], by simp [okI], by simp [okI], by simp [okI], hc⟩
  · exact ⟨by simp [okI], by simp [okI], by simp [okI], by simp [okI], by simp [okI]⟩
def liveC (c : Int) : Array Value := #[.int .i64 0, .int .i64 0, .int .i64 0, .int .i64 0, .int .i64 c, .int .i64 9, .int .i64 0, .int .i64 0, .int .i64 0, .int .i64 0]
theorem live_seen (w : World) (g h : Nat) (c : Int) (b1 : w.heap[g]? = some (.cells (liveC c) 47 (0, 0))) (b2 : w.heap[h]? = some (.cells #[.int .i64 0, .int .i64 1, .int .i64 0, .slice (some ⟨g, 0, none⟩) 2 2] 28 (0, 0))) : SeenF w (some ⟨h, 0, none⟩) 1 [liveF c] := by
  refine ⟨rfl, fun _ => ⟨_, 0, rfl, blk_lt b2, fun k f hf => ?_⟩⟩
  cases k with
  | succ k => simp at hf
  | zero =>
    simp at hf
    subst hf
    refine ⟨some ⟨g, 0, none⟩, 2, ⟨(cell_of_heap b2 0).trans rfl, (cell_of_heap b2 1).trans rfl, (cell_of_heap b2 2).trans rfl, (cell_of_heap b2 3).trans rfl, ⟨rfl, fun _ => ⟨_, 0, rfl, blk_lt b1, fun j i hi => ?_⟩⟩⟩⟩
    match j, hi with
    | 0, hi =>
      simp [liveF] at hi
      subst hi
      exact ⟨(cell_of_heap b1 0).trans rfl, (cell_of_heap b1 1).trans rfl, (cell_of_heap b1 2).trans rfl, (cell_of_heap b1 3).trans rfl, (cell_of_heap b1 4).trans rfl⟩
    | 1, hi =>
      simp [liveF] at hi
      subst hi
      exact ⟨(cell_of_heap b1 5).trans rfl, (cell_of_heap b1 6).trans rfl, (cell_of_heap b1 7).trans rfl, (cell_of_heap b1 8).trans rfl, (cell_of_heap b1 9).trans rfl⟩
    | j + 2, hi => simp [liveF] at hi
theorem seen_nil (w : World) : SeenA w none 0 [] := ⟨rfl, by omega, fun x hx => by simp at hx, fun h => by omega⟩
end Go.Proofs.YtdpljbdnbmdokaaDoor
/-! Programs that are written out, in memory. -/
namespace Go.Proofs.YtdpljbdnbmdokaaDoor
set_option linter.unusedVariables false
set_option maxRecDepth 20000
open Go.RowKit Go.HeapKit Go.PlainOps

def codeC (l : List Ins) : List Value := l.flatMap insCells
theorem codeC_at (l : List Ins) (k : Nat) (i : Ins) (h : l[k]? = some i) (j : Nat) (v : Value) (hj : (insCells i)[j]? = some v) : (codeC l)[k * 5 + j]? = some v := by
  have hj5 : j < 5 := (List.getElem?_eq_some_iff.1 hj).1
  induction l generalizing k with
  | nil => simp at h
  | cons z l ih =>
    have e : codeC (z :: l) = insCells z ++ codeC l := rfl
    have hz : (insCells z).length = 5 := rfl
    rw [e]
    cases k with
    | zero =>
      simp at h
      subst h
      rw [List.getElem?_append_left (by omega), Nat.zero_mul, Nat.zero_add]
      exact hj
    | succ k =>
      rw [List.getElem?_append_right (by omega), show (k + 1) * 5 + j - (insCells z).length = k * 5 + j by omega]
      exact ih k (by simpa using h)
theorem seen_code {w : World} {g : Nat} {l : List Ins} {t : TypeId} {z : Nat × Nat} (hb : w.heap[g]? = some (.cells (codeC l).toArray t z)) : SeenI w (some ⟨g, 0, none⟩) l.length l := by
  refine ⟨rfl, fun _ => ⟨g, 0, rfl, blk_lt hb, fun k i hi => ?_⟩⟩
  have hc : ∀ j v, (insCells i)[j]? = some v → w.cell? ⟨g, 0 + k * 5 + j, none⟩ = some v := fun j v hv => by
    rw [blk_cell hb, Nat.zero_add]
    simpa using codeC_at l k i hi j v hv
  exact ⟨hc 0 _ rfl, hc 1 _ rfl, hc 2 _ rfl, hc 3 _ rfl, hc 4 _ rfl⟩
theorem seen_one {w : World} {g h : Nat} {f : Fn} {t t2 : TypeId} {z z2 : Nat × Nat} {cc : Nat} (hb : w.heap[g]? = some (.cells (codeC f.code).toArray t z)) (hc : w.heap[h]? = some (.cells #[.int .i64 f.params, .int .i64 f.regs, .int .i64 f.slots, .slice (some ⟨g, 0, none⟩) f.code.length cc] t2 z2)) : SeenF w (some ⟨h, 0, none⟩) 1 [f] := by
  refine ⟨rfl, fun _ => ⟨_, 0, rfl, blk_lt hc, fun k f' hf => ?_⟩⟩
  cases k with
  | succ k => simp at hf
  | zero =>
    simp at hf
    subst hf
    exact ⟨_, cc, ⟨(cell_of_heap hc 0).trans rfl, (cell_of_heap hc 1).trans rfl, (cell_of_heap hc 2).trans rfl, (cell_of_heap hc 3).trans rfl, seen_code hb⟩⟩
theorem seen_args {w : World} {g : Nat} {l : List Int} {t : TypeId} {z : Nat × Nat} (hb : w.heap[g]? = some (.cells (ints l).toArray t z)) (hl : ∀ x ∈ l, okI x) (hn : l.length ≤ 9223372036854775807) : SeenA w (some ⟨g, 0, none⟩) l.length l := by
  refine ⟨rfl, hn, hl, fun _ => ⟨g, 0, rfl, blk_lt hb, fun k x hx => ?_⟩⟩
  rw [blk_cell hb, Nat.zero_add]
  simpa using ints_at l k x hx
end Go.Proofs.YtdpljbdnbmdokaaDoor
/-! Package asm: instructions, functions, programs. -/
namespace Go.Proofs.YtdpljbdnbmdokaaDoor
set_option linter.unusedVariables false
set_option maxRecDepth 20000
open Go.RowKit Go.HeapKit

/-- A function whose one result lies in a block that is new. -/
theorem ins_ret {Q : Ending → World → Prop} {a : Act} {w : World} {fn : Func} {us : Array Value} (q : Tmp) (hfn : fn.results = #[.cell q 47]) (ha : a.tmps.getD q undef = .pointer (some ⟨w.heap.size, 0, none⟩)) (hd : a.defers = [])
    (hz : us.size = 5) (hQ : Q (.returned (.agg us)) (w.alloc (.cells us 47))) : bodyPost Tryd.prog fn Q .ret a (w.alloc (.cells us 47)) :=
  bodyPost_ret (results_one (q := q) (ty := 47) hfn ha (run_loadVar_row _ w.heap.size 47 47 _ _ _ (heap_alloc_new w _) Tryd.underlying47 rfl (by rw [hz]; kernel_rfl))) hd hQ
theorem fn_ret {Q : Ending → World → Prop} {a : Act} {w : World} {fn : Func} {us : Array Value} (q : Tmp) (hfn : fn.results = #[.cell q 28]) (ha : a.tmps.getD q undef = .pointer (some ⟨w.heap.size, 0, none⟩)) (hd : a.defers = [])
    (hz : us.size = 4) (hQ : Q (.returned (.agg us)) (w.alloc (.cells us 28))) : bodyPost Tryd.prog fn Q .ret a (w.alloc (.cells us 28)) :=
  bodyPost_ret (results_one (q := q) (ty := 28) hfn ha (run_loadVar_row _ w.heap.size 28 28 _ _ _ (heap_alloc_new w _) Tryd.underlying28 rfl (by rw [hz]; kernel_rfl))) hd hQ
theorem prog_ret {Q : Ending → World → Prop} {a : Act} {w : World} {fn : Func} {us : Array Value} (q : Tmp) (hfn : fn.results = #[.cell q 25]) (ha : a.tmps.getD q undef = .pointer (some ⟨w.heap.size, 0, none⟩)) (hd : a.defers = [])
    (hz : us.size = 1) (hQ : Q (.returned (.agg us)) (w.alloc (.cells us 25))) : bodyPost Tryd.prog fn Q .ret a (w.alloc (.cells us 25)) :=
  bodyPost_ret (results_one (q := q) (ty := 25) hfn ha (run_loadVar_row _ w.heap.size 25 25 _ _ _ (heap_alloc_new w _) Tryd.underlying25 rfl (by rw [hz]; kernel_rfl))) hd hQ
theorem asm_const (a k : Int) (w : World) : Calls Tryd.prog 60 #[.int .i64 a, .int .i64 k] w fun e w' => e = .returned (.agg #[.int .i64 0, .int .i64 a, .int .i64 0, .int .i64 0, .int .i64 k]) ∧ Keeps None w w' := by
  go_enter Tryd.func60, Tryd.ntmps60
  go_wp2
  refine ins_ret 4 rfl rfl rfl rfl ?_
  exact ⟨rfl, Keeps.alloc _ _ _⟩
theorem asm_move (a b : Int) (w : World) : Calls Tryd.prog 63 #[.int .i64 a, .int .i64 b] w fun e w' => e = .returned (.agg #[.int .i64 1, .int .i64 a, .int .i64 b, .int .i64 0, .int .i64 0]) ∧ Keeps None w w' := by
  go_enter Tryd.func63, Tryd.ntmps63
  go_wp2
  refine ins_ret 4 rfl rfl rfl rfl ?_
  exact ⟨rfl, Keeps.alloc _ _ _⟩
theorem asm_arith (a b o c : Int) (w : World) : Calls Tryd.prog 61 #[.int .i64 a, .int .i64 b, .int .i64 o, .int .i64 c] w fun e w' => e = .returned (.agg #[.int .i64 2, .int .i64 a, .int .i64 b, .int .i64 c, .int .i64 o]) ∧ Keeps None w w' := by
  go_enter Tryd.func61, Tryd.ntmps61
  go_wp2
  refine ins_ret 8 rfl rfl rfl rfl ?_
  exact ⟨rfl, Keeps.alloc _ _ _⟩
theorem asm_branch (a t : Int) (w : World) : Calls Tryd.prog 62 #[.int .i64 a, .int .i64 t] w fun e w' => e = .returned (.agg #[.int .i64 4, .int .i64 a, .int .i64 t, .int .i64 0, .int .i64 0]) ∧ Keeps None w w' := by
  go_enter Tryd.func62, Tryd.ntmps62
  go_wp2
  refine ins_ret 4 rfl rfl rfl rfl ?_
  exact ⟨rfl, Keeps.alloc _ _ _⟩
theorem asm_spawn (s f x : Int) (w : World) : Calls Tryd.prog 64 #[.int .i64 s, .int .i64 f, .int .i64 x] w fun e w' => e = .returned (.agg #[.int .i64 5, .int .i64 s, .int .i64 f, .int .i64 x, .int .i64 0]) ∧ Keeps None w w' := by
  go_enter Tryd.func64, Tryd.ntmps64
  go_wp2
  refine ins_ret 6 rfl rfl rfl rfl ?_
  exact ⟨rfl, Keeps.alloc _ _ _⟩
theorem asm_sync (w : World) : Calls Tryd.prog 65 #[] w fun e w' => e = .returned (.agg #[.int .i64 6, .int .i64 0, .int .i64 0, .int .i64 0, .int .i64 0]) ∧ Keeps None w w' := by
  go_enter Tryd.func65, Tryd.ntmps65
  go_wp2
  refine ins_ret 0 rfl rfl rfl rfl ?_
  exact ⟨rfl, Keeps.alloc _ _ _⟩
theorem asm_load (a s : Int) (w : World) : Calls Tryd.prog 66 #[.int .i64 a, .int .i64 s] w fun e w' => e = .returned (.agg #[.int .i64 7, .int .i64 a, .int .i64 s, .int .i64 0, .int .i64 0]) ∧ Keeps None w w' := by
  go_enter Tryd.func66, Tryd.ntmps66
  go_wp2
  refine ins_ret 4 rfl rfl rfl rfl ?_
  exact ⟨rfl, Keeps.alloc _ _ _⟩
theorem asm_return (a : Int) (w : World) : Calls Tryd.prog 67 #[.int .i64 a] w fun e w' => e = .returned (.agg #[.int .i64 9, .int .i64 a, .int .i64 0, .int .i64 0, .int .i64 0]) ∧ Keeps None w w' := by
  go_enter Tryd.func67, Tryd.ntmps67
  go_wp2
  refine ins_ret 2 rfl rfl rfl rfl ?_
  exact ⟨rfl, Keeps.alloc _ _ _⟩
theorem asm_func (p r t : Int) (a : Option Addr) (n c : Nat) (w : World) : Calls Tryd.prog 59 #[.int .i64 p, .int .i64 r, .int .i64 t, .slice a n c] w fun e w' => e = .returned (.agg #[.int .i64 p, .int .i64 r, .int .i64 t, .slice a n c]) ∧ Keeps None w w' := by
  go_enter Tryd.func59, Tryd.ntmps59
  go_wp2
  refine fn_ret 8 rfl rfl rfl rfl ?_
  exact ⟨rfl, Keeps.alloc _ _ _⟩
theorem asm_program (a : Option Addr) (n c : Nat) (w : World) : Calls Tryd.prog 58 #[.slice a n c] w fun e w' => e = .returned (.agg #[.slice a n c]) ∧ Keeps None w w' := by
  go_enter Tryd.func58, Tryd.ntmps58
  go_wp2
  refine prog_ret 2 rfl rfl rfl rfl ?_
  exact ⟨rfl, Keeps.alloc _ _ _⟩
end Go.Proofs.YtdpljbdnbmdokaaDoor
/-! Lists of instructions and of functions that a call has made. -/
namespace Go.Proofs.YtdpljbdnbmdokaaDoor
set_option linter.unusedVariables false
set_option maxRecDepth 20000
open Go.RowKit Go.HeapKit Go.PlainOps

theorem Tryd.plIns : (Tryd.prog.info? 47).map (fun i => (i.zero, i.size, i.bytes)) = some (some (.agg #[.int .i64 0, .int .i64 0, .int .i64 0, .int .i64 0, .int .i64 0]), 5, 40) := by kernel_rfl
theorem Tryd.plFn : (Tryd.prog.info? 28).map (fun i => (i.zero, i.size, i.bytes)) = some (some (.agg #[.int .i64 0, .int .i64 0, .int .i64 0, .slice none 0 0]), 4, 48) := by kernel_rfl
theorem codeC_length (l : List Ins) : (codeC l).length = l.length * 5 := by
  induction l with
  | nil => rfl
  | cons x l ih => simp only [codeC, List.flatMap_cons, List.length_append, List.length_cons] at ih ⊢; rw [ih]; simp [insCells]; omega
theorem codeC_append (a b : List Ins) : codeC (a ++ b) = codeC a ++ codeC b := by simp [codeC]
theorem codeC_one (l : List Ins) : ∀ u ∈ codeC l, u.oneCell' = true := by
  intro u hu
  simp only [codeC, List.mem_flatMap] at hu
  obtain ⟨i, _, hi⟩ := hu
  simp [insCells] at hi
  rcases hi with rfl | rfl | rfl | rfl | rfl <;> rfl
theorem codeC_cell {l : List Ins} {j : Nat} {u : Value} (h : (codeC l)[j]? = some u) : ∃ k i o, l[k]? = some i ∧ j = k * 5 + o ∧ (insCells i)[o]? = some u := by
  induction l generalizing j with
  | nil => simp [codeC] at h
  | cons x l ih =>
    have e : codeC (x :: l) = insCells x ++ codeC l := rfl
    rw [e] at h
    have hz : (insCells x).length = 5 := rfl
    by_cases hj : j < 5
    · rw [List.getElem?_append_left (by omega)] at h
      exact ⟨0, x, j, rfl, by omega, h⟩
    · rw [List.getElem?_append_right (by omega)] at h
      obtain ⟨k, i, o, h1, h2, h3⟩ := ih h
      exact ⟨k + 1, i, o, by simpa using h1, by omega, h3⟩
/-- A list of instructions that is this call's own. -/
abbrev OwnC (w : World) (base : Nat) (v : Value) (l : List Ins) : Prop := w.ownsRow base 47 5 v l.length (codeC l)
theorem OwnC.shape {w : World} {base : Nat} {v : Value} {l : List Ins} (h : OwnC w base v l) : ∃ ca cc, v = .slice ca l.length cc ∧ SeenI w ca l.length l := by
  rcases h.2 with ⟨rfl, h0⟩ | ⟨g, cap, cur, rfl, _, hb, hn, _, hcs, htk⟩
  · exact ⟨none, 0, by rw [h0], ⟨rfl, fun hp => by omega⟩⟩
  · refine ⟨_, cap, rfl, ⟨rfl, fun _ => ⟨g, 0, rfl, blk_lt hb, fun k i hi => ?_⟩⟩⟩
    have hc : ∀ j x, (insCells i)[j]? = some x → w.cell? ⟨g, 0 + k * 5 + j, none⟩ = some x := fun j x hx => by
      have h1 := codeC_at l k i hi j x hx
      rw [blk_cell hb, ← Array.getElem?_toList, Nat.zero_add]
      rw [← htk, List.getElem?_take] at h1
      split at h1
      · exact h1
      · cases h1
    exact ⟨hc 0 _ rfl, hc 1 _ rfl, hc 2 _ rfl, hc 3 _ rfl, hc 4 _ rfl⟩
theorem OwnC.base {w : World} {base : Nat} {v : Value} {l : List Ins} (h : OwnC w base v l) {g : Nat} (hg : v.ownBlock = some g) : base ≤ g ∧ g < w.heap.size := by
  rcases h.2 with ⟨rfl, _⟩ | ⟨g', cap, cur, rfl, hb, hh, _⟩
  · simp [Value.ownBlock] at hg
  · simp [Value.ownBlock] at hg
    subst hg
    exact ⟨hb, blk_lt hh⟩
theorem OwnC.low {w : World} {base b2 : Nat} {v : Value} {l : List Ins} (h : OwnC w base v l) (hb : b2 ≤ base) : OwnC w b2 v l := by
  refine ⟨h.1, ?_⟩
  rcases h.2 with h0 | ⟨g', cap, cur, e, hg, r⟩
  · exact .inl h0
  · exact .inr ⟨g', cap, cur, e, by omega, r⟩
theorem OwnC.kept {w w' : World} {S : Nat → Prop} {base : Nat} {v : Value} {l : List Ins} (h : OwnC w base v l) (hk : Keeps S w w') (hS : ∀ g, v.ownBlock = some g → ¬ S g) : OwnC w' base v l := hk.own h hS
theorem OwnC.more {w w' : World} {base : Nat} {v : Value} {l : List Ins} (h : OwnC w base v l) (hk : Keeps None w w') : OwnC w' base v l := hk.own h (fun _ _ f => f)
/-- A list that is written out lies in a new block. -/
theorem own_lit (w : World) (l : List Ins) (us : Array Value) (n : Nat) (e : us = (codeC l).toArray) (hn : n = l.length) (hl : l.length ≤ 1000) : OwnC (w.alloc (.cells us 47)) w.heap.size (.slice (some ⟨w.heap.size, 0, none⟩) n n) l := by
  subst e hn
  refine ⟨codeC_length l, .inr ⟨w.heap.size, l.length, _, rfl, Nat.le_refl _, heap_alloc_new w _, Nat.le_refl _, by unfold maxLen; omega, by simp [codeC_length], by simp [← codeC_length]⟩⟩
/-- 'append(s, l...)'. -/
theorem code_app (base : Nat) (g n cap : Nat) (l1 : List Ins) (a : Option Addr) (m c : Nat) (l2 : List Ins) (ty : TypeId) (w : World) (hn : n = l1.length) (h : OwnC w base (.slice (some ⟨g, 0, none⟩) n cap) l1) (h2 : SeenI w a m l2) (hb : base ≤ w.heap.size) (hl : l1.length + l2.length ≤ 100000) :
    ∃ g' cap' w', (Builtin.append_ #[26, 26] ty #[.slice (some ⟨g, 0, none⟩) n cap, .slice a m c]).run Tryd.prog w = .ok (.slice (some ⟨g', 0, none⟩) (n + m) cap') w' ∧
      OwnC w' base (.slice (some ⟨g', 0, none⟩) (n + m) cap') (l1 ++ l2) ∧ Keeps (· = g) w w' ∧ (g' = g ∨ w.heap.size ≤ g') := by
  obtain ⟨i0, hi, hz0, hz1, hz2⟩ := info_parts Tryd.plIns
  have hm := h2.len
  cases a with
  | none =>
    have h0 : m = 0 := by
      by_cases hp : 0 < m
      · obtain ⟨b, off, e, _⟩ := h2.ex hp
        cases e
      · omega
    have e2 : l2 = [] := List.eq_nil_of_length_eq_zero (by omega)
    subst e2
    subst h0
    refine ⟨g, cap, w, ?_, by rw [List.append_nil]; exact h, Keeps.refl _ _, .inl rfl⟩
    have hnc : n ≤ cap := by
      rcases h.2 with ⟨h, _⟩ | ⟨_, _, _, e, _, _, hh, _⟩
      · cases h
      · injection e with _ e1 e2
        subst e2
        rw [hn]
        exact hh
    simp [Builtin.append_, run_underlying Tryd.underlying26, sizeOf, typeInfo, zeroValue, hi, hz0, Builtin.lenOf, Builtin.firstCells, storeCells, hnc]
  | some x =>
    rw [hn] at h ⊢
    obtain ⟨v', w', hr, ho, hgr, hmv, -⟩ := run_append_moved (P := Tryd.prog) w base 26 ty 47 i0 _ 5 40 Tryd.underlying26 hi hz0 hz1 hz2 rfl (by decide) _ l1.length (codeC l1) h
      x m c (codeC l2) (by rw [codeC_length, hm]) (fun j u hu => by
        obtain ⟨k, i, o, h1, rfl, h3⟩ := codeC_cell hu
        have hk : 0 < m := by have := (List.getElem?_eq_some_iff.1 h1).1; omega
        obtain ⟨b, off, e, _, hc⟩ := h2.ex hk
        obtain rfl := Option.some.inj e
        have hI := hc k i h1
        rw [show (⟨b, off, none⟩ : Addr).add (k * 5 + o) = ⟨b, off + k * 5 + o, none⟩ by unfold Addr.add; split <;> simp_all; omega]
        have ho : o < 5 := (List.getElem?_eq_some_iff.1 h3).1
        match o, ho, h3 with
        | 0, _, h3 => simp [insCells] at h3; subst h3; exact hI.kind
        | 1, _, h3 => simp [insCells] at h3; subst h3; exact hI.a
        | 2, _, h3 => simp [insCells] at h3; subst h3; exact hI.b
        | 3, _, h3 => simp [insCells] at h3; subst h3; exact hI.c
        | 4, _, h3 => simp [insCells] at h3; subst h3; exact hI.k) (codeC_one l2) (by unfold maxLen; omega) (by omega) hb
    have ho' : w'.ownsRow base 47 5 v' (l1 ++ l2).length (codeC (l1 ++ l2)) := by
      rw [codeC_append, List.length_append, ← hm]
      exact ho
    have hsh : ∃ g' cap', v' = .slice (some ⟨g', 0, none⟩) (l1.length + m) cap' := by
      rcases ho.2 with ⟨hv, h0⟩ | ⟨g', cap', _, e, _⟩
      · subst hv
        rcases hmv with e | ⟨g2, e, _⟩
        · simp [Value.ownBlock] at e
        · simp [Value.ownBlock] at e
      · exact ⟨g', cap', e⟩
    obtain ⟨g', cap', rfl⟩ := hsh
    refine ⟨g', cap', w', hr, ho', (Keeps.refl _ w).andGrown hgr (fun k e => .inl (by simpa [Value.ownBlock] using e.symm)), ?_⟩
    rcases hmv with e | ⟨g2, e, h3⟩
    · simp [Value.ownBlock] at e
      exact .inl e
    · simp [Value.ownBlock] at e
      exact .inr (by omega)
/-- 'append(nil, make([]Instr, n)...)[:0]': room for n. -/
theorem code_room (m : Nat) (ty : TypeId) (w : World) (hm : 0 < m) (hl : m ≤ 100000) : ∃ cap cells, (Builtin.append_ #[26, 3] ty #[.slice none 0 0, .int .i64 m]).run Tryd.prog w = .ok (.slice (some ⟨w.heap.size, 0, none⟩) m cap) (w.drew.alloc (.cells cells 47)) ∧ m ≤ cap ∧ cap ≤ maxLen ∧ cells.size = cap * 5 := by
  obtain ⟨i0, hi, hz0, hz1, hz2⟩ := info_parts Tryd.plIns
  have hwrap : IntKind.i64.wrap (m : Int) = m := by rw [IntKind.wrap_i64]; omega
  have hai : ∀ w, Sem.run Tryd.prog (asInt (.int .i64 (m : Int))) w = .ok (m : Int) w := fun _ => rfl
  have hm0 : ¬ m = 0 := by omega
  have hmb' : ¬ (281474976710656 < (m : Int) * (i0.bytes : Int)) := by rw [hz2]; omega
  have hneg : ¬ ((m : Int) < 0) := by omega
  have h63' : ¬ (9223372036854775807 < (m : Int)) := by omega
  have h48' : ¬ (281474976710656 < Builtin.nextslicecap m 0 * i0.bytes) := by rw [nextslicecap_zero hm, hz2]; omega
  have hge := grownCap_ge w m 0 47
  refine ⟨grownCap w m 0 47, Builtin.zeroCells (Value.cells (.agg #[.int .i64 0, .int .i64 0, .int .i64 0, .int .i64 0, .int .i64 0])) m ++ Builtin.zeroCells (Value.cells (.agg #[.int .i64 0, .int .i64 0, .int .i64 0, .int .i64 0, .int .i64 0])) (grownCap w m 0 47 - m), ?_, hge, grownCap_le_maxLen w m 0 _ (by unfold maxLen; omega), ?_⟩
  · simp [Builtin.append_, run_underlying Tryd.underlying26, run_underlying Tryd.underlying3, sizeOf, typeInfo, zeroValue, hi, hz0, hz1, hai, hwrap, hneg, hmb', hm0, h63', h48', Question.forced, run_firstCells_none, newRow, grownCap]
    exact fun h => absurd h (by omega)
  · have hs : (Value.cells (.agg #[.int .i64 0, .int .i64 0, .int .i64 0, .int .i64 0, .int .i64 0])).size = 5 := rfl
    simp [Builtin.zeroCells, hs]
    omega
end Go.Proofs.YtdpljbdnbmdokaaDoor
/-! slices.Grow and slices.Concat of instructions. -/
namespace Go.Proofs.YtdpljbdnbmdokaaDoor
set_option linter.unusedVariables false
set_option maxRecDepth 20000
open Go.RowKit Go.HeapKit Go.PlainOps

/-- A list of lists of instructions that can be read. -/
structure SeenS (w : World) (a : Option Addr) (n : Nat) (ls : List (List Ins)) : Prop where
  len : n = ls.length
  ex : 0 < n → ∃ b off, a = some ⟨b, off, none⟩ ∧ ∀ k l, ls[k]? = some l → ∃ ca cc, w.cell? ⟨b, off + k, none⟩ = some (.slice ca l.length cc) ∧ SeenI w ca l.length l
theorem SeenS.more {w w' : World} {a : Option Addr} {n : Nat} {ls : List (List Ins)} (h : SeenS w a n ls) (hk : Keeps None w w') : SeenS w' a n ls := by
  refine ⟨h.len, fun h0 => ?_⟩
  obtain ⟨b, off, rfl, hc⟩ := h.ex h0
  refine ⟨b, off, rfl, fun k l hl => ?_⟩
  obtain ⟨ca, cc, h1, h2⟩ := hc k l hl
  exact ⟨ca, cc, hk.cell h1 (fun f => f), h2.more hk⟩
theorem SeenS.at {w : World} {a : Option Addr} {n : Nat} {ls : List (List Ins)} (h : SeenS w a n ls) {k : Nat} (hk : k < n) : ∃ b off l ca cc, a = some ⟨b, off, none⟩ ∧ ls[k]? = some l ∧ w.cell? ⟨b, off + k, none⟩ = some (.slice ca l.length cc) ∧ SeenI w ca l.length l := by
  obtain ⟨b, off, rfl, hc⟩ := h.ex (by omega)
  have hl := h.len
  obtain ⟨ca, cc, h1, h2⟩ := hc k (ls[k]'(by omega)) (by simp)
  exact ⟨b, off, ls[k]'(by omega), ca, cc, rfl, by simp, h1, h2⟩
theorem flat_take {ls : List (List Ins)} {k : Nat} {l : List Ins} (h : ls[k]? = some l) : (ls.take (k + 1)).flatten = (ls.take k).flatten ++ l := by
  have hk := (List.getElem?_eq_some_iff.1 h).1
  have e : ls.take (k + 1) = ls.take k ++ [l] := by
    rw [List.take_add_one, h]
    rfl
  rw [e, List.flatten_append]
  simp
theorem flat_le (ls : List (List Ins)) (k : Nat) : (ls.take k).flatten.length ≤ ls.flatten.length := by
  conv => rhs; rw [← List.take_append_drop k ls]
  rw [List.flatten_append, List.length_append]
  omega
theorem grow_any (m : Nat) (w : World) (hm : 0 < m) (hl : m ≤ 100000) : Calls Tryd.prog 76 #[.slice none 0 0, .int .i64 m] w fun e w' => ∃ g cap, e = .returned (.slice (some ⟨g, 0, none⟩) 0 cap) ∧ OwnC w' w.heap.size (.slice (some ⟨g, 0, none⟩) 0 cap) [] ∧ Keeps None w w' := by
  have i1 : ¬ ((m : Int) < 0) := by omega
  have i2 : (0 : Int) < (m : Int) := by omega
  obtain ⟨cap, cells, hr, h1, h2, h3⟩ := code_room m 26 w hm hl
  have i3 : (0 : Int) ≤ (cap : Int) := by omega
  have HX : Hid (m ≤ cap ∧ cap ≤ maxLen ∧ cells.size = cap * 5) := ⟨h1, h2, h3⟩
  clear h1 h2 h3
  go_enter Tryd.func76, Tryd.ntmps76
  go_wp2_with (at_builtin; refine wpList_append_run rfl (.tmp 20) (.tmp 21) 26 3 rfl rfl rfl hr ?_)
  go_ret
  obtain ⟨h1, h2, h3⟩ := HX.out
  refine ⟨w.heap.size, cap, rfl, ⟨rfl, .inr ⟨w.heap.size, cap, cells, rfl, Nat.le_refl _, heap_alloc_new w.drew _, by simp, h2, h3, rfl⟩⟩, (Keeps.drew _ w).andAlloc _⟩
set_option maxHeartbeats 1600000 in
theorem concat_any (a : Option Addr) (n c : Nat) (ls : List (List Ins)) (w : World) (h : SeenS w a n ls) (hn : n ≤ 1000) (h0 : 0 < ls.flatten.length) (hl : ls.flatten.length ≤ 100000) : Calls Tryd.prog 68 #[.slice a n c] w fun e w' => ∃ ca cc, e = .returned (.slice ca ls.flatten.length cc) ∧ OwnC w' w.heap.size (.slice ca ls.flatten.length cc) ls.flatten ∧ Keeps None w w' := by
  obtain ⟨T, hT⟩ : ∃ T, T = ls.flatten.length := ⟨_, rfl⟩
  have HT : Hid (T = ls.flatten.length ∧ n = ls.length) := ⟨hT, h.len⟩
  rw [← hT] at h0 hl
  have HS : Hid (SeenS w a n ls) := h
  clear h
  have hgw := grow_any T w h0 hl
  rw [← hT]
  clear hT
  go_enter Tryd.func68, Tryd.ntmps68
  go_wp2_with fail
  go_loopw [3, 5, 11] (fun s3 _ s11 wr => ∃ k t : Nat, k ≤ n ∧ s11 = .int .i64 k ∧ s3 = .int .i64 t ∧ t = (ls.take k).flatten.length ∧ wr = w) (fun _ _ i _ => n - (intOf i).toNat)
  case atStart => exact ⟨0, 0, Nat.zero_le _, rfl, rfl, by simp, rfl⟩
  case round =>
    obtain ⟨k, t, hk, rfl, rfl, ht, hw⟩ := hrel
    have hw2 := hw.symm
    subst hw2
    have ht2 := flat_le ls k
    rw [← ht] at ht2
    by_cases hkn : k < n
    · have i1 : (k : Int) < (n : Int) := by omega
      have i2 : (0 : Int) ≤ (k : Int) := by omega
      obtain ⟨b, off, l, ca, cc, rfl, e1, c1, s1⟩ := HS.out.at hkn
      have ht3 := flat_le ls (k + 1)
      rw [flat_take e1, List.length_append, ← ht] at ht3
      have e2 : t + l.length = (ls.take (k + 1)).flatten.length := by rw [flat_take e1, List.length_append, ht]
      have HE : Hid (t + l.length = (ls.take (k + 1)).flatten.length) := e2
      rw [← HT.out.1] at ht3
      generalize l.length = L at *
      have w1 : (t : Int) + (L : Int) ≤ 100000 := by omega
      have w2 : ¬ ((t : Int) + (L : Int) < 0) := by omega
      have w3 : (k : Int) ≤ 1000 := by omega
      clear e2 ht3 ht2 ht
      go_wp2
      exact ⟨⟨k + 1, t + L, by omega, by simp, by simp, HE.out, trivial⟩, by simp [intOf]; omega⟩
    · have i1 : ¬ ((k : Int) < (n : Int)) := by omega
      obtain rfl : k = n := by omega
      have e3 : t = T := by rw [ht, HT.out.1, List.take_of_length_le (by rw [← HT.out.2]; omega)]
      subst e3
      clear ht ht2
      go_wp2_with (go_at_call 76; refine hgw.mono ?_; rintro _ w1 ⟨g1, cap1, rfl, ho1, hk1⟩)
      clear hgw
      go_loopw [6, 8, 27] (fun s6 _ s27 wr => ∃ j t2 g cap : Nat, j ≤ k ∧ s27 = .int .i64 j ∧ s6 = .slice (some ⟨g, 0, none⟩) t2 cap ∧ t2 = (ls.take j).flatten.length ∧ OwnC wr w.heap.size (.slice (some ⟨g, 0, none⟩) t2 cap) (ls.take j).flatten ∧ Keeps None w wr) (fun _ _ i _ => k - (intOf i).toNat)
      case atStart => exact ⟨0, 0, g1, cap1, Nat.zero_le _, rfl, rfl, by simp, by simpa using ho1, hk1⟩
      case round =>
        obtain ⟨j, t2, g, cap, hj, rfl, rfl, ht2, ho, hkp⟩ := hrel
        by_cases hjk : j < k
        · have j1 : (j : Int) < (k : Int) := by omega
          have j2 : (0 : Int) ≤ (j : Int) := by omega
          obtain ⟨b, off, l, ca, cc, rfl, e1, c1, s1⟩ := (HS.out.more hkp).at hjk
          have ht3 := flat_le ls (j + 1)
          rw [flat_take e1, List.length_append, ← HT.out.1] at ht3
          obtain ⟨g', cap', w2, hr, ho2, hk2, hg2⟩ := code_app w.heap.size g t2 cap (ls.take j).flatten ca l.length cc l 26 wr ht2 ho s1 hkp.size (by omega)
          have hkn : Keeps None w w2 := hkp.trans hk2 (fun i e hi => by subst e; have := (ho.base (g := i) rfl).1; omega)
          rw [← flat_take e1] at ho2
          have e2 : t2 + l.length = (ls.take (j + 1)).flatten.length := by rw [flat_take e1, List.length_append, ht2]
          have HE : Hid (t2 + l.length = (ls.take (j + 1)).flatten.length ∧ OwnC w2 w.heap.size (.slice (some ⟨g', 0, none⟩) (t2 + l.length) cap') (ls.take (j + 1)).flatten ∧ Keeps None w w2) := ⟨e2, ho2, hkn⟩
          clear e2 ho2 hkn ht3 ho hkp hk2 hg2
          generalize l.length = L at *
          have w3 : (j : Int) ≤ 1000 := by omega
          clear ht2
          go_wp2_with (at_builtin; refine wpList_append_run rfl (.tmp 31) (.tmp 32) 26 26 rfl rfl rfl hr ?_)
          exact ⟨⟨j + 1, t2 + L, g', cap', by omega, by simp, rfl, HE.out.1, HE.out.2.1, HE.out.2.2⟩, by simp [intOf]; omega⟩
        · have j1 : ¬ ((j : Int) < (k : Int)) := by omega
          obtain rfl : j = k := by omega
          have e4 : ls.take j = ls := List.take_of_length_le (by rw [← HT.out.2]; omega)
          rw [e4, ← HT.out.1] at ht2
          rw [e4] at ho
          subst ht2
          have HF : Hid (OwnC wr w.heap.size (.slice (some ⟨g, 0, none⟩) t2 cap) ls.flatten ∧ Keeps None w wr) := ⟨ho, hkp⟩
          clear ho hkp e4
          go_wp2
          go_ret
          exact ⟨_, _, rfl, HF.out.1, HF.out.2⟩
end Go.Proofs.YtdpljbdnbmdokaaDoor
/-! For's program, plainly: what it is, and what a range comes to. -/
namespace Go.Proofs.YtdpljbdnbmdokaaDoor
set_option linter.unusedVariables false
set_option maxRecDepth 20000
open Go.RowKit Go.PlainOps

def shI (i : Ins) : Ins := if i.kind = 5 then { i with b := i.b + 2 } else i
def shF (f : Fn) : Fn := { f with code := f.code.map shI }
def entC (u : Int) : List Ins := [⟨0, 5, 0, 0, u⟩, ⟨0, 2, 0, 0, 0⟩, ⟨2, 6, 0, 2, 13⟩, ⟨4, 6, 10, 0, 0⟩, ⟨0, 4, 0, 0, 1⟩, ⟨2, 4, 1, 4, 11⟩, ⟨1, 3, 0, 0, 0⟩, ⟨5, 0, 1, 2, 0⟩, ⟨6, 0, 0, 0, 0⟩, ⟨7, 5, 0, 0, 0⟩, ⟨9, 5, 0, 0, 0⟩]
def choC (n : Int) : List Ins := [⟨2, 8, 1, 0, 1⟩, ⟨2, 10, 2, 8, 12⟩, ⟨4, 10, n, 0, 0⟩]
def lfC (b u : Int) (m : List Ins) : List Ins := [⟨0, 6, 0, 0, u⟩, ⟨0, 9, 0, 0, 1⟩] ++ [⟨5, 0, b, 0, 0⟩, ⟨6, 0, 0, 0, 0⟩] ++ m ++ [⟨2, 0, 0, 9, 0⟩, ⟨2, 10, 0, 1, 12⟩, ⟨4, 10, 5, 0, 0⟩, ⟨9, 6, 0, 0, 0⟩]
def hvC (m : List Ins) : List Ins := [⟨0, 4, 0, 0, 2⟩, ⟨2, 4, 8, 4, 3⟩, ⟨2, 4, 0, 4, 0⟩] ++ [⟨1, 3, 0, 0, 0⟩, ⟨1, 5, 2, 0, 0⟩, ⟨5, 0, 1, 3, 0⟩] ++ [⟨1, 0, 4, 0, 0⟩, ⟨5, 1, 1, 0, 0⟩, ⟨6, 0, 0, 0, 0⟩] ++ m ++ [⟨9, 6, 0, 0, 0⟩]
def entF (u : Int) : Fn := ⟨2, 7, 1, entC u⟩
def rnC (lf hv : List Ins) : List Ins := choC (3 + (lf.length : Int)) ++ lf ++ hv
def rnF (lf hv : List Ins) : Fn := ⟨3, 11, 2, rnC lf hv⟩
/-- For's program. -/
def forP (fs : List Fn) (b : Int) : List Fn := entF 0 :: rnF (lfC (b + 2) 0 []) (hvC []) :: fs.map shF
/-- The loads, and what they are merged by. -/
def mgC (c : Int) (l : List Ins) : List Ins := l ++ [⟨5, 0, c, 6, 0⟩, ⟨6, 0, 0, 0, 0⟩, ⟨7, 6, 0, 0, 0⟩]
/-- Reduce's program. -/
def redP (fs : List Fn) (b c u : Int) : List Fn := entF u :: rnF (lfC (b + 2) u (mgC (c + 2) [⟨7, 7, 0, 0, 0⟩])) (hvC (mgC (c + 2) [⟨7, 6, 0, 0, 0⟩, ⟨7, 7, 1, 0, 0⟩])) :: fs.map shF

/-! ### The run of a range -/
def key (n : Nd) : Int × Int := (n.func, n.arg)
def keys (s : Rn) : List (Int × Int) := s.nodes.map key
/-- A task that is on: its node stands in the list. -/
structure On (s : Rn) (t : Tk) : Prop where
  len : s.nodes.length = s.tasks
  num : 0 ≤ t.number
  key : (keys s)[t.number.toNat]? = some (key t.node)
theorem keys_len (s : Rn) : (keys s).length = s.nodes.length := by simp [keys]
theorem set_same {α : Type} (l : List α) (n : Nat) (x : α) (h : l[n]? = some x) : l.set n x = l := by
  apply List.ext_getElem?
  intro k
  rw [List.getElem?_set]
  by_cases hk : n = k
  · subst hk
    rw [if_pos rfl, h]
    rw [if_pos (List.getElem?_eq_some_iff.1 h).1]
  · rw [if_neg hk]
theorem keys_leave {s : Rn} {t : Tk} (h : On s t) (t' : Tk) (hn : t'.number = t.number) (hk : key t'.node = key t.node) (F : Nat) : keys (leaveS true { s with fuel := F } t') = keys s ∧ (leaveS true { s with fuel := F } t').nodes.length = (leaveS true { s with fuel := F } t').tasks ∧ (leaveS true { s with fuel := F } t').fuel = F := by
  refine ⟨?_, ?_, rfl⟩
  · show (s.nodes.set t'.number.toNat t'.node).map key = s.nodes.map key
    rw [List.map_set, hn, hk]
    exact set_same _ _ _ h.key
  · show (s.nodes.set t'.number.toNat t'.node).length = s.tasks
    rw [List.length_set]
    exact h.len
/-- What a call of the body comes to. -/
def BodyOk (fs : List Fn) (bf : Int) (w : Nat) (b : Int) : Prop := ∀ (g F : Nat) (s : Rn) (t : Tk), t.node.func = bf → t.regs.length = 16 → okI (t.regs.getD 0 0) → t.span = 0 → t.due = 0 → t.depth ≤ 4096 → s.nodes.length = s.tasks → s.fuel = F + w → F + w < g →
  ∃ v s2, playV fs true g s t = .done v b s2 ∧ s2.fuel = F ∧ s2.nodes.length = s2.tasks ∧ keys s2 = keys s ++ [(bf, t.regs.getD 0 0)]
/-- The work and the span of a range of m indices. -/
inductive Rng (G : Int) (w : Nat) (b : Int) : Nat → Nat → Int → Prop
  | leaf (m : Nat) : 1 ≤ m → (m : Int) ≤ G → Rng G w b m (6 + m * (w + 5)) (6 + m * (b + 5))
  | half (m W1 W2 : Nat) (s1 s2 : Int) : G < (m : Int) → Rng G w b (m / 2) W1 s1 → Rng G w b (m - m / 2) W2 s2 → Rng G w b m (13 + W1 + W2) (imax 12 (imax (imax 0 (9 + s1)) (11 + s2) + 1) + 1)
theorem rng_all (G : Int) (w : Nat) (b : Int) (hG : 1 ≤ G) : ∀ (n m : Nat), m ≤ n → 1 ≤ m → ∃ W sp, Rng G w b m W sp
  | 0, m, h, h1 => by omega
  | n + 1, m, h, h1 => by
    by_cases hm : (m : Int) ≤ G
    · exact ⟨_, _, .leaf m h1 hm⟩
    · obtain ⟨W1, s1, r1⟩ := rng_all G w b hG n (m / 2) (by omega) (by omega)
      obtain ⟨W2, s2, r2⟩ := rng_all G w b hG n (m - m / 2) (by omega) (by omega)
      exact ⟨_, _, .half m W1 W2 s1 s2 (by omega) r1 r2⟩
theorem rng_pos {G : Int} {w : Nat} {b : Int} (hb : 0 ≤ b) {m W : Nat} {sp : Int} (h : Rng G w b m W sp) : 1 ≤ m ∧ 0 < sp ∧ m * w ≤ W ∧ W + 13 ≤ m * (w + 24) := by
  induction h with
  | leaf m h1 hm =>
    refine ⟨h1, ?_, ?_, ?_⟩
    · have : 0 ≤ (m : Int) * (b + 5) := Int.mul_nonneg (by omega) (by omega)
      omega
    · rw [Nat.mul_add]; omega
    · rw [Nat.mul_add, Nat.mul_add]; omega
  | half m W1 W2 s1 s2 hm r1 r2 i1 i2 =>
    obtain ⟨a1, a2, a3, a4⟩ := i1
    obtain ⟨b1, b2, b3, b4⟩ := i2
    have e : m = m / 2 + (m - m / 2) := by omega
    refine ⟨by omega, ?_, ?_, ?_⟩
    · unfold imax
      repeat' split
      all_goals omega
    · rw [e, Nat.add_mul]
      have e1 : m / 2 + (m - m / 2) - (m / 2 + (m - m / 2)) / 2 = m - m / 2 := by omega
      omega
    · rw [e, Nat.add_mul]
      omega
section
variable {fs : List Fn} {bf : Int} {w : Nat} {b : Int}
def rr (x0 x1 x2 x3 x4 x5 x6 x7 x8 x9 x10 : Int) : List Int := [x0, x1, x2, x3, x4, x5, x6, x7, x8, x9, x10, 0, 0, 0, 0, 0]
/-- The choice: how many there are, and whether they are more than the grain. -/
theorem range_choice (hc : codeOf fs 1 = rnC (lfC bf 0 []) (hvC [])) (g F : Nat) (s : Rn) (lo hi G : Int) (m : Nat) (hm : hi - lo = m) (hk : m ≤ 1000000) (sl : List Int) (nd : Nd) (num d k sp du : Int) (hf : nd.func = 1) :
    loopV fs true (g + 3) { s with fuel := F + 3 } ⟨rr lo hi G 0 0 0 0 0 0 0 0, sl, nd, num, d, k, sp, du⟩ 0 = loopV fs true g { s with fuel := F } ⟨rr lo hi G 0 0 0 0 0 m 0 (if G < (m : Int) then 1 else 0), sl, { nd with work := nd.work + 1 + 1 + 1 }, num, d, k, sp + 1 + 1 + 1, du⟩ (if G < (m : Int) then 11 else 3) := by
  have c0 : ∀ {nd' : Nd}, nd'.func = nd.func → codeOf fs nd'.func = rnC (lfC bf 0 []) (hvC []) := fun e => by rw [e, hf]; exact hc
  rw [loop_comp (g := g + 2) (i := ⟨2, 8, 1, 0, 1⟩) (by show F + 3 ≠ 0; omega) (by show (codeOf fs nd.func)[0]? = _; rw [c0 rfl]; rfl) (.inr (.inr (.inl rfl)))]
  have e1 : computeT (payT ⟨rr lo hi G 0 0 0 0 0 0 0 0, sl, nd, num, d, k, sp, du⟩) ⟨2, 8, 1, 0, 1⟩ = ⟨rr lo hi G 0 0 0 0 0 m 0 0, sl, { nd with work := nd.work + 1 }, num, d, k, sp + 1, du⟩ := by
    have : wrap64 (hi - lo) = (m : Int) := by rw [hm]; unfold wrap64; omega
    show (⟨rr lo hi G 0 0 0 0 0 (wrap64 (hi - lo)) 0 0, sl, { nd with work := nd.work + 1 }, num, d, k, sp + 1, du⟩ : Tk) = _
    rw [this]
  rw [e1]
  rw [loop_comp (g := g + 1) (i := ⟨2, 10, 2, 8, 12⟩) (by show F + 3 - 1 ≠ 0; omega) (by show (codeOf fs nd.func)[1]? = _; rw [c0 rfl]; rfl) (.inr (.inr (.inl rfl)))]
  have e2 : computeT (payT ⟨rr lo hi G 0 0 0 0 0 m 0 0, sl, { nd with work := nd.work + 1 }, num, d, k, sp + 1, du⟩) ⟨2, 10, 2, 8, 12⟩ = ⟨rr lo hi G 0 0 0 0 0 m 0 (if G < (m : Int) then 1 else 0), sl, { nd with work := nd.work + 1 + 1 }, num, d, k, sp + 1 + 1, du⟩ := by
    show (⟨rr lo hi G 0 0 0 0 0 m 0 (truthV (decide (G < (m : Int)))), sl, { nd with work := nd.work + 1 + 1 }, num, d, k, sp + 1 + 1, du⟩ : Tk) = _
    by_cases h : G < (m : Int)
    · rw [if_pos h]; simp [h, truthV]
    · rw [if_neg h]; simp [h, truthV]
  rw [e2]
  rw [loop_branch (g := g) (i := ⟨4, 10, 11, 0, 0⟩) (by show F + 3 - 1 - 1 ≠ 0; omega) (by show (codeOf fs nd.func)[2]? = _; rw [c0 rfl]; rfl) rfl]
  have e3 : (if (if G < (m : Int) then (1 : Int) else 0) = 0 then (2 + 1 : Nat) else 11) = (if G < (m : Int) then 11 else 3) := by
    by_cases h : G < (m : Int)
    · rw [if_pos h, if_pos h]; rfl
    · rw [if_neg h, if_neg h]; rfl
  show loopV fs true g { s with fuel := F + 3 - 1 - 1 - 1 } ⟨rr lo hi G 0 0 0 0 0 m 0 (if G < (m : Int) then 1 else 0), sl, { nd with work := nd.work + 1 + 1 + 1 }, num, d, k, sp + 1 + 1 + 1, du⟩ (if (if G < (m : Int) then (1 : Int) else 0) = 0 then 2 + 1 else 11) = _
  rw [e3]
  rfl
end
end Go.Proofs.YtdpljbdnbmdokaaDoor
