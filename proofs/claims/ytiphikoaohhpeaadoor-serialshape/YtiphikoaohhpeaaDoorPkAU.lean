import Derived.Test.YtiphikoaohhpeaaDoorPkAT
import Derived.Laws.StructEq
import Derived.Test.YtiphikoaohhpeaaDoorPkAN
import Derived.Deep.QuietTactic
import Derived.BigQuiet
import Derived.Deep.RegionHeld3
/-! Tree. -/
namespace Go.Proofs.YtiphikoaohhpeaaDoor
set_option linter.unusedVariables false
set_option maxRecDepth 20000
open Go.RowKit Go.HeapKit Go.PlainOps

theorem nd_made (T : Nat) (hT : T ≤ 8388608) : ∃ M : Array Value, M.size = T * 7 ∧ ∀ w : World, (Instr.makeSlice 31 (.int .i64 0) (.int .i64 (T : Int))).run Tryd.prog w = .ok (.slice (some ⟨w.heap.size, 0, none⟩) 0 T) (w.alloc (.cells M 36)) := by
  obtain ⟨i0, hi, hz0, hz1, hz2⟩ := info_parts Tryd.infoNd
  refine ⟨madeCells (Value.agg #[.int .i64 0, .int .i64 0, .int .i64 0, .int .i64 0, .int .i64 0, .int .i64 0, .int .i64 0]).cells (T * 7), size_madeCells _ _, fun w => ?_⟩
  have h := run_make (P := Tryd.prog) w 31 36 i0 _ Tryd.underlying31 hi hz0 .i64 .i64 0 (T : Int) (by omega) (by omega) (by rw [hz2]; omega) (by omega)
  rw [hz1] at h
  simpa using h
/-- What Tree hands out. -/
def TreePost (l : List Fn) (zs : List Int) (fuel : Int) (w : World) (e : Ending) (w' : World) : Prop :=
  ∃ nv, e = .returned (.tuple #[nv, .int .i64 (evalV l zs fuel).2]) ∧ Keeps None w w' ∧ (∀ g, nv.ownBlock = some g → w.heap.size ≤ g) ∧
    ((evalV l zs fuel).2 ≠ 0 → nv = .slice none 0 0) ∧ ((evalV l zs fuel).2 = 0 → w'.ownsRow 0 36 7 nv (treeV l zs fuel).length (ndVals (treeV l zs fuel)))
set_option maxHeartbeats 2000000 in
theorem tree_any (a : Option Addr) (n c : Nat) (l : List Fn) (aa : Option Addr) (an ac : Nat) (zs : List Int) (fuel : Int) (w : World) (hT : Tabs w) (hS : SeenF w a n l) (hok : ∀ f ∈ l, f.Ok) (hZ : SeenA w aa an zs) (hZ2 : an ≤ 9223372036854775807) (hfu : okI fuel) :
    Calls Tryd.prog 5 #[.agg #[.slice a n c], .slice aa an ac, .int .i64 fuel] w (TreePost l zs fuel w) := by
  obtain ⟨B, hB⟩ : ∃ B, B = w.heap.size := ⟨_, rfl⟩
  have b1 := heap_alloc_new w (.cells #[.slice a n c] 24)
  have hk1 := Keeps.alloc None w (.cells #[.slice a n c] 24)
  obtain ⟨W, hW⟩ : ∃ W, W = w.alloc (.cells #[.slice a n c] 24) := ⟨_, rfl⟩
  rw [← hW, ← hB] at b1
  rw [← hW] at hk1
  have hev := eval_any a n c l aa an ac zs fuel W (hT.more hk1) (hS.more hk1) hok (hZ.more hk1) hZ2 hfu
  have d0 : W.cell? ⟨B, 0, none⟩ = some (.slice a n c) := (blk_cell b1 0).trans rfl
  have HX : Hid (B = w.heap.size ∧ Keeps None w W ∧ W.heap[B]? = some (.cells #[.slice a n c] 24 (0, 0)) ∧ SeenF w a n l ∧ (∀ f ∈ l, f.Ok) ∧ SeenA w aa an zs) := ⟨hB, hk1, b1, hS, hok, hZ⟩
  by_cases he0 : (evalV l zs fuel).2 = 0
  · have hr0 : refusedV l zs fuel = 0 := by
      by_cases h : refusedV l zs fuel = 0
      · exact h
      · unfold evalV at he0
        rw [if_pos h] at he0
        exact absurd he0 h
    obtain ⟨hcz, hpz, hf0, hf1⟩ := refused_zero hr0
    have hA := allV_of hcz hok
    obtain ⟨F, rfl⟩ := Int.eq_ofNat_of_zero_le hf0
    have hz8 := root_le hA hpz
    have hBg := root_begins hA true hZ.ok F (by omega)
    have hbare := run_bare' l zs F
    obtain ⟨v, sp, s, hrun, hdone⟩ : ∃ v sp s, runV l true zs F = .done v sp s ∧ evalV l zs (F : Int) = (⟨v, (F : Int) - s.fuel, s.tasks, s.depth, sp⟩, 0) := by
      have hev2 : evalV l zs (F : Int) = (match runV l false zs F with
        | .gave e => (zeroVal, e)
        | .done v sp s => (⟨v, (F : Int) - s.fuel, s.tasks, s.depth, sp⟩, 0)) := by
        unfold evalV
        rw [if_neg (by simpa using hr0)]
        rfl
      rw [hbare] at hev2
      cases hq : runV l true zs F with
      | gave e =>
        rw [hq] at hev2
        have : evalV l zs (F : Int) = (zeroVal, e) := hev2
        rw [this] at he0
        have he : e ≠ 0 := gave_ne hA hBg hq
        exact absurd he0 he
      | done v sp s =>
        rw [hq] at hev2
        exact ⟨v, sp, s, rfl, hev2⟩
    obtain ⟨_, _, _, h4, h5, _⟩ := child_done hA hBg rfl hrun
    have htk : s.tasks ≤ 8388608 := by have := h5.tasks; omega
    obtain ⟨M, hMs, hmk⟩ := nd_made s.tasks htk
    have htv : treeV l zs (F : Int) = s.nodes := by
      unfold treeV
      rw [show (F : Int).toNat = F from rfl, hrun]
    have hpl := fun (R : Nat) (nv : Value) (wx : World) (hRx : w.heap.size ≤ R) (hnx : ∀ g, nv.ownBlock = some g → w.heap.size ≤ g) (hkx : Keeps None w wx) (hrx : IsRn wx R (.slice a n c) true (startS F) nv) => play_any l hA true a n c w R F (F + 1) (startS F) (rootT zs) nv wx (Nat.lt_succ_self _) (Nat.le_refl _) hrx ⟨hS, hkx, hRx, hnx⟩ hBg
    have hpl2 : ∀ (R : Nat) (nv : Value) (wx : World) (hRx : w.heap.size ≤ R) (hnx : ∀ g, nv.ownBlock = some g → w.heap.size ≤ g) (hkx : Keeps None w wx) (hrx : IsRn wx R (.slice a n c) true (startS F) nv), Calls Tryd.prog 12 #[.pointer (some ⟨R, 0, none⟩), tkV (rootT zs)] wx (PlaysTo R (.slice a n c) true nv wx (.done v sp s)) := by
      rw [← hrun]
      exact hpl
    have hrt := fun (wx : World) (hkx : Keeps None w wx) => root_any aa an ac zs wx (hZ.more hkx) (by have := hZ.len; omega)
    have HPL : Hid _ := hpl2
    have HRT : Hid _ := hrt
    have HTV : Hid (treeV l zs (F : Int) = s.nodes ∧ evalV l zs (F : Int) = (⟨v, (F : Int) - s.fuel, s.tasks, s.depth, sp⟩, 0) ∧ M.size = s.tasks * 7 ∧ s.tasks ≤ 8388608) := ⟨htv, hdone, hMs, htk⟩
    rw [hdone] at hev
    unfold valC at hev
    simp only at hev
    clear hpl hpl2 hrt htv hBg hbare hrun hdone h4 h5 htk hA hcz hpz hr0 he0 hz8 hT hS hok hZ hk1 b1 hMs
    unfold tkV at HPL HRT
    generalize Value.agg (ints ((rootT zs).l 0 0 0)).toArray = tv at *
    go_enter Tryd.func5, Tryd.ntmps5
    go_upto_region 1 with fail
    rw [← hW, ← hB]
    clear hW hB
    go_upto_region 2 with (go_at_call 4; refine hev.mono ?_; rintro _ w2 ⟨rfl, hk2⟩)
    have e0 := hk2.cell d0 (fun f => f)
    have hal := Keeps.alloc None w2 (.cells #[.int .i64 v, .int .i64 ((F : Int) - s.fuel), .int .i64 s.tasks, .int .i64 s.depth, .int .i64 sp] 27)
    have bV := heap_alloc_new w2 (.cells #[.int .i64 v, .int .i64 ((F : Int) - s.fuel), .int .i64 s.tasks, .int .i64 s.depth, .int .i64 sp] 27)
    obtain ⟨V, hV⟩ : ∃ V, V = w2.alloc (.cells #[.int .i64 v, .int .i64 ((F : Int) - s.fuel), .int .i64 s.tasks, .int .i64 s.depth, .int .i64 sp] 27) := ⟨_, rfl⟩
    obtain ⟨G, hG⟩ : ∃ G, G = w2.heap.size := ⟨_, rfl⟩
    rw [← hV] at hal bV
    rw [← hG] at bV
    rw [← hV, ← hG]
    have f0 := hal.cell e0 (fun f => f)
    have f1 : V.cell? ⟨G, 2, none⟩ = some (.int .i64 s.tasks) := (blk_cell bV 2).trans rfl
    have HV : Hid (Keeps None w V ∧ w.heap.size ≤ V.heap.size) := ⟨(HX.out.2.1.trans hk2 (fun _ f _ => f)).trans hal (fun _ f _ => f), ((HX.out.2.1.trans hk2 (fun _ f _ => f)).trans hal (fun _ f _ => f)).size⟩
    clear hV hG hal bV hk2 e0 d0 hev
    go_upto_region 4 with fail
    go_cut [10] (fun s10 wx => ∃ R g, s10 = .pointer (some ⟨R, 0, none⟩) ∧ w.heap.size ≤ R ∧ w.heap.size ≤ g ∧ IsRn wx R (.slice a n c) true (startS F) (.slice (some ⟨g, 0, none⟩) 0 s.tasks) ∧ Keeps None w wx)
    case first =>
      go_region_held3 (fun w' => w'.cell? ⟨B, 0, none⟩ = some (.slice a n c) ∧ w'.cell? ⟨G, 2, none⟩ = some (.int .i64 s.tasks)) (go_keep) (fail)
      all_goals (go_wp2_with fail; go_meet)
      · obtain ⟨p1, p2⟩ := two_boxes V M #[.slice a n c, .int .i64 F, .int .i64 0, .int .i64 0, .bool true, .slice (some ⟨V.heap.size, 0, none⟩) 0 s.tasks] 36 44
        have hk := keeps2 V (.cells M 36) (.cells #[.slice a n c, .int .i64 F, .int .i64 0, .int .i64 0, .bool true, .slice (some ⟨V.heap.size, 0, none⟩) 0 s.tasks] 44)
        exact ⟨V.heap.size + 1, V.heap.size, rfl, by have := HV.out.2; omega, HV.out.2, ⟨p2, ⟨rfl, .inr ⟨_, s.tasks, M, rfl, Nat.zero_le _, p1, Nat.zero_le _, by have := HTV.out.2.2.2; unfold maxLen; omega, HTV.out.2.2.1, rfl⟩⟩⟩, (HV.out.1.trans hk (fun _ f _ => f)).andDrew⟩
      · obtain ⟨p1, p2⟩ := two_boxes V #[.slice a n c, .int .i64 F, .int .i64 0, .int .i64 0, .bool true, .slice (some ⟨V.heap.size + 1, 0, none⟩) 0 s.tasks] M 44 36
        have hk := keeps2 V (.cells #[.slice a n c, .int .i64 F, .int .i64 0, .int .i64 0, .bool true, .slice (some ⟨V.heap.size + 1, 0, none⟩) 0 s.tasks] 44) (.cells M 36)
        exact ⟨V.heap.size, V.heap.size + 1, rfl, HV.out.2, by have := HV.out.2; omega, ⟨p1, ⟨rfl, .inr ⟨_, s.tasks, M, rfl, Nat.zero_le _, p2, Nat.zero_le _, by have := HTV.out.2.2.2; unfold maxLen; omega, HTV.out.2.2.1, rfl⟩⟩⟩, (HV.out.1.trans hk (fun _ f _ => f)).andDrew⟩
    case rest =>
      obtain ⟨R, g, rfl, hR, hg, hrn, hkc⟩ := hcut
      have hrt := HRT.out wc hkc
      have hpl := fun wx (hx : Keeps None wc wx) => HPL.out R (.slice (some ⟨g, 0, none⟩) 0 s.tasks) wx hR (fun g' e => by simp [Value.ownBlock] at e; omega) (hkc.trans hx (fun _ f _ => f)) (hrn.kept hx (fun _ _ f => f))
      have HPL2 : Hid _ := hpl
      have HC : Hid (w.heap.size ≤ R ∧ w.heap.size ≤ g ∧ Keeps None w wc) := ⟨hR, hg, hkc⟩
      clear hpl HPL HRT hR hg hkc hrn f0 f1 hmk
      go_upto_region 6 with (first | (go_at_call 13; refine hrt.mono ?_; rintro _ w5 ⟨rfl, hk5⟩) | (go_at_call 12; refine (HPL2.out _ hk5).mono ?_; rintro _ w6 ⟨rfl, nv6, hr6, hk6, hm6⟩))
      have g5 : w6.cell? ⟨R, 5, none⟩ = some nv6 := (blk_cell hr6.blk 5).trans rfl
      have hkw : Keeps None w w6 := (HC.out.2.2.trans hk5 (fun _ f _ => f)).trans hk6 (fun i e hi => by rcases e with e | e; have := HC.out.1; omega; simp [Value.ownBlock] at e; have := HC.out.2.1; omega)
      have HQ : Hid (TreePost l zs (F : Int) w (.returned (.tuple #[nv6, .int .i64 0])) w6) := by
        refine ⟨nv6, by rw [HTV.out.2.1], hkw, fun g' e => ?_, fun h => by rw [HTV.out.2.1] at h; exact absurd rfl h, fun _ => by rw [HTV.out.1]; exact hr6.row⟩
        rcases hm6 with h | ⟨g2, e2, h2⟩
        · rw [h] at e
          simp [Value.ownBlock] at e
          have := HC.out.2.1
          omega
        · rw [e2] at e
          obtain rfl := Option.some.inj e
          have := hk5.size
          have := HC.out.2.2.size
          omega
      clear hr6 hk6 hm6 hkw hk5 hrt
      go_wp2_with fail
      go_ret2
      exact HQ.out
  · have heb : ((evalV l zs fuel).2 != 0) = true := by simpa using he0
    have HQ : Hid (∀ w', Keeps None w w' → TreePost l zs fuel w (.returned (.tuple #[.slice none 0 0, .int .i64 (evalV l zs fuel).2])) w') := fun w' hk => ⟨_, rfl, hk, fun g e => by simp [Value.ownBlock] at e, fun _ => rfl, fun h => absurd h he0⟩
    generalize (evalV l zs fuel).2 = er at *
    unfold valC at hev
    generalize (evalV l zs fuel).1 = ev at *
    clear hT hS hok hZ hk1 b1
    go_enter Tryd.func5, Tryd.ntmps5
    go_upto_region 1 with fail
    rw [← hW, ← hB]
    clear hW hB
    go_upto_region 2 with (go_at_call 4; refine hev.mono ?_; rintro _ w2 ⟨rfl, hk2⟩)
    have HK2 : Hid (Keeps None w w2) := HX.out.2.1.trans hk2 (fun _ f _ => f)
    clear hk2 hev
    go_wp2_with fail
    go_ret2
    exact HQ.out _ (HK2.out.andAlloc _)
end Go.Proofs.YtiphikoaohhpeaaDoor
/-! The statements' 'lives'. -/
namespace Go.Proofs.YtiphikoaohhpeaaDoor
set_option linter.unusedVariables false
set_option maxRecDepth 20000
open Go.RowKit Go.HeapKit Go.PlainOps

def liveF (c : Int) : Fn := ⟨0, 1, 0, [⟨0, 0, 0, 0, c⟩, ⟨9, 0, 0, 0, 0⟩]⟩
theorem live_check (c : Int) : checkV [liveF c] = (0, 0, 0) := by rfl
theorem live_eval (c : Int) : evalV [liveF c] [] 2 = (⟨c, 2, 1, 1, 2⟩, 0) := by
  have h1 : refusedV [liveF c] [] 2 = 0 := by
    unfold refusedV
    rw [live_check]
    rfl
  unfold evalV
  rw [h1]
  rfl
theorem live_tree (c : Int) : treeV [liveF c] [] 2 = [⟨-1, 0, 0, 2, 1, 0, c⟩] := by rfl
theorem live_ok (c : Int) (hc : okI c) : ∀ f ∈ [liveF c], f.Ok := by
  intro f hf
  simp at hf
  subst hf
  refine ⟨by simp [liveF, okI], by simp [liveF, okI], by simp [liveF, okI], fun i hi => ?_⟩
  simp [liveF] at hi
  rcases hi with rfl | rfl
  · exact ⟨by simp [okI], by simp [okI], by simp [okI], by simp [okI], hc⟩
  · exact ⟨by simp [okI], by simp [okI], by simp [okI], by simp [okI], by simp [okI]⟩
def liveC (c : Int) : Array Value := #[.int .i64 0, .int .i64 0, .int .i64 0, .int .i64 0, .int .i64 c, .int .i64 9, .int .i64 0, .int .i64 0, .int .i64 0, .int .i64 0]
theorem live_seen (w : World) (g h : Nat) (c : Int) (b1 : w.heap[g]? = some (.cells (liveC c) 55 (0, 0))) (b2 : w.heap[h]? = some (.cells #[.int .i64 0, .int .i64 1, .int .i64 0, .slice (some ⟨g, 0, none⟩) 2 2] 58 (0, 0))) : SeenF w (some ⟨h, 0, none⟩) 1 [liveF c] := by
  refine ⟨rfl, fun _ => ⟨_, 0, rfl, blk_lt b2, fun k f hf => ?_⟩⟩
  cases k with
  | succ k => simp at hf
  | zero =>
    simp at hf
    subst hf
    refine ⟨some ⟨g, 0, none⟩, 2, ⟨(cell_of_heap b2 0).trans rfl, (cell_of_heap b2 1).trans rfl, (cell_of_heap b2 2).trans rfl, (cell_of_heap b2 3).trans rfl, ⟨rfl, fun _ => ⟨_, 0, rfl, blk_lt b1, fun j i hi => ?_⟩⟩⟩⟩
    match j, hi with
    | 0, hi =>
      simp [liveF] at hi
      subst hi
      exact ⟨(cell_of_heap b1 0).trans rfl, (cell_of_heap b1 1).trans rfl, (cell_of_heap b1 2).trans rfl, (cell_of_heap b1 3).trans rfl, (cell_of_heap b1 4).trans rfl⟩
    | 1, hi =>
      simp [liveF] at hi
      subst hi
      exact ⟨(cell_of_heap b1 5).trans rfl, (cell_of_heap b1 6).trans rfl, (cell_of_heap b1 7).trans rfl, (cell_of_heap b1 8).trans rfl, (cell_of_heap b1 9).trans rfl⟩
    | j + 2, hi => simp [liveF] at hi
theorem seen_nil (w : World) : SeenA w none 0 [] := ⟨rfl, by omega, fun x hx => by simp at hx, fun h => by omega⟩
set_option maxHeartbeats 2000000 in
theorem lives_any (c : Int) (hc : okI c) (w : World) (hT : Tabs w) : Calls Tryd.prog 6 #[.int .i64 c] w fun e w' => e = .returned (.bool true) ∧ Keeps None w w' := by
  obtain ⟨B, hB⟩ : ∃ B, B = w.heap.size := ⟨_, rfl⟩
  obtain ⟨b1, b2, b3⟩ := three_boxes w (liveC c) #[.int .i64 0, .int .i64 1, .int .i64 0, .slice (some ⟨B, 0, none⟩) 2 2] #[.slice (some ⟨B + 1, 0, none⟩) 1 1] 55 58 24
  have hk3 : Keeps None w (((w.alloc (.cells (liveC c) 55)).alloc (.cells #[.int .i64 0, .int .i64 1, .int .i64 0, .slice (some ⟨B, 0, none⟩) 2 2] 58)).alloc (.cells #[.slice (some ⟨B + 1, 0, none⟩) 1 1] 24)) := (((Keeps.refl _ w).andAlloc _).andAlloc _).andAlloc _
  obtain ⟨W, hW⟩ : ∃ W, W = ((w.alloc (.cells (liveC c) 55)).alloc (.cells #[.int .i64 0, .int .i64 1, .int .i64 0, .slice (some ⟨B, 0, none⟩) 2 2] 58)).alloc (.cells #[.slice (some ⟨B + 1, 0, none⟩) 1 1] 24) := ⟨_, rfl⟩
  rw [← hW, ← hB] at b1 b2 b3
  rw [← hW] at hk3
  have hs := live_seen W B (B + 1) c b1 b2
  have hev := eval_any (some ⟨B + 1, 0, none⟩) 1 1 [liveF c] none 0 0 [] 2 W (hT.more hk3) hs (live_ok c hc) (seen_nil W) (by omega) (by simp [okI])
  have htr := fun wx (hx : Keeps None W wx) => tree_any (some ⟨B + 1, 0, none⟩) 1 1 [liveF c] none 0 0 [] 2 wx ((hT.more hk3).more hx) (hs.more hx) (live_ok c hc) (seen_nil wx) (by omega) (by simp [okI])
  rw [live_eval] at hev
  unfold valC at hev
  have HT : Hid (∀ wx, Keeps None W wx → Calls Tryd.prog 5 #[.agg #[.slice (some ⟨B + 1, 0, none⟩) 1 1], .slice none 0 0, .int .i64 2] wx fun e w' => ∃ g cap, e = .returned (.tuple #[.slice (some ⟨g, 0, none⟩) 1 cap, .int .i64 0]) ∧ Keeps None wx w' ∧ w'.cell? ⟨g, 0, none⟩ = some (.int .i64 (-1)) ∧ w'.cell? ⟨g, 1, none⟩ = some (.int .i64 0) ∧ w'.cell? ⟨g, 2, none⟩ = some (.int .i64 0) ∧ w'.cell? ⟨g, 3, none⟩ = some (.int .i64 2) ∧ w'.cell? ⟨g, 4, none⟩ = some (.int .i64 1) ∧ w'.cell? ⟨g, 5, none⟩ = some (.int .i64 0) ∧ w'.cell? ⟨g, 6, none⟩ = some (.int .i64 c)) := by
    intro wx hx
    refine (htr wx hx).mono ?_
    rintro e w' ⟨nv, he, hk, hg, _, hrow⟩
    have hrow := hrow (by rw [live_eval])
    rw [live_eval] at he
    rw [live_tree] at hrow
    rcases hrow.2 with ⟨_, h0⟩ | ⟨g, cap, cur, rfl, _, hb, hn, _, hcs, htk⟩
    · simp at h0
    · refine ⟨g, cap, he, hk, ?_⟩
      have hcell : ∀ j v, (ndVals [⟨-1, 0, 0, 2, 1, 0, c⟩])[j]? = some v → w'.cell? ⟨g, j, none⟩ = some v := by
        intro j v hv
        rw [blk_cell hb, ← Array.getElem?_toList]
        rw [← htk, List.getElem?_take] at hv
        split at hv
        · exact hv
        · cases hv
      exact ⟨hcell 0 _ rfl, hcell 1 _ rfl, hcell 2 _ rfl, hcell 3 _ rfl, hcell 4 _ rfl, hcell 5 _ rfl, hcell 6 _ rfl⟩
  have d0 : W.cell? ⟨B + 2, 0, none⟩ = some (.slice (some ⟨B + 1, 0, none⟩) 1 1) := (blk_cell b3 0).trans rfl
  have HX : Hid (Keeps None w W) := hk3
  unfold liveC at hW
  clear htr hs b1 b2 b3 hk3 hT hc
  go_enter Tryd.func6, Tryd.ntmps6
  rw [hB] at hW
  go_upto_region 2 with fail
  rw [← hW, ← hB]
  clear hW hB
  go_upto_region 3 with (go_at_call 4; refine hev.mono ?_; rintro _ w2 ⟨rfl, hk2⟩)
  have e0 := hk2.cell d0 (fun f => f)
  have hal := Keeps.alloc None w2 (.cells #[.int .i64 c, .int .i64 2, .int .i64 1, .int .i64 1, .int .i64 2] 27)
  have bV := heap_alloc_new w2 (.cells #[.int .i64 c, .int .i64 2, .int .i64 1, .int .i64 1, .int .i64 2] 27)
  obtain ⟨V, hV⟩ : ∃ V, V = w2.alloc (.cells #[.int .i64 c, .int .i64 2, .int .i64 1, .int .i64 1, .int .i64 2] 27) := ⟨_, rfl⟩
  obtain ⟨G, hG⟩ : ∃ G, G = w2.heap.size := ⟨_, rfl⟩
  rw [← hV] at hal bV
  rw [← hG] at bV
  rw [← hV, ← hG]
  have f0 := hal.cell e0 (fun f => f)
  have htr := HT.out V (hk2.trans hal (fun _ f _ => f))
  have HV : Hid (Keeps None w V ∧ V.heap[G]? = _) := ⟨(HX.out.trans hk2 (fun _ f _ => f)).trans hal (fun _ f _ => f), bV⟩
  clear hV hG hal bV hk2 e0 d0 hev HT
  go_upto_region 4 with (go_at_call 5; refine htr.mono ?_; rintro _ w4 ⟨g, cap, rfl, hk4, y0, y1, y2, y3, y4, y5, y6⟩)
  have b4 := blk_kept HV.out.2 hk4 (fun f => f)
  have x0 := (blk_cell b4 0).trans rfl
  have x1 := (blk_cell b4 1).trans rfl
  have x2 := (blk_cell b4 2).trans rfl
  have x3 := (blk_cell b4 3).trans rfl
  have x4 := (blk_cell b4 4).trans rfl
  have HK : Hid (Keeps None w w4) := HV.out.1.trans hk4 (fun _ f _ => f)
  clear b4 hk4 htr f0
  go_wp2_with fail
  go_ret
  exact ⟨rfl, HK.out⟩
end Go.Proofs.YtiphikoaohhpeaaDoor
/-! SerialShape: what its walk reads. -/
namespace Go.Proofs.YtiphikoaohhpeaaDoor
set_option linter.unusedVariables false
set_option maxRecDepth 20000
open Go.RowKit Go.HeapKit Go.PlainOps

/-! ### Plainly -/
theorem Grows.par_lt {fs : List Fn} {K : List Ky} {D : List Int} (h : Grows fs K D) {k q : Nat} {x : Ky} (hx : K[k]? = some x) (hp : x.parent = (q : Int)) : q < k := by
  by_cases h0 : k = 0
  · subst h0
    rw [h.first.1] at hx
    injection hx with hx
    subst hx
    have hp' : (-1 : Int) = (q : Int) := hp
    omega
  · obtain ⟨x', d, p, y, h1, h2, h3⟩ := h.at k (by omega) (List.getElem?_eq_some_iff.1 hx).1
    rw [hx] at h1
    injection h1 with h1
    have h4 := h3.par
    rw [← h1, hp] at h4
    have h5 := (List.getElem?_eq_some_iff.1 h3.at_).1
    simp at h5
    omega
theorem Anc.le {fs : List Fn} {K : List Ky} {D : List Int} (hG : Grows fs K D) {k p : Nat} (h : Anc K k p) : p ≤ k := by
  induction h with
  | refl p => exact Nat.le_refl _
  | up hx hp _ ih => have := hG.par_lt hx hp; omega
theorem Anc.step {fs : List Fn} {K : List Ky} {D : List Int} (hG : Grows fs K D) {k p : Nat} (h : Anc K k p) (hlt : p < k) : ∃ (x : Ky) (q : Nat), K[k]? = some x ∧ x.parent = (q : Int) ∧ q < k ∧ Anc K q p := by
  cases h with
  | refl => omega
  | up hx hp h2 => exact ⟨_, _, hx, hp, hG.par_lt hx hp, h2⟩
theorem Grows.dep {fs : List Fn} {K : List Ky} {D : List Int} (h : Grows fs K D) : ∀ (i : Nat) (d : Int), D[i]? = some d → 1 ≤ d ∧ d ≤ (i : Int) + 1 := by
  induction h with
  | one => intro i d hd; cases i with
    | zero => simp at hd; omega
    | succ i => simp at hd
  | @more K D x d p y hg hn ih =>
    intro i e he
    have hl := hg.len
    by_cases hi : i < D.length
    · rw [List.getElem?_append_left hi] at he
      exact ih i e he
    · rw [List.getElem?_append_right (by omega)] at he
      have hi2 : i - D.length = 0 := by
        have := (List.getElem?_eq_some_iff.1 he).1
        simp at this
        omega
      rw [hi2] at he
      simp at he
      have h1 := ih p (d - 1) hn.dep
      have h2 := (List.getElem?_eq_some_iff.1 hn.dep).1
      omega
theorem cnt_le (K : List Ky) (p : Int) : cntK K p ≤ K.length := List.length_filter_le _ _
theorem sum_take_bound {l : List Nd} (h : ∀ (j : Nat) (y : Nd), l[j]? = some y → 1 ≤ y.work) (k : Nat) : 0 ≤ sumW (l.take k) ∧ sumW (l.take k) ≤ sumW l := by
  have hp : ∀ m : List Nd, (∀ y ∈ m, 1 ≤ y.work) → 0 ≤ sumW m := by
    intro m hm
    induction m with
    | nil => exact Int.le_refl _
    | cons x m ih =>
      have h1 := hm x (by simp)
      have h2 := ih (fun y hy => hm y (by simp [hy]))
      simp only [sumW, List.map_cons, List.foldr_cons] at h2 ⊢
      omega
  have ha : ∀ y ∈ l, 1 ≤ y.work := fun y hy => by
    obtain ⟨j, hj, e⟩ := List.getElem_of_mem hy
    exact h j y (by rw [List.getElem?_eq_getElem hj, e])
  have h1 := hp (l.take k) (fun y hy => ha y (List.mem_of_mem_take hy))
  have h2 := hp (l.drop k) (fun y hy => ha y (List.mem_of_mem_drop hy))
  have h3 := sum_app (l.take k) (l.drop k)
  rw [List.take_append_drop] at h3
  omega
theorem sum_take_step {l : List Nd} {k : Nat} {x : Nd} (h : l[k]? = some x) : sumW (l.take (k + 1)) = sumW (l.take k) + x.work := by
  rw [List.take_add_one, h, sum_app]
  simp [sumW]
theorem max_take_step {D : List Int} {k : Nat} {d : Int} (h : D[k]? = some d) : maxD (D.take (k + 1)) = imax (maxD (D.take k)) d := by
  rw [List.take_add_one, h]
  exact max_app _ _
theorem max_bound {fs : List Fn} {K : List Ky} {D : List Int} (h : Grows fs K D) (k : Nat) : 0 ≤ maxD (D.take k) ∧ maxD (D.take k) ≤ (K.length : Int) := by
  induction k with
  | zero => exact ⟨Int.le_refl _, by simp [maxD]⟩
  | succ k ih =>
    have hl := h.len
    by_cases hk : k < D.length
    · obtain ⟨d, hd⟩ : ∃ d, D[k]? = some d := ⟨D[k], by simp⟩
      rw [max_take_step hd]
      have := h.dep k d hd
      unfold imax
      split <;> omega
    · rw [List.take_of_length_le (by omega)] at ih ⊢
      exact ih
/-- Tree and Eval of a run that ends. -/
structure Ends (l : List Fn) (L : List Nd) (V : Val) (D : List Int) : Prop where
  all : AllV l
  tasks : V.tasks = (L.length : Int)
  good : Grows l (keys L) D
  dep : V.depth = maxD D
  sum : sumW L = V.work
  most : V.work ≤ 4194304
  fin : ∀ (j : Nat) (y : Nd), L[j]? = some y → 1 ≤ y.work
  v : ∃ y, L[0]? = some y ∧ y.v = V.v
  len : L.length ≤ 8388608
theorem eval_tree {l : List Fn} {zs : List Int} {fuel : Int} (hok : ∀ f ∈ l, f.Ok) (hz : ∀ x ∈ zs, okI x) (he0 : (evalV l zs fuel).2 = 0) : ∃ D, Ends l (treeV l zs fuel) (evalV l zs fuel).1 D := by
  have hr0 : refusedV l zs fuel = 0 := by
    by_cases h : refusedV l zs fuel = 0
    · exact h
    · unfold evalV at he0
      rw [if_pos h] at he0
      exact absurd he0 h
  obtain ⟨hcz, hpz, hf0, hf1⟩ := refused_zero hr0
  have hA := allV_of hcz hok
  obtain ⟨F, rfl⟩ := Int.eq_ofNat_of_zero_le hf0
  have hz8 := root_le hA hpz
  have hBg := root_begins hA true hz F (by omega)
  have hbare := run_bare' l zs F
  have hev2 : evalV l zs (F : Int) = (match runV l false zs F with
    | .gave e => (zeroVal, e)
    | .done v sp s => (⟨v, (F : Int) - s.fuel, s.tasks, s.depth, sp⟩, 0)) := by
    unfold evalV
    rw [if_neg (by simpa using hr0)]
    rfl
  rw [hbare] at hev2
  cases hq : runV l true zs F with
  | gave e =>
    rw [hq] at hev2
    have : evalV l zs (F : Int) = (zeroVal, e) := hev2
    rw [this] at he0
    exact absurd he0 (gave_ne hA hBg hq)
  | done v sp s =>
    rw [hq] at hev2
    have hev3 : evalV l zs (F : Int) = (⟨v, (F : Int) - s.fuel, s.tasks, s.depth, sp⟩, 0) := hev2
    obtain ⟨D, hW⟩ := run_shape hq
    obtain ⟨_, _, _, h4, h5, _⟩ := child_done hA hBg rfl hq
    have h6 := h5.tasks
    have htv : treeV l zs (F : Int) = s.nodes := by
      unfold treeV
      rw [show (F : Int).toNat = F from rfl, hq]
    rw [hev3, htv]
    exact ⟨D, ⟨hA, by show (s.tasks : Int) = _; rw [hW.len], hW.good, hW.max, by have := hW.sum; show _ = (F : Int) - s.fuel; omega, by show (F : Int) - s.fuel ≤ _; omega, hW.fin, hW.v, by rw [hW.len]; omega⟩⟩
/-! ### In memory -/
structure SeenD (w : World) (a : Option Addr) (n : Nat) (l : List Nd) : Prop where
  len : n = l.length
  ex : 0 < n → ∃ b, a = some ⟨b, 0, none⟩ ∧ b < w.heap.size ∧ ∀ k x, l[k]? = some x → ∀ j y, x.l[j]? = some y → w.cell? ⟨b, k * 7 + j, none⟩ = some (.int .i64 y)
theorem SeenD.more {w w' : World} {a : Option Addr} {n : Nat} {l : List Nd} (h : SeenD w a n l) (hk : Keeps None w w') : SeenD w' a n l := by
  refine ⟨h.len, fun h0 => ?_⟩
  obtain ⟨b, rfl, hb, hc⟩ := h.ex h0
  exact ⟨b, rfl, Nat.lt_of_lt_of_le hb hk.size, fun k x hx j y hy => hk.cell (hc k x hx j y hy) (fun f => f)⟩
theorem row_seenD {w : World} {nv : Value} {l : List Nd} (h : w.ownsRow 0 36 7 nv l.length (ndVals l)) : ∃ a c, nv = .slice a l.length c ∧ SeenD w a l.length l := by
  rcases h.2 with ⟨rfl, h0⟩ | ⟨g, cap, cur, rfl, hb0, hg, hnc, hcm, hcs, htk⟩
  · exact ⟨none, 0, by rw [h0], ⟨rfl, fun h => by omega⟩⟩
  · refine ⟨_, cap, rfl, ⟨rfl, fun _ => ⟨g, rfl, blk_lt hg, fun k x hx j y hy => ?_⟩⟩⟩
    have h1 := ndVals_at l k x hx j y hy
    rw [← htk, List.getElem?_take] at h1
    rw [blk_cell hg, ← Array.getElem?_toList]
    split at h1
    · exact h1
    · cases h1
/-- Numbers in a block of their own. -/
def IsN (w : World) (g : Nat) (l : List Int) : Prop := w.heap[g]? = some (.cells (l.map (Value.int .i64)).toArray 3 (0, 0))
theorem IsN.kept {w w' : World} {S : Nat → Prop} {g : Nat} {l : List Int} (h : IsN w g l) (hk : Keeps S w w') (hS : ¬ S g) : IsN w' g l := blk_kept h hk hS
theorem IsN.at {w : World} {g : Nat} {l : List Int} (h : IsN w g l) {k : Nat} {x : Int} (hx : l[k]? = some x) : w.cell? ⟨g, k, none⟩ = some (.int .i64 x) := by
  rw [blk_cell h]
  simp [hx]
theorem IsN.set {w : World} {g : Nat} {l : List Int} (h : IsN w g l) (k : Nat) (x : Int) : IsN (w.setCell ⟨g, k, none⟩ (.int .i64 x)) g (l.set k x) := by
  unfold IsN at *
  rw [blk_set h, List.map_set]
  simp
theorem nums_made (w : World) (n : Nat) (hn : n * 8 ≤ 140737488355328) : ∃ w', (Instr.makeSlice 37 (.int .i64 n) (.int .i64 n)).run Tryd.prog w = .ok (.slice (some ⟨w.heap.size, 0, none⟩) n n) w' ∧ IsN w' w.heap.size (List.replicate n 0) ∧ Keeps None w w' := by
  obtain ⟨i0, hi, hz0, hz1, hz2⟩ := info_parts Tryd.infoInt
  obtain ⟨M, hM, _, hr⟩ := run_make_block (P := Tryd.prog) (w := w) 37 3 i0 _ 1 8 Tryd.underlying37 hi hz0 hz1 hz2 n (by omega) (by omega)
  refine ⟨_, hr, ?_, Keeps.alloc None w _⟩
  unfold IsN
  rw [heap_alloc_new, hM, Nat.mul_one, made_one _ rfl]
  congr 3
  apply List.ext_getElem <;> simp
theorem sped_any (p k : Int) (w : World) : Calls Tryd.prog 14 #[.int .i64 p, .int .i64 k] w fun e w' => e = .returned (.int .i64 (pedV p k)) ∧ w' = w := by
  have h := tped_any p k w
  go_enter Tryd.func14, Tryd.ntmps14
  go_wp2_with (go_at_call 24; refine h.mono ?_; rintro _ w1 ⟨rfl, rfl⟩)
  go_ret
  exact ⟨rfl, rfl⟩
end Go.Proofs.YtiphikoaohhpeaaDoor
/-! SerialShape: 'spawns', 'shaped'. -/
namespace Go.Proofs.YtiphikoaohhpeaaDoor
set_option linter.unusedVariables false
set_option maxRecDepth 20000
open Go.RowKit Go.HeapKit Go.PlainOps

set_option maxHeartbeats 2000000 in
theorem spawns_any (a : Option Addr) (n c : Nat) (l : List Fn) (F : Nat) (g : Int) (w : World) (hS : SeenF w a n l) (fn : Fn) (hf : l[F]? = some fn) (j : Nat) (i : Ins) (hj : fn.code[j]? = some i) (h5 : i.kind = 5) (hg : i.b = g) (hm : fn.code.length ≤ 4611686018427387904) (hnb : n ≤ 4611686018427387904) :
    Calls Tryd.prog 8 #[.agg #[.slice a n c], .int .i64 (F : Int), .int .i64 g] w fun e w' => e = .returned (.bool true) ∧ Keeps None w w' := by
  have hF : F < n := by have := (List.getElem?_eq_some_iff.1 hf).1; have := hS.len; omega
  obtain ⟨b, off, f', ca, cc, rfl, hf', hat⟩ := hS.at hF
  have e' : f' = fn := by rw [hf] at hf'; exact (Option.some.inj hf').symm
  subst e'
  obtain ⟨B, hB⟩ : ∃ B, B = w.heap.size := ⟨_, rfl⟩
  have b1 := heap_alloc_new w (.cells #[.slice (some ⟨b, off, none⟩) n c] 24)
  have hk1 := Keeps.alloc None w (.cells #[.slice (some ⟨b, off, none⟩) n c] 24)
  obtain ⟨W, hW⟩ : ∃ W, W = w.alloc (.cells #[.slice (some ⟨b, off, none⟩) n c] 24) := ⟨_, rfl⟩
  rw [← hW, ← hB] at b1
  rw [← hW] at hk1
  have d0 : W.cell? ⟨B, 0, none⟩ = some (.slice (some ⟨b, off, none⟩) n c) := (blk_cell b1 0).trans rfl
  have hjm := (List.getElem?_eq_some_iff.1 hj).1
  obtain ⟨m, hme⟩ : ∃ m, m = f'.code.length := ⟨_, rfl⟩
  have c0 := hk1.cell hat.code (fun f => f)
  have hse := hat.seen.more hk1
  rw [← hme] at c0 hjm hm hse
  obtain ⟨cb, co, rfl, hcb, hins⟩ := hse.ex (by omega)
  have HC : Hid (Keeps None w W ∧ (∀ k i, f'.code[k]? = some i → InsAt W cb (co + k * 5) i) ∧ m = f'.code.length ∧ f'.code[j]? = some i) := ⟨hk1, hins, hme, hj⟩
  have HD : Hid (W.cell? ⟨B, 0, none⟩ = some (.slice (some ⟨b, off, none⟩) n c) ∧ W.cell? ⟨b, off + F * 4 + 3, none⟩ = some (.slice (some ⟨cb, co, none⟩) m cc)) := ⟨d0, c0⟩
  have i1 : ¬ ((F : Int) < 0) := by omega
  have i2 : ¬ ((n : Int) ≤ (F : Int)) := by omega
  have i3 : (F : Int) < (n : Int) := by omega
  have H5 : Hid (i.kind = 5 ∧ i.b = g) := ⟨h5, hg⟩
  clear hk1 hins hme hj hat hse b1 hf hf' hcb hS h5 hg
  go_enter Tryd.func8, Tryd.ntmps8
  go_upto_region 1 with fail
  rw [← hW, ← hB]
  clear hW hB
  go_wp2_with fail
  clear d0 c0
  go_loopw [7] (fun s7 wr => ∃ k : Nat, k ≤ j ∧ s7 = .int .i64 k ∧ Keeps None W wr) (fun i _ => m - (intOf i).toNat)
  case atStart => exact ⟨0, Nat.zero_le _, rfl, Keeps.refl _ _⟩
  case round =>
    obtain ⟨k, hk, rfl, hkp⟩ := hrel
    have d1 := hkp.cell HD.out.1 (fun f => f)
    have c1 := hkp.cell HD.out.2 (fun f => f)
    obtain ⟨x, hx⟩ : ∃ x, f'.code[k]? = some x := ⟨f'.code[k]'(by have := HC.out.2.2.1; omega), by simp⟩
    have hia := HC.out.2.1 k x hx
    have y0 := hkp.cell hia.kind (fun f => f)
    have y1 := hkp.cell hia.a (fun f => f)
    have y2 := hkp.cell hia.b (fun f => f)
    have y3 := hkp.cell hia.c (fun f => f)
    have y4 := hkp.cell hia.k (fun f => f)
    have i4 : (k : Int) < (m : Int) := by omega
    have HX : Hid (f'.code[k]? = some x ∧ Keeps None W wr) := ⟨hx, hkp⟩
    clear hx hkp hia
    go_upto_region 7 with fail
    have bG := heap_alloc_new wr (.cells #[.int .i64 x.kind, .int .i64 x.a, .int .i64 x.b, .int .i64 x.c, .int .i64 x.k] 55)
    have hal := Keeps.alloc None wr (.cells #[.int .i64 x.kind, .int .i64 x.a, .int .i64 x.b, .int .i64 x.c, .int .i64 x.k] 55)
    obtain ⟨U, hU⟩ : ∃ U, U = wr.alloc (.cells #[.int .i64 x.kind, .int .i64 x.a, .int .i64 x.b, .int .i64 x.c, .int .i64 x.k] 55) := ⟨_, rfl⟩
    obtain ⟨G, hG⟩ : ∃ G, G = wr.heap.size := ⟨_, rfl⟩
    rw [← hU] at hal bG
    rw [← hG] at bG
    rw [← hU, ← hG]
    have x0 : U.cell? ⟨G, 0, none⟩ = some (.int .i64 x.kind) := (blk_cell bG 0).trans rfl
    have x2 : U.cell? ⟨G, 2, none⟩ = some (.int .i64 x.b) := (blk_cell bG 2).trans rfl
    have HU : Hid (Keeps None W U) := HX.out.2.trans hal (fun _ f _ => f)
    clear hU hG bG hal d1 c1 y0 y1 y2 y3 y4
    by_cases hk5 : x.kind = 5
    · by_cases hbg : x.b = g
      · have q1 : (x.kind == 5) = true := by simpa using hk5
        have q2 : (x.b == g) = true := by simpa using hbg
        clear hk5 hbg
        go_wp2_with fail
        go_ret
        exact ⟨rfl, HC.out.1.trans HU.out (fun _ f _ => f)⟩
      · have q1 : (x.kind == 5) = true := by simpa using hk5
        have q2 : (x.b == g) = false := by simpa using hbg
        have hne : k ≠ j := fun e => by
          have h1 := HX.out.1
          rw [e, HC.out.2.2.2] at h1
          injection h1 with h1
          exact hbg (by rw [← h1]; exact H5.out.2)
        clear hk5 hbg
        go_wp2_with fail
        exact ⟨⟨k + 1, by omega, by simp, HU.out⟩, by simp [intOf]; omega⟩
    · have q1 : (x.kind == 5) = false := by simpa using hk5
      have hne : k ≠ j := fun e => by
        have h1 := HX.out.1
        rw [e, HC.out.2.2.2] at h1
        injection h1 with h1
        exact hk5 (by rw [← h1]; exact H5.out.1)
      clear hk5
      go_wp2_with fail
      exact ⟨⟨k + 1, by omega, by simp, HU.out⟩, by simp [intOf]; omega⟩
end Go.Proofs.YtiphikoaohhpeaaDoor
/-! SerialShape: 'shaped'. -/
namespace Go.Proofs.YtiphikoaohhpeaaDoor
set_option linter.unusedVariables false
set_option maxRecDepth 20000
open Go.RowKit Go.HeapKit Go.PlainOps

/-- The rows of 'shaped' ahead of node i. -/
structure Rows (K : List Ky) (D : List Int) (i : Nat) (ks ds : List Int) : Prop where
  kl : ks.length = K.length
  dl : ds.length = K.length
  ka : ∀ p : Nat, p < K.length → ks[p]? = some (cntK (K.take i) p : Int)
  da : ∀ j : Nat, j < i → ds[j]? = D[j]?
theorem rows_start (K : List Ky) (D : List Int) (N : Nat) (hN : N = K.length) : Rows K D 0 (List.replicate N 0) (List.replicate N 0) :=
  ⟨by simp [hN], by simp [hN], fun p hp => by rw [List.getElem?_replicate]; simp [hN, hp, cntK], fun j hj => by omega⟩
theorem rows_first {fs : List Fn} {K : List Ky} {D : List Int} {ks ds : List Int} (hG : Grows fs K D) (h : Rows K D 0 ks ds) : Rows K D 1 ks (ds.set 0 1) := by
  have hl := hG.len
  refine ⟨h.kl, by simpa using h.dl, fun p hp => ?_, fun j hj => ?_⟩
  · rw [h.ka p hp, List.take_add_one, hG.first.1]
    simp [cntK]
  · have : j = 0 := by omega
    subst this
    rw [List.getElem?_set_self (by have := h.dl; omega), hG.first.2]
theorem rows_step {fs : List Fn} {K : List Ky} {D : List Int} {ks ds : List Int} {i p : Nat} {x y : Ky} {d : Int} (hG : Grows fs K D) (h : Rows K D i ks ds) (hx : K[i]? = some x) (hd : D[i]? = some d) (hn : NodeOk fs (K.take i) (D.take i) x d p y) : Rows K D (i + 1) (ks.set p ((cntK (K.take i) p : Int) + 1)) (ds.set i d) := by
  have hi := (List.getElem?_eq_some_iff.1 hx).1
  have hp := (List.getElem?_eq_some_iff.1 hn.at_).1
  simp at hp
  refine ⟨by simpa using h.kl, by simpa using h.dl, fun q hq => ?_, fun j hj => ?_⟩
  · rw [List.take_add_one, hx, cnt_app]
    by_cases hqp : p = q
    · subst hqp
      rw [List.getElem?_set_self (by have := h.kl; omega)]
      have : cntK (some x).toList (p : Int) = 1 := by simp [cntK, hn.par]
      rw [this]
      simp
    · rw [List.getElem?_set_ne hqp, h.ka q hq]
      have : cntK (some x).toList (q : Int) = 0 := by simp [cntK, hn.par]; omega
      rw [this]
      simp
  · by_cases hij : i = j
    · subst hij
      rw [List.getElem?_set_self (by have := h.dl; omega), hd]
    · rw [List.getElem?_set_ne hij]
      exact h.da j (by omega)
def ShapedPost (N : Nat) (D : List Int) (w : World) (e : Ending) (w' : World) : Prop :=
  ∃ g, e = .returned (.slice (some ⟨g, 0, none⟩) N N) ∧ Keeps None w w' ∧ ∀ j d, D[j]? = some d → w'.cell? ⟨g, j, none⟩ = some (.int .i64 d)
set_option maxHeartbeats 4000000 in
theorem shaped_any (a : Option Addr) (N c : Nat) (L : List Nd) (fs : List Fn) (D : List Int) (w : World) (hS : SeenD w a N L) (hG : Grows fs (keys L) D) (hN : N ≤ 8388608) :
    Calls Tryd.prog 7 #[.slice a N c] w (ShapedPost N D w) := by
  have hlen := hS.len
  have hKl : (keys L).length = N := by simp [keys, hlen]
  have hgl := hG.len
  obtain ⟨w1, hm1, hI1, hk1⟩ := nums_made w N (by omega)
  obtain ⟨w2, hm2, hI2, hk2⟩ := nums_made w1 N (by omega)
  obtain ⟨KB, hKB⟩ : ∃ KB, KB = w.heap.size := ⟨_, rfl⟩
  obtain ⟨DB, hDB⟩ : ∃ DB, DB = w1.heap.size := ⟨_, rfl⟩
  rw [← hKB] at hm1 hI1
  rw [← hDB] at hm2 hI2
  have hne : KB ≠ DB := by have := blk_lt hI1; omega
  have hkd : w.heap.size ≤ DB := by rw [hDB]; exact hk1.size
  obtain ⟨b, rfl, hb, hcell⟩ := hS.ex (by omega)
  have HC : Hid (b < w.heap.size ∧ (∀ k x, L[k]? = some x → ∀ j y, x.l[j]? = some y → w.cell? ⟨b, k * 7 + j, none⟩ = some (.int .i64 y)) ∧ N = L.length ∧ (keys L).length = N ∧ Grows fs (keys L) D ∧ KB = w.heap.size ∧ w.heap.size ≤ DB ∧ D.length = N) := ⟨hb, hcell, hlen, hKl, hG, hKB, hkd, by omega⟩
  have H2 : Hid (IsN w2 KB (List.replicate N 0) ∧ IsN w2 DB (List.replicate N 0) ∧ Keeps None w w2) := ⟨hI1.kept hk2 (fun f => f), hI2, hk1.trans hk2 (fun _ f _ => f)⟩
  have hN1 : 1 ≤ N := by omega
  have hnb : (N : Int) ≤ 8388608 := by omega
  clear hS hlen hKl hG hgl hI1 hk1 hI2 hk2 hKB hDB hkd hb hcell
  go_enter Tryd.func7, Tryd.ntmps7
  go_upto_region 2 with (at_make; refine wpList_make_run rfl (.tmp 9) (.tmp 9) 37 rfl rfl rfl hm1 ?_)
  clear hm1
  go_upto_region 3 with (at_make; refine wpList_make_run rfl (.tmp 12) (.tmp 12) 37 rfl rfl rfl hm2 ?_)
  clear hm2
  go_wp2_with fail
  go_loopw [5] (fun s5 wr => ∃ (i : Nat) (ks ds : List Int), i ≤ N ∧ s5 = .int .i64 i ∧ Rows (keys L) D i ks ds ∧ IsN wr KB ks ∧ IsN wr DB ds ∧ Keeps None w wr) (fun i _ => N - (intOf i).toNat)
  case atStart => exact ⟨0, _, _, Nat.zero_le _, rfl, rows_start _ _ N HC.out.2.2.2.1.symm, H2.out.1, H2.out.2.1, H2.out.2.2⟩
  case round =>
    obtain ⟨i, ks, ds, hi, rfl, hR, hIK, hID, hkp⟩ := hrel
    by_cases hiN : i < N
    · have i1 : (i : Int) < (N : Int) := by omega
      obtain ⟨x, hx⟩ : ∃ x, L[i]? = some x := ⟨L[i]'(by have := HC.out.2.2.1; omega), by simp⟩
      have hxk : (keys L)[i]? = some (keyN x) := by simp [keys, hx]
      obtain ⟨xp, xi, xf, xw, xd, xa, xv⟩ := x
      have hcl := HC.out.2.1 i _ hx
      have y0 := hkp.cell (hcl 0 xp rfl) (fun f => f)
      have y1 := hkp.cell (hcl 1 xi rfl) (fun f => f)
      have y2 := hkp.cell (hcl 2 xf rfl) (fun f => f)
      have y3 := hkp.cell (hcl 3 xw rfl) (fun f => f)
      have y4 := hkp.cell (hcl 4 xd rfl) (fun f => f)
      have y5 := hkp.cell (hcl 5 xa rfl) (fun f => f)
      have y6 := hkp.cell (hcl 6 xv rfl) (fun f => f)
      simp only [Nat.add_zero] at y0
      have HX : Hid ((keys L)[i]? = some ⟨xp, xi, xf, xd⟩ ∧ Rows (keys L) D i ks ds ∧ IsN wr KB ks ∧ IsN wr DB ds ∧ Keeps None w wr) := ⟨hxk, hR, hIK, hID, hkp⟩
      clear hx hxk hcl hR hIK hID hkp H2
      go_upto_region 7 with fail
      have bG := heap_alloc_new wr (.cells #[.int .i64 xp, .int .i64 xi, .int .i64 xf, .int .i64 xw, .int .i64 xd, .int .i64 xa, .int .i64 xv] 36)
      have hal := Keeps.alloc None wr (.cells #[.int .i64 xp, .int .i64 xi, .int .i64 xf, .int .i64 xw, .int .i64 xd, .int .i64 xa, .int .i64 xv] 36)
      obtain ⟨U, hU⟩ : ∃ U, U = wr.alloc (.cells #[.int .i64 xp, .int .i64 xi, .int .i64 xf, .int .i64 xw, .int .i64 xd, .int .i64 xa, .int .i64 xv] 36) := ⟨_, rfl⟩
      obtain ⟨G, hG⟩ : ∃ G, G = wr.heap.size := ⟨_, rfl⟩
      rw [← hU] at hal bG
      rw [← hG] at bG
      rw [← hU, ← hG]
      have hIK := HX.out.2.2.1.kept hal (fun f => f)
      have hID := HX.out.2.2.2.1.kept hal (fun f => f)
      have hkU := HX.out.2.2.2.2.trans hal (fun _ f _ => f)
      have hGK : G ≠ KB := by have := blk_lt HX.out.2.2.1; omega
      have hGD : G ≠ DB := by have := blk_lt HX.out.2.2.2.1; omega
      have x0 : U.cell? ⟨G, 0, none⟩ = some (.int .i64 xp) := (blk_cell bG 0).trans rfl
      have x1 : U.cell? ⟨G, 1, none⟩ = some (.int .i64 xi) := (blk_cell bG 1).trans rfl
      have x2 : U.cell? ⟨G, 2, none⟩ = some (.int .i64 xf) := (blk_cell bG 2).trans rfl
      have x4 : U.cell? ⟨G, 4, none⟩ = some (.int .i64 xd) := (blk_cell bG 4).trans rfl
      clear hU hG bG hal y0 y1 y2 y3 y4 y5 y6
      by_cases hi0 : i = 0
      · subst hi0
        have hk := HX.out.1
        rw [HC.out.2.2.2.2.1.first.1] at hk
        injection hk with hk
        injection hk with e1 e2 e3 e4
        subst e1 e2 e3 e4
        have fz := blk_free hID 0
        obtain ⟨z, hz⟩ : ∃ z, ds[0]? = some z := ⟨ds[0]'(by have := HX.out.2.1.dl; have := HC.out.2.2.2.1; omega), by simp⟩
        have dz := hID.at hz
        have i2 : (0 : Int) < (N : Int) := by omega
        have HU : Hid (IsN (U.setCell ⟨DB, 0, none⟩ (.int .i64 1)) KB ks ∧ IsN (U.setCell ⟨DB, 0, none⟩ (.int .i64 1)) DB (ds.set 0 1) ∧ Keeps None w (U.setCell ⟨DB, 0, none⟩ (.int .i64 1))) := ⟨hIK.kept (Keeps.setCell (S := (· = DB)) U (a := ⟨DB, 0, none⟩) rfl _) (fun e => hne e), hID.set 0 1, hkU.trans (Keeps.setCell (S := (· = DB)) U (a := ⟨DB, 0, none⟩) rfl _) (fun k e hk => by have := HC.out.2.2.2.2.2.2.1; omega)⟩
        clear hIK hID hkU hz
        go_wp2_with fail
        exact ⟨⟨1, ks, ds.set 0 1, by omega, by simp, rows_first HC.out.2.2.2.2.1 HX.out.2.1, HU.out.1, HU.out.2.1, HU.out.2.2⟩, by simp [intOf]; omega⟩
      · obtain ⟨x', d, p, y, h1, hd, hno⟩ := HC.out.2.2.2.2.1.at i (by omega) (by have := HC.out.2.2.2.1; omega)
        rw [HX.out.1] at h1
        obtain rfl := Option.some.inj h1
        have hpi : p < i := by have := (List.getElem?_eq_some_iff.1 hno.at_).1; simp at this; omega
        have hpy : (keys L)[p]? = some y := by have := hno.at_; rw [List.getElem?_take, if_pos hpi] at this; exact this
        obtain ⟨cn, hcn⟩ : ∃ cn : Nat, cn = cntK ((keys L).take i) (p : Int) := ⟨_, rfl⟩
        have hcb : cn ≤ 8388608 := by have := cnt_le ((keys L).take i) (p : Int); simp at this; have := HC.out.2.2.2.1; omega
        have e1 : xp = (p : Int) := hno.par
        have e2 : xi = (cn : Int) := by rw [hcn]; exact hno.idx
        have e4 : xd = pedV y.ped xi := hno.ped
        have hdb := HC.out.2.2.2.2.1.dep i d hd
        have hdp := HC.out.2.2.2.2.1.dep p (d - 1) (by have := hno.dep; rw [List.getElem?_take, if_pos hpi] at this; exact this)
        have hka := HX.out.2.1.ka p (by have := HC.out.2.2.2.1; omega)
        have hda := HX.out.2.1.da p hpi
        rw [show D[p]? = some (d - 1) by have := hno.dep; rw [List.getElem?_take, if_pos hpi] at this; exact this] at hda
        rw [← hcn] at hka
        have hR := rows_step HC.out.2.2.2.2.1 HX.out.2.1 HX.out.1 hd hno
        rw [← hcn] at hR
        have hanc : Anc (keys L) (i - 1) p := by
          have h1 := hno.anc
          rw [show ((keys L).take i).length = i by simp; have := HC.out.2.2.2.1; omega] at h1
          have h2 := h1.more ((keys L).drop i)
          rw [List.take_append_drop] at h2
          exact h2
        obtain ⟨ny, hny, hnk⟩ : ∃ ny, L[p]? = some ny ∧ keyN ny = y := by
          unfold keys at hpy
          rw [List.getElem?_map, Option.map_eq_some_iff] at hpy
          exact hpy
        have pc := hkU.cell (HC.out.2.1 p ny hny 4 ny.ped rfl) (fun f => f)
        have hyp : ny.ped = y.ped := by rw [← hnk]; rfl
        rw [hyp] at pc
        generalize y.ped = yp at *
        subst e1 e2 e4
        have kz := hIK.at hka
        have dz := hID.at hda
        obtain ⟨z, hz⟩ : ∃ z, ds[i]? = some z := ⟨ds[i]'(by have := HX.out.2.1.dl; have := HC.out.2.2.2.1; omega), by simp⟩
        have dz2 := hID.at hz
        have fk := blk_free hIK p
        have HY : Hid (IsN U KB ks ∧ IsN U DB ds ∧ Keeps None w U ∧ Rows (keys L) D (i + 1) (ks.set p ((cn : Int) + 1)) (ds.set i d) ∧ ks[p]? = some (cn : Int) ∧ ds[p]? = some (d - 1) ∧ ds[i]? = some z) := ⟨hIK, hID, hkU, hR, hka, hda, hz⟩
        have HA : Hid _ := hanc
        have q0 : ((i : Int) == 0) = false := by simp; omega
        clear hno hpy hcn hka hda hR hanc hny hnk hyp hIK hID hkU hd hz
        go_wp2_with fail
        go_loopw [7] (fun s7 wr => ∃ k : Nat, s7 = .int .i64 k ∧ Anc (keys L) k p ∧ k < N ∧ wr = U) (fun i _ => (intOf i).toNat)
        case atStart => exact ⟨i - 1, by rw [show ((i - 1 : Nat) : Int) = (i : Int) - 1 by omega], HA.out, by omega, rfl⟩
        case round =>
          obtain ⟨k, rfl, hA, hkN, hwU⟩ := hrel
          subst hwU
          by_cases hkp : p < k
          · obtain ⟨x', q, hx', hq, hqk, hA'⟩ := hA.step HC.out.2.2.2.2.1 hkp
            obtain ⟨nk, hnk, hnk2⟩ : ∃ nk, L[k]? = some nk ∧ keyN nk = x' := by
              unfold keys at hx'
              rw [List.getElem?_map, Option.map_eq_some_iff] at hx'
              exact hx'
            have kc := HY.out.2.2.1.cell (HC.out.2.1 k nk hnk 0 nk.parent rfl) (fun f => f)
            rw [show nk.parent = (q : Int) by rw [← hq, ← hnk2]; rfl] at kc
            simp only [Nat.add_zero] at kc
            have j1 : (p : Int) < (k : Int) := by omega
            have j2 : (0 : Int) ≤ (k : Int) := by omega
            have j3 : (k : Int) < (N : Int) := by omega
            have HQ : Hid _ := hA'
            clear hx' hq hA' hnk hnk2 hA
            go_wp2_with fail
            refine ⟨⟨q, rfl, HQ.out, by omega, trivial⟩, by simp [intOf]; omega⟩
          · have hkp2 : k = p := by have := hA.le HC.out.2.2.2.2.1; omega
            subst hkp2
            have j1 : ¬ ((k : Int) < (k : Int)) := by omega
            have j2 : ¬ ((k : Int) < 0) := by omega
            have j3 : (k : Int) < (N : Int) := by omega
            clear hA HA
            go_upto_region 14 with fail
            go_cut [90] (fun s90 wx => s90 = .bool false ∧ Keeps None wr wx)
            case first =>
              go_region_held3 (fun w' => w'.cell? ⟨G, 0, none⟩ = some (.int .i64 (k : Int)) ∧ w'.cell? ⟨G, 1, none⟩ = some (.int .i64 (cn : Int)) ∧ w'.cell? ⟨G, 4, none⟩ = some (.int .i64 (pedV yp (cn : Int))) ∧ w'.cell? ⟨KB, k, none⟩ = some (.int .i64 (cn : Int)) ∧ w'.cell? ⟨b, k * 7 + 4, none⟩ = some (.int .i64 yp)) (go_keep) (first
                | (go_at_call 14; refine (sped_any _ _ _).mono ?_; rintro _ wp ⟨rfl, hwp⟩; have hwp2 := hwp.symm; subst hwp2))
              all_goals (go_wp2_with fail; go_meet)
              all_goals exact ⟨rfl, Keeps.drew None wr⟩
            case rest =>
              obtain ⟨rfl, hkc⟩ := hcut
              have hIK := HY.out.1.kept hkc (fun f => f)
              have hID := HY.out.2.1.kept hkc (fun f => f)
              have hkw := HY.out.2.2.1.trans hkc (fun _ f _ => f)
              have kz2 := hIK.at HY.out.2.2.2.2.1
              have fk2 := blk_free hIK k
              have kS : Keeps (· = KB) wc (wc.setCell ⟨KB, k, none⟩ (.int .i64 ((cn : Int) + 1))) := Keeps.setCell (S := (· = KB)) wc (a := ⟨KB, k, none⟩) rfl _
              have hIK2 := hIK.set k ((cn : Int) + 1)
              have hID2 := hID.kept kS (fun e => hne e.symm)
              have hkw2 := hkw.trans kS (fun j e hj => by have := HC.out.2.2.2.2.2.1; omega)
              obtain ⟨V, hV⟩ : ∃ V, V = wc.setCell ⟨KB, k, none⟩ (.int .i64 ((cn : Int) + 1)) := ⟨_, rfl⟩
              rw [← hV] at hIK2 hID2 hkw2
              clear hIK hID hkw kS hkc x0 x1 x2 x4 kz dz dz2 fk pc
              go_upto_region 17 with fail
              rw [← hV]
              clear hV kz2 fk2
              have dz := hID2.at HY.out.2.2.2.2.2.1
              have dz2 := hID2.at HY.out.2.2.2.2.2.2
              have fz := blk_free hID2 i
              have kS : Keeps (· = DB) V (V.setCell ⟨DB, i, none⟩ (.int .i64 d)) := Keeps.setCell (S := (· = DB)) V (a := ⟨DB, i, none⟩) rfl _
              have HZ : Hid (IsN (V.setCell ⟨DB, i, none⟩ (.int .i64 d)) KB (ks.set k ((cn : Int) + 1)) ∧ IsN (V.setCell ⟨DB, i, none⟩ (.int .i64 d)) DB (ds.set i d) ∧ Keeps None w (V.setCell ⟨DB, i, none⟩ (.int .i64 d))) := ⟨hIK2.kept kS (fun e => hne e), hID2.set i d, hkw2.trans kS (fun j e hj => by have := HC.out.2.2.2.2.2.2.1; omega)⟩
              have ed : d - 1 + 1 = d := by omega
              clear kS hIK2 hID2 hkw2
              go_wp2_with fail
              exact ⟨⟨i + 1, _, _, by omega, by simp, HY.out.2.2.2.1, HZ.out.1, HZ.out.2.1, HZ.out.2.2⟩, by simp [intOf]; omega⟩
    · have hin : N = i := by omega
      subst hin
      have i1 : ¬ ((N : Int) < (N : Int)) := by omega
      have HP : Hid (ShapedPost N D w (.returned (.slice (some ⟨DB, 0, none⟩) N N)) wr) := ⟨DB, rfl, hkp, fun j d hd => hID.at (by rw [hR.da j (by have := (List.getElem?_eq_some_iff.1 hd).1; have := HC.out.2.2.2.2.2.2.2; omega)]; exact hd)⟩
      clear hR hIK hID hkp H2
      go_wp2_with fail
      go_ret
      exact HP.out
end Go.Proofs.YtiphikoaohhpeaaDoor
