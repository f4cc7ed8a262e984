import Derived.Test.YtokfbagacehbgaaDoorSrStrip
/-! Tree. -/
namespace Go.Proofs.YtokfbagacehbgaaDoor
set_option linter.unusedVariables false
set_option maxRecDepth 20000
open Go.RowKit Go.HeapKit Go.PlainOps

theorem nd_made (T : Nat) (hT : T ≤ 8388608) : ∃ M : Array Value, M.size = T * 7 ∧ ∀ w : World, (Instr.makeSlice 41 (.int .i64 0) (.int .i64 (T : Int))).run Tryd.prog w = .ok (.slice (some ⟨w.heap.size, 0, none⟩) 0 T) (w.alloc (.cells M 51)) := by
  obtain ⟨i0, hi, hz0, hz1, hz2⟩ := info_parts Tryd.infoNd
  refine ⟨madeCells (Value.agg #[.int .i64 0, .int .i64 0, .int .i64 0, .int .i64 0, .int .i64 0, .int .i64 0, .int .i64 0]).cells (T * 7), size_madeCells _ _, fun w => ?_⟩
  have h := run_make (P := Tryd.prog) w 41 51 i0 _ Tryd.underlying41 hi hz0 .i64 .i64 0 (T : Int) (by omega) (by omega) (by rw [hz2]; omega) (by omega)
  rw [hz1] at h
  simpa using h
/-- What Tree hands out. -/
def TreePost (l : List Fn) (zs : List Int) (fuel : Int) (w : World) (e : Ending) (w' : World) : Prop :=
  ∃ nv, e = .returned (.tuple #[nv, .int .i64 (evalV l zs fuel).2]) ∧ Keeps None w w' ∧ (∀ g, nv.ownBlock = some g → w.heap.size ≤ g) ∧
    ((evalV l zs fuel).2 ≠ 0 → nv = .slice none 0 0) ∧ ((evalV l zs fuel).2 = 0 → w'.ownsRow 0 51 7 nv (treeV l zs fuel).length (ndVals (treeV l zs fuel)))
set_option maxHeartbeats 2000000 in
theorem tree_any (a : Option Addr) (n c : Nat) (l : List Fn) (aa : Option Addr) (an ac : Nat) (zs : List Int) (fuel : Int) (w : World) (hT : Tabs w) (hS : SeenF w a n l) (hok : ∀ f ∈ l, f.Ok) (hZ : SeenA w aa an zs) (hZ2 : an ≤ 9223372036854775807) (hfu : okI fuel) :
    Calls Tryd.prog 12 #[.agg #[.slice a n c], .slice aa an ac, .int .i64 fuel] w (TreePost l zs fuel w) := by
  obtain ⟨B, hB⟩ : ∃ B, B = w.heap.size := ⟨_, rfl⟩
  have b1 := heap_alloc_new w (.cells #[.slice a n c] 24)
  have hk1 := Keeps.alloc None w (.cells #[.slice a n c] 24)
  obtain ⟨W, hW⟩ : ∃ W, W = w.alloc (.cells #[.slice a n c] 24) := ⟨_, rfl⟩
  rw [← hW, ← hB] at b1
  rw [← hW] at hk1
  have hev := eval_any a n c l aa an ac zs fuel W (hT.more hk1) (hS.more hk1) hok (hZ.more hk1) hZ2 hfu
  have d0 : W.cell? ⟨B, 0, none⟩ = some (.slice a n c) := (blk_cell b1 0).trans rfl
  have HX : Hid (B = w.heap.size ∧ Keeps None w W ∧ W.heap[B]? = some (.cells #[.slice a n c] 24 (0, 0)) ∧ SeenF w a n l ∧ (∀ f ∈ l, f.Ok) ∧ SeenA w aa an zs) := ⟨hB, hk1, b1, hS, hok, hZ⟩
  by_cases he0 : (evalV l zs fuel).2 = 0
  · have hr0 : refusedV l zs fuel = 0 := by
      by_cases h : refusedV l zs fuel = 0
      · exact h
      · unfold evalV at he0
        rw [if_pos h] at he0
        exact absurd he0 h
    obtain ⟨hcz, hpz, hf0, hf1⟩ := refused_zero hr0
    have hA := allV_of hcz hok
    obtain ⟨F, rfl⟩ := Int.eq_ofNat_of_zero_le hf0
    have hz8 := root_le hA hpz
    have hBg := root_begins hA true hZ.ok F (by omega)
    have hbare := run_bare' l zs F
    obtain ⟨v, sp, s, hrun, hdone⟩ : ∃ v sp s, runV l true zs F = .done v sp s ∧ evalV l zs (F : Int) = (⟨v, (F : Int) - s.fuel, s.tasks, s.depth, sp⟩, 0) := by
      have hev2 : evalV l zs (F : Int) = (match runV l false zs F with
        | .gave e => (zeroVal, e)
        | .done v sp s => (⟨v, (F : Int) - s.fuel, s.tasks, s.depth, sp⟩, 0)) := by
        unfold evalV
        rw [if_neg (by simpa using hr0)]
        rfl
      rw [hbare] at hev2
      cases hq : runV l true zs F with
      | gave e =>
        rw [hq] at hev2
        have : evalV l zs (F : Int) = (zeroVal, e) := hev2
        rw [this] at he0
        have he : e ≠ 0 := gave_ne hA hBg hq
        exact absurd he0 he
      | done v sp s =>
        rw [hq] at hev2
        exact ⟨v, sp, s, rfl, hev2⟩
    obtain ⟨_, _, _, h4, h5, _⟩ := child_done hA hBg rfl hrun
    have htk : s.tasks ≤ 8388608 := by have := h5.tasks; omega
    obtain ⟨M, hMs, hmk⟩ := nd_made s.tasks htk
    have htv : treeV l zs (F : Int) = s.nodes := by
      unfold treeV
      rw [show (F : Int).toNat = F from rfl, hrun]
    have hpl := fun (R : Nat) (nv : Value) (wx : World) (hRx : w.heap.size ≤ R) (hnx : ∀ g, nv.ownBlock = some g → w.heap.size ≤ g) (hkx : Keeps None w wx) (hrx : IsRn wx R (.slice a n c) true (startS F) nv) => play_any l hA true a n c w R F (F + 1) (startS F) (rootT zs) nv wx (Nat.lt_succ_self _) (Nat.le_refl _) hrx ⟨hS, hkx, hRx, hnx⟩ hBg
    have hpl2 : ∀ (R : Nat) (nv : Value) (wx : World) (hRx : w.heap.size ≤ R) (hnx : ∀ g, nv.ownBlock = some g → w.heap.size ≤ g) (hkx : Keeps None w wx) (hrx : IsRn wx R (.slice a n c) true (startS F) nv), Calls Tryd.prog 10 #[.pointer (some ⟨R, 0, none⟩), tkV (rootT zs)] wx (PlaysTo R (.slice a n c) true nv wx (.done v sp s)) := by
      rw [← hrun]
      exact hpl
    have hrt := fun (wx : World) (hkx : Keeps None w wx) => root_any aa an ac zs wx (hZ.more hkx) (by have := hZ.len; omega)
    have HPL : Hid _ := hpl2
    have HRT : Hid _ := hrt
    have HTV : Hid (treeV l zs (F : Int) = s.nodes ∧ evalV l zs (F : Int) = (⟨v, (F : Int) - s.fuel, s.tasks, s.depth, sp⟩, 0) ∧ M.size = s.tasks * 7 ∧ s.tasks ≤ 8388608) := ⟨htv, hdone, hMs, htk⟩
    rw [hdone] at hev
    unfold valC at hev
    simp only at hev
    clear hpl hpl2 hrt htv hBg hbare hrun hdone h4 h5 htk hA hcz hpz hr0 he0 hz8 hT hS hok hZ hk1 b1 hMs
    unfold tkV at HPL HRT
    generalize Value.agg (ints ((rootT zs).l 0 0 0)).toArray = tv at *
    go_enter Tryd.func12, Tryd.ntmps12
    go_upto_region 1 with fail
    rw [← hW, ← hB]
    clear hW hB
    go_upto_region 2 with (go_at_call 4; refine hev.mono ?_; rintro _ w2 ⟨rfl, hk2⟩)
    have e0 := hk2.cell d0 (fun f => f)
    have hal := Keeps.alloc None w2 (.cells #[.int .i64 v, .int .i64 ((F : Int) - s.fuel), .int .i64 s.tasks, .int .i64 s.depth, .int .i64 sp] 27)
    have bV := heap_alloc_new w2 (.cells #[.int .i64 v, .int .i64 ((F : Int) - s.fuel), .int .i64 s.tasks, .int .i64 s.depth, .int .i64 sp] 27)
    obtain ⟨V, hV⟩ : ∃ V, V = w2.alloc (.cells #[.int .i64 v, .int .i64 ((F : Int) - s.fuel), .int .i64 s.tasks, .int .i64 s.depth, .int .i64 sp] 27) := ⟨_, rfl⟩
    obtain ⟨G, hG⟩ : ∃ G, G = w2.heap.size := ⟨_, rfl⟩
    rw [← hV] at hal bV
    rw [← hG] at bV
    rw [← hV, ← hG]
    have f0 := hal.cell e0 (fun f => f)
    have f1 : V.cell? ⟨G, 2, none⟩ = some (.int .i64 s.tasks) := (blk_cell bV 2).trans rfl
    have HV : Hid (Keeps None w V ∧ w.heap.size ≤ V.heap.size) := ⟨(HX.out.2.1.trans hk2 (fun _ f _ => f)).trans hal (fun _ f _ => f), ((HX.out.2.1.trans hk2 (fun _ f _ => f)).trans hal (fun _ f _ => f)).size⟩
    clear hV hG hal bV hk2 e0 d0 hev
    go_upto_region 4 with fail
    go_cut [10] (fun s10 wx => ∃ R g, s10 = .pointer (some ⟨R, 0, none⟩) ∧ w.heap.size ≤ R ∧ w.heap.size ≤ g ∧ IsRn wx R (.slice a n c) true (startS F) (.slice (some ⟨g, 0, none⟩) 0 s.tasks) ∧ Keeps None w wx)
    case first =>
      go_region_held3 (fun w' => w'.cell? ⟨B, 0, none⟩ = some (.slice a n c) ∧ w'.cell? ⟨G, 2, none⟩ = some (.int .i64 s.tasks)) (go_keep) (fail)
      all_goals (go_wp2_with fail; go_meet)
      · obtain ⟨p1, p2⟩ := two_boxes V M #[.slice a n c, .int .i64 F, .int .i64 0, .int .i64 0, .bool true, .slice (some ⟨V.heap.size, 0, none⟩) 0 s.tasks] 51 43
        have hk := keeps2 V (.cells M 51) (.cells #[.slice a n c, .int .i64 F, .int .i64 0, .int .i64 0, .bool true, .slice (some ⟨V.heap.size, 0, none⟩) 0 s.tasks] 43)
        exact ⟨V.heap.size + 1, V.heap.size, rfl, by have := HV.out.2; omega, HV.out.2, ⟨p2, ⟨rfl, .inr ⟨_, s.tasks, M, rfl, Nat.zero_le _, p1, Nat.zero_le _, by have := HTV.out.2.2.2; unfold maxLen; omega, HTV.out.2.2.1, rfl⟩⟩⟩, (HV.out.1.trans hk (fun _ f _ => f)).andDrew⟩
      · obtain ⟨p1, p2⟩ := two_boxes V #[.slice a n c, .int .i64 F, .int .i64 0, .int .i64 0, .bool true, .slice (some ⟨V.heap.size + 1, 0, none⟩) 0 s.tasks] M 43 51
        have hk := keeps2 V (.cells #[.slice a n c, .int .i64 F, .int .i64 0, .int .i64 0, .bool true, .slice (some ⟨V.heap.size + 1, 0, none⟩) 0 s.tasks] 43) (.cells M 51)
        exact ⟨V.heap.size, V.heap.size + 1, rfl, HV.out.2, by have := HV.out.2; omega, ⟨p1, ⟨rfl, .inr ⟨_, s.tasks, M, rfl, Nat.zero_le _, p2, Nat.zero_le _, by have := HTV.out.2.2.2; unfold maxLen; omega, HTV.out.2.2.1, rfl⟩⟩⟩, (HV.out.1.trans hk (fun _ f _ => f)).andDrew⟩
    case rest =>
      obtain ⟨R, g, rfl, hR, hg, hrn, hkc⟩ := hcut
      have hrt := HRT.out wc hkc
      have hpl := fun wx (hx : Keeps None wc wx) => HPL.out R (.slice (some ⟨g, 0, none⟩) 0 s.tasks) wx hR (fun g' e => by simp [Value.ownBlock] at e; omega) (hkc.trans hx (fun _ f _ => f)) (hrn.kept hx (fun _ _ f => f))
      have HPL2 : Hid _ := hpl
      have HC : Hid (w.heap.size ≤ R ∧ w.heap.size ≤ g ∧ Keeps None w wc) := ⟨hR, hg, hkc⟩
      clear hpl HPL HRT hR hg hkc hrn f0 f1 hmk
      go_upto_region 6 with (first | (go_at_call 11; refine hrt.mono ?_; rintro _ w5 ⟨rfl, hk5⟩) | (go_at_call 10; refine (HPL2.out _ hk5).mono ?_; rintro _ w6 ⟨rfl, nv6, hr6, hk6, hm6⟩))
      have g5 : w6.cell? ⟨R, 5, none⟩ = some nv6 := (blk_cell hr6.blk 5).trans rfl
      have hkw : Keeps None w w6 := (HC.out.2.2.trans hk5 (fun _ f _ => f)).trans hk6 (fun i e hi => by rcases e with e | e; have := HC.out.1; omega; simp [Value.ownBlock] at e; have := HC.out.2.1; omega)
      have HQ : Hid (TreePost l zs (F : Int) w (.returned (.tuple #[nv6, .int .i64 0])) w6) := by
        refine ⟨nv6, by rw [HTV.out.2.1], hkw, fun g' e => ?_, fun h => by rw [HTV.out.2.1] at h; exact absurd rfl h, fun _ => by rw [HTV.out.1]; exact hr6.row⟩
        rcases hm6 with h | ⟨g2, e2, h2⟩
        · rw [h] at e
          simp [Value.ownBlock] at e
          have := HC.out.2.1
          omega
        · rw [e2] at e
          obtain rfl := Option.some.inj e
          have := hk5.size
          have := HC.out.2.2.size
          omega
      clear hr6 hk6 hm6 hkw hk5 hrt
      go_wp2_with fail
      go_ret2
      exact HQ.out
  · have heb : ((evalV l zs fuel).2 != 0) = true := by simpa using he0
    have HQ : Hid (∀ w', Keeps None w w' → TreePost l zs fuel w (.returned (.tuple #[.slice none 0 0, .int .i64 (evalV l zs fuel).2])) w') := fun w' hk => ⟨_, rfl, hk, fun g e => by simp [Value.ownBlock] at e, fun _ => rfl, fun h => absurd h he0⟩
    generalize (evalV l zs fuel).2 = er at *
    unfold valC at hev
    generalize (evalV l zs fuel).1 = ev at *
    clear hT hS hok hZ hk1 b1
    go_enter Tryd.func12, Tryd.ntmps12
    go_upto_region 1 with fail
    rw [← hW, ← hB]
    clear hW hB
    go_upto_region 2 with (go_at_call 4; refine hev.mono ?_; rintro _ w2 ⟨rfl, hk2⟩)
    have HK2 : Hid (Keeps None w w2) := HX.out.2.1.trans hk2 (fun _ f _ => f)
    clear hk2 hev
    go_wp2_with fail
    go_ret2
    exact HQ.out _ (HK2.out.andAlloc _)
end Go.Proofs.YtokfbagacehbgaaDoor
