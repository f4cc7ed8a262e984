import Derived.Test.YtbdpdojeaahpjaaGreatDoorPkBA
import Derived.Test.YtbdpdojeaahpjaaGreatDoorPkBF
/-! The document's Eval and Tree. -/
namespace Go.Proofs.YtbdpdojeaahpjaaGreatDoor
set_option linter.unusedVariables false
set_option maxRecDepth 20000
set_option linter.unusedSimpArgs false
open Go.RowKit Go.HeapKit Go.PlainOps

theorem rtask_any (fs : List Fn) (hA : AllV fs) (fa : Option Addr) (fn fc : Nat) (w0 : World) (R : Nat) : ∀ n, RTaskOk fs fa fn fc w0 R n := fun n =>
  Nat.strongRecOn n fun n IH => rtask_step fs hA fa fn fc w0 R n IH
/-- What both hands out. -/
def BothPost (l : List Fn) (zs : List Int) (fuel : Int) (w : World) (e : Ending) (w' : World) : Prop :=
  ∃ nv, e = .returned (.tuple #[.agg (valC (evalV l zs fuel).1), nv, .int .i64 (evalV l zs fuel).2]) ∧ Keeps None w w' ∧ (∀ g, nv.ownBlock = some g → w.heap.size ≤ g) ∧
    ((evalV l zs fuel).2 ≠ 0 → nv = .slice none 0 0) ∧ ((evalV l zs fuel).2 = 0 → w'.ownsRow 0 65 7 nv (treeV l zs fuel).length (ndVals (treeV l zs fuel)))
theorem results_ctt {P : Program} {fn : Func} {q r u : Tmp} {t : TypeId} (h : fn.results = #[.cell q t, .tmp r, .tmp u]) {tmps : Array Value} {w : World} {g : Nat} (ha : tmps.getD q undef = .pointer (some ⟨g, 0, none⟩)) {v : Value}
    (hl : (loadVar t ⟨g, 0, none⟩).run P w = .ok v w) : (results fn tmps).run P w = .ok (.tuple #[v, tmps.getD r undef, tmps.getD u undef]) w := by
  have ha' : tmps[q]?.getD undef = .pointer (some ⟨g, 0, none⟩) := by simpa using ha
  simp [results, h, ha', asAddr, hl]
def evR (F : Nat) (r : Res) : Val × Int := match r with
  | .gave e => (zeroVal, e)
  | .done v sp s => (⟨v, (F : Int) - s.fuel, s.tasks, s.depth, sp⟩, 0)
def trR (r : Res) : List Nd := match r with
  | .gave e => []
  | .done v sp s => s.nodes
set_option maxHeartbeats 2000000 in
theorem rboth_any (a : Option Addr) (n c : Nat) (l : List Fn) (aa : Option Addr) (an ac : Nat) (zs : List Int) (fuel : Int) (w : World) (hS : SeenF w a n l) (hok : ∀ f ∈ l, f.Ok) (hZ : SeenA w aa an zs) (hZ2 : an ≤ 9223372036854775807) (hfu : okI fuel) :
    Calls Tryz.prog 20 #[.agg #[.slice a n c], .slice aa an ac, .int .i64 fuel] w (BothPost l zs fuel w) := by
  obtain ⟨B, hB⟩ : ∃ B, B = w.heap.size := ⟨_, rfl⟩
  obtain ⟨b1, b2⟩ := two_boxes w #[.slice a n c] (valC zeroVal) 24 44
  have hk2 := keeps2 w (.cells #[.slice a n c] 24) (.cells (valC zeroVal) 44)
  obtain ⟨W, hW⟩ : ∃ W, W = (w.alloc (.cells #[.slice a n c] 24)).alloc (.cells (valC zeroVal) 44) := ⟨_, rfl⟩
  rw [← hW, ← hB] at b1 b2
  rw [← hW] at hk2
  have hrf := rref_any a n c l aa an ac zs fuel W (hS.more hk2) hok hZ.len hZ2 hfu
  have d0 : W.cell? ⟨B, 0, none⟩ = some (.slice a n c) := (blk_cell b1 0).trans rfl
  have HX : Hid (B = w.heap.size ∧ Keeps None w W ∧ W.heap[B]? = some (.cells #[.slice a n c] 24 (0, 0)) ∧ W.heap[B + 1]? = some (.cells (valC zeroVal) 44 (0, 0)) ∧ SeenF w a n l ∧ (∀ f ∈ l, f.Ok) ∧ SeenA w aa an zs) := ⟨hB, hk2, b1, b2, hS, hok, hZ⟩
  by_cases hr0 : refusedV l zs fuel = 0
  · obtain ⟨hcz, hpz, hf0, hf1⟩ := refused_zero hr0
    have hA := allV_of hcz hok
    obtain ⟨F, rfl⟩ := Int.eq_ofNat_of_zero_le hf0
    have hz8 := root_le hA hpz
    have hBg := root_begins hA true hZ.ok F (by omega)
    have hbare := run_bare' l zs F
    have hev : evalV l zs (F : Int) = evR F (runV l false zs F) := by
      unfold evalV
      rw [if_neg (by simpa using hr0)]
      rfl
    rw [hbare] at hev
    have hplay : runV l true zs F = loopV l true (F + 1) (enterS true (startS F) (rootT zs)) (enterT (startS F) (rootT zs)) 0 := by
      unfold runV playV
      rw [if_neg (by show ¬ (4096 : Int) < 1; omega)]
    have htask := fun (R : Nat) (wx : World) (hRx : w.heap.size ≤ R) (hkx : Keeps None w wx) (hrx : IsRR wx R (.slice a n c) F 0 0 [] (.slice none 0 0)) =>
      rtask_any l hA a n c w R F (F + 1) (startS F) (rootT zs) (.slice none 0 0) [] aa an ac zs wx (Nat.lt_succ_self _) (Nat.le_refl _) hrx ⟨hS, hkx, hRx, fun g e => by simp [Value.ownBlock] at e⟩ hBg (by show ¬ (4096 : Int) < 1; omega) rfl (root_new zs hz8) (hZ.more hkx)
    rw [← hplay] at htask
    have hgne : ∀ e, runV l true zs F = .gave e → e ≠ 0 := fun e he => gave_ne hA hBg he
    have hdn : ∀ v sp s, runV l true zs F = .done v sp s → s.fuel ≤ F ∧ 0 ≤ sp ∧ s.nodes.length = s.tasks := fun v sp s hrun => by
      obtain ⟨_, h2, _, h4, h5, _⟩ := child_done hA hBg rfl hrun
      exact ⟨h4, h2, by simpa using h5.nodes⟩
    have htv : treeV l zs (F : Int) = trR (runV l true zs F) := by
      unfold treeV
      rfl
    have HT : Hid (∀ (R : Nat) (wx : World), w.heap.size ≤ R → Keeps None w wx → IsRR wx R (.slice a n c) F 0 0 [] (.slice none 0 0) → Calls Tryz.prog 36 #[.pointer (some ⟨R, 0, none⟩), .agg #[.int .i64 (-1), .int .i64 0, .int .i64 0, .int .i64 0, .int .i64 1, .int .i64 0, .int .i64 0], .slice aa an ac, .int .i64 1] wx (RTo R (.slice a n c) (.slice none 0 0) wx 0 [] (runV l true zs F))) := htask
    rw [hr0] at hrf
    generalize runV l true zs F = rr at *
    have HE : Hid (evalV l zs (F : Int) = evR F rr.bare ∧ treeV l zs (F : Int) = trR rr) := ⟨hev, htv⟩
    have HD : Hid ((∀ e, rr = .gave e → e ≠ 0) ∧ ∀ v sp s, rr = .done v sp s → s.fuel ≤ F ∧ 0 ≤ sp ∧ s.nodes.length = s.tasks) := ⟨hgne, hdn⟩
    have hFb : (F : Int) ≤ 4194304 := by omega
    clear hcz hpz hf0 hA hz8 hBg hbare hev hplay htask hgne hdn htv hr0 hf1 hS hok hZ b1 b2 hk2
    go_enter Tryz.func20, Tryz.ntmps20
    go_upto_region 1 with fail
    change Code.wp _ _ _ _ ((w.alloc (.cells #[.slice a n c] 24)).alloc (.cells (valC zeroVal) 44))
    rw [← hW, ← hB]
    clear hW hB
    go_upto_region 4 with (go_at_call 35; refine hrf.mono ?_; rintro _ w3 ⟨rfl, hk3⟩)
    have e0 := hk3.cell d0 (fun f => f)
    have hal := Keeps.alloc None w3 (.cells #[.slice a n c, .int .i64 (F : Int), .int .i64 0, .slice none 0 0, .int .i64 0] 102)
    have bR := heap_alloc_new w3 (.cells #[.slice a n c, .int .i64 (F : Int), .int .i64 0, .slice none 0 0, .int .i64 0] 102)
    obtain ⟨V, hV⟩ : ∃ V, V = w3.alloc (.cells #[.slice a n c, .int .i64 (F : Int), .int .i64 0, .slice none 0 0, .int .i64 0] 102) := ⟨_, rfl⟩
    obtain ⟨R, hR⟩ : ∃ R, R = w3.heap.size := ⟨_, rfl⟩
    rw [← hV] at hal bR
    rw [← hR] at bR
    have kV : Keeps None W V := hk3.trans hal (fun _ f _ => f)
    have kw : Keeps None w V := HX.out.2.1.trans kV (fun _ f _ => f)
    have hRB : B + 1 < R := by rw [hR]; have := blk_lt (blk_kept HX.out.2.2.2.1 hk3 (fun f => f)); exact this
    have hRw : w.heap.size ≤ R := by have := HX.out.1; omega
    have hrr : IsRR V R (.slice a n c) F 0 0 [] (.slice none 0 0) := ⟨bR, ⟨rfl, .inl ⟨rfl, rfl⟩⟩⟩
    have htk := HT.out R V hRw kw hrr
    have bZ := blk_kept HX.out.2.2.2.1 kV (fun f => f)
    have HV : Hid (Keeps None w V ∧ B + 1 < R ∧ w.heap.size ≤ R ∧ V.heap[B + 1]? = some (.cells (valC zeroVal) 44 (0, 0))) := ⟨kw, hRB, hRw, bZ⟩
    clear hal bR kV kw hrr bZ hk3 hrf HT hRB hRw d0
    go_upto_region 5 with fail
    rw [← hV, ← hR]
    clear hV hR e0
    cases rr with
    | gave er =>
      go_upto_region 6 with (go_at_call 36; refine htk.mono ?_; rintro _ w5 ⟨fuel', depth', M', nv', rfl, hr5, hk5, hm5⟩)
      have x2 : w5.cell? ⟨R, 2, none⟩ = some (.int .i64 er) := (blk_cell hr5.blk 2).trans rfl
      have hne := HD.out.1 er rfl
      have q1 : (er != 0) = true := by simpa using hne
      have nf : ¬ RFoot R (.slice none 0 0) (B + 1) := fun e => by rcases e with e | e; have := HV.out.2.1; omega; simp [Value.ownBlock] at e
      have bZ := blk_kept HV.out.2.2.2 hk5 nf
      unfold valC zeroVal at bZ
      have y0 : w5.cell? ⟨B + 1, 0, none⟩ = some (.int .i64 0) := (blk_cell bZ 0).trans rfl
      have y1 : w5.cell? ⟨B + 1, 1, none⟩ = some (.int .i64 0) := (blk_cell bZ 1).trans rfl
      have y2 : w5.cell? ⟨B + 1, 2, none⟩ = some (.int .i64 0) := (blk_cell bZ 2).trans rfl
      have y3 : w5.cell? ⟨B + 1, 3, none⟩ = some (.int .i64 0) := (blk_cell bZ 3).trans rfl
      have y4 : w5.cell? ⟨B + 1, 4, none⟩ = some (.int .i64 0) := (blk_cell bZ 4).trans rfl
      have z0 := blk_free bZ 0
      have z1 := blk_free bZ 1
      have z2 := blk_free bZ 2
      have z3 := blk_free bZ 3
      have z4 := blk_free bZ 4
      have nRB : R ≠ B + 1 := by have := HV.out.2.1; omega
      obtain ⟨w7, hw7⟩ : ∃ w7, w7 = (((((w5.setCell ⟨B + 1, 0, none⟩ (.int .i64 0)).setCell ⟨B + 1, 1, none⟩ (.int .i64 0)).setCell ⟨B + 1, 2, none⟩ (.int .i64 0)).setCell ⟨B + 1, 3, none⟩ (.int .i64 0)).setCell ⟨B + 1, 4, none⟩ (.int .i64 0)) := ⟨_, rfl⟩
      have bV : w7.heap[B + 1]? = some (.cells (valC zeroVal) 44 (0, 0)) := by
        rw [hw7, blk_set (blk_set (blk_set (blk_set (blk_set bZ _) _) _) _) _]
        rfl
      have k7 : Keeps (· = B + 1) w5 w7 := by
        rw [hw7]
        exact (((((Keeps.refl (· = B + 1) w5).andSet (x := ⟨B + 1, 0, none⟩) (.inl rfl) _).andSet (x := ⟨B + 1, 1, none⟩) (.inl rfl) _).andSet (x := ⟨B + 1, 2, none⟩) (.inl rfl) _).andSet (x := ⟨B + 1, 3, none⟩) (.inl rfl) _).andSet (x := ⟨B + 1, 4, none⟩) (.inl rfl) _
      have kk : Keeps None w w7 := (HV.out.1.trans hk5 (fun i e hi => by rcases e with e | e; have := HV.out.2.2.1; omega; simp [Value.ownBlock] at e)).trans k7 (fun i e hi => by have := HX.out.1; omega)
      have HQ : Hid (w7.drew.heap[B + 1]? = some (.cells (valC zeroVal) 44 (0, 0)) ∧ BothPost l zs (F : Int) w (.returned (.tuple #[.agg (valC zeroVal), .slice none 0 0, .int .i64 er])) w7.drew) := by
        refine ⟨bV, ?_⟩
        unfold BothPost
        rw [HE.out.1]
        exact ⟨_, rfl, kk.andDrew, fun g e => by simp [Value.ownBlock] at e, fun _ => rfl, fun h => absurd h hne⟩
      rw [hw7] at HQ
      clear hw7 bV k7 kk bZ hr5 hk5 hm5 htk
      go_wp2_with fail
      go_region
      all_goals go_wp2_with fail
      all_goals exact bodyPost_ret (results_ctt (q := 6) (r := 7) (u := 8) (t := 44) rfl rfl (load_val _ (B + 1) zeroVal HQ.out.1)) rfl HQ.out.2
    | done v sp s =>
      go_upto_region 6 with (go_at_call 36; refine htk.mono ?_; rintro _ w5 ⟨M', nv', rfl, hr5, hk5, hm5, hl5, hb5, _⟩)
      have hMs : M' = s.nodes := List.ext_getElem? (fun j => hb5 j (Nat.zero_le _))
      subst hMs
      obtain ⟨na, nc, hnv⟩ := hr5.slice
      subst hnv
      obtain ⟨q1, q2, q3⟩ := HD.out.2 v sp s rfl
      have x1 : w5.cell? ⟨R, 1, none⟩ = some (.int .i64 s.fuel) := (blk_cell hr5.blk 1).trans rfl
      have x2 : w5.cell? ⟨R, 2, none⟩ = some (.int .i64 0) := (blk_cell hr5.blk 2).trans rfl
      have x3 : w5.cell? ⟨R, 3, none⟩ = some (.slice na s.nodes.length nc) := (blk_cell hr5.blk 3).trans rfl
      have x4 : w5.cell? ⟨R, 4, none⟩ = some (.int .i64 s.depth) := (blk_cell hr5.blk 4).trans rfl
      have nf : ¬ RFoot R (.slice none 0 0) (B + 1) := fun e => by rcases e with e | e; have := HV.out.2.1; omega; simp [Value.ownBlock] at e
      have bZ := blk_kept HV.out.2.2.2 hk5 nf
      unfold valC zeroVal at bZ
      have y0 : w5.cell? ⟨B + 1, 0, none⟩ = some (.int .i64 0) := (blk_cell bZ 0).trans rfl
      have y1 : w5.cell? ⟨B + 1, 1, none⟩ = some (.int .i64 0) := (blk_cell bZ 1).trans rfl
      have y2 : w5.cell? ⟨B + 1, 2, none⟩ = some (.int .i64 0) := (blk_cell bZ 2).trans rfl
      have y3 : w5.cell? ⟨B + 1, 3, none⟩ = some (.int .i64 0) := (blk_cell bZ 3).trans rfl
      have y4 : w5.cell? ⟨B + 1, 4, none⟩ = some (.int .i64 0) := (blk_cell bZ 4).trans rfl
      have z0 := blk_free bZ 0
      have z1 := blk_free bZ 1
      have z2 := blk_free bZ 2
      have z3 := blk_free bZ 3
      have z4 := blk_free bZ 4
      have nRB : R ≠ B + 1 := by have := HV.out.2.1; omega
      obtain ⟨D, hD⟩ : ∃ D : Int, D = (F : Int) - s.fuel := ⟨_, rfl⟩
      have hwr : IntKind.i64.wrap ((F : Int) - (s.fuel : Int)) = D := by rw [wrap_small (by omega), hD]
      obtain ⟨w7, hw7⟩ : ∃ w7, w7 = (((((w5.setCell ⟨B + 1, 0, none⟩ (.int .i64 v)).setCell ⟨B + 1, 1, none⟩ (.int .i64 D)).setCell ⟨B + 1, 2, none⟩ (.int .i64 s.nodes.length)).setCell ⟨B + 1, 3, none⟩ (.int .i64 s.depth)).setCell ⟨B + 1, 4, none⟩ (.int .i64 sp)) := ⟨_, rfl⟩
      have bV : w7.heap[B + 1]? = some (.cells (valC ⟨v, D, s.nodes.length, s.depth, sp⟩) 44 (0, 0)) := by
        rw [hw7, blk_set (blk_set (blk_set (blk_set (blk_set bZ _) _) _) _) _]
        rfl
      have k7 : Keeps (· = B + 1) w5 w7 := by
        rw [hw7]
        exact (((((Keeps.refl (· = B + 1) w5).andSet (x := ⟨B + 1, 0, none⟩) (.inl rfl) _).andSet (x := ⟨B + 1, 1, none⟩) (.inl rfl) _).andSet (x := ⟨B + 1, 2, none⟩) (.inl rfl) _).andSet (x := ⟨B + 1, 3, none⟩) (.inl rfl) _).andSet (x := ⟨B + 1, 4, none⟩) (.inl rfl) _
      have kk : Keeps None w w7 := (HV.out.1.trans hk5 (fun i e hi => by rcases e with e | e; have := HV.out.2.2.1; omega; simp [Value.ownBlock] at e)).trans k7 (fun i e hi => by have := HX.out.1; omega)
      have hrow := (k7.trans (Keeps.drew (· = B + 1) w7) (fun _ e _ => e)).own hr5.row (fun g e he => by
        subst he
        have := own_type hr5.row e bZ
        exact absurd this (by decide))
      have HQ : Hid (w7.drew.heap[B + 1]? = some (.cells (valC ⟨v, D, s.nodes.length, s.depth, sp⟩) 44 (0, 0)) ∧ BothPost l zs (F : Int) w (.returned (.tuple #[.agg (valC ⟨v, D, s.nodes.length, s.depth, sp⟩), .slice na s.nodes.length nc, .int .i64 0])) w7.drew) := by
        refine ⟨bV, ?_⟩
        unfold BothPost
        rw [HE.out.1, HE.out.2]
        refine ⟨_, by rw [hD, q3]; rfl, kk.andDrew, fun g e => ?_, fun h => absurd rfl h, fun _ => hrow⟩
        rcases hm5 with h | ⟨g2, e2, h2⟩
        · rw [h] at e; simp [Value.ownBlock] at e
        · rw [e2] at e
          obtain rfl := Option.some.inj e
          have := HV.out.1.size
          omega
      rw [hw7] at HQ
      generalize s.nodes.length = SL at *
      clear hw7 bV k7 kk bZ hr5 hk5 hm5 htk hrow hb5 hl5 q1 q2 q3 hD
      go_wp2_with fail
      go_region
      all_goals go_wp2_with fail
      all_goals exact bodyPost_ret (results_ctt (q := 6) (r := 7) (u := 8) (t := 44) rfl rfl (load_val _ (B + 1) _ HQ.out.1)) rfl HQ.out.2
  · have hev : evalV l zs fuel = (zeroVal, refusedV l zs fuel) := by
      unfold evalV
      rw [if_pos hr0]
    have hre : (refusedV l zs fuel != 0) = true := by simpa using hr0
    have HQ : Hid (∀ w', Keeps None w w' → BothPost l zs fuel w (.returned (.tuple #[.agg (valC zeroVal), .slice none 0 0, .int .i64 (refusedV l zs fuel)])) w') := fun w' hk => by
      unfold BothPost
      rw [hev]
      exact ⟨_, rfl, hk, fun g e => by simp [Value.ownBlock] at e, fun _ => rfl, fun h => absurd h hr0⟩
    generalize refusedV l zs fuel = er at *
    have HB2 : Hid _ := b2
    clear hr0 hev hS hok hZ hk2 b1 b2
    go_enter Tryz.func20, Tryz.ntmps20
    go_upto_region 1 with fail
    change Code.wp _ _ _ _ ((w.alloc (.cells #[.slice a n c] 24)).alloc (.cells (valC zeroVal) 44))
    rw [← hW, ← hB]
    clear hW hB
    go_upto_region 2 with (go_at_call 35; refine hrf.mono ?_; rintro _ w3 ⟨rfl, hk3⟩)
    have bZ := blk_kept HB2.out hk3 (fun f => f)
    unfold valC zeroVal at bZ
    have y0 : w3.cell? ⟨B + 1, 0, none⟩ = some (.int .i64 0) := (blk_cell bZ 0).trans rfl
    have y1 : w3.cell? ⟨B + 1, 1, none⟩ = some (.int .i64 0) := (blk_cell bZ 1).trans rfl
    have y2 : w3.cell? ⟨B + 1, 2, none⟩ = some (.int .i64 0) := (blk_cell bZ 2).trans rfl
    have y3 : w3.cell? ⟨B + 1, 3, none⟩ = some (.int .i64 0) := (blk_cell bZ 3).trans rfl
    have y4 : w3.cell? ⟨B + 1, 4, none⟩ = some (.int .i64 0) := (blk_cell bZ 4).trans rfl
    have z0 := blk_free bZ 0
    have z1 := blk_free bZ 1
    have z2 := blk_free bZ 2
    have z3 := blk_free bZ 3
    have z4 := blk_free bZ 4
    obtain ⟨w7, hw7⟩ : ∃ w7, w7 = (((((w3.setCell ⟨B + 1, 0, none⟩ (.int .i64 0)).setCell ⟨B + 1, 1, none⟩ (.int .i64 0)).setCell ⟨B + 1, 2, none⟩ (.int .i64 0)).setCell ⟨B + 1, 3, none⟩ (.int .i64 0)).setCell ⟨B + 1, 4, none⟩ (.int .i64 0)) := ⟨_, rfl⟩
    have bV : w7.heap[B + 1]? = some (.cells (valC zeroVal) 44 (0, 0)) := by
      rw [hw7, blk_set (blk_set (blk_set (blk_set (blk_set bZ _) _) _) _) _]
      rfl
    have k7 : Keeps (· = B + 1) w3 w7 := by
      rw [hw7]
      exact (((((Keeps.refl (· = B + 1) w3).andSet (x := ⟨B + 1, 0, none⟩) (.inl rfl) _).andSet (x := ⟨B + 1, 1, none⟩) (.inl rfl) _).andSet (x := ⟨B + 1, 2, none⟩) (.inl rfl) _).andSet (x := ⟨B + 1, 3, none⟩) (.inl rfl) _).andSet (x := ⟨B + 1, 4, none⟩) (.inl rfl) _
    have HQ2 : Hid (w7.heap[B + 1]? = some (.cells (valC zeroVal) 44 (0, 0)) ∧ Keeps None w w7) := ⟨bV, (HX.out.2.1.trans hk3 (fun _ f _ => f)).trans k7 (fun i e hi => by have := HX.out.1; omega)⟩
    rw [hw7] at HQ2
    clear hw7 bV k7 bZ hk3 hrf d0
    go_wp2_with fail
    exact bodyPost_ret (results_ctt (q := 6) (r := 7) (u := 8) (t := 44) rfl rfl (load_val _ (B + 1) zeroVal HQ2.out.1)) rfl (HQ.out _ HQ2.out.2)
end Go.Proofs.YtbdpdojeaahpjaaGreatDoor
