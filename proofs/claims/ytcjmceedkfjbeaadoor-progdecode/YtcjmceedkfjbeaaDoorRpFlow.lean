import Derived.Test.YtcjmceedkfjbeaaDoorRpStates
/-! Sound, Flow: the document's. -/
namespace Go.Proofs.YtcjmceedkfjbeaaDoor
set_option linter.unusedVariables false
set_option maxRecDepth 20000
open Go.RowKit Go.HeapKit

theorem fault_of {al : Bool} {fs : List Fn} {f : Fn} (h : ∀ (j : Nat) i, f.code[j]? = some i → fitsV al fs f i = true) (hr : runsOut f = false) : codeFault al fs f = none := by
  unfold codeFault
  rw [firstAt_none]
  · simp [hr]
  · intro j y hy
    simp [h j y hy]
def soundV (f : Fn) : Bool := shapeV f && (codeFault true [] f).isNone
theorem sound_yes {f : Fn} (h1 : shapeV f = true) (h2 : codeFault true [] f = none) : soundV f = true := by simp [soundV, h1, h2]
theorem sound_of {f : Fn} (h : soundV f = true) : shapeV f = true ∧ codeFault true [] f = none := by
  simpa [soundV] using h
theorem shape_parts {f : Fn} (h : shapeV f = true) : (0 ≤ f.params ∧ f.params ≤ 8) ∧ (1 ≤ f.regs ∧ f.params ≤ f.regs ∧ f.regs ≤ 16) ∧ (0 ≤ f.slots ∧ f.slots ≤ 8) ∧ 1 ≤ f.code.length ∧ f.code.length ≤ 512 := by
  simp only [shapeV, Bool.and_eq_true, decide_eq_true_eq] at h
  omega
set_option maxHeartbeats 2000000 in
theorem rsound_any (f : Fn) (ca : Option Addr) (cc : Nat) (w : World) (hC : SeenI w ca f.code.length f.code) :
    Calls Tryd.prog 55 #[fnV f ca cc] w fun e w' => e = .returned (.bool (soundV f)) ∧ Keeps None w w' := by
  obtain ⟨V, hV⟩ : ∃ V, V = soundV f := ⟨_, rfl⟩
  rw [← hV]
  have HV : Hid _ := hV
  clear hV
  have hsh := fun wx => rshaped_any f ca cc wx
  have hal := fun i wx => ralone_any f ca cc i wx
  have hen := fun wx hc h1 h2 hk => rends_any f ca cc wx hc h1 h2 hk
  unfold fnV insV at *
  obtain ⟨n, hn⟩ : ∃ n, n = f.code.length := ⟨_, rfl⟩
  rw [← hn] at hC hsh hal hen ⊢
  have HC : Hid (SeenI w ca n f.code ∧ n = f.code.length) := ⟨hC, hn⟩
  have HAL : Hid _ := hal
  have HEN : Hid _ := hen
  have b1 := heap_alloc_new w (.cells #[.int .i64 f.params, .int .i64 f.regs, .int .i64 f.slots, .slice ca n cc] 40)
  have hk1 := Keeps.alloc None w (.cells #[.int .i64 f.params, .int .i64 f.regs, .int .i64 f.slots, .slice ca n cc] 40)
  obtain ⟨B, hB⟩ : ∃ B, B = w.heap.size := ⟨_, rfl⟩
  rw [← hB] at b1
  obtain ⟨W, hW⟩ : ∃ W, W = w.alloc (.cells #[.int .i64 f.params, .int .i64 f.regs, .int .i64 f.slots, .slice ca n cc] 40) := ⟨_, rfl⟩
  rw [← hW] at b1 hk1
  have HB : Hid (W.heap[B]? = some (.cells #[.int .i64 f.params, .int .i64 f.regs, .int .i64 f.slots, .slice ca n cc] 40 (0, 0)) ∧ Keeps None w W) := ⟨b1, hk1⟩
  clear hC hn hal hen b1 hk1
  cases hs : shapeV f with
  | false =>
    have hsh := hsh W
    rw [hs] at hsh
    have HF : Hid (V = false) := by show V = false; rw [HV.out]; simp [soundV, hs]
    clear hs
    go_enter Tryd.func55, Tryd.ntmps55
    go_upto_region 1 with fail
    rw [← hW, ← hB]
    have d0 : W.cell? ⟨B, 0, none⟩ = some (.int .i64 f.params) := (cell_of_heap HB.out.1 0).trans rfl
    have d1 : W.cell? ⟨B, 1, none⟩ = some (.int .i64 f.regs) := (cell_of_heap HB.out.1 1).trans rfl
    have d2 : W.cell? ⟨B, 2, none⟩ = some (.int .i64 f.slots) := (cell_of_heap HB.out.1 2).trans rfl
    have d3 : W.cell? ⟨B, 3, none⟩ = some (.slice ca n cc) := (cell_of_heap HB.out.1 3).trans rfl
    clear hW hB
    go_wp2_with fail
    refine hsh.mono ?_
    rintro e w2 ⟨rfl, hk2⟩
    go_wp2_with fail
    go_ret
    exact ⟨by rw [HF.out]; rfl, HB.out.2.trans hk2 (fun _ f _ => f)⟩
  | true =>
    have hsh := hsh W
    rw [hs] at hsh
    obtain ⟨_, hr, _, hl1, hl2⟩ := shape_parts hs
    have HSP : Hid (shapeV f = true ∧ 1 ≤ n ∧ n ≤ 512) := by
      have := HC.out.2
      exact ⟨hs, by omega, by omega⟩
    clear hs hl1 hl2 hr
    go_enter Tryd.func55, Tryd.ntmps55
    go_upto_region 1 with fail
    rw [← hW, ← hB]
    have d0 : W.cell? ⟨B, 0, none⟩ = some (.int .i64 f.params) := (cell_of_heap HB.out.1 0).trans rfl
    have d1 : W.cell? ⟨B, 1, none⟩ = some (.int .i64 f.regs) := (cell_of_heap HB.out.1 1).trans rfl
    have d2 : W.cell? ⟨B, 2, none⟩ = some (.int .i64 f.slots) := (cell_of_heap HB.out.1 2).trans rfl
    have d3 : W.cell? ⟨B, 3, none⟩ = some (.slice ca n cc) := (cell_of_heap HB.out.1 3).trans rfl
    clear hW hB
    go_wp2_with fail
    refine hsh.mono ?_
    rintro e w2 ⟨rfl, hk2⟩
    have H2 : Hid (Keeps None W w2) := hk2
    clear hk2 d0 d1 d2 d3
    go_wp2_with fail
    go_loopw [3] (fun s3 wr => ∃ k : Nat, k ≤ n ∧ s3 = .int .i64 k ∧ Keeps None W wr ∧ ∀ (j : Nat) i, j < k → f.code[j]? = some i → fitsV true [] f i = true) (fun i _ => n - (intOf i).toNat)
    case atStart => exact ⟨0, Nat.zero_le _, rfl, H2.out, fun j i hj => by omega⟩
    case round =>
      obtain ⟨k, hk, rfl, hkW, hall⟩ := hrel
      have hbx := blk_kept HB.out.1 hkW (fun f => f)
      have hkw := HB.out.2.trans hkW (fun _ f _ => f)
      have d0 : wr.cell? ⟨B, 0, none⟩ = some (.int .i64 f.params) := (cell_of_heap hbx 0).trans rfl
      have d1 : wr.cell? ⟨B, 1, none⟩ = some (.int .i64 f.regs) := (cell_of_heap hbx 1).trans rfl
      have d2 : wr.cell? ⟨B, 2, none⟩ = some (.int .i64 f.slots) := (cell_of_heap hbx 2).trans rfl
      have d3 : wr.cell? ⟨B, 3, none⟩ = some (.slice ca n cc) := (cell_of_heap hbx 3).trans rfl
      have HK : Hid (Keeps None W wr ∧ ∀ (j : Nat) i, j < k → f.code[j]? = some i → fitsV true [] f i = true) := ⟨hkW, hall⟩
      by_cases hkn : k < n
      · obtain ⟨bI, oI, x, rfl, hx, hat⟩ := (HC.out.1.more hkw).at hkn
        obtain ⟨y0, y1, y2, y3, y4⟩ := hat
        have i1 : (k : Int) < (n : Int) := by omega
        have i2 : (k : Int) ≤ 512 := by have := HSP.out.2.2; omega
        have hca := fun wx => HAL.out x wx
        have HX : Hid _ := hx
        cases hfit : fitsV true [] f x with
        | false =>
          rw [hfit] at hca
          have HCA : Hid _ := hca
          have HF : Hid (V = false) := by
            show V = false
            rw [HV.out]
            cases hq : soundV f
            · rfl
            · have := (code_parts (sound_of hq).2).1 k x hx
              rw [hfit] at this
              cases this
          clear hfit hca hall hkW hbx hkw hx
          go_upto_region 6 with fail
          go_cut [4] (fun s4 wx => s4 = .bool false ∧ Keeps None wr wx)
          case first =>
            go_region_held3 (fun w' => w'.cell? ⟨B, 0, none⟩ = some (.int .i64 f.params) ∧ w'.cell? ⟨B, 1, none⟩ = some (.int .i64 f.regs) ∧ w'.cell? ⟨B, 2, none⟩ = some (.int .i64 f.slots) ∧ w'.cell? ⟨B, 3, none⟩ = some (.slice (some ⟨bI, oI, none⟩) n cc) ∧ w'.cell? ⟨bI, oI + k * 5, none⟩ = some (.int .i64 x.kind) ∧ w'.cell? ⟨bI, oI + k * 5 + 1, none⟩ = some (.int .i64 x.a) ∧ w'.cell? ⟨bI, oI + k * 5 + 2, none⟩ = some (.int .i64 x.b) ∧ w'.cell? ⟨bI, oI + k * 5 + 3, none⟩ = some (.int .i64 x.c) ∧ w'.cell? ⟨bI, oI + k * 5 + 4, none⟩ = some (.int .i64 x.k)) (first | go_keep | with_reducible exact hS5) ((go_at_call 44; refine (HCA.out _).mono ?_; rintro _ w4 ⟨rfl, hk4⟩; have hkP : Keeps None wr w4 := (Keeps.drew None wr).trans hk4 (fun _ f _ => f); have hS5 := And.intro (hkP.cell d0 (fun f => f)) (And.intro (hkP.cell d1 (fun f => f)) (And.intro (hkP.cell d2 (fun f => f)) (And.intro (hkP.cell d3 (fun f => f)) (And.intro (hkP.cell y0 (fun f => f)) (And.intro (hkP.cell y1 (fun f => f)) (And.intro (hkP.cell y2 (fun f => f)) (And.intro (hkP.cell y3 (fun f => f)) (hkP.cell y4 (fun f => f)))))))))))
            all_goals (go_wp2_with fail; go_meet)
            all_goals exact ⟨rfl, hkP⟩
          case rest =>
            obtain ⟨rfl, hkY⟩ := hcut
            go_wp2_with fail
            go_ret
            exact ⟨by rw [HF.out]; rfl, (HB.out.2.trans HK.out.1 (fun _ f _ => f)).trans hkY (fun _ f _ => f)⟩
        | true =>
          rw [hfit] at hca
          have HCA : Hid _ := hca
          have HFT : Hid _ := hfit
          clear hfit hca hall hkW hbx hkw hx
          go_upto_region 6 with fail
          go_cut [4] (fun s4 wx => s4 = .bool true ∧ Keeps None wr wx)
          case first =>
            go_region_held3 (fun w' => w'.cell? ⟨B, 0, none⟩ = some (.int .i64 f.params) ∧ w'.cell? ⟨B, 1, none⟩ = some (.int .i64 f.regs) ∧ w'.cell? ⟨B, 2, none⟩ = some (.int .i64 f.slots) ∧ w'.cell? ⟨B, 3, none⟩ = some (.slice (some ⟨bI, oI, none⟩) n cc) ∧ w'.cell? ⟨bI, oI + k * 5, none⟩ = some (.int .i64 x.kind) ∧ w'.cell? ⟨bI, oI + k * 5 + 1, none⟩ = some (.int .i64 x.a) ∧ w'.cell? ⟨bI, oI + k * 5 + 2, none⟩ = some (.int .i64 x.b) ∧ w'.cell? ⟨bI, oI + k * 5 + 3, none⟩ = some (.int .i64 x.c) ∧ w'.cell? ⟨bI, oI + k * 5 + 4, none⟩ = some (.int .i64 x.k)) (first | go_keep | with_reducible exact hS5) ((go_at_call 44; refine (HCA.out _).mono ?_; rintro _ w4 ⟨rfl, hk4⟩; have hkP : Keeps None wr w4 := (Keeps.drew None wr).trans hk4 (fun _ f _ => f); have hS5 := And.intro (hkP.cell d0 (fun f => f)) (And.intro (hkP.cell d1 (fun f => f)) (And.intro (hkP.cell d2 (fun f => f)) (And.intro (hkP.cell d3 (fun f => f)) (And.intro (hkP.cell y0 (fun f => f)) (And.intro (hkP.cell y1 (fun f => f)) (And.intro (hkP.cell y2 (fun f => f)) (And.intro (hkP.cell y3 (fun f => f)) (hkP.cell y4 (fun f => f)))))))))))
            all_goals (go_wp2_with fail; go_meet)
            all_goals exact ⟨rfl, hkP⟩
          case rest =>
            obtain ⟨rfl, hkY⟩ := hcut
            have HY : Hid _ := hkY
            clear hkY
            go_wp2_with fail
            refine ⟨⟨k + 1, by omega, by simp, HK.out.1.trans HY.out (fun _ f _ => f), fun j i hj hi => ?_⟩, by simp [intOf]; omega⟩
            by_cases e : j = k
            · subst e
              rw [HX.out] at hi
              obtain rfl := Option.some.inj hi
              exact HFT.out
            · exact HK.out.2 j i (by omega) hi
      · have i1 : ¬ ((k : Int) < (n : Int)) := by omega
        have hfa : ∀ (j : Nat) i, f.code[j]? = some i → fitsV true [] f i = true := fun j i hi => hall j i (by have := (List.getElem?_eq_some_iff.1 hi).1; have := HC.out.2; omega) hi
        have hce := HEN.out wr (HC.out.1.more hkw) HSP.out.2.1 HSP.out.2.2 (fun j i hi => fits_kind (hfa j i hi))
        have HF : Hid (V = !runsOut f) := by
          show V = !runsOut f
          rw [HV.out]
          cases hr : runsOut f
          · exact sound_yes HSP.out.1 (fault_of hfa hr)
          · cases hq : soundV f
            · rfl
            · have := (code_parts (sound_of hq).2).2
              rw [hr] at this
              cases this
        clear hfa hall hkW hbx hkw
        go_wp2_with fail
        refine hce.mono ?_
        rintro e w5 ⟨rfl, hk5⟩
        go_wp2_with fail
        go_ret
        exact ⟨by rw [HF.out]; rfl, (HB.out.2.trans HK.out.1 (fun _ f _ => f)).trans hk5 (fun _ f _ => f)⟩
end Go.Proofs.YtcjmceedkfjbeaaDoor
