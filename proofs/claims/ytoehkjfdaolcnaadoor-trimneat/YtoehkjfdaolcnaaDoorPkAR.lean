import Derived.Test.YtoehkjfdaolcnaaDoorPkAQ
import Derived.Test.YtoehkjfdaolcnaaDoorPkAI
/-! Sound, Flow: the document's. -/
namespace Go.Proofs.YtoehkjfdaolcnaaDoor
set_option linter.unusedVariables false
set_option maxRecDepth 20000
open Go.RowKit Go.HeapKit

theorem fault_of {al : Bool} {fs : List Fn} {f : Fn} (h : ∀ (j : Nat) i, f.code[j]? = some i → fitsV al fs f i = true) (hr : runsOut f = false) : codeFault al fs f = none := by
  unfold codeFault
  rw [firstAt_none]
  · simp [hr]
  · intro j y hy
    simp [h j y hy]
def soundV (f : Fn) : Bool := shapeV f && (codeFault true [] f).isNone
theorem sound_yes {f : Fn} (h1 : shapeV f = true) (h2 : codeFault true [] f = none) : soundV f = true := by simp [soundV, h1, h2]
theorem sound_of {f : Fn} (h : soundV f = true) : shapeV f = true ∧ codeFault true [] f = none := by
  simpa [soundV] using h
theorem shape_parts {f : Fn} (h : shapeV f = true) : (0 ≤ f.params ∧ f.params ≤ 8) ∧ (1 ≤ f.regs ∧ f.params ≤ f.regs ∧ f.regs ≤ 16) ∧ (0 ≤ f.slots ∧ f.slots ≤ 8) ∧ 1 ≤ f.code.length ∧ f.code.length ≤ 512 := by
  simp only [shapeV, Bool.and_eq_true, decide_eq_true_eq] at h
  omega
set_option maxHeartbeats 2000000 in
theorem rsound_any (f : Fn) (ca : Option Addr) (cc : Nat) (w : World) (hC : SeenI w ca f.code.length f.code) :
    Calls Tryd.prog 39 #[fnV f ca cc] w fun e w' => e = .returned (.bool (soundV f)) ∧ Keeps None w w' := by
  obtain ⟨V, hV⟩ : ∃ V, V = soundV f := ⟨_, rfl⟩
  rw [← hV]
  have HV : Hid _ := hV
  clear hV
  have hsh := fun wx => rshaped_any f ca cc wx
  have hal := fun i wx => ralone_any f ca cc i wx
  have hen := fun wx hc h1 h2 hk => rends_any f ca cc wx hc h1 h2 hk
  unfold fnV insV at *
  obtain ⟨n, hn⟩ : ∃ n, n = f.code.length := ⟨_, rfl⟩
  rw [← hn] at hC hsh hal hen ⊢
  have HC : Hid (SeenI w ca n f.code ∧ n = f.code.length) := ⟨hC, hn⟩
  have HAL : Hid _ := hal
  have HEN : Hid _ := hen
  have b1 := heap_alloc_new w (.cells #[.int .i64 f.params, .int .i64 f.regs, .int .i64 f.slots, .slice ca n cc] 37)
  have hk1 := Keeps.alloc None w (.cells #[.int .i64 f.params, .int .i64 f.regs, .int .i64 f.slots, .slice ca n cc] 37)
  obtain ⟨B, hB⟩ : ∃ B, B = w.heap.size := ⟨_, rfl⟩
  rw [← hB] at b1
  obtain ⟨W, hW⟩ : ∃ W, W = w.alloc (.cells #[.int .i64 f.params, .int .i64 f.regs, .int .i64 f.slots, .slice ca n cc] 37) := ⟨_, rfl⟩
  rw [← hW] at b1 hk1
  have HB : Hid (W.heap[B]? = some (.cells #[.int .i64 f.params, .int .i64 f.regs, .int .i64 f.slots, .slice ca n cc] 37 (0, 0)) ∧ Keeps None w W) := ⟨b1, hk1⟩
  clear hC hn hal hen b1 hk1
  cases hs : shapeV f with
  | false =>
    have hsh := hsh W
    rw [hs] at hsh
    have HF : Hid (V = false) := by show V = false; rw [HV.out]; simp [soundV, hs]
    clear hs
    go_enter Tryd.func39, Tryd.ntmps39
    go_upto_region 1 with fail
    rw [← hW, ← hB]
    have d0 : W.cell? ⟨B, 0, none⟩ = some (.int .i64 f.params) := (cell_of_heap HB.out.1 0).trans rfl
    have d1 : W.cell? ⟨B, 1, none⟩ = some (.int .i64 f.regs) := (cell_of_heap HB.out.1 1).trans rfl
    have d2 : W.cell? ⟨B, 2, none⟩ = some (.int .i64 f.slots) := (cell_of_heap HB.out.1 2).trans rfl
    have d3 : W.cell? ⟨B, 3, none⟩ = some (.slice ca n cc) := (cell_of_heap HB.out.1 3).trans rfl
    clear hW hB
    go_wp2_with fail
    refine hsh.mono ?_
    rintro e w2 ⟨rfl, hk2⟩
    go_wp2_with fail
    go_ret
    exact ⟨by rw [HF.out]; rfl, HB.out.2.trans hk2 (fun _ f _ => f)⟩
  | true =>
    have hsh := hsh W
    rw [hs] at hsh
    obtain ⟨_, hr, _, hl1, hl2⟩ := shape_parts hs
    have HSP : Hid (shapeV f = true ∧ 1 ≤ n ∧ n ≤ 512) := by
      have := HC.out.2
      exact ⟨hs, by omega, by omega⟩
    clear hs hl1 hl2 hr
    go_enter Tryd.func39, Tryd.ntmps39
    go_upto_region 1 with fail
    rw [← hW, ← hB]
    have d0 : W.cell? ⟨B, 0, none⟩ = some (.int .i64 f.params) := (cell_of_heap HB.out.1 0).trans rfl
    have d1 : W.cell? ⟨B, 1, none⟩ = some (.int .i64 f.regs) := (cell_of_heap HB.out.1 1).trans rfl
    have d2 : W.cell? ⟨B, 2, none⟩ = some (.int .i64 f.slots) := (cell_of_heap HB.out.1 2).trans rfl
    have d3 : W.cell? ⟨B, 3, none⟩ = some (.slice ca n cc) := (cell_of_heap HB.out.1 3).trans rfl
    clear hW hB
    go_wp2_with fail
    refine hsh.mono ?_
    rintro e w2 ⟨rfl, hk2⟩
    have H2 : Hid (Keeps None W w2) := hk2
    clear hk2 d0 d1 d2 d3
    go_wp2_with fail
    go_loopw [3] (fun s3 wr => ∃ k : Nat, k ≤ n ∧ s3 = .int .i64 k ∧ Keeps None W wr ∧ ∀ (j : Nat) i, j < k → f.code[j]? = some i → fitsV true [] f i = true) (fun i _ => n - (intOf i).toNat)
    case atStart => exact ⟨0, Nat.zero_le _, rfl, H2.out, fun j i hj => by omega⟩
    case round =>
      obtain ⟨k, hk, rfl, hkW, hall⟩ := hrel
      have hbx := blk_kept HB.out.1 hkW (fun f => f)
      have hkw := HB.out.2.trans hkW (fun _ f _ => f)
      have d0 : wr.cell? ⟨B, 0, none⟩ = some (.int .i64 f.params) := (cell_of_heap hbx 0).trans rfl
      have d1 : wr.cell? ⟨B, 1, none⟩ = some (.int .i64 f.regs) := (cell_of_heap hbx 1).trans rfl
      have d2 : wr.cell? ⟨B, 2, none⟩ = some (.int .i64 f.slots) := (cell_of_heap hbx 2).trans rfl
      have d3 : wr.cell? ⟨B, 3, none⟩ = some (.slice ca n cc) := (cell_of_heap hbx 3).trans rfl
      have HK : Hid (Keeps None W wr ∧ ∀ (j : Nat) i, j < k → f.code[j]? = some i → fitsV true [] f i = true) := ⟨hkW, hall⟩
      by_cases hkn : k < n
      · obtain ⟨bI, oI, x, rfl, hx, hat⟩ := (HC.out.1.more hkw).at hkn
        obtain ⟨y0, y1, y2, y3, y4⟩ := hat
        have i1 : (k : Int) < (n : Int) := by omega
        have i2 : (k : Int) ≤ 512 := by have := HSP.out.2.2; omega
        have hca := fun wx => HAL.out x wx
        have HX : Hid _ := hx
        cases hfit : fitsV true [] f x with
        | false =>
          rw [hfit] at hca
          have HCA : Hid _ := hca
          have HF : Hid (V = false) := by
            show V = false
            rw [HV.out]
            cases hq : soundV f
            · rfl
            · have := (code_parts (sound_of hq).2).1 k x hx
              rw [hfit] at this
              cases this
          clear hfit hca hall hkW hbx hkw hx
          go_upto_region 6 with fail
          go_cut [4] (fun s4 wx => s4 = .bool false ∧ Keeps None wr wx)
          case first =>
            go_region_held3 (fun w' => w'.cell? ⟨B, 0, none⟩ = some (.int .i64 f.params) ∧ w'.cell? ⟨B, 1, none⟩ = some (.int .i64 f.regs) ∧ w'.cell? ⟨B, 2, none⟩ = some (.int .i64 f.slots) ∧ w'.cell? ⟨B, 3, none⟩ = some (.slice (some ⟨bI, oI, none⟩) n cc) ∧ w'.cell? ⟨bI, oI + k * 5, none⟩ = some (.int .i64 x.kind) ∧ w'.cell? ⟨bI, oI + k * 5 + 1, none⟩ = some (.int .i64 x.a) ∧ w'.cell? ⟨bI, oI + k * 5 + 2, none⟩ = some (.int .i64 x.b) ∧ w'.cell? ⟨bI, oI + k * 5 + 3, none⟩ = some (.int .i64 x.c) ∧ w'.cell? ⟨bI, oI + k * 5 + 4, none⟩ = some (.int .i64 x.k)) (first | go_keep | with_reducible exact hS5) ((go_at_call 26; refine (HCA.out _).mono ?_; rintro _ w4 ⟨rfl, hk4⟩; have hkP : Keeps None wr w4 := (Keeps.drew None wr).trans hk4 (fun _ f _ => f); have hS5 := And.intro (hkP.cell d0 (fun f => f)) (And.intro (hkP.cell d1 (fun f => f)) (And.intro (hkP.cell d2 (fun f => f)) (And.intro (hkP.cell d3 (fun f => f)) (And.intro (hkP.cell y0 (fun f => f)) (And.intro (hkP.cell y1 (fun f => f)) (And.intro (hkP.cell y2 (fun f => f)) (And.intro (hkP.cell y3 (fun f => f)) (hkP.cell y4 (fun f => f)))))))))))
            all_goals (go_wp2_with fail; go_meet)
            all_goals exact ⟨rfl, hkP⟩
          case rest =>
            obtain ⟨rfl, hkY⟩ := hcut
            go_wp2_with fail
            go_ret
            exact ⟨by rw [HF.out]; rfl, (HB.out.2.trans HK.out.1 (fun _ f _ => f)).trans hkY (fun _ f _ => f)⟩
        | true =>
          rw [hfit] at hca
          have HCA : Hid _ := hca
          have HFT : Hid _ := hfit
          clear hfit hca hall hkW hbx hkw hx
          go_upto_region 6 with fail
          go_cut [4] (fun s4 wx => s4 = .bool true ∧ Keeps None wr wx)
          case first =>
            go_region_held3 (fun w' => w'.cell? ⟨B, 0, none⟩ = some (.int .i64 f.params) ∧ w'.cell? ⟨B, 1, none⟩ = some (.int .i64 f.regs) ∧ w'.cell? ⟨B, 2, none⟩ = some (.int .i64 f.slots) ∧ w'.cell? ⟨B, 3, none⟩ = some (.slice (some ⟨bI, oI, none⟩) n cc) ∧ w'.cell? ⟨bI, oI + k * 5, none⟩ = some (.int .i64 x.kind) ∧ w'.cell? ⟨bI, oI + k * 5 + 1, none⟩ = some (.int .i64 x.a) ∧ w'.cell? ⟨bI, oI + k * 5 + 2, none⟩ = some (.int .i64 x.b) ∧ w'.cell? ⟨bI, oI + k * 5 + 3, none⟩ = some (.int .i64 x.c) ∧ w'.cell? ⟨bI, oI + k * 5 + 4, none⟩ = some (.int .i64 x.k)) (first | go_keep | with_reducible exact hS5) ((go_at_call 26; refine (HCA.out _).mono ?_; rintro _ w4 ⟨rfl, hk4⟩; have hkP : Keeps None wr w4 := (Keeps.drew None wr).trans hk4 (fun _ f _ => f); have hS5 := And.intro (hkP.cell d0 (fun f => f)) (And.intro (hkP.cell d1 (fun f => f)) (And.intro (hkP.cell d2 (fun f => f)) (And.intro (hkP.cell d3 (fun f => f)) (And.intro (hkP.cell y0 (fun f => f)) (And.intro (hkP.cell y1 (fun f => f)) (And.intro (hkP.cell y2 (fun f => f)) (And.intro (hkP.cell y3 (fun f => f)) (hkP.cell y4 (fun f => f)))))))))))
            all_goals (go_wp2_with fail; go_meet)
            all_goals exact ⟨rfl, hkP⟩
          case rest =>
            obtain ⟨rfl, hkY⟩ := hcut
            have HY : Hid _ := hkY
            clear hkY
            go_wp2_with fail
            refine ⟨⟨k + 1, by omega, by simp, HK.out.1.trans HY.out (fun _ f _ => f), fun j i hj hi => ?_⟩, by simp [intOf]; omega⟩
            by_cases e : j = k
            · subst e
              rw [HX.out] at hi
              obtain rfl := Option.some.inj hi
              exact HFT.out
            · exact HK.out.2 j i (by omega) hi
      · have i1 : ¬ ((k : Int) < (n : Int)) := by omega
        have hfa : ∀ (j : Nat) i, f.code[j]? = some i → fitsV true [] f i = true := fun j i hi => hall j i (by have := (List.getElem?_eq_some_iff.1 hi).1; have := HC.out.2; omega) hi
        have hce := HEN.out wr (HC.out.1.more hkw) HSP.out.2.1 HSP.out.2.2 (fun j i hi => fits_kind (hfa j i hi))
        have HF : Hid (V = !runsOut f) := by
          show V = !runsOut f
          rw [HV.out]
          cases hr : runsOut f
          · exact sound_yes HSP.out.1 (fault_of hfa hr)
          · cases hq : soundV f
            · rfl
            · have := (code_parts (sound_of hq).2).2
              rw [hr] at this
              cases this
        clear hfa hall hkW hbx hkw
        go_wp2_with fail
        refine hce.mono ?_
        rintro e w5 ⟨rfl, hk5⟩
        go_wp2_with fail
        go_ret
        exact ⟨by rw [HF.out]; rfl, (HB.out.2.trans HK.out.1 (fun _ f _ => f)).trans hk5 (fun _ f _ => f)⟩
end Go.Proofs.YtoehkjfdaolcnaaDoor
/-! Flow: the document's. -/
namespace Go.Proofs.YtoehkjfdaolcnaaDoor
set_option linter.unusedVariables false
set_option maxRecDepth 20000
open Go.RowKit Go.HeapKit

theorem sums_at (fr : List Pt) (n k : Nat) (hk : k < n) : (sums fr n)[k]? = some (.int .i64 (sumAt fr k)) := range_at n k _ hk
/-- What Flow has when slot s is laid up to place a. -/
def flowS (f : Fn) (s a : Nat) : Nat → Nat → Int := fun k' s' => if s' < s then sumAt (searchV f s' (0, 0)) k' else if s' = s then (if k' < a then sumAt (searchV f s (0, 0)) k' else 0) else 0
theorem flowS_next (f : Fn) (s n : Nat) : ∀ k' s', k' < n → flowS f s n k' s' = flowS f (s + 1) 0 k' s' := by
  intro k' s' hk
  unfold flowS
  by_cases h1 : s' < s
  · rw [if_pos h1, if_pos (by omega)]
  · by_cases h2 : s' = s
    · subst h2
      rw [if_neg h1, if_pos rfl, if_pos hk, if_pos (by omega)]
    · rw [if_neg h1, if_neg h2, if_neg (by omega)]
      split
      · rw [if_neg (by omega)]
      · rfl
theorem flowS_set (f : Fn) (s a : Nat) : ∀ k' s', (if k' = a ∧ s' = s then sumAt (searchV f s (0, 0)) a else flowS f s a k' s') = flowS f s (a + 1) k' s' := by
  intro k' s'
  unfold flowS
  by_cases h2 : s' = s
  · subst h2
    by_cases h3 : k' = a
    · subst h3
      simp
    · simp only [h3, false_and, if_false, Nat.lt_irrefl, if_true]
      by_cases h4 : k' < a
      · rw [if_pos h4, if_pos (by omega)]
      · rw [if_neg h4, if_neg (by omega)]
  · simp [h2]
theorem flowS_end (f : Fn) (m : Nat) : ∀ k' s', s' < m → flowS f m 0 k' s' = sumAt (searchV f s' (0, 0)) k' := by
  intro k' s' h
  unfold flowS
  rw [if_pos h]
theorem rflow_bad (f : Fn) (ca : Option Addr) (cc : Nat) (w : World) (hC : SeenI w ca f.code.length f.code) (hs : soundV f = false) :
    Calls Tryd.prog 22 #[fnV f ca cc] w fun e w' => e = .returned (.slice none 0 0) ∧ Keeps None w w' := by
  have hk1 := Keeps.alloc None w (.cells #[.int .i64 f.params, .int .i64 f.regs, .int .i64 f.slots, .slice ca f.code.length cc] 37)
  have hso := rsound_any f ca cc _ (hC.more hk1)
  rw [hs] at hso
  have HK : Hid _ := hk1
  clear hk1 hC hs
  unfold fnV at *
  go_enter Tryd.func22, Tryd.ntmps22
  go_wp2_with fail
  refine hso.mono ?_
  rintro e w2 ⟨rfl, hk2⟩
  go_wp2_with fail
  go_ret
  exact ⟨rfl, HK.out.trans hk2 (fun _ f _ => f)⟩
set_option maxHeartbeats 2000000 in
theorem rflow_ok (f : Fn) (ca : Option Addr) (cc : Nat) (w : World) (hC : SeenI w ca f.code.length f.code) (hs : soundV f = true) (n m : Nat) (hn : n = f.code.length) (hm : (m : Int) = f.slots) :
    Calls Tryd.prog 22 #[fnV f ca cc] w fun e w' => ∃ g, e = .returned (.slice (some ⟨g, 0, none⟩) n n) ∧ IsM w' g n m n (fun k s => sumAt (searchV f s (0, 0)) k) ∧ Keeps None w w' ∧ w.heap.size ≤ g := by
  obtain ⟨hsh, hcf⟩ := sound_of hs
  have hG := good_of hsh hcf
  obtain ⟨_, _, hsl, hl1, hl2⟩ := shape_parts hsh
  have n1 : 1 ≤ n := by omega
  have n2 : n ≤ 512 := by omega
  have hm8 : m ≤ 8 := by omega
  have hso := fun wx (hk : Keeps None w wx) => rsound_any f ca cc wx (hC.more hk)
  have hse := fun (s : Nat) wx (hk : Keeps None w wx) => rstates_any f ca cc (s : Int) wx (hC.more hk) hG
  rw [hs] at hso
  unfold fnV at *
  rw [← hn] at hso hse
  rw [← hn, ← hm] at *
  have HSE : Hid _ := hse
  clear hse hG hsh hcf hs hC hn hm hsl hl1 hl2
  have hk1 := Keeps.alloc None w (.cells #[.int .i64 f.params, .int .i64 f.regs, .int .i64 m, .slice ca n cc] 37)
  have b1 := heap_alloc_new w (.cells #[.int .i64 f.params, .int .i64 f.regs, .int .i64 m, .slice ca n cc] 37)
  have hso := hso _ hk1
  obtain ⟨B, hB⟩ : ∃ B, B = w.heap.size := ⟨_, rfl⟩
  rw [← hB] at b1
  obtain ⟨W, hW⟩ : ∃ W, W = w.alloc (.cells #[.int .i64 f.params, .int .i64 f.regs, .int .i64 m, .slice ca n cc] 37) := ⟨_, rfl⟩
  rw [← hW] at b1 hk1 hso
  have HB : Hid (W.heap[B]? = some (.cells #[.int .i64 f.params, .int .i64 f.regs, .int .i64 m, .slice ca n cc] 37 (0, 0)) ∧ Keeps None w W ∧ B = w.heap.size) := ⟨b1, hk1, hB⟩
  clear b1 hk1
  go_enter Tryd.func22, Tryd.ntmps22
  go_upto_region 1 with fail
  rw [← hW, ← hB]
  have d0 : W.cell? ⟨B, 0, none⟩ = some (.int .i64 f.params) := (cell_of_heap HB.out.1 0).trans rfl
  have d1 : W.cell? ⟨B, 1, none⟩ = some (.int .i64 f.regs) := (cell_of_heap HB.out.1 1).trans rfl
  have d2 : W.cell? ⟨B, 2, none⟩ = some (.int .i64 (m : Int)) := (cell_of_heap HB.out.1 2).trans rfl
  have d3 : W.cell? ⟨B, 3, none⟩ = some (.slice ca n cc) := (cell_of_heap HB.out.1 3).trans rfl
  clear hW hB
  go_wp2_with fail
  refine hso.mono ?_
  rintro e w2 ⟨rfl, hk2⟩
  have hbx := blk_kept HB.out.1 hk2 (fun f => f)
  have d3' : w2.cell? ⟨B, 3, none⟩ = some (.slice ca n cc) := (cell_of_heap hbx 3).trans rfl
  obtain ⟨w3, hmk, hM, hk3, hs3⟩ := rows_made w2 n n2 m
  obtain ⟨G, hG⟩ : ∃ G, G = w2.heap.size := ⟨_, rfl⟩
  rw [← hG] at hmk hM hs3
  have H3 : Hid (IsM w3 G n m 0 (fun _ _ => 0) ∧ Keeps None w w3 ∧ w3.heap.size = G + 1 ∧ w3.heap[B]? = some (.cells #[.int .i64 f.params, .int .i64 f.regs, .int .i64 m, .slice ca n cc] 37 (0, 0)) ∧ w.heap.size ≤ G ∧ B < G) := ⟨hM, (HB.out.2.1.trans hk2 (fun _ f _ => f)).trans hk3 (fun _ f _ => f), hs3, blk_kept hbx hk3 (fun f => f), by rw [hG]; exact Nat.le_trans HB.out.2.1.size hk2.size, by have := blk_lt hbx; omega⟩
  clear hM hk3 hs3 hbx hk2 hG d0 d1 d2 d3 hso
  go_wp2_with (at_make; refine wpList_make_run rfl (.tmp 15) (.tmp 15) 48 rfl rfl rfl hmk ?_)
  clear hmk d3'
  go_loopw [5] (fun s5 wr => ∃ k : Nat, k ≤ n ∧ s5 = .int .i64 k ∧ IsM wr G n m k (fun _ _ => 0) ∧ Keeps None w wr ∧ wr.heap.size = G + 1 + k ∧ wr.heap[B]? = some (.cells #[.int .i64 f.params, .int .i64 f.regs, .int .i64 m, .slice ca n cc] 37 (0, 0))) (fun i _ => n - (intOf i).toNat)
  case atStart => exact ⟨0, Nat.zero_le _, rfl, H3.out.1, H3.out.2.1, H3.out.2.2.1, H3.out.2.2.2.1⟩
  case round =>
    obtain ⟨k, hk, rfl, hM, hkp, hsz, hbx⟩ := hrel
    have d2 : wr.cell? ⟨B, 2, none⟩ = some (.int .i64 (m : Int)) := (cell_of_heap hbx 2).trans rfl
    by_cases hkn : k < n
    · have i1 : (k : Int) < (n : Int) := by omega
      have hmk := row_made wr m hm8
      have hal := Keeps.alloc None wr (.cells ((List.range m).map (fun _ => Value.int .i64 0)).toArray 3)
      have o1 := blk_kept hM.outer hal (fun f => f)
      have o2 := (blk_cell o1 k).trans (range_at n k _ hkn)
      have o3 := blk_free o1 k
      have hL := hM.lay hkn hsz
      have hkL : Keeps (· = G) wr ((wr.alloc (.cells ((List.range m).map (fun _ => Value.int .i64 0)).toArray 3)).setCell ⟨G, k, none⟩ (.slice (some ⟨wr.heap.size, 0, none⟩) m m)) := (hal.mono (fun _ f _ => f.elim)).andSet (S := (· = G)) (x := ⟨G, k, none⟩) (.inl rfl) _
      have HK : Hid (IsM _ _ _ _ _ _ ∧ Keeps (· = G) wr _ ∧ Keeps None w wr ∧ wr.heap.size = G + 1 + k ∧ wr.heap[B]? = some (.cells #[.int .i64 f.params, .int .i64 f.regs, .int .i64 m, .slice ca n cc] 37 (0, 0))) := ⟨hL, hkL, hkp, hsz, hbx⟩
      clear hM hkp hsz hbx o1 hal hL hkL
      go_wp2_with (at_make; refine wpList_make_run rfl (.tmp 26) (.tmp 26) 56 rfl rfl rfl hmk ?_)
      refine ⟨⟨k + 1, by omega, by simp, HK.out.1, HK.out.2.2.1.trans HK.out.2.1 (fun i e hi => by have := H3.out.2.2.2.2.1; omega), ?_, blk_kept HK.out.2.2.2.2 HK.out.2.1 (by have := H3.out.2.2.2.2.2; omega)⟩, by simp [intOf]; omega⟩
      have := HK.out.2.2.2.1
      simp [World.setCell]
      omega
    · have hkn2 : k = n := by omega
      subst hkn2
      have i1 : ¬ ((k : Int) < (k : Int)) := by omega
      have HK : Hid (IsM wr G k m k (fun _ _ => 0) ∧ Keeps None w wr ∧ wr.heap[B]? = some (.cells #[.int .i64 f.params, .int .i64 f.regs, .int .i64 m, .slice ca k cc] 37 (0, 0))) := ⟨hM, hkp, hbx⟩
      clear hM hkp hsz hbx
      go_wp2_with fail
      go_loopw [6] (fun s6 wr => ∃ s : Nat, s ≤ m ∧ s6 = .int .i64 s ∧ IsM wr G k m k (flowS f s 0) ∧ Keeps None w wr ∧ wr.heap[B]? = some (.cells #[.int .i64 f.params, .int .i64 f.regs, .int .i64 m, .slice ca k cc] 37 (0, 0))) (fun i _ => m - (intOf i).toNat)
      case atStart => exact ⟨0, Nat.zero_le _, rfl, HK.out.1.congr (fun k' s' _ _ => by simp [flowS]), HK.out.2.1, HK.out.2.2⟩
      case round =>
        obtain ⟨s, hs, rfl, hM, hkp, hbx⟩ := hrel
        have d0 : wr.cell? ⟨B, 0, none⟩ = some (.int .i64 f.params) := (cell_of_heap hbx 0).trans rfl
        have d1 : wr.cell? ⟨B, 1, none⟩ = some (.int .i64 f.regs) := (cell_of_heap hbx 1).trans rfl
        have d2 : wr.cell? ⟨B, 2, none⟩ = some (.int .i64 (m : Int)) := (cell_of_heap hbx 2).trans rfl
        have d3 : wr.cell? ⟨B, 3, none⟩ = some (.slice ca k cc) := (cell_of_heap hbx 3).trans rfl
        by_cases hsm : s < m
        · have i1 : (s : Int) < (m : Int) := by omega
          have hc := HSE.out s _ hkp
          have HN : Hid (IsM wr G k m k (flowS f s 0) ∧ Keeps None w wr ∧ wr.heap[B]? = some (.cells #[.int .i64 f.params, .int .i64 f.regs, .int .i64 m, .slice ca k cc] 37 (0, 0))) := ⟨hM, hkp, hbx⟩
          clear hM hkp hbx
          go_wp2_with fail
          refine hc.mono ?_
          rintro e w5 ⟨gs, rfl, hF, hk5, hgs⟩
          have H5 : Hid (IsM w5 G k m k (flowS f s 0) ∧ w5.heap[gs]? = some (.cells (sums (searchV f s (0, 0)) k) 3 (0, 0)) ∧ Keeps None w w5 ∧ w5.heap[B]? = some (.cells #[.int .i64 f.params, .int .i64 f.regs, .int .i64 m, .slice ca k cc] 37 (0, 0)) ∧ ∀ q, q ≤ k → gs ≠ G + q) := by
            refine ⟨HN.out.1.kept hk5 (fun _ _ f => f), hF, HN.out.2.1.trans hk5 (fun _ f _ => f), blk_kept HN.out.2.2 hk5 (fun f => f), fun q hq => ?_⟩
            by_cases h0 : q = 0
            · subst h0; have := blk_lt HN.out.1.outer; omega
            · have := blk_lt (HN.out.1.rows (q - 1) (by omega)); omega
          clear hF hk5 hgs hc d0 d1 d2 d3
          go_wp2_with fail
          go_loopw [8] (fun s8 wr => ∃ a : Nat, a ≤ k ∧ s8 = .int .i64 a ∧ IsM wr G k m k (flowS f s a) ∧ wr.heap[gs]? = some (.cells (sums (searchV f s (0, 0)) k) 3 (0, 0)) ∧ Keeps None w wr ∧ wr.heap[B]? = some (.cells #[.int .i64 f.params, .int .i64 f.regs, .int .i64 m, .slice ca k cc] 37 (0, 0))) (fun i _ => k - (intOf i).toNat)
          case atStart => exact ⟨0, Nat.zero_le _, rfl, H5.out.1, H5.out.2.1, H5.out.2.2.1, H5.out.2.2.2.1⟩
          case round =>
            obtain ⟨a, ha, rfl, hM, hF, hkp, hbx⟩ := hrel
            by_cases hak : a < k
            · have i2 : (a : Int) < (k : Int) := by omega
              have e1 := hM.row hak hak
              have e2 := hM.cell hak hsm
              have e3 := hM.free s hak
              have e4 := (blk_cell hF a).trans (sums_at _ _ _ hak)
              have hst := hM.set a s (sumAt (searchV f s (0, 0)) a) hak
              have hkS : Keeps (· = G + 1 + a) wr (wr.setCell ⟨G + 1 + a, s, none⟩ (.int .i64 (sumAt (searchV f s (0, 0)) a))) := Keeps.setCell (S := (· = G + 1 + a)) wr rfl _
              have hst2 := hst.congr (fun k' s' _ _ => flowS_set f s a k' s')
              have hG1 := H3.out.2.2.2.2.1
              have hG2 := H3.out.2.2.2.2.2
              have hgn := H5.out.2.2.2.2 (1 + a) (by omega)
              have HQ : Hid (IsM (wr.setCell ⟨G + 1 + a, s, none⟩ (.int .i64 (sumAt (searchV f s (0, 0)) a))) G k m k (flowS f s (a + 1)) ∧ (wr.setCell ⟨G + 1 + a, s, none⟩ (.int .i64 (sumAt (searchV f s (0, 0)) a))).heap[gs]? = some (.cells (sums (searchV f s (0, 0)) k) 3 (0, 0)) ∧ Keeps None w (wr.setCell ⟨G + 1 + a, s, none⟩ (.int .i64 (sumAt (searchV f s (0, 0)) a))) ∧ (wr.setCell ⟨G + 1 + a, s, none⟩ (.int .i64 (sumAt (searchV f s (0, 0)) a))).heap[B]? = some (.cells #[.int .i64 f.params, .int .i64 f.regs, .int .i64 m, .slice ca k cc] 37 (0, 0))) :=
                ⟨hst2, blk_kept hF hkS (by omega), hkp.trans hkS (fun i e hi => by omega), blk_kept hbx hkS (by omega)⟩
              generalize sumAt (searchV f s (0, 0)) a = X at *
              generalize flowS f s a a s = Y at e2
              clear hst hkS hst2 hM hF hkp hbx hG1 hG2 hgn
              go_wp2_with fail
              go_region
              all_goals go_wp2_with fail
              all_goals
                have hd := fun wx => Keeps.drew None wx
                exact ⟨⟨a + 1, by omega, by simp, HQ.out.1.kept (hd _) (fun _ _ f => f), blk_kept HQ.out.2.1 (hd _) (fun f => f), HQ.out.2.2.1.andDrew, blk_kept HQ.out.2.2.2 (hd _) (fun f => f)⟩, by simp [intOf]; omega⟩
            · have hak2 : a = k := by omega
              subst hak2
              have i2 : ¬ ((a : Int) < (a : Int)) := by omega
              have HQ : Hid (IsM wr G a m a (flowS f (s + 1) 0) ∧ Keeps None w wr ∧ wr.heap[B]? = some (.cells #[.int .i64 f.params, .int .i64 f.regs, .int .i64 m, .slice ca a cc] 37 (0, 0))) := ⟨hM.congr (fun k' s' hk' _ => flowS_next f s a k' s' hk'), hkp, hbx⟩
              clear hM hF hkp hbx
              go_wp2_with fail
              exact ⟨⟨s + 1, by omega, by simp, HQ.out⟩, by simp [intOf]; omega⟩
        · have hsm2 : s = m := by omega
          subst hsm2
          have i1 : ¬ ((s : Int) < (s : Int)) := by omega
          have HQ : Hid (IsM wr G k s k (fun k s => sumAt (searchV f s (0, 0)) k) ∧ Keeps None w wr) := ⟨hM.congr (fun k' s' _ hs' => flowS_end f s k' s' hs'), hkp⟩
          clear hM hkp hbx
          go_wp2_with fail
          go_ret
          exact ⟨G, rfl, HQ.out.1, HQ.out.2, H3.out.2.2.2.2.1⟩
end Go.Proofs.YtoehkjfdaolcnaaDoor
/-! What Check answers, phase by phase. -/
namespace Go.Proofs.YtoehkjfdaolcnaaDoor
set_option linter.unusedVariables false
set_option maxRecDepth 20000
open Go.RowKit Go.HeapKit

theorem check_count {l : List Fn} (h : l.length < 1 ∨ 32 < l.length) : checkV l = (50, 0, 0) := by unfold checkV; rw [if_pos h]
def ShapesTo (l : List Fn) (k : Nat) : Prop := ∀ j f, j < k → l[j]? = some f → shapeV f = true
def CodesTo (l : List Fn) (k : Nat) : Prop := ∀ j f, j < k → l[j]? = some f → codeFault false l f = none
def SlotsTo (l : List Fn) (k : Nat) : Prop := ∀ j f, j < k → l[j]? = some f → slotFault f = none
theorem check_shape {l : List Fn} {k : Nat} {f : Fn} (h0 : 1 ≤ l.length ∧ l.length ≤ 32) (hk : l[k]? = some f) (h1 : ShapesTo l k) (h2 : shapeV f = false) : checkV l = (51, (k : Int), 0) := by
  unfold checkV
  rw [if_neg (by omega), firstAt_some _ l 0 k f () hk (fun j y hj hy => by rw [h1 j y hj hy]; rfl) (by rw [h2]; rfl)]
  simp
theorem check_code {l : List Fn} {k : Nat} {f : Fn} {e x : Int} (h0 : 1 ≤ l.length ∧ l.length ≤ 32) (hk : l[k]? = some f) (h1 : ShapesTo l l.length) (h2 : CodesTo l k) (h3 : codeFault false l f = some (e, x)) : checkV l = (e, (k : Int), x) := by
  unfold checkV
  rw [if_neg (by omega), firstAt_none _ l 0 (fun j y hy => by rw [h1 j y (List.getElem?_eq_some_iff.1 hy).1 hy]; rfl)]
  simp only
  rw [firstAt_some _ l 0 k f (e, x) hk (fun j y hj hy => h2 j y hj hy) h3]
  simp
theorem check_slot {l : List Fn} {k : Nat} {f : Fn} {e x : Int} (h0 : 1 ≤ l.length ∧ l.length ≤ 32) (hk : l[k]? = some f) (h1 : ShapesTo l l.length) (h2 : CodesTo l l.length) (h4 : SlotsTo l k) (h3 : slotFault f = some (e, x)) : checkV l = (e, (k : Int), x) := by
  unfold checkV
  rw [if_neg (by omega), firstAt_none _ l 0 (fun j y hy => by rw [h1 j y (List.getElem?_eq_some_iff.1 hy).1 hy]; rfl)]
  simp only
  rw [firstAt_none _ l 0 (fun j y hy => h2 j y (List.getElem?_eq_some_iff.1 hy).1 hy)]
  simp only
  rw [firstAt_some _ l 0 k f (e, x) hk (fun j y hj hy => h4 j y hj hy) h3]
  simp
theorem check_good {l : List Fn} (h0 : 1 ≤ l.length ∧ l.length ≤ 32) (h1 : ShapesTo l l.length) (h2 : CodesTo l l.length) (h4 : SlotsTo l l.length) : checkV l = (0, 0, 0) := by
  unfold checkV
  rw [if_neg (by omega), firstAt_none _ l 0 (fun j y hy => by rw [h1 j y (List.getElem?_eq_some_iff.1 hy).1 hy]; rfl)]
  simp only
  rw [firstAt_none _ l 0 (fun j y hy => h2 j y (List.getElem?_eq_some_iff.1 hy).1 hy)]
  simp only
  rw [firstAt_none _ l 0 (fun j y hy => h4 j y (List.getElem?_eq_some_iff.1 hy).1 hy)]
theorem code_bad {fs : List Fn} {f : Fn} {j : Nat} {i : Ins} (hi : f.code[j]? = some i) (h0 : ∀ (q : Nat) y, q < j → f.code[q]? = some y → fitsV false fs f y = true) (h1 : fitsV false fs f i = false) : codeFault false fs f = some (52, (j : Int)) := by
  unfold codeFault
  rw [firstAt_some _ f.code 0 j i () hi (fun q y hq hy => by rw [h0 q y hq hy]; rfl) (by rw [h1]; rfl)]
  simp
theorem code_out {fs : List Fn} {f : Fn} (h0 : ∀ (q : Nat) y, f.code[q]? = some y → fitsV false fs f y = true) (h1 : runsOut f = true) : codeFault false fs f = some (53, (f.code.length : Int) - 1) := by
  unfold codeFault
  rw [firstAt_none _ f.code 0 (fun q y hy => by rw [h0 q y hy]; rfl)]
  simp [h1]
theorem slot_bad {f : Fn} {j : Nat} {i : Ins} (hi : f.code[j]? = some i) (h0 : ∀ (q : Nat) y, q < j → f.code[q]? = some y → misuseV y (rowV f q) = 0) (h1 : misuseV i (rowV f j) ≠ 0) : slotFault f = some (misuseV i (rowV f j), (j : Int)) := by
  unfold slotFault
  rw [firstAt_some _ f.code 0 j i (misuseV i (rowV f j)) hi (fun q y hq hy => by rw [Nat.zero_add, if_pos (h0 q y hq hy)]) (by rw [Nat.zero_add, if_neg h1])]
  simp
theorem slot_good {f : Fn} (h0 : ∀ (q : Nat) y, f.code[q]? = some y → misuseV y (rowV f q) = 0) : slotFault f = none := by
  unfold slotFault
  rw [firstAt_none _ f.code 0 (fun q y hy => by rw [Nat.zero_add, if_pos (h0 q y hy)])]
  rfl
/-- Check, under way: the program's box, the answer's. -/
structure CkIn (w wr : World) (B : Nat) (a : Option Addr) (n c : Nat) : Prop where
  keep : Keeps None w wr
  box : wr.heap[B]? = some (.cells #[.slice a n c] 24 (0, 0))
  ans : wr.heap[B + 1]? = some (.cells #[.int .i64 0, .int .i64 0, .int .i64 0] 28 (0, 0))
  low : w.heap.size ≤ B
theorem CkIn.more {w wr w' : World} {B : Nat} {a : Option Addr} {n c : Nat} (h : CkIn w wr B a n c) (hk : Keeps None wr w') : CkIn w w' B a n c :=
  ⟨h.keep.trans hk (fun _ f _ => f), blk_kept h.box hk (fun f => f), blk_kept h.ans hk (fun f => f), h.low⟩
theorem CkIn.put {w wr : World} {B : Nat} {a : Option Addr} {n c : Nat} (h : CkIn w wr B a n c) (e k x : Int) :
    (((wr.setCell ⟨B + 1, 0, none⟩ (.int .i64 e)).setCell ⟨B + 1, 1, none⟩ (.int .i64 k)).setCell ⟨B + 1, 2, none⟩ (.int .i64 x)).heap[B + 1]? = some (.cells #[.int .i64 e, .int .i64 k, .int .i64 x] 28 (0, 0)) ∧
    Keeps None w (((wr.setCell ⟨B + 1, 0, none⟩ (.int .i64 e)).setCell ⟨B + 1, 1, none⟩ (.int .i64 k)).setCell ⟨B + 1, 2, none⟩ (.int .i64 x)) := by
  have hk : Keeps (· = B + 1) wr _ := (((Keeps.refl (· = B + 1) wr).andSet (x := ⟨B + 1, 0, none⟩) (.inl rfl) (.int .i64 e)).andSet (x := ⟨B + 1, 1, none⟩) (.inl rfl) (.int .i64 k)).andSet (x := ⟨B + 1, 2, none⟩) (.inl rfl) (.int .i64 x)
  refine ⟨?_, h.keep.trans hk (fun i e hi => by have := h.low; omega)⟩
  rw [blk_set (blk_set (blk_set h.ans _) _) _]
  rfl
/-- The way out. -/
theorem CkIn.end_ {w wr : World} {B : Nat} {a : Option Addr} {n c : Nat} {l : List Fn} (h : CkIn w wr B a n c) {e k x : Int} (hv : checkV l = (e, k, x)) {tmps : Array Value} (ht : tmps.getD 2 undef = .pointer (some ⟨B + 1, 0, none⟩)) :
    bodyPost Tryd.prog Tryd.f11 (fun e w' => e = .returned (checkF l) ∧ Keeps None w w') .ret { tmps := tmps, defers := [] } (((wr.setCell ⟨B + 1, 0, none⟩ (.int .i64 e)).setCell ⟨B + 1, 1, none⟩ (.int .i64 k)).setCell ⟨B + 1, 2, none⟩ (.int .i64 x)) := by
  obtain ⟨h1, h2⟩ := h.put e k x
  exact fault_end rfl h1 ht rfl ⟨by unfold checkF; rw [hv], h2⟩
end Go.Proofs.YtoehkjfdaolcnaaDoor
