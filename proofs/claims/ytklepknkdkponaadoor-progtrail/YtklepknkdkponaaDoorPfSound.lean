import Derived.Test.YtklepknkdkponaaDoorPgSound
import Derived.Test.YtklepknkdkponaaDoorRpFlow2
/-! sound and Flow of any function. -/
namespace Go.Proofs.YtklepknkdkponaaDoor
set_option linter.unusedVariables false
set_option maxRecDepth 20000
open Go.RowKit Go.HeapKit

theorem scatch_panic (p : Nat) (c : Array Value) (e n a : Int) (w : World) (hc : w.heap[p]? = some (.cells c 4 (0, 0))) (hs : c.size = 1) (he : (e == 0) = false) :
    CallsD Tryd.prog 71 #[.pointer (some ⟨p, 0, none⟩)] (.panicking (thrown e n a)) w fun e' u' w' => e' = .returned (.tuple #[]) ∧ u' = .panicking [{ v := .iface 27 (faultV e n a), recovered := true }] ∧ w'.heap[p]? = some (.cells #[.bool false] 4 (0, 0)) ∧ Keeps (· = p) w w' := by
  refine callsD_of_wpS Tryd.func71 rfl fun c₀ cs hu => ?_
  unfold thrown at hu
  apply wpS_region
  simp [wpOpsS, go_sem, recoverD, hu, Tryd.ntmps71]
  refine (caught_fault e n a w).mono ?_
  rintro _ w2 ⟨rfl, hk2⟩
  have hc2 := blk_kept hc hk2 (fun f => f)
  obtain ⟨l⟩ := c
  match l, hs with
  | [v0], _ =>
    have c0 := (cell_of_heap hc2 0).trans rfl
    have z0 := blk_free hc2 0
    have b3 := blk_set (i := 0) hc2 (.bool false)
    have k3 : Keeps (· = p) w (w2.setCell ⟨p, 0, none⟩ (.bool false)) := (hk2.mono (fun _ f _ => f.elim)).andSet (S := (· = p)) (x := ⟨p, 0, none⟩) (.inl rfl) _
    have hfl : ∀ wx, (Instr.field 27 (.agg #[.int .i64 e, .int .i64 n, .int .i64 a]) 0).run Tryd.prog wx = .ok (.int .i64 e) wx := fun _ => rfl
    simp [faultV, go_sem, hfl, c0, z0, he, bodyPostS, results, Tryd.results71]
    exact ⟨b3, k3⟩
theorem sout_panic {Q : Ending → World → Prop} {tmps : Array Value} {w3 : World} {p : Nat} {c : Array Value} {e n x : Int} (ha : tmps.getD 2 undef = .pointer (some ⟨p, 0, none⟩)) (hb : w3.heap[p]? = some (.cells c 4 (0, 0))) (hs : c.size = 1) (he : (e == 0) = false)
    (hQ : ∀ w', Keeps (· = p) w3 w' → Q (.returned (.bool false)) w') :
    bodyPostD Tryd.prog Tryd.f50 Q (.panic (thrown e n x)) { tmps := tmps, defers := [{ target := .fn (.func 71) #[.pointer (some ⟨p, 0, none⟩)], args := #[] }] } w3 := by
  refine leaves_cons (f := 71) (args := #[.pointer (some ⟨p, 0, none⟩)]) (by simp) (by simp [go_sem]) ?_
  refine (scatch_panic p c e n x w3 hb hs he).mono ?_
  rintro _ u' w4 ⟨rfl, rfl, hb4, hk4⟩
  have hr := results_one (P := Tryd.prog) (fn := Tryd.f50) (q := 2) (ty := 4) rfl ha (load_bool w4 p false hb4)
  simp [Leaves, settle, hr]
  exact hQ w4 hk4
theorem codeFault_ne {al : Bool} {fs : List Fn} {f : Fn} {r : Int × Int} (h : codeFault al fs f = some r) : (r.1 == 0) = false := by
  unfold codeFault at h
  split at h
  · obtain rfl := Option.some.inj h; rfl
  · split at h
    · obtain rfl := Option.some.inj h; rfl
    · cases h
theorem sound_false (f : Fn) (ca : Option Addr) (cc : Nat) (w : World) (hT : Tabs w) (hC : SeenI w ca f.code.length f.code) (hok : ∀ i ∈ f.code, i.Ok) (hso : soundV f = false) :
    Calls Tryd.prog 50 #[fnV f ca cc] w fun e w' => e = .returned (.bool false) ∧ Keeps None w w' := by
  have hmf : ∀ (fn : Go.Fn) (first cap : Array Value) (w : World), (Instr.makeFunc fn first cap).run Tryd.prog w = .ok (.func fn first cap) w := fun _ _ _ _ => rfl
  obtain ⟨b1, b2⟩ := two_boxes w #[.int .i64 f.params, .int .i64 f.regs, .int .i64 f.slots, .slice ca f.code.length cc] #[.bool false] 36 4
  have hk2 := keeps2 w (.cells #[.int .i64 f.params, .int .i64 f.regs, .int .i64 f.slots, .slice ca f.code.length cc] 36) (.cells #[.bool false] 4)
  obtain ⟨wa, hwa⟩ : ∃ wa, wa = (w.alloc (.cells #[.int .i64 f.params, .int .i64 f.regs, .int .i64 f.slots, .slice ca f.code.length cc] 36)).alloc (.cells #[.bool false] 4) := ⟨_, rfl⟩
  obtain ⟨B, hB⟩ : ∃ B, B = w.heap.size := ⟨_, rfl⟩
  rw [← hwa] at b1 b2 hk2
  rw [← hB] at b1 b2
  have h1 := shape_any 0 f ca cc wa
  unfold shapeE fnV at h1
  have HA : Hid (wa.heap[B]? = some (.cells #[.int .i64 f.params, .int .i64 f.regs, .int .i64 f.slots, .slice ca f.code.length cc] 36 (0, 0)) ∧ wa.heap[B + 1]? = some (.cells #[.bool false] 4 (0, 0)) ∧ Keeps None w wa ∧ B = w.heap.size) := ⟨b1, b2, hk2, hB⟩
  have d0 := (cell_of_heap b1 0).trans rfl
  have d1 := (cell_of_heap b1 1).trans rfl
  have d2 := (cell_of_heap b1 2).trans rfl
  have d3 := (cell_of_heap b1 3).trans rfl
  unfold fnV
  clear b1 b2 hk2
  by_cases hsh : shapeV f = true
  · have hcf : ∃ r, codeFault true [] f = some r := by
      cases h : codeFault true [] f with
      | none => rw [soundV, hsh, h] at hso; cases hso
      | some r => exact ⟨r, rfl⟩
    obtain ⟨r, hcf⟩ := hcf
    rw [hsh] at h1
    simp only [if_true] at h1
    have h2 := fun wx (hk : Keeps None w wx) => code_anyT 0 f ca cc none 0 0 wx [] (hT.more hk) (hC.more hk) hok hsh
    unfold codeE codeV at h2
    rw [hcf] at h2
    simp only at h2
    have H2 : Hid _ := h2
    have HR : Hid ((r.1 == 0) = false) := codeFault_ne hcf
    clear h2 hT hC hok hsh hcf hso
    go_enter_defers Tryd.func50, Tryd.ntmps50
    go_upto_region 2 with fail
    rw [← hwa, ← hB]
    clear hwa hB
    go_upto_region 3 with (go_at_call 68; refine h1.mono ?_; rintro _ w2 ⟨rfl, hk2⟩)
    have hkw := HA.out.2.2.1.trans hk2 (fun _ f _ => f)
    have hb2 := blk_kept HA.out.2.1 hk2 (fun f => f)
    have h3 := H2.out _ hkw
    replace d0 := hk2.cell d0 (fun f => f)
    replace d1 := hk2.cell d1 (fun f => f)
    replace d2 := hk2.cell d2 (fun f => f)
    replace d3 := hk2.cell d3 (fun f => f)
    have HB : Hid (w2.heap[B + 1]? = some (.cells #[.bool false] 4 (0, 0)) ∧ Keeps None w w2) := ⟨hb2, hkw⟩
    clear hkw hb2 hk2 h1
    go_wp2_with (go_at_call 44; refine h3.mono ?_; rintro _ w3 ⟨rfl, hk3⟩)
    exact sout_panic rfl (blk_kept HB.out.1 hk3 (fun f => f)) rfl HR.out (fun w' hk => ⟨rfl, (HB.out.2.trans hk3 (fun _ f _ => f)).trans hk (fun i e hi => by have := HA.out.2.2.2; omega)⟩)
  · rw [if_neg hsh] at h1
    clear hT hC hok hsh hso
    go_enter_defers Tryd.func50, Tryd.ntmps50
    go_upto_region 2 with fail
    rw [← hwa, ← hB]
    clear hwa hB
    go_wp2_with (go_at_call 68; refine h1.mono ?_; rintro _ w2 ⟨rfl, hk2⟩)
    exact sout_panic rfl (blk_kept HA.out.2.1 hk2 (fun f => f)) rfl rfl (fun w' hk => ⟨rfl, (HA.out.2.2.1.trans hk2 (fun _ f _ => f)).trans hk (fun i e hi => by have := HA.out.2.2.2; omega)⟩)
theorem flow_ok (f : Fn) (ca : Option Addr) (cc : Nat) (w : World) (hT : Tabs w) (hC : SeenI w ca f.code.length f.code) (hok : ∀ i ∈ f.code, i.Ok) (hso : soundV f = true) (n m : Nat) (hn : n = f.code.length) (hm : (m : Int) = f.slots) :
    Calls Tryd.prog 16 #[fnV f ca cc] w fun e w' => ∃ g, e = .returned (.slice (some ⟨g, 0, none⟩) n n) ∧ IsM w' g n m n (fun k s => sumAt (searchV f s (0, 0)) k) ∧ Keeps None w w' ∧ w.heap.size ≤ g := by
  obtain ⟨hsh, hcf⟩ := sound_of hso
  have hG := good_of hsh hcf
  obtain ⟨_, _, hsl, hl1, hl2⟩ := shape_parts hsh
  have hal := Keeps.alloc None w (.cells #[.int .i64 f.params, .int .i64 f.regs, .int .i64 f.slots, .slice ca f.code.length cc] 36)
  have b1 := heap_alloc_new w (.cells #[.int .i64 f.params, .int .i64 f.regs, .int .i64 f.slots, .slice ca f.code.length cc] 36)
  have hst := sound_true f ca cc _ (hT.more hal) (hC.more hal) hok hsh hcf
  have hfl := fun wx (hk : Keeps None w wx) => flow_any f ca cc wx (hT.more hk) (hC.more hk) hG n m hn hm (by omega)
  obtain ⟨wa, hwa⟩ : ∃ wa, wa = w.alloc (.cells #[.int .i64 f.params, .int .i64 f.regs, .int .i64 f.slots, .slice ca f.code.length cc] 36) := ⟨_, rfl⟩
  obtain ⟨B, hB⟩ : ∃ B, B = w.heap.size := ⟨_, rfl⟩
  unfold fnV at hst hfl ⊢
  rw [← hwa] at hal b1 hst
  rw [← hB] at b1
  have HA : Hid (wa.heap[B]? = some (.cells #[.int .i64 f.params, .int .i64 f.regs, .int .i64 f.slots, .slice ca f.code.length cc] 36 (0, 0)) ∧ Keeps None w wa ∧ ∀ wx, Keeps None w wx → _) := ⟨b1, hal, hfl⟩
  have d0 := (cell_of_heap b1 0).trans rfl
  have d1 := (cell_of_heap b1 1).trans rfl
  have d2 := (cell_of_heap b1 2).trans rfl
  have d3 := (cell_of_heap b1 3).trans rfl
  clear hal b1 hfl hT hC hok hsh hcf hso hG hsl hl1 hl2 hn hm
  go_enter Tryd.func16, Tryd.ntmps16
  go_upto_region 1 with fail
  rw [← hwa, ← hB]
  clear hwa hB
  go_upto_region 3 with (go_at_call 50; refine hst.mono ?_; rintro _ w2 ⟨rfl, hk2⟩; have d0' := hk2.cell d0 (fun f => f); have d1' := hk2.cell d1 (fun f => f); have d2' := hk2.cell d2 (fun f => f); have d3' := hk2.cell d3 (fun f => f))
  have hkw := HA.out.2.1.trans hk2 (fun _ f _ => f)
  have hf := HA.out.2.2 _ hkw
  clear hk2 hst d0 d1 d2 d3
  have HK : Hid _ := hkw
  clear hkw
  go_wp2_with fail
  refine hf.mono ?_
  rintro e w3 ⟨g, rfl, hM, hk3, hg⟩
  have HF : Hid (IsM w3 g n m n (fun k s => sumAt (searchV f s (0, 0)) k) ∧ Keeps None w w3 ∧ w.heap.size ≤ g) := ⟨hM, HK.out.trans hk3 (fun _ f _ => f), Nat.le_trans HK.out.size hg⟩
  clear hM hk3 hg hf
  go_wp2_with fail
  go_ret
  exact ⟨g, rfl, HF.out.1, HF.out.2.1, HF.out.2.2⟩
theorem flow_bad (f : Fn) (ca : Option Addr) (cc : Nat) (w : World) (hT : Tabs w) (hC : SeenI w ca f.code.length f.code) (hok : ∀ i ∈ f.code, i.Ok) (hso : soundV f = false) :
    Calls Tryd.prog 16 #[fnV f ca cc] w fun e w' => e = .returned (.slice none 0 0) ∧ Keeps None w w' := by
  have hal := Keeps.alloc None w (.cells #[.int .i64 f.params, .int .i64 f.regs, .int .i64 f.slots, .slice ca f.code.length cc] 36)
  have hst := sound_false f ca cc _ (hT.more hal) (hC.more hal) hok hso
  have HK : Hid _ := hal
  clear hal hT hC hok hso
  unfold fnV at *
  go_enter Tryd.func16, Tryd.ntmps16
  go_wp2_with fail
  refine hst.mono ?_
  rintro e w2 ⟨rfl, hk2⟩
  go_wp2_with fail
  go_ret
  exact ⟨rfl, HK.out.trans hk2 (fun _ f _ => f)⟩
end Go.Proofs.YtklepknkdkponaaDoor
