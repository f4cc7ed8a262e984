import Derived.Test.YtokfbagacehbgaaDoorPgFits
/-! The shapes of all functions; the code of one. -/
namespace Go.Proofs.YtokfbagacehbgaaDoor
set_option linter.unusedVariables false
set_option maxRecDepth 20000
open Go.RowKit Go.HeapKit

theorem fits_any (number : Int) (f : Fn) (ca : Option Addr) (cc : Nat) (fa : Option Addr) (fn fc : Nat) (i : Ins) (w : World) (fs : List Fn) (hT : Tabs w) (hS : SeenF w fa fn fs) (hi : i.Ok) (hr : 0 ≤ f.regs ∧ f.regs ≤ 16) :
    Calls Tryd.prog 31 #[codeV number f ca cc fa fn fc false, insV i] w fun e w' => e = .returned (.bool (fitsV false fs f i)) ∧ Keeps None w w' := by
  cases hb : belowV i.kind 10 with
  | false =>
    have : fitsV false fs f i = false := by simp [fitsV, hb]
    rw [this]
    exact fits_no number f ca cc fa fn fc false i w hb
  | true =>
    obtain ⟨ik, ia, ib, ic, iK⟩ := i
    have hb' := (belowV_iff _ _).1 hb
    simp only at hb'
    obtain ⟨k, rfl⟩ := Int.eq_ofNat_of_zero_le hb'.1
    have hk : k < 10 := by omega
    have hv : fitsV false fs f ⟨k, ia, ib, ic, iK⟩ = (!(decide (fK k = 6) && (decide (iK < 0) || decide (16 ≤ iK))) && (allowsV false fs f (fA k) ia ⟨k, ia, ib, ic, iK⟩ && allowsV false fs f (fB k) ib ⟨k, ia, ib, ic, iK⟩ && allowsV false fs f (fC k) ic ⟨k, ia, ib, ic, iK⟩)) := by
      simp only [fitsV]
      rw [hb]
      simp
    rw [hv]
    have n5a : ∀ k, k < 10 → fA k ≠ 5 := by decide
    have n5b : ∀ k, k < 10 → fB k ≠ 5 := by decide
    have c5 : ∀ k, k < 10 → fC k = 5 → fB k = 4 := by decide
    refine fits_some number f ca cc fa fn fc k ia ib ic iK w hT hk _ _ _ _ _ rfl rfl ?_ ?_ ?_
    · exact fun wx hx => allows_any number f ca cc fa fn fc _ _ _ wx fs (hS.more hx) (fun h => absurd h (n5a k hk)) hr hi.a
    · exact fun _ wx hx => allows_any number f ca cc fa fn fc _ _ _ wx fs (hS.more hx) (fun h => absurd h (n5b k hk)) hr hi.b
    · intro _ hob wx hx
      refine allows_any number f ca cc fa fn fc _ _ _ wx fs (hS.more hx) (fun h => ?_) hr hi.c
      rw [c5 k hk h] at hob
      have hl := hS.len
      simp [allowsV, belowV] at hob
      simp only
      omega

def shapesE (fs : List Fn) : Ending :=
  if fs.length < 1 ∨ 32 < fs.length then .panicked (thrown 50 0 0) else match firstAt (fun _ f => if shapeV f then none else some ()) fs 0 with
    | some r => .panicked (thrown 51 r.1 0)
    | none => .returned (.tuple #[])
theorem shapes_any (fa : Option Addr) (n fc : Nat) (fs : List Fn) (w : World) (hS : SeenF w fa n fs) :
    Calls Tryd.prog 24 #[.slice fa n fc] w fun e w' => e = shapesE fs ∧ Keeps None w w' := by
  have HS : Hid (SeenF w fa n fs) := hS
  have hl := hS.len
  have HL : Hid (n = fs.length) := hl
  clear hl hS
  by_cases h1 : n < 1
  · have h1' : (n : Int) < 1 := by omega
    go_enter Tryd.func24, Tryd.ntmps24
    go_wp2_with (go_at_call 29; refine (giveUp_any _ _ _ _).mono ?_; rintro e w' ⟨rfl, rfl⟩)
    refine ⟨rfl, ?_, Keeps.refl _ _⟩
    have := HL.out
    unfold shapesE
    rw [if_pos (by omega)]
  · have h1' : (1 : Int) ≤ n := by omega
    by_cases h2 : 32 < n
    · have h2' : (32 : Int) < n := by omega
      go_enter Tryd.func24, Tryd.ntmps24
      go_wp2_with (go_at_call 29; refine (giveUp_any _ _ _ _).mono ?_; rintro e w' ⟨rfl, rfl⟩)
      refine ⟨rfl, ?_, Keeps.refl _ _⟩
      have := HL.out
      unfold shapesE
      rw [if_pos (by omega)]
    · have h2' : (n : Int) ≤ 32 := by omega
      go_enter Tryd.func24, Tryd.ntmps24
      go_wp2_with fail
      go_loopw [15] (fun i wr => ∃ k : Nat, k ≤ n ∧ i = .int .i64 k ∧ (∀ j f, j < k → fs[j]? = some f → shapeV f = true) ∧ Keeps None w wr) (fun i _ => n - (intOf i).toNat)
      case atStart => exact ⟨0, Nat.zero_le _, rfl, fun q _ h => by omega, Keeps.refl _ _⟩
      case round =>
        obtain ⟨k, hk, rfl, hall, hkp⟩ := hrel
        by_cases hkn : k < n
        · obtain ⟨b, off, f, ca, cc, rfl, hf, hat⟩ := (HS.out.more hkp).at hkn
          obtain ⟨y0, y1, y2, y3, -⟩ := hat
          have i1 : (k : Int) < (n : Int) := by omega
          have HK : Hid (Keeps None w wr ∧ fs[k]? = some f ∧ ∀ j f, j < k → fs[j]? = some f → shapeV f = true) := ⟨hkp, hf, hall⟩
          clear hf hkp hall
          have hc := shape_any (k : Int) f ca cc
          unfold shapeE fnV at hc
          cases hv : shapeV f with
          | false =>
            rw [hv] at hc
            simp only [Bool.false_eq_true, if_false] at hc
            have HV : Hid (shapeV f = false) := hv
            clear hv
            go_wp2_with (go_at_call 30; refine (hc _).mono ?_; rintro e w2 ⟨rfl, hk2⟩)
            refine ⟨rfl, ?_, (HK.out.1.andAlloc _).trans hk2 (fun _ f _ => f)⟩
            have := HL.out
            unfold shapesE
            rw [if_neg (by omega), firstAt_some _ fs 0 k f () HK.out.2.1 (fun j y hj hy => by rw [HK.out.2.2 j y hj hy]; rfl) (by rw [HV.out]; rfl)]
            simp
          | true =>
            rw [hv] at hc
            simp only [if_true] at hc
            have HV : Hid (shapeV f = true) := hv
            clear hv
            go_wp2_with (go_at_call 30; refine (hc _).mono ?_; rintro e w2 ⟨rfl, hk2⟩)
            refine ⟨⟨k + 1, by omega, by simp, fun j g hj hg => ?_, (HK.out.1.andAlloc _).trans hk2 (fun _ f _ => f)⟩, by simp [intOf]; omega⟩
            by_cases hjk : j = k
            · subst hjk
              rw [HK.out.2.1] at hg
              obtain rfl := Option.some.inj hg
              exact HV.out
            · exact HK.out.2.2 j g (by omega) hg
        · have i1 : ¬ ((k : Int) < (n : Int)) := by omega
          go_wp2_with fail
          go_end0
          refine ⟨?_, hkp⟩
          have := HL.out
          unfold shapesE
          rw [if_neg (by omega), firstAt_none _ fs 0 (fun j y hy => by rw [hall j y (by have := (List.getElem?_eq_some_iff.1 hy).1; omega) hy]; rfl)]

def codeE (number : Int) (al : Bool) (fs : List Fn) (f : Fn) : Ending := match codeFault al fs f with
  | some r => .panicked (thrown r.1 number r.2)
  | none => .returned (.tuple #[])
set_option maxHeartbeats 1000000 in
theorem code_any (number : Int) (f : Fn) (ca : Option Addr) (cc : Nat) (fa : Option Addr) (fn fc : Nat) (w : World) (fs : List Fn) (hT : Tabs w) (hS : SeenF w fa fn fs) (hC : SeenI w ca f.code.length f.code) (hok : ∀ i ∈ f.code, i.Ok) (hsh : shapeV f = true) :
    Calls Tryd.prog 25 #[codeV number f ca cc fa fn fc false] w fun e w' => e = codeE number false fs f ∧ Keeps None w w' := by
  have hsh2 : (0 ≤ f.regs ∧ f.regs ≤ 16) ∧ 1 ≤ f.code.length ∧ f.code.length ≤ 512 := by
    simp only [shapeV, Bool.and_eq_true, decide_eq_true_eq] at hsh
    omega
  obtain ⟨n, hn⟩ : ∃ n, n = f.code.length := ⟨_, rfl⟩
  have hfit := fun (i : Ins) (hi : i ∈ f.code) (wx : World) (hk : Keeps None w wx) => fits_any number f ca cc fa fn fc i wx fs (hT.more hk) (hS.more hk) (hok i hi) hsh2.1
  unfold codeV at hfit
  rw [← hn] at hfit
  have HF : Hid _ := hfit
  have HC : Hid (SeenI w ca n f.code) := hn ▸ hC
  have HH : Hid (1 ≤ n ∧ n ≤ 512 ∧ n = f.code.length ∧ Tabs w) := ⟨by omega, by omega, hn, hT⟩
  have h1' : (1 : Int) ≤ n := by omega
  have h2' : (n : Int) ≤ 512 := by omega
  unfold codeV
  rw [← hn]
  obtain ⟨B, hB⟩ : ∃ B, B = w.heap.size := ⟨_, rfl⟩
  have HB : Hid (B = w.heap.size) := hB
  clear hfit hC hok hsh hsh2 hT hS hn
  go_enter Tryd.func25, Tryd.ntmps25
  go_wp2_with fail
  rw [← hB]
  clear hB
  go_loopw [9] (fun i wr => ∃ k : Nat, k ≤ n ∧ i = .int .i64 k ∧ (∀ j x, j < k → f.code[j]? = some x → fitsV false fs f x = true) ∧ wr.heap[B]? = some (.cells #[.int .i64 number, .int .i64 f.params, .int .i64 f.regs, .int .i64 f.slots, .slice ca n cc, .slice fa fn fc, .bool false] 71 (0, 0)) ∧ Keeps None w wr) (fun i _ => n - (intOf i).toNat)
  case atStart => exact ⟨0, Nat.zero_le _, rfl, fun q _ h => by omega, by rw [HB.out]; exact heap_alloc_new w _, Keeps.alloc None w _⟩
  case round =>
    obtain ⟨k, hk, rfl, hall, hbx, hkp⟩ := hrel
    have d0 := (cell_of_heap hbx 0).trans rfl
    have d1 := (cell_of_heap hbx 1).trans rfl
    have d2 := (cell_of_heap hbx 2).trans rfl
    have d3 := (cell_of_heap hbx 3).trans rfl
    have d4 := (cell_of_heap hbx 4).trans rfl
    have d5 := (cell_of_heap hbx 5).trans rfl
    have d6 := (cell_of_heap hbx 6).trans rfl
    by_cases hkn : k < n
    · obtain ⟨b, off, x, rfl, hx, hat⟩ := (HC.out.more hkp).at hkn
      obtain ⟨y0, y1, y2, y3, y4⟩ := hat
      have i1 : (k : Int) < (n : Int) := by omega
      have HK : Hid (Keeps None w wr ∧ f.code[k]? = some x ∧ (∀ j x, j < k → f.code[j]? = some x → fitsV false fs f x = true) ∧ wr.heap[B]? = some (.cells #[.int .i64 number, .int .i64 f.params, .int .i64 f.regs, .int .i64 f.slots, .slice (some ⟨b, off, none⟩) n cc, .slice fa fn fc, .bool false] 71 (0, 0))) := ⟨hkp, hx, hall, hbx⟩
      have hc := HF.out x (List.mem_of_getElem? hx) _ (hkp.andAlloc (.cells #[.int .i64 x.kind, .int .i64 x.a, .int .i64 x.b, .int .i64 x.c, .int .i64 x.k] 37))
      unfold insV at hc
      have HD : Hid (wr.cell? ⟨B, 0, none⟩ = some (.int .i64 number)) := d0
      have hal := Keeps.alloc None wr (.cells #[.int .i64 x.kind, .int .i64 x.a, .int .i64 x.b, .int .i64 x.c, .int .i64 x.k] 37)
      have a0 := hal.cell d0 (fun f => f)
      have a1 := hal.cell d1 (fun f => f)
      have a2 := hal.cell d2 (fun f => f)
      have a3 := hal.cell d3 (fun f => f)
      have a4 := hal.cell d4 (fun f => f)
      have a5 := hal.cell d5 (fun f => f)
      have a6 := hal.cell d6 (fun f => f)
      clear hal
      clear hx hkp hall hbx
      cases hv : fitsV false fs f x with
      | false =>
        rw [hv] at hc
        have HV : Hid (fitsV false fs f x = false) := hv
        clear hv
        go_wp2_with (first | (go_at_call 31; refine hc.mono ?_; rintro e w2 ⟨rfl, hk2⟩; have hk3 := (Keeps.alloc None wr _).trans hk2 (fun _ f _ => f); have d0' := hk3.cell HD.out (fun f => f)) | (go_at_call 29; refine (giveUp_any _ _ _ _).mono ?_; rintro e w' ⟨rfl, hw⟩; have hw2 := hw.symm; subst hw2))
        refine ⟨rfl, ?_, HK.out.1.trans hk3 (fun _ f _ => f)⟩
        unfold codeE codeFault
        rw [firstAt_some _ f.code 0 k x () HK.out.2.1 (fun j y hj hy => by rw [HK.out.2.2.1 j y hj hy]; rfl) (by rw [HV.out]; rfl)]
        simp
      | true =>
        rw [hv] at hc
        have HV : Hid (fitsV false fs f x = true) := hv
        clear hv
        go_wp2_with (first | (go_at_call 31; refine hc.mono ?_; rintro e w2 ⟨rfl, hk2⟩; have hk3 := (Keeps.alloc None wr _).trans hk2 (fun _ f _ => f)))
        refine ⟨⟨k + 1, by omega, by simp, fun j g hj hg => ?_, (hk3.block B (Array.getElem?_eq_some_iff.1 HK.out.2.2.2).1 (fun f => f)).trans HK.out.2.2.2, HK.out.1.trans hk3 (fun _ f _ => f)⟩, by simp [intOf]; omega⟩
        by_cases hjk : j = k
        · subst hjk
          rw [HK.out.2.1] at hg
          obtain rfl := Option.some.inj hg
          exact HV.out
        · exact HK.out.2.2.1 j g (by omega) hg
    · have i1 : ¬ ((k : Int) < (n : Int)) := by omega
      have hkn2 : k = n := by omega
      subst hkn2
      obtain ⟨b, off, x, rfl, hx, hat⟩ := (HC.out.more hkp).at (k := k - 1) (by omega)
      have y0 := hat.kind
      have hfx := hall (k - 1) x (by omega) hx
      obtain ⟨xk, xa, xb, xc, xK⟩ := x
      have hb10 : belowV xk 10 = true := by
        simp only [fitsV, Bool.and_eq_true] at hfx
        exact hfx.1.1
      obtain ⟨q, rfl⟩ := Int.eq_ofNat_of_zero_le ((belowV_iff _ _).1 hb10).1
      have hq := ((belowV_iff _ _).1 hb10).2
      obtain ⟨t0, t1, t2, t3, t4⟩ := (HH.out.2.2.2.more hkp).at q (by omega)
      have i2 : (0 : Int) ≤ (q : Int) := by omega
      have i3 : (0 : Int) ≤ ((k - 1 : Nat) : Int) := by omega
      have i4 : ((k - 1 : Nat) : Int) < (k : Int) := by omega
      have i5 : wrap64 ((k : Int) - 1) = ((k - 1 : Nat) : Int) := by unfold wrap64; omega
      have HK : Hid (Keeps None w wr ∧ f.code[k - 1]? = some ⟨q, xa, xb, xc, xK⟩ ∧ (∀ j x, j < k → f.code[j]? = some x → fitsV false fs f x = true)) := ⟨hkp, hx, hall⟩
      have HR : Hid (runsOut f = fN q) := by
        unfold Hid runsOut
        rw [← HH.out.2.2.1, hx]
        rfl
      clear hx hkp hall hfx hb10 hat
      cases hv : fN q with
      | false =>
        rw [hv] at t4 HR
        clear hv
        go_wp2_with fail
        go_end0
        refine ⟨?_, HK.out.1⟩
        unfold codeE codeFault
        rw [firstAt_none _ f.code 0 (fun j y hy => by rw [HK.out.2.2 j y (by have := (List.getElem?_eq_some_iff.1 hy).1; have := HH.out.2.2.1; omega) hy]; rfl), HR.out]
        rfl
      | true =>
        rw [hv] at t4 HR
        clear hv
        go_wp2_with (go_at_call 29; refine (giveUp_any _ _ _ _).mono ?_; rintro e w' ⟨rfl, hw⟩; have hw2 := hw.symm; subst hw2)
        refine ⟨rfl, ?_, HK.out.1⟩
        unfold codeE codeFault
        rw [firstAt_none _ f.code 0 (fun j y hy => by rw [HK.out.2.2 j y (by have := (List.getElem?_eq_some_iff.1 hy).1; have := HH.out.2.2.1; omega) hy]; rfl), HR.out, ← HH.out.2.2.1]
        rfl
end Go.Proofs.YtokfbagacehbgaaDoor
