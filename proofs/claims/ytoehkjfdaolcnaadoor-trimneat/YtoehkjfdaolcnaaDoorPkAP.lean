import Derived.Test.YtoehkjfdaolcnaaDoorPkAO
import Derived.Test.YtoehkjfdaolcnaaDoorPkAI
/-! The document's look at spawns, at the last instruction, at slots. -/
namespace Go.Proofs.YtoehkjfdaolcnaaDoor
set_option linter.unusedVariables false
set_option maxRecDepth 20000
open Go.RowKit Go.HeapKit

def calledV (fs : List Fn) (f : Fn) (i : Ins) : Bool := if i.kind = 5 then belowV i.b fs.length && (decide (parV fs i.b = 0) || (belowV i.c f.regs && decide (parV fs i.b ≤ f.regs - i.c))) else true
theorem called_fits {fs : List Fn} {f : Fn} {i : Ins} (hp : ∀ g ∈ fs, 0 ≤ g.params) : fitsV false fs f i = (fitsV true [] f i && calledV fs f i) := by
  obtain ⟨ik, ia, ib, ic, iK⟩ := i
  have hp2 : 0 ≤ parV fs ib := by
    unfold parV
    cases hq : fs[ib.toNat]? with
    | none => simp
    | some g => simpa using hp g (List.mem_of_getElem? hq)
  by_cases hk : 0 ≤ ik ∧ ik < 10
  · rcases kinds (i := ⟨ik, ia, ib, ic, iK⟩) hk.1 hk.2 with h | h | h | h | h | h | h | h | h | h
    all_goals
      simp only at h
      subst h
    all_goals try (simp [fitsV, allowsV, fA, fB, fC, fK, calledV]; done)
    simp only [fitsV, allowsV, fA, fB, fC, fK, calledV, holdsV, belowV]
    generalize parV fs ib = P at *
    simp
    by_cases h0 : P = 0
    · simp [h0]
    · have e : (0 ≤ ic ∧ ic < f.regs) ∧ P ≤ f.regs - ic ↔ 0 ≤ ic ∧ P ≤ f.regs - ic := by omega
      by_cases h1 : 0 ≤ ic <;> by_cases h2 : P ≤ f.regs - ic
      · have h3 : ic < f.regs := by omega
        simp [h0, h1, h2, h3]
      · simp [h0, h1, h2]
      · simp [h0, h1]
      · simp [h0, h1]
  · have hz : belowV ik 10 = false := by
      cases hb : belowV ik 10
      · rfl
      · exact absurd ((belowV_iff _ _).1 hb) hk
    simp [fitsV, hz]
set_option maxHeartbeats 1000000 in
theorem rcalled_any (fa : Option Addr) (n fc : Nat) (fs : List Fn) (f : Fn) (ca : Option Addr) (cc : Nat) (i : Ins) (w : World) (hS : SeenF w fa n fs) (hr : 0 ≤ f.regs ∧ f.regs ≤ 16) (hi : i.Ok) :
    Calls Tryd.prog 27 #[.agg #[.slice fa n fc], fnV f ca cc, insV i] w fun e w' => e = .returned (.bool (calledV fs f i)) ∧ Keeps None w w' := by
  obtain ⟨V, hV⟩ : ∃ V, V = calledV fs f i := ⟨_, rfl⟩
  rw [← hV]
  have HV : Hid _ := hV
  have hln0 := hS.len
  have HLN : Hid _ := hln0
  obtain ⟨ik, ia, ib, ic, iK⟩ := i
  obtain ⟨_, _, ob, oc, _⟩ := hi
  simp only at ob oc
  unfold fnV insV
  by_cases h5 : ik = 5
  · subst h5
    by_cases hb : 0 ≤ ib ∧ ib < n
    · obtain ⟨k, rfl⟩ := Int.eq_ofNat_of_zero_le hb.1
      have hk3 : Keeps None w (((w.alloc (.cells #[.slice fa n fc] 24)).alloc (.cells #[.int .i64 f.params, .int .i64 f.regs, .int .i64 f.slots, .slice ca f.code.length cc] 37)).alloc (.cells #[.int .i64 5, .int .i64 ia, .int .i64 k, .int .i64 ic, .int .i64 iK] 39)) := ((Keeps.refl None w).andAlloc _).andAlloc _ |>.andAlloc _
      obtain ⟨gb, off, g, gca, gcc, rfl, hg, hat⟩ := (hS.more hk3).at (k := k) (by omega)
      have c1 := hat.params
      have hP : parV fs k = g.params := by simp [parV, hg]
      have hvv : calledV fs f ⟨5, ia, k, ic, iK⟩ = (decide (g.params = 0) || (belowV ic f.regs && decide (g.params ≤ f.regs - ic))) := by
        have hb2 : belowV (k : Int) fs.length = true := (belowV_iff _ _).2 ⟨by omega, by omega⟩
        simp only [calledV, if_true, hP, hb2, Bool.true_and]
      rw [hvv] at hV
      have HV2 : Hid _ := hV
      have i1 : (k : Int) < (n : Int) := by omega
      have b1 : belowV (k : Int) n = true := (belowV_iff _ _).2 ⟨by omega, by omega⟩
      clear hV HV hvv hP hg hat hS hk3 hln0
      have B1 := fun w => rbelow_any (k : Int) n w
      rw [b1] at B1
      clear b1
      by_cases h0 : g.params = 0
      · have h0b : (g.params == 0) = true := by simpa using h0
        have HH : Hid _ := h0
        clear h0
        go_enter Tryd.func27, Tryd.ntmps27
        go_wp2_with fail
        refine (B1 _).mono ?_
        rintro e w' ⟨rfl, hw⟩
        have hw2 := hw.symm
        subst hw2
        clear hw
        go_wp2_with fail
        go_ret
        refine ⟨?_, ((Keeps.refl None w).andAlloc _).andAlloc _ |>.andAlloc _⟩
        rw [HV2.out, HH.out]
        simp
      · have h0b : (g.params == 0) = false := by simpa using h0
        have HH : Hid _ := h0
        clear h0
        cases b2 : belowV ic f.regs with
        | false =>
          have B2 := fun w => rbelow_any ic f.regs w
          rw [b2] at B2
          have HB2 : Hid _ := b2
          clear b2
          go_enter Tryd.func27, Tryd.ntmps27
          go_wp2_with fail
          refine (B1 _).mono ?_
          rintro e w' ⟨rfl, hw⟩
          have hw2 := hw.symm
          subst hw2
          clear hw
          go_wp2_with fail
          refine (B2 _).mono ?_
          rintro e w' ⟨rfl, hw⟩
          have hw2 := hw.symm
          subst hw2
          clear hw
          go_wp2_with fail
          go_ret
          refine ⟨?_, ((Keeps.refl None w).andAlloc _).andAlloc _ |>.andAlloc _⟩
          rw [HV2.out, HB2.out]
          have h1 : ¬ g.params = 0 := HH.out
          simp [h1]
        | true =>
          have hc := (belowV_iff _ _).1 b2
          have B2 := fun w => rbelow_any ic f.regs w
          rw [b2] at B2
          have HB2 : Hid _ := b2
          have e2 : IntKind.i64.wrap (f.regs - ic) = f.regs - ic := Go.IntWalk.i64_in _ (by omega)
          clear b2
          by_cases hle : g.params ≤ f.regs - ic
          all_goals
            go_enter Tryd.func27, Tryd.ntmps27
            go_wp2_with fail
            refine (B1 _).mono ?_
            rintro e w' ⟨rfl, hw⟩
            have hw2 := hw.symm
            subst hw2
            clear hw
            go_wp2_with fail
            refine (B2 _).mono ?_
            rintro e w' ⟨rfl, hw⟩
            have hw2 := hw.symm
            subst hw2
            clear hw
            go_wp2_with fail
            go_ret
            refine ⟨?_, ((Keeps.refl None w).andAlloc _).andAlloc _ |>.andAlloc _⟩
            rw [HV2.out, HB2.out]
            have h1 : ¬ g.params = 0 := HH.out
            first | (simp [h1, hle]; done) | (simp [h1]; omega)
    · have b1 : belowV ib n = false := by
        cases hb' : belowV ib n
        · rfl
        · exact absurd ((belowV_iff _ _).1 hb') hb
      have HB : Hid _ := b1
      have B1 := fun w => rbelow_any ib n w
      rw [b1] at B1
      clear hV hb b1 hln0 hS
      go_enter Tryd.func27, Tryd.ntmps27
      go_wp2_with fail
      refine (B1 _).mono ?_
      rintro e w' ⟨rfl, hw⟩
      have hw2 := hw.symm
      subst hw2
      clear hw
      go_wp2_with fail
      go_ret
      refine ⟨?_, ((Keeps.refl None w).andAlloc _).andAlloc _ |>.andAlloc _⟩
      rw [HV.out]
      simp [calledV, ← HLN.out, HB.out]
  · have q : (ik == 5) = false := by simpa using h5
    have q2 : (ik != 5) = true := by simpa using h5
    clear hV hln0 hS
    go_enter Tryd.func27, Tryd.ntmps27
    go_wp2_with fail
    go_ret
    refine ⟨?_, ((Keeps.refl None w).andAlloc _).andAlloc _ |>.andAlloc _⟩
    rw [HV.out]
    simp [calledV, h5]
theorem rends_any (f : Fn) (ca : Option Addr) (cc : Nat) (w : World) (hC : SeenI w ca f.code.length f.code) (h1 : 1 ≤ f.code.length) (h2 : f.code.length ≤ 512) (hk : ∀ (j : Nat) (i : Ins), f.code[j]? = some i → 0 ≤ i.kind ∧ i.kind < 10) :
    Calls Tryd.prog 28 #[fnV f ca cc] w fun e w' => e = .returned (.bool (!runsOut f)) ∧ Keeps None w w' := by
  have hC2 := hC.more (Keeps.alloc None w (.cells #[.int .i64 f.params, .int .i64 f.regs, .int .i64 f.slots, .slice ca f.code.length cc] 37))
  obtain ⟨b, off, i, rfl, hi, hat⟩ := hC2.at (k := f.code.length - 1) (by omega)
  have hki := hk _ _ hi
  have hv : runsOut f = fN i.kind.toNat := by unfold runsOut; rw [hi]
  rw [hv]
  have c1 := hat.kind
  unfold fnV
  obtain ⟨m, hm⟩ : ∃ m, f.code.length = m + 1 := ⟨f.code.length - 1, by omega⟩
  rw [hm] at c1 ⊢
  rw [show m + 1 - 1 = m by omega] at c1
  have i1 : ((m + 1 : Nat) : Int) - 1 = (m : Int) := by omega
  have i2 : (m : Int) < ((m + 1 : Nat) : Int) := by omega
  have i3 : m ≤ 512 := by omega
  obtain ⟨ik, ia, ib, ic, iK⟩ := i
  simp only at hki c1 ⊢
  obtain ⟨k, rfl⟩ := Int.eq_ofNat_of_zero_le hki.1
  have h10 : k < 10 := by omega
  have HF : Hid (fN k = !(((k : Int) == 3) || ((k : Int) == 9))) := by
    have : ∀ k, k < 10 → fN k = !((k == 3) || (k == 9)) := by decide
    unfold Hid
    rw [this k h10]
    congr 1
    by_cases e3 : k = 3
    · subst e3; rfl
    · by_cases e9 : k = 9
      · subst e9; rfl
      · have u1 : ((k : Int) == 3) = false := by simp; omega
        have u2 : ((k : Int) == 9) = false := by simp; omega
        have u3 : (k == 3) = false := by simp; omega
        have u4 : (k == 9) = false := by simp; omega
        rw [u1, u2, u3, u4]
  have HK : Hid (((k : Int)).toNat = k) := rfl
  clear hki hC hC2 hi hk hat hv h10
  generalize (k : Int) = K at *
  go_enter Tryd.func28, Tryd.ntmps28
  go_wp2_with fail
  all_goals
    go_ret
    refine ⟨?_, (Keeps.refl _ _).andAlloc _⟩
    rw [HK.out, HF.out]
    simp_all

theorem and3_bits (x : Int) (h0 : 0 ≤ x) (h7 : x ≤ 7) : (bits BinOp.and .i64 x 3 != 0) = hasLess x := by
  obtain rfl | rfl | rfl | rfl | rfl | rfl | rfl | rfl : x = 0 ∨ x = 1 ∨ x = 2 ∨ x = 3 ∨ x = 4 ∨ x = 5 ∨ x = 6 ∨ x = 7 := by omega
  all_goals rfl
set_option maxHeartbeats 1000000 in
theorem rslotFault_any (i : Ins) (gr m : Nat) (row : List Int) (w : World) (hb : ∀ (k : Nat) x, row[k]? = some x → w.cell? ⟨gr, k, none⟩ = some (.int .i64 x)) (hl : row.length = m) (h7 : ∀ x ∈ row, 0 ≤ x ∧ x ≤ 7) (hm8 : m ≤ 8)
    (ha : i.kind = 5 → 0 ≤ i.a ∧ i.a < m) (hq : i.kind = 7 → 0 ≤ i.b ∧ i.b < m) :
    Calls Tryd.prog 29 #[insV i, .slice (some ⟨gr, 0, none⟩) m m] w fun e w' => e = .returned (.int .i64 (misuseV i row)) ∧ Keeps None w w' := by
  obtain ⟨ik, ia, ib, ic, iK⟩ := i
  simp only at ha hq
  have hal := Keeps.alloc None w (.cells #[.int .i64 ik, .int .i64 ia, .int .i64 ib, .int .i64 ic, .int .i64 iK] 39)
  have hb2 : ∀ (k : Nat) x, row[k]? = some x → (w.alloc (.cells #[.int .i64 ik, .int .i64 ia, .int .i64 ib, .int .i64 ic, .int .i64 iK] 39)).cell? ⟨gr, k, none⟩ = some (.int .i64 x) := fun k x h => hal.cell (hb k x h) (fun f => f)
  have HB : Hid _ := hb2
  have HL : Hid (row.length = m ∧ ∀ x ∈ row, 0 ≤ x ∧ x ≤ 7) := ⟨hl, h7⟩
  clear hb hl h7 hb2 hal
  unfold insV
  by_cases k5 : ik = 5
  · obtain ⟨a0, a1⟩ := ha k5
    clear ha hq
    subst k5
    obtain ⟨a, rfl⟩ := Int.eq_ofNat_of_zero_le a0
    obtain ⟨x, hx⟩ : ∃ x, row[a]? = some x := ⟨row[a]'(by have := HL.out.1; omega), List.getElem?_eq_getElem _⟩
    have hv : misuseV ⟨5, a, ib, ic, iK⟩ row = if has2 x then 54 else 0 := by simp [misuseV, List.getD_eq_getElem?_getD, hx]
    rw [hv]
    have c0 := HB.out a x hx
    have hx7 := HL.out.2 x (List.mem_of_getElem? hx)
    have hr := and2_bits x hx7.1 hx7.2
    clear hx hx7 hv
    cases hh : has2 x
    all_goals
      rw [hh] at hr
      clear hh
      try simp only [if_true] at hr
      try simp only [Bool.false_eq_true, if_false] at hr
      go_enter Tryd.func29, Tryd.ntmps29
      go_wp2_with fail
      go_ret
      exact ⟨rfl, (Keeps.refl _ _).andAlloc _⟩
  · by_cases k7 : ik = 7
    · obtain ⟨a0, a1⟩ := hq k7
      clear ha hq k5
      subst k7
      obtain ⟨a, rfl⟩ := Int.eq_ofNat_of_zero_le a0
      obtain ⟨x, hx⟩ : ∃ x, row[a]? = some x := ⟨row[a]'(by have := HL.out.1; omega), List.getElem?_eq_getElem _⟩
      have hv : misuseV ⟨7, ia, a, ic, iK⟩ row = if hasLess x then 55 else 0 := by simp [misuseV, List.getD_eq_getElem?_getD, hx]
      rw [hv]
      have c0 := HB.out a x hx
      have hx7 := HL.out.2 x (List.mem_of_getElem? hx)
      have hy := and3_bits x hx7.1 hx7.2
      clear hx hx7 hv
      cases hh : hasLess x
      all_goals
        rw [hh] at hy
        clear hh
        have hy2 := hy
        simp only [bne_iff_ne, ne_eq, bne_eq_false_iff_eq] at hy2
        go_enter Tryd.func29, Tryd.ntmps29
        go_wp2_with fail
        go_ret
        exact ⟨rfl, (Keeps.refl _ _).andAlloc _⟩
    · clear ha hq
      by_cases k9 : ik = 9
      · subst k9
        clear k5 k7
        have hv : misuseV ⟨9, ia, ib, ic, iK⟩ row = if row.any has2 then 56 else 0 := by simp [misuseV]
        rw [hv]
        obtain ⟨R, hR⟩ : ∃ R : Int, R = if row.any has2 then 56 else 0 := ⟨_, rfl⟩
        rw [← hR]
        have HR : Hid (R = if row.any has2 then 56 else 0) := hR
        clear hv hR
        obtain ⟨wa, hwa⟩ : ∃ wa, wa = w.alloc (.cells #[.int .i64 9, .int .i64 ia, .int .i64 ib, .int .i64 ic, .int .i64 iK] 39) := ⟨_, rfl⟩
        have HK : Hid (Keeps None w wa) := by rw [hwa]; exact Keeps.alloc None w _
        have HB2 : Hid (∀ (k : Nat) x, row[k]? = some x → wa.cell? ⟨gr, k, none⟩ = some (.int .i64 x)) := by rw [hwa]; exact HB.out
        clear HB
        go_enter Tryd.func29, Tryd.ntmps29
        go_wp2_with fail
        rw [← hwa]
        clear hwa
        go_loop [5] (fun s5 => ∃ k : Nat, k ≤ m ∧ s5 = .int .i64 k ∧ ∀ (j : Nat) x, j < k → row[j]? = some x → has2 x = false) (fun i => m - (intOf i).toNat)
        case atStart => exact ⟨0, Nat.zero_le _, rfl, fun j _ h => by omega⟩
        case round =>
          obtain ⟨k, hk, rfl, hall⟩ := hrel
          by_cases hkm : k < m
          · have i1 : (k : Int) < (m : Int) := by omega
            obtain ⟨x, hx⟩ : ∃ x, row[k]? = some x := ⟨row[k]'(by have := HL.out.1; omega), List.getElem?_eq_getElem _⟩
            have c0 := HB2.out k x hx
            have hx7 := HL.out.2 x (List.mem_of_getElem? hx)
            have hr := and2_bits x hx7.1 hx7.2
            have HA : Hid ((∀ (j : Nat) x, j < k → row[j]? = some x → has2 x = false) ∧ row[k]? = some x) := ⟨hall, hx⟩
            clear hx hx7 hall
            cases hh : has2 x with
            | true =>
              rw [hh] at hr
              have HH : Hid (has2 x = true) := hh
              clear hh
              simp only [if_true] at hr
              go_wp2_with fail
              go_ret
              rw [HR.out, if_pos (List.any_eq_true.2 ⟨x, List.mem_of_getElem? HA.out.2, HH.out⟩)]
              exact ⟨rfl, HK.out⟩
            | false =>
              rw [hh] at hr
              have HH : Hid (has2 x = false) := hh
              clear hh
              simp only [Bool.false_eq_true, if_false] at hr
              go_wp2_with fail
              refine ⟨⟨k + 1, by omega, by simp, fun j y hj hy => ?_⟩, by simp [intOf]; omega⟩
              by_cases e : j = k
              · subst e
                rw [HA.out.2] at hy
                obtain rfl := Option.some.inj hy
                exact HH.out
              · exact HA.out.1 j y (by omega) hy
          · have i1 : ¬ ((k : Int) < (m : Int)) := by omega
            have HA : Hid (row.any has2 = false) := by
              unfold Hid
              rw [List.any_eq_false]
              intro x hx
              obtain ⟨j, hj, rfl⟩ := List.mem_iff_getElem.1 hx
              rw [hall j _ (by have := HL.out.1; omega) (List.getElem?_eq_getElem hj)]
              simp
            clear hall
            go_wp2_with fail
            go_ret
            rw [HR.out, HA.out]
            exact ⟨rfl, HK.out⟩
      · have hv : misuseV ⟨ik, ia, ib, ic, iK⟩ row = 0 := by simp [misuseV, k5, k7, k9]
        rw [hv]
        have q5 : (ik == 5) = false := by simpa using k5
        have q7 : (ik == 7) = false := by simpa using k7
        have q9 : (ik == 9) = false := by simpa using k9
        clear hv
        go_enter Tryd.func29, Tryd.ntmps29
        go_wp2_with fail
        go_ret
        exact ⟨rfl, (Keeps.refl _ _).andAlloc _⟩
end Go.Proofs.YtoehkjfdaolcnaaDoor
/-! The document's search of a slot's states. -/
namespace Go.Proofs.YtoehkjfdaolcnaaDoor
set_option linter.unusedVariables false
set_option maxRecDepth 20000
open Go.RowKit Go.HeapKit

theorem met_bool {n : Nat} {fr : List Pt} {p q here : Pt} (hp : PtOk n p) (hq : PtOk n q) (hl : fr.length = n * 5) (hh : here.2 ≠ 0) (hne : q ≠ p) : metV (fr.set (ptIx p) here) q = metV fr q := by
  have := met_set hp hq hl hh (fr := fr)
  cases h1 : metV fr q
  · cases h2 : metV (fr.set (ptIx p) here) q
    · rfl
    · rcases this.1 h2 with h | h
      · exact absurd h hne
      · rw [h1] at h; cases h
  · exact this.2 (.inr h1)
theorem sumAt_set {n : Nat} {fr : List Pt} (hb : Bare n fr) (hl : fr.length = n * 5) {a : Nat} {st : Int} {here : Pt} (hp : PtOk n ((a : Int), st)) (hh : here.2 ≠ 0) (hm : metV fr ((a : Int), st) = false) (k : Nat) (hk : k < n) :
    sumAt (fr.set (ptIx ((a : Int), st)) here) k = if k = a then sumAt fr k + st else sumAt fr k := by
  have ok : ∀ s : Int, s = 1 ∨ s = 2 ∨ s = 4 → PtOk n ((k : Int), s) := fun s hs => ⟨by simp, by simp; omega, hs⟩
  have hs : metV (fr.set (ptIx ((a : Int), st)) here) ((a : Int), st) = true := (met_set hp hp hl hh).2 (.inl rfl)
  rw [sum_at (hb.set hp) k hk, sum_at hb k hk]
  by_cases e : k = a
  · subst e
    rw [if_pos rfl]
    rcases hp.st with h | h | h
    · simp only at h
      subst h
      rw [met_bool hp (ok 2 (by simp)) hl hh (by simp), met_bool hp (ok 4 (by simp)) hl hh (by simp), hs, hm]
      simp
      omega
    · simp only at h
      subst h
      rw [met_bool hp (ok 1 (by simp)) hl hh (by simp), met_bool hp (ok 4 (by simp)) hl hh (by simp), hs, hm]
      simp
      omega
    · simp only at h
      subst h
      rw [met_bool hp (ok 2 (by simp)) hl hh (by simp), met_bool hp (ok 1 (by simp)) hl hh (by simp), hs, hm]
      simp
  · rw [if_neg e]
    have ne : ∀ s : Int, ((k : Int), s) ≠ ((a : Int), st) := fun s h => e (by simp at h; omega)
    rw [met_bool hp (ok 1 (by simp)) hl hh (ne 1), met_bool hp (ok 2 (by simp)) hl hh (ne 2), met_bool hp (ok 4 (by simp)) hl hh (ne 4)]
theorem and_met {n : Nat} {fr : List Pt} (hb : Bare n fr) (k : Nat) (hk : k < n) (st : Int) (hst : st = 1 ∨ st = 2 ∨ st = 4) : (bits BinOp.and .i64 (sumAt fr k) st == 0) = !metV fr ((k : Int), st) := by
  rw [sum_at hb k hk]
  rcases hst with rfl | rfl | rfl <;> cases metV fr (k, 1) <;> cases metV fr (k, 2) <;> cases metV fr (k, 4) <;> rfl
theorem sum_fr0 (n : Nat) (hn : 1 ≤ n) (k : Nat) (hk : k < n) : sumAt (fr0 n) k = if k = 0 then 1 else 0 := by
  have ok : ∀ s : Int, s = 1 ∨ s = 2 ∨ s = 4 → PtOk n ((k : Int), s) := fun s hs => ⟨by simp, by simp; omega, hs⟩
  have m : ∀ s : Int, s = 1 ∨ s = 2 ∨ s = 4 → metV (fr0 n) ((k : Int), s) = decide (k = 0 ∧ s = 1) := by
    intro s hs
    have := fr0_met hn (ok s hs)
    cases h : metV (fr0 n) ((k : Int), s)
    · symm
      rw [decide_eq_false_iff_not]
      rintro ⟨rfl, rfl⟩
      rw [this.2 rfl] at h
      cases h
    · symm
      rw [decide_eq_true_eq]
      have := this.1 h
      simp at this
      exact ⟨by omega, this.2⟩
  rw [sum_at (fr0_bare n hn) k hk, m 1 (by simp), m 2 (by simp), m 4 (by simp)]
  by_cases h : k = 0 <;> simp [h]
def sums (fr : List Pt) (n : Nat) : Array Value := ((List.range n).map (fun k => Value.int .i64 (sumAt fr k))).toArray
theorem sums_set {n : Nat} {fr : List Pt} (hb : Bare n fr) (hl : fr.length = n * 5) {a : Nat} {st : Int} {here : Pt} (hp : PtOk n ((a : Int), st)) (hh : here.2 ≠ 0) (hm : metV fr ((a : Int), st) = false) :
    (sums fr n).setIfInBounds a (.int .i64 (sumAt fr a + st)) = sums (fr.set (ptIx ((a : Int), st)) here) n := by
  unfold sums
  rw [range_set]
  congr 1
  apply List.map_congr_left
  intro j hj
  rw [sumAt_set hb hl hp hh hm j (List.mem_range.1 hj)]
  by_cases e : j = a
  · subst e; simp
  · simp [e]

/-- The search's memory: the function, what was met, the places, the states. -/
structure Srch (w wr : World) (B M n : Nat) (fv : Array Value) (fr : List Pt) (P S : List Int) (pv sv : Value) : Prop where
  keep : Keeps None w wr
  box : wr.heap[B]? = some (.cells fv 37 (0, 0))
  met : wr.heap[M]? = some (.cells (sums fr n) 3 (0, 0))
  pl : wr.ownsRow 0 3 1 pv P.length (P.map (Value.int .i64))
  st : wr.ownsRow 0 3 1 sv S.length (S.map (Value.int .i64))
  low : w.heap.size ≤ B
  lowM : w.heap.size ≤ M
  pne : pv.ownBlock ≠ some M
  sne : sv.ownBlock ≠ some M
  psn : ∀ g, pv.ownBlock = some g → sv.ownBlock ≠ some g
  plow : ∀ g, pv.ownBlock = some g → w.heap.size ≤ g
  slow : ∀ g, sv.ownBlock = some g → w.heap.size ≤ g
section
variable {w wr w' : World} {B M n : Nat} {fv : Array Value} {fr : List Pt} {P S : List Int} {pv sv : Value}
theorem Srch.more (h : Srch w wr B M n fv fr P S pv sv) (hk : Keeps None wr w') : Srch w w' B M n fv fr P S pv sv :=
  ⟨h.keep.trans hk (fun _ f _ => f), blk_kept h.box hk (fun f => f), blk_kept h.met hk (fun f => f), hk.own h.pl (fun _ _ f => f), hk.own h.st (fun _ _ f => f), h.low, h.lowM, h.pne, h.sne, h.psn, h.plow, h.slow⟩
theorem Srch.mark (h : Srch w wr B M n fv fr P S pv sv) (hb : Bare n fr) (hl : fr.length = n * 5) {a : Nat} {st : Int} {here : Pt} (hp : PtOk n ((a : Int), st)) (hh : here.2 ≠ 0) (hm : metV fr ((a : Int), st) = false) :
    Srch w (wr.setCell ⟨M, a, none⟩ (.int .i64 (sumAt fr a + st))) B M n fv (fr.set (ptIx ((a : Int), st)) here) P S pv sv := by
  have hk : Keeps (· = M) wr (wr.setCell ⟨M, a, none⟩ (.int .i64 (sumAt fr a + st))) := Keeps.setCell (S := (· = M)) wr rfl _
  refine ⟨h.keep.trans hk (fun i e hi => by have := h.lowM; omega), blk_kept h.box hk (blk_ne h.box h.met (by decide)), ?_, hk.own h.pl (fun g e q => h.pne (q ▸ e)), hk.own h.st (fun g e q => h.sne (q ▸ e)), h.low, h.lowM, h.pne, h.sne, h.psn, h.plow, h.slow⟩
  rw [blk_set h.met, sums_set hb hl hp hh hm]
theorem Srch.pushP (h : Srch w wr B M n fv fr P S pv sv) {x : Int} {g cap m : Nat} (hm : m = (P ++ [x]).length) (ho : w'.ownsRow 0 3 1 (.slice (some ⟨g, 0, none⟩) m cap) m ((P ++ [x]).map (Value.int .i64)))
    (hk : Keeps (fun k => pv.ownBlock = some k) wr w') (hg : pv.ownBlock = some g ∨ wr.heap.size ≤ g) : Srch w w' B M n fv fr (P ++ [x]) S (.slice (some ⟨g, 0, none⟩) m cap) sv := by
  subst hm
  have hM : g ≠ M := by
    rintro rfl
    rcases hg with e | e
    · exact h.pne e
    · have := blk_lt h.met; omega
  have hw : w.heap.size ≤ g := by
    rcases hg with e | e
    · exact h.plow g e
    · have := h.keep.size; omega
  refine ⟨h.keep.trans hk (fun i e hi => by have := h.plow i e; omega), blk_kept h.box hk (fun e => ?_), blk_kept h.met hk (fun e => h.pne e), ho, hk.own h.st (fun k e q => h.psn k q e), h.low, h.lowM, fun e => by simp [Value.ownBlock] at e; exact hM e, h.sne, fun k e q => ?_, fun k e => by simp [Value.ownBlock] at e; omega, h.slow⟩
  · have := own_type h.pl e h.box
    exact absurd this (by decide)
  · simp [Value.ownBlock] at e
    subst e
    rcases hg with e | e
    · exact h.psn _ e q
    · have := own_lt h.st q; omega
theorem Srch.pushS (h : Srch w wr B M n fv fr P S pv sv) {x : Int} {g cap m : Nat} (hm : m = (S ++ [x]).length) (ho : w'.ownsRow 0 3 1 (.slice (some ⟨g, 0, none⟩) m cap) m ((S ++ [x]).map (Value.int .i64)))
    (hk : Keeps (fun k => sv.ownBlock = some k) wr w') (hg : sv.ownBlock = some g ∨ wr.heap.size ≤ g) : Srch w w' B M n fv fr P (S ++ [x]) pv (.slice (some ⟨g, 0, none⟩) m cap) := by
  subst hm
  have hM : g ≠ M := by
    rintro rfl
    rcases hg with e | e
    · exact h.sne e
    · have := blk_lt h.met; omega
  have hw : w.heap.size ≤ g := by
    rcases hg with e | e
    · exact h.slow g e
    · have := h.keep.size; omega
  refine ⟨h.keep.trans hk (fun i e hi => by have := h.slow i e; omega), blk_kept h.box hk (fun e => ?_), blk_kept h.met hk (fun e => h.sne e), hk.own h.pl (fun k e q => h.psn k e q), ho, h.low, h.lowM, h.pne, fun e => by simp [Value.ownBlock] at e; exact hM e, fun k e q => ?_, h.plow, fun k e => by simp [Value.ownBlock] at e; omega⟩
  · have := own_type h.st e h.box
    exact absurd this (by decide)
  · simp [Value.ownBlock] at q
    subst q
    rcases hg with q | q
    · exact h.psn _ e q
    · have := own_lt h.pl e; omega
/-- A cell of a row of numbers. -/
theorem row_cell {w : World} {v : Value} {l : List Int} (h : w.ownsRow 0 3 1 v l.length (l.map (Value.int .i64))) {k : Nat} {x : Int} (hx : l[k]? = some x) : ∃ g cap, v = .slice (some ⟨g, 0, none⟩) l.length cap ∧ w.cell? ⟨g, k, none⟩ = some (.int .i64 x) := by
  have hk := (List.getElem?_eq_some_iff.1 hx).1
  rcases h.2 with ⟨rfl, h0⟩ | ⟨g, cap, cur, rfl, hb, hg, hn, hm, hc, ht⟩
  · omega
  · refine ⟨g, cap, rfl, ?_⟩
    rw [blk_cell hg]
    have : (l.map (Value.int .i64))[k]? = some (.int .i64 x) := by simp [hx]
    rw [← ht, List.getElem?_take, Nat.mul_one, if_pos hk] at this
    simpa using this
end
theorem row_made_n (w : World) (m : Nat) (hm : m ≤ 512) : (Instr.makeSlice 56 (.int .i64 m) (.int .i64 m)).run Tryd.prog w = .ok (.slice (some ⟨w.heap.size, 0, none⟩) m m) (w.alloc (.cells ((List.range m).map (fun _ => Value.int .i64 0)).toArray 3)) := by
  obtain ⟨i0, hi, hz0, hz1, hz2⟩ := info_parts Tryd.infoInt
  obtain ⟨M, hM, _, hr⟩ := run_make_block (P := Tryd.prog) (w := w) 56 3 i0 _ 1 8 Tryd.underlying56 hi hz0 hz1 hz2 m (by omega) (by omega)
  rw [hr, hM, Nat.mul_one, made_one _ rfl]
end Go.Proofs.YtoehkjfdaolcnaaDoor
