import Derived.Test.YtoehkjfdaolcnaaDoorPkAH
import Derived.Test.YtoehkjfdaolcnaaDoorPkAC
import Derived.Test.YtoehkjfdaolcnaaDoorPkAD
import Derived.Recover
import Derived.Defers
/-! What is wrong with an instruction where the slots have these states. -/
namespace Go.Proofs.YtoehkjfdaolcnaaDoor
set_option linter.unusedVariables false
set_option maxRecDepth 20000
open Go.RowKit Go.HeapKit

theorem and2_bits (x : Int) (h0 : 0 ≤ x) (h7 : x ≤ 7) : bits BinOp.and .i64 x 2 = if has2 x then 2 else 0 := by
  obtain rfl | rfl | rfl | rfl | rfl | rfl | rfl | rfl : x = 0 ∨ x = 1 ∨ x = 2 ∨ x = 3 ∨ x = 4 ∨ x = 5 ∨ x = 6 ∨ x = 7 := by omega
  all_goals rfl
theorem less_bits (x : Int) (h0 : 0 ≤ x) (h7 : x ≤ 7) : (bits BinOp.andNot .i64 x 4 != 0) = hasLess x := by
  obtain rfl | rfl | rfl | rfl | rfl | rfl | rfl | rfl : x = 0 ∨ x = 1 ∨ x = 2 ∨ x = 3 ∨ x = 4 ∨ x = 5 ∨ x = 6 ∨ x = 7 := by omega
  all_goals rfl
set_option maxHeartbeats 1000000 in
theorem misuse_any (i : Ins) (gr m : Nat) (row : List Int) (w : World) (hb : ∀ (k : Nat) x, row[k]? = some x → w.cell? ⟨gr, k, none⟩ = some (.int .i64 x)) (hl : row.length = m) (h7 : ∀ x ∈ row, 0 ≤ x ∧ x ≤ 7) (hm8 : m ≤ 8)
    (ha : i.kind = 5 → 0 ≤ i.a ∧ i.a < m) (hq : i.kind = 7 → 0 ≤ i.b ∧ i.b < m) :
    Calls Tryd.prog 75 #[insV i, .slice (some ⟨gr, 0, none⟩) m m] w fun e w' => e = .returned (.int .i64 (misuseV i row)) ∧ Keeps None w w' := by
  obtain ⟨ik, ia, ib, ic, iK⟩ := i
  simp only at ha hq
  have hal := Keeps.alloc None w (.cells #[.int .i64 ik, .int .i64 ia, .int .i64 ib, .int .i64 ic, .int .i64 iK] 39)
  have hb2 : ∀ (k : Nat) x, row[k]? = some x → (w.alloc (.cells #[.int .i64 ik, .int .i64 ia, .int .i64 ib, .int .i64 ic, .int .i64 iK] 39)).cell? ⟨gr, k, none⟩ = some (.int .i64 x) := fun k x h => hal.cell (hb k x h) (fun f => f)
  have HB : Hid _ := hb2
  have HL : Hid (row.length = m ∧ ∀ x ∈ row, 0 ≤ x ∧ x ≤ 7) := ⟨hl, h7⟩
  clear hb hl h7 hb2 hal
  unfold insV
  by_cases k5 : ik = 5
  · obtain ⟨a0, a1⟩ := ha k5
    clear ha hq
    subst k5
    obtain ⟨a, rfl⟩ := Int.eq_ofNat_of_zero_le a0
    obtain ⟨x, hx⟩ : ∃ x, row[a]? = some x := ⟨row[a]'(by have := HL.out.1; omega), List.getElem?_eq_getElem _⟩
    have hv : misuseV ⟨5, a, ib, ic, iK⟩ row = if has2 x then 54 else 0 := by simp [misuseV, List.getD_eq_getElem?_getD, hx]
    rw [hv]
    have c0 := HB.out a x hx
    have hx7 := HL.out.2 x (List.mem_of_getElem? hx)
    have hr := and2_bits x hx7.1 hx7.2
    clear hx hx7 hv
    cases hh : has2 x
    all_goals
      rw [hh] at hr
      clear hh
      try simp only [if_true] at hr
      try simp only [Bool.false_eq_true, if_false] at hr
      go_enter Tryd.func75, Tryd.ntmps75
      go_wp2_with fail
      go_ret
      exact ⟨rfl, (Keeps.refl _ _).andAlloc _⟩
  · by_cases k7 : ik = 7
    · obtain ⟨a0, a1⟩ := hq k7
      clear ha hq k5
      subst k7
      obtain ⟨a, rfl⟩ := Int.eq_ofNat_of_zero_le a0
      obtain ⟨x, hx⟩ : ∃ x, row[a]? = some x := ⟨row[a]'(by have := HL.out.1; omega), List.getElem?_eq_getElem _⟩
      have hv : misuseV ⟨7, ia, a, ic, iK⟩ row = if hasLess x then 55 else 0 := by simp [misuseV, List.getD_eq_getElem?_getD, hx]
      rw [hv]
      have c0 := HB.out a x hx
      have hx7 := HL.out.2 x (List.mem_of_getElem? hx)
      have hy := less_bits x hx7.1 hx7.2
      clear hx hx7 hv
      cases hh : hasLess x
      all_goals
        rw [hh] at hy
        clear hh
        have hy2 := hy
        simp only [bne_iff_ne, ne_eq, bne_eq_false_iff_eq] at hy2
        go_enter Tryd.func75, Tryd.ntmps75
        go_wp2_with fail
        go_ret
        exact ⟨rfl, (Keeps.refl _ _).andAlloc _⟩
    · clear ha hq
      by_cases k9 : ik = 9
      · subst k9
        clear k5 k7
        have hv : misuseV ⟨9, ia, ib, ic, iK⟩ row = if row.any has2 then 56 else 0 := by simp [misuseV]
        rw [hv]
        obtain ⟨R, hR⟩ : ∃ R : Int, R = if row.any has2 then 56 else 0 := ⟨_, rfl⟩
        rw [← hR]
        have HR : Hid (R = if row.any has2 then 56 else 0) := hR
        clear hv hR
        obtain ⟨wa, hwa⟩ : ∃ wa, wa = w.alloc (.cells #[.int .i64 9, .int .i64 ia, .int .i64 ib, .int .i64 ic, .int .i64 iK] 39) := ⟨_, rfl⟩
        have HK : Hid (Keeps None w wa) := by rw [hwa]; exact Keeps.alloc None w _
        have HB2 : Hid (∀ (k : Nat) x, row[k]? = some x → wa.cell? ⟨gr, k, none⟩ = some (.int .i64 x)) := by rw [hwa]; exact HB.out
        clear HB
        go_enter Tryd.func75, Tryd.ntmps75
        go_wp2_with fail
        rw [← hwa]
        clear hwa
        go_loop [31] (fun s31 => ∃ k : Nat, k ≤ m ∧ s31 = .int .i64 k ∧ ∀ (j : Nat) x, j < k → row[j]? = some x → has2 x = false) (fun i => m - (intOf i).toNat)
        case atStart => exact ⟨0, Nat.zero_le _, rfl, fun j _ h => by omega⟩
        case round =>
          obtain ⟨k, hk, rfl, hall⟩ := hrel
          by_cases hkm : k < m
          · have i1 : (k : Int) < (m : Int) := by omega
            obtain ⟨x, hx⟩ : ∃ x, row[k]? = some x := ⟨row[k]'(by have := HL.out.1; omega), List.getElem?_eq_getElem _⟩
            have c0 := HB2.out k x hx
            have hx7 := HL.out.2 x (List.mem_of_getElem? hx)
            have hr := and2_bits x hx7.1 hx7.2
            have HA : Hid ((∀ (j : Nat) x, j < k → row[j]? = some x → has2 x = false) ∧ row[k]? = some x) := ⟨hall, hx⟩
            clear hx hx7 hall
            cases hh : has2 x with
            | true =>
              rw [hh] at hr
              have HH : Hid (has2 x = true) := hh
              clear hh
              simp only [if_true] at hr
              go_wp2_with fail
              go_ret
              rw [HR.out, if_pos (List.any_eq_true.2 ⟨x, List.mem_of_getElem? HA.out.2, HH.out⟩)]
              exact ⟨rfl, HK.out⟩
            | false =>
              rw [hh] at hr
              have HH : Hid (has2 x = false) := hh
              clear hh
              simp only [Bool.false_eq_true, if_false] at hr
              go_wp2_with fail
              refine ⟨⟨k + 1, by omega, by simp, fun j y hj hy => ?_⟩, by simp [intOf]; omega⟩
              by_cases e : j = k
              · subst e
                rw [HA.out.2] at hy
                obtain rfl := Option.some.inj hy
                exact HH.out
              · exact HA.out.1 j y (by omega) hy
          · have i1 : ¬ ((k : Int) < (m : Int)) := by omega
            have HA : Hid (row.any has2 = false) := by
              unfold Hid
              rw [List.any_eq_false]
              intro x hx
              obtain ⟨j, hj, rfl⟩ := List.mem_iff_getElem.1 hx
              rw [hall j _ (by have := HL.out.1; omega) (List.getElem?_eq_getElem hj)]
              simp
            clear hall
            go_wp2_with fail
            go_ret
            rw [HR.out, HA.out]
            exact ⟨rfl, HK.out⟩
      · have hv : misuseV ⟨ik, ia, ib, ic, iK⟩ row = 0 := by simp [misuseV, k5, k7, k9]
        rw [hv]
        have q5 : (ik == 5) = false := by simpa using k5
        have q7 : (ik == 7) = false := by simpa using k7
        have q9 : (ik == 9) = false := by simpa using k9
        clear hv
        go_enter Tryd.func75, Tryd.ntmps75
        go_wp2_with fail
        go_ret
        exact ⟨rfl, (Keeps.refl _ _).andAlloc _⟩
end Go.Proofs.YtoehkjfdaolcnaaDoor
/-! What a function does to its slots. -/
namespace Go.Proofs.YtoehkjfdaolcnaaDoor
set_option linter.unusedVariables false
set_option maxRecDepth 20000
open Go.RowKit Go.HeapKit

def slotsE (number : Int) (f : Fn) : Ending := match slotFault f with
  | some r => .panicked (thrown r.1 number r.2)
  | none => .returned (.tuple #[])
theorem sum_seven {n : Nat} {fr : List Pt} (h : Bare n fr) (a : Nat) (ha : a < n) : 0 ≤ sumAt fr a ∧ sumAt fr a ≤ 7 := by
  rw [sum_at h a ha]
  cases metV fr (a, 1) <;> cases metV fr (a, 2) <;> cases metV fr (a, 4) <;> decide
theorem row_len (f : Fn) (k m : Nat) (hm : (m : Int) = f.slots) : (rowV f k).length = m := by simp [rowV]; omega
theorem row_seven {f : Fn} (hG : Good f) (k : Nat) (hk : k < f.code.length) : ∀ x ∈ rowV f k, 0 ≤ x ∧ x ≤ 7 := by
  intro x hx
  unfold rowV at hx
  obtain ⟨s, _, rfl⟩ := List.mem_map.1 hx
  exact sum_seven (search_bare hG _ _) k hk
theorem row_cells {w : World} {f : Fn} {g n m : Nat} (hm : (m : Int) = f.slots) (h : IsM w g n m n (fun k s => sumAt (searchV f s (0, 0)) k)) (k : Nat) (hk : k < n) : ∀ (s : Nat) x, (rowV f k)[s]? = some x → w.cell? ⟨g + 1 + k, s, none⟩ = some (.int .i64 x) := by
  intro s x hx
  have hs : s < m := by have := (List.getElem?_eq_some_iff.1 hx).1; rw [row_len f k m hm] at this; exact this
  rw [row_at k s (by omega)] at hx
  obtain rfl := Option.some.inj hx
  exact h.cell hk hs
set_option maxHeartbeats 1000000 in
theorem slots_any (number : Int) (f : Fn) (ca : Option Addr) (cc : Nat) (w : World) (al : Bool) (fs : List Fn) (hT : Tabs w) (hC : SeenI w ca f.code.length f.code) (hsh : shapeV f = true) (hcf : codeFault al fs f = none) :
    Calls Tryd.prog 57 #[.int .i64 number, fnV f ca cc] w fun e w' => e = slotsE number f ∧ Keeps None w w' := by
  have hG := good_of hsh hcf
  have hfit := (code_parts hcf).1
  have hsl : 0 ≤ f.slots ∧ f.slots ≤ 8 := by
    simp only [shapeV, Bool.and_eq_true, decide_eq_true_eq] at hsh
    omega
  obtain ⟨n, hn⟩ : ∃ n, n = f.code.length := ⟨_, rfl⟩
  obtain ⟨m, hm⟩ : ∃ m : Nat, (m : Int) = f.slots := ⟨f.slots.toNat, by omega⟩
  have hm8 : m ≤ 8 := by omega
  have hfl := fun (wx : World) (hk : Keeps None w wx) => flow_any f ca cc wx (hT.more hk) (hC.more hk) hG n m hn hm hm8
  unfold fnV at hfl ⊢
  rw [← hn] at hfl hC ⊢
  have n2 : n ≤ 512 := by have := hG.n2; omega
  have HG : Hid (Good f ∧ n = f.code.length ∧ (m : Int) = f.slots ∧ SeenI w ca n f.code ∧ ∀ (j : Nat) i, f.code[j]? = some i → fitsV al fs f i = true) := ⟨hG, hn, hm, hC, hfit⟩
  have HF : Hid _ := hfl
  obtain ⟨B, hB⟩ : ∃ B, B = w.heap.size := ⟨_, rfl⟩
  clear hG hfit hsl hn hm hC hfl hsh hcf hT
  have hal := Keeps.alloc None w (.cells #[.int .i64 f.params, .int .i64 f.regs, .int .i64 f.slots, .slice ca n cc] 37)
  have b1 := heap_alloc_new w (.cells #[.int .i64 f.params, .int .i64 f.regs, .int .i64 f.slots, .slice ca n cc] 37)
  have hc := HF.out _ hal
  have HA : Hid (Keeps None w (w.alloc _) ∧ (w.alloc _).heap[B]? = _) := ⟨hal, hB ▸ b1⟩
  clear hal b1
  go_enter Tryd.func57, Tryd.ntmps57
  go_wp2_with (go_at_call 74; refine hc.mono ?_; rintro e w2 ⟨g, rfl, hM, hk2, hg⟩)
  have H2 : Hid (IsM w2 g n m n (fun k s => sumAt (searchV f s (0, 0)) k) ∧ Keeps None w w2 ∧ w2.heap[B]? = some (.cells #[.int .i64 f.params, .int .i64 f.regs, .int .i64 f.slots, .slice ca n cc] 37 (0, 0))) := ⟨hM, HA.out.1.trans hk2 (fun _ f _ => f), blk_kept HA.out.2 hk2 (fun f => f)⟩
  clear hM hk2 hg hc
  rw [← hB]
  clear hB
  go_loopw [10] (fun s10 wr => ∃ k : Nat, k ≤ n ∧ s10 = .int .i64 k ∧ (∀ (j : Nat) x, j < k → f.code[j]? = some x → misuseV x (rowV f j) = 0) ∧ IsM wr g n m n (fun k s => sumAt (searchV f s (0, 0)) k) ∧ Keeps None w wr ∧ wr.heap[B]? = some (.cells #[.int .i64 f.params, .int .i64 f.regs, .int .i64 f.slots, .slice ca n cc] 37 (0, 0))) (fun i _ => n - (intOf i).toNat)
  case atStart => exact ⟨0, Nat.zero_le _, rfl, fun q _ h => by omega, H2.out.1, H2.out.2.1, H2.out.2.2⟩
  case round =>
    obtain ⟨k, hk, rfl, hall, hM, hkp, hbx⟩ := hrel
    by_cases hkn : k < n
    · obtain ⟨b, off, x, rfl, hx, hat⟩ := (HG.out.2.2.2.1.more hkp).at hkn
      obtain ⟨y0, y1, y2, y3, y4⟩ := hat
      have d3 := (cell_of_heap hbx 3).trans rfl
      have i1 : (k : Int) < (n : Int) := by omega
      have r0 := hM.row hkn hkn
      have hfx := HG.out.2.2.2.2 k x hx
      have hkd := fits_kind hfx
      have hwy := fits_ways hfx
      have hmu := misuse_any x (g + 1 + k) m (rowV f k) wr (row_cells HG.out.2.2.1 hM k hkn) (row_len f k m HG.out.2.2.1) (row_seven HG.out.1 k (by have := HG.out.2.1; omega)) hm8
        (fun e => by
          have h1 := hwy.1
          rw [e] at h1
          have h2 : belowV x.a f.slots = true := h1
          have := (belowV_iff _ _).1 h2
          have := HG.out.2.2.1
          omega)
        (fun e => by
          have h1 := hwy.2.1
          rw [e] at h1
          have h2 : belowV x.b f.slots = true := h1
          have := (belowV_iff _ _).1 h2
          have := HG.out.2.2.1
          omega)
      unfold insV at hmu
      obtain ⟨e, he⟩ : ∃ e, e = misuseV x (rowV f k) := ⟨_, rfl⟩
      rw [← he] at hmu
      have HK : Hid ((∀ (j : Nat) x, j < k → f.code[j]? = some x → misuseV x (rowV f j) = 0) ∧ f.code[k]? = some x ∧ e = misuseV x (rowV f k) ∧ IsM wr g n m n (fun k s => sumAt (searchV f s (0, 0)) k) ∧ Keeps None w wr ∧ wr.heap[B]? = some (.cells #[.int .i64 f.params, .int .i64 f.regs, .int .i64 f.slots, .slice (some ⟨b, off, none⟩) n cc] 37 (0, 0))) := ⟨hall, hx, he, hM, hkp, hbx⟩
      clear hall hx he hM hkp hbx hfx hkd hwy
      by_cases he0 : e = 0
      · subst he0
        go_wp2_with (go_at_call 75; refine hmu.mono ?_; rintro e w3 ⟨rfl, hk3⟩)
        refine ⟨⟨k + 1, by omega, by simp, fun j z hj hz => ?_, HK.out.2.2.2.1.kept hk3 (fun _ _ f => f), HK.out.2.2.2.2.1.trans hk3 (fun _ f _ => f), blk_kept HK.out.2.2.2.2.2 hk3 (fun f => f)⟩, by simp [intOf]; omega⟩
        by_cases hjk : j = k
        · subst hjk
          rw [HK.out.2.1] at hz
          obtain rfl := Option.some.inj hz
          exact HK.out.2.2.1.symm
        · exact HK.out.1 j z (by omega) hz
      · have he1 : (e != 0) = true := by simpa using he0
        go_wp2_with (first | (go_at_call 75; refine hmu.mono ?_; rintro e w3 ⟨rfl, hk3⟩) | (go_at_call 71; refine (giveUp_any _ _ _ _).mono ?_; rintro e w' ⟨rfl, hw⟩; have hw2 := hw.symm; subst hw2))
        refine ⟨rfl, ?_, HK.out.2.2.2.2.1.trans hk3 (fun _ f _ => f)⟩
        unfold slotsE slotFault
        rw [firstAt_some _ f.code 0 k x e HK.out.2.1 (fun j y hj hy => by rw [Nat.zero_add, if_pos (HK.out.1 j y hj hy)]) (by rw [Nat.zero_add, ← HK.out.2.2.1, if_neg he0])]
        simp
    · have i1 : ¬ ((k : Int) < (n : Int)) := by omega
      have HK : Hid ((∀ (j : Nat) x, j < k → f.code[j]? = some x → misuseV x (rowV f j) = 0) ∧ Keeps None w wr) := ⟨hall, hkp⟩
      clear hall hkp hM hbx
      go_wp2_with fail
      go_end0
      refine ⟨?_, HK.out.2⟩
      unfold slotsE slotFault
      rw [firstAt_none _ f.code 0 (fun j y hy => by
        have := (List.getElem?_eq_some_iff.1 hy).1
        have := HG.out.2.1
        rw [Nat.zero_add, if_pos (HK.out.1 j y (by omega) hy)])]
      rfl
end Go.Proofs.YtoehkjfdaolcnaaDoor
/-! The shapes of all functions; the code of one. -/
namespace Go.Proofs.YtoehkjfdaolcnaaDoor
set_option linter.unusedVariables false
set_option maxRecDepth 20000
open Go.RowKit Go.HeapKit

theorem fits_any (number : Int) (f : Fn) (ca : Option Addr) (cc : Nat) (fa : Option Addr) (fn fc : Nat) (i : Ins) (w : World) (fs : List Fn) (hT : Tabs w) (hS : SeenF w fa fn fs) (hi : i.Ok) (hr : 0 ≤ f.regs ∧ f.regs ≤ 16) :
    Calls Tryd.prog 73 #[codeV number f ca cc fa fn fc false, insV i] w fun e w' => e = .returned (.bool (fitsV false fs f i)) ∧ Keeps None w w' := by
  cases hb : belowV i.kind 10 with
  | false =>
    have : fitsV false fs f i = false := by simp [fitsV, hb]
    rw [this]
    exact fits_no number f ca cc fa fn fc false i w hb
  | true =>
    obtain ⟨ik, ia, ib, ic, iK⟩ := i
    have hb' := (belowV_iff _ _).1 hb
    simp only at hb'
    obtain ⟨k, rfl⟩ := Int.eq_ofNat_of_zero_le hb'.1
    have hk : k < 10 := by omega
    have hv : fitsV false fs f ⟨k, ia, ib, ic, iK⟩ = (!(decide (fK k = 6) && (decide (iK < 0) || decide (16 ≤ iK))) && (allowsV false fs f (fA k) ia ⟨k, ia, ib, ic, iK⟩ && allowsV false fs f (fB k) ib ⟨k, ia, ib, ic, iK⟩ && allowsV false fs f (fC k) ic ⟨k, ia, ib, ic, iK⟩)) := by
      simp only [fitsV]
      rw [hb]
      simp
    rw [hv]
    have n5a : ∀ k, k < 10 → fA k ≠ 5 := by decide
    have n5b : ∀ k, k < 10 → fB k ≠ 5 := by decide
    have c5 : ∀ k, k < 10 → fC k = 5 → fB k = 4 := by decide
    refine fits_some number f ca cc fa fn fc k ia ib ic iK w hT hk _ _ _ _ _ rfl rfl ?_ ?_ ?_
    · exact fun wx hx => allows_any number f ca cc fa fn fc _ _ _ wx fs (hS.more hx) (fun h => absurd h (n5a k hk)) hr hi.a
    · exact fun _ wx hx => allows_any number f ca cc fa fn fc _ _ _ wx fs (hS.more hx) (fun h => absurd h (n5b k hk)) hr hi.b
    · intro _ hob wx hx
      refine allows_any number f ca cc fa fn fc _ _ _ wx fs (hS.more hx) (fun h => ?_) hr hi.c
      rw [c5 k hk h] at hob
      have hl := hS.len
      simp [allowsV, belowV] at hob
      simp only
      omega

def shapesE (fs : List Fn) : Ending :=
  if fs.length < 1 ∨ 32 < fs.length then .panicked (thrown 50 0 0) else match firstAt (fun _ f => if shapeV f then none else some ()) fs 0 with
    | some r => .panicked (thrown 51 r.1 0)
    | none => .returned (.tuple #[])
theorem shapes_any (fa : Option Addr) (n fc : Nat) (fs : List Fn) (w : World) (hS : SeenF w fa n fs) :
    Calls Tryd.prog 55 #[.slice fa n fc] w fun e w' => e = shapesE fs ∧ Keeps None w w' := by
  have HS : Hid (SeenF w fa n fs) := hS
  have hl := hS.len
  have HL : Hid (n = fs.length) := hl
  clear hl hS
  by_cases h1 : n < 1
  · have h1' : (n : Int) < 1 := by omega
    go_enter Tryd.func55, Tryd.ntmps55
    go_wp2_with (go_at_call 71; refine (giveUp_any _ _ _ _).mono ?_; rintro e w' ⟨rfl, rfl⟩)
    refine ⟨rfl, ?_, Keeps.refl _ _⟩
    have := HL.out
    unfold shapesE
    rw [if_pos (by omega)]
  · have h1' : (1 : Int) ≤ n := by omega
    by_cases h2 : 32 < n
    · have h2' : (32 : Int) < n := by omega
      go_enter Tryd.func55, Tryd.ntmps55
      go_wp2_with (go_at_call 71; refine (giveUp_any _ _ _ _).mono ?_; rintro e w' ⟨rfl, rfl⟩)
      refine ⟨rfl, ?_, Keeps.refl _ _⟩
      have := HL.out
      unfold shapesE
      rw [if_pos (by omega)]
    · have h2' : (n : Int) ≤ 32 := by omega
      go_enter Tryd.func55, Tryd.ntmps55
      go_wp2_with fail
      go_loopw [15] (fun i wr => ∃ k : Nat, k ≤ n ∧ i = .int .i64 k ∧ (∀ j f, j < k → fs[j]? = some f → shapeV f = true) ∧ Keeps None w wr) (fun i _ => n - (intOf i).toNat)
      case atStart => exact ⟨0, Nat.zero_le _, rfl, fun q _ h => by omega, Keeps.refl _ _⟩
      case round =>
        obtain ⟨k, hk, rfl, hall, hkp⟩ := hrel
        by_cases hkn : k < n
        · obtain ⟨b, off, f, ca, cc, rfl, hf, hat⟩ := (HS.out.more hkp).at hkn
          obtain ⟨y0, y1, y2, y3, -⟩ := hat
          have i1 : (k : Int) < (n : Int) := by omega
          have HK : Hid (Keeps None w wr ∧ fs[k]? = some f ∧ ∀ j f, j < k → fs[j]? = some f → shapeV f = true) := ⟨hkp, hf, hall⟩
          clear hf hkp hall
          have hc := shape_any (k : Int) f ca cc
          unfold shapeE fnV at hc
          cases hv : shapeV f with
          | false =>
            rw [hv] at hc
            simp only [Bool.false_eq_true, if_false] at hc
            have HV : Hid (shapeV f = false) := hv
            clear hv
            go_wp2_with (go_at_call 72; refine (hc _).mono ?_; rintro e w2 ⟨rfl, hk2⟩)
            refine ⟨rfl, ?_, (HK.out.1.andAlloc _).trans hk2 (fun _ f _ => f)⟩
            have := HL.out
            unfold shapesE
            rw [if_neg (by omega), firstAt_some _ fs 0 k f () HK.out.2.1 (fun j y hj hy => by rw [HK.out.2.2 j y hj hy]; rfl) (by rw [HV.out]; rfl)]
            simp
          | true =>
            rw [hv] at hc
            simp only [if_true] at hc
            have HV : Hid (shapeV f = true) := hv
            clear hv
            go_wp2_with (go_at_call 72; refine (hc _).mono ?_; rintro e w2 ⟨rfl, hk2⟩)
            refine ⟨⟨k + 1, by omega, by simp, fun j g hj hg => ?_, (HK.out.1.andAlloc _).trans hk2 (fun _ f _ => f)⟩, by simp [intOf]; omega⟩
            by_cases hjk : j = k
            · subst hjk
              rw [HK.out.2.1] at hg
              obtain rfl := Option.some.inj hg
              exact HV.out
            · exact HK.out.2.2 j g (by omega) hg
        · have i1 : ¬ ((k : Int) < (n : Int)) := by omega
          go_wp2_with fail
          go_end0
          refine ⟨?_, hkp⟩
          have := HL.out
          unfold shapesE
          rw [if_neg (by omega), firstAt_none _ fs 0 (fun j y hy => by rw [hall j y (by have := (List.getElem?_eq_some_iff.1 hy).1; omega) hy]; rfl)]

def codeE (number : Int) (al : Bool) (fs : List Fn) (f : Fn) : Ending := match codeFault al fs f with
  | some r => .panicked (thrown r.1 number r.2)
  | none => .returned (.tuple #[])
set_option maxHeartbeats 1000000 in
theorem code_any (number : Int) (f : Fn) (ca : Option Addr) (cc : Nat) (fa : Option Addr) (fn fc : Nat) (w : World) (fs : List Fn) (hT : Tabs w) (hS : SeenF w fa fn fs) (hC : SeenI w ca f.code.length f.code) (hok : ∀ i ∈ f.code, i.Ok) (hsh : shapeV f = true) :
    Calls Tryd.prog 56 #[codeV number f ca cc fa fn fc false] w fun e w' => e = codeE number false fs f ∧ Keeps None w w' := by
  have hsh2 : (0 ≤ f.regs ∧ f.regs ≤ 16) ∧ 1 ≤ f.code.length ∧ f.code.length ≤ 512 := by
    simp only [shapeV, Bool.and_eq_true, decide_eq_true_eq] at hsh
    omega
  obtain ⟨n, hn⟩ : ∃ n, n = f.code.length := ⟨_, rfl⟩
  have hfit := fun (i : Ins) (hi : i ∈ f.code) (wx : World) (hk : Keeps None w wx) => fits_any number f ca cc fa fn fc i wx fs (hT.more hk) (hS.more hk) (hok i hi) hsh2.1
  unfold codeV at hfit
  rw [← hn] at hfit
  have HF : Hid _ := hfit
  have HC : Hid (SeenI w ca n f.code) := hn ▸ hC
  have HH : Hid (1 ≤ n ∧ n ≤ 512 ∧ n = f.code.length ∧ Tabs w) := ⟨by omega, by omega, hn, hT⟩
  have h1' : (1 : Int) ≤ n := by omega
  have h2' : (n : Int) ≤ 512 := by omega
  unfold codeV
  rw [← hn]
  obtain ⟨B, hB⟩ : ∃ B, B = w.heap.size := ⟨_, rfl⟩
  have HB : Hid (B = w.heap.size) := hB
  clear hfit hC hok hsh hsh2 hT hS hn
  go_enter Tryd.func56, Tryd.ntmps56
  go_wp2_with fail
  rw [← hB]
  clear hB
  go_loopw [9] (fun i wr => ∃ k : Nat, k ≤ n ∧ i = .int .i64 k ∧ (∀ j x, j < k → f.code[j]? = some x → fitsV false fs f x = true) ∧ wr.heap[B]? = some (.cells #[.int .i64 number, .int .i64 f.params, .int .i64 f.regs, .int .i64 f.slots, .slice ca n cc, .slice fa fn fc, .bool false] 83 (0, 0)) ∧ Keeps None w wr) (fun i _ => n - (intOf i).toNat)
  case atStart => exact ⟨0, Nat.zero_le _, rfl, fun q _ h => by omega, by rw [HB.out]; exact heap_alloc_new w _, Keeps.alloc None w _⟩
  case round =>
    obtain ⟨k, hk, rfl, hall, hbx, hkp⟩ := hrel
    have d0 := (cell_of_heap hbx 0).trans rfl
    have d1 := (cell_of_heap hbx 1).trans rfl
    have d2 := (cell_of_heap hbx 2).trans rfl
    have d3 := (cell_of_heap hbx 3).trans rfl
    have d4 := (cell_of_heap hbx 4).trans rfl
    have d5 := (cell_of_heap hbx 5).trans rfl
    have d6 := (cell_of_heap hbx 6).trans rfl
    by_cases hkn : k < n
    · obtain ⟨b, off, x, rfl, hx, hat⟩ := (HC.out.more hkp).at hkn
      obtain ⟨y0, y1, y2, y3, y4⟩ := hat
      have i1 : (k : Int) < (n : Int) := by omega
      have HK : Hid (Keeps None w wr ∧ f.code[k]? = some x ∧ (∀ j x, j < k → f.code[j]? = some x → fitsV false fs f x = true) ∧ wr.heap[B]? = some (.cells #[.int .i64 number, .int .i64 f.params, .int .i64 f.regs, .int .i64 f.slots, .slice (some ⟨b, off, none⟩) n cc, .slice fa fn fc, .bool false] 83 (0, 0))) := ⟨hkp, hx, hall, hbx⟩
      have hc := HF.out x (List.mem_of_getElem? hx) _ (hkp.andAlloc (.cells #[.int .i64 x.kind, .int .i64 x.a, .int .i64 x.b, .int .i64 x.c, .int .i64 x.k] 39))
      unfold insV at hc
      have HD : Hid (wr.cell? ⟨B, 0, none⟩ = some (.int .i64 number)) := d0
      have hal := Keeps.alloc None wr (.cells #[.int .i64 x.kind, .int .i64 x.a, .int .i64 x.b, .int .i64 x.c, .int .i64 x.k] 39)
      have a0 := hal.cell d0 (fun f => f)
      have a1 := hal.cell d1 (fun f => f)
      have a2 := hal.cell d2 (fun f => f)
      have a3 := hal.cell d3 (fun f => f)
      have a4 := hal.cell d4 (fun f => f)
      have a5 := hal.cell d5 (fun f => f)
      have a6 := hal.cell d6 (fun f => f)
      clear hal
      clear hx hkp hall hbx
      cases hv : fitsV false fs f x with
      | false =>
        rw [hv] at hc
        have HV : Hid (fitsV false fs f x = false) := hv
        clear hv
        go_wp2_with (first | (go_at_call 73; refine hc.mono ?_; rintro e w2 ⟨rfl, hk2⟩; have hk3 := (Keeps.alloc None wr _).trans hk2 (fun _ f _ => f); have d0' := hk3.cell HD.out (fun f => f)) | (go_at_call 71; refine (giveUp_any _ _ _ _).mono ?_; rintro e w' ⟨rfl, hw⟩; have hw2 := hw.symm; subst hw2))
        refine ⟨rfl, ?_, HK.out.1.trans hk3 (fun _ f _ => f)⟩
        unfold codeE codeFault
        rw [firstAt_some _ f.code 0 k x () HK.out.2.1 (fun j y hj hy => by rw [HK.out.2.2.1 j y hj hy]; rfl) (by rw [HV.out]; rfl)]
        simp
      | true =>
        rw [hv] at hc
        have HV : Hid (fitsV false fs f x = true) := hv
        clear hv
        go_wp2_with (first | (go_at_call 73; refine hc.mono ?_; rintro e w2 ⟨rfl, hk2⟩; have hk3 := (Keeps.alloc None wr _).trans hk2 (fun _ f _ => f)))
        refine ⟨⟨k + 1, by omega, by simp, fun j g hj hg => ?_, (hk3.block B (Array.getElem?_eq_some_iff.1 HK.out.2.2.2).1 (fun f => f)).trans HK.out.2.2.2, HK.out.1.trans hk3 (fun _ f _ => f)⟩, by simp [intOf]; omega⟩
        by_cases hjk : j = k
        · subst hjk
          rw [HK.out.2.1] at hg
          obtain rfl := Option.some.inj hg
          exact HV.out
        · exact HK.out.2.2.1 j g (by omega) hg
    · have i1 : ¬ ((k : Int) < (n : Int)) := by omega
      have hkn2 : k = n := by omega
      subst hkn2
      obtain ⟨b, off, x, rfl, hx, hat⟩ := (HC.out.more hkp).at (k := k - 1) (by omega)
      have y0 := hat.kind
      have hfx := hall (k - 1) x (by omega) hx
      obtain ⟨xk, xa, xb, xc, xK⟩ := x
      have hb10 : belowV xk 10 = true := by
        simp only [fitsV, Bool.and_eq_true] at hfx
        exact hfx.1.1
      obtain ⟨q, rfl⟩ := Int.eq_ofNat_of_zero_le ((belowV_iff _ _).1 hb10).1
      have hq := ((belowV_iff _ _).1 hb10).2
      obtain ⟨t0, t1, t2, t3, t4⟩ := (HH.out.2.2.2.more hkp).at q (by omega)
      have i2 : (0 : Int) ≤ (q : Int) := by omega
      have i3 : (0 : Int) ≤ ((k - 1 : Nat) : Int) := by omega
      have i4 : ((k - 1 : Nat) : Int) < (k : Int) := by omega
      have i5 : wrap64 ((k : Int) - 1) = ((k - 1 : Nat) : Int) := by unfold wrap64; omega
      have HK : Hid (Keeps None w wr ∧ f.code[k - 1]? = some ⟨q, xa, xb, xc, xK⟩ ∧ (∀ j x, j < k → f.code[j]? = some x → fitsV false fs f x = true)) := ⟨hkp, hx, hall⟩
      have HR : Hid (runsOut f = fN q) := by
        unfold Hid runsOut
        rw [← HH.out.2.2.1, hx]
        rfl
      clear hx hkp hall hfx hb10 hat
      cases hv : fN q with
      | false =>
        rw [hv] at t4 HR
        clear hv
        go_wp2_with fail
        go_end0
        refine ⟨?_, HK.out.1⟩
        unfold codeE codeFault
        rw [firstAt_none _ f.code 0 (fun j y hy => by rw [HK.out.2.2 j y (by have := (List.getElem?_eq_some_iff.1 hy).1; have := HH.out.2.2.1; omega) hy]; rfl), HR.out]
        rfl
      | true =>
        rw [hv] at t4 HR
        clear hv
        go_wp2_with (go_at_call 71; refine (giveUp_any _ _ _ _).mono ?_; rintro e w' ⟨rfl, hw⟩; have hw2 := hw.symm; subst hw2)
        refine ⟨rfl, ?_, HK.out.1⟩
        unfold codeE codeFault
        rw [firstAt_none _ f.code 0 (fun j y hy => by rw [HK.out.2.2 j y (by have := (List.getElem?_eq_some_iff.1 hy).1; have := HH.out.2.2.1; omega) hy]; rfl), HR.out, ← HH.out.2.2.1]
        rfl
end Go.Proofs.YtoehkjfdaolcnaaDoor
/-! Check: what is thrown is caught. -/
namespace Go.Proofs.YtoehkjfdaolcnaaDoor
set_option linter.unusedVariables false
set_option maxRecDepth 20000
open Go.RowKit Go.HeapKit

theorem results_one {P : Program} {fn : Func} {q : Tmp} {ty : TypeId} (h : fn.results = #[.cell q ty]) {tmps : Array Value} {w : World} {g : Nat} (ha : tmps.getD q undef = .pointer (some ⟨g, 0, none⟩)) {v : Value}
    (hl : (loadVar ty ⟨g, 0, none⟩).run P w = .ok v w) : (results fn tmps).run P w = .ok v w := by
  have ha' : tmps[q]?.getD undef = .pointer (some ⟨g, 0, none⟩) := by simpa using ha
  simp [results, h, ha', asAddr, hl]
theorem load_fault (w : World) (g : Nat) (t : TypeId) (e n a : Int) (hb : w.heap[g]? = some (.cells #[.int .i64 e, .int .i64 n, .int .i64 a] t (0, 0))) : (loadVar 28 ⟨g, 0, none⟩).run Tryd.prog w = .ok (faultV e n a) w :=
  run_loadVar_row _ g t 28 _ _ _ hb Tryd.underlying28 rfl (by kernel_rfl)
theorem fault_end {Q : Ending → World → Prop} {a : Act} {w1 : World} {g : Nat} {t : TypeId} {fn : Func} {e n x : Int} (hfn : fn.results = #[.cell 2 28]) (hb : w1.heap[g]? = some (.cells #[.int .i64 e, .int .i64 n, .int .i64 x] t (0, 0)))
    (ha : a.tmps.getD 2 undef = .pointer (some ⟨g, 0, none⟩)) (hd : a.defers = []) (hQ : Q (.returned (faultV e n x)) w1) : bodyPost Tryd.prog fn Q .ret a w1 :=
  bodyPost_ret (results_one (q := 2) (ty := 28) hfn ha (load_fault _ g t e n x hb)) hd hQ
theorem caught_nil (w : World) : Calls Tryd.prog 54 #[.nilIface] w fun e w' => e = .returned (faultV 0 0 0) ∧ Keeps None w w' := by
  go_enter Tryd.func54, Tryd.ntmps54
  go_wp2
  exact fault_end rfl (heap_alloc_new _ _) rfl rfl ⟨rfl, Keeps.alloc None w _⟩
theorem caught_fault (e n a : Int) (w : World) : Calls Tryd.prog 54 #[.iface 28 (faultV e n a)] w fun e' w' => e' = .returned (faultV e n a) ∧ Keeps None w w' := by
  unfold faultV
  have ht : ∀ wx, (Instr.typeAssert (.iface 28 (.agg #[.int .i64 e, .int .i64 n, .int .i64 a])) 20 28 true).run Tryd.prog wx = .ok (.tuple #[.agg #[.int .i64 e, .int .i64 n, .int .i64 a], .bool true]) wx := fun _ => rfl
  go_enter Tryd.func54, Tryd.ntmps54
  go_wp2
  exact fault_end rfl (two_boxes w _ _ _ _).1 rfl rfl ⟨rfl, keeps2 w _ _⟩
theorem catch_panic (p : Nat) (c : Array Value) (e n a : Int) (w : World) (hc : w.heap[p]? = some (.cells c 28 (0, 0))) (hs : c.size = 3) :
    CallsD Tryd.prog 53 #[.pointer (some ⟨p, 0, none⟩)] (.panicking (thrown e n a)) w fun e' u' w' => e' = .returned (.tuple #[]) ∧ u' = .panicking [{ v := .iface 28 (faultV e n a), recovered := true }] ∧
      w'.heap[p]? = some (.cells #[.int .i64 e, .int .i64 n, .int .i64 a] 28 (0, 0)) ∧ Keeps (· = p) w w' := by
  refine callsD_of_wpS Tryd.func53 rfl fun c₀ cs hu => ?_
  unfold thrown at hu
  apply wpS_region
  simp [wpOpsS, go_sem, recoverD, hu, Tryd.ntmps53]
  refine (caught_fault e n a w).mono ?_
  rintro _ w2 ⟨rfl, hk2⟩
  have hc2 := blk_kept hc hk2 (fun f => f)
  obtain ⟨l⟩ := c
  match l, hs with
  | [v0, v1, v2], _ =>
    have c0 := (cell_of_heap hc2 0).trans rfl
    have c1 := (cell_of_heap hc2 1).trans rfl
    have c2 := (cell_of_heap hc2 2).trans rfl
    have z0 := blk_free hc2 0
    have z1 := blk_free hc2 1
    have z2 := blk_free hc2 2
    have b3 := blk_set (i := 2) (blk_set (i := 1) (blk_set (i := 0) hc2 (.int .i64 e)) (.int .i64 n)) (.int .i64 a)
    have k3 : Keeps (· = p) w (((w2.setCell ⟨p, 0, none⟩ (.int .i64 e)).setCell ⟨p, 1, none⟩ (.int .i64 n)).setCell ⟨p, 2, none⟩ (.int .i64 a)) := (((hk2.mono (fun _ f _ => f.elim)).andSet (S := (· = p)) (x := ⟨p, 0, none⟩) (.inl rfl) _).andSet (x := ⟨p, 1, none⟩) (.inl rfl) _).andSet (x := ⟨p, 2, none⟩) (.inl rfl) _
    simp [faultV, go_sem, c0, c1, c2, z0, z1, z2, bodyPostS, results, Tryd.results53]
    exact ⟨b3, k3⟩
theorem catch_none (p : Nat) (c : Array Value) (w : World) (hc : w.heap[p]? = some (.cells c 28 (0, 0))) (hs : c.size = 3) :
    CallsD Tryd.prog 53 #[.pointer (some ⟨p, 0, none⟩)] .returning w fun e' u' w' => e' = .returned (.tuple #[]) ∧ u' = .returning ∧
      w'.heap[p]? = some (.cells #[.int .i64 0, .int .i64 0, .int .i64 0] 28 (0, 0)) ∧ Keeps (· = p) w w' := by
  refine callsD_of_wpS Tryd.func53 rfl fun c₀ cs hu => ?_
  apply wpS_region
  simp [wpOpsS, go_sem, recoverD, hu, Tryd.ntmps53]
  refine (caught_nil w).mono ?_
  rintro _ w2 ⟨rfl, hk2⟩
  have hc2 := blk_kept hc hk2 (fun f => f)
  obtain ⟨l⟩ := c
  match l, hs with
  | [v0, v1, v2], _ =>
    have c0 := (cell_of_heap hc2 0).trans rfl
    have c1 := (cell_of_heap hc2 1).trans rfl
    have c2 := (cell_of_heap hc2 2).trans rfl
    have z0 := blk_free hc2 0
    have z1 := blk_free hc2 1
    have z2 := blk_free hc2 2
    have b3 := blk_set (i := 2) (blk_set (i := 1) (blk_set (i := 0) hc2 (.int .i64 0)) (.int .i64 0)) (.int .i64 0)
    have k3 : Keeps (· = p) w (((w2.setCell ⟨p, 0, none⟩ (.int .i64 0)).setCell ⟨p, 1, none⟩ (.int .i64 0)).setCell ⟨p, 2, none⟩ (.int .i64 0)) := (((hk2.mono (fun _ f _ => f.elim)).andSet (S := (· = p)) (x := ⟨p, 0, none⟩) (.inl rfl) _).andSet (x := ⟨p, 1, none⟩) (.inl rfl) _).andSet (x := ⟨p, 2, none⟩) (.inl rfl) _
    simp [faultV, go_sem, c0, c1, c2, z0, z1, z2, bodyPostS, results, Tryd.results53]
    exact ⟨.returning, by cases c₀; simp_all, rfl, b3, k3⟩
end Go.Proofs.YtoehkjfdaolcnaaDoor
/-! Check. -/
namespace Go.Proofs.YtoehkjfdaolcnaaDoor
set_option linter.unusedVariables false
set_option maxRecDepth 20000
open Go.RowKit Go.HeapKit

def checkF (l : List Fn) : Value := faultV (checkV l).1 (checkV l).2.1 (checkV l).2.2
def zeroF : Array Value := #[.int .i64 0, .int .i64 0, .int .i64 0]
theorem out_panic {Q : Ending → World → Prop} {tmps : Array Value} {w3 : World} {p : Nat} {c : Array Value} {e n x : Int} (ha : tmps.getD 2 undef = .pointer (some ⟨p, 0, none⟩)) (hb : w3.heap[p]? = some (.cells c 28 (0, 0))) (hs : c.size = 3)
    (hQ : ∀ w', Keeps (· = p) w3 w' → Q (.returned (faultV e n x)) w') :
    bodyPostD Tryd.prog Tryd.f33 Q (.panic (thrown e n x)) { tmps := tmps, defers := [{ target := .fn (.func 53) #[.pointer (some ⟨p, 0, none⟩)], args := #[] }] } w3 := by
  refine leaves_cons (f := 53) (args := #[.pointer (some ⟨p, 0, none⟩)]) (by simp) (by simp [go_sem]) ?_
  refine (catch_panic p c e n x w3 hb hs).mono ?_
  rintro _ u' w4 ⟨rfl, rfl, hb4, hk4⟩
  have hr := results_one (P := Tryd.prog) (fn := Tryd.f33) (q := 2) (ty := 28) rfl ha (load_fault w4 p _ e n x hb4)
  simp [Leaves, settle, hr]
  exact hQ w4 hk4
theorem out_ret {Q : Ending → World → Prop} {tmps : Array Value} {w3 : World} {p : Nat} {c : Array Value} (ha : tmps.getD 2 undef = .pointer (some ⟨p, 0, none⟩)) (hb : w3.heap[p]? = some (.cells c 28 (0, 0))) (hs : c.size = 3)
    (hQ : ∀ w', Keeps (· = p) w3 w' → Q (.returned (faultV 0 0 0)) w') :
    bodyPostD Tryd.prog Tryd.f33 Q .ret { tmps := tmps, defers := [{ target := .fn (.func 53) #[.pointer (some ⟨p, 0, none⟩)], args := #[] }] } w3 := by
  refine leaves_cons (f := 53) (args := #[.pointer (some ⟨p, 0, none⟩)]) (by simp) (by simp [go_sem]) ?_
  refine (catch_none p c w3 hb hs).mono ?_
  rintro _ u' w4 ⟨rfl, rfl, hb4, hk4⟩
  have hr := results_one (P := Tryd.prog) (fn := Tryd.f33) (q := 2) (ty := 28) rfl ha (load_fault w4 p _ 0 0 0 hb4)
  simp [Leaves, settle, hr]
  exact hQ w4 hk4
set_option maxHeartbeats 2000000 in
theorem check_any (a : Option Addr) (n c : Nat) (l : List Fn) (w : World) (hT : Tabs w) (hS : SeenF w a n l) (hok : ∀ f ∈ l, f.Ok) :
    Calls Tryd.prog 33 #[.agg #[.slice a n c]] w fun e w' => e = .returned (checkF l) ∧ Keeps None w w' := by
  have hmf : ∀ (fn : Go.Fn) (first cap : Array Value) (w : World), (Instr.makeFunc fn first cap).run Tryd.prog w = .ok (.func fn first cap) w := fun _ _ _ _ => rfl
  obtain ⟨B, hB⟩ : ∃ B, B = w.heap.size := ⟨_, rfl⟩
  obtain ⟨b1, b2⟩ := two_boxes w #[.slice a n c] zeroF 24 28
  have hk2 := keeps2 w (.cells #[.slice a n c] 24) (.cells zeroF 28)
  unfold zeroF at b1 b2 hk2
  obtain ⟨w2, hw2⟩ : ∃ w2, w2 = (w.alloc (.cells #[.slice a n c] 24)).alloc (.cells #[.int .i64 0, .int .i64 0, .int .i64 0] 28) := ⟨_, rfl⟩
  rw [← hw2, ← hB] at b1 b2
  rw [← hw2] at hk2
  have H2 : Hid (w2.heap[B]? = some (.cells #[.slice a n c] 24 (0, 0)) ∧ w2.heap[B + 1]? = some (.cells #[.int .i64 0, .int .i64 0, .int .i64 0] 28 (0, 0)) ∧ Keeps None w w2 ∧ B = w.heap.size) := ⟨b1, b2, hk2, hB⟩
  have HS : Hid (Tabs w ∧ SeenF w a n l ∧ ∀ f ∈ l, f.Ok) := ⟨hT, hS, hok⟩
  have d0 := (cell_of_heap b1 0).trans rfl
  have hsh := shapes_any a n c l w2 (hS.more hk2)
  have hln := hS.len
  have HLN : Hid (n = l.length) := hln
  clear b1 b2 hk2 hT hS hok hln
  cases hE : shapesE l with
  | outgrown => exact absurd hE (by unfold shapesE; split; · simp
                                    split <;> simp)
  | panicked ch =>
    obtain ⟨e, x, rfl, hv⟩ : ∃ e x : Int, ch = thrown e x 0 ∧ checkF l = faultV e x 0 := by
      unfold shapesE at hE
      unfold checkF checkV
      split at hE
      · rename_i h1
        rw [if_pos h1]
        injection hE with hE
        exact ⟨50, 0, hE.symm, rfl⟩
      · rename_i h1
        rw [if_neg h1]
        split at hE
        · rename_i r hr
          injection hE with hE
          rw [hr]
          exact ⟨51, r.1, hE.symm, rfl⟩
        · cases hE
    rw [hE] at hsh
    rw [hv]
    clear hE hv
    go_enter_defers Tryd.func33, Tryd.ntmps33
    rw [hw2] at d0
    go_wp2_with (go_at_call 55; rw [← hw2]; refine hsh.mono ?_; rintro _ w3 ⟨rfl, hk3⟩)
    rw [← hB]
    exact out_panic rfl (blk_kept H2.out.2.1 hk3 (fun f => f)) rfl (fun w' hk => ⟨rfl, (H2.out.2.2.1.trans hk3 (fun _ f _ => f)).trans hk (fun i e hi => by have := H2.out.2.2.2; omega)⟩)
  | returned v =>
    obtain ⟨rfl, hlen, hsv, hv⟩ : v = .tuple #[] ∧ (1 ≤ l.length ∧ l.length ≤ 32) ∧ (∀ f ∈ l, shapeV f = true) ∧ checkF l = (match firstAt (fun _ f => codeFault false l f) l 0 with
      | some r => faultV r.2.1 r.1 r.2.2
      | none => match firstAt (fun _ f => slotFault f) l 0 with
        | some r => faultV r.2.1 r.1 r.2.2
        | none => faultV 0 0 0) := by
      unfold shapesE at hE
      unfold checkF checkV
      split at hE
      · cases hE
      · rename_i h1
        rw [if_neg h1]
        split at hE
        · cases hE
        · rename_i hr
          injection hE with hE
          refine ⟨hE.symm, by omega, fun f hf => ?_, ?_⟩
          · obtain ⟨k, hk, rfl⟩ := List.mem_iff_getElem.1 hf
            have := firstAt_all _ _ _ hr k _ (List.getElem?_eq_getElem hk)
            by_cases hv : shapeV l[k] = true
            · exact hv
            · simp [hv] at this
          · rw [hr]
            cases firstAt (fun _ f => codeFault false l f) l 0 with
            | some r => rfl
            | none =>
              cases firstAt (fun _ f => slotFault f) l 0 with
              | some r => rfl
              | none => rfl
    rw [hE] at hsh
    obtain ⟨R, hR⟩ : ∃ R, R = checkF l := ⟨_, rfl⟩
    rw [← hR]
    have HR : Hid _ := hR.trans hv
    have HX : Hid (∀ f ∈ l, shapeV f = true) := hsv
    have n32 : n ≤ 32 := by have := HLN.out; omega
    clear hE hv hR hsv hlen
    go_enter_defers Tryd.func33, Tryd.ntmps33
    rw [hw2] at d0
    go_upto_region 3 with (go_at_call 55; rw [← hw2]; refine hsh.mono ?_; rintro _ w3 ⟨rfl, hk3⟩)
    rw [← hB]
    have H3 : Hid (w3.heap[B]? = some (.cells #[.slice a n c] 24 (0, 0)) ∧ w3.heap[B + 1]? = some (.cells #[.int .i64 0, .int .i64 0, .int .i64 0] 28 (0, 0)) ∧ Keeps None w w3) := ⟨blk_kept H2.out.1 hk3 (fun f => f), blk_kept H2.out.2.1 hk3 (fun f => f), H2.out.2.2.1.trans hk3 (fun _ f _ => f)⟩
    have d1 := (cell_of_heap H3.out.1 0).trans rfl
    have HBB : Hid (B = w.heap.size) := hB
    clear d0 hw2 hk3 hsh hB
    go_wp2_with fail
    go_loopw [14] (fun s14 wr => ∃ k : Nat, k ≤ n ∧ s14 = .int .i64 k ∧ (∀ (j : Nat) f, j < k → l[j]? = some f → codeFault false l f = none) ∧ wr.heap[B]? = some (.cells #[.slice a n c] 24 (0, 0)) ∧ wr.heap[B + 1]? = some (.cells #[.int .i64 0, .int .i64 0, .int .i64 0] 28 (0, 0)) ∧ Keeps None w wr) (fun i _ => n - (intOf i).toNat)
    case atStart => exact ⟨0, Nat.zero_le _, rfl, fun q _ h => by omega, H3.out.1, H3.out.2.1, H3.out.2.2⟩
    case round =>
      clear d1
      obtain ⟨k, hk, rfl, hall, hb1, hb2, hkp⟩ := hrel
      by_cases hkn : k < n
      · obtain ⟨b, off, f, ca, cc, rfl, hf, hat⟩ := (HS.out.2.1.more hkp).at hkn
        have i1 : (k : Int) < (n : Int) := by omega
        have d0 := (cell_of_heap hb1 0).trans rfl
        obtain ⟨X, hX⟩ : ∃ X, X = wr.heap.size := ⟨_, rfl⟩
        have hal := Keeps.alloc None wr (.cells #[.int .i64 f.params, .int .i64 f.regs, .int .i64 f.slots, .slice ca f.code.length cc] 37)
        have hkx := hkp.trans hal (fun _ f _ => f)
        have d0' := hal.cell d0 (fun f => f)
        have hcc := code_any (k : Int) f ca cc (some ⟨b, off, none⟩) n c _ l (HS.out.1.more hkx) (HS.out.2.1.more hkx) (hat.seen.more hal) (HS.out.2.2 f (List.mem_of_getElem? hf)).code (HX.out f (List.mem_of_getElem? hf))
        unfold codeV at hcc
        obtain ⟨y0, y1, y2, y3, -⟩ := hat
        have HK : Hid ((∀ (j : Nat) f, j < k → l[j]? = some f → codeFault false l f = none) ∧ l[k]? = some f ∧ Keeps None w (wr.alloc (.cells #[.int .i64 f.params, .int .i64 f.regs, .int .i64 f.slots, .slice ca f.code.length cc] 37)) ∧ (wr.alloc (.cells #[.int .i64 f.params, .int .i64 f.regs, .int .i64 f.slots, .slice ca f.code.length cc] 37)).heap[B]? = some (.cells #[.slice (some ⟨b, off, none⟩) n c] 24 (0, 0)) ∧ (wr.alloc (.cells #[.int .i64 f.params, .int .i64 f.regs, .int .i64 f.slots, .slice ca f.code.length cc] 37)).heap[B + 1]? = some (.cells #[.int .i64 0, .int .i64 0, .int .i64 0] 28 (0, 0))) := ⟨hall, hf, hkx, blk_kept hb1 hal (fun f => f), blk_kept hb2 hal (fun f => f)⟩
        clear hall hf hkx hb1 hb2 hal hkp
        unfold codeE at hcc
        cases hcf : codeFault false l f with
        | some r =>
          rw [hcf] at hcc
          have HC : Hid (codeFault false l f = some r) := hcf
          clear hcf
          go_wp2_with (go_at_call 56; refine hcc.mono ?_; rintro _ w4 ⟨rfl, hk4⟩)
          have hRR : R = faultV r.1 k r.2 := by
            rw [HR.out, firstAt_some _ l 0 k f r HK.out.2.1 (fun j y hj hy => HK.out.1 j y hj hy) HC.out]
            simp
          exact out_panic rfl (blk_kept HK.out.2.2.2.2 hk4 (fun f => f)) rfl (fun w' hkw => ⟨by rw [hRR], (HK.out.2.2.1.trans hk4 (fun _ f _ => f)).trans hkw (fun i e hi => by have := HBB.out; omega)⟩)
        | none =>
          rw [hcf] at hcc
          have HC : Hid (codeFault false l f = none) := hcf
          clear hcf
          go_wp2_with (go_at_call 56; refine hcc.mono ?_; rintro _ w4 ⟨rfl, hk4⟩)
          refine ⟨⟨k + 1, by omega, by simp, fun j z hj hz => ?_, blk_kept HK.out.2.2.2.1 hk4 (fun f => f), blk_kept HK.out.2.2.2.2 hk4 (fun f => f), HK.out.2.2.1.trans hk4 (fun _ f _ => f)⟩, by simp [intOf]; omega⟩
          by_cases hjk : j = k
          · subst hjk
            rw [HK.out.2.1] at hz
            obtain rfl := Option.some.inj hz
            exact HC.out
          · exact HK.out.1 j z (by omega) hz
      · have i1 : ¬ ((k : Int) < (n : Int)) := by omega
        have d1 := (cell_of_heap hb1 0).trans rfl
        have hall2 : ∀ f ∈ l, codeFault false l f = none := fun f hf => by
          obtain ⟨j, hj, rfl⟩ := List.mem_iff_getElem.1 hf
          exact hall j _ (by have := HLN.out; omega) (List.getElem?_eq_getElem hj)
        have HR2 : Hid (R = (match firstAt (fun _ f => slotFault f) l 0 with
          | some r => faultV r.2.1 r.1 r.2.2
          | none => faultV 0 0 0)) := by
          unfold Hid
          rw [HR.out, firstAt_none (fun _ f => codeFault false l f) l 0 (fun j y hy => hall2 y (List.mem_of_getElem? hy))]
        have HK : Hid ((∀ f ∈ l, codeFault false l f = none) ∧ Keeps None w wr ∧ wr.heap[B]? = some (.cells #[.slice a n c] 24 (0, 0)) ∧ wr.heap[B + 1]? = some (.cells #[.int .i64 0, .int .i64 0, .int .i64 0] 28 (0, 0))) := ⟨hall2, hkp, hb1, hb2⟩
        clear hall hall2 hkp hb1 hb2 H3
        go_wp2_with fail
        go_loopw [29] (fun s29 wr => ∃ k : Nat, k ≤ n ∧ s29 = .int .i64 k ∧ (∀ (j : Nat) f, j < k → l[j]? = some f → slotFault f = none) ∧ wr.heap[B + 1]? = some (.cells #[.int .i64 0, .int .i64 0, .int .i64 0] 28 (0, 0)) ∧ Keeps None w wr) (fun i _ => n - (intOf i).toNat)
        case atStart => exact ⟨0, Nat.zero_le _, rfl, fun q _ h => by omega, HK.out.2.2.2, HK.out.2.1⟩
        case round =>
          clear d1 i1
          obtain ⟨k, hk, rfl, hall, hb2, hkp⟩ := hrel
          by_cases hkn : k < n
          · obtain ⟨b, off, f, ca, cc, rfl, hf, hat⟩ := (HS.out.2.1.more hkp).at hkn
            have i1 : (k : Int) < (n : Int) := by omega
            have hal := Keeps.alloc None wr (.cells #[.int .i64 f.params, .int .i64 f.regs, .int .i64 f.slots, .slice ca f.code.length cc] 37)
            have hkx := hkp.trans hal (fun _ f _ => f)
            have hcc := slots_any (k : Int) f ca cc _ false l (HS.out.1.more hkx) (hat.seen.more hal) (HX.out f (List.mem_of_getElem? hf)) (HK.out.1 f (List.mem_of_getElem? hf))
            unfold fnV at hcc
            obtain ⟨y0, y1, y2, y3, -⟩ := hat
            have HJ : Hid ((∀ (j : Nat) f, j < k → l[j]? = some f → slotFault f = none) ∧ l[k]? = some f ∧ Keeps None w (wr.alloc (.cells #[.int .i64 f.params, .int .i64 f.regs, .int .i64 f.slots, .slice ca f.code.length cc] 37)) ∧ (wr.alloc (.cells #[.int .i64 f.params, .int .i64 f.regs, .int .i64 f.slots, .slice ca f.code.length cc] 37)).heap[B + 1]? = some (.cells #[.int .i64 0, .int .i64 0, .int .i64 0] 28 (0, 0))) := ⟨hall, hf, hkx, blk_kept hb2 hal (fun f => f)⟩
            clear hall hf hkx hb2 hal hkp
            unfold slotsE at hcc
            cases hcf : slotFault f with
            | some r =>
              rw [hcf] at hcc
              have HC : Hid (slotFault f = some r) := hcf
              clear hcf
              go_wp2_with (go_at_call 57; refine hcc.mono ?_; rintro _ w4 ⟨rfl, hk4⟩)
              have hRR : R = faultV r.1 k r.2 := by
                rw [HR2.out, firstAt_some _ l 0 k f r HJ.out.2.1 (fun j y hj hy => HJ.out.1 j y hj hy) HC.out]
                simp
              exact out_panic rfl (blk_kept HJ.out.2.2.2 hk4 (fun f => f)) rfl (fun w' hkw => ⟨by rw [hRR], (HJ.out.2.2.1.trans hk4 (fun _ f _ => f)).trans hkw (fun i e hi => by have := HBB.out; omega)⟩)
            | none =>
              rw [hcf] at hcc
              have HC : Hid (slotFault f = none) := hcf
              clear hcf
              go_wp2_with (go_at_call 57; refine hcc.mono ?_; rintro _ w4 ⟨rfl, hk4⟩)
              refine ⟨⟨k + 1, by omega, by simp, fun j z hj hz => ?_, blk_kept HJ.out.2.2.2 hk4 (fun f => f), HJ.out.2.2.1.trans hk4 (fun _ f _ => f)⟩, by simp [intOf]; omega⟩
              by_cases hjk : j = k
              · subst hjk
                rw [HJ.out.2.1] at hz
                obtain rfl := Option.some.inj hz
                exact HC.out
              · exact HJ.out.1 j z (by omega) hz
          · have i1 : ¬ ((k : Int) < (n : Int)) := by omega
            have hRR : R = faultV 0 0 0 := by
              rw [HR2.out, firstAt_none (fun _ f => slotFault f) l 0 (fun j y hy => hall j y (by have := HLN.out; have := (List.getElem?_eq_some_iff.1 hy).1; omega) hy)]
            have c0 := (cell_of_heap hb2 0).trans rfl
            have c1 := (cell_of_heap hb2 1).trans rfl
            have c2 := (cell_of_heap hb2 2).trans rfl
            have z0 := blk_free hb2 0
            have z1 := blk_free hb2 1
            have z2 := blk_free hb2 2
            have b3 := blk_set (i := 2) (blk_set (i := 1) (blk_set (i := 0) hb2 (.int .i64 0)) (.int .i64 0)) (.int .i64 0)
            have k3 : Keeps (· = B + 1) wr (((wr.setCell ⟨B + 1, 0, none⟩ (.int .i64 0)).setCell ⟨B + 1, 1, none⟩ (.int .i64 0)).setCell ⟨B + 1, 2, none⟩ (.int .i64 0)) := (((Keeps.refl (· = B + 1) wr).andSet (x := ⟨B + 1, 0, none⟩) (.inl rfl) _).andSet (x := ⟨B + 1, 1, none⟩) (.inl rfl) _).andSet (x := ⟨B + 1, 2, none⟩) (.inl rfl) _
            have HZ : Hid (R = faultV 0 0 0 ∧ _ ∧ Keeps None w wr ∧ Keeps (· = B + 1) wr _) := ⟨hRR, b3, hkp, k3⟩
            clear hall hb2 hkp hRR b3 k3
            go_wp2_with fail
            exact out_ret rfl HZ.out.2.1 rfl (fun w' hkw => ⟨by rw [HZ.out.1], (HZ.out.2.2.1.trans HZ.out.2.2.2 (fun i e hi => by have := HBB.out; omega)).trans hkw (fun i e hi => by have := HBB.out; omega)⟩)
end Go.Proofs.YtoehkjfdaolcnaaDoor
