import Derived.Test.YtokfbagacehbgaaDoorPgMis
import Derived.Test.YtokfbagacehbgaaDoorPgSafe
/-! What a function does to its slots. -/
namespace Go.Proofs.YtokfbagacehbgaaDoor
set_option linter.unusedVariables false
set_option maxRecDepth 20000
open Go.RowKit Go.HeapKit

def slotsE (number : Int) (f : Fn) : Ending := match slotFault f with
  | some r => .panicked (thrown r.1 number r.2)
  | none => .returned (.tuple #[])
theorem sum_seven {n : Nat} {fr : List Pt} (h : Bare n fr) (a : Nat) (ha : a < n) : 0 ≤ sumAt fr a ∧ sumAt fr a ≤ 7 := by
  rw [sum_at h a ha]
  cases metV fr (a, 1) <;> cases metV fr (a, 2) <;> cases metV fr (a, 4) <;> decide
theorem row_len (f : Fn) (k m : Nat) (hm : (m : Int) = f.slots) : (rowV f k).length = m := by simp [rowV]; omega
theorem row_seven {f : Fn} (hG : Good f) (k : Nat) (hk : k < f.code.length) : ∀ x ∈ rowV f k, 0 ≤ x ∧ x ≤ 7 := by
  intro x hx
  unfold rowV at hx
  obtain ⟨s, _, rfl⟩ := List.mem_map.1 hx
  exact sum_seven (search_bare hG _ _) k hk
theorem row_cells {w : World} {f : Fn} {g n m : Nat} (hm : (m : Int) = f.slots) (h : IsM w g n m n (fun k s => sumAt (searchV f s (0, 0)) k)) (k : Nat) (hk : k < n) : ∀ (s : Nat) x, (rowV f k)[s]? = some x → w.cell? ⟨g + 1 + k, s, none⟩ = some (.int .i64 x) := by
  intro s x hx
  have hs : s < m := by have := (List.getElem?_eq_some_iff.1 hx).1; rw [row_len f k m hm] at this; exact this
  rw [row_at k s (by omega)] at hx
  obtain rfl := Option.some.inj hx
  exact h.cell hk hs
set_option maxHeartbeats 1000000 in
theorem slots_any (number : Int) (f : Fn) (ca : Option Addr) (cc : Nat) (w : World) (al : Bool) (fs : List Fn) (hT : Tabs w) (hC : SeenI w ca f.code.length f.code) (hsh : shapeV f = true) (hcf : codeFault al fs f = none) :
    Calls Tryd.prog 26 #[.int .i64 number, fnV f ca cc] w fun e w' => e = slotsE number f ∧ Keeps None w w' := by
  have hG := good_of hsh hcf
  have hfit := (code_parts hcf).1
  have hsl : 0 ≤ f.slots ∧ f.slots ≤ 8 := by
    simp only [shapeV, Bool.and_eq_true, decide_eq_true_eq] at hsh
    omega
  obtain ⟨n, hn⟩ : ∃ n, n = f.code.length := ⟨_, rfl⟩
  obtain ⟨m, hm⟩ : ∃ m : Nat, (m : Int) = f.slots := ⟨f.slots.toNat, by omega⟩
  have hm8 : m ≤ 8 := by omega
  have hfl := fun (wx : World) (hk : Keeps None w wx) => flow_any f ca cc wx (hT.more hk) (hC.more hk) hG n m hn hm hm8
  unfold fnV at hfl ⊢
  rw [← hn] at hfl hC ⊢
  have n2 : n ≤ 512 := by have := hG.n2; omega
  have HG : Hid (Good f ∧ n = f.code.length ∧ (m : Int) = f.slots ∧ SeenI w ca n f.code ∧ ∀ (j : Nat) i, f.code[j]? = some i → fitsV al fs f i = true) := ⟨hG, hn, hm, hC, hfit⟩
  have HF : Hid _ := hfl
  obtain ⟨B, hB⟩ : ∃ B, B = w.heap.size := ⟨_, rfl⟩
  clear hG hfit hsl hn hm hC hfl hsh hcf hT
  have hal := Keeps.alloc None w (.cells #[.int .i64 f.params, .int .i64 f.regs, .int .i64 f.slots, .slice ca n cc] 35)
  have b1 := heap_alloc_new w (.cells #[.int .i64 f.params, .int .i64 f.regs, .int .i64 f.slots, .slice ca n cc] 35)
  have hc := HF.out _ hal
  have HA : Hid (Keeps None w (w.alloc _) ∧ (w.alloc _).heap[B]? = _) := ⟨hal, hB ▸ b1⟩
  clear hal b1
  go_enter Tryd.func26, Tryd.ntmps26
  go_wp2_with (go_at_call 32; refine hc.mono ?_; rintro e w2 ⟨g, rfl, hM, hk2, hg⟩)
  have H2 : Hid (IsM w2 g n m n (fun k s => sumAt (searchV f s (0, 0)) k) ∧ Keeps None w w2 ∧ w2.heap[B]? = some (.cells #[.int .i64 f.params, .int .i64 f.regs, .int .i64 f.slots, .slice ca n cc] 35 (0, 0))) := ⟨hM, HA.out.1.trans hk2 (fun _ f _ => f), blk_kept HA.out.2 hk2 (fun f => f)⟩
  clear hM hk2 hg hc
  rw [← hB]
  clear hB
  go_loopw [10] (fun s10 wr => ∃ k : Nat, k ≤ n ∧ s10 = .int .i64 k ∧ (∀ (j : Nat) x, j < k → f.code[j]? = some x → misuseV x (rowV f j) = 0) ∧ IsM wr g n m n (fun k s => sumAt (searchV f s (0, 0)) k) ∧ Keeps None w wr ∧ wr.heap[B]? = some (.cells #[.int .i64 f.params, .int .i64 f.regs, .int .i64 f.slots, .slice ca n cc] 35 (0, 0))) (fun i _ => n - (intOf i).toNat)
  case atStart => exact ⟨0, Nat.zero_le _, rfl, fun q _ h => by omega, H2.out.1, H2.out.2.1, H2.out.2.2⟩
  case round =>
    obtain ⟨k, hk, rfl, hall, hM, hkp, hbx⟩ := hrel
    by_cases hkn : k < n
    · obtain ⟨b, off, x, rfl, hx, hat⟩ := (HG.out.2.2.2.1.more hkp).at hkn
      obtain ⟨y0, y1, y2, y3, y4⟩ := hat
      have d3 := (cell_of_heap hbx 3).trans rfl
      have i1 : (k : Int) < (n : Int) := by omega
      have r0 := hM.row hkn hkn
      have hfx := HG.out.2.2.2.2 k x hx
      have hkd := fits_kind hfx
      have hwy := fits_ways hfx
      have hmu := misuse_any x (g + 1 + k) m (rowV f k) wr (row_cells HG.out.2.2.1 hM k hkn) (row_len f k m HG.out.2.2.1) (row_seven HG.out.1 k (by have := HG.out.2.1; omega)) hm8
        (fun e => by
          have h1 := hwy.1
          rw [e] at h1
          have h2 : belowV x.a f.slots = true := h1
          have := (belowV_iff _ _).1 h2
          have := HG.out.2.2.1
          omega)
        (fun e => by
          have h1 := hwy.2.1
          rw [e] at h1
          have h2 : belowV x.b f.slots = true := h1
          have := (belowV_iff _ _).1 h2
          have := HG.out.2.2.1
          omega)
      unfold insV at hmu
      obtain ⟨e, he⟩ : ∃ e, e = misuseV x (rowV f k) := ⟨_, rfl⟩
      rw [← he] at hmu
      have HK : Hid ((∀ (j : Nat) x, j < k → f.code[j]? = some x → misuseV x (rowV f j) = 0) ∧ f.code[k]? = some x ∧ e = misuseV x (rowV f k) ∧ IsM wr g n m n (fun k s => sumAt (searchV f s (0, 0)) k) ∧ Keeps None w wr ∧ wr.heap[B]? = some (.cells #[.int .i64 f.params, .int .i64 f.regs, .int .i64 f.slots, .slice (some ⟨b, off, none⟩) n cc] 35 (0, 0))) := ⟨hall, hx, he, hM, hkp, hbx⟩
      clear hall hx he hM hkp hbx hfx hkd hwy
      by_cases he0 : e = 0
      · subst he0
        go_wp2_with (go_at_call 33; refine hmu.mono ?_; rintro e w3 ⟨rfl, hk3⟩)
        refine ⟨⟨k + 1, by omega, by simp, fun j z hj hz => ?_, HK.out.2.2.2.1.kept hk3 (fun _ _ f => f), HK.out.2.2.2.2.1.trans hk3 (fun _ f _ => f), blk_kept HK.out.2.2.2.2.2 hk3 (fun f => f)⟩, by simp [intOf]; omega⟩
        by_cases hjk : j = k
        · subst hjk
          rw [HK.out.2.1] at hz
          obtain rfl := Option.some.inj hz
          exact HK.out.2.2.1.symm
        · exact HK.out.1 j z (by omega) hz
      · have he1 : (e != 0) = true := by simpa using he0
        go_wp2_with (first | (go_at_call 33; refine hmu.mono ?_; rintro e w3 ⟨rfl, hk3⟩) | (go_at_call 29; refine (giveUp_any _ _ _ _).mono ?_; rintro e w' ⟨rfl, hw⟩; have hw2 := hw.symm; subst hw2))
        refine ⟨rfl, ?_, HK.out.2.2.2.2.1.trans hk3 (fun _ f _ => f)⟩
        unfold slotsE slotFault
        rw [firstAt_some _ f.code 0 k x e HK.out.2.1 (fun j y hj hy => by rw [Nat.zero_add, if_pos (HK.out.1 j y hj hy)]) (by rw [Nat.zero_add, ← HK.out.2.2.1, if_neg he0])]
        simp
    · have i1 : ¬ ((k : Int) < (n : Int)) := by omega
      have HK : Hid ((∀ (j : Nat) x, j < k → f.code[j]? = some x → misuseV x (rowV f j) = 0) ∧ Keeps None w wr) := ⟨hall, hkp⟩
      clear hall hkp hM hbx
      go_wp2_with fail
      go_end0
      refine ⟨?_, HK.out.2⟩
      unfold slotsE slotFault
      rw [firstAt_none _ f.code 0 (fun j y hy => by
        have := (List.getElem?_eq_some_iff.1 hy).1
        have := HG.out.2.1
        rw [Nat.zero_add, if_pos (HK.out.1 j y (by omega) hy)])]
      rfl
end Go.Proofs.YtokfbagacehbgaaDoor
