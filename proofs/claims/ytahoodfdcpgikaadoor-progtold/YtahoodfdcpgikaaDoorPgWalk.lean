import Derived.Test.YtahoodfdcpgikaaDoorPgCheck2
import Derived.Test.YtahoodfdcpgikaaDoorPlain
/-! A walk through a function, in memory. -/
namespace Go.Proofs.YtahoodfdcpgikaaDoor
set_option linter.unusedVariables false
set_option maxRecDepth 20000
open Go.RowKit Go.HeapKit

def walkL (at_ : Int) (sl : List Int) (ov : Bool) : List Value := .int .i64 at_ :: (sl.map (Value.int .i64) ++ [.bool ov])
structure IsWk (w : World) (X : Nat) (at_ : Int) (sl : List Int) (ov : Bool) : Prop where
  blk : w.heap[X]? = some (.cells (walkL at_ sl ov).toArray 70 (0, 0))
  len : sl.length = 8
theorem IsWk.kept {w w' : World} {X : Nat} {at_ : Int} {sl : List Int} {ov : Bool} {S : Nat → Prop} (h : IsWk w X at_ sl ov) (hk : Keeps S w w') (hS : ¬ S X) : IsWk w' X at_ sl ov := ⟨blk_kept h.blk hk hS, h.len⟩
theorem IsWk.c0 {w : World} {X : Nat} {at_ : Int} {sl : List Int} {ov : Bool} (h : IsWk w X at_ sl ov) : w.cell? ⟨X, 0, none⟩ = some (.int .i64 at_) := (blk_cell h.blk 0).trans rfl
theorem IsWk.c9 {w : World} {X : Nat} {at_ : Int} {sl : List Int} {ov : Bool} (h : IsWk w X at_ sl ov) : w.cell? ⟨X, 9, none⟩ = some (.bool ov) := by
  rw [blk_cell h.blk 9]
  simp [walkL, h.len]
theorem IsWk.at {w : World} {X : Nat} {at_ : Int} {sl : List Int} {ov : Bool} (h : IsWk w X at_ sl ov) {k : Nat} (hk : k < 8) : w.cell? ⟨X, 1 + k, none⟩ = some (.int .i64 (sl.getD k 0)) := by
  have hl := h.len
  rw [blk_cell h.blk, Nat.add_comm]
  simp [walkL, List.getElem?_append_left, hl, hk, List.getD_eq_getElem?_getD]
theorem IsWk.free {w : World} {X : Nat} {at_ : Int} {sl : List Int} {ov : Bool} (h : IsWk w X at_ sl ov) (k : Nat) : w.frozen? ⟨X, k, none⟩ = false := blk_free h.blk k
theorem IsWk.go {w : World} {X : Nat} {at_ : Int} {sl : List Int} {ov : Bool} (h : IsWk w X at_ sl ov) (a' : Int) : IsWk (w.setCell ⟨X, 0, none⟩ (.int .i64 a')) X a' sl ov :=
  ⟨by rw [blk_set h.blk]; simp [walkL], h.len⟩
theorem IsWk.over {w : World} {X : Nat} {at_ : Int} {sl : List Int} {ov : Bool} (h : IsWk w X at_ sl ov) (b : Bool) : IsWk (w.setCell ⟨X, 9, none⟩ (.bool b)) X at_ sl b :=
  ⟨by
    have hl := h.len
    rw [blk_set h.blk]
    simp [walkL, hl], h.len⟩
theorem IsWk.slot {w : World} {X : Nat} {at_ : Int} {sl : List Int} {ov : Bool} (h : IsWk w X at_ sl ov) (k : Nat) (hk : k < 8) (x : Int) : IsWk (w.setCell ⟨X, 1 + k, none⟩ (.int .i64 x)) X at_ (sl.set k x) ov :=
  ⟨by
    have hl := h.len
    rw [blk_set h.blk, Nat.add_comm]
    simp [walkL, hl, hk], by simpa using h.len⟩

def modV (x : Int) (n : Nat) : Nat := (x % (n : Int)).toNat
theorem modV_lt (x : Int) (n : Nat) (hn : 0 < n) : modV x n < n := by
  unfold modV
  have h1 := Int.emod_lt_of_pos x (show (0 : Int) < n by omega)
  have h2 := Int.emod_nonneg x (show (n : Int) ≠ 0 by omega)
  omega
theorem mod_any (x : Int) (n : Nat) (w : World) (hx : okI x) (h0 : 0 < n) (h1 : n ≤ 32) : Calls Tryd.prog 13 #[.int .i64 x, .int .i64 n] w fun e w' => e = .returned (.int .i64 (modV x n)) ∧ w' = w := by
  have hm : (modV x n : Int) = x % (n : Int) := by
    unfold modV
    have h2 := Int.emod_nonneg x (show (n : Int) ≠ 0 by omega)
    omega
  have h2 := Go.PlainOps.tmod_mod x n (by omega)
  obtain ⟨b0, b1⟩ := Go.PlainOps.tmod_bounds x n (by omega)
  have E : Hid ((modV x n : Int) = (if x.tmod n < 0 then x.tmod n + n else x.tmod n)) := by unfold Hid; rw [hm, h2]
  have hn : ¬ (n : Int) = 0 := by omega
  have hn2 : (n : Int) ≤ 32 := by omega
  have b2 : -33 ≤ x.tmod n := by omega
  clear hm h2
  unfold okI at hx
  obtain ⟨R, hR⟩ : ∃ R, R = modV x n := ⟨_, rfl⟩
  rw [← hR] at E ⊢
  clear hR
  by_cases hr : x.tmod n < 0
  · go_enter Tryd.func13, Tryd.ntmps13
    go_wp2
    go_ret
    exact ⟨by rw [E.out, if_pos hr]; rfl, rfl⟩
  · go_enter Tryd.func13, Tryd.ntmps13
    go_wp2
    go_ret
    exact ⟨by rw [E.out, if_neg (by omega)]; rfl, rfl⟩
set_option maxHeartbeats 2000000 in
theorem steps_any (X : Nat) (t : Nat) (sl : List Int) (turn : Bool) (f : Fn) (ca : Option Addr) (cc n : Nat) (i : Ins) (w : World) (h : IsWk w X t sl false) (hn : n = f.code.length) (hn2 : n ≤ 512) (hC : SeenI w ca n f.code) (hi : f.code[t]? = some i) (h5 : i.kind = 5 → 0 ≤ i.a ∧ i.a < 8) :
    Calls Tryd.prog 27 #[.pointer (some ⟨X, 0, none⟩), fnV f ca cc, .bool turn] w fun e w' => e = .returned (.tuple #[]) ∧ IsWk w' X (stepAt i t turn) (stepSl i sl) (decide (i.kind = 9)) ∧ Keeps (· = X) w w' := by
  have ht : t < n := by have := (List.getElem?_eq_some_iff.1 hi).1; omega
  unfold fnV
  rw [← hn]
  have hal := Keeps.alloc None w (.cells #[.int .i64 f.params, .int .i64 f.regs, .int .i64 f.slots, .slice ca n cc] 32)
  have b1 := heap_alloc_new w (.cells #[.int .i64 f.params, .int .i64 f.regs, .int .i64 f.slots, .slice ca n cc] 32)
  obtain ⟨b, off, x, rfl, hx, hat⟩ := (hC.more hal).at ht
  rw [hx] at hi
  obtain rfl := Option.some.inj hi
  have hw := h.kept hal (fun f => f)
  obtain ⟨ik, ia, ib, ic, iK⟩ := x
  simp only at h5
  obtain ⟨y0, y1, y2, y3, y4⟩ := hat
  obtain ⟨wa, hwa⟩ : ∃ wa, wa = w.alloc (.cells #[.int .i64 f.params, .int .i64 f.regs, .int .i64 f.slots, .slice (some ⟨b, off, none⟩) n cc] 32) := ⟨_, rfl⟩
  obtain ⟨B, hB⟩ : ∃ B, B = w.heap.size := ⟨_, rfl⟩
  rw [← hwa] at hw hal b1 y0 y1 y2 y3 y4
  rw [← hB] at b1
  have d3 := (cell_of_heap b1 3).trans rfl
  have c0 := hw.c0
  have HW : Hid (IsWk wa X t sl false ∧ Keeps None w wa) := ⟨hw, hal⟩
  have i1 : (t : Int) < (n : Int) := by omega
  clear hw hal b1 h hC hx hn hi
  go_enter Tryd.func27, Tryd.ntmps27
  go_upto_region 1 with fail
  rw [← hwa, ← hB]
  obtain ⟨Y, hY⟩ : ∃ Y, Y = wa.heap.size := ⟨_, rfl⟩
  have HY : Hid (Y = wa.heap.size) := hY
  clear hwa hB hY
  simp only at y0 y1 y2 y3 y4
  have n1 := World.new_ne wa _ d3
  have n2 := World.new_ne wa _ c0
  have n3 := World.new_ne wa _ y0
  go_cut [6] (fun s6 wx => s6 = .pointer (some ⟨Y, 0, none⟩) ∧ wx.heap[Y]? = some (.cells #[.int .i64 ik, .int .i64 ia, .int .i64 ib, .int .i64 ic, .int .i64 iK] 34 (0, 0)) ∧ Keeps None wa wx)
  case first =>
    go_region_held3 (fun w' => w'.cell? ⟨B, 3, none⟩ = some (.slice (some ⟨b, off, none⟩) n cc) ∧ w'.cell? ⟨X, 0, none⟩ = some (.int .i64 t) ∧ w'.cell? ⟨b, off + t * 5, none⟩ = some (.int .i64 ik) ∧ w'.cell? ⟨b, off + t * 5 + 1, none⟩ = some (.int .i64 ia) ∧ w'.cell? ⟨b, off + t * 5 + 2, none⟩ = some (.int .i64 ib) ∧ w'.cell? ⟨b, off + t * 5 + 3, none⟩ = some (.int .i64 ic) ∧ w'.cell? ⟨b, off + t * 5 + 4, none⟩ = some (.int .i64 iK)) (go_keep) (fail)
    all_goals (go_wp2_with fail; go_meet)
    all_goals
      rw [HY.out]
      exact ⟨rfl, heap_alloc_new wa _, (Keeps.alloc None wa _).andDrew⟩
  case rest =>
    obtain ⟨rfl, hyb, hk1⟩ := hcut
    have hw1 := HW.out.1.kept hk1 (fun f => f)
    have hXY : X ≠ Y := fun e => by
      have h1 := hw1.blk
      rw [e, hyb] at h1
      injection h1 with h1
      injection h1 with _ h2 _
      exact absurd h2 (by decide)
    have hYX : Y ≠ X := hXY.symm
    have c1 := hw1.c0
    have z1 := hw1.free 0
    have HV : Hid (IsWk wc X t sl false ∧ Keeps None w wc ∧ wc.heap[Y]? = some (.cells #[.int .i64 ik, .int .i64 ia, .int .i64 ib, .int .i64 ic, .int .i64 iK] 34 (0, 0))) := ⟨hw1, HW.out.2.trans hk1 (fun _ f _ => f), hyb⟩
    clear hw1 hyb hk1 n1 n2 n3 y0 y1 y2 y3 y4 d3 c0
    go_upto_region 2 with fail
    go_cut [6] (fun s6 wx => s6 = .pointer (some ⟨Y, 0, none⟩) ∧ IsWk wx X (t + 1) sl false ∧ wx.heap[Y]? = some (.cells #[.int .i64 ik, .int .i64 ia, .int .i64 ib, .int .i64 ic, .int .i64 iK] 34 (0, 0)) ∧ Keeps (· = X) w wx)
    case first =>
      go_wp2_with fail
      go_meet
      have hst : Keeps (· = X) wc (wc.setCell ⟨X, 0, none⟩ (.int .i64 (t + 1))) := Keeps.setCell (S := (· = X)) wc rfl _
      exact ⟨rfl, HV.out.1.go _, blk_kept HV.out.2.2 hst hYX, (HV.out.2.1.mono (fun _ f _ => f.elim)).trans hst (fun _ e _ => e)⟩
    case rest =>
      obtain ⟨rfl, hw2, hyb, hk2⟩ := hcut
      have e0 := (cell_of_heap hyb 0).trans rfl
      have e1 := (cell_of_heap hyb 1).trans rfl
      have e2 := (cell_of_heap hyb 2).trans rfl
      have HZ : Hid (IsWk wc X (t + 1) sl false ∧ Keeps (· = X) w wc ∧ wc.heap[Y]? = some (.cells #[.int .i64 ik, .int .i64 ia, .int .i64 ib, .int .i64 ic, .int .i64 iK] 34 (0, 0))) := ⟨hw2, hk2, hyb⟩
      have z0 := hw2.free 0
      have z9 := hw2.free 9
      have x0 := hw2.c0
      have x9 := hw2.c9
      clear hw2 hk2 hyb HV c1 z1
      by_cases k5 : ik = 5
      · subst k5
        obtain ⟨a0, a1⟩ := h5 rfl
        obtain ⟨a, rfl⟩ := Int.eq_ofNat_of_zero_le a0
        have hea : stepAt ⟨5, a, ib, ic, iK⟩ t turn = t + 1 ∧ stepSl ⟨5, a, ib, ic, iK⟩ sl = sl.set a 1 := by simp [stepAt, stepSl]
        have HE : Hid _ := hea
        have xa := HZ.out.1.at (k := a) (by omega)
        have za := HZ.out.1.free (1 + a)
        obtain ⟨xv, hxv⟩ : ∃ xv, xv = sl.getD a 0 := ⟨_, rfl⟩
        rw [← hxv] at xa
        clear hea h5 hxv
        go_upto_region 5 with fail
        go_region_held3 (fun w' => w'.cell? ⟨Y, 1, none⟩ = some (.int .i64 a)) (go_keep) (fail)
        all_goals (go_wp2_with fail; go_end0)
        all_goals
          refine ⟨rfl, ?_, (HZ.out.2.1.trans (Keeps.setCell (S := (· = X)) wc (a := ⟨X, 1 + a, none⟩) rfl _) (fun _ e _ => e)).andDrew⟩
          rw [HE.out.1, HE.out.2]
          exact (HZ.out.1.slot a (by omega) 1).kept (Keeps.drew None _) (fun f => f)
      · have q5 : (ik == 5) = false := by simpa using k5
        clear h5
        by_cases k6 : ik = 6
        · subst k6
          have hea : stepAt ⟨6, ia, ib, ic, iK⟩ t turn = t + 1 ∧ stepSl ⟨6, ia, ib, ic, iK⟩ sl = syncV sl := by simp [stepAt, stepSl]
          have HE : Hid _ := hea
          clear hea
          go_wp2_with fail
          go_loopw [7] (fun s7 wx => ∃ (k : Nat) (sl' : List Int), k ≤ 8 ∧ s7 = .int .i64 k ∧ IsWk wx X (t + 1) sl' false ∧ Keeps (· = X) w wx ∧ (∀ j, j < k → sl'[j]? = (syncV sl)[j]?) ∧ ∀ j, k ≤ j → sl'[j]? = sl[j]?) (fun i _ => 8 - (intOf i).toNat)
          case atStart => exact ⟨0, sl, Nat.zero_le _, rfl, HZ.out.1, HZ.out.2.1, fun j h => by omega, fun _ _ => rfl⟩
          case round =>
            clear e0 e1 e2 z0 z9 x0 x9
            obtain ⟨k, sl', hk, rfl, hw3, hk3, hlo, hhi⟩ := hrel
            by_cases hk8 : k < 8
            · have i2 : (k : Int) < 8 := by omega
              have xa := hw3.at hk8
              have za := hw3.free (1 + k)
              have hsk : sl'[k]? = sl[k]? := hhi k (Nat.le_refl _)
              have hl := hw3.len
              have hl0 := HZ.out.1.len
              obtain ⟨v, hv⟩ : ∃ v, v = sl'.getD k 0 := ⟨_, rfl⟩
              have hv2 : sl[k]? = some v := by rw [← hsk, hv, List.getD_eq_getElem?_getD, List.getElem?_eq_getElem (by omega)]; rfl
              rw [← hv] at xa
              have hsy : (syncV sl)[k]? = some (if v = 1 then 2 else v) := by unfold syncV; rw [List.getElem?_map, hv2]; rfl
              have HQ : Hid (IsWk wr X (t + 1) sl' false ∧ Keeps (· = X) w wr ∧ (∀ j, j < k → sl'[j]? = (syncV sl)[j]?) ∧ (∀ j, k ≤ j → sl'[j]? = sl[j]?) ∧ (syncV sl)[k]? = some (if v = 1 then 2 else v) ∧ sl'.length = 8 ∧ sl[k]? = some v) := ⟨hw3, hk3, hlo, hhi, hsy, hl, hv2⟩
              clear hw3 hk3 hlo hhi hsy hl hv2 hsk hv hl0
              by_cases hv1 : v = 1
              · subst hv1
                go_wp2_with fail
                refine ⟨⟨k + 1, sl'.set k 2, by omega, by simp, HQ.out.1.slot k hk8 2, HQ.out.2.1.trans (Keeps.setCell (S := (· = X)) wr (a := ⟨X, 1 + k, none⟩) rfl _) (fun _ e _ => e), fun j hj => ?_, fun j hj => ?_⟩, by simp [intOf]; omega⟩
                · by_cases e : j = k
                  · subst e
                    rw [HQ.out.2.2.2.2.1]
                    simp [HQ.out.2.2.2.2.2.1, hk8]
                  · rw [List.getElem?_set_ne (by omega)]
                    exact HQ.out.2.2.1 j (by omega)
                · rw [List.getElem?_set_ne (by omega)]
                  exact HQ.out.2.2.2.1 j (by omega)
              · have hv1' : (v == 1) = false := by simpa using hv1
                go_wp2_with fail
                refine ⟨⟨k + 1, sl', by omega, by simp, HQ.out.1, HQ.out.2.1, fun j hj => ?_, fun j hj => HQ.out.2.2.2.1 j (by omega)⟩, by simp [intOf]; omega⟩
                by_cases e : j = k
                · subst e
                  rw [HQ.out.2.2.2.2.1, if_neg hv1, HQ.out.2.2.2.1 j (Nat.le_refl _), HQ.out.2.2.2.2.2.2]
                · exact HQ.out.2.2.1 j (by omega)
            · have i2 : ¬ ((k : Int) < 8) := by omega
              have hfin : sl' = syncV sl := by
                have hl := hw3.len
                have hl0 := HZ.out.1.len
                apply List.ext_getElem?
                intro j
                by_cases hj : j < 8
                · exact hlo j (by omega)
                · rw [List.getElem?_eq_none (by omega), List.getElem?_eq_none (by simp [syncV]; omega)]
              have HQ : Hid (IsWk wr X (t + 1) (syncV sl) false ∧ Keeps (· = X) w wr) := ⟨hfin ▸ hw3, hk3⟩
              clear hw3 hk3 hlo hhi hfin
              go_wp2_with fail
              go_end0
              refine ⟨rfl, ?_, HQ.out.2⟩
              rw [HE.out.1, HE.out.2]
              exact HQ.out.1
        · have q6 : (ik == 6) = false := by simpa using k6
          have hsl : stepSl ⟨ik, ia, ib, ic, iK⟩ sl = sl := by simp [stepSl, k5, k6]
          have HSL : Hid _ := hsl
          clear hsl
          by_cases k3 : ik = 3
          · subst k3
            have hea : stepAt ⟨3, ia, ib, ic, iK⟩ t turn = ia := by simp [stepAt]
            have HE : Hid _ := hea
            clear hea
            go_wp2_with fail
            go_end0
            refine ⟨rfl, ?_, HZ.out.2.1.trans (Keeps.setCell (S := (· = X)) wc (a := ⟨X, 0, none⟩) rfl _) (fun _ e _ => e)⟩
            rw [HE.out, HSL.out]
            exact HZ.out.1.go _
          · have q3 : (ik == 3) = false := by simpa using k3
            by_cases k4 : ik = 4
            · subst k4
              cases turn
              · have hea : stepAt ⟨4, ia, ib, ic, iK⟩ t false = t + 1 := by simp [stepAt]
                have HE : Hid _ := hea
                clear hea
                go_wp2_with fail
                go_end0
                refine ⟨rfl, ?_, HZ.out.2.1⟩
                rw [HE.out, HSL.out]
                exact HZ.out.1
              · have hea : stepAt ⟨4, ia, ib, ic, iK⟩ t true = ib := by simp [stepAt]
                have HE : Hid _ := hea
                clear hea
                go_wp2_with fail
                go_end0
                refine ⟨rfl, ?_, HZ.out.2.1.trans (Keeps.setCell (S := (· = X)) wc (a := ⟨X, 0, none⟩) rfl _) (fun _ e _ => e)⟩
                rw [HE.out, HSL.out]
                exact HZ.out.1.go _
            · have q4 : (ik == 4) = false := by simpa using k4
              have hea : stepAt ⟨ik, ia, ib, ic, iK⟩ t turn = t + 1 := by simp [stepAt, k3, k4]
              have HE : Hid _ := hea
              clear hea
              by_cases k9 : ik = 9
              · subst k9
                go_wp2_with fail
                go_end0
                refine ⟨rfl, ?_, HZ.out.2.1.trans (Keeps.setCell (S := (· = X)) wc (a := ⟨X, 9, none⟩) rfl _) (fun _ e _ => e)⟩
                rw [HE.out, HSL.out]
                exact HZ.out.1.over true
              · have q9 : (ik == 9) = false := by simpa using k9
                have hd : decide (ik = 9) = false := by simpa using k9
                go_wp2_with fail
                go_end0
                refine ⟨rfl, ?_, HZ.out.2.1⟩
                rw [HE.out, HSL.out, hd]
                exact HZ.out.1
end Go.Proofs.YtahoodfdcpgikaaDoor
