import Derived.Test.YtheginjjncnheaaHiOrd
/-! The program: has an order each ended call, and none twice? -/
namespace Go.Proofs.Ytheginjjncnheaa
set_option linter.unusedVariables false
set_option maxRecDepth 20000
open Go.RowKit Go.HeapKit

def cnt (b : Bool) : Value := .int .i64 (if b then 1 else 0)
theorem make_ints (n : Nat) (w : World) (hn : n ≤ 40) : ∃ M : Array Value, M.toList = List.replicate n (.int .i64 0) ∧ (Instr.makeSlice 32 (.int .i64 n) (.int .i64 n)).run Try.prog w = .ok (.slice (some ⟨w.heap.size, 0, none⟩) n n) (w.alloc (.cells M 3)) := by
  obtain ⟨i0, hi, hz0, hz1, hz2⟩ := info_parts Try.infoInt
  obtain ⟨M, hM, _, hr⟩ := run_make_block (P := Try.prog) (w := w) 32 3 i0 _ 1 8 Try.underlying32 hi hz0 hz1 hz2 n (by omega) (by omega)
  exact ⟨M, by rw [hM, Nat.mul_one]; exact toList_madeCells_one _ _, hr⟩
theorem made_row {w : World} {n : Nat} {M : Array Value} {e : TypeId} {u : Value} (hM : M.toList = List.replicate n u) (hn : n ≤ 40) : (w.alloc (.cells M e)).ownsRow w.heap.size e 1 (.slice (some ⟨w.heap.size, 0, none⟩) n n) n (List.replicate n u) := by
  have hs : M.size = n := by have := congrArg List.length hM; simpa using this
  have := World.ownsRow_lit (base := w.heap.size) (e := e) (size := 1) w M n (Nat.le_refl _) (by unfold maxLen; omega) (by omega)
  rwa [hM] at this

set_option maxHeartbeats 4000000 in
theorem complete_ok (a : Option Addr) (n c : Nat) (l : List Cl) (ao : Option Addr) (no co : Nat) (zs : List Int) (w : World) (hS : Seen w a n l) (hO : SeenI w ao no zs) (h40 : n ≤ 40) (hno : no * 8 ≤ 140737488355328) :
    Calls Try.prog 24 #[.slice a n c, .slice ao no co] w fun e w' => e = .returned (.bool (preB l zs zs.length && seenB l zs l.length)) ∧ Keeps None w w' := by
  have HL : Hid (n = l.length ∧ no = zs.length) := ⟨hS.len, hO.len⟩
  have HS : Hid (Seen w a n l) := hS
  have HO : Hid (SeenI w ao no zs) := hO
  clear hS hO
  obtain ⟨R, hR⟩ : ∃ R, R = (preB l zs zs.length && seenB l zs l.length) := ⟨_, rfl⟩
  have HR : Hid (R = (preB l zs zs.length && seenB l zs l.length)) := hR
  rw [← hR]
  clear hR
  obtain ⟨M, hM, hmk⟩ := make_ints n w h40
  obtain ⟨g, hg⟩ : ∃ g, g = w.heap.size := ⟨_, rfl⟩
  have HG : Hid (g = w.heap.size) := hg
  have H0 : Hid ((w.alloc (.cells M 3)).ownsRow w.heap.size 3 1 (.slice (some ⟨g, 0, none⟩) n n) n (markL cnt n zs 0)) := by
    rw [markL_zero, hg]; exact made_row hM h40
  rw [← hg] at hmk
  clear hM hg
  go_enter Try.func24, Try.ntmps24
  go_wp2_with (first | (at_make; refine wpList_make_run rfl (.tmp 11) (.tmp 11) 32 rfl rfl rfl hmk ?_) | fail)
  go_loopw [7, 15] (fun _ i wr => ∃ k : Nat, k ≤ no ∧ i = .int .i64 k ∧ preB l zs k = true ∧ wr.ownsRow w.heap.size 3 1 (.slice (some ⟨g, 0, none⟩) n n) n (markL cnt n zs k) ∧ Keeps None w wr) (fun _ i _ => no - (intOf i).toNat)
  case atStart => exact ⟨0, Nat.zero_le _, rfl, rfl, H0.out, Keeps.alloc None w _⟩
  case round =>
    clear H0 hmk
    obtain ⟨k, hk, rfl, hpre, hrow, hkp⟩ := hrel
    by_cases hkn : k < no
    · obtain ⟨b, off, rfl, hb, hc⟩ := (HO.out.more hkp).ex (by omega)
      obtain ⟨z, hz⟩ : ∃ z, zs[k]? = some z := ⟨zs[k]'(by have := HL.out.2; omega), by simp⟩
      have y0 := hc k z hz
      have i1 : (k : Int) < (no : Int) := by omega
      have HZ : Hid (zs[k]? = some z) := hz
      have HP : Hid (preB l zs k = true) := hpre
      have HK : Hid (Keeps None w wr) := hkp
      have HW : Hid (wr.ownsRow w.heap.size 3 1 (.slice (some ⟨g, 0, none⟩) n n) n (markL cnt n zs k)) := hrow
      have HB : Hid (idxB l zs k = false → R = false) := fun h => by
        rw [HR.out, show preB l zs zs.length = false from range_not (k := k) (by have := HL.out.2; omega) h]; rfl
      clear hc hz hpre hkp hrow
      by_cases z0 : z < 0
      · have HF : Hid (R = false) := HB.out (by unfold idxB; rw [getD_of HZ.out, decide_eq_false (by omega)]; rfl)
        clear HB
        go_wp2
        go_ret
        exact ⟨by rw [HF.out]; rfl, HK.out⟩
      · by_cases zn : (n : Int) ≤ z
        · have HF : Hid (R = false) := HB.out (by unfold idxB; rw [getD_of HZ.out, decide_eq_false (by have := HL.out.1; omega)]; rfl)
          clear HB
          go_wp2
          go_ret
          exact ⟨by rw [HF.out]; rfl, HK.out⟩
        · obtain ⟨j, rfl⟩ : ∃ j : Nat, z = j := ⟨z.toNat, by omega⟩
          have hjn : j < n := by omega
          obtain ⟨g', e', hbg, hglt, _, x0, hfr⟩ := vals_elem HW.out (markL_at cnt zs k hjn)
          injection e' with e'
          injection e' with e'
          subst e'
          have f0 := hfr j
          have i3 : (j : Int) < (n : Int) := by omega
          clear hfr
          cases hcn : (zs.take k).contains (j : Int) with
          | true =>
            rw [hcn] at x0
            simp only [cnt, if_true] at x0
            have HF : Hid (R = false) := HB.out (by unfold idxB; rw [getD_of HZ.out, hcn]; simp)
            clear HB hcn
            go_wp2
            go_ret
            exact ⟨by rw [HF.out]; rfl, HK.out⟩
          | false =>
            rw [hcn] at x0
            simp only [cnt, Bool.false_eq_true, if_false] at x0
            have HN : Hid (preB l zs (k + 1) = true ∧ (wr.setCell ⟨g, j, none⟩ (.int .i64 1)).ownsRow w.heap.size 3 1 (.slice (some ⟨g, 0, none⟩) n n) n (markL cnt n zs (k + 1)) ∧ Keeps None w (wr.setCell ⟨g, j, none⟩ (.int .i64 1))) := by
              refine ⟨?_, ?_, HK.out.trans (Keeps.setCell (S := (· = g)) wr (a := ⟨g, j, none⟩) rfl _) (fun i e hi => by have := HG.out; omega)⟩
              · unfold preB
                rw [range_more]
                have h1 := HP.out
                unfold preB at h1
                rw [h1, Bool.true_and]
                unfold idxB
                rw [getD_of HZ.out, hcn, decide_eq_true (by have := HL.out.1; omega)]
                rfl
              · rw [← markL_set cnt HZ.out hjn]
                exact row_set HW.out j _
            clear HB hcn HP HW
            go_wp2
            go_roundw
            case rel => exact ⟨k + 1, by omega, by go_num, HN.out⟩
            case measure => simp [intOf]; omega
    · have hkn2 : k = no := by omega
      subst hkn2
      have HP : Hid (preB l zs zs.length = true) := by rw [← HL.out.2]; exact hpre
      have HW : Hid (wr.ownsRow w.heap.size 3 1 (.slice (some ⟨g, 0, none⟩) n n) n (markL cnt n zs k) ∧ (zs.take k = zs)) := ⟨hrow, List.take_of_length_le (by have := HL.out.2; omega)⟩
      have HK : Hid (Keeps None w wr) := hkp
      clear hpre hrow hkp
      go_wp2_with fail
      go_loopw [8, 9, 43] (fun _ _ i wr2 => ∃ q : Nat, q ≤ n ∧ i = .int .i64 q ∧ seenB l zs q = true ∧ wr2.ownsRow w.heap.size 3 1 (.slice (some ⟨g, 0, none⟩) n n) n (markL cnt n zs k) ∧ Keeps None w wr2) (fun _ _ i _ => n - (intOf i).toNat)
      case atStart => exact ⟨0, Nat.zero_le _, rfl, rfl, HW.out.1, HK.out⟩
      case round =>
        have HT : Hid (zs.take k = zs) := HW.out.2
        clear HW HK
        obtain ⟨q, hq, rfl, hse, hrow, hkp⟩ := hrel
        by_cases hqn : q < n
        · obtain ⟨b, off, rfl, hb, hc⟩ := (HS.out.more hkp).ex (by omega)
          obtain ⟨x, hx⟩ : ∃ x, l[q]? = some x := ⟨l[q]'(by have := HL.out.1; omega), by simp⟩
          obtain ⟨y0, y1, y2, y3, y4, y5, y6⟩ := hc q x hx
          have i1 : (q : Int) < (n : Int) := by omega
          have hE := ended_ok x (wr.alloc (.cells #[.int .i64 x.who, .int .i64 x.kind, .int .i64 x.arg, .int .i64 x.beg, .int .i64 x.fin, .int .i64 x.code, .int .i64 x.v] 49))
          have HX : Hid (l[q]? = some x) := hx
          have HK : Hid (Keeps None w (wr.alloc (.cells #[.int .i64 x.who, .int .i64 x.kind, .int .i64 x.arg, .int .i64 x.beg, .int .i64 x.fin, .int .i64 x.code, .int .i64 x.v] 49))) := hkp.andAlloc _
          have HW : Hid ((wr.alloc (.cells #[.int .i64 x.who, .int .i64 x.kind, .int .i64 x.arg, .int .i64 x.beg, .int .i64 x.fin, .int .i64 x.code, .int .i64 x.v] 49)).ownsRow w.heap.size 3 1 (.slice (some ⟨g, 0, none⟩) n n) n (markL cnt n zs k)) := hrow.alloc _
          have HSE : Hid (seenB l zs q = true) := hse
          clear hc hx hrow hkp hse
          by_cases hcode : x.code = 0
          · rw [decide_eq_false (fun e => e hcode)] at hE
            have HN : Hid (seenB l zs (q + 1) = true) := seenB_more HX.out HSE.out (.inl hcode)
            clear hcode HSE
            go_wp2_with fail
            refine hE.mono ?_
            rintro e w2 ⟨rfl, hk2⟩
            have HN2 : Hid (w2.ownsRow w.heap.size 3 1 (.slice (some ⟨g, 0, none⟩) n n) n (markL cnt n zs k) ∧ Keeps None w w2) := ⟨row_kept HW.out hk2 (fun _ _ f => f), HK.out.trans hk2 (fun _ f _ => f)⟩
            clear hE hk2 HW HK
            go_wp2
            go_roundw
            case rel => exact ⟨q + 1, by omega, by go_num, HN.out, HN2.out⟩
            case measure => simp [intOf]; omega
          · rw [decide_eq_true hcode] at hE
            cases hcn : zs.contains (q : Int) with
            | true =>
              have HN : Hid (seenB l zs (q + 1) = true) := seenB_more HX.out HSE.out (.inr hcn)
              have HC : Hid ((zs.take k).contains (q : Int) = true) := by rw [HT.out]; exact hcn
              clear hcode HSE hcn
              go_wp2_with fail
              refine hE.mono ?_
              rintro e w2 ⟨rfl, hk2⟩
              have HN2 : Hid (w2.ownsRow w.heap.size 3 1 (.slice (some ⟨g, 0, none⟩) n n) n (markL cnt n zs k) ∧ Keeps None w w2) := ⟨row_kept HW.out hk2 (fun _ _ f => f), HK.out.trans hk2 (fun _ f _ => f)⟩
              obtain ⟨g', e', hbg, hglt, _, x0, hfr⟩ := vals_elem HN2.out.1 (markL_at cnt zs k hqn)
              injection e' with e'
              injection e' with e'
              subst e'
              rw [HC.out] at x0
              simp only [cnt, if_true] at x0
              clear hE hk2 HW HK hfr HC
              go_wp2
              go_roundw
              case rel => exact ⟨q + 1, by omega, by go_num, HN.out, HN2.out⟩
              case measure => simp [intOf]; omega
            | false =>
              have hF : R = false := by rw [HR.out, seenB_not HX.out hcode hcn, Bool.and_false]
              have HF : Hid (R = false) := hF
              clear hF
              have HC : Hid ((zs.take k).contains (q : Int) = false) := by rw [HT.out]; exact hcn
              clear hcode HSE hcn
              go_wp2_with fail
              refine hE.mono ?_
              rintro e w2 ⟨rfl, hk2⟩
              have HN2 : Hid (w2.ownsRow w.heap.size 3 1 (.slice (some ⟨g, 0, none⟩) n n) n (markL cnt n zs k) ∧ Keeps None w w2) := ⟨row_kept HW.out hk2 (fun _ _ f => f), HK.out.trans hk2 (fun _ f _ => f)⟩
              obtain ⟨g', e', hbg, hglt, _, x0, hfr⟩ := vals_elem HN2.out.1 (markL_at cnt zs k hqn)
              injection e' with e'
              injection e' with e'
              subst e'
              rw [HC.out] at x0
              simp only [cnt, Bool.false_eq_true, if_false] at x0
              clear hE hk2 HW HK hfr HC
              go_wp2
              go_ret
              exact ⟨by rw [HF.out]; rfl, HN2.out.2⟩
        · have HF : Hid (R = true) := by
            rw [HR.out, HP.out, ← HL.out.1, show n = q by omega]
            exact hse
          have HK : Hid (Keeps None w wr) := hkp
          clear hse hrow hkp
          go_wp2
          go_ret
          exact ⟨by rw [HF.out]; rfl, HK.out⟩
end Go.Proofs.Ytheginjjncnheaa
