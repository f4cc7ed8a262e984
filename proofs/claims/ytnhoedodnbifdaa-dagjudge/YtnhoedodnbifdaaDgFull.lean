import Derived.Test.YtnhoedodnbifdaaDgSorted
/-! The times at which no processor is idle. -/
namespace Go.Proofs.Ytnhoedodnbifdaa
set_option linter.unusedVariables false
set_option maxRecDepth 20000
open Go.RowKit Go.HeapKit

def srt (zs : List Int) : List Int := zs.mergeSort fun x y => decide (x ≤ y)
theorem srt_len (zs : List Int) : (srt zs).length = zs.length := by simp [srt, List.length_mergeSort]
def fullC (p : Nat) (s : List Int) (k : Nat) : Bool := decide (k + p - 1 < s.length) && (s.getD (k + p - 1) 0 == s.getD k 0)
def fullL (p : Nat) (s : List Int) : Nat → List Int
  | 0 => []
  | k + 1 => fullL p s k ++ (if fullC p s k then [s.getD k 0] else [])
def fullV (p : Nat) (zs : List Int) : List Int := fullL p (srt zs) zs.length
theorem fullL_len (p : Nat) (s : List Int) (k : Nat) : (fullL p s k).length ≤ k := by
  induction k with
  | zero => simp [fullL]
  | succ k ih =>
    unfold fullL
    split <;> simp <;> omega
theorem keeps_of_below {w w' : World} (h : Below w.heap.size w w') : Keeps None w w' := ⟨h.os, h.tape, h.output, h.size, fun k hk _ => h.block k hk⟩
theorem values_any (a : Option Addr) (len cap : Nat) (w : World) :
    Calls Try.prog 56 #[.slice a len cap] w fun e w' => e = .returned (.func (.func 65) #[] #[.pointer (some ⟨w.heap.size, 0, none⟩)]) ∧ w' = w.alloc (.cells #[.slice a len cap] 25) :=
  (callsIn_wide (n := 6)).1 (vals_in Fence.wide 6 trivial rfl a len cap w)
theorem sorted_any (Bs : Nat) (ap : Option Addr) (len cap : Nat) (zs : List Int) (hreach : len ≤ 4096) (w : World) (hBs : Bs < w.heap.size) (hc : w.cell? ⟨Bs, 0, none⟩ = some (.slice ap len cap)) (h : SeenZ w ap len zs) :
    Calls Try.prog 55 #[.func (.func 65) #[] #[.pointer (some ⟨Bs, 0, none⟩)]] w fun e w' => ∃ v, e = .returned v ∧ w'.ownsRow w.heap.size 3 1 v len (iv (srt zs)) ∧ Keeps None w w' :=
  ((callsIn_wide (n := 6)).1 (sorted_in 6 (by omega) Bs ap len cap zs h.len hreach w hBs hc h.ex)).mono (by
    rintro e w' ⟨v, rfl, hr, hb⟩
    exact ⟨v, rfl, hr, keeps_of_below hb⟩)
set_option maxHeartbeats 1600000 in
theorem full_any (p : Nat) (hp : 1 ≤ p ∧ p ≤ 64) (n : Nat) (ap : Option Addr) (cp : Nat) (zs : List Int) (w : World) (hz : SeenZ w ap n zs) (hn : n ≤ 4096) :
    Calls Try.prog 42 #[.int .i64 p, .slice ap n cp] w fun e w' => ∃ v, e = .returned v ∧ w'.ownsRow w.heap.size 3 1 v (fullV p zs).length (iv (fullV p zs)) ∧ Keeps None w w' := by
  have HZ : Hid (SeenZ w ap n zs) := hz
  have HL : Hid (n = zs.length) := hz.len
  clear hz
  obtain ⟨s0, hs0⟩ : ∃ s0, s0 = w.heap.size := ⟨_, rfl⟩
  have HS0 : Hid (s0 = w.heap.size) := hs0
  go_enter Try.func42, Try.ntmps42
  go_wp2_with fail
  refine (values_any ap n cp w).mono ?_
  rintro e w1 ⟨rfl, hw1⟩
  have hbox : w1.heap[s0]? = some (.cells #[.slice ap n cp] 25 (0, 0)) := by rw [hw1]; exact blk_new w _ _ hs0.symm
  have hk1 : Keeps None w w1 := by rw [hw1]; exact keeps1 _ _
  have hc1 : w1.cell? ⟨s0, 0, none⟩ = some (.slice ap n cp) := (blk_cell hbox 0).trans rfl
  have hlt := blk_lt hbox
  rw [← hs0]
  clear hs0 hw1
  go_wp2_with fail
  refine (sorted_any s0 ap n cp zs hn w1 hlt hc1 (HZ.out.more hk1)).mono ?_
  rintro e w2 ⟨v, rfl, hr2, hk2⟩
  obtain ⟨va, vc, rfl⟩ := row_shape hr2
  obtain ⟨s, hs⟩ : ∃ s, s = srt zs := ⟨_, rfl⟩
  have HSR : Hid (s = srt zs ∧ s.length = n) := ⟨hs, by rw [hs, srt_len]; exact HL.out.symm⟩
  rw [← hs] at hr2
  obtain ⟨B, hB⟩ : ∃ B, B = w2.heap.size := ⟨_, rfl⟩
  have H2 : Hid (w2.ownsRow w1.heap.size 3 1 (.slice va n vc) n (iv s) ∧ Keeps None w w2 ∧ B = w2.heap.size ∧ w.heap.size ≤ B) := ⟨hr2, hk1.trans hk2 (fun _ f _ => f), hB, by have := hk1.size; have := hk2.size; omega⟩
  clear hr2 hk2 hk1 hc1 hbox hlt hs hB
  go_wp2_with fail
  go_loopw [14, 6, 7, 8] (fun s14 s6 _ _ wr => ∃ (k m : Nat) (fa : Option Addr) (fc : Nat), s14 = .int .i64 k ∧ s6 = .slice fa m fc ∧ k ≤ n ∧ m = (fullL p s k).length ∧ wr.ownsRow B 3 1 (.slice fa m fc) m (iv (fullL p s k)) ∧ Keeps None w2 wr) (fun s14 _ _ _ _ => n - (intOf s14).toNat)
  case atStart => exact ⟨0, 0, none, 0, rfl, rfl, Nat.zero_le _, rfl, row_nil _ _ _ _, Keeps.refl _ _⟩
  case round =>
    obtain ⟨k, m, fa, fc, rfl, rfl, hk, hm, hrow, hkp⟩ := hrel
    have HI : Hid (m = (fullL p s k).length ∧ wr.ownsRow B 3 1 (.slice fa m fc) m (iv (fullL p s k)) ∧ Keeps None w2 wr) := ⟨hm, hrow, hkp⟩
    have hm4 : m ≤ 4096 := by have := fullL_len p s k; omega
    clear hm hrow hkp
    by_cases hlt : k < n
    · have hlt2 : (k : Int) < (n : Int) := by omega
      have n0 : ¬ n = 0 := by omega
      obtain ⟨x, hx⟩ : ∃ x, s[k]? = some x := ⟨s[k]'(by have := HSR.out.2; omega), by simp⟩
      have hsrt := row_kept H2.out.1 HI.out.2.2 (fun _ _ f => f)
      obtain ⟨g, rfl, e0, _⟩ := row_at hsrt hx
      have HG : Hid (g < B) := by have := own_lt H2.out.1 (g := g) rfl; have := H2.out.2.2.1; show _ < _; omega
      obtain ⟨q, hq⟩ : ∃ q, q = k + p - 1 := ⟨_, rfl⟩
      have hq2 : (k : Int) + (p : Int) - 1 = (q : Int) := by omega
      have hx2 : s.getD k 0 = x := by rw [List.getD_eq_getElem?_getD, hx]; rfl
      go_upto_region 6 with fail
      go_cut [8] (fun s8 wx => s8 = .int .i64 q ∧ wx = wr)
      case first =>
        go_wp2_with fail
        go_meet
        exact ⟨by simp; omega, rfl⟩
      case rest =>
      obtain ⟨rfl, hwc⟩ := hcut
      have hwc2 := hwc.symm
      subst hwc2
      clear hwc hq2
      have HQ : Hid (q = k + p - 1 ∧ s.getD k 0 = x ∧ s[k]? = some x) := ⟨hq, hx2, hx⟩
      have HR : Hid (wr.ownsRow w1.heap.size 3 1 (.slice (some ⟨g, 0, none⟩) n vc) n (iv s)) := hsrt
      clear hq hx2 hx hsrt
      go_upto_region 7 with fail
      go_cut [35] (fun s35 wx => s35 = .bool (fullC p s k) ∧ Keeps None wr wx)
      case first =>
        by_cases hC : q < n
        · have q1 : (q : Int) < (n : Int) := by omega
          obtain ⟨y, hy⟩ : ∃ y, s[q]? = some y := ⟨s[q]'(by have := HSR.out.2; omega), by simp⟩
          obtain ⟨g3, hg3, e1, _⟩ := row_at HR.out hy
          injection hg3 with hg3
          injection hg3 with hg3
          subst hg3
          have HB : Hid (fullC p s k = (y == x)) := by
            show _ = _
            have e2 := HSR.out.2
            have e3 : s.getD (k + p - 1) 0 = y := by rw [← HQ.out.1, List.getD_eq_getElem?_getD, hy]; rfl
            unfold fullC
            rw [e3, HQ.out.2.1]
            have e4 : decide (k + p - 1 < s.length) = true := by have := HQ.out.1; simp; omega
            rw [e4]; rfl
          clear hy
          go_quiet (fail)
          all_goals (go_wp2_with fail; go_meet)
          all_goals exact ⟨by rw [HB.out], Keeps.drewN None _ _⟩
        · have q1 : ¬ (q : Int) < (n : Int) := by omega
          have HB : Hid (fullC p s k = false) := by
            show _ = _
            unfold fullC
            have e4 : decide (k + p - 1 < s.length) = false := by have := HQ.out.1; have := HSR.out.2; simp; omega
            rw [e4]; rfl
          go_quiet (fail)
          all_goals (go_wp2_with fail; go_meet)
          all_goals exact ⟨by rw [HB.out], Keeps.drewN None _ _⟩
      case rest =>
      obtain ⟨rfl, hkc⟩ := hcut
      have e2 := hkc.cell e0 (fun f => f)
      have HN : Hid (wc.ownsRow B 3 1 (.slice fa m fc) m (iv (fullL p s k)) ∧ Keeps None w2 wc) := ⟨row_kept HI.out.2.1 hkc (fun _ _ f => f), HI.out.2.2.trans hkc (fun _ f _ => f)⟩
      clear hkc e0
      cases hb : fullC p s k with
      | true =>
        have HF : Hid (fullL p s (k + 1) = fullL p s k ++ [x]) := by
          show _ = _
          rw [fullL, hb, HQ.out.2.1]; rfl
        have hsz : B ≤ wc.heap.size := by have := HN.out.2.size; have := H2.out.2.2.1; omega
        obtain ⟨gg, cc, w5, hr, ho, hk5, hm5⟩ := int_more B (.slice fa m fc) (fullL p s k) x m 25 wc.heap.size (wc.alloc (.cells #[.int .i64 x] 3)) HI.out.1 (row_kept HN.out.1 (Keeps.alloc None wc _) (fun _ _ f => f)) (by simp; omega) (by omega) (blk_new _ _ _ rfl)
        have HE : Hid (w5.ownsRow B 3 1 (.slice (some ⟨gg, 0, none⟩) (m + 1) cc) (m + 1) (iv (fullL p s (k + 1))) ∧ Keeps None w2 w5) := by
          refine ⟨by rw [HF.out]; exact ho, (HN.out.2.andAlloc _).trans hk5 (fun i e hi => ?_)⟩
          have := row_low HN.out.1 e
          have := H2.out.2.2.1
          omega
        clear ho hk5 hm5 hb
        go_wp2_with (at_builtin; refine wpList_append_run rfl (.tmp 36) (.tmp 41) 25 25 rfl rfl rfl hr ?_)
        exact ⟨⟨k + 1, m + 1, _, _, by go_num, rfl, by omega, by rw [HF.out, List.length_append, ← HI.out.1]; rfl, HE.out.1, HE.out.2⟩, by simp [intOf]; omega⟩
      | false =>
        have HF : Hid (fullL p s (k + 1) = fullL p s k) := by
          show _ = _
          rw [fullL, hb]; simp
        clear hb
        go_wp2_with fail
        exact ⟨⟨k + 1, m, _, _, by go_num, rfl, by omega, by rw [HF.out]; exact HI.out.1, by rw [HF.out]; exact HN.out.1, HN.out.2⟩, by simp [intOf]; omega⟩
    · have hlt2 : ¬ (k : Int) < (n : Int) := by omega
      have HF : Hid (k = zs.length) := by have := HL.out; show _ = _; omega
      go_wp2_with fail
      go_ret
      refine ⟨_, rfl, ?_, H2.out.2.1.trans HI.out.2.2 (fun _ f _ => f)⟩
      unfold fullV
      have e9 : (fullL p (srt zs) zs.length).length = m := by rw [← HSR.out.1, ← HF.out]; exact HI.out.1.symm
      rw [e9, ← HSR.out.1, ← HF.out]
      exact row_base HI.out.2.1 H2.out.2.2.2
end Go.Proofs.Ytnhoedodnbifdaa
