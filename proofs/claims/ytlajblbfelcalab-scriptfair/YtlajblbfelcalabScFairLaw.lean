import Derived.Test.YtlajblbfelcalabScRef1
import Derived.Test.YtlajblbfelcalabScMoved
/-! ScriptFair. -/
namespace Go.Proofs.Ytlajblbfelcalab
set_option linter.unusedVariables false
set_option maxRecDepth 20000
open Go.RowKit Go.HeapKit Go.Sc

def fairX (l : List Int) (x win : Int) : Bool := if goodB x = true then fairB l x.toNat win else false
def winX (l : List Int) (x : Int) : Int := if goodB x = true then (winV l x.toNat : Int) else 0
section
variable (a : Option Addr) (m c : Nat) (x win : Int) (l : List Int) (w : World) (h : SeenN w a m l) (hs : m * 8 ≤ 140737488351232)
include h hs
theorem fairX_any : Calls Try.prog 12 #[.slice a m c, .int .i64 x, .int .i64 win] w fun e w' => e = .returned (.bool (fairX l x win)) ∧ Keeps None w w' := by
  by_cases hg : goodB x = true
  · obtain ⟨W, rfl, h1, h2⟩ := goodB_of hg
    have e : fairX l W win = fairB l W win := by simp [fairX, hg]
    rw [e]
    exact fair_any a m c W win l w h h1 h2 hs
  · have hf : goodB x = false := by simpa using hg
    have e : fairX l x win = false := by simp [fairX, hf]
    rw [e]
    exact (fair_bad a m c x win w hf).mono fun e w' ⟨h1, h2⟩ => ⟨h1, by subst h2; exact Keeps.refl _ _⟩
theorem rfairX_any : Calls Try.prog 17 #[.slice a m c, .int .i64 x, .int .i64 win] w fun e w' => e = .returned (.bool (fairX l x win)) ∧ w' = w := by
  by_cases hg : goodB x = true
  · obtain ⟨W, rfl, h1, h2⟩ := goodB_of hg
    have e : fairX l W win = fairB l W win := by simp [fairX, hg]
    rw [e]
    exact rfair_any a m c W win l w h h1 h2 hs
  · have hf : goodB x = false := by simpa using hg
    have e : fairX l x win = false := by simp [fairX, hf]
    rw [e]
    exact rfair_bad a m c x win w hf
theorem windowX_any : Calls Try.prog 14 #[.slice a m c, .int .i64 x] w fun e w' => e = .returned (.int .i64 (winX l x)) ∧ Keeps None w w' := by
  by_cases hg : goodB x = true
  · obtain ⟨W, rfl, h1, h2⟩ := goodB_of hg
    have e : winX l W = (winV l W : Int) := by simp [winX, hg]
    rw [e]
    exact window_any a m c W l w h h1 h2 hs
  · have hf : goodB x = false := by simpa using hg
    have e : winX l x = 0 := by simp [winX, hf]
    rw [e]
    exact (window_bad a m c x w hf).mono fun e w' ⟨h1, h2⟩ => ⟨h1, by subst h2; exact Keeps.refl _ _⟩
theorem rwindowX_any : Calls Try.prog 18 #[.slice a m c, .int .i64 x] w fun e w' => e = .returned (.int .i64 (winX l x)) ∧ w' = w := by
  by_cases hg : goodB x = true
  · obtain ⟨W, rfl, h1, h2⟩ := goodB_of hg
    have e : winX l W = (winV l W : Int) := by simp [winX, hg]
    rw [e]
    exact rwindow_any a m c W l w h h1 h2 hs
  · have hf : goodB x = false := by simpa using hg
    have e : winX l x = 0 := by simp [winX, hf]
    rw [e]
    exact rwindow_bad a m c x w hf hs
end
set_option maxHeartbeats 3200000 in
theorem scriptFair_walk (a : Option Addr) (m c : Nat) (x y : Int) (l : List Int) (w : World) (h : SeenN w a m l) (hs : m * 8 ≤ 140737488351232) :
    Calls Try.prog 4 #[.slice a m c, .int .i64 x, .int .i64 y] w fun e w' => e = .returned (.bool true) ∧ Below w.heap.size w w' := by
  have HS : Hid (SeenN w a m l) := h
  clear h
  go_enter Try.func4, Try.ntmps4
  go_wp2_with fail
  refine (moved_any a m c l _ HS.out hs).mono ?_
  rintro _ w1 ⟨g, cap, rfl, ⟨l1, hR1⟩, hk1⟩
  have hgl := hR1.low
  have hfit := hR1.fits
  have H1 : Hid (Room w1 w.heap.size g m cap l1 ∧ Keeps None w w1) := ⟨hR1, hk1⟩
  clear hR1 hk1
  go_wp2_with fail
  go_loopw [8] (fun s8 wr => ∃ (k : Nat) (l' : List Int), s8 = .int .i64 k ∧ k ≤ m ∧ Room wr w.heap.size g m cap l' ∧ Keeps None w wr) (fun s8 _ => m - (intOf s8).toNat)
  case atStart => exact ⟨0, l1, rfl, Nat.zero_le _, H1.out.1, H1.out.2⟩
  case round =>
    obtain ⟨k, l', rfl, hk, hroom, hkp⟩ := hrel
    by_cases hkm : k < m
    · obtain ⟨b, off, x0, rfl, he, c1⟩ := (HS.out.more hkp).at (k := 0) (by omega)
      rw [Nat.add_zero] at c1
      have hl := hroom.len
      obtain ⟨z0, hf⟩ := hroom.at (k := k) (x := l'[k]'(by omega)) (by rw [List.getElem?_append_left (by omega)]; simp)
      have f0 := hf k
      generalize l'[k]'(by omega) = y0 at z0
      have m0 : ¬ m = 0 := by omega
      have m1 : (0 : Int) < (m : Int) := by omega
      have i1 : (k : Int) < (m : Int) := by omega
      have HN : Hid (Room (wr.setCell ⟨g, k, none⟩ (.int .i64 x0)) w.heap.size g m cap (l'.set k x0) ∧ Keeps None w (wr.setCell ⟨g, k, none⟩ (.int .i64 x0))) :=
        ⟨hroom.put hkm x0, hkp.andSet (x := ⟨g, k, none⟩) (.inr hgl) _⟩
      clear hroom hkp hf he hl HS
      go_wp2_with fail
      exact ⟨⟨k + 1, _, by go_num, by omega, HN.out⟩, by simp [intOf]; omega⟩
    · have i1 : ¬ (k : Int) < (m : Int) := by omega
      have H2 : Hid (Room wr w.heap.size g m cap l' ∧ Keeps None w wr) := ⟨hroom, hkp⟩
      clear hroom hkp
      go_wp2_with fail
      refine (fairX_any _ m cap x y l' _ H2.out.1.seen hs).mono ?_
      rintro _ w2 ⟨rfl, hk2⟩
      have H3 : Hid (Room w2 w.heap.size g m cap l' ∧ Keeps None w w2) := ⟨H2.out.1.more hk2, H2.out.2.trans hk2 (fun _ f _ => f)⟩
      clear hk2
      go_wp2_with fail
      refine (windowX_any _ m cap x l' _ H3.out.1.seen hs).mono ?_
      rintro _ w3 ⟨rfl, hk3⟩
      have H4 : Hid (Room w3 w.heap.size g m cap l' ∧ Keeps None w w3) := ⟨H3.out.1.more hk3, H3.out.2.trans hk3 (fun _ f _ => f)⟩
      clear hk3
      go_wp2_with fail
      refine (back_any w.heap.size g m cap a c l l' _ (HS.out.more H4.out.2) H4.out.1 (fun h0 q hq => by have := HS.out.lt q hq h0; omega) hs).mono ?_
      rintro _ w4 ⟨rfl, hR4, hk4⟩
      have H5 : Hid (Room w4 w.heap.size g m cap l ∧ Keeps None w w4) := ⟨hR4, H4.out.2.trans hk4 (fun i e hi => by omega)⟩
      clear hR4 hk4
      go_wp2_with fail
      refine (fairX_any _ m cap x y l _ H5.out.1.seen hs).mono ?_
      rintro _ w5 ⟨rfl, hk5⟩
      have H6 : Hid (Room w5 w.heap.size g m cap l ∧ Keeps None w w5) := ⟨H5.out.1.more hk5, H5.out.2.trans hk5 (fun _ f _ => f)⟩
      clear hk5
      go_wp2_with fail
      refine (windowX_any _ m cap x l _ H6.out.1.seen hs).mono ?_
      rintro _ w6 ⟨rfl, hk6⟩
      have H7 : Hid (Room w6 w.heap.size g m cap l ∧ Keeps None w w6) := ⟨H6.out.1.more hk6, H6.out.2.trans hk6 (fun _ f _ => f)⟩
      clear hk6
      obtain ⟨FB, hFB⟩ : ∃ FB, FB = fairX l x y := ⟨_, rfl⟩
      have HFB : Hid (FB = fairX l x y) := hFB
      obtain ⟨WV, hWV⟩ : ∃ WV, WV = winX l x := ⟨_, rfl⟩
      have HWV : Hid (WV = winX l x) := hWV
      rw [← hFB, ← hWV]
      clear hFB hWV
      go_wp2_with fail
      refine (same_any _ a m cap c l _ H7.out.1.seen (HS.out.more H7.out.2) hs).mono ?_
      rintro _ w7 ⟨rfl, d7, rfl⟩
      have H8 : Hid (Room (w6.drewN d7) w.heap.size g m cap l ∧ Keeps None w (w6.drewN d7)) := ⟨H7.out.1.more (Keeps.drewN None _ _), H7.out.2.trans (Keeps.drewN None _ _) (fun _ f _ => f)⟩
      go_wp2_with fail
      refine (marked_any _ g m cap l _ H8.out.1 hs).mono ?_
      rintro _ wz ⟨rfl, hw⟩
      have hw2 := hw.symm
      subst hw2
      clear hw
      go_wp2_with fail
      refine (rfairX_any a m c x y l _ (HS.out.more H8.out.2) hs).mono ?_
      rintro _ wz ⟨rfl, hw⟩
      have hw2 := hw.symm
      subst hw2
      clear hw
      rw [← HFB.out]
      have q1 : (FB == FB) = true := by simp
      go_wp2_with fail
      refine (rwindowX_any a m c x l _ (HS.out.more H8.out.2) hs).mono ?_
      rintro _ wz ⟨rfl, hw⟩
      have hw2 := hw.symm
      subst hw2
      clear hw
      rw [← HWV.out]
      have q2 : (WV == WV) = true := by simp
      go_wp2_with fail
      go_ret
      exact ⟨rfl, H8.out.2.below _ (Nat.le_refl _) (fun _ f => f.elim)⟩
end Go.Proofs.Ytlajblbfelcalab
