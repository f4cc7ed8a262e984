import Derived.Test.YtcjmceedkfjbeaaDoorPkBG
import Derived.Deep.RegionHeld3
import Derived.Deep.QuietTactic
import Derived.BigQuiet
/-! ProgDecode: the walk, whole. -/
namespace Go.Proofs.YtcjmceedkfjbeaaDoor
set_option linter.unusedVariables false
set_option maxRecDepth 20000
open Go.RowKit Go.HeapKit

set_option maxHeartbeats 8000000 in
set_option maxRecDepth 1000000 in
theorem progDecode_walk (a : Option Addr) (n c : Nat) (zs : List Int) (w : World) (hT : Tabs w) (hS : SeenW w a n zs) (hc : n ≤ c) (hcm : c ≤ maxLen) (hr : n * 8 ≤ 140737488351232) :
    Calls Tryd.prog 4 #[.slice a n c] w fun e w' => e = .returned (.bool true) ∧ Keeps None w w' := by
  have hlen := hS.len
  have hrd := rdecode_un a n c zs w hS hc hcm hr
  obtain ⟨ds, hds⟩ : ∃ ds, ds = (decV zs).2 := ⟨_, rfl⟩
  obtain ⟨er, her⟩ : ∃ er, er = (decV zs).1 := ⟨_, rfl⟩
  have hsm := decV_small zs
  rw [← hds, ← her] at hrd
  rw [← hds] at hsm
  obtain ⟨N2, hN2⟩ : ∃ N2, N2 = n + 2 := ⟨_, rfl⟩
  have e1 : IntKind.i64.wrap ((n : Int) + 2) = (N2 : Int) := by rw [Go.IntWalk.i64_in _ (by omega)]; omega
  have hnb : (n : Int) ≤ 17592186043904 := by omega
  have HI : Hid (Tabs w ∧ SeenW w a n zs ∧ n = zs.length ∧ ds = (decV zs).2 ∧ er = (decV zs).1 ∧ N2 = n + 2 ∧ ds.length ≤ 32 ∧ (∀ f ∈ ds, f.code.length ≤ 512)) := ⟨hT, hS, hlen, hds, her, hN2, hsm.1, hsm.2⟩
  clear hT hS hlen hds her hN2 hsm
  go_enter Tryd.func4, Tryd.ntmps4
  go_upto_region 2 with (go_at_call 11; refine hrd.mono ?_; rintro _ w0 ⟨va, m, vc, rfl, hs0, hk0⟩)
  have k1 := Keeps.alloc None w0 (.cells #[.slice va m vc] 25)
  have b1 := heap_alloc_new w0 (.cells #[.slice va m vc] 25)
  obtain ⟨w1, hw1⟩ : ∃ w1, w1 = w0.alloc (.cells #[.slice va m vc] 25) := ⟨_, rfl⟩
  obtain ⟨P0, hP0⟩ : ∃ P0, P0 = w0.heap.size := ⟨_, rfl⟩
  rw [← hw1] at k1 b1
  rw [← hP0] at b1
  rw [← hw1, ← hP0]
  obtain ⟨w2, hmk, hI2, hk2⟩ := words_made w1 N2 (by have := HI.out.2.2.2.2.2.1; omega)
  obtain ⟨L, hL⟩ : ∃ L, L = w1.heap.size := ⟨_, rfl⟩
  rw [← hL] at hmk hI2
  have H1 : Hid (SeenF w1 va m ds ∧ w1.heap[P0]? = some (.cells #[.slice va m vc] 25 (0, 0)) ∧ Keeps None w w1 ∧ L = w1.heap.size ∧ Keeps None w1 w2 ∧ IsW w2 L (fil zs (List.replicate N2 0) 0) ∧ m = ds.length) := ⟨hs0.more k1, b1, hk0.trans k1 (fun _ f _ => f), hL, hk2, hI2, hs0.len⟩
  clear hw1 hP0 k1 b1 hs0 hk0 hrd hI2 hk2 hL
  go_upto_region 4 with (at_make; refine wpList_make_run rfl (.tmp 27) (.tmp 27) 22 rfl rfl rfl hmk ?_)
  clear hmk e1
  go_wp2_with fail
  go_loopw [7] (fun s7 wr => ∃ k : Nat, k ≤ n ∧ s7 = .int .i64 k ∧ IsW wr L (fil zs (List.replicate N2 0) k) ∧ Keeps None w1 wr) (fun i _ => n - (intOf i).toNat)
  case atStart => exact ⟨0, Nat.zero_le _, rfl, H1.out.2.2.2.2.2.1, H1.out.2.2.2.2.1⟩
  case round =>
    obtain ⟨k, hk, rfl, hI, hkp⟩ := hrel
    by_cases hkn : k < n
    · obtain ⟨b, off, rfl, hbl, hcl⟩ := HI.out.2.1.ex (by omega)
      obtain ⟨x, hx⟩ : ∃ x, zs[k]? = some x := ⟨zs[k]'(by have := HI.out.2.2.1; omega), List.getElem?_eq_getElem _⟩
      have y := (H1.out.2.2.1.trans hkp (fun _ f _ => f)).cell (hcl k x hx) (fun f => f)
      have hfl := fil_len zs (List.replicate N2 0) k (by have := HI.out.2.2.1; omega) (by have := HI.out.2.2.1; have := HI.out.2.2.2.2.2.1; simp; omega)
      have uL := hI.at (List.getElem?_eq_getElem (by have := HI.out.2.2.2.2.2.1; simp at hfl; omega : k < (fil zs (List.replicate N2 0) k).length))
      generalize (fil zs (List.replicate N2 0) k)[k]'(by have := HI.out.2.2.2.2.2.1; simp at hfl; omega) = v0 at uL
      have fL := blk_free hI k
      have hI2 := hI.set k x
      rw [fil_step zs (List.replicate N2 0) k x hx (by have := HI.out.2.2.2.2.2.1; simp; omega)] at hI2
      have HN : Hid (IsW (wr.setCell ⟨L, k, none⟩ (.int .i64 x)) L (fil zs (List.replicate N2 0) (k + 1)) ∧ Keeps None w1 (wr.setCell ⟨L, k, none⟩ (.int .i64 x))) := ⟨hI2, hkp.trans (Keeps.setCell (S := (· = L)) wr (a := ⟨L, k, none⟩) rfl _) (fun i e hi => by have := H1.out.2.2.2.1; omega)⟩
      have i1 : (k : Int) < (n : Int) := by omega
      have i2 : (k : Int) < (N2 : Int) := by have := HI.out.2.2.2.2.2.1; omega
      clear hcl hx hfl hI hkp hI2
      go_wp2_with fail
      exact ⟨⟨k + 1, by omega, by simp, HN.out.1, HN.out.2⟩, by simp [intOf]; omega⟩
    · have hkn2 : n = k := by omega
      subst hkn2
      have i1 : ¬ ((n : Int) < (n : Int)) := by omega
      have e0 := HI.out.2.2.1
      have eN := HI.out.2.2.2.2.2.1
      rw [eN, fil_end zs n e0] at hI
      have y1 := hI.at (k := n) (x := 0) (by rw [e0, List.getElem?_append_right (Nat.le_refl _)]; simp)
      have f1 := blk_free hI n
      have hI2 := hI.set n 123
      rw [put_one zs n e0] at hI2
      have k2 := Keeps.setCell (S := (· = L)) wr (a := ⟨L, n, none⟩) rfl (.int .i64 123)
      obtain ⟨wm, hwm⟩ : ∃ wm, wm = wr.setCell ⟨L, n, none⟩ (.int .i64 123) := ⟨_, rfl⟩
      rw [← hwm] at hI2 k2
      have i2 : (n : Int) < (N2 : Int) := by omega
      have i3 : (n : Int) + 1 < (N2 : Int) := by omega
      have i4 : (n : Int) ≤ (N2 : Int) := by omega
      have HM : Hid (IsW wm L (zs ++ [123, 0]) ∧ Keeps None w1 wm) := ⟨hI2, hkp.trans k2 (fun i e hi => by have := H1.out.2.2.2.1; omega)⟩
      clear hI hkp hI2 k2 e0 eN
      go_upto_region 9 with fail
      rw [← hwm]
      clear hwm y1 f1
      have e0 := HI.out.2.2.1
      have y1 := HM.out.1.at (k := n + 1) (x := 0) (by rw [e0, List.getElem?_append_right (by omega)]; simp)
      have f1 := blk_free HM.out.1 (n + 1)
      have hI2 := HM.out.1.set (n + 1) 456
      rw [put_two zs n e0] at hI2
      have k2 := Keeps.setCell (S := (· = L)) wm (a := ⟨L, n + 1, none⟩) rfl (.int .i64 456)
      obtain ⟨wx, hwx⟩ : ∃ wx, wx = wm.setCell ⟨L, n + 1, none⟩ (.int .i64 456) := ⟨_, rfl⟩
      rw [← hwx] at hI2 k2
      have HX : Hid (IsW wx L (zs ++ [123, 456]) ∧ Keeps None w1 wx) := ⟨hI2, HM.out.2.trans k2 (fun i e hi => by have := H1.out.2.2.2.1; omega)⟩
      clear hI2 k2 e0
      go_upto_region 10 with fail
      rw [← hwx]
      clear hwx y1 f1
      have hd1 := decode_un (some ⟨L, 0, none⟩) n N2 zs wx (HI.out.1.more (H1.out.2.2.1.trans HX.out.2 (fun _ f _ => f))) (HX.out.1.firstW HI.out.2.2.1 (by omega) HI.out.2.1.ok) (by omega) (by unfold maxLen; have := HI.out.2.2.2.2.2.1; omega)
      rw [← HI.out.2.2.2.1, ← HI.out.2.2.2.2.1] at hd1
      go_upto_region 11 with (go_at_call 6; refine hd1.mono ?_; rintro _ w3 ⟨xa, m1, xc, rfl, hA3, hk3⟩)
      have em1 : m1 = m := by have h1 := hA3.seen.len; have h2 := H1.out.2.2.2.2.2.2; omega
      subst em1
      have k4 := Keeps.alloc None w3 (.cells #[.slice xa m1 xc] 25)
      have b4 := heap_alloc_new w3 (.cells #[.slice xa m1 xc] 25)
      obtain ⟨w4, hw4⟩ : ∃ w4, w4 = w3.alloc (.cells #[.slice xa m1 xc] 25) := ⟨_, rfl⟩
      obtain ⟨P1, hP1⟩ : ∃ P1, P1 = w3.heap.size := ⟨_, rfl⟩
      rw [← hw4] at k4 b4
      rw [← hP1] at b4
      rw [← hw4, ← hP1]
      have kx4 := hk3.trans k4 (fun _ f _ => f)
      have H4 : Hid (AnsH wx.heap.size w3.heap.size w4 xa m1 ds ∧ w4.heap[P1]? = some (.cells #[.slice xa m1 xc] 25 (0, 0)) ∧ Keeps None w1 w4 ∧ IsW w4 L (zs ++ [123, 456]) ∧ w3.heap.size ≤ w4.heap.size) := ⟨hA3.hi.more k4, b4, HX.out.2.trans kx4 (fun _ f _ => f), HX.out.1.kept kx4 (fun f => f), k4.size⟩
      clear hw4 hP1 k4 b4 kx4 hA3 hk3 hd1
      have hd2 := decode_un (some ⟨L, 0, none⟩) n N2 zs w4 (HI.out.1.more (H1.out.2.2.1.trans H4.out.2.2.1 (fun _ f _ => f))) (H4.out.2.2.2.1.firstW HI.out.2.2.1 (by omega) HI.out.2.1.ok) (by omega) (by unfold maxLen; have := HI.out.2.2.2.2.2.1; omega)
      rw [← HI.out.2.2.2.1, ← HI.out.2.2.2.2.1] at hd2
      go_cut [10, 11] (fun s10 s11 wq => ∃ P2 ya m2 yc, s10 = .pointer (some ⟨P2, 0, none⟩) ∧ s11 = .int .i64 er ∧ AnsD w4.heap.size wq ya m2 ds ∧ wq.heap[P2]? = some (.cells #[.slice ya m2 yc] 25 (0, 0)) ∧ Keeps None w4 wq)
      case first =>
        go_wp2_with (go_at_call 6; refine hd2.mono ?_; rintro _ w5 ⟨ya, m2, yc, rfl, hA5, hk5⟩)
        go_meet
        have k6 := Keeps.alloc None w5 (.cells #[.slice ya m2 yc] 25)
        exact ⟨w5.heap.size, ya, m2, yc, rfl, rfl, hA5.more k6, heap_alloc_new _ _, hk5.trans k6 (fun _ f _ => f)⟩
      case rest =>
        obtain ⟨P2, ya, m2, yc, rfl, rfl, hA6, b6, hk6⟩ := hcut
        have em2 : m2 = m1 := by have h1 := hA6.seen.len; have h2 := H1.out.2.2.2.2.2.2; omega
        subst em2
        rename_i h1 h2 h3 h4
        first | apply h4 | apply h3 | apply h2 | apply h1
        exact pd_B a n c zs w w1 wc va xa ya m2 vc xc yc P0 P1 P2 L N2 wx.heap.size w3.heap.size w4.heap.size er ds ⟨HI.out.1, HI.out.2.1, H1.out.2.2.1, HI.out.2.2.1, H1.out.1, H1.out.2.1, HI.out.2.2.2.1, HI.out.2.2.2.2.2.1, HI.out.2.2.2.2.2.2.2⟩ hc hcm hr (by have h1 := H1.out.2.2.2.2.2.2; have h2 := HI.out.2.2.2.2.2.2.1; omega) ⟨H4.out.1.more hk6, hA6, H4.out.2.2.2.1.kept hk6 (fun f => f), blk_kept H4.out.2.1 hk6 (fun f => f), b6, H4.out.2.2.1.trans hk6 (fun _ f _ => f), HX.out.2.size, H4.out.2.2.2.2, blk_lt HX.out.1⟩
end Go.Proofs.YtcjmceedkfjbeaaDoor
