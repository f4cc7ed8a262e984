import Derived.Test.YteidefhlflkaaabDoorPgSame
import Derived.Test.YteidefhlflkaaabDoorPgHead
/-! ProgRound. -/
namespace Go.Proofs.YteidefhlflkaaabDoor
set_option linter.unusedVariables false
set_option maxRecDepth 20000
open Go.RowKit Go.HeapKit

theorem sum_ok (l : List Int) : okI (sumV l) := by
  have h : ∀ (l : List Int) (h : Int), okI h → okI (l.foldl stepS h) := by
    intro l
    induction l with
    | nil => exact fun h hh => hh
    | cons x l ih => exact fun h hh => ih _ (by unfold okI stepS wrap64; omega)
  exact h l 0 (by simp [okI])
set_option maxHeartbeats 4000000 in
theorem round_walk (a : Option Addr) (n c : Nat) (l : List Fn) (w : World) (hT : Tabs w) (hS : SeenF w a n l) (hok : ∀ f ∈ l, f.Ok) :
    Calls Tryd.prog 3 #[.agg #[.slice a n c]] w fun e w' => e = .returned (.bool true) ∧ Keeps None w w' := by
  obtain ⟨B, hB0⟩ : ∃ B, B = w.heap.size := ⟨_, rfl⟩
  have hal := Keeps.alloc None w (.cells #[.slice a n c] 24)
  have b1 := heap_alloc_new w (.cells #[.slice a n c] 24)
  have hck := check_any a n c l _ (hT.more hal) (hS.more hal) hok
  obtain ⟨wa, hwa⟩ : ∃ wa, wa = w.alloc (.cells #[.slice a n c] 24) := ⟨_, rfl⟩
  obtain ⟨e, he⟩ : ∃ e, e = (checkV l).1 := ⟨_, rfl⟩
  obtain ⟨e2, he2⟩ : ∃ e2, e2 = (checkV l).2.1 := ⟨_, rfl⟩
  obtain ⟨e3, he3⟩ : ∃ e3, e3 = (checkV l).2.2 := ⟨_, rfl⟩
  unfold checkF faultV at hck
  rw [← he, ← he2, ← he3] at hck
  rw [← hB0] at b1
  rw [← hwa] at b1 hal hck
  have d0 := (cell_of_heap b1 0).trans rfl
  have HA : Hid (wa.heap[B]? = some (.cells #[.slice a n c] 24 (0, 0)) ∧ Keeps None w wa ∧ B = w.heap.size ∧ e = (checkV l).1) := ⟨b1, hal, hB0, he⟩
  have HS : Hid (Tabs w ∧ SeenF w a n l ∧ (∀ f ∈ l, f.Ok) ∧ n = l.length) := ⟨hT, hS, hok, hS.len⟩
  clear b1 hal hT hS hok he he2 he3
  go_enter Tryd.func3, Tryd.ntmps3
  go_upto_region 2 with (go_at_call 9; rw [← hwa]; refine hck.mono ?_; rintro _ w3 ⟨rfl, hk3⟩)
  rw [← hB0]
  obtain ⟨w4, hw4⟩ : ∃ w4, w4 = w3.alloc (.cells #[.int .i64 e, .int .i64 e2, .int .i64 e3] 27) := ⟨_, rfl⟩
  obtain ⟨P, hP⟩ : ∃ P, P = w3.heap.size := ⟨_, rfl⟩
  have hal := Keeps.alloc None w3 (.cells #[.int .i64 e, .int .i64 e2, .int .i64 e3] 27)
  have b4 := heap_alloc_new w3 (.cells #[.int .i64 e, .int .i64 e2, .int .i64 e3] 27)
  rw [← hw4] at hal b4
  rw [← hP] at b4
  have hb4 := blk_kept (blk_kept HA.out.1 hk3 (fun f => f)) hal (fun f => f)
  have hkw4 := (HA.out.2.1.trans hk3 (fun _ f _ => f)).trans hal (fun _ f _ => f)
  have d4 := (cell_of_heap hb4 0).trans rfl
  rw [← hw4, ← hP]
  have hen := encode_any a n c l w4 (HS.out.1.more hkw4) (HS.out.2.1.more hkw4) HS.out.2.2.1
  rw [← HA.out.2.2.2] at hen
  have H4 : Hid (Keeps None w w4 ∧ w4.heap[P]? = some (.cells #[.int .i64 e, .int .i64 e2, .int .i64 e3] 27 (0, 0)) ∧ w4.heap[B]? = some (.cells #[.slice a n c] 24 (0, 0))) := ⟨hkw4, b4, hb4⟩
  clear hw4 hP hal b4 hb4 hkw4 hk3 hck hwa hB0 d0
  go_upto_region 3 with (go_at_call 10; refine hen.mono ?_; rintro _ w5 ⟨v5, rfl, hk5, hbad, hgood⟩)
  have b5 := blk_kept H4.out.2.1 hk5 (fun f => f)
  have hkw5 := H4.out.1.trans hk5 (fun _ f _ => f)
  have p5 := (cell_of_heap b5 0).trans rfl
  have hhd := head_any w5 (HS.out.1.more hkw5)
  by_cases he0 : e = 0
  · obtain ⟨g, N, cap, hE⟩ := hgood he0
    subst he0
    have hcz := check_zero HA.out.2.2.2.symm
    have hvv := check_valid hcz
    have hc512 : ∀ f ∈ l, 1 ≤ f.code.length ∧ f.code.length ≤ 512 := fun f hf => (valid_bounds (hvv.2.2 f hf)).2.2.2
    obtain ⟨hv5, hN, hown⟩ := hE
    subst hv5
    have hil : (imageV l).length = 2 + (l.flatMap fnW).length := by simp [imageV]; omega
    have hfl := fns_len l (fun f hf => (hc512 f hf).2)
    obtain ⟨q, hq⟩ : ∃ q, q = (imageV l).length := ⟨_, rfl⟩
    have hNq : N = q + 1 := by rw [hN, hq]; simp [encV]
    subst hNq
    have hoks : ∀ x ∈ encV l, okI x := by
      intro x hx
      unfold encV at hx
      rcases List.mem_append.1 hx with hx | hx
      · exact image_ok HS.out.2.2.1 (fun f hf => (hc512 f hf).2) hvv.2.1 x hx
      · simp at hx; rw [hx]; exact sum_ok _
    have hcap : q + 1 ≤ cap ∧ cap ≤ maxLen := by
      rcases hown.2 with ⟨h0, _⟩ | ⟨g', cap', cur, e', hbg, hg', hn', hm', _⟩
      · simp at h0
      · simp only [Value.slice.injEq] at e'; exact ⟨by omega, by omega⟩
    have hse := fun (wx : World) (hk : Keeps None w5 wx) => own_seen (hk.own hown (fun _ _ f => f)) hN hoks (by omega)
    have htk : (encV l).take q = imageV l := by unfold encV; rw [hq, List.take_left]
    have hlast : (encV l)[q]? = some (sumV (imageV l)) := by
      unfold encV
      rw [List.getElem?_append_right (by omega), hq, Nat.sub_self]
      rfl
    have hdc := fun (wx : World) (hk : Keeps None w5 wx) => decode_good g 0 q cap (encV l) (l.flatMap fnW) n l (sumV (imageV l)) wx (HS.out.1.more (hkw5.trans hk (fun _ f _ => f))) (hse wx hk) (by omega) hcap.1 hcap.2 hlast (by rw [htk]) (by rw [htk, HS.out.2.2.2]; rfl) (by have := HS.out.2.2.2; omega) (by have := HS.out.2.2.2; omega)
      (by have := readFns_back l [] hc512; rw [List.append_nil] at this; rw [HS.out.2.2.2]; exact this) HS.out.2.2.2.symm HS.out.2.2.1 hcz
    have H5 : Hid (Keeps None w w5 ∧ w5.heap[B]? = some (.cells #[.slice a n c] 24 (0, 0)) ∧ (∀ f ∈ l, f.code.length ≤ 512) ∧ n ≤ 32) := ⟨hkw5, blk_kept H4.out.2.2 hk5 (fun f => f), fun f hf => (hc512 f hf).2, by have := HS.out.2.2.2; omega⟩
    have HD : Hid _ := hdc
    clear hbad hgood hvv hcz hc512 hil hfl hq hN hown hoks hcap hse htk hlast hdc hen hkw5 hk5 b5
    go_upto_region 8 with (first
      | (go_at_call 11; refine hhd.mono ?_; rintro _ w6 ⟨rfl, hk6⟩)
      | (go_at_call 12; refine (HD.out _ hk6).mono ?_; rintro _ w7 ⟨gb, rfl, hs7, hk7⟩))
    have hal := Keeps.alloc None w7 (.cells #[.slice (some ⟨gb, 0, none⟩) n n] 24)
    have b8 := heap_alloc_new w7 (.cells #[.slice (some ⟨gb, 0, none⟩) n n] 24)
    obtain ⟨w8, hw8⟩ : ∃ w8, w8 = w7.alloc (.cells #[.slice (some ⟨gb, 0, none⟩) n n] 24) := ⟨_, rfl⟩
    obtain ⟨X, hX⟩ : ∃ X, X = w7.heap.size := ⟨_, rfl⟩
    rw [← hw8] at hal b8
    rw [← hX] at b8
    rw [← hw8, ← hX]
    have hk58 := (hk6.trans hk7 (fun _ f _ => f)).trans hal (fun _ f _ => f)
    have hkw8 := H5.out.1.trans hk58 (fun _ f _ => f)
    have d8 := (cell_of_heap b8 0).trans rfl
    have c8 := (cell_of_heap (blk_kept H5.out.2.1 hk58 (fun f => f)) 0).trans rfl
    have hsm := same_any a n c (some ⟨gb, 0, none⟩) n l w8 (HS.out.2.1.more hkw8) (hs7.more hal) H5.out.2.2.1 H5.out.2.2.2
    have HK : Hid (Keeps None w w8) := hkw8
    clear hw8 hX hal b8 hk58 hkw8 hs7 hk6 hk7 hhd
    go_wp2_with (go_at_call 13; refine hsm.mono ?_; rintro _ w9 ⟨rfl, hk9⟩)
    go_ret
    exact ⟨rfl, HK.out.trans hk9 (fun _ f _ => f)⟩
  · have he1 : (e != 0) = true := by simpa using he0
    have hv := hbad he0
    subst hv
    clear hgood hbad
    go_wp2_with (go_at_call 11; refine hhd.mono ?_; rintro _ w6 ⟨rfl, hk6⟩)
    go_ret
    exact ⟨rfl, hkw5.trans hk6 (fun _ f _ => f)⟩
end Go.Proofs.YteidefhlflkaaabDoor
