import Derived.Test.YteidefhlflkaaaaDoorPgSpoilt
/-! ProgSpoilt. -/
namespace Go.Proofs.YteidefhlflkaaaaDoor
set_option linter.unusedVariables false
open Go.RowKit Go.HeapKit

set_option maxRecDepth 20000 in
set_option maxHeartbeats 4000000 in
theorem spoilt_walk (a : Option Addr) (n c : Nat) (l : List Fn) (at_ v : Int) (w : World) (hT : Tabs w) (hS : SeenF w a n l) (hok : ∀ f ∈ l, f.Ok) (hat : okI at_) (hv : okI v) :
    Calls Tryd.prog 7 #[.agg #[.slice a n c], .int .i64 at_, .int .i64 v] w fun e w' => e = .returned (.bool true) ∧ Keeps None w w' := by
  obtain ⟨B, hB0⟩ : ∃ B, B = w.heap.size := ⟨_, rfl⟩
  have hal := Keeps.alloc None w (.cells #[.slice a n c] 24)
  have b1 := heap_alloc_new w (.cells #[.slice a n c] 24)
  have hck := check_any a n c l _ (hT.more hal) (hS.more hal) hok
  obtain ⟨wa, hwa⟩ : ∃ wa, wa = w.alloc (.cells #[.slice a n c] 24) := ⟨_, rfl⟩
  obtain ⟨e, he⟩ : ∃ e, e = (checkV l).1 := ⟨_, rfl⟩
  obtain ⟨e2, he2⟩ : ∃ e2, e2 = (checkV l).2.1 := ⟨_, rfl⟩
  obtain ⟨e3, he3⟩ : ∃ e3, e3 = (checkV l).2.2 := ⟨_, rfl⟩
  unfold checkF faultV at hck
  rw [← he, ← he2, ← he3] at hck
  rw [← hB0] at b1
  rw [← hwa] at b1 hal hck
  have d0 := (cell_of_heap b1 0).trans rfl
  have HA : Hid (wa.heap[B]? = some (.cells #[.slice a n c] 24 (0, 0)) ∧ Keeps None w wa ∧ B = w.heap.size ∧ e = (checkV l).1) := ⟨b1, hal, hB0, he⟩
  have HS : Hid (Tabs w ∧ SeenF w a n l ∧ (∀ f ∈ l, f.Ok) ∧ n = l.length ∧ okI at_ ∧ okI v) := ⟨hT, hS, hok, hS.len, hat, hv⟩
  clear b1 hal hT hS hok he he2 he3 hat hv
  go_enter Tryd.func7, Tryd.ntmps7
  go_upto_region 2 with (go_at_call 10; rw [← hwa]; refine hck.mono ?_; rintro _ w3 ⟨rfl, hk3⟩)
  rw [← hB0]
  obtain ⟨w4, hw4⟩ : ∃ w4, w4 = w3.alloc (.cells #[.int .i64 e, .int .i64 e2, .int .i64 e3] 29) := ⟨_, rfl⟩
  obtain ⟨P, hP⟩ : ∃ P, P = w3.heap.size := ⟨_, rfl⟩
  have hal := Keeps.alloc None w3 (.cells #[.int .i64 e, .int .i64 e2, .int .i64 e3] 29)
  have b4 := heap_alloc_new w3 (.cells #[.int .i64 e, .int .i64 e2, .int .i64 e3] 29)
  rw [← hw4] at hal b4
  rw [← hP] at b4
  have hb4 := blk_kept (blk_kept HA.out.1 hk3 (fun f => f)) hal (fun f => f)
  have hkw4 := (HA.out.2.1.trans hk3 (fun _ f _ => f)).trans hal (fun _ f _ => f)
  have d4 := (cell_of_heap hb4 0).trans rfl
  rw [← hw4, ← hP]
  have hen := encode_any a n c l w4 (HS.out.1.more hkw4) (HS.out.2.1.more hkw4) HS.out.2.2.1
  rw [← HA.out.2.2.2] at hen
  have H4 : Hid (Keeps None w w4 ∧ w4.heap[P]? = some (.cells #[.int .i64 e, .int .i64 e2, .int .i64 e3] 29 (0, 0))) := ⟨hkw4, b4⟩
  clear hw4 hP hal b4 hb4 hkw4 hk3 hck hwa hB0 d0
  go_upto_region 3 with (go_at_call 20; refine hen.mono ?_; rintro _ w5 ⟨v5, rfl, hk5, hbad, hgood⟩)
  have b5 := blk_kept H4.out.2 hk5 (fun f => f)
  have hkw5 := H4.out.1.trans hk5 (fun _ f _ => f)
  have p5 := (cell_of_heap b5 0).trans rfl
  by_cases he0 : e = 0
  · obtain ⟨g, N, cap, hE⟩ := hgood he0
    subst he0
    have hvv := check_valid (check_zero HA.out.2.2.2.symm)
    have hc512 : ∀ f ∈ l, f.code.length ≤ 512 := fun f hf => (valid_bounds (hvv.2.2 f hf)).2.2.2.2
    have hlen := enc_len hc512 hvv.2.1
    have hoks := enc_ok HS.out.2.2.1 hc512 hvv.2.1
    obtain ⟨hv5, hN, hown⟩ := hE
    subst hv5
    obtain ⟨k, hk⟩ : ∃ k, k = modV at_ N := ⟨_, rfl⟩
    have hkN : k < N := by rw [hk]; exact modV_lt at_ N (by omega)
    have hmd := fun wx => mod_big at_ N wx HS.out.2.2.2.2.1 (by omega) (by omega)
    rw [← hk] at hmd
    obtain ⟨x, hx⟩ : ∃ x, (encV l)[k]? = some x := ⟨(encV l)[k]'(by omega), List.getElem?_eq_getElem _⟩
    have hxo := hoks x (List.mem_of_getElem? hx)
    have cx := own_at hown k x hx
    rw [Nat.zero_add] at cx
    obtain ⟨y, hy⟩ : ∃ y, y = (if x = v then wrap64 (v + 1) else v) := ⟨_, rfl⟩
    have hvo := HS.out.2.2.2.2.2
    have hyo : okI y ∧ y ≠ x := by
      rw [hy]
      unfold okI at hvo ⊢
      by_cases q : x = v
      · rw [if_pos q]; unfold wrap64; omega
      · rw [if_neg q]; exact ⟨hvo, fun q2 => q q2.symm⟩
    obtain ⟨z, hz, hzb⟩ := spoilt_sum hx hxo hyo.1 hyo.2
    obtain ⟨ho6, ⟨u6, hu6⟩, hz6⟩ := own_set hown k hkN y
    have hk6 : Keeps None w (w5.setCell ⟨g, k, none⟩ (.int .i64 y)) := hkw5.andSet (x := ⟨g, k, none⟩) (.inr (by
      rcases hown.2 with ⟨h0, _⟩ | ⟨g', cap', cur, e', hbg, _⟩
      · simp at h0
      · simp only [Value.slice.injEq, Option.some.injEq, Addr.mk.injEq] at e'
        have := H4.out.1.size
        show w.heap.size ≤ g
        omega)) _
    have hse : SeenW (w5.setCell ⟨g, k, none⟩ (.int .i64 y)) (some ⟨g, 0, none⟩) N ((encV l).set k y) := own_seen ho6 (by simp; exact hN) (fun q hq => by
      rcases List.mem_or_eq_of_mem_set hq with hq | hq
      · exact hoks q hq
      · rw [hq]; exact hyo.1) (by omega)
    have hcap : N ≤ cap := by
      rcases hown.2 with ⟨h0, _⟩ | ⟨g', cap', cur, e', hbg, hg', hn', _⟩
      · simp at h0
      · simp only [Value.slice.injEq] at e'; omega
    have hdc := decode_bad _ N cap _ _ hse (by omega) hcap z (by rw [hN]; exact hz) (by rw [hN]; exact hzb)
    have i1 : (3 : Int) ≤ (N : Int) := by omega
    have i2 : (k : Int) < (N : Int) := by omega
    have HK : Hid (Keeps None w (w5.setCell ⟨g, k, none⟩ (.int .i64 y))) := hk6
    clear hbad hgood hvv hc512 hoks hown hk hx hxo hyo hz hzb ho6 hk6 hse hvo hen hkw5 hk5 b5 hN hlen
    by_cases hxv : x = v
    · rw [if_pos hxv] at hy
      subst hxv
      subst hy
      go_wp2_with (first
        | (go_at_call 11; refine (hmd _).mono ?_; rintro e w' ⟨rfl, hw⟩; have hw2 := hw.symm; subst hw2)
        | (go_at_call 19; refine hdc.mono ?_; rintro _ w8 ⟨rfl, hk8⟩))
      go_ret
      exact ⟨rfl, (HK.out.trans hk8 (fun _ f _ => f)).andAlloc _⟩
    · rw [if_neg hxv] at hy
      subst hy
      have hxv' : (x == y) = false := by simpa using hxv
      go_wp2_with (first
        | (go_at_call 11; refine (hmd _).mono ?_; rintro e w' ⟨rfl, hw⟩; have hw2 := hw.symm; subst hw2)
        | (go_at_call 19; refine hdc.mono ?_; rintro _ w8 ⟨rfl, hk8⟩))
      go_ret
      exact ⟨rfl, (HK.out.trans hk8 (fun _ f _ => f)).andAlloc _⟩
  · have he1 : (e != 0) = true := by simpa using he0
    have hhd := head_any w5 (HS.out.1.more hkw5)
    have hb6 := b5
    clear hgood
    go_wp2_with (go_at_call 9; refine hhd.mono ?_; rintro _ w6 ⟨rfl, hk6⟩; have p6 := (cell_of_heap (blk_kept b5 hk6 (fun f => f)) 0).trans rfl)
    go_ret
    exact ⟨rfl, hkw5.trans hk6 (fun _ f _ => f)⟩
end Go.Proofs.YteidefhlflkaaaaDoor
