import Derived.Test.YtcjmceedkfjbeaaDoorRpImage
import Derived.Test.YtcjmceedkfjbeaaDoorRpCheck
/-! The document's Encode; what both answer. -/
namespace Go.Proofs.YtcjmceedkfjbeaaDoor
set_option linter.unusedVariables false
set_option maxRecDepth 20000
open Go.RowKit Go.HeapKit

/-- The words that are answered. -/
def ansW (l : List Fn) : List Int := if (checkV l).1 = 0 then encV l else []
theorem ansW_most (l : List Fn) : (ansW l).length ≤ 100000 := by
  unfold ansW
  split
  · rename_i he
    have hv := check_valid (check_zero he)
    have hl : l.length ≤ 32 := by omega
    have := fns_len l (fun f hf => (valid_bounds (hv.2.2 f hf)).2.2.2.2)
    simp only [encV, imageV, List.length_append, List.length_cons, List.length_nil]
    omega
  · simp
/-- An answer of words in new memory. -/
structure AnsW (b : Nat) (w' : World) (l : List Fn) (a : Option Addr) (N cap : Nat) : Prop where
  len : N = (ansW l).length
  own : w'.ownsRow b 2 1 (.slice a N cap) N ((ansW l).map (Value.int .i64))
theorem AnsW.most {b : Nat} {w' : World} {l : List Fn} {a : Option Addr} {N cap : Nat} (h : AnsW b w' l a N cap) : N ≤ 100000 := by
  rw [h.len]; exact ansW_most l
theorem AnsW.more {b : Nat} {w w' : World} {l : List Fn} {a : Option Addr} {N cap : Nat} (h : AnsW b w l a N cap) (hk : Keeps None w w') : AnsW b w' l a N cap := ⟨h.len, hk.own h.own (fun _ _ f => f)⟩
theorem AnsW.seen {b : Nat} {w : World} {l : List Fn} {a : Option Addr} {N cap : Nat} (h : AnsW b w l a N cap) : SeenZ w a N (ansW l) := by
  refine ⟨h.len, by have := h.most; omega, fun h0 => ?_⟩
  have ho := h.own
  rcases ho.2 with ⟨_, h1⟩ | ⟨g, cap', cur, h1, _⟩
  · omega
  · simp only [Value.slice.injEq] at h1
    obtain ⟨rfl, -, -⟩ := h1
    exact ⟨g, 0, rfl, own_lt ho rfl, own_at ho⟩
theorem encode_ans (a : Option Addr) (n c : Nat) (l : List Fn) (w : World) (hT : Tabs w) (hS : SeenF w a n l) (hok : ∀ f ∈ l, f.Ok) :
    Calls Tryd.prog 9 #[.agg #[.slice a n c]] w fun e w' => ∃ x N cap, e = .returned (.tuple #[.slice x N cap, .int .i64 (checkV l).1]) ∧ Keeps None w w' ∧ AnsW w.heap.size w' l x N cap := by
  refine (encode_any a n c l w hT hS hok).mono ?_
  rintro e w' ⟨v, rfl, hk, h1, h2⟩
  by_cases he : (checkV l).1 = 0
  · obtain ⟨g, N, cap, hE⟩ := h2 he
    refine ⟨_, N, cap, by rw [hE.val], hk, ?_, ?_⟩
    · rw [hE.len, ansW, if_pos he]
    · have := hE.own
      rw [ansW, if_pos he, ← hE.val]
      exact this
  · refine ⟨none, 0, 0, by rw [h1 he], hk, by rw [ansW, if_neg he]; rfl, ?_⟩
    rw [ansW, if_neg he]
    exact ⟨rfl, .inl ⟨rfl, rfl⟩⟩
set_option maxRecDepth 20000 in
set_option maxHeartbeats 4000000 in
theorem rencode_ans (a : Option Addr) (n c : Nat) (l : List Fn) (w : World) (hS : SeenF w a n l) (hok : ∀ f ∈ l, f.Ok) :
    Calls Tryd.prog 15 #[.agg #[.slice a n c]] w fun e w' => ∃ x N cap, e = .returned (.tuple #[.slice x N cap, .int .i64 (checkV l).1]) ∧ Keeps None w w' ∧ AnsW w.heap.size w' l x N cap := by
  obtain ⟨B, hB0⟩ : ∃ B, B = w.heap.size := ⟨_, rfl⟩
  have hal := Keeps.alloc None w (.cells #[.slice a n c] 25)
  have b1 := heap_alloc_new w (.cells #[.slice a n c] 25)
  have hck := rcheck_any a n c l _ (hS.more hal) hok
  obtain ⟨wa, hwa⟩ : ∃ wa, wa = w.alloc (.cells #[.slice a n c] 25) := ⟨_, rfl⟩
  obtain ⟨e, he⟩ : ∃ e, e = (checkV l).1 := ⟨_, rfl⟩
  obtain ⟨e2, he2⟩ : ∃ e2, e2 = (checkV l).2.1 := ⟨_, rfl⟩
  obtain ⟨e3, he3⟩ : ∃ e3, e3 = (checkV l).2.2 := ⟨_, rfl⟩
  unfold checkF faultV at hck
  rw [← he, ← he2, ← he3] at hck
  rw [← he]
  rw [← hB0] at b1
  rw [← hwa] at b1 hal hck
  have d0 := (cell_of_heap b1 0).trans rfl
  have HA : Hid (wa.heap[B]? = some (.cells #[.slice a n c] 25 (0, 0)) ∧ Keeps None w wa ∧ B = w.heap.size ∧ e = (checkV l).1) := ⟨b1, hal, hB0, he⟩
  have HS : Hid (SeenF w a n l ∧ (∀ f ∈ l, f.Ok) ∧ n = l.length) := ⟨hS, hok, hS.len⟩
  clear b1 hal hS hok he he2 he3
  go_enter Tryd.func15, Tryd.ntmps15
  go_upto_region 2 with (go_at_call 29; rw [← hwa]; refine hck.mono ?_; rintro _ w3 ⟨rfl, hk3⟩)
  rw [← hB0]
  obtain ⟨w4, hw4⟩ : ∃ w4, w4 = w3.alloc (.cells #[.int .i64 e, .int .i64 e2, .int .i64 e3] 31) := ⟨_, rfl⟩
  obtain ⟨P, hP⟩ : ∃ P, P = w3.heap.size := ⟨_, rfl⟩
  have hal := Keeps.alloc None w3 (.cells #[.int .i64 e, .int .i64 e2, .int .i64 e3] 31)
  have b4 := heap_alloc_new w3 (.cells #[.int .i64 e, .int .i64 e2, .int .i64 e3] 31)
  rw [← hw4] at hal b4
  rw [← hP] at b4
  have hb4 := blk_kept (blk_kept HA.out.1 hk3 (fun f => f)) hal (fun f => f)
  have hkw4 := (HA.out.2.1.trans hk3 (fun _ f _ => f)).trans hal (fun _ f _ => f)
  have d4 := (cell_of_heap hb4 0).trans rfl
  have p4 := (cell_of_heap b4 0).trans rfl
  rw [← hw4, ← hP]
  have H4 : Hid (Keeps None w w4) := hkw4
  clear hw4 hP hal b4 hb4 hkw4 hk3 hck hwa hB0 d0
  by_cases he0 : e = 0
  · subst he0
    have hv := check_valid (check_zero HA.out.2.2.2.symm)
    have hn1 : 1 ≤ n ∧ n ≤ 32 := by have := HS.out.2.2; omega
    have him := rimage_any a n c l w4 (HS.out.1.more H4.out) HS.out.2.1 (fun f hf => (valid_bounds (hv.2.2 f hf)).2.2.2.2) hn1
    clear hv
    go_wp2_with fail
    refine him.mono ?_
    rintro _ w5 ⟨v, g, N, cap, rfl, hk5, hE⟩
    obtain rfl := hE.val
    have HF : Hid (Keeps None w w5 ∧ AnsW w.heap.size w5 l (some ⟨g, 0, none⟩) N cap) := by
      refine ⟨H4.out.trans hk5 (fun _ f _ => f), ?_, ?_⟩
      · rw [hE.len, ansW, if_pos HA.out.2.2.2.symm]
      · rw [ansW, if_pos HA.out.2.2.2.symm]
        exact own_base hE.own H4.out.size
    clear hE hk5 him
    go_wp2_with fail
    first | go_ret2 | go_ret
    exact ⟨_, N, cap, rfl, HF.out.1, HF.out.2⟩
  · have he1 : (e != 0) = true := by simpa using he0
    have HF : Hid (AnsW w.heap.size w4 l none 0 0) := by
      have hne : ¬ (checkV l).1 = 0 := by rw [← HA.out.2.2.2]; exact he0
      refine ⟨by rw [ansW, if_neg hne]; rfl, ?_⟩
      rw [ansW, if_neg hne]
      exact ⟨rfl, .inl ⟨rfl, rfl⟩⟩
    go_upto_region 3 with fail
    go_quiet (fail)
    go_wp2_with fail
    go_ret2
    exact ⟨_, 0, 0, rfl, H4.out.trans (Keeps.drewN None _ _) (fun _ f _ => f), HF.out.more (Keeps.drewN None _ _)⟩
end Go.Proofs.YtcjmceedkfjbeaaDoor
