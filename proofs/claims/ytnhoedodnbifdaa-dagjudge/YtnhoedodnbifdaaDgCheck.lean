import Derived.Test.YtnhoedodnbifdaaDgBase
/-! Check: the program's and the document's. -/
namespace Go.Proofs.Ytnhoedodnbifdaa
set_option linter.unusedVariables false
set_option maxRecDepth 20000
open Go.RowKit Go.HeapKit

theorem keeps1 (w : World) (a : Obj) : Keeps None w (w.alloc a) := (Keeps.refl _ _).andAlloc _
theorem check_bad {n : Int} {l : List Ed} {i : Nat} {e : Ed} (he : l[i]? = some e) (hb : edBad n e = true) : (if l.any (edBad n) then (71 : Int) else 0) = 71 := by
  rw [if_pos]
  exact List.any_eq_true.2 ⟨e, List.mem_of_getElem? he, hb⟩
theorem check_good {n : Int} {l : List Ed} {m : Nat} (hm : m = l.length) (hg : ∀ k e, k < m → l[k]? = some e → edBad n e = false) : (if l.any (edBad n) then (71 : Int) else 0) = 0 := by
  rw [if_neg]
  intro h
  obtain ⟨e, he, hb⟩ := List.any_eq_true.1 h
  obtain ⟨k, hk, rfl⟩ := List.mem_iff_getElem.1 he
  have := hg k l[k] (by omega) (List.getElem?_eq_getElem hk)
  rw [hb] at this
  cases this
theorem check_more {n : Int} {l : List Ed} {i : Nat} {e : Ed} (he : l[i]? = some e) (hb : edBad n e = false) (hg : ∀ k e, k < i → l[k]? = some e → edBad n e = false) : ∀ k e, k < i + 1 → l[k]? = some e → edBad n e = false := by
  intro k e' hk hk2
  by_cases h : k = i
  · subst h
    rw [he] at hk2
    injection hk2 with hk2
    subst hk2
    exact hb
  · exact hg k e' (by omega) hk2
theorem check_any (n : Int) (a : Option Addr) (m c : Nat) (l : List Ed) (w : World) (h : SeenE w a m l) (hs : m * 16 ≤ 140737488351232) :
    Calls Try.prog 38 #[dagV n a m c] w fun e w' => e = .returned (.int .i64 (checkV n l)) ∧ Keeps None w w' := by
  have hl : Hid (m = l.length) := h.len
  unfold dagV
  by_cases c1 : n < 0
  · go_enter Try.func38, Try.ntmps38
    go_wp2_with fail
    go_ret
    exact ⟨by simp [checkV, c1], keeps1 _ _⟩
  · by_cases c2 : 4096 < n
    · go_enter Try.func38, Try.ntmps38
      go_wp2_with fail
      go_ret
      exact ⟨by simp [checkV, c2], keeps1 _ _⟩
    · by_cases c3 : 16384 < m
      · have c3' : (16384 : Int) < (m : Int) := by omega
        have E : Hid (checkV n l = 2) := by
          have := hl.out
          show _ = _
          rw [checkV, if_neg (by omega), if_pos (by omega)]
        generalize checkV n l = q at E ⊢
        go_enter Try.func38, Try.ntmps38
        go_wp2_with fail
        go_ret
        exact ⟨by rw [E.out]; rfl, keeps1 _ _⟩
      · have c3' : ¬ (16384 : Int) < (m : Int) := by omega
        have E : Hid (checkV n l = if l.any (edBad n) then 71 else 0) := by
          have := hl.out
          show _ = _
          rw [checkV, if_neg (by omega), if_neg (by omega)]
        generalize checkV n l = q at E ⊢
        go_enter Try.func38, Try.ntmps38
        go_wp2_with fail
        go_loopw [20, 4] (fun s20 _ wr => ∃ i : Nat, s20 = .int .i64 i ∧ i ≤ m ∧ wr.heap[w.heap.size]? = some (.cells #[.int .i64 n, .slice a m c] 24 (0, 0)) ∧ Keeps None w wr ∧ ∀ k e, k < i → l[k]? = some e → edBad n e = false) (fun s20 _ _ => m - (intOf s20).toNat)
        case atStart => exact ⟨0, rfl, by omega, heap_alloc_new w _, keeps1 _ _, fun k e hk => by omega⟩
        case round =>
          obtain ⟨i, rfl, hi, hb, hk, hg⟩ := hrel
          have HG : Hid (∀ k e, k < i → l[k]? = some e → edBad n e = false) := hg
          clear hg
          have d0 := (blk_cell hb 0).trans rfl
          have d1 := (blk_cell hb 1).trans rfl
          by_cases hlt : i < m
          · have hlt' : (i : Int) < (m : Int) := by omega
            obtain ⟨b, off, e, rfl, he, hat⟩ := (h.more hk).at hlt
            have HE : Hid (l[i]? = some e) := he
            obtain ⟨ef, et⟩ := e
            have e0 := hat.f
            have e1 := hat.t
            simp only at e0 e1
            have m0 : ¬ m = 0 := by omega
            have d2 : (wr.alloc (Obj.cells #[.int .i64 ef, .int .i64 et] 52)).cell? ⟨w.heap.size, 0, none⟩ = some (.int .i64 n) := (keeps1 wr _).cell d0 (fun f => f)
            clear he hat
            by_cases b1 : ef < 0
            · go_wp2_with fail
              go_ret
              exact ⟨by rw [E.out, check_bad HE.out (by simp [edBad, b1])]; rfl, hk.andAlloc _⟩
            · by_cases b2 : et ≤ ef
              · go_wp2_with fail
                go_ret
                exact ⟨by rw [E.out, check_bad HE.out (by simp [edBad, b2])]; rfl, hk.andAlloc _⟩
              · by_cases b3 : n ≤ et
                · go_wp2_with fail
                  go_ret
                  exact ⟨by rw [E.out, check_bad HE.out (by simp [edBad, b3])]; rfl, hk.andAlloc _⟩
                · go_wp2_with fail
                  have hb' : edBad n ⟨ef, et⟩ = false := by simp [edBad]; omega
                  exact ⟨⟨i + 1, by simp, by omega, blk_kept hb (keeps1 wr _) (fun f => f), hk.andAlloc _, check_more HE.out hb' HG.out⟩, by simp [intOf]; omega⟩
          · have hlt' : ¬ (i : Int) < (m : Int) := by omega
            obtain rfl : i = m := by omega
            go_wp2_with fail
            go_ret
            exact ⟨by rw [E.out, check_good hl.out HG.out]; rfl, hk⟩
theorem rcheck_any (n : Int) (a : Option Addr) (m c : Nat) (l : List Ed) (w : World) (h : SeenE w a m l) (hs : m * 16 ≤ 140737488351232) :
    Calls Try.prog 26 #[dagV n a m c] w fun e w' => e = .returned (.int .i64 (checkV n l)) ∧ Keeps None w w' := by
  have hl : Hid (m = l.length) := h.len
  unfold dagV
  by_cases c1 : n < 0
  · go_enter Try.func26, Try.ntmps26
    go_wp2_with fail
    go_ret
    exact ⟨by simp [checkV, c1], keeps1 _ _⟩
  · by_cases c2 : 4096 < n
    · go_enter Try.func26, Try.ntmps26
      go_wp2_with fail
      go_ret
      exact ⟨by simp [checkV, c2], keeps1 _ _⟩
    · by_cases c3 : 16384 < m
      · have c3' : (16384 : Int) < (m : Int) := by omega
        have E : Hid (checkV n l = 2) := by
          have := hl.out
          show _ = _
          rw [checkV, if_neg (by omega), if_pos (by omega)]
        generalize checkV n l = q at E ⊢
        go_enter Try.func26, Try.ntmps26
        go_wp2_with fail
        go_ret
        exact ⟨by rw [E.out]; rfl, keeps1 _ _⟩
      · have c3' : ¬ (16384 : Int) < (m : Int) := by omega
        have E : Hid (checkV n l = if l.any (edBad n) then 71 else 0) := by
          have := hl.out
          show _ = _
          rw [checkV, if_neg (by omega), if_neg (by omega)]
        generalize checkV n l = q at E ⊢
        go_enter Try.func26, Try.ntmps26
        go_wp2_with fail
        go_loopw [3, 4] (fun s20 _ wr => ∃ i : Nat, s20 = .int .i64 i ∧ i ≤ m ∧ wr.heap[w.heap.size]? = some (.cells #[.int .i64 n, .slice a m c] 24 (0, 0)) ∧ Keeps None w wr ∧ ∀ k e, k < i → l[k]? = some e → edBad n e = false) (fun s20 _ _ => m - (intOf s20).toNat)
        case atStart => exact ⟨0, rfl, by omega, heap_alloc_new w _, keeps1 _ _, fun k e hk => by omega⟩
        case round =>
          obtain ⟨i, rfl, hi, hb, hk, hg⟩ := hrel
          have HG : Hid (∀ k e, k < i → l[k]? = some e → edBad n e = false) := hg
          clear hg
          have d0 := (blk_cell hb 0).trans rfl
          have d1 := (blk_cell hb 1).trans rfl
          by_cases hlt : i < m
          · have hlt' : (i : Int) < (m : Int) := by omega
            obtain ⟨b, off, e, rfl, he, hat⟩ := (h.more hk).at hlt
            have HE : Hid (l[i]? = some e) := he
            obtain ⟨ef, et⟩ := e
            have e0 := hat.f
            have e1 := hat.t
            simp only at e0 e1
            have m0 : ¬ m = 0 := by omega
            have d2 : (wr.alloc (Obj.cells #[.int .i64 ef, .int .i64 et] 52)).cell? ⟨w.heap.size, 0, none⟩ = some (.int .i64 n) := (keeps1 wr _).cell d0 (fun f => f)
            clear he hat
            by_cases b1 : ef < 0
            · go_wp2_with fail
              go_ret
              exact ⟨by rw [E.out, check_bad HE.out (by simp [edBad, b1])]; rfl, hk.andAlloc _⟩
            · by_cases b2 : et ≤ ef
              · go_wp2_with fail
                go_ret
                exact ⟨by rw [E.out, check_bad HE.out (by simp [edBad, b2])]; rfl, hk.andAlloc _⟩
              · by_cases b3 : n ≤ et
                · go_wp2_with fail
                  go_ret
                  exact ⟨by rw [E.out, check_bad HE.out (by simp [edBad, b3])]; rfl, hk.andAlloc _⟩
                · go_wp2_with fail
                  have hb' : edBad n ⟨ef, et⟩ = false := by simp [edBad]; omega
                  exact ⟨⟨i + 1, by simp, by omega, blk_kept hb (keeps1 wr _) (fun f => f), hk.andAlloc _, check_more HE.out hb' HG.out⟩, by simp [intOf]; omega⟩
          · have hlt' : ¬ (i : Int) < (m : Int) := by omega
            obtain rfl : i = m := by omega
            go_wp2_with fail
            go_ret
            exact ⟨by rw [E.out, check_good hl.out HG.out]; rfl, hk⟩
end Go.Proofs.Ytnhoedodnbifdaa
