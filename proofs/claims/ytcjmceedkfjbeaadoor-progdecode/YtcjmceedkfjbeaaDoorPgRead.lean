import Derived.Test.YtcjmceedkfjbeaaDoorPgDec
/-! The reader of images. -/
namespace Go.Proofs.YtcjmceedkfjbeaaDoor
set_option linter.unusedVariables false
set_option maxRecDepth 20000
open Go.RowKit Go.HeapKit

/-! ### Plainly -/
def readIns : List Int → Option (Ins × List Int)
  | k :: a :: b :: c :: x :: r => some (⟨k, a, b, c, x⟩, r)
  | _ => none
def readCode : Nat → List Int → Option (List Ins × List Int)
  | 0, zs => some ([], zs)
  | n + 1, zs => (readIns zs).bind fun p => (readCode n p.2).map fun q => (p.1 :: q.1, q.2)
def readFn : List Int → Option (Fn × List Int)
  | p :: g :: s :: m :: r => if m < 1 ∨ 512 < m then none else (readCode m.toNat r).map fun q => (⟨p, g, s, q.1⟩, q.2)
  | _ => none
def readFns : Nat → List Int → Option (List Fn × List Int)
  | 0, zs => some ([], zs)
  | n + 1, zs => (readFn zs).bind fun p => (readFns n p.2).map fun q => (p.1 :: q.1, q.2)
theorem readIns_spec {zs : List Int} {i : Ins} {r : List Int} (h : readIns zs = some (i, r)) : zs = insW i ++ r := by
  unfold readIns at h
  split at h
  · simp at h
    obtain ⟨rfl, rfl⟩ := h
    rfl
  · cases h
theorem readCode_spec : ∀ (n : Nat) {zs : List Int} {c : List Ins} {r : List Int}, readCode n zs = some (c, r) → zs = c.flatMap insW ++ r ∧ c.length = n
  | 0, zs, c, r, h => by simp [readCode] at h; obtain ⟨rfl, rfl⟩ := h; simp
  | n + 1, zs, c, r, h => by
    simp only [readCode, Option.bind_eq_some_iff, Option.map_eq_some_iff] at h
    obtain ⟨⟨i, r1⟩, h1, ⟨c2, r2⟩, h2, e⟩ := h
    simp at e
    obtain ⟨rfl, rfl⟩ := e
    have e1 := readIns_spec h1
    obtain ⟨e2, e3⟩ := readCode_spec n h2
    refine ⟨?_, by simp [e3]⟩
    rw [e1, List.flatMap_cons, List.append_assoc, ← e2]
theorem readFn_spec {zs : List Int} {f : Fn} {r : List Int} (h : readFn zs = some (f, r)) : zs = fnW f ++ r ∧ 1 ≤ f.code.length ∧ f.code.length ≤ 512 := by
  unfold readFn at h
  split at h
  · rename_i p g s m r1
    split at h
    · cases h
    · rename_i hm
      simp only [Option.map_eq_some_iff] at h
      obtain ⟨⟨c, r2⟩, h1, e⟩ := h
      simp at e
      obtain ⟨rfl, rfl⟩ := e
      obtain ⟨e1, e2⟩ := readCode_spec _ h1
      simp only
      refine ⟨?_, by omega, by omega⟩
      unfold fnW
      simp only
      rw [e2, e1, Int.toNat_of_nonneg (by omega)]
      simp
  · cases h
theorem readFns_spec : ∀ (n : Nat) {zs : List Int} {l : List Fn} {r : List Int}, readFns n zs = some (l, r) → zs = l.flatMap fnW ++ r ∧ l.length = n ∧ ∀ f ∈ l, 1 ≤ f.code.length ∧ f.code.length ≤ 512
  | 0, zs, c, r, h => by simp [readFns] at h; obtain ⟨rfl, rfl⟩ := h; simp
  | n + 1, zs, c, r, h => by
    simp only [readFns, Option.bind_eq_some_iff, Option.map_eq_some_iff] at h
    obtain ⟨⟨i, r1⟩, h1, ⟨c2, r2⟩, h2, e⟩ := h
    simp at e
    obtain ⟨rfl, rfl⟩ := e
    obtain ⟨e1, e4⟩ := readFn_spec h1
    obtain ⟨e2, e3, e5⟩ := readFns_spec n h2
    refine ⟨?_, by simp [e3], fun f hf => ?_⟩
    · rw [e1, List.flatMap_cons, List.append_assoc, ← e2]
    · rcases List.mem_cons.1 hf with rfl | hf
      · exact e4
      · exact e5 f hf
theorem readCode_back (c : List Ins) (r : List Int) : readCode c.length (c.flatMap insW ++ r) = some (c, r) := by
  induction c with
  | nil => rfl
  | cons i c ih =>
    rw [List.length_cons, List.flatMap_cons, List.append_assoc]
    simp only [readCode, insW, List.cons_append, List.nil_append, readIns, Option.bind_some, ih, Option.map_some]
theorem readFn_back (f : Fn) (r : List Int) (h : 1 ≤ f.code.length ∧ f.code.length ≤ 512) : readFn (fnW f ++ r) = some (f, r) := by
  simp only [fnW, List.cons_append, List.nil_append, readFn]
  rw [if_neg (by omega), Int.toNat_natCast, readCode_back]
  rfl
theorem readFns_back (l : List Fn) (r : List Int) (h : ∀ f ∈ l, 1 ≤ f.code.length ∧ f.code.length ≤ 512) : readFns l.length (l.flatMap fnW ++ r) = some (l, r) := by
  induction l with
  | nil => rfl
  | cons f l ih =>
    rw [List.length_cons, List.flatMap_cons, List.append_assoc]
    simp only [readFns, readFn_back f _ (h f (List.mem_cons_self ..)), Option.bind_some, ih (fun g hg => h g (List.mem_cons_of_mem _ hg)), Option.map_some]

/-! ### In memory -/
structure IsRd (w0 w : World) (R : Nat) (zs : List Int) : Prop where
  base : Keeps None w0 w
  low : w0.heap.size ≤ R
  ex : ∃ a n c, w.heap[R]? = some (.cells #[.slice a n c] 67 (0, 0)) ∧ SeenW w0 a n zs ∧ n ≤ c ∧ c ≤ maxLen
theorem IsRd.kept {w0 w w' : World} {R : Nat} {zs : List Int} (h : IsRd w0 w R zs) {S : Nat → Prop} (hk : Keeps S w w') (hS : ∀ k, S k → w0.heap.size ≤ k ∧ k ≠ R) : IsRd w0 w' R zs := by
  refine ⟨h.base.trans hk (fun i s hi => by have := (hS i s).1; omega), h.low, ?_⟩
  obtain ⟨a, n, c, hb, r⟩ := h.ex
  exact ⟨a, n, c, blk_kept hb hk (fun s => (hS R s).2 rfl), r⟩
theorem word_none (w0 : World) (R : Nat) (w : World) (h : IsRd w0 w R []) : Calls Tryd.prog 36 #[.pointer (some ⟨R, 0, none⟩)] w fun e w' => e = .panicked (thrown 57 0 0) ∧ w' = w := by
  obtain ⟨a, n, c, hb, hs, _⟩ := h.ex
  have hn : n = 0 := hs.len
  subst hn
  have y := (cell_of_heap hb 0).trans rfl
  clear h hs hb
  go_enter Tryd.func36, Tryd.ntmps36
  go_wp2_with (go_at_call 35; refine (giveUp_any _ _ _ _).mono ?_; rintro e w' ⟨rfl, hw⟩; have hw2 := hw.symm; subst hw2)
  exact ⟨rfl, rfl, rfl⟩
theorem word_some (w0 : World) (R : Nat) (x : Int) (r : List Int) (w : World) (h : IsRd w0 w R (x :: r)) : Calls Tryd.prog 36 #[.pointer (some ⟨R, 0, none⟩)] w fun e w' => e = .returned (.int .i64 x) ∧ IsRd w0 w' R r ∧ Keeps (· = R) w w' := by
  obtain ⟨a, n, c, hb, hs, hnc, hcm⟩ := h.ex
  have hn : n = r.length + 1 := hs.len
  subst hn
  obtain ⟨b, off, rfl, hlt, hcell⟩ := hs.ex (by omega)
  have y := (cell_of_heap hb 0).trans rfl
  have yx := h.base.cell (hcell 0 x rfl) (fun f => f)
  rw [Nat.add_zero] at yx
  have z := blk_free hb 0
  unfold maxLen at hcm
  have hrest : ∀ a', (r.length ≠ 0 → a' = some ⟨b, off + 1, none⟩) → SeenW w0 a' r.length r := fun a' ha => by
    refine ⟨rfl, by have := hs.most; omega, fun q hq => hs.ok q (List.mem_cons_of_mem _ hq), fun h0 => ⟨b, off + 1, ha (by omega), hlt, fun k q hq => ?_⟩⟩
    have := hcell (k + 1) q (by simpa using hq)
    rwa [show off + (k + 1) = off + 1 + k by omega] at this
  have i1 : ¬ ((r.length : Int) + 1 = 0) := by omega
  have i2 : (1 : Int) ≤ ((r.length + 1 : Nat) : Int) := by omega
  have i3 : ((r.length + 1 : Nat) : Int) ≤ (c : Int) := by omega
  have hfin : ∀ a', (r.length ≠ 0 → a' = some ⟨b, off + 1, none⟩) → IsRd w0 (w.setCell ⟨R, 0, none⟩ (.slice a' r.length (c - 1))) R r ∧ Keeps (· = R) w (w.setCell ⟨R, 0, none⟩ (.slice a' r.length (c - 1))) := fun a' ha => by
    have hk := Keeps.setCell (S := (· = R)) w (a := ⟨R, 0, none⟩) rfl (.slice a' r.length (c - 1))
    refine ⟨⟨h.base.trans hk (fun i e hi => by have := h.low; omega), h.low, a', r.length, c - 1, ?_, hrest a' ha, by omega, by unfold maxLen; omega⟩, hk⟩
    rw [blk_set hb]
    rfl
  have HF : Hid _ := hfin
  clear hfin hrest h hs hb hcell
  by_cases hc1 : c = 1
  · subst hc1
    have hr0 : r.length = 0 := by omega
    have HR : Hid (r.length = 0) := hr0
    clear hr0
    go_enter Tryd.func36, Tryd.ntmps36
    go_wp2_with fail
    go_ret
    have := HF.out (some ⟨b, off, none⟩) (fun h => absurd HR.out h)
    rw [HR.out] at this
    exact ⟨rfl, this⟩
  · go_enter Tryd.func36, Tryd.ntmps36
    go_wp2_with fail
    go_ret
    exact ⟨rfl, HF.out _ (fun _ => rfl)⟩
theorem num_none (w0 : World) (R : Nat) (w : World) (h : IsRd w0 w R []) : Calls Tryd.prog 50 #[.pointer (some ⟨R, 0, none⟩)] w fun e w' => e = .panicked (thrown 57 0 0) ∧ w' = w := by
  have hw := word_none w0 R w h
  clear h
  go_enter Tryd.func50, Tryd.ntmps50
  go_wp2_with (go_at_call 36; refine hw.mono ?_; rintro e w' ⟨rfl, hw⟩; have hw2 := hw.symm; subst hw2)
  exact ⟨rfl, rfl, rfl⟩
theorem num_some (w0 : World) (R : Nat) (x : Int) (r : List Int) (w : World) (h : IsRd w0 w R (x :: r)) : Calls Tryd.prog 50 #[.pointer (some ⟨R, 0, none⟩)] w fun e w' => e = .returned (.int .i64 x) ∧ IsRd w0 w' R r ∧ Keeps (· = R) w w' := by
  have hw := word_some w0 R x r w h
  clear h
  go_enter Tryd.func50, Tryd.ntmps50
  go_wp2_with (go_at_call 36; refine hw.mono ?_; rintro e w2 ⟨rfl, h2, hk2⟩)
  go_ret
  exact ⟨rfl, h2, hk2⟩
/-- What a count is. -/
theorem count_none (w0 : World) (R : Nat) (most : Int) (w : World) (zs : List Int) (h : IsRd w0 w R zs) (hb : ∀ x r, zs = x :: r → x < 1 ∨ most < x) (hm : 0 ≤ most) : Calls Tryd.prog 37 #[.pointer (some ⟨R, 0, none⟩), .int .i64 most] w fun e w' => e = .panicked (thrown 57 0 0) ∧ Keeps (· = R) w w' := by
  cases zs with
  | nil =>
    have hw := word_none w0 R w h
    clear h hb
    go_enter Tryd.func37, Tryd.ntmps37
    go_wp2_with (go_at_call 36; refine hw.mono ?_; rintro e w' ⟨rfl, hw⟩; have hw2 := hw.symm; subst hw2)
    exact ⟨rfl, rfl, Keeps.refl _ _⟩
  | cons x r =>
    have hw := word_some w0 R x r w h
    have hx := hb x r rfl
    clear h hb
    by_cases h1 : x < 1
    · clear hx
      go_enter Tryd.func37, Tryd.ntmps37
      go_wp2_with (first | (go_at_call 36; refine hw.mono ?_; rintro e w2 ⟨rfl, h2, hk2⟩) | (go_at_call 35; refine (giveUp_any _ _ _ _).mono ?_; rintro e w' ⟨rfl, hw⟩; have hw2 := hw.symm; subst hw2))
      exact ⟨rfl, rfl, hk2⟩
    · have h2 : most < x := by omega
      have h3 : ¬ x < 1 := h1
      clear hx
      go_enter Tryd.func37, Tryd.ntmps37
      go_wp2_with (first | (go_at_call 36; refine hw.mono ?_; rintro e w2 ⟨rfl, h2, hk2⟩) | (go_at_call 35; refine (giveUp_any _ _ _ _).mono ?_; rintro e w' ⟨rfl, hw⟩; have hw2 := hw.symm; subst hw2))
      exact ⟨rfl, rfl, hk2⟩
theorem count_some (w0 : World) (R : Nat) (most x : Int) (r : List Int) (w : World) (h : IsRd w0 w R (x :: r)) (h1 : 1 ≤ x) (h2 : x ≤ most) : Calls Tryd.prog 37 #[.pointer (some ⟨R, 0, none⟩), .int .i64 most] w fun e w' => e = .returned (.int .i64 x) ∧ IsRd w0 w' R r ∧ Keeps (· = R) w w' := by
  have hw := word_some w0 R x r w h
  clear h
  go_enter Tryd.func37, Tryd.ntmps37
  go_wp2_with (go_at_call 36; refine hw.mono ?_; rintro e w2 ⟨rfl, h2, hk2⟩)
  go_ret
  exact ⟨rfl, h2, hk2⟩
end Go.Proofs.YtcjmceedkfjbeaaDoor
