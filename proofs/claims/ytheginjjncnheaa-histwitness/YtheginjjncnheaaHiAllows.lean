import Derived.Test.YtheginjjncnheaaHiHistory
/-! The plain deque of package hist allows a call, or not. -/
namespace Go.Proofs.Ytheginjjncnheaa
set_option linter.unusedVariables false
set_option maxRecDepth 20000
open Go.RowKit Go.HeapKit

/-- What it answers to a call of a history, whether that is what the history says. -/
def alwB (most : Nat) (zs : List Int) (c : Cl) : Bool :=
  if c.code = 6 then true
  else if c.code = 0 then decide ((ansD most zs c.kind c.arg).1.1 = 2 ∨ (ansD most zs c.kind c.arg).1.1 = 4)
  else if c.code = 4 then decide ((ansD most zs c.kind c.arg).1.1 = 4 ∧ (ansD most zs c.kind c.arg).1.2 = c.v)
  else decide ((ansD most zs c.kind c.arg).1.1 = c.code)
def alwZ (most : Nat) (zs : List Int) (c : Cl) : List Int := if c.code = 6 then zs else (ansD most zs c.kind c.arg).2
theorem allows_lost (p most : Nat) (v : Value) (zs : List Int) (c : Cl) (w : World) (h : IsPlain w p most v zs) (h6 : (c.code == 6) = true) :
    Calls Try.prog 40 #[.pointer (some ⟨p, 0, none⟩), .agg #[.int .i64 c.who, .int .i64 c.kind, .int .i64 c.arg, .int .i64 c.beg, .int .i64 c.fin, .int .i64 c.code, .int .i64 c.v]] w fun e w' => e = .returned (.bool true) ∧ PAfter w w' p most v zs := by
  have HH : Hid (PAfter w (w.alloc (.cells #[.int .i64 c.who, .int .i64 c.kind, .int .i64 c.arg, .int .i64 c.beg, .int .i64 c.fin, .int .i64 c.code, .int .i64 c.v] 49)) p most v zs) := PAfter.same h (Keeps.alloc None w _)
  clear h
  go_enter Try.func40, Try.ntmps40
  go_wp2
  go_ret
  exact ⟨rfl, HH.out⟩
set_option maxHeartbeats 1600000 in
theorem allows_any (p most : Nat) (v : Value) (zs zs' : List Int) (c : Cl) (code val : Int) (R : Bool) (w : World) (hD : ¬ PFoot p v w.heap.size) (h6 : (c.code == 6) = false)
    (hc : Calls Try.prog 18 #[.pointer (some ⟨p, 0, none⟩), .int .i64 c.kind, .int .i64 c.arg] (w.alloc (.cells #[.int .i64 c.who, .int .i64 c.kind, .int .i64 c.arg, .int .i64 c.beg, .int .i64 c.fin, .int .i64 c.code, .int .i64 c.v] 49)) fun e w' => e = .returned (.tuple #[.int .i64 code, .int .i64 val]) ∧ PAfter (w.alloc (.cells #[.int .i64 c.who, .int .i64 c.kind, .int .i64 c.arg, .int .i64 c.beg, .int .i64 c.fin, .int .i64 c.code, .int .i64 c.v] 49)) w' p most v zs')
    (hR : R = if c.code = 0 then decide (code = 2 ∨ code = 4) else if c.code = 4 then decide (code = 4 ∧ val = c.v) else decide (code = c.code)) :
    Calls Try.prog 40 #[.pointer (some ⟨p, 0, none⟩), .agg #[.int .i64 c.who, .int .i64 c.kind, .int .i64 c.arg, .int .i64 c.beg, .int .i64 c.fin, .int .i64 c.code, .int .i64 c.v]] w fun e w' => e = .returned (.bool R) ∧ PAfter w w' p most v zs' := by
  have HD : Hid (¬ PFoot p v w.heap.size) := hD
  clear hD
  by_cases c0 : c.code = 0
  · rw [if_pos c0] at hR
    have b0 : (c.code == 0) = true := by simpa using c0
    clear c0
    by_cases e2 : code = 2
    · rw [decide_eq_true (.inl e2)] at hR
      have b2 : (code == 2) = true := by simpa using e2
      clear e2
      subst hR
      go_enter Try.func40, Try.ntmps40
      go_wp2_with fail
      refine hc.mono ?_
      rintro e w2 ⟨rfl, vh2, hP2, hK2, hM2⟩
      have d5 : w2.cell? ⟨w.heap.size, 5, none⟩ = some (.int .i64 c.code) := hK2.cell (by rw [blk_cell (blk_new w _ _ rfl)]; rfl) (HD.out)
      have d6 : w2.cell? ⟨w.heap.size, 6, none⟩ = some (.int .i64 c.v) := hK2.cell (by rw [blk_cell (blk_new w _ _ rfl)]; rfl) (HD.out)
      have HN : Hid (PAfter w w2 p most v zs') := ⟨vh2, hP2, (Keeps.alloc (PFoot p v) w _).trans hK2 (fun _ e _ => e), hM2.imp id (fun ⟨g, e, h⟩ => ⟨g, e, by simp at h; omega⟩)⟩
      clear hc hP2 hK2 hM2
      go_wp2
      go_ret
      exact ⟨rfl, HN.out⟩
    · have b2 : (code == 2) = false := by simpa using e2
      by_cases e4 : code = 4
      · rw [decide_eq_true (.inr e4)] at hR
        have b4 : (code == 4) = true := by simpa using e4
        clear e2 e4
        subst hR
        go_enter Try.func40, Try.ntmps40
        go_wp2_with fail
        refine hc.mono ?_
        rintro e w2 ⟨rfl, vh2, hP2, hK2, hM2⟩
        have d5 : w2.cell? ⟨w.heap.size, 5, none⟩ = some (.int .i64 c.code) := hK2.cell (by rw [blk_cell (blk_new w _ _ rfl)]; rfl) (HD.out)
        have d6 : w2.cell? ⟨w.heap.size, 6, none⟩ = some (.int .i64 c.v) := hK2.cell (by rw [blk_cell (blk_new w _ _ rfl)]; rfl) (HD.out)
        have HN : Hid (PAfter w w2 p most v zs') := ⟨vh2, hP2, (Keeps.alloc (PFoot p v) w _).trans hK2 (fun _ e _ => e), hM2.imp id (fun ⟨g, e, h⟩ => ⟨g, e, by simp at h; omega⟩)⟩
        clear hc hP2 hK2 hM2
        go_wp2
        go_ret
        exact ⟨rfl, HN.out⟩
      · rw [decide_eq_false (fun e => e.elim e2 e4)] at hR
        have b4 : (code == 4) = false := by simpa using e4
        clear e2 e4
        subst hR
        go_enter Try.func40, Try.ntmps40
        go_wp2_with fail
        refine hc.mono ?_
        rintro e w2 ⟨rfl, vh2, hP2, hK2, hM2⟩
        have d5 : w2.cell? ⟨w.heap.size, 5, none⟩ = some (.int .i64 c.code) := hK2.cell (by rw [blk_cell (blk_new w _ _ rfl)]; rfl) (HD.out)
        have d6 : w2.cell? ⟨w.heap.size, 6, none⟩ = some (.int .i64 c.v) := hK2.cell (by rw [blk_cell (blk_new w _ _ rfl)]; rfl) (HD.out)
        have HN : Hid (PAfter w w2 p most v zs') := ⟨vh2, hP2, (Keeps.alloc (PFoot p v) w _).trans hK2 (fun _ e _ => e), hM2.imp id (fun ⟨g, e, h⟩ => ⟨g, e, by simp at h; omega⟩)⟩
        clear hc hP2 hK2 hM2
        go_wp2
        go_ret
        exact ⟨rfl, HN.out⟩
  · rw [if_neg c0] at hR
    have b0 : (c.code == 0) = false := by simpa using c0
    clear c0
    by_cases c4 : c.code = 4
    · rw [if_pos c4] at hR
      have b1 : (c.code == 4) = true := by simpa using c4
      clear c4
      by_cases e4 : code = 4
      · have b4 : (code == 4) = true := by simpa using e4
        by_cases ev : val = c.v
        · rw [decide_eq_true ⟨e4, ev⟩] at hR
          have bv : (val == c.v) = true := by simpa using ev
          clear e4 ev
          subst hR
          go_enter Try.func40, Try.ntmps40
          go_wp2_with fail
          refine hc.mono ?_
          rintro e w2 ⟨rfl, vh2, hP2, hK2, hM2⟩
          have d5 : w2.cell? ⟨w.heap.size, 5, none⟩ = some (.int .i64 c.code) := hK2.cell (by rw [blk_cell (blk_new w _ _ rfl)]; rfl) (HD.out)
          have d6 : w2.cell? ⟨w.heap.size, 6, none⟩ = some (.int .i64 c.v) := hK2.cell (by rw [blk_cell (blk_new w _ _ rfl)]; rfl) (HD.out)
          have HN : Hid (PAfter w w2 p most v zs') := ⟨vh2, hP2, (Keeps.alloc (PFoot p v) w _).trans hK2 (fun _ e _ => e), hM2.imp id (fun ⟨g, e, h⟩ => ⟨g, e, by simp at h; omega⟩)⟩
          clear hc hP2 hK2 hM2
          go_wp2
          go_ret
          exact ⟨rfl, HN.out⟩
        · rw [decide_eq_false (fun e => ev e.2)] at hR
          have bv : (val == c.v) = false := by simpa using ev
          clear e4 ev
          subst hR
          go_enter Try.func40, Try.ntmps40
          go_wp2_with fail
          refine hc.mono ?_
          rintro e w2 ⟨rfl, vh2, hP2, hK2, hM2⟩
          have d5 : w2.cell? ⟨w.heap.size, 5, none⟩ = some (.int .i64 c.code) := hK2.cell (by rw [blk_cell (blk_new w _ _ rfl)]; rfl) (HD.out)
          have d6 : w2.cell? ⟨w.heap.size, 6, none⟩ = some (.int .i64 c.v) := hK2.cell (by rw [blk_cell (blk_new w _ _ rfl)]; rfl) (HD.out)
          have HN : Hid (PAfter w w2 p most v zs') := ⟨vh2, hP2, (Keeps.alloc (PFoot p v) w _).trans hK2 (fun _ e _ => e), hM2.imp id (fun ⟨g, e, h⟩ => ⟨g, e, by simp at h; omega⟩)⟩
          clear hc hP2 hK2 hM2
          go_wp2
          go_ret
          exact ⟨rfl, HN.out⟩
      · rw [decide_eq_false (fun e => e4 e.1)] at hR
        have b4 : (code == 4) = false := by simpa using e4
        clear e4
        subst hR
        go_enter Try.func40, Try.ntmps40
        go_wp2_with fail
        refine hc.mono ?_
        rintro e w2 ⟨rfl, vh2, hP2, hK2, hM2⟩
        have d5 : w2.cell? ⟨w.heap.size, 5, none⟩ = some (.int .i64 c.code) := hK2.cell (by rw [blk_cell (blk_new w _ _ rfl)]; rfl) (HD.out)
        have d6 : w2.cell? ⟨w.heap.size, 6, none⟩ = some (.int .i64 c.v) := hK2.cell (by rw [blk_cell (blk_new w _ _ rfl)]; rfl) (HD.out)
        have HN : Hid (PAfter w w2 p most v zs') := ⟨vh2, hP2, (Keeps.alloc (PFoot p v) w _).trans hK2 (fun _ e _ => e), hM2.imp id (fun ⟨g, e, h⟩ => ⟨g, e, by simp at h; omega⟩)⟩
        clear hc hP2 hK2 hM2
        go_wp2
        go_ret
        exact ⟨rfl, HN.out⟩
    · rw [if_neg c4] at hR
      have b1 : (c.code == 4) = false := by simpa using c4
      clear c4
      by_cases ec : code = c.code
      · rw [decide_eq_true ec] at hR
        have be : (code == c.code) = true := by simpa using ec
        clear ec
        subst hR
        go_enter Try.func40, Try.ntmps40
        go_wp2_with fail
        refine hc.mono ?_
        rintro e w2 ⟨rfl, vh2, hP2, hK2, hM2⟩
        have d5 : w2.cell? ⟨w.heap.size, 5, none⟩ = some (.int .i64 c.code) := hK2.cell (by rw [blk_cell (blk_new w _ _ rfl)]; rfl) (HD.out)
        have d6 : w2.cell? ⟨w.heap.size, 6, none⟩ = some (.int .i64 c.v) := hK2.cell (by rw [blk_cell (blk_new w _ _ rfl)]; rfl) (HD.out)
        have HN : Hid (PAfter w w2 p most v zs') := ⟨vh2, hP2, (Keeps.alloc (PFoot p v) w _).trans hK2 (fun _ e _ => e), hM2.imp id (fun ⟨g, e, h⟩ => ⟨g, e, by simp at h; omega⟩)⟩
        clear hc hP2 hK2 hM2
        go_wp2
        go_ret
        exact ⟨rfl, HN.out⟩
      · rw [decide_eq_false ec] at hR
        have be : (code == c.code) = false := by simpa using ec
        clear ec
        subst hR
        go_enter Try.func40, Try.ntmps40
        go_wp2_with fail
        refine hc.mono ?_
        rintro e w2 ⟨rfl, vh2, hP2, hK2, hM2⟩
        have d5 : w2.cell? ⟨w.heap.size, 5, none⟩ = some (.int .i64 c.code) := hK2.cell (by rw [blk_cell (blk_new w _ _ rfl)]; rfl) (HD.out)
        have d6 : w2.cell? ⟨w.heap.size, 6, none⟩ = some (.int .i64 c.v) := hK2.cell (by rw [blk_cell (blk_new w _ _ rfl)]; rfl) (HD.out)
        have HN : Hid (PAfter w w2 p most v zs') := ⟨vh2, hP2, (Keeps.alloc (PFoot p v) w _).trans hK2 (fun _ e _ => e), hM2.imp id (fun ⟨g, e, h⟩ => ⟨g, e, by simp at h; omega⟩)⟩
        clear hc hP2 hK2 hM2
        go_wp2
        go_ret
        exact ⟨rfl, HN.out⟩
theorem allows_ok (p most : Nat) (v : Value) (zs : List Int) (c : Cl) (w : World) (h : IsPlain w p most v zs) (hs : zs.length ≤ 1000000) :
    Calls Try.prog 40 #[.pointer (some ⟨p, 0, none⟩), .agg #[.int .i64 c.who, .int .i64 c.kind, .int .i64 c.arg, .int .i64 c.beg, .int .i64 c.fin, .int .i64 c.code, .int .i64 c.v]] w fun e w' => e = .returned (.bool (alwB most zs c)) ∧ PAfter w w' p most v (alwZ most zs c) := by
  unfold alwB alwZ
  by_cases h6 : c.code = 6
  · simp only [if_pos h6]
    exact allows_lost p most v zs c w h (by simpa using h6)
  · simp only [if_neg h6]
    exact allows_any p most v zs _ c _ _ _ w (fun e => by have := h.foot_lt e; omega) (by simpa using h6) (answer_ok p most v zs c.kind c.arg _ (h.kept (Keeps.alloc None w _) (fun _ _ f => f)) hs) rfl
/-- Of a call that fits a history: just what the document's deque says. -/
theorem alw_do {most : Nat} {zs : List Int} {c : Cl} (hf : fitsB c = true) (hl : zs.length ≤ most) : alwB most zs c = (doR zs c most).2 ∧ (alwB most zs c = true → alwZ most zs c = (doR zs c most).1) := by
  obtain ⟨-, -, -, -, hw0, hw3, hmk⟩ := fits_ended hf
  have hans : c.code = 0 ∨ ansB c.kind c.code = true := by
    unfold fitsB at hf
    split at hf
    · cases hf
    · split at hf
      · cases hf
      · split at hf
        · exact .inl (by assumption)
        · split at hf
          · exact .inr hf
          · cases hf
  have hkind : c.kind = 0 ∨ c.kind = 1 ∨ c.kind = 2 := by
    unfold mkB at hmk
    split at hmk
    · omega
    · split at hmk
      · omega
      · cases hmk
  unfold alwB alwZ doR ansD
  unfold ansB at hans
  rcases hkind with hk | hk | hk <;> rw [hk] at hans ⊢
  · simp at hans
    rcases hans with hc | hc | hc <;> rw [hc]
    · by_cases he : most ≤ zs.length <;> simp [he]
    · by_cases he : most ≤ zs.length <;> simp [he]
    · by_cases he : most ≤ zs.length
      · have : zs.length = most := by omega
        simp [this]
      · have : ¬ zs.length = most := by omega
        simp [he, this]
  · simp at hans
    rcases hans with hc | hc | hc <;> rw [hc]
    · by_cases he : zs = [] <;> simp [he]
    · by_cases he : zs = [] <;> simp [he]
    · by_cases he : zs = [] <;> simp [he]
  · simp at hans
    rcases hans with hc | hc | hc | hc <;> rw [hc]
    · cases zs <;> simp
    · cases zs <;> simp
    · cases zs <;> simp
    · cases zs <;> simp
theorem alw_length {most : Nat} {zs : List Int} {c : Cl} (hl : zs.length ≤ most) : (alwZ most zs c).length ≤ most := by
  unfold alwZ ansD
  split
  · exact hl
  · split
    · split <;> simp <;> omega
    · split
      · split <;> simp <;> omega
      · split <;> simp at * <;> omega
end Go.Proofs.Ytheginjjncnheaa
