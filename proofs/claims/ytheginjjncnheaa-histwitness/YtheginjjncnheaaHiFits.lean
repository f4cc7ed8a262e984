import Derived.Test.YtheginjjncnheaaHiTail
import Derived.Deep.RegionHeld3
/-! What can be told of a call by itself, and of two: the program's words and the document's. -/
namespace Go.Proofs.Ytheginjjncnheaa
set_option linter.unusedVariables false
set_option maxRecDepth 20000
open Go.RowKit Go.HeapKit

def mkB (who kind : Int) : Bool := if kind = 0 ∨ kind = 1 then decide (who = 0) else if kind = 2 then decide (1 ≤ who ∧ who < 4) else false
def ansB (kind code : Int) : Bool := if kind = 0 then decide (code = 2 ∨ code = 3) else if kind = 1 then decide (code = 4 ∨ code = 5) else decide (code = 4 ∨ code = 5 ∨ code = 6)
def fitsB (c : Cl) : Bool := if c.beg < 0 then false else if mkB c.who c.kind = false then false else if c.code = 0 then decide (c.fin = -1) else if c.beg ≤ c.fin then ansB c.kind c.code else false
def aheadB (x y : Cl) : Bool := decide (x.code ≠ 0 ∧ x.fin < y.beg)
def aheadR (x y : Cl) : Bool := decide (0 ≤ x.fin ∧ x.fin < y.beg)
theorem fits_ended {c : Cl} (h : fitsB c = true) : (c.code ≠ 0 ↔ 0 ≤ c.fin) ∧ (c.code = 0 → c.fin = -1) ∧ (c.code ≠ 0 → c.beg ≤ c.fin) ∧ 0 ≤ c.beg ∧ 0 ≤ c.who ∧ c.who ≤ 3 ∧ mkB c.who c.kind = true := by
  unfold fitsB at h
  split at h
  · cases h
  · split at h
    · cases h
    · rename_i h1 h2
      have h2' : mkB c.who c.kind = true := by simpa using h2
      have hw : 0 ≤ c.who ∧ c.who ≤ 3 := by
        unfold mkB at h2'
        split at h2'
        · simp at h2'; omega
        · split at h2'
          · simp at h2'; omega
          · cases h2'
      split at h
      · simp at h; refine ⟨by omega, by omega, by omega, by omega, hw.1, hw.2, h2'⟩
      · split at h
        · refine ⟨by omega, by omega, by omega, by omega, hw.1, hw.2, h2'⟩
        · cases h
theorem ahead_same {x y : Cl} (h : fitsB x = true) : aheadR x y = aheadB x y := by
  have := (fits_ended h).1
  unfold aheadR aheadB
  by_cases h1 : x.code ≠ 0
  · have := this.1 h1
    simp [h1, this]
  · have h2 : ¬ 0 ≤ x.fin := fun e => h1 (this.2 e)
    simp [h2]; intro e; exact absurd e h1

theorem mayMake_ok (who kind : Int) (w : World) : Calls Try.prog 46 #[.int .i64 who, .int .i64 kind] w fun e w' => e = .returned (.bool (mkB who kind)) ∧ w' = w := by
  by_cases k0 : kind = 0
  · subst k0
    by_cases h : who = 0
    · subst h
      rw [show mkB 0 0 = true by rfl]
      go_enter Try.func46, Try.ntmps46
      go_wp2
      go_ret
      exact ⟨rfl, rfl⟩
    · have b : (who == 0) = false := by simpa using h
      rw [show mkB who 0 = false by simp [mkB, h]]
      clear h
      go_enter Try.func46, Try.ntmps46
      go_wp2
      go_ret
      exact ⟨rfl, rfl⟩
  · have b0 : (kind == 0) = false := by simpa using k0
    by_cases k1 : kind = 1
    · subst k1
      clear b0 k0
      by_cases h : who = 0
      · subst h
        rw [show mkB 0 1 = true by rfl]
        go_enter Try.func46, Try.ntmps46
        go_wp2
        go_ret
        exact ⟨rfl, rfl⟩
      · have b : (who == 0) = false := by simpa using h
        rw [show mkB who 1 = false by simp [mkB, h]]
        clear h
        go_enter Try.func46, Try.ntmps46
        go_wp2
        go_ret
        exact ⟨rfl, rfl⟩
    · have b1 : (kind == 1) = false := by simpa using k1
      by_cases k2 : kind = 2
      · subst k2
        clear b0 k0 b1 k1
        by_cases h1 : 1 ≤ who
        · by_cases h2 : who < 4
          · rw [show mkB who 2 = true by simp [mkB, h1, h2]]
            go_enter Try.func46, Try.ntmps46
            go_wp2
            go_ret
            exact ⟨rfl, rfl⟩
          · rw [show mkB who 2 = false by simp [mkB, h1, h2]]
            go_enter Try.func46, Try.ntmps46
            go_wp2
            go_ret
            exact ⟨rfl, rfl⟩
        · rw [show mkB who 2 = false by simp [mkB, h1]]
          go_enter Try.func46, Try.ntmps46
          go_wp2
          go_ret
          exact ⟨rfl, rfl⟩
      · have b2 : (kind == 2) = false := by simpa using k2
        rw [show mkB who kind = false by simp [mkB, k0, k1, k2]]
        clear k0 k1 k2
        go_enter Try.func46, Try.ntmps46
        go_wp2
        go_ret
        exact ⟨rfl, rfl⟩

theorem mayAnswer_ok (kind code : Int) (w : World) : Calls Try.prog 47 #[.int .i64 kind, .int .i64 code] w fun e w' => e = .returned (.bool (ansB kind code)) ∧ w' = w := by
  by_cases k0 : kind = 0
  · subst k0
    by_cases e2 : code = 2
    · subst e2
      rw [show ansB 0 2 = true by simp [ansB]]
      try clear k0
      try clear k1
      go_enter Try.func47, Try.ntmps47
      go_wp2
      go_ret
      exact ⟨rfl, rfl⟩
    · have b2 : (code == 2) = false := by simpa using e2
      by_cases e3 : code = 3
      · subst e3
        rw [show ansB 0 3 = true by simp [ansB]]
        clear b2 e2
        try clear k0
        try clear k1
        go_enter Try.func47, Try.ntmps47
        go_wp2
        go_ret
        exact ⟨rfl, rfl⟩
      · have b3 : (code == 3) = false := by simpa using e3
        rw [show ansB 0 code = false by simp [ansB, e2, e3]]
        clear e2 e3
        try clear k0
        try clear k1
        go_enter Try.func47, Try.ntmps47
        go_wp2
        go_ret
        exact ⟨rfl, rfl⟩
  · have b0 : (kind == 0) = false := by simpa using k0
    by_cases k1 : kind = 1
    · subst k1
      clear b0 k0
      by_cases e4 : code = 4
      · subst e4
        rw [show ansB 1 4 = true by simp [ansB]]
        try clear k0
        try clear k1
        go_enter Try.func47, Try.ntmps47
        go_wp2
        go_ret
        exact ⟨rfl, rfl⟩
      · have b4 : (code == 4) = false := by simpa using e4
        by_cases e5 : code = 5
        · subst e5
          rw [show ansB 1 5 = true by simp [ansB]]
          clear b4 e4
          try clear k0
          try clear k1
          go_enter Try.func47, Try.ntmps47
          go_wp2
          go_ret
          exact ⟨rfl, rfl⟩
        · have b5 : (code == 5) = false := by simpa using e5
          rw [show ansB 1 code = false by simp [ansB, e4, e5]]
          clear e4 e5
          try clear k0
          try clear k1
          go_enter Try.func47, Try.ntmps47
          go_wp2
          go_ret
          exact ⟨rfl, rfl⟩
    · have b1 : (kind == 1) = false := by simpa using k1
      by_cases e4 : code = 4
      · subst e4
        rw [show ansB kind 4 = true by simp [ansB, k0, k1]]
        try clear k0
        try clear k1
        go_enter Try.func47, Try.ntmps47
        go_wp2
        go_ret
        exact ⟨rfl, rfl⟩
      · have b4 : (code == 4) = false := by simpa using e4
        by_cases e5 : code = 5
        · subst e5
          rw [show ansB kind 5 = true by simp [ansB, k0, k1]]
          clear b4 e4
          try clear k0
          try clear k1
          go_enter Try.func47, Try.ntmps47
          go_wp2
          go_ret
          exact ⟨rfl, rfl⟩
        · have b5 : (code == 5) = false := by simpa using e5
          by_cases e6 : code = 6
          · subst e6
            rw [show ansB kind 6 = true by simp [ansB, k0, k1]]
            clear b4 e4 b5 e5
            try clear k0
            try clear k1
            go_enter Try.func47, Try.ntmps47
            go_wp2
            go_ret
            exact ⟨rfl, rfl⟩
          · have b6 : (code == 6) = false := by simpa using e6
            rw [show ansB kind code = false by simp [ansB, k0, k1, e4, e5, e6]]
            clear e4 e5 e6
            try clear k0
            try clear k1
            go_enter Try.func47, Try.ntmps47
            go_wp2
            go_ret
            exact ⟨rfl, rfl⟩

theorem rmayAnswer_ok (kind code : Int) (w : World) : Calls Try.prog 52 #[.int .i64 kind, .int .i64 code] w fun e w' => e = .returned (.bool (ansB kind code)) ∧ w' = w := by
  by_cases k0 : kind = 0
  · subst k0
    by_cases e2 : code = 2
    · subst e2
      rw [show ansB 0 2 = true by simp [ansB]]
      try clear k0
      try clear k1
      go_enter Try.func52, Try.ntmps52
      go_wp2
      go_ret
      exact ⟨rfl, rfl⟩
    · have b2 : (code == 2) = false := by simpa using e2
      by_cases e3 : code = 3
      · subst e3
        rw [show ansB 0 3 = true by simp [ansB]]
        clear b2 e2
        try clear k0
        try clear k1
        go_enter Try.func52, Try.ntmps52
        go_wp2
        go_ret
        exact ⟨rfl, rfl⟩
      · have b3 : (code == 3) = false := by simpa using e3
        rw [show ansB 0 code = false by simp [ansB, e2, e3]]
        clear e2 e3
        try clear k0
        try clear k1
        go_enter Try.func52, Try.ntmps52
        go_wp2
        go_ret
        exact ⟨rfl, rfl⟩
  · have b0 : (kind == 0) = false := by simpa using k0
    by_cases k1 : kind = 1
    · subst k1
      clear b0 k0
      by_cases e4 : code = 4
      · subst e4
        rw [show ansB 1 4 = true by simp [ansB]]
        try clear k0
        try clear k1
        go_enter Try.func52, Try.ntmps52
        go_wp2
        go_ret
        exact ⟨rfl, rfl⟩
      · have b4 : (code == 4) = false := by simpa using e4
        by_cases e5 : code = 5
        · subst e5
          rw [show ansB 1 5 = true by simp [ansB]]
          clear b4 e4
          try clear k0
          try clear k1
          go_enter Try.func52, Try.ntmps52
          go_wp2
          go_ret
          exact ⟨rfl, rfl⟩
        · have b5 : (code == 5) = false := by simpa using e5
          rw [show ansB 1 code = false by simp [ansB, e4, e5]]
          clear e4 e5
          try clear k0
          try clear k1
          go_enter Try.func52, Try.ntmps52
          go_wp2
          go_ret
          exact ⟨rfl, rfl⟩
    · have b1 : (kind == 1) = false := by simpa using k1
      by_cases e4 : code = 4
      · subst e4
        rw [show ansB kind 4 = true by simp [ansB, k0, k1]]
        try clear k0
        try clear k1
        go_enter Try.func52, Try.ntmps52
        go_wp2
        go_ret
        exact ⟨rfl, rfl⟩
      · have b4 : (code == 4) = false := by simpa using e4
        by_cases e5 : code = 5
        · subst e5
          rw [show ansB kind 5 = true by simp [ansB, k0, k1]]
          clear b4 e4
          try clear k0
          try clear k1
          go_enter Try.func52, Try.ntmps52
          go_wp2
          go_ret
          exact ⟨rfl, rfl⟩
        · have b5 : (code == 5) = false := by simpa using e5
          by_cases e6 : code = 6
          · subst e6
            rw [show ansB kind 6 = true by simp [ansB, k0, k1]]
            clear b4 e4 b5 e5
            try clear k0
            try clear k1
            go_enter Try.func52, Try.ntmps52
            go_wp2
            go_ret
            exact ⟨rfl, rfl⟩
          · have b6 : (code == 6) = false := by simpa using e6
            rw [show ansB kind code = false by simp [ansB, k0, k1, e4, e5, e6]]
            clear e4 e5 e6
            try clear k0
            try clear k1
            go_enter Try.func52, Try.ntmps52
            go_wp2
            go_ret
            exact ⟨rfl, rfl⟩

theorem ended_ok (c : Cl) (w : World) : Calls Try.prog 37 #[.agg #[.int .i64 c.who, .int .i64 c.kind, .int .i64 c.arg, .int .i64 c.beg, .int .i64 c.fin, .int .i64 c.code, .int .i64 c.v]] w fun e w' => e = .returned (.bool (decide (c.code ≠ 0))) ∧ Keeps None w w' := by
  by_cases h : c.code = 0
  · have b : (c.code != 0) = false := by simpa using h
    rw [decide_eq_false (fun e => e h)]
    clear h
    go_enter Try.func37, Try.ntmps37
    go_wp2
    go_ret
    exact ⟨rfl, Keeps.alloc None w _⟩
  · have b : (c.code != 0) = true := by simpa using h
    rw [decide_eq_true h]
    clear h
    go_enter Try.func37, Try.ntmps37
    go_wp2
    go_ret
    exact ⟨rfl, Keeps.alloc None w _⟩

theorem ahead_ok (x y : Cl) (w : World) : Calls Try.prog 35 #[.agg #[.int .i64 x.who, .int .i64 x.kind, .int .i64 x.arg, .int .i64 x.beg, .int .i64 x.fin, .int .i64 x.code, .int .i64 x.v], .agg #[.int .i64 y.who, .int .i64 y.kind, .int .i64 y.arg, .int .i64 y.beg, .int .i64 y.fin, .int .i64 y.code, .int .i64 y.v]] w fun e w' => e = .returned (.bool (aheadB x y)) ∧ Keeps None w w' := by
  have hE := ended_ok x ((w.alloc (.cells #[.int .i64 x.who, .int .i64 x.kind, .int .i64 x.arg, .int .i64 x.beg, .int .i64 x.fin, .int .i64 x.code, .int .i64 x.v] 49)).alloc (.cells #[.int .i64 y.who, .int .i64 y.kind, .int .i64 y.arg, .int .i64 y.beg, .int .i64 y.fin, .int .i64 y.code, .int .i64 y.v] 49))
  have hK : Hid (Keeps None w ((w.alloc (.cells #[.int .i64 x.who, .int .i64 x.kind, .int .i64 x.arg, .int .i64 x.beg, .int .i64 x.fin, .int .i64 x.code, .int .i64 x.v] 49)).alloc (.cells #[.int .i64 y.who, .int .i64 y.kind, .int .i64 y.arg, .int .i64 y.beg, .int .i64 y.fin, .int .i64 y.code, .int .i64 y.v] 49))) := ((Keeps.refl None w).andAlloc _).andAlloc _
  by_cases h : x.code = 0
  · rw [decide_eq_false (fun e => e h)] at hE
    rw [show aheadB x y = false by simp [aheadB, h]]
    clear h
    go_enter Try.func35, Try.ntmps35
    go_wp2_with fail
    refine hE.mono ?_
    rintro e w2 ⟨rfl, hk2⟩
    clear hE
    go_wp2
    go_ret
    exact ⟨rfl, hK.out.trans hk2 (fun _ f _ => f)⟩
  · rw [decide_eq_true h] at hE
    by_cases h2 : x.fin < y.beg
    · rw [show aheadB x y = true by simp [aheadB, h, h2]]
      clear h
      go_enter Try.func35, Try.ntmps35
      go_wp2_with fail
      refine hE.mono ?_
      rintro e w2 ⟨rfl, hk2⟩
      have c4 : w2.cell? ⟨w.heap.size, 4, none⟩ = some (.int .i64 x.fin) := hk2.cell (by rw [blk_cell ((Below.heap_alloc _ _ _ (by simp)).trans (blk_new w _ _ rfl))]; rfl) (fun f => f)
      have c3 : w2.cell? ⟨w.heap.size + 1, 3, none⟩ = some (.int .i64 y.beg) := hk2.cell (by rw [blk_cell (blk_new _ _ _ (by simp))]; rfl) (fun f => f)
      clear hE
      go_wp2
      go_ret
      exact ⟨rfl, hK.out.trans hk2 (fun _ f _ => f)⟩
    · rw [show aheadB x y = false by simp [aheadB, h2]]
      clear h
      go_enter Try.func35, Try.ntmps35
      go_wp2_with fail
      refine hE.mono ?_
      rintro e w2 ⟨rfl, hk2⟩
      have c4 : w2.cell? ⟨w.heap.size, 4, none⟩ = some (.int .i64 x.fin) := hk2.cell (by rw [blk_cell ((Below.heap_alloc _ _ _ (by simp)).trans (blk_new w _ _ rfl))]; rfl) (fun f => f)
      have c3 : w2.cell? ⟨w.heap.size + 1, 3, none⟩ = some (.int .i64 y.beg) := hk2.cell (by rw [blk_cell (blk_new _ _ _ (by simp))]; rfl) (fun f => f)
      clear hE
      go_wp2
      go_ret
      exact ⟨by simp; omega, hK.out.trans hk2 (fun _ f _ => f)⟩

theorem rahead_ok (x y : Cl) (w : World) : Calls Try.prog 44 #[.agg #[.int .i64 x.who, .int .i64 x.kind, .int .i64 x.arg, .int .i64 x.beg, .int .i64 x.fin, .int .i64 x.code, .int .i64 x.v], .agg #[.int .i64 y.who, .int .i64 y.kind, .int .i64 y.arg, .int .i64 y.beg, .int .i64 y.fin, .int .i64 y.code, .int .i64 y.v]] w fun e w' => e = .returned (.bool (aheadR x y)) ∧ Keeps None w w' := by
  by_cases h : 0 ≤ x.fin
  · by_cases h2 : x.fin < y.beg
    · rw [show aheadR x y = true by simp [aheadR, h, h2]]
      go_enter Try.func44, Try.ntmps44
      go_wp2
      go_ret
      exact ⟨rfl, ((Keeps.refl None w).andAlloc _).andAlloc _⟩
    · rw [show aheadR x y = false by simp [aheadR, h2]]
      go_enter Try.func44, Try.ntmps44
      go_wp2
      go_ret
      exact ⟨rfl, ((Keeps.refl None w).andAlloc _).andAlloc _⟩
  · rw [show aheadR x y = false by simp [aheadR, h]]
    go_enter Try.func44, Try.ntmps44
    go_wp2
    go_ret
    exact ⟨rfl, ((Keeps.refl None w).andAlloc _).andAlloc _⟩

set_option maxHeartbeats 1600000 in
theorem fits_ok (c : Cl) (w : World) : Calls Try.prog 34 #[.agg #[.int .i64 c.who, .int .i64 c.kind, .int .i64 c.arg, .int .i64 c.beg, .int .i64 c.fin, .int .i64 c.code, .int .i64 c.v]] w fun e w' => e = .returned (.bool (fitsB c)) ∧ Keeps None w w' := by
  have hM := mayMake_ok c.who c.kind (w.alloc (.cells #[.int .i64 c.who, .int .i64 c.kind, .int .i64 c.arg, .int .i64 c.beg, .int .i64 c.fin, .int .i64 c.code, .int .i64 c.v] 49))
  have hA := mayAnswer_ok c.kind c.code
  obtain ⟨M, hMM⟩ : ∃ M, M = mkB c.who c.kind := ⟨_, rfl⟩
  obtain ⟨R, hR⟩ : ∃ R, R = ansB c.kind c.code := ⟨_, rfl⟩
  rw [← hMM] at hM
  rw [← hR] at hA
  obtain ⟨fB, hF⟩ : ∃ fB, fB = fitsB c := ⟨_, rfl⟩
  have hF2 := hF
  unfold fitsB at hF2
  rw [← hMM, ← hR] at hF2
  rw [← hF]
  clear hMM hR hF
  by_cases h0 : c.beg < 0
  · rw [if_pos h0] at hF2
    subst hF2
    clear hA
    go_enter Try.func34, Try.ntmps34
    go_wp2_with (first | (go_at_call 46; refine hM.mono ?_; rintro e w' ⟨rfl, rfl⟩) | (go_at_call 47; refine (hA _).mono ?_; rintro e w' ⟨rfl, rfl⟩))
    go_ret
    exact ⟨rfl, Keeps.alloc None w _⟩
  · rw [if_neg h0] at hF2
    cases M with
    | false =>
      simp only [if_true] at hF2
      subst hF2
      clear hA
      go_enter Try.func34, Try.ntmps34
      go_wp2_with (first | (go_at_call 46; refine hM.mono ?_; rintro e w' ⟨rfl, rfl⟩) | (go_at_call 47; refine (hA _).mono ?_; rintro e w' ⟨rfl, rfl⟩))
      go_ret
      exact ⟨rfl, Keeps.alloc None w _⟩
    | true =>
      simp only [Bool.true_eq_false, if_false] at hF2
      by_cases h1 : c.code = 0
      · rw [if_pos h1] at hF2
        have b1 : (c.code == 0) = true := by simpa using h1
        clear h1 hA
        by_cases h2 : c.fin = -1
        · rw [decide_eq_true h2] at hF2
          have b2 : (c.fin == -1) = true := by simpa using h2
          clear h2
          subst hF2
          go_enter Try.func34, Try.ntmps34
          go_wp2_with (first | (go_at_call 46; refine hM.mono ?_; rintro e w' ⟨rfl, rfl⟩) | (go_at_call 47; refine (hA _).mono ?_; rintro e w' ⟨rfl, rfl⟩))
          go_ret
          exact ⟨rfl, Keeps.alloc None w _⟩
        · rw [decide_eq_false h2] at hF2
          have b2 : (c.fin == -1) = false := by simpa using h2
          clear h2
          subst hF2
          go_enter Try.func34, Try.ntmps34
          go_wp2_with (first | (go_at_call 46; refine hM.mono ?_; rintro e w' ⟨rfl, rfl⟩) | (go_at_call 47; refine (hA _).mono ?_; rintro e w' ⟨rfl, rfl⟩))
          go_ret
          exact ⟨rfl, Keeps.alloc None w _⟩
      · rw [if_neg h1] at hF2
        have b1 : (c.code == 0) = false := by simpa using h1
        clear h1
        by_cases h2 : c.beg ≤ c.fin
        · rw [if_pos h2] at hF2
          subst hF2
          cases fB
          · go_enter Try.func34, Try.ntmps34
            go_wp2_with (first | (go_at_call 46; refine hM.mono ?_; rintro e w' ⟨rfl, rfl⟩) | (go_at_call 47; refine (hA _).mono ?_; rintro e w' ⟨rfl, rfl⟩))
            go_ret
            exact ⟨rfl, Keeps.alloc None w _⟩
          · go_enter Try.func34, Try.ntmps34
            go_wp2_with (first | (go_at_call 46; refine hM.mono ?_; rintro e w' ⟨rfl, rfl⟩) | (go_at_call 47; refine (hA _).mono ?_; rintro e w' ⟨rfl, rfl⟩))
            go_ret
            exact ⟨rfl, Keeps.alloc None w _⟩
        · rw [if_neg h2] at hF2
          subst hF2
          clear hA
          go_enter Try.func34, Try.ntmps34
          go_wp2_with (first | (go_at_call 46; refine hM.mono ?_; rintro e w' ⟨rfl, rfl⟩) | (go_at_call 47; refine (hA _).mono ?_; rintro e w' ⟨rfl, rfl⟩))
          go_ret
          exact ⟨rfl, Keeps.alloc None w _⟩

def singleB (c : Cl) : Bool := if c.who < 0 then false else if 3 < c.who then false else if c.beg < 0 then false else
  if c.who = 0 then (if c.kind = 0 ∨ c.kind = 1 then (if c.fin = -1 then decide (c.code = 0) else if c.beg ≤ c.fin then ansB c.kind c.code else false) else false)
  else if c.kind = 2 then (if c.fin = -1 then decide (c.code = 0) else if c.beg ≤ c.fin then ansB c.kind c.code else false) else false
theorem ansB_zero (kind : Int) : ansB kind 0 = false := by
  unfold ansB
  split
  · rfl
  · split <;> rfl
theorem single_fits (c : Cl) : singleB c = fitsB c := by
  have hz := ansB_zero c.kind
  have key : 0 ≤ c.beg → (if c.fin = -1 then decide (c.code = 0) else if c.beg ≤ c.fin then ansB c.kind c.code else false) = (if c.code = 0 then decide (c.fin = -1) else if c.beg ≤ c.fin then ansB c.kind c.code else false) := by
    intro hb
    by_cases h1 : c.code = 0
    · rw [h1, hz]
      by_cases h2 : c.fin = -1 <;> simp [h2]
    · by_cases h2 : c.fin = -1
      · have : ¬ c.beg ≤ c.fin := by omega
        simp [h1, h2]
        omega
      · simp [h1, h2]
  unfold singleB fitsB mkB
  by_cases h0 : c.who < 0
  · simp only [if_pos h0]
    by_cases hb : c.beg < 0
    · simp [hb]
    · have e1 : ¬ c.who = 0 := by omega
      have e2 : ¬ 1 ≤ c.who := by omega
      simp only [hb, if_false, e1, e2, decide_false, false_and]
      by_cases hk : c.kind = 0 ∨ c.kind = 1 <;> by_cases hk2 : c.kind = 2 <;> simp [hk, hk2]
  · simp only [if_neg h0]
    by_cases h3 : 3 < c.who
    · simp only [if_pos h3]
      by_cases hb : c.beg < 0
      · simp [hb]
      · have e1 : ¬ c.who = 0 := by omega
        have e2 : ¬ c.who < 4 := by omega
        simp only [hb, if_false, e1, e2, decide_false, and_false]
        by_cases hk : c.kind = 0 ∨ c.kind = 1 <;> by_cases hk2 : c.kind = 2 <;> simp [hk, hk2]
    · simp only [if_neg h3]
      by_cases hb : c.beg < 0
      · simp [hb]
      · simp only [if_neg hb]
        rw [key (by omega)]
        by_cases hw : c.who = 0
        · simp only [hw, if_true, decide_true]
          by_cases hk : c.kind = 0 ∨ c.kind = 1
          · simp [hk]
          · by_cases hk2 : c.kind = 2 <;> simp [hk, hk2]
        · simp only [if_neg hw]
          by_cases hk2 : c.kind = 2
          · have e1 : 1 ≤ c.who := by omega
            have e2 : c.who < 4 := by omega
            simp [hk2, e1, e2]
          · by_cases hk : c.kind = 0 ∨ c.kind = 1 <;> simp [hk, hk2, hw]
set_option maxHeartbeats 4000000 in
theorem single_ok (c : Cl) (w : World) : Calls Try.prog 48 #[.agg #[.int .i64 c.who, .int .i64 c.kind, .int .i64 c.arg, .int .i64 c.beg, .int .i64 c.fin, .int .i64 c.code, .int .i64 c.v]] w fun e w' => e = .returned (.bool (fitsB c)) ∧ Keeps None w w' := by
  rw [← single_fits]
  have hA := rmayAnswer_ok c.kind c.code
  obtain ⟨R, hR⟩ : ∃ R, R = ansB c.kind c.code := ⟨_, rfl⟩
  rw [← hR] at hA
  obtain ⟨fB, hF⟩ : ∃ fB, fB = singleB c := ⟨_, rfl⟩
  have hF2 := hF
  unfold singleB at hF2
  rw [← hR] at hF2
  rw [← hF]
  clear hR hF
  by_cases h0 : c.who < 0
  · rw [if_pos h0] at hF2
    subst hF2
    clear hA
    go_enter Try.func48, Try.ntmps48
    go_wp2_with (first | (go_at_call 52; refine (hA _).mono ?_; rintro e w' ⟨rfl, rfl⟩))
    go_ret
    exact ⟨rfl, Keeps.alloc None w _⟩
  · rw [if_neg h0] at hF2
    by_cases h3 : 3 < c.who
    · rw [if_pos h3] at hF2
      subst hF2
      clear hA
      go_enter Try.func48, Try.ntmps48
      go_wp2_with (first | (go_at_call 52; refine (hA _).mono ?_; rintro e w' ⟨rfl, rfl⟩))
      go_ret
      exact ⟨rfl, Keeps.alloc None w _⟩
    · rw [if_neg h3] at hF2
      by_cases hb : c.beg < 0
      · rw [if_pos hb] at hF2
        subst hF2
        clear hA
        go_enter Try.func48, Try.ntmps48
        go_wp2_with (first | (go_at_call 52; refine (hA _).mono ?_; rintro e w' ⟨rfl, rfl⟩))
        go_ret
        exact ⟨rfl, Keeps.alloc None w _⟩
      · rw [if_neg hb] at hF2
        by_cases hw : c.who = 0
        · rw [if_pos hw] at hF2
          have bw : (c.who == 0) = true := by simpa using hw
          have iw : ¬ 0 < c.who := by omega
          clear hw h0 h3
          have h0 : ¬ c.who < 0 := by simp at bw; omega
          have h3 : ¬ 3 < c.who := by simp at bw; omega
          by_cases k0 : c.kind = 0
          · rw [if_pos (.inl k0)] at hF2
            have bk : (c.kind != 0) = false := by simpa using k0
            clear k0
            by_cases h2 : c.fin = -1
            · rw [if_pos h2] at hF2
              have b2 : (c.fin == -1) = true := by simpa using h2
              clear h2 hA
              by_cases h1 : c.code = 0
              · rw [decide_eq_true h1] at hF2
                have b1 : (c.code == 0) = true := by simpa using h1
                clear h1
                subst hF2
                go_enter Try.func48, Try.ntmps48
                go_wp2_with (first | (go_at_call 52; refine (hA _).mono ?_; rintro e w' ⟨rfl, rfl⟩))
                go_ret
                exact ⟨rfl, Keeps.alloc None w _⟩
              · rw [decide_eq_false h1] at hF2
                have b1 : (c.code == 0) = false := by simpa using h1
                clear h1
                subst hF2
                go_enter Try.func48, Try.ntmps48
                go_wp2_with (first | (go_at_call 52; refine (hA _).mono ?_; rintro e w' ⟨rfl, rfl⟩))
                go_ret
                exact ⟨rfl, Keeps.alloc None w _⟩
            · rw [if_neg h2] at hF2
              have b2 : (c.fin == -1) = false := by simpa using h2
              clear h2
              by_cases h1 : c.beg ≤ c.fin
              · rw [if_pos h1] at hF2
                subst hF2
                cases fB
                · go_enter Try.func48, Try.ntmps48
                  go_wp2_with (first | (go_at_call 52; refine (hA _).mono ?_; rintro e w' ⟨rfl, rfl⟩))
                  go_ret
                  exact ⟨rfl, Keeps.alloc None w _⟩
                · go_enter Try.func48, Try.ntmps48
                  go_wp2_with (first | (go_at_call 52; refine (hA _).mono ?_; rintro e w' ⟨rfl, rfl⟩))
                  go_ret
                  exact ⟨rfl, Keeps.alloc None w _⟩
              · rw [if_neg h1] at hF2
                subst hF2
                clear hA
                go_enter Try.func48, Try.ntmps48
                go_wp2_with (first | (go_at_call 52; refine (hA _).mono ?_; rintro e w' ⟨rfl, rfl⟩))
                go_ret
                exact ⟨rfl, Keeps.alloc None w _⟩
          · have bk : (c.kind != 0) = true := by simpa using k0
            by_cases k1 : c.kind = 1
            · rw [if_pos (.inr k1)] at hF2
              have bk1 : (c.kind != 1) = false := by simpa using k1
              clear k0 k1
              by_cases h2 : c.fin = -1
              · rw [if_pos h2] at hF2
                have b2 : (c.fin == -1) = true := by simpa using h2
                clear h2 hA
                by_cases h1 : c.code = 0
                · rw [decide_eq_true h1] at hF2
                  have b1 : (c.code == 0) = true := by simpa using h1
                  clear h1
                  subst hF2
                  go_enter Try.func48, Try.ntmps48
                  go_wp2_with (first | (go_at_call 52; refine (hA _).mono ?_; rintro e w' ⟨rfl, rfl⟩))
                  go_ret
                  exact ⟨rfl, Keeps.alloc None w _⟩
                · rw [decide_eq_false h1] at hF2
                  have b1 : (c.code == 0) = false := by simpa using h1
                  clear h1
                  subst hF2
                  go_enter Try.func48, Try.ntmps48
                  go_wp2_with (first | (go_at_call 52; refine (hA _).mono ?_; rintro e w' ⟨rfl, rfl⟩))
                  go_ret
                  exact ⟨rfl, Keeps.alloc None w _⟩
              · rw [if_neg h2] at hF2
                have b2 : (c.fin == -1) = false := by simpa using h2
                clear h2
                by_cases h1 : c.beg ≤ c.fin
                · rw [if_pos h1] at hF2
                  subst hF2
                  cases fB
                  · go_enter Try.func48, Try.ntmps48
                    go_wp2_with (first | (go_at_call 52; refine (hA _).mono ?_; rintro e w' ⟨rfl, rfl⟩))
                    go_ret
                    exact ⟨rfl, Keeps.alloc None w _⟩
                  · go_enter Try.func48, Try.ntmps48
                    go_wp2_with (first | (go_at_call 52; refine (hA _).mono ?_; rintro e w' ⟨rfl, rfl⟩))
                    go_ret
                    exact ⟨rfl, Keeps.alloc None w _⟩
                · rw [if_neg h1] at hF2
                  subst hF2
                  clear hA
                  go_enter Try.func48, Try.ntmps48
                  go_wp2_with (first | (go_at_call 52; refine (hA _).mono ?_; rintro e w' ⟨rfl, rfl⟩))
                  go_ret
                  exact ⟨rfl, Keeps.alloc None w _⟩
            · have bk1 : (c.kind != 1) = true := by simpa using k1
              rw [if_neg (fun e => e.elim k0 k1)] at hF2
              subst hF2
              clear k0 k1 hA
              go_enter Try.func48, Try.ntmps48
              go_wp2_with (first | (go_at_call 52; refine (hA _).mono ?_; rintro e w' ⟨rfl, rfl⟩))
              go_ret
              exact ⟨rfl, Keeps.alloc None w _⟩
        · rw [if_neg hw] at hF2
          have bw : (c.who == 0) = false := by simpa using hw
          have iw : 0 < c.who := by omega
          clear hw
          by_cases k2 : c.kind = 2
          · rw [if_pos k2] at hF2
            have bk : (c.kind != 2) = false := by simpa using k2
            clear k2
            by_cases h2 : c.fin = -1
            · rw [if_pos h2] at hF2
              have b2 : (c.fin == -1) = true := by simpa using h2
              clear h2 hA
              by_cases h1 : c.code = 0
              · rw [decide_eq_true h1] at hF2
                have b1 : (c.code == 0) = true := by simpa using h1
                clear h1
                subst hF2
                go_enter Try.func48, Try.ntmps48
                go_wp2_with (first | (go_at_call 52; refine (hA _).mono ?_; rintro e w' ⟨rfl, rfl⟩))
                go_ret
                exact ⟨rfl, Keeps.alloc None w _⟩
              · rw [decide_eq_false h1] at hF2
                have b1 : (c.code == 0) = false := by simpa using h1
                clear h1
                subst hF2
                go_enter Try.func48, Try.ntmps48
                go_wp2_with (first | (go_at_call 52; refine (hA _).mono ?_; rintro e w' ⟨rfl, rfl⟩))
                go_ret
                exact ⟨rfl, Keeps.alloc None w _⟩
            · rw [if_neg h2] at hF2
              have b2 : (c.fin == -1) = false := by simpa using h2
              clear h2
              by_cases h1 : c.beg ≤ c.fin
              · rw [if_pos h1] at hF2
                subst hF2
                cases fB
                · go_enter Try.func48, Try.ntmps48
                  go_wp2_with (first | (go_at_call 52; refine (hA _).mono ?_; rintro e w' ⟨rfl, rfl⟩))
                  go_ret
                  exact ⟨rfl, Keeps.alloc None w _⟩
                · go_enter Try.func48, Try.ntmps48
                  go_wp2_with (first | (go_at_call 52; refine (hA _).mono ?_; rintro e w' ⟨rfl, rfl⟩))
                  go_ret
                  exact ⟨rfl, Keeps.alloc None w _⟩
              · rw [if_neg h1] at hF2
                subst hF2
                clear hA
                go_enter Try.func48, Try.ntmps48
                go_wp2_with (first | (go_at_call 52; refine (hA _).mono ?_; rintro e w' ⟨rfl, rfl⟩))
                go_ret
                exact ⟨rfl, Keeps.alloc None w _⟩
          · rw [if_neg k2] at hF2
            have bk : (c.kind != 2) = true := by simpa using k2
            subst hF2
            clear k2 hA
            go_enter Try.func48, Try.ntmps48
            go_wp2_with (first | (go_at_call 52; refine (hA _).mono ?_; rintro e w' ⟨rfl, rfl⟩))
            go_ret
            exact ⟨rfl, Keeps.alloc None w _⟩
end Go.Proofs.Ytheginjjncnheaa
