import Derived.Test.YtbdpdojeaahpjaaGreatDoorProg
import Derived.WalkKit
import Derived.WalkSpells
import Derived.WalkLawsBesides
import Derived.Test.YtbdpdojeaahpjaaGreatDoorPkAC
import Derived.Deep.RegionHeld3
import Derived.Deep.RegionLaw
/-! The contracts of package ops' functions without memory: each returns what its plain function says, and the world stands. -/
namespace Go.Proofs.YtbdpdojeaahpjaaGreatDoor
open Go.RowKit Go.PlainOps

set_option maxHeartbeats 400000 in
theorem isOp_any (op : Int) (w : World) : Calls Tryz.prog 56 #[.int .i64 op] w fun e w' => e = .returned (.bool (isOpV op)) ∧ w' = w := by
  by_cases h1 : 0 ≤ op
  · by_cases h2 : op < 16
    · go_enter Tryz.func56, Tryz.ntmps56
      go_wp2
      go_ret
      exact ⟨by simp [isOpV, h1, h2], rfl⟩
    · go_enter Tryz.func56, Tryz.ntmps56
      go_wp2
      go_ret
      exact ⟨by simp [isOpV, h2], rfl⟩
  · go_enter Tryz.func56, Tryz.ntmps56
    go_wp2
    go_ret
    exact ⟨by simp [isOpV]; omega, rfl⟩

theorem shift_any (x : Int) (w : World) : Calls Tryz.prog 76 #[.int .i64 x] w fun e w' => e = .returned (.int .u64 (x % 64)) ∧ w' = w := by
  have h0 : 0 ≤ x % 64 := by omega
  have h1 : x % 64 < 64 := by omega
  have hb := and63 x
  go_enter Tryz.func76, Tryz.ntmps76
  go_wp2
  go_ret
  exact ⟨rfl, rfl⟩

set_option maxHeartbeats 400000 in
theorem number_any (x : Bool) (w : World) : Calls Tryz.prog 77 #[.bool x] w fun e w' => e = .returned (.int .i64 (truthV x)) ∧ w' = w := by
  cases x
  all_goals
    go_enter Tryz.func77, Tryz.ntmps77
    go_wp2
    go_ret
    exact ⟨rfl, rfl⟩
set_option maxHeartbeats 400000 in
theorem quotient_any (a b : Int) (w : World) : Calls Tryz.prog 74 #[.int .i64 a, .int .i64 b] w fun e w' => e = .returned (.int .i64 (quotV a b)) ∧ w' = w := by
  by_cases h : b = 0
  · subst h
    go_enter Tryz.func74, Tryz.ntmps74
    go_wp2
    go_ret
    exact ⟨rfl, rfl⟩
  · have h' : (b == 0) = false := by simpa using h
    have H : Hid (¬ b = 0) := h; clear h
    go_enter Tryz.func74, Tryz.ntmps74
    go_wp2
    go_ret
    exact ⟨by simp [quotV, H.out], rfl⟩
set_option maxHeartbeats 400000 in
theorem remainder_any (a b : Int) (w : World) : Calls Tryz.prog 75 #[.int .i64 a, .int .i64 b] w fun e w' => e = .returned (.int .i64 (remV a b)) ∧ w' = w := by
  by_cases h : b = 0
  · subst h
    go_enter Tryz.func75, Tryz.ntmps75
    go_wp2
    go_ret
    exact ⟨rfl, rfl⟩
  · have h' : (b == 0) = false := by simpa using h
    have H : Hid (¬ b = 0) := h; clear h
    go_enter Tryz.func75, Tryz.ntmps75
    go_wp2
    go_ret
    exact ⟨by simp [remV, H.out], rfl⟩

section
set_option maxHeartbeats 400000
theorem work0 (a b : Int) (w : World) : Calls Tryz.prog 57 #[.int .i64 0, .int .i64 a, .int .i64 b] w fun e w' => e = .returned (.int .i64 (wrap64 (a + b))) ∧ w' = w := by
  go_enter Tryz.func57, Tryz.ntmps57
  go_wp2
  go_ret
  exact ⟨rfl, rfl⟩
theorem work1 (a b : Int) (w : World) : Calls Tryz.prog 57 #[.int .i64 1, .int .i64 a, .int .i64 b] w fun e w' => e = .returned (.int .i64 (wrap64 (a - b))) ∧ w' = w := by
  go_enter Tryz.func57, Tryz.ntmps57
  go_wp2
  go_ret
  exact ⟨rfl, rfl⟩
theorem work2 (a b : Int) (w : World) : Calls Tryz.prog 57 #[.int .i64 2, .int .i64 a, .int .i64 b] w fun e w' => e = .returned (.int .i64 (wrap64 (a * b))) ∧ w' = w := by
  go_enter Tryz.func57, Tryz.ntmps57
  go_wp2
  go_ret
  exact ⟨rfl, rfl⟩
theorem work3 (a b : Int) (w : World) : Calls Tryz.prog 57 #[.int .i64 3, .int .i64 a, .int .i64 b] w fun e w' => e = .returned (.int .i64 (quotV a b)) ∧ w' = w := by
  go_enter Tryz.func57, Tryz.ntmps57
  go_wp2_with (go_at_call 74; refine (quotient_any _ _ _).mono ?_; rintro e w' ⟨rfl, rfl⟩)
  go_ret
  exact ⟨rfl, rfl⟩
theorem work4 (a b : Int) (w : World) : Calls Tryz.prog 57 #[.int .i64 4, .int .i64 a, .int .i64 b] w fun e w' => e = .returned (.int .i64 (remV a b)) ∧ w' = w := by
  go_enter Tryz.func57, Tryz.ntmps57
  go_wp2_with (go_at_call 75; refine (remainder_any _ _ _).mono ?_; rintro e w' ⟨rfl, rfl⟩)
  go_ret
  exact ⟨rfl, rfl⟩
theorem work5 (a b : Int) (w : World) : Calls Tryz.prog 57 #[.int .i64 5, .int .i64 a, .int .i64 b] w fun e w' => e = .returned (.int .i64 (bits .and .i64 a b)) ∧ w' = w := by
  go_enter Tryz.func57, Tryz.ntmps57
  go_wp2
  go_ret
  exact ⟨rfl, rfl⟩
theorem work6 (a b : Int) (w : World) : Calls Tryz.prog 57 #[.int .i64 6, .int .i64 a, .int .i64 b] w fun e w' => e = .returned (.int .i64 (bits .or .i64 a b)) ∧ w' = w := by
  go_enter Tryz.func57, Tryz.ntmps57
  go_wp2
  go_ret
  exact ⟨rfl, rfl⟩
theorem work7 (a b : Int) (w : World) : Calls Tryz.prog 57 #[.int .i64 7, .int .i64 a, .int .i64 b] w fun e w' => e = .returned (.int .i64 (bits .xor .i64 a b)) ∧ w' = w := by
  go_enter Tryz.func57, Tryz.ntmps57
  go_wp2
  go_ret
  exact ⟨rfl, rfl⟩
theorem work8 (a b : Int) (w : World) : Calls Tryz.prog 57 #[.int .i64 8, .int .i64 a, .int .i64 b] w fun e w' => e = .returned (.int .i64 (shlV a b)) ∧ w' = w := by
  have h0 : 0 ≤ b % 64 := by omega
  have h1 : b % 64 < 64 := by omega
  go_enter Tryz.func57, Tryz.ntmps57
  go_wp2_with (go_at_call 76; refine (shift_any _ _).mono ?_; rintro e w' ⟨rfl, rfl⟩)
  go_ret
  exact ⟨rfl, rfl⟩
theorem work9 (a b : Int) (w : World) : Calls Tryz.prog 57 #[.int .i64 9, .int .i64 a, .int .i64 b] w fun e w' => e = .returned (.int .i64 (shrV a b)) ∧ w' = w := by
  have h0 : 0 ≤ b % 64 := by omega
  have h1 : b % 64 < 64 := by omega
  go_enter Tryz.func57, Tryz.ntmps57
  go_wp2_with (go_at_call 76; refine (shift_any _ _).mono ?_; rintro e w' ⟨rfl, rfl⟩)
  go_ret
  exact ⟨rfl, rfl⟩
theorem work10 (a b : Int) (w : World) : Calls Tryz.prog 57 #[.int .i64 10, .int .i64 a, .int .i64 b] w fun e w' => e = .returned (.int .i64 (minV a b)) ∧ w' = w := by
  unfold minV
  by_cases h : b < a
  · rw [if_pos h]
    go_enter Tryz.func57, Tryz.ntmps57
    go_wp2
    go_ret
    exact ⟨rfl, rfl⟩
  · rw [if_neg h]
    go_enter Tryz.func57, Tryz.ntmps57
    go_wp2
    go_ret
    exact ⟨rfl, rfl⟩
theorem work11 (a b : Int) (w : World) : Calls Tryz.prog 57 #[.int .i64 11, .int .i64 a, .int .i64 b] w fun e w' => e = .returned (.int .i64 (maxV a b)) ∧ w' = w := by
  unfold maxV
  by_cases h : a < b
  · rw [if_pos h]
    go_enter Tryz.func57, Tryz.ntmps57
    go_wp2
    go_ret
    exact ⟨rfl, rfl⟩
  · rw [if_neg h]
    go_enter Tryz.func57, Tryz.ntmps57
    go_wp2
    go_ret
    exact ⟨rfl, rfl⟩
theorem work12 (a b : Int) (w : World) : Calls Tryz.prog 57 #[.int .i64 12, .int .i64 a, .int .i64 b] w fun e w' => e = .returned (.int .i64 (truthV (decide (a < b)))) ∧ w' = w := by
  go_enter Tryz.func57, Tryz.ntmps57
  go_wp2_with (go_at_call 77; refine (number_any _ _).mono ?_; rintro e w' ⟨rfl, rfl⟩)
  go_ret
  exact ⟨rfl, rfl⟩
theorem work13 (a b : Int) (w : World) : Calls Tryz.prog 57 #[.int .i64 13, .int .i64 a, .int .i64 b] w fun e w' => e = .returned (.int .i64 (truthV (decide (a ≤ b)))) ∧ w' = w := by
  go_enter Tryz.func57, Tryz.ntmps57
  go_wp2_with (go_at_call 77; refine (number_any _ _).mono ?_; rintro e w' ⟨rfl, rfl⟩)
  go_ret
  exact ⟨rfl, rfl⟩
theorem work14 (a b : Int) (w : World) : Calls Tryz.prog 57 #[.int .i64 14, .int .i64 a, .int .i64 b] w fun e w' => e = .returned (.int .i64 (truthV (a == b))) ∧ w' = w := by
  go_enter Tryz.func57, Tryz.ntmps57
  go_wp2_with (go_at_call 77; refine (number_any _ _).mono ?_; rintro e w' ⟨rfl, rfl⟩)
  go_ret
  exact ⟨rfl, rfl⟩
theorem work15 (a b : Int) (w : World) : Calls Tryz.prog 57 #[.int .i64 15, .int .i64 a, .int .i64 b] w fun e w' => e = .returned (.int .i64 (truthV (a != b))) ∧ w' = w := by
  go_enter Tryz.func57, Tryz.ntmps57
  go_wp2_with (go_at_call 77; refine (number_any _ _).mono ?_; rintro e w' ⟨rfl, rfl⟩)
  go_ret
  exact ⟨rfl, rfl⟩
theorem work_any (op a b : Int) (w : World) (h : isOpV op = true) : Calls Tryz.prog 57 #[.int .i64 op, .int .i64 a, .int .i64 b] w fun e w' => e = .returned (.int .i64 (workV op a b)) ∧ w' = w := by
  have h : 0 ≤ op ∧ op < 16 := by simpa [isOpV] using h
  have hc : op = 0 ∨ op = 1 ∨ op = 2 ∨ op = 3 ∨ op = 4 ∨ op = 5 ∨ op = 6 ∨ op = 7 ∨ op = 8 ∨ op = 9 ∨ op = 10 ∨ op = 11 ∨ op = 12 ∨ op = 13 ∨ op = 14 ∨ op = 15 := by omega
  rcases hc with rfl | rfl | rfl | rfl | rfl | rfl | rfl | rfl | rfl | rfl | rfl | rfl | rfl | rfl | rfl | rfl
  · exact work0 a b w
  · exact work1 a b w
  · exact work2 a b w
  · exact work3 a b w
  · exact work4 a b w
  · exact work5 a b w
  · exact work6 a b w
  · exact work7 a b w
  · exact work8 a b w
  · exact work9 a b w
  · exact work10 a b w
  · exact work11 a b w
  · exact work12 a b w
  · exact work13 a b w
  · exact work14 a b w
  · exact work15 a b w

/-- Apply: an operation's value and OK; else 0 and ErrOp (10). -/
theorem apply_any (op a b : Int) (w : World) (h : isOpV op = true) : Calls Tryz.prog 44 #[.int .i64 op, .int .i64 a, .int .i64 b] w fun e w' => e = .returned (.tuple #[.int .i64 (workV op a b), .int .i64 0]) ∧ w' = w := by
  have H : Hid (isOpV op = true) := h
  go_enter Tryz.func44, Tryz.ntmps44
  go_wp2_with (first | (go_at_call 56; refine (isOp_any _ _).mono ?_; rintro e w' ⟨rfl, rfl⟩) | (go_at_call 57; refine (work_any _ _ _ _ H.out).mono ?_; rintro e w' ⟨rfl, rfl⟩))
  go_ret2
  exact ⟨rfl, rfl⟩
theorem apply_not (op a b : Int) (w : World) (h : isOpV op = false) : Calls Tryz.prog 44 #[.int .i64 op, .int .i64 a, .int .i64 b] w fun e w' => e = .returned (.tuple #[.int .i64 0, .int .i64 10]) ∧ w' = w := by
  go_enter Tryz.func44, Tryz.ntmps44
  go_wp2_with (go_at_call 56; refine (isOp_any _ _).mono ?_; rintro e w' ⟨rfl, rfl⟩)
  go_ret2
  exact ⟨rfl, rfl⟩
end
end Go.Proofs.YtbdpdojeaahpjaaGreatDoor
/-! Do, of package tasks. -/
namespace Go.Proofs.YtbdpdojeaahpjaaGreatDoor
set_option linter.unusedVariables false
set_option maxRecDepth 20000
open Go.RowKit Go.HeapKit Go.PlainOps

def doT (t : Tsk) (i : Ins) : Tsk :=
  if i.kind = 0 then t.set i.a.toNat i.k
  else if i.kind = 1 then t.set i.a.toNat (t.regs.getD i.b.toNat 0)
  else if i.kind = 2 then t.set i.a.toNat (workV i.k (t.regs.getD i.b.toNat 0) (t.regs.getD i.c.toNat 0))
  else if i.kind = 3 then { t with at_ := i.a }
  else if i.kind = 4 then (if t.regs.getD i.a.toNat 0 = 0 then t else { t with at_ := i.b })
  else if i.kind = 8 then t.set i.a.toNat t.ped
  else t
theorem do0 (X ty : Nat) (t : Tsk) (rest : List Value) (a : Nat) (b c k : Int) (w : World) (ht : IsTsk w X ty t rest) (ha : a < 16) :
    Calls Tryz.prog 31 #[.pointer (some ⟨X, 0, none⟩), .agg #[.int .i64 0, .int .i64 a, .int .i64 b, .int .i64 c, .int .i64 k]] w fun e w' => e = .returned (.tuple #[]) ∧ IsTsk w' X ty (t.set a k) rest ∧ Keeps (· = X) w w' := by
  have hal := Keeps.alloc None w (.cells #[.int .i64 0, .int .i64 a, .int .i64 b, .int .i64 c, .int .i64 k] 37)
  have h1 := ht.kept hal (fun f => f)
  have c1 := h1.reg ha
  have z1 := h1.free (2 + a)
  have HH : Hid _ := And.intro ((h1.putReg (x := k) ha).kept (Keeps.drew None _) (fun f => f)) ((hal.mono (T := (· = X)) (fun _ f _ => f.elim)).andSet (x := ⟨X, 2 + a, none⟩) (.inl rfl) (.int .i64 (k))).andDrew
  have i1 : (a : Int) < 16 := by omega
  clear ht hal h1
  obtain ⟨x, hx⟩ : ∃ x, x = t.regs.getD a 0 := ⟨_, rfl⟩
  rw [← hx] at c1
  clear hx
  go_enter Tryz.func31, Tryz.ntmps31
  go_wp2_with fail
  go_region
  all_goals go_wp2_with fail
  all_goals go_end0
  all_goals exact ⟨rfl, HH.out⟩
theorem do1 (X ty : Nat) (t : Tsk) (rest : List Value) (a : Nat) (b : Nat) (c k : Int) (w : World) (ht : IsTsk w X ty t rest) (ha : a < 16) (hb : b < 16) :
    Calls Tryz.prog 31 #[.pointer (some ⟨X, 0, none⟩), .agg #[.int .i64 1, .int .i64 a, .int .i64 b, .int .i64 c, .int .i64 k]] w fun e w' => e = .returned (.tuple #[]) ∧ IsTsk w' X ty (t.set a (t.regs.getD b 0)) rest ∧ Keeps (· = X) w w' := by
  have hal := Keeps.alloc None w (.cells #[.int .i64 1, .int .i64 a, .int .i64 b, .int .i64 c, .int .i64 k] 37)
  have h1 := ht.kept hal (fun f => f)
  have c1 := h1.reg ha
  have z1 := h1.free (2 + a)
  have c2 := h1.reg hb
  have i2 : (b : Int) < 16 := by omega
  have HH : Hid _ := And.intro ((h1.putReg (x := t.regs.getD b 0) ha).kept (Keeps.drew None _) (fun f => f)) ((hal.mono (T := (· = X)) (fun _ f _ => f.elim)).andSet (x := ⟨X, 2 + a, none⟩) (.inl rfl) (.int .i64 (t.regs.getD b 0))).andDrew
  have i1 : (a : Int) < 16 := by omega
  clear ht hal h1
  obtain ⟨y, hy⟩ : ∃ y, y = t.regs.getD b 0 := ⟨_, rfl⟩
  obtain ⟨x, hx⟩ : ∃ x, x = t.regs.getD a 0 := ⟨_, rfl⟩
  rw [← hx] at c1
  rw [← hy] at HH c2 ⊢
  clear hx hy
  go_enter Tryz.func31, Tryz.ntmps31
  go_wp2_with fail
  go_region
  all_goals go_wp2_with fail
  all_goals go_end0
  all_goals exact ⟨rfl, HH.out⟩
theorem do8 (X ty : Nat) (t : Tsk) (rest : List Value) (a : Nat) (b c k : Int) (w : World) (ht : IsTsk w X ty t rest) (ha : a < 16) :
    Calls Tryz.prog 31 #[.pointer (some ⟨X, 0, none⟩), .agg #[.int .i64 8, .int .i64 a, .int .i64 b, .int .i64 c, .int .i64 k]] w fun e w' => e = .returned (.tuple #[]) ∧ IsTsk w' X ty (t.set a t.ped) rest ∧ Keeps (· = X) w w' := by
  have hal := Keeps.alloc None w (.cells #[.int .i64 8, .int .i64 a, .int .i64 b, .int .i64 c, .int .i64 k] 37)
  have h1 := ht.kept hal (fun f => f)
  have c1 := h1.reg ha
  have z1 := h1.free (2 + a)
  have c2 := h1.ped
  have HH : Hid _ := And.intro ((h1.putReg (x := t.ped) ha).kept (Keeps.drew None _) (fun f => f)) ((hal.mono (T := (· = X)) (fun _ f _ => f.elim)).andSet (x := ⟨X, 2 + a, none⟩) (.inl rfl) (.int .i64 t.ped)).andDrew
  have i1 : (a : Int) < 16 := by omega
  clear ht hal h1
  obtain ⟨x, hx⟩ : ∃ x, x = t.regs.getD a 0 := ⟨_, rfl⟩
  rw [← hx] at c1
  clear hx
  go_enter Tryz.func31, Tryz.ntmps31
  go_wp2_with fail
  go_region
  all_goals go_wp2_with fail
  all_goals go_end0
  all_goals exact ⟨rfl, HH.out⟩
theorem do3 (X ty : Nat) (t : Tsk) (rest : List Value) (a b c k : Int) (w : World) (ht : IsTsk w X ty t rest) :
    Calls Tryz.prog 31 #[.pointer (some ⟨X, 0, none⟩), .agg #[.int .i64 3, .int .i64 a, .int .i64 b, .int .i64 c, .int .i64 k]] w fun e w' => e = .returned (.tuple #[]) ∧ IsTsk w' X ty { t with at_ := a } rest ∧ Keeps (· = X) w w' := by
  have hal := Keeps.alloc None w (.cells #[.int .i64 3, .int .i64 a, .int .i64 b, .int .i64 c, .int .i64 k] 37)
  have h1 := ht.kept hal (fun f => f)
  have c1 := h1.at
  have z1 := h1.free 1
  have HH : Hid _ := And.intro (h1.putAt (x := a)) ((hal.mono (T := (· = X)) (fun _ f _ => f.elim)).andSet (x := ⟨X, 1, none⟩) (.inl rfl) (.int .i64 a))
  clear ht hal h1
  go_enter Tryz.func31, Tryz.ntmps31
  go_wp2_with fail
  go_end0
  exact ⟨rfl, HH.out⟩
theorem do4 (X ty : Nat) (t : Tsk) (rest : List Value) (a : Nat) (b c k : Int) (w : World) (ht : IsTsk w X ty t rest) (ha : a < 16) :
    Calls Tryz.prog 31 #[.pointer (some ⟨X, 0, none⟩), .agg #[.int .i64 4, .int .i64 a, .int .i64 b, .int .i64 c, .int .i64 k]] w fun e w' => e = .returned (.tuple #[]) ∧ IsTsk w' X ty (if t.regs.getD a 0 = 0 then t else { t with at_ := b }) rest ∧ Keeps (· = X) w w' := by
  have hal := Keeps.alloc None w (.cells #[.int .i64 4, .int .i64 a, .int .i64 b, .int .i64 c, .int .i64 k] 37)
  have h1 := ht.kept hal (fun f => f)
  have c1 := h1.at
  have c2 := h1.reg ha
  have z1 := h1.free 1
  have i1 : (a : Int) < 16 := by omega
  obtain ⟨x, hx⟩ : ∃ x, x = t.regs.getD a 0 := ⟨_, rfl⟩
  rw [← hx] at c2 ⊢
  clear hx
  by_cases h0 : x = 0
  · subst h0
    have HH : Hid _ := And.intro (h1.kept (Keeps.drew None _) (fun f => f)) (hal.mono (T := (· = X)) (fun _ f _ => f.elim)).andDrew
    rw [if_pos rfl]
    clear ht hal h1
    go_enter Tryz.func31, Tryz.ntmps31
    go_wp2_with fail
    go_region
    all_goals go_wp2_with fail
    all_goals go_end0
    all_goals exact ⟨rfl, HH.out⟩
  · have HH : Hid _ := And.intro ((h1.kept (Keeps.drew None _) (fun f => f)).putAt (x := b)) ((hal.mono (T := (· = X)) (fun _ f _ => f.elim)).andDrew.andSet (x := ⟨X, 1, none⟩) (.inl rfl) (.int .i64 b))
    have h0' : (x != 0) = true := by simpa using h0
    rw [if_neg h0]
    clear ht hal h1 h0
    go_enter Tryz.func31, Tryz.ntmps31
    go_wp2_with fail
    go_region
    all_goals go_wp2_with fail
    all_goals go_end0
    all_goals exact ⟨rfl, HH.out⟩
end Go.Proofs.YtbdpdojeaahpjaaGreatDoor
