import Derived.Test.YtokfbagacehbgaaDoorSrMem
import Derived.Test.YtokfbagacehbgaaDoorOpsWalks
import Derived.Deep.RegionHeld3
import Derived.Deep.RegionLaw
/-! Do, of package tasks. -/
namespace Go.Proofs.YtokfbagacehbgaaDoor
set_option linter.unusedVariables false
set_option maxRecDepth 20000
open Go.RowKit Go.HeapKit Go.PlainOps

def doT (t : Tsk) (i : Ins) : Tsk :=
  if i.kind = 0 then t.set i.a.toNat i.k
  else if i.kind = 1 then t.set i.a.toNat (t.regs.getD i.b.toNat 0)
  else if i.kind = 2 then t.set i.a.toNat (workV i.k (t.regs.getD i.b.toNat 0) (t.regs.getD i.c.toNat 0))
  else if i.kind = 3 then { t with at_ := i.a }
  else if i.kind = 4 then (if t.regs.getD i.a.toNat 0 = 0 then t else { t with at_ := i.b })
  else if i.kind = 8 then t.set i.a.toNat t.ped
  else t
theorem do0 (X ty : Nat) (t : Tsk) (rest : List Value) (a : Nat) (b c k : Int) (w : World) (ht : IsTsk w X ty t rest) (ha : a < 16) :
    Calls Tryd.prog 20 #[.pointer (some ⟨X, 0, none⟩), .agg #[.int .i64 0, .int .i64 a, .int .i64 b, .int .i64 c, .int .i64 k]] w fun e w' => e = .returned (.tuple #[]) ∧ IsTsk w' X ty (t.set a k) rest ∧ Keeps (· = X) w w' := by
  have hal := Keeps.alloc None w (.cells #[.int .i64 0, .int .i64 a, .int .i64 b, .int .i64 c, .int .i64 k] 37)
  have h1 := ht.kept hal (fun f => f)
  have c1 := h1.reg ha
  have z1 := h1.free (2 + a)
  have HH : Hid _ := And.intro ((h1.putReg (x := k) ha).kept (Keeps.drew None _) (fun f => f)) ((hal.mono (T := (· = X)) (fun _ f _ => f.elim)).andSet (x := ⟨X, 2 + a, none⟩) (.inl rfl) (.int .i64 (k))).andDrew
  have i1 : (a : Int) < 16 := by omega
  clear ht hal h1
  obtain ⟨x, hx⟩ : ∃ x, x = t.regs.getD a 0 := ⟨_, rfl⟩
  rw [← hx] at c1
  clear hx
  go_enter Tryd.func20, Tryd.ntmps20
  go_wp2_with fail
  go_region
  all_goals go_wp2_with fail
  all_goals go_end0
  all_goals exact ⟨rfl, HH.out⟩
theorem do1 (X ty : Nat) (t : Tsk) (rest : List Value) (a : Nat) (b : Nat) (c k : Int) (w : World) (ht : IsTsk w X ty t rest) (ha : a < 16) (hb : b < 16) :
    Calls Tryd.prog 20 #[.pointer (some ⟨X, 0, none⟩), .agg #[.int .i64 1, .int .i64 a, .int .i64 b, .int .i64 c, .int .i64 k]] w fun e w' => e = .returned (.tuple #[]) ∧ IsTsk w' X ty (t.set a (t.regs.getD b 0)) rest ∧ Keeps (· = X) w w' := by
  have hal := Keeps.alloc None w (.cells #[.int .i64 1, .int .i64 a, .int .i64 b, .int .i64 c, .int .i64 k] 37)
  have h1 := ht.kept hal (fun f => f)
  have c1 := h1.reg ha
  have z1 := h1.free (2 + a)
  have c2 := h1.reg hb
  have i2 : (b : Int) < 16 := by omega
  have HH : Hid _ := And.intro ((h1.putReg (x := t.regs.getD b 0) ha).kept (Keeps.drew None _) (fun f => f)) ((hal.mono (T := (· = X)) (fun _ f _ => f.elim)).andSet (x := ⟨X, 2 + a, none⟩) (.inl rfl) (.int .i64 (t.regs.getD b 0))).andDrew
  have i1 : (a : Int) < 16 := by omega
  clear ht hal h1
  obtain ⟨y, hy⟩ : ∃ y, y = t.regs.getD b 0 := ⟨_, rfl⟩
  obtain ⟨x, hx⟩ : ∃ x, x = t.regs.getD a 0 := ⟨_, rfl⟩
  rw [← hx] at c1
  rw [← hy] at HH c2 ⊢
  clear hx hy
  go_enter Tryd.func20, Tryd.ntmps20
  go_wp2_with fail
  go_region
  all_goals go_wp2_with fail
  all_goals go_end0
  all_goals exact ⟨rfl, HH.out⟩
theorem do8 (X ty : Nat) (t : Tsk) (rest : List Value) (a : Nat) (b c k : Int) (w : World) (ht : IsTsk w X ty t rest) (ha : a < 16) :
    Calls Tryd.prog 20 #[.pointer (some ⟨X, 0, none⟩), .agg #[.int .i64 8, .int .i64 a, .int .i64 b, .int .i64 c, .int .i64 k]] w fun e w' => e = .returned (.tuple #[]) ∧ IsTsk w' X ty (t.set a t.ped) rest ∧ Keeps (· = X) w w' := by
  have hal := Keeps.alloc None w (.cells #[.int .i64 8, .int .i64 a, .int .i64 b, .int .i64 c, .int .i64 k] 37)
  have h1 := ht.kept hal (fun f => f)
  have c1 := h1.reg ha
  have z1 := h1.free (2 + a)
  have c2 := h1.ped
  have HH : Hid _ := And.intro ((h1.putReg (x := t.ped) ha).kept (Keeps.drew None _) (fun f => f)) ((hal.mono (T := (· = X)) (fun _ f _ => f.elim)).andSet (x := ⟨X, 2 + a, none⟩) (.inl rfl) (.int .i64 t.ped)).andDrew
  have i1 : (a : Int) < 16 := by omega
  clear ht hal h1
  obtain ⟨x, hx⟩ : ∃ x, x = t.regs.getD a 0 := ⟨_, rfl⟩
  rw [← hx] at c1
  clear hx
  go_enter Tryd.func20, Tryd.ntmps20
  go_wp2_with fail
  go_region
  all_goals go_wp2_with fail
  all_goals go_end0
  all_goals exact ⟨rfl, HH.out⟩
theorem do3 (X ty : Nat) (t : Tsk) (rest : List Value) (a b c k : Int) (w : World) (ht : IsTsk w X ty t rest) :
    Calls Tryd.prog 20 #[.pointer (some ⟨X, 0, none⟩), .agg #[.int .i64 3, .int .i64 a, .int .i64 b, .int .i64 c, .int .i64 k]] w fun e w' => e = .returned (.tuple #[]) ∧ IsTsk w' X ty { t with at_ := a } rest ∧ Keeps (· = X) w w' := by
  have hal := Keeps.alloc None w (.cells #[.int .i64 3, .int .i64 a, .int .i64 b, .int .i64 c, .int .i64 k] 37)
  have h1 := ht.kept hal (fun f => f)
  have c1 := h1.at
  have z1 := h1.free 1
  have HH : Hid _ := And.intro (h1.putAt (x := a)) ((hal.mono (T := (· = X)) (fun _ f _ => f.elim)).andSet (x := ⟨X, 1, none⟩) (.inl rfl) (.int .i64 a))
  clear ht hal h1
  go_enter Tryd.func20, Tryd.ntmps20
  go_wp2_with fail
  go_end0
  exact ⟨rfl, HH.out⟩
theorem do4 (X ty : Nat) (t : Tsk) (rest : List Value) (a : Nat) (b c k : Int) (w : World) (ht : IsTsk w X ty t rest) (ha : a < 16) :
    Calls Tryd.prog 20 #[.pointer (some ⟨X, 0, none⟩), .agg #[.int .i64 4, .int .i64 a, .int .i64 b, .int .i64 c, .int .i64 k]] w fun e w' => e = .returned (.tuple #[]) ∧ IsTsk w' X ty (if t.regs.getD a 0 = 0 then t else { t with at_ := b }) rest ∧ Keeps (· = X) w w' := by
  have hal := Keeps.alloc None w (.cells #[.int .i64 4, .int .i64 a, .int .i64 b, .int .i64 c, .int .i64 k] 37)
  have h1 := ht.kept hal (fun f => f)
  have c1 := h1.at
  have c2 := h1.reg ha
  have z1 := h1.free 1
  have i1 : (a : Int) < 16 := by omega
  obtain ⟨x, hx⟩ : ∃ x, x = t.regs.getD a 0 := ⟨_, rfl⟩
  rw [← hx] at c2 ⊢
  clear hx
  by_cases h0 : x = 0
  · subst h0
    have HH : Hid _ := And.intro (h1.kept (Keeps.drew None _) (fun f => f)) (hal.mono (T := (· = X)) (fun _ f _ => f.elim)).andDrew
    rw [if_pos rfl]
    clear ht hal h1
    go_enter Tryd.func20, Tryd.ntmps20
    go_wp2_with fail
    go_region
    all_goals go_wp2_with fail
    all_goals go_end0
    all_goals exact ⟨rfl, HH.out⟩
  · have HH : Hid _ := And.intro ((h1.kept (Keeps.drew None _) (fun f => f)).putAt (x := b)) ((hal.mono (T := (· = X)) (fun _ f _ => f.elim)).andDrew.andSet (x := ⟨X, 1, none⟩) (.inl rfl) (.int .i64 b))
    have h0' : (x != 0) = true := by simpa using h0
    rw [if_neg h0]
    clear ht hal h1 h0
    go_enter Tryd.func20, Tryd.ntmps20
    go_wp2_with fail
    go_region
    all_goals go_wp2_with fail
    all_goals go_end0
    all_goals exact ⟨rfl, HH.out⟩
end Go.Proofs.YtokfbagacehbgaaDoor
