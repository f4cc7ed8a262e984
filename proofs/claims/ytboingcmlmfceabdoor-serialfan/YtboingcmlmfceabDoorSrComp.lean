import Derived.Test.YtboingcmlmfceabDoorSrEnter3
import Derived.Test.YtboingcmlmfceabDoorOpsWalks
/-! compute. -/
namespace Go.Proofs.YtboingcmlmfceabDoor
set_option linter.unusedVariables false
set_option maxRecDepth 20000
open Go.RowKit Go.HeapKit Go.PlainOps

theorem comp0 (X : Nat) (t : Tk) (a : Nat) (b c k : Int) (w : World) (ht : IsTk w X t) (ha : a < 16) :
    Calls Tryd.prog 38 #[.pointer (some ⟨X, 0, none⟩), .agg #[.int .i64 0, .int .i64 a, .int .i64 b, .int .i64 c, .int .i64 k]] w fun e w' => e = .returned (.tuple #[]) ∧ IsTk w' X (setR t a (k)) ∧ Keeps (· = X) w w' := by
  have hal := Keeps.alloc None w (.cells #[.int .i64 0, .int .i64 a, .int .i64 b, .int .i64 c, .int .i64 k] 54)
  have h1 := ht.kept hal (fun f => f)
  have c1 := h1.reg ha
  have z1 := h1.free a
  have HH : Hid _ := And.intro ((h1.putReg (x := k) ha).kept (Keeps.drew None _) (fun f => f)) ((hal.mono (T := (· = X)) (fun _ f _ => f.elim)).andSet (x := ⟨X, a, none⟩) (.inl rfl) (.int .i64 (k))).andDrew
  have i1 : (a : Int) < 16 := by omega
  clear ht hal h1
  obtain ⟨x, hx⟩ : ∃ x, x = t.regs.getD a 0 := ⟨_, rfl⟩
  rw [← hx] at c1
  clear hx
  go_enter Tryd.func38, Tryd.ntmps38
  go_wp2_with fail
  go_region
  all_goals go_wp2_with fail
  all_goals go_end0
  all_goals exact ⟨rfl, HH.out⟩
theorem comp1 (X : Nat) (t : Tk) (a : Nat) (b : Nat) (c k : Int) (w : World) (ht : IsTk w X t) (ha : a < 16) (hb : b < 16) :
    Calls Tryd.prog 38 #[.pointer (some ⟨X, 0, none⟩), .agg #[.int .i64 1, .int .i64 a, .int .i64 b, .int .i64 c, .int .i64 k]] w fun e w' => e = .returned (.tuple #[]) ∧ IsTk w' X (setR t a (t.regs.getD b 0)) ∧ Keeps (· = X) w w' := by
  have hal := Keeps.alloc None w (.cells #[.int .i64 1, .int .i64 a, .int .i64 b, .int .i64 c, .int .i64 k] 54)
  have h1 := ht.kept hal (fun f => f)
  have c1 := h1.reg ha
  have z1 := h1.free a
  have c2 := h1.reg hb
  have i2 : (b : Int) < 16 := by omega
  have HH : Hid _ := And.intro ((h1.putReg (x := t.regs.getD b 0) ha).kept (Keeps.drew None _) (fun f => f)) ((hal.mono (T := (· = X)) (fun _ f _ => f.elim)).andSet (x := ⟨X, a, none⟩) (.inl rfl) (.int .i64 (t.regs.getD b 0))).andDrew
  have i1 : (a : Int) < 16 := by omega
  clear ht hal h1
  obtain ⟨y, hy⟩ : ∃ y, y = t.regs.getD b 0 := ⟨_, rfl⟩
  obtain ⟨x, hx⟩ : ∃ x, x = t.regs.getD a 0 := ⟨_, rfl⟩
  rw [← hx] at c1
  rw [← hy] at HH c2 ⊢
  clear hx hy
  go_enter Tryd.func38, Tryd.ntmps38
  go_wp2_with fail
  go_region
  all_goals go_wp2_with fail
  all_goals go_end0
  all_goals exact ⟨rfl, HH.out⟩
theorem comp7 (X : Nat) (t : Tk) (a : Nat) (b : Nat) (c k : Int) (w : World) (ht : IsTk w X t) (ha : a < 16) (hb : b < 8) :
    Calls Tryd.prog 38 #[.pointer (some ⟨X, 0, none⟩), .agg #[.int .i64 7, .int .i64 a, .int .i64 b, .int .i64 c, .int .i64 k]] w fun e w' => e = .returned (.tuple #[]) ∧ IsTk w' X (setR t a (t.slots.getD b 0)) ∧ Keeps (· = X) w w' := by
  have hal := Keeps.alloc None w (.cells #[.int .i64 7, .int .i64 a, .int .i64 b, .int .i64 c, .int .i64 k] 54)
  have h1 := ht.kept hal (fun f => f)
  have c1 := h1.reg ha
  have z1 := h1.free a
  have c2 := h1.slot hb
  have i2 : (b : Int) < 8 := by omega
  have HH : Hid _ := And.intro ((h1.putReg (x := t.slots.getD b 0) ha).kept (Keeps.drew None _) (fun f => f)) ((hal.mono (T := (· = X)) (fun _ f _ => f.elim)).andSet (x := ⟨X, a, none⟩) (.inl rfl) (.int .i64 (t.slots.getD b 0))).andDrew
  have i1 : (a : Int) < 16 := by omega
  clear ht hal h1
  obtain ⟨y, hy⟩ : ∃ y, y = t.slots.getD b 0 := ⟨_, rfl⟩
  obtain ⟨x, hx⟩ : ∃ x, x = t.regs.getD a 0 := ⟨_, rfl⟩
  rw [← hx] at c1
  rw [← hy] at HH c2 ⊢
  clear hx hy
  go_enter Tryd.func38, Tryd.ntmps38
  go_wp2_with fail
  go_region
  all_goals go_wp2_with fail
  all_goals go_end0
  all_goals exact ⟨rfl, HH.out⟩
theorem comp8 (X : Nat) (t : Tk) (a : Nat) (b c k : Int) (w : World) (ht : IsTk w X t) (ha : a < 16) :
    Calls Tryd.prog 38 #[.pointer (some ⟨X, 0, none⟩), .agg #[.int .i64 8, .int .i64 a, .int .i64 b, .int .i64 c, .int .i64 k]] w fun e w' => e = .returned (.tuple #[]) ∧ IsTk w' X (setR t a (t.node.ped)) ∧ Keeps (· = X) w w' := by
  have hal := Keeps.alloc None w (.cells #[.int .i64 8, .int .i64 a, .int .i64 b, .int .i64 c, .int .i64 k] 54)
  have h1 := ht.kept hal (fun f => f)
  have c1 := h1.reg ha
  have z1 := h1.free a
  have c2 := h1.tail 4 rfl
  have HH : Hid _ := And.intro ((h1.putReg (x := t.node.ped) ha).kept (Keeps.drew None _) (fun f => f)) ((hal.mono (T := (· = X)) (fun _ f _ => f.elim)).andSet (x := ⟨X, a, none⟩) (.inl rfl) (.int .i64 (t.node.ped))).andDrew
  have i1 : (a : Int) < 16 := by omega
  clear ht hal h1
  obtain ⟨x, hx⟩ : ∃ x, x = t.regs.getD a 0 := ⟨_, rfl⟩
  rw [← hx] at c1
  clear hx
  go_enter Tryd.func38, Tryd.ntmps38
  go_wp2_with fail
  go_region
  all_goals go_wp2_with fail
  all_goals go_end0
  all_goals exact ⟨rfl, HH.out⟩
end Go.Proofs.YtboingcmlmfceabDoor
