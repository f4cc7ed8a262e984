import Derived.Test.YtdiabpoafennlabPkAC
import Derived.Test.YtdiabpoafennlabPkAB
import Derived.WalkMore
import Derived.Deep.RegionHeld3
import Derived.Deep.DeepCutAuto
import Derived.Lib.SliceRun
import Derived.Deep.RegionLaw
import Derived.Shelf.RegionOpenPlain
import Derived.WalkKit
import Derived.Test.YtdiabpoafennlabProg
import Derived.WalkSpells
import Derived.WalkLawsBesides
/-! A task's end. -/
namespace Go.Proofs.Ytdiabpoafennlab
set_option linter.unusedVariables false
set_option maxRecDepth 20000
set_option linter.unusedSimpArgs false
open Go.RowKit Go.HeapKit

set_option maxHeartbeats 1600000 in
theorem end_ok (base pb : Nat) (st : List Bool) (X : PX) (K : Ky → Value) (H R : Nat → Value) (s : PS) (w : World) (tk : List (Nat × List Nat)) (x : Nat × List Nat) (h : PM w base pb st X K H R s) (hx : s.tk = tk ++ [x]) (hn : tk.length ≤ 100000) :
    Calls Try.prog 32 #[.pointer (some ⟨pb, 0, none⟩)] w fun e w' => e = .returned (.int .i64 x.1) ∧ PM w' base pb st X K H R { s with tk := tk } ∧ Keeps (· = pb) w w' := by
  obtain ⟨tb, hta, -, -, htc, t0, -, -⟩ := h.cur hx
  have HP : Hid (PM w base pb st X K H R s ∧ s.tk = tk ++ [x] ∧ X.ta = some ⟨tb, 0, none⟩ ∧ w.cell? ⟨tb, tk.length * 2, none⟩ = some (.int .i64 x.1)) := ⟨h, hx, hta, t0⟩
  have hw : wrap64 (((tk.length + 1 : Nat) : Int) - 1) = ((tk.length : Nat) : Int) := by unfold wrap64; omega
  have hwA : IntKind.i64.wrap (tk.length : Int) = (tk.length : Int) := by rw [IntKind.wrap_i64]; omega
  have hw2 : (tk.length : Int) ≤ (X.tc : Int) := by omega
  have hw3 : (0 : Int) ≤ (tk.length : Int) := by omega
  have hw4 : tk.length ≤ X.tc := by omega
  clear h hx hta t0
  go_enter Try.func32, Try.ntmps32
  go_wp2_with fail
  refine (current_ok base pb st X K H R s w tb tk x HP.out.1 HP.out.2.1 HP.out.2.2.1 hn).mono ?_
  rintro e w1 ⟨rfl, hk⟩
  have t0 := hk.cell HP.out.2.2.2 (fun f => f)
  go_upto_region 2 with fail
  have h1 := HP.out.1.more hk
  obtain ⟨-, -, -, -, -, -, -, q7, -, -, -⟩ := h1.c0
  have f7 := h1.free 7
  rw [HP.out.2.2.1, HP.out.2.1, List.length_append, List.length_singleton] at q7
  have HF : Hid (PM (w1.setCell ⟨pb, 7, none⟩ (.slice (some ⟨tb, 0, none⟩) tk.length X.tc)) base pb st X K H R { s with tk := tk } ∧ Keeps (· = pb) w (w1.setCell ⟨pb, 7, none⟩ (.slice (some ⟨tb, 0, none⟩) tk.length X.tc))) := by
    have := h1.endTask HP.out.2.1
    rw [HP.out.2.2.1] at this
    exact ⟨this, (hk.mono (T := (· = pb)) (fun _ f _ => f.elim)).andSet (x := ⟨pb, 7, none⟩) (.inl rfl) _⟩
  clear h1 hk t0
  refine wp_region_held_drew (S := (fun _ => True)) (by kernel_rfl) ?_ (fun hHeld => ?_)
  · (try dsimp only); try trivial
  refine wpAnyH_take (i := 0) (oi := { dst := some 9, op := Op.move (Operand.tmp 0), type := 48, pos := "play.go:82", after := #[], guard := none }) (v := ?_) rfl (by kernel_rfl) (by kernel_rfl) (by kernel_rfl) (fun _ _ _ h => h) (Or.inl ⟨by rfl, ?_⟩) (by assumption) ?_
  rotate_left
  · (intro wz hSw; (try dsimp only at hSw); go_simp; try with_reducible rfl)
  simp only [Act.put, List.setIfInBounds_toArray, List.set_cons_zero, List.set_cons_succ]
  refine wpAnyH_take (i := 1) (oi := { dst := some 10, op := Op.move (Operand.tmp 0), type := 48, pos := "play.go:82", after := #[], guard := none }) (v := ?_) rfl (by kernel_rfl) (by kernel_rfl) (by kernel_rfl) (fun _ _ _ h => h) (Or.inl ⟨by rfl, ?_⟩) (by assumption) ?_
  rotate_left
  · (intro wz hSw; (try dsimp only at hSw); go_simp; try with_reducible rfl)
  simp only [Act.put, List.setIfInBounds_toArray, List.set_cons_zero, List.set_cons_succ]
  refine wpAnyH_take (i := 2) (oi := { dst := some 11, op := Op.nilCheck (Operand.tmp 10), type := 0, pos := "play.go:82", after := #[{ on := 1, ground := Ground.data }], guard := none }) (v := ?_) rfl (by kernel_rfl) (by kernel_rfl) (by kernel_rfl) (fun _ _ _ h => h) (Or.inl ⟨by rfl, ?_⟩) (by assumption) ?_
  rotate_left
  · (intro wz hSw; (try dsimp only at hSw); go_simp; try with_reducible rfl)
  simp only [Act.put, List.setIfInBounds_toArray, List.set_cons_zero, List.set_cons_succ]
  refine wpAnyH_take (i := 3) (oi := { dst := some 12, op := Op.fieldAddr 59 (Operand.tmp 11) 4, type := 0, pos := "play.go:82", after := #[{ on := 2, ground := Ground.data }], guard := none }) (v := ?_) rfl (by kernel_rfl) (by kernel_rfl) (by kernel_rfl) (fun _ _ _ h => h) (Or.inl ⟨by rfl, ?_⟩) (by assumption) ?_
  rotate_left
  · (intro wz hSw; (try dsimp only at hSw); go_simp; try with_reducible rfl)
  simp only [Act.put, List.setIfInBounds_toArray, List.set_cons_zero, List.set_cons_succ]
  refine wpAnyH_take (i := 5) (oi := { dst := some 14, op := Op.move (Operand.tmp 0), type := 48, pos := "play.go:82", after := #[], guard := none }) (v := ?_) rfl (by kernel_rfl) (by kernel_rfl) (by kernel_rfl) (fun _ _ _ h => h) (Or.inl ⟨by rfl, ?_⟩) (by assumption) ?_
  rotate_left
  · (intro wz hSw; (try dsimp only at hSw); go_simp; try with_reducible rfl)
  simp only [Act.put, List.setIfInBounds_toArray, List.set_cons_zero, List.set_cons_succ]
  refine wpAnyH_take (i := 6) (oi := { dst := some 15, op := Op.nilCheck (Operand.tmp 14), type := 0, pos := "play.go:82", after := #[{ on := 5, ground := Ground.data }], guard := none }) (v := ?_) rfl (by kernel_rfl) (by kernel_rfl) (by kernel_rfl) (fun _ _ _ h => h) (Or.inl ⟨by rfl, ?_⟩) (by assumption) ?_
  rotate_left
  · (intro wz hSw; (try dsimp only at hSw); go_simp; try with_reducible rfl)
  simp only [Act.put, List.setIfInBounds_toArray, List.set_cons_zero, List.set_cons_succ]
  refine wpAnyH_take (i := 7) (oi := { dst := some 16, op := Op.fieldAddr 59 (Operand.tmp 15) 4, type := 0, pos := "play.go:82", after := #[{ on := 6, ground := Ground.data }], guard := none }) (v := ?_) rfl (by kernel_rfl) (by kernel_rfl) (by kernel_rfl) (fun _ _ _ h => h) (Or.inl ⟨by rfl, ?_⟩) (by assumption) ?_
  rotate_left
  · (intro wz hSw; (try dsimp only at hSw); go_simp; try with_reducible rfl)
  simp only [Act.put, List.setIfInBounds_toArray, List.set_cons_zero, List.set_cons_succ]
  refine wpAnyH_ready (rs := [4, 8]) (by kernel_rfl) (by simp) ?_
  refine AllReadyH.cons (o := { dst := some 13, op := Op.load 57 (Operand.tmp 12), type := 57, pos := "play.go:82", after := #[{ on := 3, ground := Ground.data }], guard := none }) rfl (fun K hK => ?_) ?_
  · go_simp
    refine hK.out _ _ ?_ (fun hHeld2 => ?_)
    · (try dsimp only); try trivial
    clear hK K
    try simp only [Act.put, List.setIfInBounds_toArray, List.set_cons_zero, List.set_cons_succ]
    refine wpAnyH_ready (rs := [8]) (by kernel_rfl) (by simp) ?_
    refine AllReadyH.cons (o := { dst := some 17, op := Op.load 57 (Operand.tmp 16), type := 57, pos := "play.go:82", after := #[{ on := 7, ground := Ground.data }], guard := none }) rfl (fun K hK => ?_) ?_
    · go_simp
      refine hK.out _ _ ?_ (fun hHeld2 => ?_)
      · (try dsimp only); try trivial
      clear hK K
      try simp only [Act.put, List.setIfInBounds_toArray, List.set_cons_zero, List.set_cons_succ]
      refine wpAnyH_ready (rs := [9]) (by kernel_rfl) (by simp) ?_
      refine AllReadyH.cons (o := { dst := some 18, op := Op.call { callee := Callee.builtin Builtin.len, args := #[Operand.tmp 17], argTypes := #[57] }, type := 3, pos := "play.go:82", after := #[{ on := 8, ground := Ground.data }], guard := none }) rfl (fun K hK => ?_) ?_
      · go_simp
        refine hK.out _ _ ?_ (fun hHeld2 => ?_)
        · (try dsimp only); try trivial
        clear hK K
        try simp only [Act.put, List.setIfInBounds_toArray, List.set_cons_zero, List.set_cons_succ]
        refine wpAnyH_take (i := 10) (oi := { dst := some 19, op := Op.binOp BinOp.sub 3 (Operand.tmp 18) (Operand.const (Value.int IntKind.i64 1)) 3, type := 3, pos := "play.go:82", after := #[{ on := 9, ground := Ground.data }], guard := none }) (v := ?_) rfl (by kernel_rfl) (by kernel_rfl) (by kernel_rfl) (fun _ _ _ h => h) (Or.inl ⟨by rfl, ?_⟩) (by assumption) ?_
        rotate_left
        · (intro wz hSw; (try dsimp only at hSw); go_simp; try with_reducible rfl)
        simp only [Act.put, List.setIfInBounds_toArray, List.set_cons_zero, List.set_cons_succ]
        refine wpAnyH_take (i := 11) (oi := { dst := some 20, op := Op.slice 57 (Operand.tmp 13) none (some (Operand.tmp 19)) none, type := 57, pos := "play.go:82", after := #[{ on := 4, ground := Ground.data }, { on := 10, ground := Ground.data }], guard := none }) (v := ?_) rfl (by kernel_rfl) (by kernel_rfl) (by kernel_rfl) (fun _ _ _ h => h) (Or.inl ⟨by rfl, ?_⟩) (by assumption) ?_
        rotate_left
        · (intro wz hSw; (try dsimp only at hSw); go_simp; try with_reducible rfl)
        simp only [Act.put, List.setIfInBounds_toArray, List.set_cons_zero, List.set_cons_succ]
        refine wpAnyH_take (i := 12) (oi := { dst := some 21, op := Op.nilCheck (Operand.tmp 9), type := 0, pos := "play.go:82", after := #[{ on := 0, ground := Ground.data }, { on := 0, ground := Ground.phase }, { on := 1, ground := Ground.phase }, { on := 2, ground := Ground.phase }, { on := 3, ground := Ground.phase }, { on := 4, ground := Ground.phase }, { on := 5, ground := Ground.phase }, { on := 6, ground := Ground.phase }, { on := 7, ground := Ground.phase }, { on := 8, ground := Ground.phase }, { on := 9, ground := Ground.phase }, { on := 10, ground := Ground.phase }, { on := 11, ground := Ground.phase }], guard := none }) (v := ?_) rfl (by kernel_rfl) (by kernel_rfl) (by kernel_rfl) (fun _ _ _ h => h) (Or.inl ⟨by rfl, ?_⟩) (by assumption) ?_
        rotate_left
        · (intro wz hSw; (try dsimp only at hSw); go_simp; try with_reducible rfl)
        simp only [Act.put, List.setIfInBounds_toArray, List.set_cons_zero, List.set_cons_succ]
        refine wpAnyH_take (i := 13) (oi := { dst := some 22, op := Op.fieldAddr 59 (Operand.tmp 21) 4, type := 0, pos := "play.go:82", after := #[{ on := 12, ground := Ground.data }, { on := 0, ground := Ground.phase }, { on := 1, ground := Ground.phase }, { on := 2, ground := Ground.phase }, { on := 3, ground := Ground.phase }, { on := 4, ground := Ground.phase }, { on := 5, ground := Ground.phase }, { on := 6, ground := Ground.phase }, { on := 7, ground := Ground.phase }, { on := 8, ground := Ground.phase }, { on := 9, ground := Ground.phase }, { on := 10, ground := Ground.phase }, { on := 11, ground := Ground.phase }], guard := none }) (v := ?_) rfl (by kernel_rfl) (by kernel_rfl) (by kernel_rfl) (fun _ _ _ h => h) (Or.inl ⟨by rfl, ?_⟩) (by assumption) ?_
        rotate_left
        · (intro wz hSw; (try dsimp only at hSw); go_simp; try with_reducible rfl)
        simp only [Act.put, List.setIfInBounds_toArray, List.set_cons_zero, List.set_cons_succ]
        refine wpAnyH_ready (rs := [14]) (by kernel_rfl) (by simp) ?_
        refine AllReadyH.cons (o := { dst := none, op := Op.store 57 (Operand.tmp 22) (Operand.tmp 20), type := 0, pos := "play.go:82", after := #[{ on := 13, ground := Ground.data }, { on := 11, ground := Ground.data }, { on := 0, ground := Ground.phase }, { on := 1, ground := Ground.phase }, { on := 2, ground := Ground.phase }, { on := 3, ground := Ground.phase }, { on := 4, ground := Ground.phase }, { on := 5, ground := Ground.phase }, { on := 6, ground := Ground.phase }, { on := 7, ground := Ground.phase }, { on := 8, ground := Ground.phase }, { on := 9, ground := Ground.phase }, { on := 10, ground := Ground.phase }, { on := 11, ground := Ground.phase }], guard := none }) rfl (fun K hK => ?_) ?_
        · go_simp
          refine hK.out _ _ ?_ (fun hHeld2 => ?_)
          · (try dsimp only); try trivial
          clear hK K
          try simp only [Act.put, List.setIfInBounds_toArray, List.set_cons_zero, List.set_cons_succ]
          refine wpAnyH_done (by kernel_rfl) ?_ _
          go_wp2_with fail
          go_ret
          exact ⟨rfl, HF.out.1.more (Keeps.drew None _), HF.out.2.andDrew⟩
        exact AllReadyH.nil
      exact AllReadyH.nil
    exact AllReadyH.nil
  refine AllReadyH.cons (o := { dst := some 17, op := Op.load 57 (Operand.tmp 16), type := 57, pos := "play.go:82", after := #[{ on := 7, ground := Ground.data }], guard := none }) rfl (fun K hK => ?_) ?_
  · go_simp
    refine hK.out _ _ ?_ (fun hHeld2 => ?_)
    · (try dsimp only); try trivial
    clear hK K
    try simp only [Act.put, List.setIfInBounds_toArray, List.set_cons_zero, List.set_cons_succ]
    refine wpAnyH_ready (rs := [4, 9]) (by kernel_rfl) (by simp) ?_
    refine AllReadyH.cons (o := { dst := some 13, op := Op.load 57 (Operand.tmp 12), type := 57, pos := "play.go:82", after := #[{ on := 3, ground := Ground.data }], guard := none }) rfl (fun K hK => ?_) ?_
    · go_simp
      refine hK.out _ _ ?_ (fun hHeld2 => ?_)
      · (try dsimp only); try trivial
      clear hK K
      try simp only [Act.put, List.setIfInBounds_toArray, List.set_cons_zero, List.set_cons_succ]
      refine wpAnyH_ready (rs := [9]) (by kernel_rfl) (by simp) ?_
      refine AllReadyH.cons (o := { dst := some 18, op := Op.call { callee := Callee.builtin Builtin.len, args := #[Operand.tmp 17], argTypes := #[57] }, type := 3, pos := "play.go:82", after := #[{ on := 8, ground := Ground.data }], guard := none }) rfl (fun K hK => ?_) ?_
      · go_simp
        refine hK.out _ _ ?_ (fun hHeld2 => ?_)
        · (try dsimp only); try trivial
        clear hK K
        try simp only [Act.put, List.setIfInBounds_toArray, List.set_cons_zero, List.set_cons_succ]
        refine wpAnyH_take (i := 10) (oi := { dst := some 19, op := Op.binOp BinOp.sub 3 (Operand.tmp 18) (Operand.const (Value.int IntKind.i64 1)) 3, type := 3, pos := "play.go:82", after := #[{ on := 9, ground := Ground.data }], guard := none }) (v := ?_) rfl (by kernel_rfl) (by kernel_rfl) (by kernel_rfl) (fun _ _ _ h => h) (Or.inl ⟨by rfl, ?_⟩) (by assumption) ?_
        rotate_left
        · (intro wz hSw; (try dsimp only at hSw); go_simp; try with_reducible rfl)
        simp only [Act.put, List.setIfInBounds_toArray, List.set_cons_zero, List.set_cons_succ]
        refine wpAnyH_take (i := 11) (oi := { dst := some 20, op := Op.slice 57 (Operand.tmp 13) none (some (Operand.tmp 19)) none, type := 57, pos := "play.go:82", after := #[{ on := 4, ground := Ground.data }, { on := 10, ground := Ground.data }], guard := none }) (v := ?_) rfl (by kernel_rfl) (by kernel_rfl) (by kernel_rfl) (fun _ _ _ h => h) (Or.inl ⟨by rfl, ?_⟩) (by assumption) ?_
        rotate_left
        · (intro wz hSw; (try dsimp only at hSw); go_simp; try with_reducible rfl)
        simp only [Act.put, List.setIfInBounds_toArray, List.set_cons_zero, List.set_cons_succ]
        refine wpAnyH_take (i := 12) (oi := { dst := some 21, op := Op.nilCheck (Operand.tmp 9), type := 0, pos := "play.go:82", after := #[{ on := 0, ground := Ground.data }, { on := 0, ground := Ground.phase }, { on := 1, ground := Ground.phase }, { on := 2, ground := Ground.phase }, { on := 3, ground := Ground.phase }, { on := 4, ground := Ground.phase }, { on := 5, ground := Ground.phase }, { on := 6, ground := Ground.phase }, { on := 7, ground := Ground.phase }, { on := 8, ground := Ground.phase }, { on := 9, ground := Ground.phase }, { on := 10, ground := Ground.phase }, { on := 11, ground := Ground.phase }], guard := none }) (v := ?_) rfl (by kernel_rfl) (by kernel_rfl) (by kernel_rfl) (fun _ _ _ h => h) (Or.inl ⟨by rfl, ?_⟩) (by assumption) ?_
        rotate_left
        · (intro wz hSw; (try dsimp only at hSw); go_simp; try with_reducible rfl)
        simp only [Act.put, List.setIfInBounds_toArray, List.set_cons_zero, List.set_cons_succ]
        refine wpAnyH_take (i := 13) (oi := { dst := some 22, op := Op.fieldAddr 59 (Operand.tmp 21) 4, type := 0, pos := "play.go:82", after := #[{ on := 12, ground := Ground.data }, { on := 0, ground := Ground.phase }, { on := 1, ground := Ground.phase }, { on := 2, ground := Ground.phase }, { on := 3, ground := Ground.phase }, { on := 4, ground := Ground.phase }, { on := 5, ground := Ground.phase }, { on := 6, ground := Ground.phase }, { on := 7, ground := Ground.phase }, { on := 8, ground := Ground.phase }, { on := 9, ground := Ground.phase }, { on := 10, ground := Ground.phase }, { on := 11, ground := Ground.phase }], guard := none }) (v := ?_) rfl (by kernel_rfl) (by kernel_rfl) (by kernel_rfl) (fun _ _ _ h => h) (Or.inl ⟨by rfl, ?_⟩) (by assumption) ?_
        rotate_left
        · (intro wz hSw; (try dsimp only at hSw); go_simp; try with_reducible rfl)
        simp only [Act.put, List.setIfInBounds_toArray, List.set_cons_zero, List.set_cons_succ]
        refine wpAnyH_ready (rs := [14]) (by kernel_rfl) (by simp) ?_
        refine AllReadyH.cons (o := { dst := none, op := Op.store 57 (Operand.tmp 22) (Operand.tmp 20), type := 0, pos := "play.go:82", after := #[{ on := 13, ground := Ground.data }, { on := 11, ground := Ground.data }, { on := 0, ground := Ground.phase }, { on := 1, ground := Ground.phase }, { on := 2, ground := Ground.phase }, { on := 3, ground := Ground.phase }, { on := 4, ground := Ground.phase }, { on := 5, ground := Ground.phase }, { on := 6, ground := Ground.phase }, { on := 7, ground := Ground.phase }, { on := 8, ground := Ground.phase }, { on := 9, ground := Ground.phase }, { on := 10, ground := Ground.phase }, { on := 11, ground := Ground.phase }], guard := none }) rfl (fun K hK => ?_) ?_
        · go_simp
          refine hK.out _ _ ?_ (fun hHeld2 => ?_)
          · (try dsimp only); try trivial
          clear hK K
          try simp only [Act.put, List.setIfInBounds_toArray, List.set_cons_zero, List.set_cons_succ]
          refine wpAnyH_done (by kernel_rfl) ?_ _
          go_wp2_with fail
          go_ret
          exact ⟨rfl, HF.out.1.more (Keeps.drew None _), HF.out.2.andDrew⟩
        exact AllReadyH.nil
      exact AllReadyH.nil
    refine AllReadyH.cons (o := { dst := some 18, op := Op.call { callee := Callee.builtin Builtin.len, args := #[Operand.tmp 17], argTypes := #[57] }, type := 3, pos := "play.go:82", after := #[{ on := 8, ground := Ground.data }], guard := none }) rfl (fun K hK => ?_) ?_
    · go_simp
      refine hK.out _ _ ?_ (fun hHeld2 => ?_)
      · (try dsimp only); try trivial
      clear hK K
      try simp only [Act.put, List.setIfInBounds_toArray, List.set_cons_zero, List.set_cons_succ]
      refine wpAnyH_take (i := 10) (oi := { dst := some 19, op := Op.binOp BinOp.sub 3 (Operand.tmp 18) (Operand.const (Value.int IntKind.i64 1)) 3, type := 3, pos := "play.go:82", after := #[{ on := 9, ground := Ground.data }], guard := none }) (v := ?_) rfl (by kernel_rfl) (by kernel_rfl) (by kernel_rfl) (fun _ _ _ h => h) (Or.inl ⟨by rfl, ?_⟩) (by assumption) ?_
      rotate_left
      · (intro wz hSw; (try dsimp only at hSw); go_simp; try with_reducible rfl)
      simp only [Act.put, List.setIfInBounds_toArray, List.set_cons_zero, List.set_cons_succ]
      refine wpAnyH_ready (rs := [4]) (by kernel_rfl) (by simp) ?_
      refine AllReadyH.cons (o := { dst := some 13, op := Op.load 57 (Operand.tmp 12), type := 57, pos := "play.go:82", after := #[{ on := 3, ground := Ground.data }], guard := none }) rfl (fun K hK => ?_) ?_
      · go_simp
        refine hK.out _ _ ?_ (fun hHeld2 => ?_)
        · (try dsimp only); try trivial
        clear hK K
        try simp only [Act.put, List.setIfInBounds_toArray, List.set_cons_zero, List.set_cons_succ]
        refine wpAnyH_take (i := 11) (oi := { dst := some 20, op := Op.slice 57 (Operand.tmp 13) none (some (Operand.tmp 19)) none, type := 57, pos := "play.go:82", after := #[{ on := 4, ground := Ground.data }, { on := 10, ground := Ground.data }], guard := none }) (v := ?_) rfl (by kernel_rfl) (by kernel_rfl) (by kernel_rfl) (fun _ _ _ h => h) (Or.inl ⟨by rfl, ?_⟩) (by assumption) ?_
        rotate_left
        · (intro wz hSw; (try dsimp only at hSw); go_simp; try with_reducible rfl)
        simp only [Act.put, List.setIfInBounds_toArray, List.set_cons_zero, List.set_cons_succ]
        refine wpAnyH_take (i := 12) (oi := { dst := some 21, op := Op.nilCheck (Operand.tmp 9), type := 0, pos := "play.go:82", after := #[{ on := 0, ground := Ground.data }, { on := 0, ground := Ground.phase }, { on := 1, ground := Ground.phase }, { on := 2, ground := Ground.phase }, { on := 3, ground := Ground.phase }, { on := 4, ground := Ground.phase }, { on := 5, ground := Ground.phase }, { on := 6, ground := Ground.phase }, { on := 7, ground := Ground.phase }, { on := 8, ground := Ground.phase }, { on := 9, ground := Ground.phase }, { on := 10, ground := Ground.phase }, { on := 11, ground := Ground.phase }], guard := none }) (v := ?_) rfl (by kernel_rfl) (by kernel_rfl) (by kernel_rfl) (fun _ _ _ h => h) (Or.inl ⟨by rfl, ?_⟩) (by assumption) ?_
        rotate_left
        · (intro wz hSw; (try dsimp only at hSw); go_simp; try with_reducible rfl)
        simp only [Act.put, List.setIfInBounds_toArray, List.set_cons_zero, List.set_cons_succ]
        refine wpAnyH_take (i := 13) (oi := { dst := some 22, op := Op.fieldAddr 59 (Operand.tmp 21) 4, type := 0, pos := "play.go:82", after := #[{ on := 12, ground := Ground.data }, { on := 0, ground := Ground.phase }, { on := 1, ground := Ground.phase }, { on := 2, ground := Ground.phase }, { on := 3, ground := Ground.phase }, { on := 4, ground := Ground.phase }, { on := 5, ground := Ground.phase }, { on := 6, ground := Ground.phase }, { on := 7, ground := Ground.phase }, { on := 8, ground := Ground.phase }, { on := 9, ground := Ground.phase }, { on := 10, ground := Ground.phase }, { on := 11, ground := Ground.phase }], guard := none }) (v := ?_) rfl (by kernel_rfl) (by kernel_rfl) (by kernel_rfl) (fun _ _ _ h => h) (Or.inl ⟨by rfl, ?_⟩) (by assumption) ?_
        rotate_left
        · (intro wz hSw; (try dsimp only at hSw); go_simp; try with_reducible rfl)
        simp only [Act.put, List.setIfInBounds_toArray, List.set_cons_zero, List.set_cons_succ]
        refine wpAnyH_ready (rs := [14]) (by kernel_rfl) (by simp) ?_
        refine AllReadyH.cons (o := { dst := none, op := Op.store 57 (Operand.tmp 22) (Operand.tmp 20), type := 0, pos := "play.go:82", after := #[{ on := 13, ground := Ground.data }, { on := 11, ground := Ground.data }, { on := 0, ground := Ground.phase }, { on := 1, ground := Ground.phase }, { on := 2, ground := Ground.phase }, { on := 3, ground := Ground.phase }, { on := 4, ground := Ground.phase }, { on := 5, ground := Ground.phase }, { on := 6, ground := Ground.phase }, { on := 7, ground := Ground.phase }, { on := 8, ground := Ground.phase }, { on := 9, ground := Ground.phase }, { on := 10, ground := Ground.phase }, { on := 11, ground := Ground.phase }], guard := none }) rfl (fun K hK => ?_) ?_
        · go_simp
          refine hK.out _ _ ?_ (fun hHeld2 => ?_)
          · (try dsimp only); try trivial
          clear hK K
          try simp only [Act.put, List.setIfInBounds_toArray, List.set_cons_zero, List.set_cons_succ]
          refine wpAnyH_done (by kernel_rfl) ?_ _
          go_wp2_with fail
          go_ret
          exact ⟨rfl, HF.out.1.more (Keeps.drew None _), HF.out.2.andDrew⟩
        exact AllReadyH.nil
      exact AllReadyH.nil
    exact AllReadyH.nil
  exact AllReadyH.nil
end Go.Proofs.Ytdiabpoafennlab
/-! Views that hold lists: how one is put into, how two are joined, how one is told. -/
namespace Go.Proofs.Ytdiabpoafennlab
set_option linter.unusedVariables false
set_option maxRecDepth 20000
set_option linter.unusedSimpArgs false
open Go.RowKit Go.HeapKit

theorem moved_new {w : World} {v v' : Value} (h : Moved w v v') : ∀ b, v'.ownBlock = some b → v.ownBlock = some b ∨ w.heap.size ≤ b := by
  intro b hb
  rcases h with h | ⟨g, h, h2⟩
  · left; rw [← h]; exact hb
  · right; rw [hb] at h; injection h with h; omega
theorem put_ok (base : Nat) (V : Value) (l : List Int) (x : Int) (w : World) (h : w.ownsRow base 2 1 V l.length (iv l)) (hb : base ≤ w.heap.size) (hl : l.length ≤ 1000000) :
    Calls Try.prog 34 #[V, .int .i64 x] w fun e w' => ∃ V', e = .returned V' ∧ V'.oneCell' = true ∧ w'.ownsRow base 2 1 V' (l ++ [x]).length (iv (l ++ [x])) ∧ Keeps (fun k => V.ownBlock = some k) w w' ∧ ∀ b, V'.ownBlock = some b → V.ownBlock = some b ∨ w.heap.size ≤ b := by
  obtain ⟨a, c, rfl⟩ := row_shape h
  obtain ⟨g, cp, w2, hr, ho, hk, hm⟩ := i64_more base (.slice a l.length c) l x 28 _ _ (h.alloc (.cells #[.int .i64 x] 2)) (by simp; omega) (by omega) (blk_new w _ _ rfl)
  have HF : Hid (w2.ownsRow base 2 1 (.slice (some ⟨g, 0, none⟩) (l.length + 1) cp) (l.length + 1) (iv (l ++ [x])) ∧ Keeps (fun k => (Value.slice a l.length c).ownBlock = some k) w w2 ∧ ∀ b, (Value.slice (some ⟨g, 0, none⟩) (l.length + 1) cp).ownBlock = some b → (Value.slice a l.length c).ownBlock = some b ∨ w.heap.size ≤ b) := by
    refine ⟨ho, (Keeps.alloc (fun k => (Value.slice a l.length c).ownBlock = some k) w _).trans hk (fun i e _ => e), fun b e => ?_⟩
    simp [Value.ownBlock] at e
    subst e
    rcases hm with h1 | h1
    · exact .inl h1
    · right; simp at h1; omega
  clear ho hk hm h
  go_enter Try.func34, Try.ntmps34
  go_wp2_with (at_builtin; refine wpList_append_run rfl (.tmp 5) (.tmp 7) 28 28 rfl rfl rfl hr ?_)
  go_ret
  refine ⟨_, rfl, rfl, ?_, HF.out.2⟩
  rw [List.length_append, List.length_singleton]
  exact HF.out.1
theorem join_ok (base : Nat) (V U : Value) (l m : List Int) (w : World) (h : w.ownsRow base 2 1 V l.length (iv l)) (h2 : w.ownsRow base 2 1 U m.length (iv m)) (hb : base ≤ w.heap.size) (hl : l.length + m.length ≤ 1000000) :
    Calls Try.prog 35 #[V, U] w fun e w' => ∃ V', e = .returned V' ∧ V'.oneCell' = true ∧ w'.ownsRow base 2 1 V' (l ++ m).length (iv (l ++ m)) ∧ Keeps (fun k => V.ownBlock = some k) w w' ∧ ∀ b, V'.ownBlock = some b → V.ownBlock = some b ∨ w.heap.size ≤ b := by
  obtain ⟨a2, c2, rfl⟩ := row_shape h2
  obtain ⟨a, c, rfl⟩ := row_shape h
  obtain ⟨i0, hi, hz0, hz1, hz2⟩ := info_parts Try.infoI64
  obtain ⟨v', w2, hr, ho, hk, hm, -⟩ := run_append_all (P := Try.prog) w base 28 28 2 i0 _ 1 8 Try.underlying28 hi hz0 hz1 hz2 rfl (by decide) _ l.length _ h a2 m.length c2 (iv m) (by rw [iv_len, Nat.mul_one]) (fun h0 => by obtain ⟨b, off, e, _, hc⟩ := (own_seen1 h2).ex h0; exact ⟨b, off, e, hc⟩) iv_one (by unfold maxLen; omega) (by omega) hb
  have h1 : v'.oneCell' = true := by obtain ⟨x, y, rfl⟩ := row_shape ho; rfl
  have HF : Hid (v'.oneCell' = true ∧ w2.ownsRow base 2 1 v' (l ++ m).length (iv (l ++ m)) ∧ Keeps (fun k => (Value.slice a l.length c).ownBlock = some k) w w2 ∧ ∀ b, v'.ownBlock = some b → (Value.slice a l.length c).ownBlock = some b ∨ w.heap.size ≤ b) :=
    ⟨h1, by rw [List.length_append, iv_app]; exact ho, hk, moved_new hm⟩
  clear ho hk hm h h2 h1
  go_enter Try.func35, Try.ntmps35
  go_wp2_with (at_builtin; refine wpList_append_run rfl (.tmp 5) (.tmp 6) 28 28 rfl rfl rfl hr ?_)
  go_ret
  exact ⟨_, rfl, HF.out⟩
theorem sliceNe6 (x : Addr) (m c : Nat) (w : World) : Sem.run Try.prog (binOp BinOp.eql 28 (.slice (some x) m c) (.slice none 0 0)) w = .ok (.bool false) w := by kernel_rfl
theorem sliceEq6 (m c : Nat) (w : World) : Sem.run Try.prog (binOp BinOp.eql 28 (.slice none m c) (.slice none 0 0)) w = .ok (.bool true) w := by kernel_rfl
theorem clone_ok (base : Nat) (V : Value) (l : List Int) (w : World) (h : w.ownsRow base 2 1 V l.length (iv l)) (hb : base ≤ w.heap.size) (hl : l.length ≤ 1000000) :
    Calls Try.prog 37 #[V] w fun e w' => ∃ V', e = .returned V' ∧ V'.oneCell' = true ∧ w'.ownsRow base 2 1 V' l.length (iv l) ∧ Keeps None w w' ∧ ∀ b, V'.ownBlock = some b → w.heap.size ≤ b := by
  rcases h.2 with ⟨rfl, h0⟩ | ⟨g, cap, cur, rfl, _⟩
  · have HF : Hid (w.ownsRow base 2 1 (.slice none 0 0) l.length (iv l)) := h
    have heq := sliceEq6 0 0
    clear h h0
    go_enter Try.func37, Try.ntmps37
    go_wp2_with fail
    go_ret
    exact ⟨_, rfl, rfl, HF.out, Keeps.refl _ _, fun b e => by simp [Value.ownBlock] at e⟩
  · obtain ⟨i0, hi, hz0, hz1, hz2⟩ := info_parts Try.infoI64
    have hk0 := Keeps.alloc None w (.cells #[] 2)
    have hs := (own_seen1 h).more hk0
    obtain ⟨v', w2, hr, ho, hk, hm, -⟩ := run_append_all (P := Try.prog) (w.alloc (.cells #[] 2)) w.heap.size 28 28 2 i0 _ 1 8 Try.underlying28 hi hz0 hz1 hz2 rfl (by decide) _ 0 [] (own_nilAny 2 1 (Nat.le_refl _)) _ l.length cap (iv l) (by rw [iv_len, Nat.mul_one]) (fun h0 => by obtain ⟨b, off, e, _, hc⟩ := hs.ex h0; exact ⟨b, off, e, hc⟩) iv_one (by unfold maxLen; omega) (by omega) hk0.size
    rw [Nat.zero_add, List.nil_append] at ho
    have h1 : v'.oneCell' = true := by obtain ⟨x, y, rfl⟩ := row_shape ho; rfl
    have HF : Hid (v'.oneCell' = true ∧ w2.ownsRow base 2 1 v' l.length (iv l) ∧ Keeps None w w2 ∧ ∀ b, v'.ownBlock = some b → w.heap.size ≤ b) :=
      ⟨h1, row_base ho hb, hk0.trans hk (fun i e hi => by simp [Value.ownBlock] at e; omega), fun b e => row_low ho e⟩
    have hne := sliceNe6 ⟨g, 0, none⟩ l.length cap
    clear ho hk hm h h1 hk0 hs
    go_enter Try.func37, Try.ntmps37
    go_wp2_with (at_builtin; refine wpList_append_run rfl (.tmp 5) (.tmp 6) 28 28 rfl rfl rfl hr ?_)
    go_ret
    exact ⟨_, rfl, HF.out⟩
theorem tell_ok (base : Nat) (V : Value) (l : List Int) (w : World) (h : w.ownsRow base 2 1 V l.length (iv l)) (hb : base ≤ w.heap.size) (hl : l.length ≤ 1000000) :
    Calls Try.prog 36 #[V] w fun e w' => ∃ V', e = .returned V' ∧ V'.oneCell' = true ∧ w'.ownsRow base 2 1 V' l.length (iv l) ∧ Keeps None w w' ∧ ∀ b, V'.ownBlock = some b → w.heap.size ≤ b := by
  have HF : Hid (w.ownsRow base 2 1 V l.length (iv l)) := h
  clear h
  go_enter Try.func36, Try.ntmps36
  go_wp2_with fail
  refine (clone_ok base V l w HF.out hb hl).mono ?_
  rintro e w1 ⟨V', rfl, h1⟩
  have HG : Hid _ := h1
  clear h1
  go_wp2
  go_ret
  exact ⟨_, rfl, HG.out⟩
end Go.Proofs.Ytdiabpoafennlab
/-! slices.Delete of one number of a row. -/
namespace Go.Proofs.Ytdiabpoafennlab
set_option linter.unusedVariables false
set_option maxRecDepth 20000
set_option linter.unusedSimpArgs false
open Go.RowKit Go.HeapKit Go.IntWalk

def setsFrom (w : World) (g : Nat) : Nat → List Value → World
  | _, [] => w
  | i, v :: vs => setsFrom (w.setCell ⟨g, i, none⟩ v) g (i + 1) vs
theorem setsFrom_keeps (g : Nat) : ∀ (vs : List Value) (i : Nat) (w : World), Keeps (· = g) w (setsFrom w g i vs)
  | [], _, _ => Keeps.refl _ _
  | v :: vs, i, w => (Keeps.setCell (S := (· = g)) w (a := ⟨g, i, none⟩) rfl v).trans (setsFrom_keeps g vs (i + 1) _) (fun _ f _ => f)
theorem setsFrom_block (g : Nat) (t : TypeId) : ∀ (vs : List Value) (i : Nat) (w : World) (c : Array Value), w.heap[g]? = some (.cells c t (0, 0)) → i + vs.length ≤ c.size →
    ∃ c', (setsFrom w g i vs).heap[g]? = some (.cells c' t (0, 0)) ∧ c'.toList = c.toList.take i ++ vs ++ c.toList.drop (i + vs.length)
  | [], i, w, c, hb, _ => ⟨c, hb, by simp⟩
  | v :: vs, i, w, c, hb, hl => by
    simp only [List.length_cons] at hl
    obtain ⟨c', h1, h2⟩ := setsFrom_block g t vs (i + 1) (w.setCell ⟨g, i, none⟩ v) (c.setIfInBounds i v) (blk_set hb v) (by simp; omega)
    refine ⟨c', h1, h2.trans ?_⟩
    rw [Array.toList_setIfInBounds]
    have hi : i < c.toList.length := by simp; omega
    have e1 : (c.toList.set i v).take (i + 1) = c.toList.take i ++ [v] := by
      rw [List.set_eq_take_append_cons_drop, if_pos hi, List.take_append]
      have : (c.toList.take i).length = i := by simp; omega
      rw [List.take_of_length_le (by omega), this]
      simp
    have e2 : (c.toList.set i v).drop (i + 1 + vs.length) = c.toList.drop (i + (v :: vs).length) := by
      rw [List.drop_set_of_lt (by omega)]
      simp only [List.length_cons]
      congr 1
      omega
    rw [e1, e2]
    simp
theorem own_sets {w : World} {base : Nat} {e : TypeId} {s g n cap : Nat} {xs : List Value} (h : w.ownsRow base e s (.slice (some ⟨g, 0, none⟩) n cap) n xs) (k : Nat) (vs : List Value) (hk : k + vs.length ≤ n * s) :
    (setsFrom w g k vs).ownsRow base e s (.slice (some ⟨g, 0, none⟩) n cap) n (xs.take k ++ vs ++ xs.drop (k + vs.length)) := by
  rcases h.2 with ⟨h0, _⟩ | ⟨g', cap', cur, he, hb, hg, hn, hm, hcs, ht⟩
  · cases h0
  · injection he with e1 e2 e3
    injection e1 with e1
    injection e1 with e1
    subst e1 e3
    have hle : n * s ≤ cap * s := Nat.mul_le_mul_right _ hn
    obtain ⟨c', h1, h2⟩ := setsFrom_block g e vs k w cur hg (by rw [hcs]; omega)
    have hxl : xs.length = n * s := by rw [← ht]; simp; omega
    have hcl : cur.toList.length = cap * s := by simpa using hcs
    refine ⟨by simp only [List.length_append, List.length_take, List.length_drop]; omega, .inr ⟨g, cap, c', rfl, hb, h1, hn, hm, ?_, ?_⟩⟩
    · have := congrArg List.length h2
      simp only [List.length_append, List.length_take, List.length_drop, hcl, Array.length_toList] at this
      omega
    · rw [h2, ← ht]
      apply List.ext_getElem?
      intro i
      simp only [List.getElem?_take, List.getElem?_append, List.length_append, List.length_take, List.getElem?_drop, hcl]
      have e1 : min k (min (n * s) (cap * s)) = k := by omega
      have e2 : min k (cap * s) = k := by omega
      have e3 : min (n * s) (cap * s) = n * s := by omega
      simp only [e2, e3]
      have e4 : min k (n * s) = k := by omega
      simp only [e4]
      by_cases a1 : i < n * s
      · by_cases a2 : i < k + vs.length
        · by_cases a3 : i < k
          · simp [a1, a2, a3]
          · simp [a1, a2, a3]
        · have a4 : k + vs.length + (i - (k + vs.length)) < n * s := by omega
          simp [a1, a2, a4]
      · have a2 : ¬ i < k + vs.length := by omega
        have a4 : ¬ k + vs.length + (i - (k + vs.length)) < n * s := by omega
        simp [a1, a2, a4]
theorem setsFrom_eq (g : Nat) : ∀ (vs : List Value) (i : Nat) (w : World), w.setCells g i vs = setsFrom w g i vs
  | [], _, _ => rfl
  | _ :: vs, i, _ => setsFrom_eq g vs (i + 1) _
def zeroAct : List Value := [.int .i64 0]
theorem clear_act (W : World) (ty : TypeId) (g o c : Nat) (hc : ∀ j, j < 1 → (W.cell? ⟨g, o + j, none⟩).isSome = true) (hf : ∀ j, j < 1 → W.frozen? ⟨g, o + j, none⟩ = false) :
    (Builtin.clear_ #[24] ty #[.slice (some ⟨g, o, none⟩) 1 c]).run Try.prog W = .ok (.tuple #[]) (W.setCells g o zeroAct) := by
  have hzc : (Builtin.zeroCells (Value.int .i64 0).cells 1).toList = zeroAct := by kernel_rfl
  have hst := run_storeCells_cells (P := Try.prog) g o zeroAct 0 W (by intro j hj; exact hc j hj) (by intro j hj; exact hf j hj) (by intro v hv; simp [zeroAct] at hv; subst hv; rfl)
  simp only [Nat.add_zero] at hst
  simp [Builtin.clear_, run_underlying Try.underlying24, hzc, hst]
theorem Try.infoAct : (Try.prog.info? 3).map (fun i => i.size) = some 1 := by kernel_rfl
theorem erase_vals (l : List Int) (i : Nat) (hi : i < l.length) : iv (l.eraseIdx i) = (iv l).take (i * 1) ++ (iv l).drop ((i + 1) * 1) := by
  rw [Nat.mul_one, Nat.mul_one, iv, iv, List.eraseIdx_eq_take_drop_succ, List.map_append, List.map_take, List.map_drop]
theorem iv_length1 (l : List Int) : (iv l).length = l.length * 1 := by rw [iv_len, Nat.mul_one]
/-- The row behind the two writes of Delete. -/
theorem own_del {w : World} {base : Nat} {g n c i : Nat} {l : List Int} (h : w.ownsRow base 3 1 (.slice (some ⟨g, 0, none⟩) n c) n (iv l)) (hl : l.length = n) (hi : i < n) :
    (setsFrom (setsFrom w.drew g (i * 1) ((iv l).drop ((i + 1) * 1))) g ((n - 1) * 1) zeroAct).ownsRow base 3 1 (.slice (some ⟨g, 0, none⟩) (n - 1) c) (n - 1) (iv (l.eraseIdx i)) := by
  have hx : (iv l).length = n * 1 := by rw [iv_length1, hl]
  have hd : w.drew.ownsRow base 3 1 (.slice (some ⟨g, 0, none⟩) n c) n (iv l) := h
  have hdl : ((iv l).drop ((i + 1) * 1)).length = n * 1 - (i + 1) * 1 := by rw [List.length_drop, hx]
  have h1 := own_sets hd (i * 1) ((iv l).drop ((i + 1) * 1)) (by rw [hdl]; omega)
  have hz : zeroAct.length = 1 := rfl
  have h2 := own_sets h1 ((n - 1) * 1) zeroAct (by rw [hz]; omega)
  have he := erase_vals l i (by omega)
  have hel : (iv (l.eraseIdx i)).length = (n - 1) * 1 := by rw [iv_length1, List.length_eraseIdx]; rw [if_pos (by omega), hl]
  generalize setsFrom (setsFrom w.drew g (i * 1) ((iv l).drop ((i + 1) * 1))) g ((n - 1) * 1) zeroAct = W at h2
  rcases h2.2 with ⟨h0, _⟩ | ⟨g', cap', cur, e, hb, hg, hn, hm, hcs, ht⟩
  · cases h0
  · injection e with e1 e2 e3
    injection e1 with e1
    injection e1 with e1
    subst e1 e3
    refine ⟨hel, .inr ⟨g, c, cur, rfl, hb, hg, by omega, hm, hcs, ?_⟩⟩
    have hmin : List.take ((n - 1) * 1) cur.toList = List.take ((n - 1) * 1) (List.take (n * 1) cur.toList) := by rw [List.take_take]; congr 1; omega
    rw [hmin, ht, he]
    have e4 : ((iv l).take (i * 1)).length = i * 1 := by rw [List.length_take]; omega
    have hfirst : ((iv l).take (i * 1) ++ (iv l).drop ((i + 1) * 1)).length = (n - 1) * 1 := by rw [List.length_append, e4, hdl]; omega
    rw [List.take_append_of_le_length (by simp only [List.length_append, List.length_take, List.length_drop]; omega)]
    rw [List.take_append_of_le_length (by simp only [List.length_append, List.length_take, List.length_drop]; omega)]
    rw [List.take_take, show min ((n - 1) * 1) ((n - 1) * 1) = (n - 1) * 1 by omega]
    rw [List.take_append_of_le_length (by simp only [List.length_append, List.length_take, List.length_drop]; omega), ← hfirst, List.take_length]
set_option maxHeartbeats 4000000 in
set_option maxRecDepth 100000 in
theorem delete_any (base g n c i : Nat) (l : List Int) (w : World) (h : w.ownsRow base 3 1 (.slice (some ⟨g, 0, none⟩) n c) n (iv l)) (hl : l.length = n) (hi : i < n) (hsm : n ≤ 100000) :
    Calls Try.prog 59 #[.slice (some ⟨g, 0, none⟩) n c, .int .i64 i, .int .i64 ((i : Int) + 1)] w fun e w' => e = .returned (.slice (some ⟨g, 0, none⟩) (n - 1) c) ∧ w'.ownsRow base 3 1 (.slice (some ⟨g, 0, none⟩) (n - 1) c) (n - 1) (iv (l.eraseIdx i)) ∧ Keeps (· = g) w w' := by
  have hfin := own_del h hl hi
  simp only [Nat.mul_one] at hfin
  have hx : (iv l).length = n := by rw [iv_len, hl]
  have hdl : ((iv l).drop ((i + 1))).length = (n - (i + 1)) := by rw [List.length_drop, hx]
  obtain ⟨cur, hb, hcs, hnc, hmx, htk⟩ : ∃ cur, w.heap[g]? = some (.cells cur 3 (0, 0)) ∧ cur.size = c ∧ n ≤ c ∧ c ≤ maxLen ∧ List.take (n) cur.toList = iv l := by
    rcases h.2 with ⟨h0, _⟩ | ⟨g', cap', cur, e, hb, hg, hn, hm, hcs, ht⟩
    · cases h0
    · injection e with e1 e2 e3
      injection e1 with e1
      injection e1 with e1
      subst e1 e3
      exact ⟨cur, hg, by rw [hcs, Nat.mul_one], hn, hm, by rw [← ht, Nat.mul_one]⟩
  have hcell : ∀ j, j < c → (w.cell? ⟨g, j, none⟩).isSome = true := fun j hj => by rw [blk_cell hb]; simp [hcs]; omega
  have hval : ∀ j, j < n → w.cell? ⟨g, j, none⟩ = (iv l)[j]? := fun j hj => by
    rw [blk_cell hb, ← htk, List.getElem?_take, if_pos hj]
    simp
  have hfree : ∀ j, w.frozen? ⟨g, j, none⟩ = false := fun j => blk_free hb j
  generalize hnews : (iv l).drop ((i + 1)) = news at hfin hdl
  have hone : ∀ u ∈ news, u.oneCell' = true := by
    intro u hu
    rw [← hnews] at hu
    exact iv_one u (List.mem_of_mem_drop hu)
  obtain ⟨AD, hAD, hsrc⟩ : ∃ A : Addr, (if c = i + 1 then some (⟨g, 0, none⟩ : Addr) else some ⟨g, (i + 1), none⟩) = some A ∧ Hid (∀ t u, news[t]? = some u → w.drew.cell? (A.add t) = some u) := by
    by_cases hci : c = i + 1
    · refine ⟨⟨g, 0, none⟩, by simp [hci], fun t u hu => ?_⟩
      have h0 : news.length = 0 := by rw [hdl]; omega
      rw [List.length_eq_zero_iff.1 h0] at hu
      simp at hu
    · refine ⟨⟨g, (i + 1), none⟩, by simp [hci], fun t u hu => ?_⟩
      have ht : t < news.length := (List.getElem?_eq_some_iff.1 hu).1
      rw [hdl] at ht
      rw [addr_at]
      show w.cell? _ = _
      rw [hval _ (by omega), ← hu, ← hnews, List.getElem?_drop]
  obtain ⟨i0, hi0, hz1⟩ : ∃ i0, Try.prog.info? 3 = some i0 ∧ i0.size = 1 := by
    have := Try.infoAct
    cases h9 : Try.prog.info? 3 with
    | none => rw [h9] at this; cases this
    | some i0 => rw [h9] at this; exact ⟨i0, rfl, by simpa using this⟩
  have s3 : Hid (∀ t, t < news.length → (w.drew.cell? ⟨g, 0 + i * 1 + t, none⟩).isSome = true ∧ w.drew.frozen? ⟨g, 0 + i * 1 + t, none⟩ = false) := by
    intro t ht
    rw [hdl] at ht
    exact ⟨hcell _ (by omega), hfree _⟩
  obtain ⟨W1, hW1⟩ : ∃ W1, W1 = w.drew.setCells g (0 + i * 1) news := ⟨_, rfl⟩
  have hW1s : W1 = setsFrom w.drew g i news := by rw [hW1, setsFrom_eq, Nat.zero_add, Nat.mul_one]
  obtain ⟨cur2, hb2, hcs2⟩ : ∃ cur2, W1.heap[g]? = some (.cells cur2 3 (0, 0)) ∧ cur2.size = c := by
    have hbd : w.drew.heap[g]? = some (.cells cur 3 (0, 0)) := hb
    obtain ⟨c', h1, h2⟩ := setsFrom_block g 3 news i w.drew cur hbd (by rw [hdl, hcs]; omega)
    refine ⟨c', by rw [hW1s]; exact h1, ?_⟩
    have := congrArg List.length h2
    simp only [List.length_append, List.length_take, List.length_drop, Array.length_toList, hdl, hcs] at this
    omega
  have hcl : ∀ ty cc, (Builtin.clear_ #[24] ty #[.slice (some ⟨g, (n - 1), none⟩) 1 cc]).run Try.prog W1 = .ok (.tuple #[]) (W1.setCells g ((n - 1)) zeroAct) :=
    fun ty cc => clear_act W1 ty g _ cc (fun j hj => by rw [blk_cell hb2]; simp [hcs2]; omega) (fun j _ => blk_free hb2 _)
  have hE : Hid ((W1.setCells g ((n - 1)) zeroAct).ownsRow base 3 1 (.slice (some ⟨g, 0, none⟩) (n - 1) c) (n - 1) (iv (l.eraseIdx i)) ∧ Keeps (· = g) w (W1.setCells g ((n - 1)) zeroAct)) := by
    rw [setsFrom_eq, hW1s]
    exact ⟨hfin, ((Keeps.drew (· = g) w).trans (setsFrom_keeps g news i _) (fun _ f _ => f)).trans (setsFrom_keeps g zeroAct _ _) (fun _ f _ => f)⟩
  have hW : Hid (W1 = w.drew.setCells g (0 + i * 1) news) := hW1
  have hmix : Try.prog.follows Departure.mixedOrders = true := by kernel_rfl
  have q1 : (i : Int) < (n : Int) := by omega
  have q2 : (i : Int) + 1 ≤ (n : Int) := by omega
  have q3 : (n : Int) ≤ (c : Int) := by omega
  have q4 : i + 1 ≤ c := by omega
  have q0 : 0 ≤ (i : Int) + 1 := by omega
  have q7 : 0 ≤ (i : Int) := by omega
  have q5 : i ≤ c := by omega
  have q6 : i + 1 ≤ n := by omega
  have s1 : Hid (news.length = (n - (i + 1))) := hdl
  have HO : Hid _ := hone
  clear h hfin hx hdl hb hcs hmx htk hcell hval hfree hnews hone hW1 hW1s hb2 hcs2
  go_enter Try.func59, Try.ntmps59
  go_wp2_with fail
  go_region_law_o (refine step_append_room rfl (.tmp 22) (.tmp 25) 24 rfl 3 i0 1 Try.underlying24 hi0 hz1 g 0 i c (by simp [Act.eval, Act.put]) AD (n - (i + 1)) (c - (i + 1)) news (by simp [Act.eval, Act.put]) (by rw [Nat.mul_one]; exact s1.out) hsrc.out HO.out (by omega) s3.out ?_; rw [← hW.out])
  have E1 : i + (n - (i + 1)) = n - 1 := by omega
  rw [E1]
  have q8 : ¬ c = n - 1 := by omega
  have q9 : n - 1 ≤ n := by omega
  have qa : n - (n - 1) = 1 := by omega
  have qb : n ≤ c := by omega
  have qc : ((n - 1 : Nat) : Int) ≤ (n : Int) := by omega
  go_wp2_with fail
  go_ret
  exact ⟨rfl, hE.out.1, hE.out.2⟩
end Go.Proofs.Ytdiabpoafennlab
/-! Plain facts on 64-bit numbers and on the sixteen operations: no program in sight. -/
namespace Go.PlainOps
open Go.RowKit

abbrev bv (x : Int) : BitVec 64 := BitVec.ofInt 64 x
theorem toInt_bv {x : Int} (h0 : -9223372036854775808 ≤ x) (h1 : x ≤ 9223372036854775807) : (bv x).toInt = x := by
  apply BitVec.toInt_ofInt_eq_self (by decide) <;> omega
theorem bv_bounds (v : BitVec 64) : -9223372036854775808 ≤ v.toInt ∧ v.toInt ≤ 9223372036854775807 := by
  have h1 := BitVec.le_toInt v
  have h2 := BitVec.toInt_lt (x := v)
  constructor <;> omega
theorem wrap64_bv (x : Int) : wrap64 x = (bv x).toInt := by
  unfold bv
  rw [BitVec.toInt_ofInt]; unfold wrap64; simp [Int.bmod]; omega
theorem wrap_i64 (x : Int) : IntKind.i64.wrap x = (bv x).toInt := by
  rw [← wrap64_bv]; simp [IntKind.wrap, IntKind.bits, IntKind.signed, wrap64]; omega
theorem bv_toNat (v : BitVec 64) : bv (v.toNat : Int) = v := by
  apply BitVec.eq_of_toNat_eq; simp [bv]
theorem bits_and (a b : Int) : bits .and .i64 a b = (bv a &&& bv b).toInt := by
  show IntKind.i64.wrap ((bv a &&& bv b).toNat : Int) = _
  rw [wrap_i64, bv_toNat]
theorem bits_or (a b : Int) : bits .or .i64 a b = (bv a ||| bv b).toInt := by
  show IntKind.i64.wrap ((bv a ||| bv b).toNat : Int) = _
  rw [wrap_i64, bv_toNat]
theorem bits_xor (a b : Int) : bits .xor .i64 a b = (bv a ^^^ bv b).toInt := by
  show IntKind.i64.wrap ((bv a ^^^ bv b).toNat : Int) = _
  rw [wrap_i64, bv_toNat]
theorem bv_toInt (v : BitVec 64) : bv v.toInt = v := BitVec.ofInt_toInt
theorem bv_add (a b : Int) : bv (a + b) = bv a + bv b := BitVec.ofInt_add a b
theorem bv_mul (a b : Int) : bv (a * b) = bv a * bv b := BitVec.ofInt_mul a b
theorem bv_sub (a b : Int) : bv (a - b) = bv a - bv b := by
  rw [Int.sub_eq_add_neg, bv_add]; simp [bv, BitVec.ofInt_neg, BitVec.sub_eq_add_neg]
theorem split_and (a b : BitVec 64) : (a &&& ~~~b) + (a &&& b) = a := by
  rw [BitVec.add_eq_or_of_and_eq_zero]
  · ext i; simp; cases a[i] <;> cases b[i] <;> rfl
  · ext i; simp; cases a[i] <;> cases b[i] <;> simp
theorem and_add_or (a b : BitVec 64) : (a &&& b) + (a ||| b) = a + b := by
  have h1 : (a &&& ~~~b) + b = a ||| b := by
    rw [BitVec.add_eq_or_of_and_eq_zero]
    · ext i; simp; cases a[i] <;> cases b[i] <;> rfl
    · ext i; simp
  rw [← h1]
  conv => rhs; rw [← split_and a b]
  rw [← BitVec.add_assoc, BitVec.add_comm (a &&& b)]
theorem or_sub_and (a b : BitVec 64) : (a ||| b) - (a &&& b) = a ^^^ b := by
  have h1 : (a ^^^ b) + (a &&& b) = a ||| b := by
    rw [BitVec.add_eq_or_of_and_eq_zero]
    · ext i; simp; cases a[i] <;> cases b[i] <;> rfl
    · ext i; simp; cases a[i] <;> cases b[i] <;> simp
  rw [← h1, BitVec.add_sub_cancel]
/-- The low six bits are the remainder modulo 64. -/
theorem and63 (x : Int) : bits .and .i64 x 63 = x % 64 := by
  rw [bits_and]
  have e : ((bv x) &&& (bv 63)).toNat = (bv x).toNat % 64 := by
    rw [BitVec.toNat_and]
    exact Nat.and_two_pow_sub_one_eq_mod _ 6
  have hx : ((bv x).toNat : Int) = x % 18446744073709551616 := by
    simp [bv]; omega
  rw [BitVec.toInt_eq_toNat_of_lt (by omega), e]
  omega

/-! The value of an operation. -/
def quotV (a b : Int) : Int := if b = 0 then 0 else wrap64 (a.tdiv b)
def remV (a b : Int) : Int := if b = 0 then a else a.tmod b
def shlV (a b : Int) : Int := wrap64 (a * 2 ^ (b % 64).toNat)
def shrV (a b : Int) : Int := a / 2 ^ (b % 64).toNat
def minV (a b : Int) : Int := if b < a then b else a
def maxV (a b : Int) : Int := if a < b then b else a
def truthV (b : Bool) : Int := if b then 1 else 0
def workV (op a b : Int) : Int :=
  if op = 0 then wrap64 (a + b)
  else if op = 1 then wrap64 (a - b)
  else if op = 2 then wrap64 (a * b)
  else if op = 3 then quotV a b
  else if op = 4 then remV a b
  else if op = 5 then bits .and .i64 a b
  else if op = 6 then bits .or .i64 a b
  else if op = 7 then bits .xor .i64 a b
  else if op = 8 then shlV a b
  else if op = 9 then shrV a b
  else if op = 10 then minV a b
  else if op = 11 then maxV a b
  else if op = 12 then truthV (decide (a < b))
  else if op = 13 then truthV (decide (a ≤ b))
  else if op = 14 then truthV (a == b)
  else truthV (a != b)
def isOpV (op : Int) : Bool := decide (0 ≤ op ∧ op < 16)
/-- Has the number a unit? -/
def hasU (op : Int) : Bool := op == 0 || op == 2 || op == 5 || op == 6 || op == 7 || op == 10 || op == 11
def unitV (op : Int) : Int :=
  if op = 2 then 1 else if op = 5 then -1 else if op = 10 then 9223372036854775807 else if op = 11 then -9223372036854775808 else 0
def modV (x n : Int) : Int := if n < 1 then 0 else x % n
theorem modV_bounds (x n : Int) (hn : 1 ≤ n) : 0 ≤ modV x n ∧ modV x n < n := by
  unfold modV; rw [if_neg (by omega)]
  exact ⟨Int.emod_nonneg _ (by omega), Int.emod_lt_of_pos _ (by omega)⟩
theorem tmod_mod (x n : Int) (hn : 1 ≤ n) : (if x.tmod n < 0 then x.tmod n + n else x.tmod n) = x % n := by
  rw [Int.tmod_eq_emod]
  have h0 := Int.emod_nonneg x (b := n) (by omega)
  have h1 := Int.emod_lt_of_pos x (b := n) (by omega)
  have e : (n.natAbs : Int) = n := by omega
  split <;> split <;> rename_i h2
  · rename_i h3; omega
  · omega
  · omega
  · omega
theorem tmod_bounds (x n : Int) (hn : 1 ≤ n) : -n < x.tmod n ∧ x.tmod n < n := by
  rw [Int.tmod_eq_emod]
  have h0 := Int.emod_nonneg x (b := n) (by omega)
  have h1 := Int.emod_lt_of_pos x (b := n) (by omega)
  split <;> omega
end Go.PlainOps
/-! The contract of ops.Mod. -/
namespace Go.Proofs.Ytdiabpoafennlab
open Go.RowKit Go.PlainOps

set_option maxHeartbeats 400000 in
theorem mod_any (x n : Int) (w : World) (hn : n ≤ 9223372036854775807) : Calls Try.prog 57 #[.int .i64 x, .int .i64 n] w fun e w' => e = .returned (.int .i64 (modV x n)) ∧ w' = w := by
  by_cases h : n < 1
  · go_enter Try.func57, Try.ntmps57
    go_wp2
    go_ret
    exact ⟨by simp [modV, h], rfl⟩
  · have h1 := tmod_mod x n (by omega)
    obtain ⟨b0, b1⟩ := tmod_bounds x n (by omega)
    have e : modV x n = (if x.tmod n < 0 then x.tmod n + n else x.tmod n) := by rw [h1]; simp [modV, h]
    have E : Hid (modV x n = (if x.tmod n < 0 then x.tmod n + n else x.tmod n)) := e
    clear e h1
    by_cases hr : x.tmod n < 0
    · go_enter Try.func57, Try.ntmps57
      go_wp2
      go_ret
      exact ⟨by rw [E.out, if_pos hr]; rfl, rfl⟩
    · go_enter Try.func57, Try.ntmps57
      go_wp2
      go_ret
      exact ⟨by rw [E.out, if_neg (by omega)]; rfl, rfl⟩
end Go.Proofs.Ytdiabpoafennlab
