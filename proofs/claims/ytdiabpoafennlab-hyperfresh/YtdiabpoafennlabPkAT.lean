import Derived.Test.YtdiabpoafennlabPkAS
import Derived.WalkMore
import Derived.Deep.RegionHeld3
import Derived.Deep.DeepCutAuto
import Derived.Test.YtdiabpoafennlabPkAC
/-! The player's small calls: a new view, which is in hand, which task is there, its end, the next pick. -/
namespace Go.Proofs.Ytdiabpoafennlab.Nm
set_option linter.unusedVariables false
set_option maxRecDepth 20000
set_option linter.unusedSimpArgs false
open Go.RowKit Go.HeapKit Go.PlainOps

theorem PM.c0 {w : World} {base pb : Nat} {st : List Bool} {X : PX} {K : NP} {H R : Nat → Value} {s : PS} (h : PM w base pb st X K H R s) : w.cell? ⟨pb, 0, none⟩ = some (.func (.func 51) #[] #[.pointer (some ⟨K.pu, 0, none⟩)]) ∧ w.cell? ⟨pb, 1, none⟩ = some (.func (.func 49) #[] #[.pointer (some ⟨K.pa, 0, none⟩)]) ∧ w.cell? ⟨pb, 2, none⟩ = some (.func (.func 49) #[] #[.pointer (some ⟨K.pa, 0, none⟩)]) ∧ w.cell? ⟨pb, 3, none⟩ = some (.func (.func 52) #[] #[]) ∧
    w.cell? ⟨pb, 4, none⟩ = some (.slice X.sa st.length X.sc) ∧ w.cell? ⟨pb, 5, none⟩ = some (.slice X.pa s.pk.length X.pc) ∧ w.cell? ⟨pb, 6, none⟩ = some (.slice X.va s.vs.length X.vc) ∧ w.cell? ⟨pb, 7, none⟩ = some (.slice X.ta s.tk.length X.tc) ∧ w.cell? ⟨pb, 8, none⟩ = some (.int .i64 s.spn) ∧ w.cell? ⟨pb, 9, none⟩ = some (.slice X.ma s.mg.length X.mc) ∧ w.cell? ⟨pb, 10, none⟩ = some (.slice X.la s.lk.length X.lc) :=
  ⟨h.cell 0, h.cell 1, h.cell 2, h.cell 3, h.cell 4, h.cell 5, h.cell 6, h.cell 7, h.cell 8, h.cell 9, h.cell 10⟩
set_option maxHeartbeats 1600000 in
theorem newView_ok (base pb : Nat) (st : List Bool) (X : PX) (K : NP) (H R : Nat → Value) (s : PS) (w : World) (h : PM w base pb st X K H R s) (hb : base ≤ w.heap.size) (hn : s.vs.length ≤ 100000) :
    Calls Try.prog 45 #[.pointer (some ⟨pb, 0, none⟩)] w fun e w' => e = .returned (.int .i64 s.vs.length) ∧ (∃ X', PM w' base pb st X' K H R { s with vs := s.vs ++ [[]] } ∧ X'.ta = X.ta) ∧ Keeps (fun i => base ≤ i) w w' := by
  obtain ⟨q0, -, -, -, -, -, q6, -, -, -, -⟩ := h.c0
  have hf6 := h.free 6
  have HK0 : Hid (Keeps (fun i => base ≤ i) w (w.drew)) := Keeps.drew _ w
  have hd : PM (w.drew.alloc (.cells #[.int .i64 (unitV K.op)] 2)) base pb st X K H R s := h.more ((Keeps.drew None w).andAlloc _)
  obtain ⟨g, cap, w1, hr, ho, hk, hm⟩ := fvs_more K base X.va X.vc s.vs (unitV K.op) 28 w.drew.heap.size (w.drew.alloc (.cells #[.int .i64 (unitV K.op)] 2)) hd.vw.views (by simp; show base ≤ w.heap.size + 1; omega) (by omega) (blk_new _ _ _ rfl)
  have hP := hd.newView ho hk hm
  have hb1 := blk_other hd.blk hk (onlyT_own hd.vw.views) (by decide)
  have q61 : w1.cell? ⟨pb, 6, none⟩ = some (.slice X.va s.vs.length X.vc) := blk_cell hb1 6
  have q01 : w1.cell? ⟨pb, 0, none⟩ = some (.func (.func 51) #[] #[.pointer (some ⟨K.pu, 0, none⟩)]) := blk_cell hb1 0
  have hf61 : w1.frozen? ⟨pb, 6, none⟩ = false := blk_free hb1 6
  have hlo := hd.vw.views
  have q0A : (w.drew.alloc (.cells #[.int .i64 (unitV K.op)] 2)).cell? ⟨pb, 0, none⟩ = some (.func (.func 51) #[] #[.pointer (some ⟨K.pu, 0, none⟩)]) := hd.c0.1
  have q0F := hP.c0.1
  have q6A : (w.alloc (.cells #[.int .i64 (unitV K.op)] 2)).cell? ⟨pb, 6, none⟩ = some (.slice X.va s.vs.length X.vc) := hd.c0.2.2.2.2.2.2.1
  have HF : Hid (PM (w1.setCell ⟨pb, 6, none⟩ (.slice (some ⟨g, 0, none⟩) (s.vs.length + 1) cap)) base pb st { X with va := some ⟨g, 0, none⟩, vc := cap } K H R { s with vs := s.vs ++ [[]] } ∧ Keeps (fun i => base ≤ i) w (w1.setCell ⟨pb, 6, none⟩ (.slice (some ⟨g, 0, none⟩) (s.vs.length + 1) cap))) :=
    ⟨hP, ((((Keeps.drew (fun i => base ≤ i) w).andAlloc _).trans hk (fun i e _ => row_low hlo e)).andSet (x := ⟨pb, 6, none⟩) (.inl h.low) _)⟩
  have q62 : (w1.setCell ⟨pb, 6, none⟩ (.slice (some ⟨g, 0, none⟩) (s.vs.length + 1) cap)).cell? ⟨pb, 6, none⟩ = some (.slice (some ⟨g, 0, none⟩) (s.vs ++ [[]]).length cap) := hP.c0.2.2.2.2.2.2.1
  rw [List.length_append, List.length_singleton] at q62
  have HN : Hid (s.vs.length ≤ 100000) := hn
  have HB2 : Hid (w.drew.cell? ⟨K.pu, 0, none⟩ = some (.int .i64 (unitV K.op))) := (Keeps.drew None w).cell h.ar.b2 (fun f => f)
  have hw : wrap64 (((s.vs.length + 1 : Nat) : Int) - 1) = ((s.vs.length : Nat) : Int) := by unfold wrap64; omega
  clear hP hd ho hk hm hb1 hlo h hb
  go_enter Try.func45, Try.ntmps45
  go_upto_region 1 with fail
  refine wp_region_held_drew (S := (fun w' => w'.cell? ⟨pb, 0, none⟩ = some (.func (.func 51) #[] #[.pointer (some ⟨K.pu, 0, none⟩)]))) (by kernel_rfl) ?_ (fun hHeld => ?_)
  · (try dsimp only); first | exact q0 | exact q0A | exact q01 | exact q0F
  refine wpAnyH_take (i := 0) (oi := { dst := some 3, op := Op.move (Operand.tmp 0), type := 77, pos := "play.go:66", after := #[], guard := none }) (v := ?_) rfl (by kernel_rfl) (by kernel_rfl) (by kernel_rfl) (fun _ _ _ h => h) (Or.inl ⟨by rfl, ?_⟩) (by assumption) ?_
  rotate_left
  · (intro wz hSw; (try dsimp only at hSw); go_simp; try with_reducible rfl)
  simp only [Act.put, List.setIfInBounds_toArray, List.set_cons_zero, List.set_cons_succ]
  refine wpAnyH_take (i := 1) (oi := { dst := some 4, op := Op.move (Operand.tmp 0), type := 77, pos := "play.go:66", after := #[], guard := none }) (v := ?_) rfl (by kernel_rfl) (by kernel_rfl) (by kernel_rfl) (fun _ _ _ h => h) (Or.inl ⟨by rfl, ?_⟩) (by assumption) ?_
  rotate_left
  · (intro wz hSw; (try dsimp only at hSw); go_simp; try with_reducible rfl)
  simp only [Act.put, List.setIfInBounds_toArray, List.set_cons_zero, List.set_cons_succ]
  refine wpAnyH_take (i := 2) (oi := { dst := some 5, op := Op.nilCheck (Operand.tmp 4), type := 0, pos := "play.go:66", after := #[{ on := 1, ground := Ground.data }], guard := none }) (v := ?_) rfl (by kernel_rfl) (by kernel_rfl) (by kernel_rfl) (fun _ _ _ h => h) (Or.inl ⟨by rfl, ?_⟩) (by assumption) ?_
  rotate_left
  · (intro wz hSw; (try dsimp only at hSw); go_simp; try with_reducible rfl)
  simp only [Act.put, List.setIfInBounds_toArray, List.set_cons_zero, List.set_cons_succ]
  refine wpAnyH_take (i := 3) (oi := { dst := some 6, op := Op.fieldAddr 76 (Operand.tmp 5) 3, type := 0, pos := "play.go:66", after := #[{ on := 2, ground := Ground.data }], guard := none }) (v := ?_) rfl (by kernel_rfl) (by kernel_rfl) (by kernel_rfl) (fun _ _ _ h => h) (Or.inl ⟨by rfl, ?_⟩) (by assumption) ?_
  rotate_left
  · (intro wz hSw; (try dsimp only at hSw); go_simp; try with_reducible rfl)
  simp only [Act.put, List.setIfInBounds_toArray, List.set_cons_zero, List.set_cons_succ]
  refine wpAnyH_take (i := 5) (oi := { dst := some 8, op := Op.move (Operand.tmp 0), type := 77, pos := "play.go:66", after := #[], guard := none }) (v := ?_) rfl (by kernel_rfl) (by kernel_rfl) (by kernel_rfl) (fun _ _ _ h => h) (Or.inl ⟨by rfl, ?_⟩) (by assumption) ?_
  rotate_left
  · (intro wz hSw; (try dsimp only at hSw); go_simp; try with_reducible rfl)
  simp only [Act.put, List.setIfInBounds_toArray, List.set_cons_zero, List.set_cons_succ]
  refine wpAnyH_take (i := 6) (oi := { dst := some 9, op := Op.nilCheck (Operand.tmp 8), type := 0, pos := "play.go:66", after := #[{ on := 5, ground := Ground.data }], guard := none }) (v := ?_) rfl (by kernel_rfl) (by kernel_rfl) (by kernel_rfl) (fun _ _ _ h => h) (Or.inl ⟨by rfl, ?_⟩) (by assumption) ?_
  rotate_left
  · (intro wz hSw; (try dsimp only at hSw); go_simp; try with_reducible rfl)
  simp only [Act.put, List.setIfInBounds_toArray, List.set_cons_zero, List.set_cons_succ]
  refine wpAnyH_take (i := 7) (oi := { dst := some 10, op := Op.fieldAddr 76 (Operand.tmp 9) 0, type := 0, pos := "play.go:66", after := #[{ on := 6, ground := Ground.data }], guard := none }) (v := ?_) rfl (by kernel_rfl) (by kernel_rfl) (by kernel_rfl) (fun _ _ _ h => h) (Or.inl ⟨by rfl, ?_⟩) (by assumption) ?_
  rotate_left
  · (intro wz hSw; (try dsimp only at hSw); go_simp; try with_reducible rfl)
  simp only [Act.put, List.setIfInBounds_toArray, List.set_cons_zero, List.set_cons_succ]
  refine wpAnyH_take (i := 8) (oi := { dst := some 11, op := Op.fieldAddr 74 (Operand.tmp 10) 0, type := 0, pos := "play.go:66", after := #[{ on := 7, ground := Ground.data }], guard := none }) (v := ?_) rfl (by kernel_rfl) (by kernel_rfl) (by kernel_rfl) (fun _ _ _ h => h) (Or.inl ⟨by rfl, ?_⟩) (by assumption) ?_
  rotate_left
  · (intro wz hSw; (try dsimp only at hSw); go_simp; try with_reducible rfl)
  simp only [Act.put, List.setIfInBounds_toArray, List.set_cons_zero, List.set_cons_succ]
  refine wpAnyH_take (i := 9) (oi := { dst := some 12, op := Op.load 70 (Operand.tmp 11), type := 70, pos := "play.go:66", after := #[{ on := 8, ground := Ground.data }], guard := none }) (v := ?_) rfl (by kernel_rfl) (by kernel_rfl) (by kernel_rfl) (fun _ _ _ h => h) (Or.inl ⟨by rfl, ?_⟩) (by assumption) ?_
  rotate_left
  · (intro wz hSw; (try dsimp only at hSw); go_simp; try with_reducible rfl)
  simp only [Act.put, List.setIfInBounds_toArray, List.set_cons_zero, List.set_cons_succ]
  refine wpAnyH_ready (rs := [4, 10]) (by kernel_rfl) (by simp) ?_
  refine AllReadyH.cons (o := { dst := some 7, op := Op.load 28 (Operand.tmp 6), type := 28, pos := "play.go:66", after := #[{ on := 3, ground := Ground.data }], guard := none }) rfl (fun K hK => ?_) ?_
  · go_simp
    refine hK.out _ _ ?_ (fun hHeld2 => ?_)
    · (try dsimp only); first | exact q0 | exact q0A | exact q01 | exact q0F
    clear hK K
    try simp only [Act.put, List.setIfInBounds_toArray, List.set_cons_zero, List.set_cons_succ]
    refine wpAnyH_ready (rs := [10]) (by kernel_rfl) (by simp) ?_
    refine AllReadyH.cons (o := _) rfl (fun K hK => ?_) ?_
    · go_simp
      refine (fresh_ok _ _ _ HB2.out).mono ?_
      rintro _ _ ⟨rfl, rfl⟩
      refine hK.out _ _ ?_ (fun hHeld2 => ?_)
      · (try dsimp only); first | exact q0 | exact q0A | exact q01 | exact q0F
      clear hK K
      try simp only [Act.put, List.setIfInBounds_toArray, List.set_cons_zero, List.set_cons_succ]
      refine wpAnyH_ready (rs := [11]) (by kernel_rfl) (by simp) ?_
      refine AllReadyH.cons (o := { dst := some 14, op := Op.buildSlice 28 1 #[(0, Operand.tmp 13)], type := 28, pos := "play.go:66", after := #[{ on := 10, ground := Ground.data }], guard := none }) rfl (fun K hK => ?_) ?_
      · go_simp
        refine hK.out _ _ ?_ (fun hHeld2 => ?_)
        · (try dsimp only); first | exact q0 | exact q0A | exact q01 | exact q0F
        clear hK K
        try simp only [Act.put, List.setIfInBounds_toArray, List.set_cons_zero, List.set_cons_succ]
        refine wpAnyH_ready (rs := [12]) (by kernel_rfl) (by simp) ?_
        refine AllReadyH.cons (o := _) rfl (fun K hK => ?_) ?_
        · refine step_append_run rfl (.tmp 7) (.tmp 14) 28 28 rfl (by first | rfl | simp [Act.eval]) (by first | rfl | simp [Act.eval]) hr ?_
          refine hK.out _ _ ?_ (fun hHeld2 => ?_)
          · (try dsimp only); first | exact q0 | exact q0A | exact q01 | exact q0F
          clear hK K
          try simp only [Act.put, List.setIfInBounds_toArray, List.set_cons_zero, List.set_cons_succ]
          refine wpAnyH_take (i := 13) (oi := _) (v := ?_) rfl (by kernel_rfl) (by kernel_rfl) (by kernel_rfl) (fun _ _ _ h => h) (Or.inl ⟨by rfl, ?_⟩) (by assumption) ?_
          rotate_left
          · (intro wz hSw; (try dsimp only at hSw); go_simp; try with_reducible rfl)
          simp only [Act.put, List.setIfInBounds_toArray, List.set_cons_zero, List.set_cons_succ]
          refine wpAnyH_take (i := 14) (oi := _) (v := ?_) rfl (by kernel_rfl) (by kernel_rfl) (by kernel_rfl) (fun _ _ _ h => h) (Or.inl ⟨by rfl, ?_⟩) (by assumption) ?_
          rotate_left
          · (intro wz hSw; (try dsimp only at hSw); go_simp; try with_reducible rfl)
          simp only [Act.put, List.setIfInBounds_toArray, List.set_cons_zero, List.set_cons_succ]
          refine wpAnyH_ready (rs := [15]) (by kernel_rfl) (by simp) ?_
          refine AllReadyH.cons (o := _) rfl (fun K hK => ?_) ?_
          · go_simp
            refine hK.out _ _ ?_ (fun hHeld2 => ?_)
            · (try dsimp only); first | exact q0 | exact q0A | exact q01 | exact q0F
            clear hK K
            try simp only [Act.put, List.setIfInBounds_toArray, List.set_cons_zero, List.set_cons_succ]
            refine wpAnyH_done (by kernel_rfl) ?_ _
            go_wp2_with fail
            go_ret
            exact ⟨rfl, ⟨_, HF.out.1, rfl⟩, HF.out.2⟩
          exact AllReadyH.nil
        exact AllReadyH.nil
      exact AllReadyH.nil
    exact AllReadyH.nil
  refine AllReadyH.cons (o := _) rfl (fun K hK => ?_) ?_
  · go_simp
    refine (fresh_ok _ _ _ HB2.out).mono ?_
    rintro _ _ ⟨rfl, rfl⟩
    refine hK.out _ _ ?_ (fun hHeld2 => ?_)
    · (try dsimp only); first | exact q0 | exact q0A | exact q01 | exact q0F
    clear hK K
    try simp only [Act.put, List.setIfInBounds_toArray, List.set_cons_zero, List.set_cons_succ]
    refine wpAnyH_ready (rs := [4, 11]) (by kernel_rfl) (by simp) ?_
    refine AllReadyH.cons (o := { dst := some 7, op := Op.load 28 (Operand.tmp 6), type := 28, pos := "play.go:66", after := #[{ on := 3, ground := Ground.data }], guard := none }) rfl (fun K hK => ?_) ?_
    · go_simp
      refine hK.out _ _ ?_ (fun hHeld2 => ?_)
      · (try dsimp only); first | exact q0 | exact q0A | exact q01 | exact q0F
      clear hK K
      try simp only [Act.put, List.setIfInBounds_toArray, List.set_cons_zero, List.set_cons_succ]
      refine wpAnyH_ready (rs := [11]) (by kernel_rfl) (by simp) ?_
      refine AllReadyH.cons (o := { dst := some 14, op := Op.buildSlice 28 1 #[(0, Operand.tmp 13)], type := 28, pos := "play.go:66", after := #[{ on := 10, ground := Ground.data }], guard := none }) rfl (fun K hK => ?_) ?_
      · go_simp
        refine hK.out _ _ ?_ (fun hHeld2 => ?_)
        · (try dsimp only); first | exact q0 | exact q0A | exact q01 | exact q0F
        clear hK K
        try simp only [Act.put, List.setIfInBounds_toArray, List.set_cons_zero, List.set_cons_succ]
        refine wpAnyH_ready (rs := [12]) (by kernel_rfl) (by simp) ?_
        refine AllReadyH.cons (o := _) rfl (fun K hK => ?_) ?_
        · refine step_append_run rfl (.tmp 7) (.tmp 14) 28 28 rfl (by first | rfl | simp [Act.eval]) (by first | rfl | simp [Act.eval]) hr ?_
          refine hK.out _ _ ?_ (fun hHeld2 => ?_)
          · (try dsimp only); first | exact q0 | exact q0A | exact q01 | exact q0F
          clear hK K
          try simp only [Act.put, List.setIfInBounds_toArray, List.set_cons_zero, List.set_cons_succ]
          refine wpAnyH_take (i := 13) (oi := _) (v := ?_) rfl (by kernel_rfl) (by kernel_rfl) (by kernel_rfl) (fun _ _ _ h => h) (Or.inl ⟨by rfl, ?_⟩) (by assumption) ?_
          rotate_left
          · (intro wz hSw; (try dsimp only at hSw); go_simp; try with_reducible rfl)
          simp only [Act.put, List.setIfInBounds_toArray, List.set_cons_zero, List.set_cons_succ]
          refine wpAnyH_take (i := 14) (oi := _) (v := ?_) rfl (by kernel_rfl) (by kernel_rfl) (by kernel_rfl) (fun _ _ _ h => h) (Or.inl ⟨by rfl, ?_⟩) (by assumption) ?_
          rotate_left
          · (intro wz hSw; (try dsimp only at hSw); go_simp; try with_reducible rfl)
          simp only [Act.put, List.setIfInBounds_toArray, List.set_cons_zero, List.set_cons_succ]
          refine wpAnyH_ready (rs := [15]) (by kernel_rfl) (by simp) ?_
          refine AllReadyH.cons (o := _) rfl (fun K hK => ?_) ?_
          · go_simp
            refine hK.out _ _ ?_ (fun hHeld2 => ?_)
            · (try dsimp only); first | exact q0 | exact q0A | exact q01 | exact q0F
            clear hK K
            try simp only [Act.put, List.setIfInBounds_toArray, List.set_cons_zero, List.set_cons_succ]
            refine wpAnyH_done (by kernel_rfl) ?_ _
            go_wp2_with fail
            go_ret
            exact ⟨rfl, ⟨_, HF.out.1, rfl⟩, HF.out.2⟩
          exact AllReadyH.nil
        exact AllReadyH.nil
      exact AllReadyH.nil
    refine AllReadyH.cons (o := { dst := some 14, op := Op.buildSlice 28 1 #[(0, Operand.tmp 13)], type := 28, pos := "play.go:66", after := #[{ on := 10, ground := Ground.data }], guard := none }) rfl (fun K hK => ?_) ?_
    · go_simp
      refine hK.out _ _ ?_ (fun hHeld2 => ?_)
      · (try dsimp only); first | exact q0 | exact q0A | exact q01 | exact q0F
      clear hK K
      try simp only [Act.put, List.setIfInBounds_toArray, List.set_cons_zero, List.set_cons_succ]
      refine wpAnyH_ready (rs := [4]) (by kernel_rfl) (by simp) ?_
      refine AllReadyH.cons (o := { dst := some 7, op := Op.load 28 (Operand.tmp 6), type := 28, pos := "play.go:66", after := #[{ on := 3, ground := Ground.data }], guard := none }) rfl (fun K hK => ?_) ?_
      · go_simp
        refine hK.out _ _ ?_ (fun hHeld2 => ?_)
        · (try dsimp only); first | exact q0 | exact q0A | exact q01 | exact q0F
        clear hK K
        try simp only [Act.put, List.setIfInBounds_toArray, List.set_cons_zero, List.set_cons_succ]
        refine wpAnyH_ready (rs := [12]) (by kernel_rfl) (by simp) ?_
        refine AllReadyH.cons (o := _) rfl (fun K hK => ?_) ?_
        · refine step_append_run rfl (.tmp 7) (.tmp 14) 28 28 rfl (by first | rfl | simp [Act.eval]) (by first | rfl | simp [Act.eval]) hr ?_
          refine hK.out _ _ ?_ (fun hHeld2 => ?_)
          · (try dsimp only); first | exact q0 | exact q0A | exact q01 | exact q0F
          clear hK K
          try simp only [Act.put, List.setIfInBounds_toArray, List.set_cons_zero, List.set_cons_succ]
          refine wpAnyH_take (i := 13) (oi := _) (v := ?_) rfl (by kernel_rfl) (by kernel_rfl) (by kernel_rfl) (fun _ _ _ h => h) (Or.inl ⟨by rfl, ?_⟩) (by assumption) ?_
          rotate_left
          · (intro wz hSw; (try dsimp only at hSw); go_simp; try with_reducible rfl)
          simp only [Act.put, List.setIfInBounds_toArray, List.set_cons_zero, List.set_cons_succ]
          refine wpAnyH_take (i := 14) (oi := _) (v := ?_) rfl (by kernel_rfl) (by kernel_rfl) (by kernel_rfl) (fun _ _ _ h => h) (Or.inl ⟨by rfl, ?_⟩) (by assumption) ?_
          rotate_left
          · (intro wz hSw; (try dsimp only at hSw); go_simp; try with_reducible rfl)
          simp only [Act.put, List.setIfInBounds_toArray, List.set_cons_zero, List.set_cons_succ]
          refine wpAnyH_ready (rs := [15]) (by kernel_rfl) (by simp) ?_
          refine AllReadyH.cons (o := _) rfl (fun K hK => ?_) ?_
          · go_simp
            refine hK.out _ _ ?_ (fun hHeld2 => ?_)
            · (try dsimp only); first | exact q0 | exact q0A | exact q01 | exact q0F
            clear hK K
            try simp only [Act.put, List.setIfInBounds_toArray, List.set_cons_zero, List.set_cons_succ]
            refine wpAnyH_done (by kernel_rfl) ?_ _
            go_wp2_with fail
            go_ret
            exact ⟨rfl, ⟨_, HF.out.1, rfl⟩, HF.out.2⟩
          exact AllReadyH.nil
        exact AllReadyH.nil
      exact AllReadyH.nil
    exact AllReadyH.nil
  exact AllReadyH.nil
end Go.Proofs.Ytdiabpoafennlab.Nm
/-! The player's small calls: which task is there, which view is in hand, a task's end, the next pick. -/
namespace Go.Proofs.Ytdiabpoafennlab.Nm
set_option linter.unusedVariables false
set_option maxRecDepth 20000
set_option linter.unusedSimpArgs false
open Go.RowKit Go.HeapKit Go.PlainOps

section
variable {w : World} {base pb : Nat} {st : List Bool} {X : PX} {K : NP} {H R : Nat → Value} {s : PS}
/-- The current task in memory. -/
theorem PM.cur (h : PM w base pb st X K H R s) {tk : List (Nat × List Nat)} {x : Nat × List Nat} (hx : s.tk = tk ++ [x]) : ∃ tb, X.ta = some ⟨tb, 0, none⟩ ∧ base ≤ tb ∧ tb < w.heap.size ∧ tk.length + 1 ≤ X.tc ∧ w.cell? ⟨tb, tk.length * 2, none⟩ = some (.int .i64 x.1) ∧ w.cell? ⟨tb, tk.length * 2 + 1, none⟩ = some (H tk.length) ∧ ∀ i, w.frozen? ⟨tb, i, none⟩ = false := by
  have hl : s.tk.length = tk.length + 1 := by rw [hx]; simp
  obtain ⟨g, e, h1, h2, h3, h4, h5⟩ := own_cellS h.tk.tks (k := tk.length * 2) (range_get _ (by omega))
  obtain ⟨g', e', _, _, _, h6, _⟩ := own_cellS h.tk.tks (k := tk.length * 2 + 1) (range_get _ (by omega))
  rw [e] at e'
  injection e' with e'
  injection e' with e'
  subst e'
  refine ⟨g, e, h1, h2, by omega, ?_, ?_, h5⟩
  · rw [h4]
    simp [tkF, hx]
  · rw [h6]
    simp [tkF, show (tk.length * 2 + 1) % 2 = 1 by omega, show (tk.length * 2 + 1) / 2 = tk.length by omega]
/-- The current task's row in memory. -/
theorem PM.curRow (h : PM w base pb st X K H R s) {tk : List (Nat × List Nat)} {sp : Nat} {r : List Nat} (hx : s.tk = tk ++ [(sp, r)]) : w.ownsRow base 3 1 (R tk.length) r.length (nv r) := by
  have := h.tk.rows tk.length (by rw [hx]; simp)
  rwa [hx, rowOf_more tk (sp, r) _ (by simp), if_pos rfl] at this
end
set_option maxHeartbeats 800000 in
theorem current_ok (base pb : Nat) (st : List Bool) (X : PX) (K : NP) (H R : Nat → Value) (s : PS) (w : World) (tb : Nat) (tk : List (Nat × List Nat)) (x : Nat × List Nat) (h : PM w base pb st X K H R s) (hx : s.tk = tk ++ [x]) (hta : X.ta = some ⟨tb, 0, none⟩) (hn : tk.length ≤ 100000) :
    Calls Try.prog 70 #[.pointer (some ⟨pb, 0, none⟩)] w fun e w' => e = .returned (.pointer (some ⟨tb, tk.length * 2, none⟩)) ∧ Keeps None w w' := by
  obtain ⟨-, -, -, -, -, -, -, q7, -, -, -⟩ := h.c0
  rw [hta, hx, List.length_append, List.length_singleton] at q7
  have hw : wrap64 (((tk.length + 1 : Nat) : Int) - 1) = ((tk.length : Nat) : Int) := by unfold wrap64; omega
  have hw2 : (tk.length : Int) < ((tk.length + 1 : Nat) : Int) := by omega
  clear h hx hta
  go_enter Try.func70, Try.ntmps70
  go_upto_region 1 with fail
  go_quiet (fail)
  go_wp2
  go_ret
  exact ⟨rfl, keeps_drewN _ _⟩
set_option maxHeartbeats 800000 in
theorem hand_ok (base pb : Nat) (st : List Bool) (X : PX) (K : NP) (R : Nat → Value) (s : PS) (w : World) (tk : List (Nat × List Nat)) (sp : Nat) (r : List Nat) (h : PM w base pb st X K R R s) (hx : s.tk = tk ++ [(sp, r)]) (hr : r ≠ []) (hn : tk.length ≤ 100000) (hn2 : r.length ≤ 100000) :
    Calls Try.prog 69 #[.pointer (some ⟨pb, 0, none⟩)] w fun e w' => e = .returned (.int .i64 (r.getLastD 0 : Nat)) ∧ Keeps None w w' := by
  obtain ⟨tb, hta, -, -, -, -, t1, -⟩ := h.cur hx
  have hrow := h.curRow hx
  obtain ⟨ra, rc, he⟩ := row_shape hrow
  have hpos : 0 < r.length := List.length_pos_iff.2 hr
  rw [he] at hrow t1
  obtain ⟨g, rfl, -, -, hrc, hc, -⟩ := own_cellS hrow (k := r.length - 1) (nv_at (last_at hr))
  obtain ⟨L, hL⟩ : ∃ L, L = r.getLastD 0 := ⟨_, rfl⟩
  rw [← hL] at hc ⊢
  have HP : Hid (PM w base pb st X K R R s ∧ s.tk = tk ++ [(sp, r)] ∧ X.ta = some ⟨tb, 0, none⟩) := ⟨h, hx, hta⟩
  have HC : Hid (w.cell? ⟨tb, tk.length * 2 + 1, none⟩ = some (.slice (some ⟨g, 0, none⟩) r.length rc) ∧ w.cell? ⟨g, r.length - 1, none⟩ = some (.int .i64 L)) := ⟨t1, hc⟩
  have hw : wrap64 ((r.length : Int) - 1) = ((r.length - 1 : Nat) : Int) := by unfold wrap64; omega
  have hw2 : ((r.length - 1 : Nat) : Int) < (r.length : Int) := by omega
  clear h hx hta t1 hc hrow he hr hL
  go_enter Try.func69, Try.ntmps69
  go_wp2_with fail
  refine (current_ok base pb st X K R R s w tb tk (sp, r) HP.out.1 HP.out.2.1 HP.out.2.2 hn).mono ?_
  rintro e w1 ⟨rfl, hk⟩
  have t1 := hk.cell HC.out.1 (fun f => f)
  have hc := hk.cell HC.out.2 (fun f => f)
  go_wp2
  go_ret
  exact ⟨rfl, hk⟩
set_option maxHeartbeats 800000 in
theorem pick_ok (base pb : Nat) (st : List Bool) (X : PX) (K : NP) (H R : Nat → Value) (s : PS) (w : World) (h : PM w base pb st X K H R s) :
    Calls Try.prog 71 #[.pointer (some ⟨pb, 0, none⟩)] w fun e w' => e = .returned (.int .i64 (s.pk.headD 0)) ∧ (∃ X', PM w' base pb st X' K H R { s with pk := s.pk.tail } ∧ X'.ta = X.ta) ∧ Keeps (· = pb) w w' := by
  obtain ⟨-, -, -, -, -, q5, -, -, -, -, -⟩ := h.c0
  have hf5 := h.free 5
  have hcap := h.ar.capP
  have HP : Hid (PM w base pb st X K H R s) := h
  cases hp : s.pk with
  | nil =>
    rw [hp] at q5
    have HX : Hid (s.pk = []) := hp
    clear h hp hcap
    go_enter Try.func71, Try.ntmps71
    go_wp2
    go_ret
    refine ⟨rfl, ⟨X, ?_, rfl⟩, Keeps.refl _ _⟩
    have e : ({ s with pk := [] } : PS) = s := by rw [← HX.out]
    simp only [List.tail_nil]
    rw [e]
    exact HP.out
  | cons x pk =>
    obtain ⟨b, off, v, ha, -, hv, hc⟩ := h.ar.seenP.at (k := 0) (by rw [hp]; simp)
    rw [hp] at hv q5 hcap
    rw [ha] at q5
    obtain rfl : .int .i64 x = v := by simpa [iv] using hv
    rw [Nat.add_zero] at hc
    have HN : Hid (PM (w.setCell ⟨pb, 5, none⟩ (.slice (if X.pc = 1 then some ⟨b, off, none⟩ else some ⟨b, off + 1, none⟩) pk.length (X.pc - 1))) base pb st { X with pa := if X.pc = 1 then some ⟨b, off, none⟩ else some ⟨b, off + 1, none⟩, pc := X.pc - 1 } K H R { s with pk := pk }) := h.nextPick hp ha
    rw [List.length_cons] at q5 hcap
    have hc1 : 1 ≤ X.pc := by omega
    have hle : pk.length + 1 ≤ X.pc := hcap
    have hsub : pk.length + 1 - 1 = pk.length := by omega
    clear h hp hv ha hcap
    by_cases e1 : X.pc = 1
    · have HE : Hid (X.pc = 1) := e1
      rw [e1] at q5 hc1 hle
      have HN2 : Hid (PM (w.setCell ⟨pb, 5, none⟩ (.slice (some ⟨b, off, none⟩) pk.length 0)) base pb st { X with pa := some ⟨b, off, none⟩, pc := 0 } K H R { s with pk := pk }) := by
        have := HN.out
        rw [e1] at this
        exact this
      clear HN e1
      go_enter Try.func71, Try.ntmps71
      go_wp2
      go_ret
      exact ⟨rfl, ⟨_, HN2.out, rfl⟩, (Keeps.refl (· = pb) w).andSet (x := ⟨pb, 5, none⟩) (.inl rfl) _⟩
    · have HN2 : Hid (PM (w.setCell ⟨pb, 5, none⟩ (.slice (some ⟨b, off + 1, none⟩) pk.length (X.pc - 1))) base pb st { X with pa := some ⟨b, off + 1, none⟩, pc := X.pc - 1 } K H R { s with pk := pk }) := by
        have := HN.out
        simp only [if_neg e1] at this
        exact this
      clear HN
      go_enter Try.func71, Try.ntmps71
      go_wp2
      go_ret
      exact ⟨rfl, ⟨_, HN2.out, rfl⟩, (Keeps.refl (· = pb) w).andSet (x := ⟨pb, 5, none⟩) (.inl rfl) _⟩
end Go.Proofs.Ytdiabpoafennlab.Nm
/-! A task's end. -/
namespace Go.Proofs.Ytdiabpoafennlab.Nm
set_option linter.unusedVariables false
set_option maxRecDepth 20000
set_option linter.unusedSimpArgs false
open Go.RowKit Go.HeapKit Go.PlainOps

set_option maxHeartbeats 1600000 in
theorem end_ok (base pb : Nat) (st : List Bool) (X : PX) (K : NP) (H R : Nat → Value) (s : PS) (w : World) (tk : List (Nat × List Nat)) (x : Nat × List Nat) (h : PM w base pb st X K H R s) (hx : s.tk = tk ++ [x]) (hn : tk.length ≤ 100000) :
    Calls Try.prog 48 #[.pointer (some ⟨pb, 0, none⟩)] w fun e w' => e = .returned (.int .i64 x.1) ∧ PM w' base pb st X K H R { s with tk := tk } ∧ Keeps (· = pb) w w' := by
  obtain ⟨tb, hta, -, -, htc, t0, -, -⟩ := h.cur hx
  have HP : Hid (PM w base pb st X K H R s ∧ s.tk = tk ++ [x] ∧ X.ta = some ⟨tb, 0, none⟩ ∧ w.cell? ⟨tb, tk.length * 2, none⟩ = some (.int .i64 x.1)) := ⟨h, hx, hta, t0⟩
  have hw : wrap64 (((tk.length + 1 : Nat) : Int) - 1) = ((tk.length : Nat) : Int) := by unfold wrap64; omega
  have hwA : IntKind.i64.wrap (tk.length : Int) = (tk.length : Int) := by rw [IntKind.wrap_i64]; omega
  have hw2 : (tk.length : Int) ≤ (X.tc : Int) := by omega
  have hw3 : (0 : Int) ≤ (tk.length : Int) := by omega
  have hw4 : tk.length ≤ X.tc := by omega
  clear h hx hta t0
  go_enter Try.func48, Try.ntmps48
  go_wp2_with fail
  refine (current_ok base pb st X K H R s w tb tk x HP.out.1 HP.out.2.1 HP.out.2.2.1 hn).mono ?_
  rintro e w1 ⟨rfl, hk⟩
  have t0 := hk.cell HP.out.2.2.2 (fun f => f)
  go_upto_region 2 with fail
  have h1 := HP.out.1.more hk
  obtain ⟨-, -, -, -, -, -, -, q7, -, -, -⟩ := h1.c0
  have f7 := h1.free 7
  rw [HP.out.2.2.1, HP.out.2.1, List.length_append, List.length_singleton] at q7
  have HF : Hid (PM (w1.setCell ⟨pb, 7, none⟩ (.slice (some ⟨tb, 0, none⟩) tk.length X.tc)) base pb st X K H R { s with tk := tk } ∧ Keeps (· = pb) w (w1.setCell ⟨pb, 7, none⟩ (.slice (some ⟨tb, 0, none⟩) tk.length X.tc))) := by
    have := h1.endTask HP.out.2.1
    rw [HP.out.2.2.1] at this
    exact ⟨this, (hk.mono (T := (· = pb)) (fun _ f _ => f.elim)).andSet (x := ⟨pb, 7, none⟩) (.inl rfl) _⟩
  clear h1 hk t0
  refine wp_region_held_drew (S := (fun _ => True)) (by kernel_rfl) ?_ (fun hHeld => ?_)
  · (try dsimp only); try trivial
  refine wpAnyH_take (i := 0) (oi := { dst := some 9, op := Op.move (Operand.tmp 0), type := 77, pos := "play.go:82", after := #[], guard := none }) (v := ?_) rfl (by kernel_rfl) (by kernel_rfl) (by kernel_rfl) (fun _ _ _ h => h) (Or.inl ⟨by rfl, ?_⟩) (by assumption) ?_
  rotate_left
  · (intro wz hSw; (try dsimp only at hSw); go_simp; try with_reducible rfl)
  simp only [Act.put, List.setIfInBounds_toArray, List.set_cons_zero, List.set_cons_succ]
  refine wpAnyH_take (i := 1) (oi := { dst := some 10, op := Op.move (Operand.tmp 0), type := 77, pos := "play.go:82", after := #[], guard := none }) (v := ?_) rfl (by kernel_rfl) (by kernel_rfl) (by kernel_rfl) (fun _ _ _ h => h) (Or.inl ⟨by rfl, ?_⟩) (by assumption) ?_
  rotate_left
  · (intro wz hSw; (try dsimp only at hSw); go_simp; try with_reducible rfl)
  simp only [Act.put, List.setIfInBounds_toArray, List.set_cons_zero, List.set_cons_succ]
  refine wpAnyH_take (i := 2) (oi := { dst := some 11, op := Op.nilCheck (Operand.tmp 10), type := 0, pos := "play.go:82", after := #[{ on := 1, ground := Ground.data }], guard := none }) (v := ?_) rfl (by kernel_rfl) (by kernel_rfl) (by kernel_rfl) (fun _ _ _ h => h) (Or.inl ⟨by rfl, ?_⟩) (by assumption) ?_
  rotate_left
  · (intro wz hSw; (try dsimp only at hSw); go_simp; try with_reducible rfl)
  simp only [Act.put, List.setIfInBounds_toArray, List.set_cons_zero, List.set_cons_succ]
  refine wpAnyH_take (i := 3) (oi := { dst := some 12, op := Op.fieldAddr 76 (Operand.tmp 11) 4, type := 0, pos := "play.go:82", after := #[{ on := 2, ground := Ground.data }], guard := none }) (v := ?_) rfl (by kernel_rfl) (by kernel_rfl) (by kernel_rfl) (fun _ _ _ h => h) (Or.inl ⟨by rfl, ?_⟩) (by assumption) ?_
  rotate_left
  · (intro wz hSw; (try dsimp only at hSw); go_simp; try with_reducible rfl)
  simp only [Act.put, List.setIfInBounds_toArray, List.set_cons_zero, List.set_cons_succ]
  refine wpAnyH_take (i := 5) (oi := { dst := some 14, op := Op.move (Operand.tmp 0), type := 77, pos := "play.go:82", after := #[], guard := none }) (v := ?_) rfl (by kernel_rfl) (by kernel_rfl) (by kernel_rfl) (fun _ _ _ h => h) (Or.inl ⟨by rfl, ?_⟩) (by assumption) ?_
  rotate_left
  · (intro wz hSw; (try dsimp only at hSw); go_simp; try with_reducible rfl)
  simp only [Act.put, List.setIfInBounds_toArray, List.set_cons_zero, List.set_cons_succ]
  refine wpAnyH_take (i := 6) (oi := { dst := some 15, op := Op.nilCheck (Operand.tmp 14), type := 0, pos := "play.go:82", after := #[{ on := 5, ground := Ground.data }], guard := none }) (v := ?_) rfl (by kernel_rfl) (by kernel_rfl) (by kernel_rfl) (fun _ _ _ h => h) (Or.inl ⟨by rfl, ?_⟩) (by assumption) ?_
  rotate_left
  · (intro wz hSw; (try dsimp only at hSw); go_simp; try with_reducible rfl)
  simp only [Act.put, List.setIfInBounds_toArray, List.set_cons_zero, List.set_cons_succ]
  refine wpAnyH_take (i := 7) (oi := { dst := some 16, op := Op.fieldAddr 76 (Operand.tmp 15) 4, type := 0, pos := "play.go:82", after := #[{ on := 6, ground := Ground.data }], guard := none }) (v := ?_) rfl (by kernel_rfl) (by kernel_rfl) (by kernel_rfl) (fun _ _ _ h => h) (Or.inl ⟨by rfl, ?_⟩) (by assumption) ?_
  rotate_left
  · (intro wz hSw; (try dsimp only at hSw); go_simp; try with_reducible rfl)
  simp only [Act.put, List.setIfInBounds_toArray, List.set_cons_zero, List.set_cons_succ]
  refine wpAnyH_ready (rs := [4, 8]) (by kernel_rfl) (by simp) ?_
  refine AllReadyH.cons (o := { dst := some 13, op := Op.load 57 (Operand.tmp 12), type := 57, pos := "play.go:82", after := #[{ on := 3, ground := Ground.data }], guard := none }) rfl (fun K hK => ?_) ?_
  · go_simp
    refine hK.out _ _ ?_ (fun hHeld2 => ?_)
    · (try dsimp only); try trivial
    clear hK K
    try simp only [Act.put, List.setIfInBounds_toArray, List.set_cons_zero, List.set_cons_succ]
    refine wpAnyH_ready (rs := [8]) (by kernel_rfl) (by simp) ?_
    refine AllReadyH.cons (o := { dst := some 17, op := Op.load 57 (Operand.tmp 16), type := 57, pos := "play.go:82", after := #[{ on := 7, ground := Ground.data }], guard := none }) rfl (fun K hK => ?_) ?_
    · go_simp
      refine hK.out _ _ ?_ (fun hHeld2 => ?_)
      · (try dsimp only); try trivial
      clear hK K
      try simp only [Act.put, List.setIfInBounds_toArray, List.set_cons_zero, List.set_cons_succ]
      refine wpAnyH_ready (rs := [9]) (by kernel_rfl) (by simp) ?_
      refine AllReadyH.cons (o := _) rfl (fun K hK => ?_) ?_
      · go_simp
        refine hK.out _ _ ?_ (fun hHeld2 => ?_)
        · (try dsimp only); try trivial
        clear hK K
        try simp only [Act.put, List.setIfInBounds_toArray, List.set_cons_zero, List.set_cons_succ]
        refine wpAnyH_take (i := 10) (oi := _) (v := ?_) rfl (by kernel_rfl) (by kernel_rfl) (by kernel_rfl) (fun _ _ _ h => h) (Or.inl ⟨by rfl, ?_⟩) (by assumption) ?_
        rotate_left
        · (intro wz hSw; (try dsimp only at hSw); go_simp; try with_reducible rfl)
        simp only [Act.put, List.setIfInBounds_toArray, List.set_cons_zero, List.set_cons_succ]
        refine wpAnyH_take (i := 11) (oi := _) (v := ?_) rfl (by kernel_rfl) (by kernel_rfl) (by kernel_rfl) (fun _ _ _ h => h) (Or.inl ⟨by rfl, ?_⟩) (by assumption) ?_
        rotate_left
        · (intro wz hSw; (try dsimp only at hSw); go_simp; try with_reducible rfl)
        simp only [Act.put, List.setIfInBounds_toArray, List.set_cons_zero, List.set_cons_succ]
        refine wpAnyH_take (i := 12) (oi := _) (v := ?_) rfl (by kernel_rfl) (by kernel_rfl) (by kernel_rfl) (fun _ _ _ h => h) (Or.inl ⟨by rfl, ?_⟩) (by assumption) ?_
        rotate_left
        · (intro wz hSw; (try dsimp only at hSw); go_simp; try with_reducible rfl)
        simp only [Act.put, List.setIfInBounds_toArray, List.set_cons_zero, List.set_cons_succ]
        refine wpAnyH_take (i := 13) (oi := _) (v := ?_) rfl (by kernel_rfl) (by kernel_rfl) (by kernel_rfl) (fun _ _ _ h => h) (Or.inl ⟨by rfl, ?_⟩) (by assumption) ?_
        rotate_left
        · (intro wz hSw; (try dsimp only at hSw); go_simp; try with_reducible rfl)
        simp only [Act.put, List.setIfInBounds_toArray, List.set_cons_zero, List.set_cons_succ]
        refine wpAnyH_ready (rs := [14]) (by kernel_rfl) (by simp) ?_
        refine AllReadyH.cons (o := _) rfl (fun K hK => ?_) ?_
        · go_simp
          refine hK.out _ _ ?_ (fun hHeld2 => ?_)
          · (try dsimp only); try trivial
          clear hK K
          try simp only [Act.put, List.setIfInBounds_toArray, List.set_cons_zero, List.set_cons_succ]
          refine wpAnyH_done (by kernel_rfl) ?_ _
          go_wp2_with fail
          go_ret
          exact ⟨rfl, HF.out.1.more (Keeps.drew None _), HF.out.2.andDrew⟩
        exact AllReadyH.nil
      exact AllReadyH.nil
    exact AllReadyH.nil
  refine AllReadyH.cons (o := { dst := some 17, op := Op.load 57 (Operand.tmp 16), type := 57, pos := "play.go:82", after := #[{ on := 7, ground := Ground.data }], guard := none }) rfl (fun K hK => ?_) ?_
  · go_simp
    refine hK.out _ _ ?_ (fun hHeld2 => ?_)
    · (try dsimp only); try trivial
    clear hK K
    try simp only [Act.put, List.setIfInBounds_toArray, List.set_cons_zero, List.set_cons_succ]
    refine wpAnyH_ready (rs := [4, 9]) (by kernel_rfl) (by simp) ?_
    refine AllReadyH.cons (o := { dst := some 13, op := Op.load 57 (Operand.tmp 12), type := 57, pos := "play.go:82", after := #[{ on := 3, ground := Ground.data }], guard := none }) rfl (fun K hK => ?_) ?_
    · go_simp
      refine hK.out _ _ ?_ (fun hHeld2 => ?_)
      · (try dsimp only); try trivial
      clear hK K
      try simp only [Act.put, List.setIfInBounds_toArray, List.set_cons_zero, List.set_cons_succ]
      refine wpAnyH_ready (rs := [9]) (by kernel_rfl) (by simp) ?_
      refine AllReadyH.cons (o := _) rfl (fun K hK => ?_) ?_
      · go_simp
        refine hK.out _ _ ?_ (fun hHeld2 => ?_)
        · (try dsimp only); try trivial
        clear hK K
        try simp only [Act.put, List.setIfInBounds_toArray, List.set_cons_zero, List.set_cons_succ]
        refine wpAnyH_take (i := 10) (oi := _) (v := ?_) rfl (by kernel_rfl) (by kernel_rfl) (by kernel_rfl) (fun _ _ _ h => h) (Or.inl ⟨by rfl, ?_⟩) (by assumption) ?_
        rotate_left
        · (intro wz hSw; (try dsimp only at hSw); go_simp; try with_reducible rfl)
        simp only [Act.put, List.setIfInBounds_toArray, List.set_cons_zero, List.set_cons_succ]
        refine wpAnyH_take (i := 11) (oi := _) (v := ?_) rfl (by kernel_rfl) (by kernel_rfl) (by kernel_rfl) (fun _ _ _ h => h) (Or.inl ⟨by rfl, ?_⟩) (by assumption) ?_
        rotate_left
        · (intro wz hSw; (try dsimp only at hSw); go_simp; try with_reducible rfl)
        simp only [Act.put, List.setIfInBounds_toArray, List.set_cons_zero, List.set_cons_succ]
        refine wpAnyH_take (i := 12) (oi := _) (v := ?_) rfl (by kernel_rfl) (by kernel_rfl) (by kernel_rfl) (fun _ _ _ h => h) (Or.inl ⟨by rfl, ?_⟩) (by assumption) ?_
        rotate_left
        · (intro wz hSw; (try dsimp only at hSw); go_simp; try with_reducible rfl)
        simp only [Act.put, List.setIfInBounds_toArray, List.set_cons_zero, List.set_cons_succ]
        refine wpAnyH_take (i := 13) (oi := _) (v := ?_) rfl (by kernel_rfl) (by kernel_rfl) (by kernel_rfl) (fun _ _ _ h => h) (Or.inl ⟨by rfl, ?_⟩) (by assumption) ?_
        rotate_left
        · (intro wz hSw; (try dsimp only at hSw); go_simp; try with_reducible rfl)
        simp only [Act.put, List.setIfInBounds_toArray, List.set_cons_zero, List.set_cons_succ]
        refine wpAnyH_ready (rs := [14]) (by kernel_rfl) (by simp) ?_
        refine AllReadyH.cons (o := _) rfl (fun K hK => ?_) ?_
        · go_simp
          refine hK.out _ _ ?_ (fun hHeld2 => ?_)
          · (try dsimp only); try trivial
          clear hK K
          try simp only [Act.put, List.setIfInBounds_toArray, List.set_cons_zero, List.set_cons_succ]
          refine wpAnyH_done (by kernel_rfl) ?_ _
          go_wp2_with fail
          go_ret
          exact ⟨rfl, HF.out.1.more (Keeps.drew None _), HF.out.2.andDrew⟩
        exact AllReadyH.nil
      exact AllReadyH.nil
    refine AllReadyH.cons (o := _) rfl (fun K hK => ?_) ?_
    · go_simp
      refine hK.out _ _ ?_ (fun hHeld2 => ?_)
      · (try dsimp only); try trivial
      clear hK K
      try simp only [Act.put, List.setIfInBounds_toArray, List.set_cons_zero, List.set_cons_succ]
      refine wpAnyH_take (i := 10) (oi := _) (v := ?_) rfl (by kernel_rfl) (by kernel_rfl) (by kernel_rfl) (fun _ _ _ h => h) (Or.inl ⟨by rfl, ?_⟩) (by assumption) ?_
      rotate_left
      · (intro wz hSw; (try dsimp only at hSw); go_simp; try with_reducible rfl)
      simp only [Act.put, List.setIfInBounds_toArray, List.set_cons_zero, List.set_cons_succ]
      refine wpAnyH_ready (rs := [4]) (by kernel_rfl) (by simp) ?_
      refine AllReadyH.cons (o := { dst := some 13, op := Op.load 57 (Operand.tmp 12), type := 57, pos := "play.go:82", after := #[{ on := 3, ground := Ground.data }], guard := none }) rfl (fun K hK => ?_) ?_
      · go_simp
        refine hK.out _ _ ?_ (fun hHeld2 => ?_)
        · (try dsimp only); try trivial
        clear hK K
        try simp only [Act.put, List.setIfInBounds_toArray, List.set_cons_zero, List.set_cons_succ]
        refine wpAnyH_take (i := 11) (oi := _) (v := ?_) rfl (by kernel_rfl) (by kernel_rfl) (by kernel_rfl) (fun _ _ _ h => h) (Or.inl ⟨by rfl, ?_⟩) (by assumption) ?_
        rotate_left
        · (intro wz hSw; (try dsimp only at hSw); go_simp; try with_reducible rfl)
        simp only [Act.put, List.setIfInBounds_toArray, List.set_cons_zero, List.set_cons_succ]
        refine wpAnyH_take (i := 12) (oi := _) (v := ?_) rfl (by kernel_rfl) (by kernel_rfl) (by kernel_rfl) (fun _ _ _ h => h) (Or.inl ⟨by rfl, ?_⟩) (by assumption) ?_
        rotate_left
        · (intro wz hSw; (try dsimp only at hSw); go_simp; try with_reducible rfl)
        simp only [Act.put, List.setIfInBounds_toArray, List.set_cons_zero, List.set_cons_succ]
        refine wpAnyH_take (i := 13) (oi := _) (v := ?_) rfl (by kernel_rfl) (by kernel_rfl) (by kernel_rfl) (fun _ _ _ h => h) (Or.inl ⟨by rfl, ?_⟩) (by assumption) ?_
        rotate_left
        · (intro wz hSw; (try dsimp only at hSw); go_simp; try with_reducible rfl)
        simp only [Act.put, List.setIfInBounds_toArray, List.set_cons_zero, List.set_cons_succ]
        refine wpAnyH_ready (rs := [14]) (by kernel_rfl) (by simp) ?_
        refine AllReadyH.cons (o := _) rfl (fun K hK => ?_) ?_
        · go_simp
          refine hK.out _ _ ?_ (fun hHeld2 => ?_)
          · (try dsimp only); try trivial
          clear hK K
          try simp only [Act.put, List.setIfInBounds_toArray, List.set_cons_zero, List.set_cons_succ]
          refine wpAnyH_done (by kernel_rfl) ?_ _
          go_wp2_with fail
          go_ret
          exact ⟨rfl, HF.out.1.more (Keeps.drew None _), HF.out.2.andDrew⟩
        exact AllReadyH.nil
      exact AllReadyH.nil
    exact AllReadyH.nil
  exact AllReadyH.nil
end Go.Proofs.Ytdiabpoafennlab.Nm
