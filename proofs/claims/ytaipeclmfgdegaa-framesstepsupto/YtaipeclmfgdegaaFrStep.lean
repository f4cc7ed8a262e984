import Derived.Test.YtaipeclmfgdegaaFrMid
import Derived.Laws.EntriesVeiled
/-! Step, by the method of its kind. -/
namespace Go.Proofs.Ytaipeclmfgdegaa
open Go.RowKit Go.HeapKit Go.IntWalk

theorem cell_keep {S : Nat → Prop} {w w' : World} {a : Addr} {v : Value} (hk : Keeps S w w') (h : w.cell? a = some v) (hS : ¬ S a.block) : w'.cell? a = some v := hk.cell h hS
theorem zero_cells {w : World} {g : Nat} {t : TypeId} (h : w.heap[g]? = some (.cells OpF.zero.vals t (0, 0))) : w.cell? ⟨g, 0, none⟩ = some (.int .i64 0) ∧ w.cell? ⟨g, 1, none⟩ = some (.int .i64 0) ∧ w.cell? ⟨g, 2, none⟩ = some (.int .i64 0) ∧ w.cell? ⟨g, 3, none⟩ = some (.int .i64 0) ∧ w.cell? ⟨g, 4, none⟩ = some (.int .i64 0) ∧ w.cell? ⟨g, 5, none⟩ = some (.int .i64 0) ∧ w.cell? ⟨g, 6, none⟩ = some (.int .i64 0) ∧ w.cell? ⟨g, 7, none⟩ = some (.int .i64 0) :=
  ⟨cell_of_block h 0, cell_of_block h 1, cell_of_block h 2, cell_of_block h 3, cell_of_block h 4, cell_of_block h 5, cell_of_block h 6, cell_of_block h 7⟩
theorem zero_frees {w : World} {g : Nat} {t : TypeId} (h : w.heap[g]? = some (.cells OpF.zero.vals t (0, 0))) : w.frozen? ⟨g, 0, none⟩ = false ∧ w.frozen? ⟨g, 1, none⟩ = false ∧ w.frozen? ⟨g, 2, none⟩ = false ∧ w.frozen? ⟨g, 3, none⟩ = false ∧ w.frozen? ⟨g, 4, none⟩ = false ∧ w.frozen? ⟨g, 5, none⟩ = false ∧ w.frozen? ⟨g, 6, none⟩ = false ∧ w.frozen? ⟨g, 7, none⟩ = false :=
  ⟨free_of_block h 0, free_of_block h 1, free_of_block h 2, free_of_block h 3, free_of_block h 4, free_of_block h 5, free_of_block h 6, free_of_block h 7⟩
theorem mid_s {w w4 w5 : World} {p g K : Nat} {x0 x1 x2 x3 x4 x5 x6 x7 : Int} {F F5 : Nat → Prop} {B : Ar} {u : Value} (hM : MidF w w5 (OpF.mk x0 x1 x2 x3 x4 x5 x6 x7) p F F5 B) (hk : Keeps F w4 w5) (hlo : ∀ k, F k → k < w.heap.size) (hg : w.heap.size + 1 < g) (hfn : w4.cell? ⟨g, K, none⟩ = some u) :
    w5.cell? ⟨w.heap.size, 0, none⟩ = some (.int .i64 x0) ∧ w5.cell? ⟨w.heap.size, 1, none⟩ = some (.int .i64 x1) ∧ w5.cell? ⟨w.heap.size, 2, none⟩ = some (.int .i64 x2) ∧ w5.cell? ⟨w.heap.size, 3, none⟩ = some (.int .i64 x3) ∧ w5.cell? ⟨w.heap.size, 4, none⟩ = some (.int .i64 x4) ∧ w5.cell? ⟨w.heap.size, 5, none⟩ = some (.int .i64 x5) ∧ w5.cell? ⟨w.heap.size, 6, none⟩ = some (.int .i64 x6) ∧ w5.cell? ⟨w.heap.size, 7, none⟩ = some (.int .i64 x7) ∧ w5.cell? ⟨g, K, none⟩ = some u :=
  ⟨hM.cell 0, hM.cell 1, hM.cell 2, hM.cell 3, hM.cell 4, hM.cell 5, hM.cell 6, hM.cell 7, hk.cell hfn (fun h => by have := hlo g h; omega)⟩
theorem mid_s9 {w5 w6 : World} {b0 gB g K : Nat} {x0 x1 x2 x3 x4 x5 x6 x7 : Int} {u : Value} (h : w5.cell? ⟨b0, 0, none⟩ = some (.int .i64 x0) ∧ w5.cell? ⟨b0, 1, none⟩ = some (.int .i64 x1) ∧ w5.cell? ⟨b0, 2, none⟩ = some (.int .i64 x2) ∧ w5.cell? ⟨b0, 3, none⟩ = some (.int .i64 x3) ∧ w5.cell? ⟨b0, 4, none⟩ = some (.int .i64 x4) ∧ w5.cell? ⟨b0, 5, none⟩ = some (.int .i64 x5) ∧ w5.cell? ⟨b0, 6, none⟩ = some (.int .i64 x6) ∧ w5.cell? ⟨b0, 7, none⟩ = some (.int .i64 x7) ∧ w5.cell? ⟨g, K, none⟩ = some u) (hk : Keeps (· = gB) w5 w6) (h1 : b0 ≠ gB) (h2 : g ≠ gB) : w6.cell? ⟨b0, 0, none⟩ = some (.int .i64 x0) ∧ w6.cell? ⟨b0, 1, none⟩ = some (.int .i64 x1) ∧ w6.cell? ⟨b0, 2, none⟩ = some (.int .i64 x2) ∧ w6.cell? ⟨b0, 3, none⟩ = some (.int .i64 x3) ∧ w6.cell? ⟨b0, 4, none⟩ = some (.int .i64 x4) ∧ w6.cell? ⟨b0, 5, none⟩ = some (.int .i64 x5) ∧ w6.cell? ⟨b0, 6, none⟩ = some (.int .i64 x6) ∧ w6.cell? ⟨b0, 7, none⟩ = some (.int .i64 x7) ∧ w6.cell? ⟨g, K, none⟩ = some u :=
  ⟨hk.cell h.1 h1, hk.cell h.2.1 h1, hk.cell h.2.2.1 h1, hk.cell h.2.2.2.1 h1, hk.cell h.2.2.2.2.1 h1, hk.cell h.2.2.2.2.2.1 h1, hk.cell h.2.2.2.2.2.2.1 h1, hk.cell h.2.2.2.2.2.2.2.1 h1, hk.cell h.2.2.2.2.2.2.2.2 h2⟩
theorem mid_z {w w4 w5 : World} {F : Nat → Prop} (hk : Keeps F (w4.alloc (.cells #[.int .i64 0, .int .i64 0, .int .i64 0, .int .i64 0, .int .i64 0, .int .i64 0, .int .i64 0, .int .i64 0] 63)) w5) (hlo : ∀ k, F k → k < w.heap.size) (hlt : w.heap.size + 1 < w4.heap.size) : w5.heap[w4.heap.size]? = some (.cells #[.int .i64 0, .int .i64 0, .int .i64 0, .int .i64 0, .int .i64 0, .int .i64 0, .int .i64 0, .int .i64 0] 63 (0, 0)) :=
  (hk.block _ (by simp) (fun h => by have := hlo _ h; omega)).trans (new_at w4 _ _ rfl)
theorem mid_acc {w wx wy : World} {o : OpF} {p : Nat} {F F1 : Nat → Prop} {A B : Ar} (h : MidF w wx o p F F1 A) (h2 : AA wx wy p F1 B) : ∃ F2, MidF w wy o p F F2 B ∧ ∀ k, F2 k → F1 k ∨ wx.heap.size ≤ k := by
  obtain ⟨F2, g, hk, hf⟩ := h2
  have := h.lt
  refine ⟨F2, ⟨(hk.block _ (by omega) h.off.1).trans h.box, (hk.block _ (by omega) h.off.2).trans h.res, g, h.kp.trans hk (fun i f hi => ?_), fun k f => ?_, h.lo⟩, hf⟩
  · rcases h.fo i f with f | f
    · exact f
    · omega
  · rcases hf k f with f | f
    · exact h.fo k f
    · exact .inr (by omega)
theorem mid_off {w wx wy : World} {o : OpF} {p g : Nat} {F F1 : Nat → Prop} {B : Ar} (h : MidF w wx o p F F1 B) (hk : Keeps (· = g) wx wy) (hg : ¬ F1 g) (hlt : w.heap.size + 1 < g) : MidF w wy o p F F1 B := by
  have := h.lt
  exact ⟨(hk.block _ (by omega) (by omega)).trans h.box, (hk.block _ (by omega) (by omega)).trans h.res, h.ar.kept hk (fun k f e => hg (e ▸ f)), h.kp.trans hk (fun i e hi => by omega), h.fo, h.lo⟩
theorem runs_any (b f c : Int) (w : World) : Calls Try.prog 43 #[.agg #[.int .i64 b, .int .i64 f, .int .i64 c]] w fun e w' => e = .returned (.bool (c == 0)) ∧ Keeps None w w' := by
  go_enter Try.func43, Try.ntmps43
  go_wp2
  go_ret
  exact ⟨by simp, Keeps.alloc None w _⟩
set_option maxHeartbeats 1600000 in
set_option maxRecDepth 100000 in
theorem step_any_ok (p k N : Nat) (F : Nat → Prop) (A B : Ar) (b f m fr sl v : Int) (o' : OpF) (w : World) (h : ArF w p F A) (hf : ¬ f = 0) (hk6 : (k : Int) < 6) (htab : (#[.func (.func 44) #[] #[], .func (.func 45) #[] #[], .func (.func 46) #[] #[], .func (.func 47) #[] #[], .func (.func 48) #[] #[], .func (.func 49) #[] #[]] : Array Value)[k]? = some (.func (.func N) #[] #[])) (hcf : ∀ args w, (callFunc N args).run Try.prog w = .ok (.enter N args) w)
    (hmet : ∀ w F, ArF w p F A → Calls Try.prog N #[(OpF.mk b f 0 k m fr sl v).value, .iface 26 (.pointer (some ⟨p, 0, none⟩))] w fun e w' => e = .returned (.tuple #[o'.value, .int .i64 0]) ∧ AA w w' p F B) :
    Calls Try.prog 25 #[.iface 26 (.pointer (some ⟨p, 0, none⟩)), (OpF.mk b f 0 k m fr sl v).value] w fun e w' => e = .returned (o').value ∧ AA w w' p F B := by
  have hf' : (f == 0) = false := by simpa using hf
  have hrun := runs_any b f 0
  simp only [beq_self_eq_true] at hrun
  have HM : Hid _ := MidF.start h (OpF.mk b f 0 k m fr sl v)
  have HT : Hid _ := htab
  clear h htab
  obtain ⟨m0, m1, m2, m3, m4, m5, m6, m7⟩ := o'
  simp only [OpF.value, OpF.vals] at hmet ⊢
  go_enter Try.func25, Try.ntmps25
  go_upto_region 5 with (go_at_call 43; refine (hrun _).mono ?_; rintro e w2 ⟨rfl, hk2⟩; have hM2 := HM.out.kept hk2; obtain ⟨c0, c1, c2, c3, c4, c5, c6, c7⟩ := hM2.cells)
  go_cut [5] (fun s5 wx => ∃ g, s5 = .pointer (some ⟨g, 0, none⟩) ∧ w.heap.size + 1 < g ∧ g < wx.heap.size ∧ MidF w wx (OpF.mk b f 0 k m fr sl v) p F F A ∧ wx.cell? ⟨g, k, none⟩ = some (.func (.func N) #[] #[]))
  case first =>
    have hlt2 := hM2.lt
    have HM2 : Hid _ := hM2
    clear hM2 hk2 hrun c0 c1 c2 c3 c4 c5 c6 c7
    go_wp2_with fail
    go_meet
    refine ⟨_, rfl, hlt2, by simp, HM2.out.kept (Keeps.alloc None w2 _), (cell_of_block (new_at w2 _ _ rfl) k).trans HT.out⟩
  case rest =>
    obtain ⟨g, rfl, hg1, hg2, hM3, hfn⟩ := hcut
    clear hM2 hk2 hrun c0 c1 c2 c3 c4 c5 c6 c7 HM
    obtain ⟨wb, hwb⟩ : ∃ wb, wb = wc := ⟨_, rfl⟩
    subst hwb
    go_upto_region 6 with fail
    go_cut [6, 7] (fun s6 s7 wx => s7 = .int .i64 0 ∧ ∃ g2, s6 = .pointer (some ⟨g2, 0, none⟩) ∧ wx.heap[g2]? = some (.cells #[.int .i64 m0, .int .i64 m1, .int .i64 m2, .int .i64 m3, .int .i64 m4, .int .i64 m5, .int .i64 m6, .int .i64 m7] 63 (0, 0)) ∧ ∃ F', MidF w wx (OpF.mk b f 0 k m fr sl v) p F F' B)
    case first =>
      obtain ⟨c0, c1, c2, c3, c4, c5, c6, c7⟩ := hM3.cells
      have hgen : ∀ w', Keeps None wb w' → Calls Try.prog N #[.agg #[.int .i64 b, .int .i64 f, .int .i64 0, .int .i64 k, .int .i64 m, .int .i64 fr, .int .i64 sl, .int .i64 v], .iface 26 (.pointer (some ⟨p, 0, none⟩))] w' fun e w5 => e = .returned (.tuple #[.agg #[.int .i64 m0, .int .i64 m1, .int .i64 m2, .int .i64 m3, .int .i64 m4, .int .i64 m5, .int .i64 m6, .int .i64 m7], .int .i64 0]) ∧ (∃ F5, MidF w w5 (OpF.mk b f 0 k m fr sl v) p F F5 B ∧ ∀ k, F5 k → F k ∨ w'.heap.size ≤ k) ∧ Keeps F w' w5 :=
        fun w' hk => (hmet w' F (hM3.kept hk).ar).mono (fun e w5 ⟨h1, hA⟩ => ⟨h1, mid_acc (hM3.kept hk) hA, hA.choose_spec.2.1⟩)
      clear hmet
      have hlo3 := hM3.lo
      have hlt3 : w.heap.size + 1 < wb.drew.heap.size := hM3.lt
      have HK : Hid (Keeps None wb wb.drew) := Keeps.drew None wb
      refine wp_region_held_drew (S := (fun w' => w'.cell? ⟨w.heap.size, 0, none⟩ = some (.int .i64 b) ∧ w'.cell? ⟨w.heap.size, 1, none⟩ = some (.int .i64 f) ∧ w'.cell? ⟨w.heap.size, 2, none⟩ = some (.int .i64 0) ∧ w'.cell? ⟨w.heap.size, 3, none⟩ = some (.int .i64 k) ∧ w'.cell? ⟨w.heap.size, 4, none⟩ = some (.int .i64 m) ∧ w'.cell? ⟨w.heap.size, 5, none⟩ = some (.int .i64 fr) ∧ w'.cell? ⟨w.heap.size, 6, none⟩ = some (.int .i64 sl) ∧ w'.cell? ⟨w.heap.size, 7, none⟩ = some (.int .i64 v) ∧ w'.cell? ⟨g, k, none⟩ = some (.func (.func N) #[] #[]))) (by kernel_rfl) ?_ (fun hHeld => ?_)
      · (try dsimp only); (first | with_reducible exact hs2 | with_reducible exact hs3 | go_keep)
      refine wpAnyH_take (i := 0) (oi := { dst := some 23, op := Op.fieldAddr 63 (Operand.tmp 3) 1, type := 0, pos := "op.go:78", after := #[], guard := none }) (v := ?_) rfl (by kernel_rfl) (by kernel_rfl) (by kernel_rfl) (fun _ _ _ h => h) (Or.inl ⟨by rfl, ?_⟩) (by assumption) ?_
      rotate_left
      · (intro wz hSw; (try dsimp only at hSw); go_simp; try with_reducible rfl)
      simp only [Act.put, List.setIfInBounds_toArray, List.set_cons_zero, List.set_cons_succ]
      refine wpAnyH_take (i := 1) (oi := { dst := some 24, op := Op.load 61 (Operand.tmp 23), type := 61, pos := "op.go:78", after := #[{ on := 0, ground := Ground.data }], guard := none }) (v := ?_) rfl (by kernel_rfl) (by kernel_rfl) (by kernel_rfl) (fun _ _ _ h => h) (Or.inl ⟨by rfl, ?_⟩) (by assumption) ?_
      rotate_left
      · (intro wz hSw; (try dsimp only at hSw); go_simp; try with_reducible rfl)
      simp only [Act.put, List.setIfInBounds_toArray, List.set_cons_zero, List.set_cons_succ]
      refine wpAnyH_take (i := 2) (oi := { dst := some 25, op := Op.indexAddr 104 (Operand.tmp 5) (Operand.tmp 24), type := 0, pos := "op.go:78", after := #[{ on := 1, ground := Ground.data }], guard := none }) (v := ?_) rfl (by kernel_rfl) (by kernel_rfl) (by kernel_rfl) (fun _ _ _ h => h) (Or.inl ⟨by rfl, ?_⟩) (by assumption) ?_
      rotate_left
      · (intro wz hSw; (try dsimp only at hSw); go_simp; try with_reducible rfl)
      simp only [Act.put, List.setIfInBounds_toArray, List.set_cons_zero, List.set_cons_succ]
      refine wpAnyH_take (i := 3) (oi := { dst := some 26, op := Op.load 102 (Operand.tmp 25), type := 102, pos := "op.go:78", after := #[{ on := 2, ground := Ground.data }], guard := none }) (v := ?_) rfl (by kernel_rfl) (by kernel_rfl) (by kernel_rfl) (fun _ _ _ h => h) (Or.inl ⟨by rfl, ?_⟩) (by assumption) ?_
      rotate_left
      · (intro wz hSw; (try dsimp only at hSw); go_simp; try with_reducible rfl)
      simp only [Act.put, List.setIfInBounds_toArray, List.set_cons_zero, List.set_cons_succ]
      refine wpAnyH_take (i := 4) (oi := { dst := some 27, op := Op.load 63 (Operand.tmp 3), type := 63, pos := "op.go:78", after := #[], guard := none }) (v := ?_) rfl (by kernel_rfl) (by kernel_rfl) (by kernel_rfl) (fun _ _ _ h => h) (Or.inl ⟨by rfl, ?_⟩) (by assumption) ?_
      rotate_left
      · (intro wz hSw; (try dsimp only at hSw); go_simp; try with_reducible rfl)
      simp only [Act.put, List.setIfInBounds_toArray, List.set_cons_zero, List.set_cons_succ]
      refine wpAnyH_take (i := 5) (oi := { dst := some 28, op := Op.move (Operand.tmp 0), type := 86, pos := "op.go:78", after := #[], guard := none }) (v := ?_) rfl (by kernel_rfl) (by kernel_rfl) (by kernel_rfl) (fun _ _ _ h => h) (Or.inl ⟨by rfl, ?_⟩) (by assumption) ?_
      rotate_left
      · (intro wz hSw; (try dsimp only at hSw); go_simp; try with_reducible rfl)
      simp only [Act.put, List.setIfInBounds_toArray, List.set_cons_zero, List.set_cons_succ]
      refine wpAnyH_ready (rs := [6, 10]) (by kernel_rfl) (by simp) ?_
      refine AllReadyH.cons (o := { dst := some 29, op := Op.call { callee := Callee.value (Operand.tmp 26), args := #[Operand.tmp 27, Operand.tmp 28], argTypes := #[63, 86] }, type := 105, pos := "op.go:78", after := #[{ on := 3, ground := Ground.data }, { on := 4, ground := Ground.data }, { on := 5, ground := Ground.data }], guard := none }) rfl (fun K hK => ?_) ?_
      · go_simp
        refine (hgen _ (by first | exact Keeps.drew None _ | exact (Keeps.drew None _).andAlloc _)).mono ?_
        rintro _ w5 ⟨rfl, ⟨F5, hM5, hf5⟩, hk5⟩
        have hs2 := mid_s hM5 hk5 hM3.lo hg1 (by first | exact hfn | exact cell_keep (Keeps.alloc None wb.drew _) hfn (fun f => f))
        first | (have hkA : Keeps F wb.drew w5 := (by with_reducible exact hk5); clear hkA) | (have hb5 : w5.heap[wb.heap.size]? = some (.cells OpF.zero.vals 63 (0, 0)) := mid_z (w4 := wb.drew) hk5 hM3.lo hM3.lt; obtain ⟨z0, z1, z2, z3, z4, z5, z6, z7⟩ := zero_cells hb5; obtain ⟨y0, y1, y2, y3, y4, y5, y6, y7⟩ := zero_frees hb5; have hs3 := mid_s9 hs2 (opf_set rfl hb5 (.int .i64 m0) (.int .i64 m1) (.int .i64 m2) (.int .i64 m3) (.int .i64 m4) (.int .i64 m5) (.int .i64 m6) (.int .i64 m7)).2 (by have := hM3.lt; omega) (by omega))
        refine hK.out _ _ ?_ (fun hHeld2 => ?_)
        · (try dsimp only); (first | with_reducible exact hs2 | with_reducible exact hs3 | go_keep)
        clear hK K
        try simp only [Act.put, List.setIfInBounds_toArray, List.set_cons_zero, List.set_cons_succ]
        refine wpAnyH_take (i := 7) (oi := { dst := some 22, op := Op.move (Operand.tmp 29), type := 105, pos := "op.go:78", after := #[{ on := 6, ground := Ground.data }], guard := none }) (v := ?_) rfl (by kernel_rfl) (by kernel_rfl) (by kernel_rfl) (fun _ _ _ h => h) (Or.inl ⟨by rfl, ?_⟩) (by assumption) ?_
        rotate_left
        · (intro wz hSw; (try dsimp only at hSw); go_simp; try with_reducible rfl)
        simp only [Act.put, List.setIfInBounds_toArray, List.set_cons_zero, List.set_cons_succ]
        refine wpAnyH_take (i := 8) (oi := { dst := some 30, op := Op.extract (Operand.tmp 22) 0, type := 63, pos := "op.go:78", after := #[{ on := 7, ground := Ground.data }], guard := none }) (v := ?_) rfl (by kernel_rfl) (by kernel_rfl) (by kernel_rfl) (fun _ _ _ h => h) (Or.inl ⟨by rfl, ?_⟩) (by assumption) ?_
        rotate_left
        · (intro wz hSw; (try dsimp only at hSw); go_simp; try with_reducible rfl)
        simp only [Act.put, List.setIfInBounds_toArray, List.set_cons_zero, List.set_cons_succ]
        refine wpAnyH_take (i := 9) (oi := { dst := some 31, op := Op.extract (Operand.tmp 22) 1, type := 23, pos := "op.go:78", after := #[{ on := 7, ground := Ground.data }, { on := 11, ground := Ground.gcOnly Departure.lateStores }], guard := none }) (v := ?_) rfl (by kernel_rfl) (by kernel_rfl) (by kernel_rfl) (fun _ _ _ h => h) (Or.inl ⟨by rfl, ?_⟩) (by assumption) ?_
        rotate_left
        · (intro wz hSw; (try dsimp only at hSw); go_simp; try with_reducible rfl)
        simp only [Act.put, List.setIfInBounds_toArray, List.set_cons_zero, List.set_cons_succ]
        refine wpAnyH_ready (rs := [10]) (by kernel_rfl) (by simp) ?_
        refine AllReadyH.cons (o := { dst := some 6, op := Op.alloc 63, type := 0, pos := "op.go:78", after := #[], guard := none }) rfl (fun K hK => ?_) ?_
        · go_simp
          refine hK.out _ _ ?_ (fun hHeld2 => ?_)
          · (try dsimp only); (first | with_reducible exact hs2 | with_reducible exact hs3 | go_keep)
          clear hK K
          try simp only [Act.put, List.setIfInBounds_toArray, List.set_cons_zero, List.set_cons_succ]
          refine wpAnyH_ready (rs := [11]) (by kernel_rfl) (by simp) ?_
          refine AllReadyH.cons (o := { dst := none, op := Op.store 63 (Operand.tmp 6) (Operand.tmp 30), type := 0, pos := "op.go:78", after := #[{ on := 10, ground := Ground.data }, { on := 8, ground := Ground.data }, { on := 6, ground := Ground.chain }, { on := 0, ground := Ground.phase }, { on := 1, ground := Ground.phase }, { on := 2, ground := Ground.phase }, { on := 3, ground := Ground.phase }, { on := 4, ground := Ground.phase }, { on := 5, ground := Ground.phase }, { on := 6, ground := Ground.phase }, { on := 7, ground := Ground.phase }, { on := 8, ground := Ground.phase }, { on := 9, ground := Ground.textOnly Departure.lateStores }, { on := 10, ground := Ground.phase }], guard := none }) rfl (fun K hK => ?_) ?_
          · go_simp
            refine hK.out _ _ ?_ (fun hHeld2 => ?_)
            · (try dsimp only); (first | with_reducible exact hs2 | with_reducible exact hs3 | go_keep)
            clear hK K
            try simp only [Act.put, List.setIfInBounds_toArray, List.set_cons_zero, List.set_cons_succ]
            refine wpAnyH_take (i := 12) (oi := { dst := some 7, op := Op.assign (Operand.tmp 31), type := 23, pos := "op.go:78", after := #[{ on := 9, ground := Ground.data }, { on := 11, ground := Ground.chain }, { on := 0, ground := Ground.phase }, { on := 1, ground := Ground.phase }, { on := 2, ground := Ground.phase }, { on := 3, ground := Ground.phase }, { on := 4, ground := Ground.phase }, { on := 5, ground := Ground.phase }, { on := 6, ground := Ground.phase }, { on := 7, ground := Ground.phase }, { on := 8, ground := Ground.phase }, { on := 9, ground := Ground.phase }, { on := 10, ground := Ground.phase }, { on := 11, ground := Ground.phase }], guard := none }) (v := ?_) rfl (by kernel_rfl) (by kernel_rfl) (by kernel_rfl) (fun _ _ _ h => h) (Or.inl ⟨by rfl, ?_⟩) (by assumption) ?_
            rotate_left
            · (intro wz hSw; (try dsimp only at hSw); go_simp; try with_reducible rfl)
            simp only [Act.put, List.setIfInBounds_toArray, List.set_cons_zero, List.set_cons_succ]
            refine wpAnyH_done (by kernel_rfl) ?_ _
            go_wp2_with fail
            go_meet
            first | exact ⟨rfl, _, rfl, (opf_set rfl hb5 _ _ _ _ _ _ _ _).1, F5, mid_off hM5 (opf_set rfl hb5 _ _ _ _ _ _ _ _).2 (fun h => by rcases hf5 _ h with h | h; exact absurd (hM3.lo _ h) (by have := hM3.lt; omega); simp at h; omega) (by have := hM3.lt; omega)⟩ | exact ⟨rfl, _, rfl, new_at w5 _ _ rfl, F5, hM5.kept (Keeps.alloc None w5 _)⟩
          exact AllReadyH.nil
        exact AllReadyH.nil
      refine AllReadyH.cons (o := { dst := some 6, op := Op.alloc 63, type := 0, pos := "op.go:78", after := #[], guard := none }) rfl (fun K hK => ?_) ?_
      · go_simp
        refine hK.out _ _ ?_ (fun hHeld2 => ?_)
        · (try dsimp only); (first | with_reducible exact hs2 | with_reducible exact hs3 | go_keep)
        clear hK K
        try simp only [Act.put, List.setIfInBounds_toArray, List.set_cons_zero, List.set_cons_succ]
        refine wpAnyH_ready (rs := [6]) (by kernel_rfl) (by simp) ?_
        refine AllReadyH.cons (o := { dst := some 29, op := Op.call { callee := Callee.value (Operand.tmp 26), args := #[Operand.tmp 27, Operand.tmp 28], argTypes := #[63, 86] }, type := 105, pos := "op.go:78", after := #[{ on := 3, ground := Ground.data }, { on := 4, ground := Ground.data }, { on := 5, ground := Ground.data }], guard := none }) rfl (fun K hK => ?_) ?_
        · go_simp
          refine (hgen _ (by first | exact Keeps.drew None _ | exact (Keeps.drew None _).andAlloc _)).mono ?_
          rintro _ w5 ⟨rfl, ⟨F5, hM5, hf5⟩, hk5⟩
          have hs2 := mid_s hM5 hk5 hM3.lo hg1 (by first | exact hfn | exact cell_keep (Keeps.alloc None wb.drew _) hfn (fun f => f))
          first | (have hkA : Keeps F wb.drew w5 := (by with_reducible exact hk5); clear hkA) | (have hb5 : w5.heap[wb.heap.size]? = some (.cells OpF.zero.vals 63 (0, 0)) := mid_z (w4 := wb.drew) hk5 hM3.lo hM3.lt; obtain ⟨z0, z1, z2, z3, z4, z5, z6, z7⟩ := zero_cells hb5; obtain ⟨y0, y1, y2, y3, y4, y5, y6, y7⟩ := zero_frees hb5; have hs3 := mid_s9 hs2 (opf_set rfl hb5 (.int .i64 m0) (.int .i64 m1) (.int .i64 m2) (.int .i64 m3) (.int .i64 m4) (.int .i64 m5) (.int .i64 m6) (.int .i64 m7)).2 (by have := hM3.lt; omega) (by omega))
          refine hK.out _ _ ?_ (fun hHeld2 => ?_)
          · (try dsimp only); (first | with_reducible exact hs2 | with_reducible exact hs3 | go_keep)
          clear hK K
          try simp only [Act.put, List.setIfInBounds_toArray, List.set_cons_zero, List.set_cons_succ]
          refine wpAnyH_take (i := 7) (oi := { dst := some 22, op := Op.move (Operand.tmp 29), type := 105, pos := "op.go:78", after := #[{ on := 6, ground := Ground.data }], guard := none }) (v := ?_) rfl (by kernel_rfl) (by kernel_rfl) (by kernel_rfl) (fun _ _ _ h => h) (Or.inl ⟨by rfl, ?_⟩) (by assumption) ?_
          rotate_left
          · (intro wz hSw; (try dsimp only at hSw); go_simp; try with_reducible rfl)
          simp only [Act.put, List.setIfInBounds_toArray, List.set_cons_zero, List.set_cons_succ]
          refine wpAnyH_take (i := 8) (oi := { dst := some 30, op := Op.extract (Operand.tmp 22) 0, type := 63, pos := "op.go:78", after := #[{ on := 7, ground := Ground.data }], guard := none }) (v := ?_) rfl (by kernel_rfl) (by kernel_rfl) (by kernel_rfl) (fun _ _ _ h => h) (Or.inl ⟨by rfl, ?_⟩) (by assumption) ?_
          rotate_left
          · (intro wz hSw; (try dsimp only at hSw); go_simp; try with_reducible rfl)
          simp only [Act.put, List.setIfInBounds_toArray, List.set_cons_zero, List.set_cons_succ]
          refine wpAnyH_take (i := 9) (oi := { dst := some 31, op := Op.extract (Operand.tmp 22) 1, type := 23, pos := "op.go:78", after := #[{ on := 7, ground := Ground.data }, { on := 11, ground := Ground.gcOnly Departure.lateStores }], guard := none }) (v := ?_) rfl (by kernel_rfl) (by kernel_rfl) (by kernel_rfl) (fun _ _ _ h => h) (Or.inl ⟨by rfl, ?_⟩) (by assumption) ?_
          rotate_left
          · (intro wz hSw; (try dsimp only at hSw); go_simp; try with_reducible rfl)
          simp only [Act.put, List.setIfInBounds_toArray, List.set_cons_zero, List.set_cons_succ]
          refine wpAnyH_ready (rs := [11]) (by kernel_rfl) (by simp) ?_
          refine AllReadyH.cons (o := { dst := none, op := Op.store 63 (Operand.tmp 6) (Operand.tmp 30), type := 0, pos := "op.go:78", after := #[{ on := 10, ground := Ground.data }, { on := 8, ground := Ground.data }, { on := 6, ground := Ground.chain }, { on := 0, ground := Ground.phase }, { on := 1, ground := Ground.phase }, { on := 2, ground := Ground.phase }, { on := 3, ground := Ground.phase }, { on := 4, ground := Ground.phase }, { on := 5, ground := Ground.phase }, { on := 6, ground := Ground.phase }, { on := 7, ground := Ground.phase }, { on := 8, ground := Ground.phase }, { on := 9, ground := Ground.textOnly Departure.lateStores }, { on := 10, ground := Ground.phase }], guard := none }) rfl (fun K hK => ?_) ?_
          · go_simp
            refine hK.out _ _ ?_ (fun hHeld2 => ?_)
            · (try dsimp only); (first | with_reducible exact hs2 | with_reducible exact hs3 | go_keep)
            clear hK K
            try simp only [Act.put, List.setIfInBounds_toArray, List.set_cons_zero, List.set_cons_succ]
            refine wpAnyH_take (i := 12) (oi := { dst := some 7, op := Op.assign (Operand.tmp 31), type := 23, pos := "op.go:78", after := #[{ on := 9, ground := Ground.data }, { on := 11, ground := Ground.chain }, { on := 0, ground := Ground.phase }, { on := 1, ground := Ground.phase }, { on := 2, ground := Ground.phase }, { on := 3, ground := Ground.phase }, { on := 4, ground := Ground.phase }, { on := 5, ground := Ground.phase }, { on := 6, ground := Ground.phase }, { on := 7, ground := Ground.phase }, { on := 8, ground := Ground.phase }, { on := 9, ground := Ground.phase }, { on := 10, ground := Ground.phase }, { on := 11, ground := Ground.phase }], guard := none }) (v := ?_) rfl (by kernel_rfl) (by kernel_rfl) (by kernel_rfl) (fun _ _ _ h => h) (Or.inl ⟨by rfl, ?_⟩) (by assumption) ?_
            rotate_left
            · (intro wz hSw; (try dsimp only at hSw); go_simp; try with_reducible rfl)
            simp only [Act.put, List.setIfInBounds_toArray, List.set_cons_zero, List.set_cons_succ]
            refine wpAnyH_done (by kernel_rfl) ?_ _
            go_wp2_with fail
            go_meet
            first | exact ⟨rfl, _, rfl, (opf_set rfl hb5 _ _ _ _ _ _ _ _).1, F5, mid_off hM5 (opf_set rfl hb5 _ _ _ _ _ _ _ _).2 (fun h => by rcases hf5 _ h with h | h; exact absurd (hM3.lo _ h) (by have := hM3.lt; omega); simp at h; omega) (by have := hM3.lt; omega)⟩ | exact ⟨rfl, _, rfl, new_at w5 _ _ rfl, F5, hM5.kept (Keeps.alloc None w5 _)⟩
          exact AllReadyH.nil
        exact AllReadyH.nil
      exact AllReadyH.nil
    case rest =>
      obtain ⟨rfl, g2, rfl, hb2, F6, hM6⟩ := hcut
      clear hM3 hfn hmet hcf
      have d0 := (cell_of_block hb2 0).trans rfl
      have d1 := (cell_of_block hb2 1).trans rfl
      have d2 := (cell_of_block hb2 2).trans rfl
      have d3 := (cell_of_block hb2 3).trans rfl
      have d4 := (cell_of_block hb2 4).trans rfl
      have d5 := (cell_of_block hb2 5).trans rfl
      have d6 := (cell_of_block hb2 6).trans rfl
      have d7 := (cell_of_block hb2 7).trans rfl
      obtain ⟨r0, r1, r2, r3, r4, r5, r6, r7⟩ := hM6.rcells
      obtain ⟨s0, s1, s2, s3, s4, s5, s6, s7⟩ := hM6.rfrees
      have H6 : Hid _ := hM6
      clear hM6 hb2
      go_wp2_with fail
      exact opf_end1 4 rfl rfl H6.out.res rfl rfl _ _ _ _ _ _ _ _ (fun w' hk => ⟨rfl, H6.out.fin hk⟩)
set_option maxHeartbeats 1600000 in
set_option maxRecDepth 100000 in
theorem step_any_bad (p k N : Nat) (F : Nat → Prop) (A B : Ar) (b f m fr sl v : Int) (o' : OpF) (err : Int) (w : World) (h : ArF w p F A) (hf : ¬ f = 0) (hk6 : (k : Int) < 6) (htab : (#[.func (.func 44) #[] #[], .func (.func 45) #[] #[], .func (.func 46) #[] #[], .func (.func 47) #[] #[], .func (.func 48) #[] #[], .func (.func 49) #[] #[]] : Array Value)[k]? = some (.func (.func N) #[] #[])) (hcf : ∀ args w, (callFunc N args).run Try.prog w = .ok (.enter N args) w) (he : (err != 0) = true)
    (hmet : ∀ w F, ArF w p F A → Calls Try.prog N #[(OpF.mk b f 0 k m fr sl v).value, .iface 26 (.pointer (some ⟨p, 0, none⟩))] w fun e w' => e = .returned (.tuple #[o'.value, .int .i64 err]) ∧ AA w w' p F B) :
    Calls Try.prog 25 #[.iface 26 (.pointer (some ⟨p, 0, none⟩)), (OpF.mk b f 0 k m fr sl v).value] w fun e w' => e = .returned (OpF.zero).value ∧ AA w w' p F B := by
  have hf' : (f == 0) = false := by simpa using hf
  have hrun := runs_any b f 0
  simp only [beq_self_eq_true] at hrun
  have HM : Hid _ := MidF.start h (OpF.mk b f 0 k m fr sl v)
  have HT : Hid _ := htab
  clear h htab
  obtain ⟨m0, m1, m2, m3, m4, m5, m6, m7⟩ := o'
  simp only [OpF.value, OpF.vals, OpF.zero] at hmet ⊢
  go_enter Try.func25, Try.ntmps25
  go_upto_region 5 with (go_at_call 43; refine (hrun _).mono ?_; rintro e w2 ⟨rfl, hk2⟩; have hM2 := HM.out.kept hk2; obtain ⟨c0, c1, c2, c3, c4, c5, c6, c7⟩ := hM2.cells)
  go_cut [5] (fun s5 wx => ∃ g, s5 = .pointer (some ⟨g, 0, none⟩) ∧ w.heap.size + 1 < g ∧ g < wx.heap.size ∧ MidF w wx (OpF.mk b f 0 k m fr sl v) p F F A ∧ wx.cell? ⟨g, k, none⟩ = some (.func (.func N) #[] #[]))
  case first =>
    have hlt2 := hM2.lt
    have HM2 : Hid _ := hM2
    clear hM2 hk2 hrun c0 c1 c2 c3 c4 c5 c6 c7
    go_wp2_with fail
    go_meet
    refine ⟨_, rfl, hlt2, by simp, HM2.out.kept (Keeps.alloc None w2 _), (cell_of_block (new_at w2 _ _ rfl) k).trans HT.out⟩
  case rest =>
    obtain ⟨g, rfl, hg1, hg2, hM3, hfn⟩ := hcut
    clear hM2 hk2 hrun c0 c1 c2 c3 c4 c5 c6 c7 HM
    obtain ⟨wb, hwb⟩ : ∃ wb, wb = wc := ⟨_, rfl⟩
    subst hwb
    go_upto_region 6 with fail
    go_cut [6, 7] (fun s6 s7 wx => s7 = .int .i64 err ∧ ∃ g2, s6 = .pointer (some ⟨g2, 0, none⟩) ∧ wx.heap[g2]? = some (.cells #[.int .i64 m0, .int .i64 m1, .int .i64 m2, .int .i64 m3, .int .i64 m4, .int .i64 m5, .int .i64 m6, .int .i64 m7] 63 (0, 0)) ∧ ∃ F', MidF w wx (OpF.mk b f 0 k m fr sl v) p F F' B)
    case first =>
      obtain ⟨c0, c1, c2, c3, c4, c5, c6, c7⟩ := hM3.cells
      have hgen : ∀ w', Keeps None wb w' → Calls Try.prog N #[.agg #[.int .i64 b, .int .i64 f, .int .i64 0, .int .i64 k, .int .i64 m, .int .i64 fr, .int .i64 sl, .int .i64 v], .iface 26 (.pointer (some ⟨p, 0, none⟩))] w' fun e w5 => e = .returned (.tuple #[.agg #[.int .i64 m0, .int .i64 m1, .int .i64 m2, .int .i64 m3, .int .i64 m4, .int .i64 m5, .int .i64 m6, .int .i64 m7], .int .i64 err]) ∧ (∃ F5, MidF w w5 (OpF.mk b f 0 k m fr sl v) p F F5 B ∧ ∀ k, F5 k → F k ∨ w'.heap.size ≤ k) ∧ Keeps F w' w5 :=
        fun w' hk => (hmet w' F (hM3.kept hk).ar).mono (fun e w5 ⟨h1, hA⟩ => ⟨h1, mid_acc (hM3.kept hk) hA, hA.choose_spec.2.1⟩)
      clear hmet
      have hlo3 := hM3.lo
      have hlt3 : w.heap.size + 1 < wb.drew.heap.size := hM3.lt
      have HK : Hid (Keeps None wb wb.drew) := Keeps.drew None wb
      refine wp_region_held_drew (S := (fun w' => w'.cell? ⟨w.heap.size, 0, none⟩ = some (.int .i64 b) ∧ w'.cell? ⟨w.heap.size, 1, none⟩ = some (.int .i64 f) ∧ w'.cell? ⟨w.heap.size, 2, none⟩ = some (.int .i64 0) ∧ w'.cell? ⟨w.heap.size, 3, none⟩ = some (.int .i64 k) ∧ w'.cell? ⟨w.heap.size, 4, none⟩ = some (.int .i64 m) ∧ w'.cell? ⟨w.heap.size, 5, none⟩ = some (.int .i64 fr) ∧ w'.cell? ⟨w.heap.size, 6, none⟩ = some (.int .i64 sl) ∧ w'.cell? ⟨w.heap.size, 7, none⟩ = some (.int .i64 v) ∧ w'.cell? ⟨g, k, none⟩ = some (.func (.func N) #[] #[]))) (by kernel_rfl) ?_ (fun hHeld => ?_)
      · (try dsimp only); (first | with_reducible exact hs2 | with_reducible exact hs3 | go_keep)
      refine wpAnyH_take (i := 0) (oi := { dst := some 23, op := Op.fieldAddr 63 (Operand.tmp 3) 1, type := 0, pos := "op.go:78", after := #[], guard := none }) (v := ?_) rfl (by kernel_rfl) (by kernel_rfl) (by kernel_rfl) (fun _ _ _ h => h) (Or.inl ⟨by rfl, ?_⟩) (by assumption) ?_
      rotate_left
      · (intro wz hSw; (try dsimp only at hSw); go_simp; try with_reducible rfl)
      simp only [Act.put, List.setIfInBounds_toArray, List.set_cons_zero, List.set_cons_succ]
      refine wpAnyH_take (i := 1) (oi := { dst := some 24, op := Op.load 61 (Operand.tmp 23), type := 61, pos := "op.go:78", after := #[{ on := 0, ground := Ground.data }], guard := none }) (v := ?_) rfl (by kernel_rfl) (by kernel_rfl) (by kernel_rfl) (fun _ _ _ h => h) (Or.inl ⟨by rfl, ?_⟩) (by assumption) ?_
      rotate_left
      · (intro wz hSw; (try dsimp only at hSw); go_simp; try with_reducible rfl)
      simp only [Act.put, List.setIfInBounds_toArray, List.set_cons_zero, List.set_cons_succ]
      refine wpAnyH_take (i := 2) (oi := { dst := some 25, op := Op.indexAddr 104 (Operand.tmp 5) (Operand.tmp 24), type := 0, pos := "op.go:78", after := #[{ on := 1, ground := Ground.data }], guard := none }) (v := ?_) rfl (by kernel_rfl) (by kernel_rfl) (by kernel_rfl) (fun _ _ _ h => h) (Or.inl ⟨by rfl, ?_⟩) (by assumption) ?_
      rotate_left
      · (intro wz hSw; (try dsimp only at hSw); go_simp; try with_reducible rfl)
      simp only [Act.put, List.setIfInBounds_toArray, List.set_cons_zero, List.set_cons_succ]
      refine wpAnyH_take (i := 3) (oi := { dst := some 26, op := Op.load 102 (Operand.tmp 25), type := 102, pos := "op.go:78", after := #[{ on := 2, ground := Ground.data }], guard := none }) (v := ?_) rfl (by kernel_rfl) (by kernel_rfl) (by kernel_rfl) (fun _ _ _ h => h) (Or.inl ⟨by rfl, ?_⟩) (by assumption) ?_
      rotate_left
      · (intro wz hSw; (try dsimp only at hSw); go_simp; try with_reducible rfl)
      simp only [Act.put, List.setIfInBounds_toArray, List.set_cons_zero, List.set_cons_succ]
      refine wpAnyH_take (i := 4) (oi := { dst := some 27, op := Op.load 63 (Operand.tmp 3), type := 63, pos := "op.go:78", after := #[], guard := none }) (v := ?_) rfl (by kernel_rfl) (by kernel_rfl) (by kernel_rfl) (fun _ _ _ h => h) (Or.inl ⟨by rfl, ?_⟩) (by assumption) ?_
      rotate_left
      · (intro wz hSw; (try dsimp only at hSw); go_simp; try with_reducible rfl)
      simp only [Act.put, List.setIfInBounds_toArray, List.set_cons_zero, List.set_cons_succ]
      refine wpAnyH_take (i := 5) (oi := { dst := some 28, op := Op.move (Operand.tmp 0), type := 86, pos := "op.go:78", after := #[], guard := none }) (v := ?_) rfl (by kernel_rfl) (by kernel_rfl) (by kernel_rfl) (fun _ _ _ h => h) (Or.inl ⟨by rfl, ?_⟩) (by assumption) ?_
      rotate_left
      · (intro wz hSw; (try dsimp only at hSw); go_simp; try with_reducible rfl)
      simp only [Act.put, List.setIfInBounds_toArray, List.set_cons_zero, List.set_cons_succ]
      refine wpAnyH_ready (rs := [6, 10]) (by kernel_rfl) (by simp) ?_
      refine AllReadyH.cons (o := { dst := some 29, op := Op.call { callee := Callee.value (Operand.tmp 26), args := #[Operand.tmp 27, Operand.tmp 28], argTypes := #[63, 86] }, type := 105, pos := "op.go:78", after := #[{ on := 3, ground := Ground.data }, { on := 4, ground := Ground.data }, { on := 5, ground := Ground.data }], guard := none }) rfl (fun K hK => ?_) ?_
      · go_simp
        refine (hgen _ (by first | exact Keeps.drew None _ | exact (Keeps.drew None _).andAlloc _)).mono ?_
        rintro _ w5 ⟨rfl, ⟨F5, hM5, hf5⟩, hk5⟩
        have hs2 := mid_s hM5 hk5 hM3.lo hg1 (by first | exact hfn | exact cell_keep (Keeps.alloc None wb.drew _) hfn (fun f => f))
        first | (have hkA : Keeps F wb.drew w5 := (by with_reducible exact hk5); clear hkA) | (have hb5 : w5.heap[wb.heap.size]? = some (.cells OpF.zero.vals 63 (0, 0)) := mid_z (w4 := wb.drew) hk5 hM3.lo hM3.lt; obtain ⟨z0, z1, z2, z3, z4, z5, z6, z7⟩ := zero_cells hb5; obtain ⟨y0, y1, y2, y3, y4, y5, y6, y7⟩ := zero_frees hb5; have hs3 := mid_s9 hs2 (opf_set rfl hb5 (.int .i64 m0) (.int .i64 m1) (.int .i64 m2) (.int .i64 m3) (.int .i64 m4) (.int .i64 m5) (.int .i64 m6) (.int .i64 m7)).2 (by have := hM3.lt; omega) (by omega))
        refine hK.out _ _ ?_ (fun hHeld2 => ?_)
        · (try dsimp only); (first | with_reducible exact hs2 | with_reducible exact hs3 | go_keep)
        clear hK K
        try simp only [Act.put, List.setIfInBounds_toArray, List.set_cons_zero, List.set_cons_succ]
        refine wpAnyH_take (i := 7) (oi := { dst := some 22, op := Op.move (Operand.tmp 29), type := 105, pos := "op.go:78", after := #[{ on := 6, ground := Ground.data }], guard := none }) (v := ?_) rfl (by kernel_rfl) (by kernel_rfl) (by kernel_rfl) (fun _ _ _ h => h) (Or.inl ⟨by rfl, ?_⟩) (by assumption) ?_
        rotate_left
        · (intro wz hSw; (try dsimp only at hSw); go_simp; try with_reducible rfl)
        simp only [Act.put, List.setIfInBounds_toArray, List.set_cons_zero, List.set_cons_succ]
        refine wpAnyH_take (i := 8) (oi := { dst := some 30, op := Op.extract (Operand.tmp 22) 0, type := 63, pos := "op.go:78", after := #[{ on := 7, ground := Ground.data }], guard := none }) (v := ?_) rfl (by kernel_rfl) (by kernel_rfl) (by kernel_rfl) (fun _ _ _ h => h) (Or.inl ⟨by rfl, ?_⟩) (by assumption) ?_
        rotate_left
        · (intro wz hSw; (try dsimp only at hSw); go_simp; try with_reducible rfl)
        simp only [Act.put, List.setIfInBounds_toArray, List.set_cons_zero, List.set_cons_succ]
        refine wpAnyH_take (i := 9) (oi := { dst := some 31, op := Op.extract (Operand.tmp 22) 1, type := 23, pos := "op.go:78", after := #[{ on := 7, ground := Ground.data }, { on := 11, ground := Ground.gcOnly Departure.lateStores }], guard := none }) (v := ?_) rfl (by kernel_rfl) (by kernel_rfl) (by kernel_rfl) (fun _ _ _ h => h) (Or.inl ⟨by rfl, ?_⟩) (by assumption) ?_
        rotate_left
        · (intro wz hSw; (try dsimp only at hSw); go_simp; try with_reducible rfl)
        simp only [Act.put, List.setIfInBounds_toArray, List.set_cons_zero, List.set_cons_succ]
        refine wpAnyH_ready (rs := [10]) (by kernel_rfl) (by simp) ?_
        refine AllReadyH.cons (o := { dst := some 6, op := Op.alloc 63, type := 0, pos := "op.go:78", after := #[], guard := none }) rfl (fun K hK => ?_) ?_
        · go_simp
          refine hK.out _ _ ?_ (fun hHeld2 => ?_)
          · (try dsimp only); (first | with_reducible exact hs2 | with_reducible exact hs3 | go_keep)
          clear hK K
          try simp only [Act.put, List.setIfInBounds_toArray, List.set_cons_zero, List.set_cons_succ]
          refine wpAnyH_ready (rs := [11]) (by kernel_rfl) (by simp) ?_
          refine AllReadyH.cons (o := { dst := none, op := Op.store 63 (Operand.tmp 6) (Operand.tmp 30), type := 0, pos := "op.go:78", after := #[{ on := 10, ground := Ground.data }, { on := 8, ground := Ground.data }, { on := 6, ground := Ground.chain }, { on := 0, ground := Ground.phase }, { on := 1, ground := Ground.phase }, { on := 2, ground := Ground.phase }, { on := 3, ground := Ground.phase }, { on := 4, ground := Ground.phase }, { on := 5, ground := Ground.phase }, { on := 6, ground := Ground.phase }, { on := 7, ground := Ground.phase }, { on := 8, ground := Ground.phase }, { on := 9, ground := Ground.textOnly Departure.lateStores }, { on := 10, ground := Ground.phase }], guard := none }) rfl (fun K hK => ?_) ?_
          · go_simp
            refine hK.out _ _ ?_ (fun hHeld2 => ?_)
            · (try dsimp only); (first | with_reducible exact hs2 | with_reducible exact hs3 | go_keep)
            clear hK K
            try simp only [Act.put, List.setIfInBounds_toArray, List.set_cons_zero, List.set_cons_succ]
            refine wpAnyH_take (i := 12) (oi := { dst := some 7, op := Op.assign (Operand.tmp 31), type := 23, pos := "op.go:78", after := #[{ on := 9, ground := Ground.data }, { on := 11, ground := Ground.chain }, { on := 0, ground := Ground.phase }, { on := 1, ground := Ground.phase }, { on := 2, ground := Ground.phase }, { on := 3, ground := Ground.phase }, { on := 4, ground := Ground.phase }, { on := 5, ground := Ground.phase }, { on := 6, ground := Ground.phase }, { on := 7, ground := Ground.phase }, { on := 8, ground := Ground.phase }, { on := 9, ground := Ground.phase }, { on := 10, ground := Ground.phase }, { on := 11, ground := Ground.phase }], guard := none }) (v := ?_) rfl (by kernel_rfl) (by kernel_rfl) (by kernel_rfl) (fun _ _ _ h => h) (Or.inl ⟨by rfl, ?_⟩) (by assumption) ?_
            rotate_left
            · (intro wz hSw; (try dsimp only at hSw); go_simp; try with_reducible rfl)
            simp only [Act.put, List.setIfInBounds_toArray, List.set_cons_zero, List.set_cons_succ]
            refine wpAnyH_done (by kernel_rfl) ?_ _
            go_wp2_with fail
            go_meet
            first | exact ⟨rfl, _, rfl, (opf_set rfl hb5 _ _ _ _ _ _ _ _).1, F5, mid_off hM5 (opf_set rfl hb5 _ _ _ _ _ _ _ _).2 (fun h => by rcases hf5 _ h with h | h; exact absurd (hM3.lo _ h) (by have := hM3.lt; omega); simp at h; omega) (by have := hM3.lt; omega)⟩ | exact ⟨rfl, _, rfl, new_at w5 _ _ rfl, F5, hM5.kept (Keeps.alloc None w5 _)⟩
          exact AllReadyH.nil
        exact AllReadyH.nil
      refine AllReadyH.cons (o := { dst := some 6, op := Op.alloc 63, type := 0, pos := "op.go:78", after := #[], guard := none }) rfl (fun K hK => ?_) ?_
      · go_simp
        refine hK.out _ _ ?_ (fun hHeld2 => ?_)
        · (try dsimp only); (first | with_reducible exact hs2 | with_reducible exact hs3 | go_keep)
        clear hK K
        try simp only [Act.put, List.setIfInBounds_toArray, List.set_cons_zero, List.set_cons_succ]
        refine wpAnyH_ready (rs := [6]) (by kernel_rfl) (by simp) ?_
        refine AllReadyH.cons (o := { dst := some 29, op := Op.call { callee := Callee.value (Operand.tmp 26), args := #[Operand.tmp 27, Operand.tmp 28], argTypes := #[63, 86] }, type := 105, pos := "op.go:78", after := #[{ on := 3, ground := Ground.data }, { on := 4, ground := Ground.data }, { on := 5, ground := Ground.data }], guard := none }) rfl (fun K hK => ?_) ?_
        · go_simp
          refine (hgen _ (by first | exact Keeps.drew None _ | exact (Keeps.drew None _).andAlloc _)).mono ?_
          rintro _ w5 ⟨rfl, ⟨F5, hM5, hf5⟩, hk5⟩
          have hs2 := mid_s hM5 hk5 hM3.lo hg1 (by first | exact hfn | exact cell_keep (Keeps.alloc None wb.drew _) hfn (fun f => f))
          first | (have hkA : Keeps F wb.drew w5 := (by with_reducible exact hk5); clear hkA) | (have hb5 : w5.heap[wb.heap.size]? = some (.cells OpF.zero.vals 63 (0, 0)) := mid_z (w4 := wb.drew) hk5 hM3.lo hM3.lt; obtain ⟨z0, z1, z2, z3, z4, z5, z6, z7⟩ := zero_cells hb5; obtain ⟨y0, y1, y2, y3, y4, y5, y6, y7⟩ := zero_frees hb5; have hs3 := mid_s9 hs2 (opf_set rfl hb5 (.int .i64 m0) (.int .i64 m1) (.int .i64 m2) (.int .i64 m3) (.int .i64 m4) (.int .i64 m5) (.int .i64 m6) (.int .i64 m7)).2 (by have := hM3.lt; omega) (by omega))
          refine hK.out _ _ ?_ (fun hHeld2 => ?_)
          · (try dsimp only); (first | with_reducible exact hs2 | with_reducible exact hs3 | go_keep)
          clear hK K
          try simp only [Act.put, List.setIfInBounds_toArray, List.set_cons_zero, List.set_cons_succ]
          refine wpAnyH_take (i := 7) (oi := { dst := some 22, op := Op.move (Operand.tmp 29), type := 105, pos := "op.go:78", after := #[{ on := 6, ground := Ground.data }], guard := none }) (v := ?_) rfl (by kernel_rfl) (by kernel_rfl) (by kernel_rfl) (fun _ _ _ h => h) (Or.inl ⟨by rfl, ?_⟩) (by assumption) ?_
          rotate_left
          · (intro wz hSw; (try dsimp only at hSw); go_simp; try with_reducible rfl)
          simp only [Act.put, List.setIfInBounds_toArray, List.set_cons_zero, List.set_cons_succ]
          refine wpAnyH_take (i := 8) (oi := { dst := some 30, op := Op.extract (Operand.tmp 22) 0, type := 63, pos := "op.go:78", after := #[{ on := 7, ground := Ground.data }], guard := none }) (v := ?_) rfl (by kernel_rfl) (by kernel_rfl) (by kernel_rfl) (fun _ _ _ h => h) (Or.inl ⟨by rfl, ?_⟩) (by assumption) ?_
          rotate_left
          · (intro wz hSw; (try dsimp only at hSw); go_simp; try with_reducible rfl)
          simp only [Act.put, List.setIfInBounds_toArray, List.set_cons_zero, List.set_cons_succ]
          refine wpAnyH_take (i := 9) (oi := { dst := some 31, op := Op.extract (Operand.tmp 22) 1, type := 23, pos := "op.go:78", after := #[{ on := 7, ground := Ground.data }, { on := 11, ground := Ground.gcOnly Departure.lateStores }], guard := none }) (v := ?_) rfl (by kernel_rfl) (by kernel_rfl) (by kernel_rfl) (fun _ _ _ h => h) (Or.inl ⟨by rfl, ?_⟩) (by assumption) ?_
          rotate_left
          · (intro wz hSw; (try dsimp only at hSw); go_simp; try with_reducible rfl)
          simp only [Act.put, List.setIfInBounds_toArray, List.set_cons_zero, List.set_cons_succ]
          refine wpAnyH_ready (rs := [11]) (by kernel_rfl) (by simp) ?_
          refine AllReadyH.cons (o := { dst := none, op := Op.store 63 (Operand.tmp 6) (Operand.tmp 30), type := 0, pos := "op.go:78", after := #[{ on := 10, ground := Ground.data }, { on := 8, ground := Ground.data }, { on := 6, ground := Ground.chain }, { on := 0, ground := Ground.phase }, { on := 1, ground := Ground.phase }, { on := 2, ground := Ground.phase }, { on := 3, ground := Ground.phase }, { on := 4, ground := Ground.phase }, { on := 5, ground := Ground.phase }, { on := 6, ground := Ground.phase }, { on := 7, ground := Ground.phase }, { on := 8, ground := Ground.phase }, { on := 9, ground := Ground.textOnly Departure.lateStores }, { on := 10, ground := Ground.phase }], guard := none }) rfl (fun K hK => ?_) ?_
          · go_simp
            refine hK.out _ _ ?_ (fun hHeld2 => ?_)
            · (try dsimp only); (first | with_reducible exact hs2 | with_reducible exact hs3 | go_keep)
            clear hK K
            try simp only [Act.put, List.setIfInBounds_toArray, List.set_cons_zero, List.set_cons_succ]
            refine wpAnyH_take (i := 12) (oi := { dst := some 7, op := Op.assign (Operand.tmp 31), type := 23, pos := "op.go:78", after := #[{ on := 9, ground := Ground.data }, { on := 11, ground := Ground.chain }, { on := 0, ground := Ground.phase }, { on := 1, ground := Ground.phase }, { on := 2, ground := Ground.phase }, { on := 3, ground := Ground.phase }, { on := 4, ground := Ground.phase }, { on := 5, ground := Ground.phase }, { on := 6, ground := Ground.phase }, { on := 7, ground := Ground.phase }, { on := 8, ground := Ground.phase }, { on := 9, ground := Ground.phase }, { on := 10, ground := Ground.phase }, { on := 11, ground := Ground.phase }], guard := none }) (v := ?_) rfl (by kernel_rfl) (by kernel_rfl) (by kernel_rfl) (fun _ _ _ h => h) (Or.inl ⟨by rfl, ?_⟩) (by assumption) ?_
            rotate_left
            · (intro wz hSw; (try dsimp only at hSw); go_simp; try with_reducible rfl)
            simp only [Act.put, List.setIfInBounds_toArray, List.set_cons_zero, List.set_cons_succ]
            refine wpAnyH_done (by kernel_rfl) ?_ _
            go_wp2_with fail
            go_meet
            first | exact ⟨rfl, _, rfl, (opf_set rfl hb5 _ _ _ _ _ _ _ _).1, F5, mid_off hM5 (opf_set rfl hb5 _ _ _ _ _ _ _ _).2 (fun h => by rcases hf5 _ h with h | h; exact absurd (hM3.lo _ h) (by have := hM3.lt; omega); simp at h; omega) (by have := hM3.lt; omega)⟩ | exact ⟨rfl, _, rfl, new_at w5 _ _ rfl, F5, hM5.kept (Keeps.alloc None w5 _)⟩
          exact AllReadyH.nil
        exact AllReadyH.nil
      exact AllReadyH.nil
    case rest =>
      obtain ⟨rfl, g2, rfl, hb2, F6, hM6⟩ := hcut
      clear hM3 hfn hmet hcf
      have d0 := (cell_of_block hb2 0).trans rfl
      have d1 := (cell_of_block hb2 1).trans rfl
      have d2 := (cell_of_block hb2 2).trans rfl
      have d3 := (cell_of_block hb2 3).trans rfl
      have d4 := (cell_of_block hb2 4).trans rfl
      have d5 := (cell_of_block hb2 5).trans rfl
      have d6 := (cell_of_block hb2 6).trans rfl
      have d7 := (cell_of_block hb2 7).trans rfl
      obtain ⟨r0, r1, r2, r3, r4, r5, r6, r7⟩ := hM6.rcells
      obtain ⟨s0, s1, s2, s3, s4, s5, s6, s7⟩ := hM6.rfrees
      have H6 : Hid _ := hM6
      clear hM6 hb2
      go_wp2_with fail
      exact opf_end1 4 rfl rfl H6.out.res rfl rfl _ _ _ _ _ _ _ _ (fun w' hk => ⟨rfl, H6.out.fin hk⟩)
end Go.Proofs.Ytaipeclmfgdegaa
