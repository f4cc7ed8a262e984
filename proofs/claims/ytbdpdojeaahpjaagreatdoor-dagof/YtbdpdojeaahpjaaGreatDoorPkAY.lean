import Derived.Test.YtbdpdojeaahpjaaGreatDoorPkAX
/-! The document's 'spawn', upon what the child's task comes to. -/
namespace Go.Proofs.YtbdpdojeaahpjaaGreatDoor
set_option linter.unusedVariables false
set_option maxRecDepth 20000
set_option linter.unusedSimpArgs false
open Go.RowKit Go.HeapKit Go.PlainOps

/-- What the child's task leaves. -/
def RGot (R : Nat) (fv nv : Value) (wx : World) (Q : Int → Int → Nat → Int → Int → List Nd → Prop) (e0 : Ending) (w' : World) : Prop :=
  ∃ v sp fuel' er' depth' M' nv', e0 = .returned (.tuple #[.int .i64 v, .int .i64 sp]) ∧ IsRR w' R fv fuel' er' depth' M' nv' ∧ Keeps (RFoot R nv) wx w' ∧ Moved wx nv nv' ∧ 0 ≤ sp ∧ sp ≤ 8388608 ∧ Q v sp fuel' er' depth' M'
/-- The arguments, as far as they are laid. -/
structure ArgsAt (w wr : World) (I X R : Nat) (fv nv : Value) (fuel : Nat) (er depth : Int) (M : List Nd) (at_ e : Int) (t : Tk) (c k : Nat) (av : Value) : Prop where
  row : wr.ownsRow 0 2 1 av (argL t.regs c k).length (ints (argL t.regs c k))
  new : ∀ g, av.ownBlock = some g → I < g
  kept : Keeps None w wr
  run : IsRR wr R fv fuel er depth M nv
  task : IsRT wr X at_ e t
set_option maxHeartbeats 4000000 in
theorem rspawn_any (R X : Nat) (fa : Option Addr) (fn fc : Nat) (nv : Value) (fuel : Nat) (er depth : Int) (M : List Nd) (nd : Nd) (q : Nat) (at_ e : Int) (t : Tk) (ik ic iK : Int) (a m n b off : Nat) (w : World)
    (hr : IsRR w R (.slice fa fn fc) fuel er depth M nv) (ht : IsRT w X at_ e t) (hq : t.number = q) (hM : M[q]? = some nd) (hp : nd.ped = t.node.ped)
    (hm : m < fn) (hfa : fa = some ⟨b, off, none⟩) (hb : ¬ RFoot R nv b ∧ b ≠ X) (hpc : w.cell? ⟨b, off + m * 4, none⟩ = some (.int .i64 n)) (hn : n ≤ 8) (hd : 0 ≤ t.depth ∧ t.depth < 4096) (hsp : 0 ≤ t.spawned ∧ t.spawned ≤ 8388608) (hc : n = 0 ∨ (0 ≤ ic ∧ ic + n ≤ 16)) (ha8 : a < 8)
    (hb1 : 0 ≤ t.span ∧ t.span ≤ 8388608) (hb2 : 0 ≤ e ∧ e ≤ 8388608) (hok : ∀ x ∈ t.regs, okI x) (Q : Int → Int → Nat → Int → Int → List Nd → Prop)
    (hplay : ∀ wx aa ac, IsRR wx R (.slice fa fn fc) fuel er depth M nv → Keeps None w wx → SeenA wx aa n (argL t.regs ic.toNat n) →
      Calls Tryz.prog 36 #[.pointer (some ⟨R, 0, none⟩), .agg #[.int .i64 t.number, .int .i64 t.spawned, .int .i64 m, .int .i64 0, .int .i64 (pedV t.node.ped t.spawned), .int .i64 0, .int .i64 0], .slice aa n ac, .int .i64 (t.depth + 1)] wx (RGot R (.slice fa fn fc) nv wx Q)) :
    Calls Tryz.prog 47 #[.pointer (some ⟨R, 0, none⟩), .pointer (some ⟨X, 0, none⟩), .agg #[.int .i64 ik, .int .i64 a, .int .i64 m, .int .i64 ic, .int .i64 iK]] w fun e0 w' => e0 = .returned (.tuple #[]) ∧
      ∃ v sp fuel' er' depth' M' nv', IsRR w' R (.slice fa fn fc) fuel' er' depth' M' nv' ∧ IsRT w' X at_ (imax e (t.span + sp)) (gotT (spawnT t) a v sp) ∧ Keeps (fun k => RFoot R nv k ∨ k = X) w w' ∧ Moved w nv nv' ∧ 0 ≤ sp ∧ sp ≤ 8388608 ∧ Q v sp fuel' er' depth' M' := by
  subst hfa
  have hal := Keeps.alloc None w (.cells #[.int .i64 ik, .int .i64 a, .int .i64 m, .int .i64 ic, .int .i64 iK] 37)
  have bI := heap_alloc_new w (.cells #[.int .i64 ik, .int .i64 a, .int .i64 m, .int .i64 ic, .int .i64 iK] 37)
  obtain ⟨W, hW⟩ : ∃ W, W = w.alloc (.cells #[.int .i64 ik, .int .i64 a, .int .i64 m, .int .i64 ic, .int .i64 iK] 37) := ⟨_, rfl⟩
  obtain ⟨I, hI⟩ : ∃ I, I = w.heap.size := ⟨_, rfl⟩
  rw [← hW] at hal bI
  rw [← hI] at bI
  have hXI : X < I := by rw [hI]; exact blk_lt ht.blk
  have hRI : R < I := by rw [hI]; exact blk_lt hr.blk
  have sW : W.heap.size = I + 1 := by rw [hW, hI]; simp
  have r1 := hr.kept hal (fun _ _ f => f)
  have t1 := ht.kept hal (fun f => f)
  have c1 := t1.dep
  have HS : Hid (I = w.heap.size ∧ W.heap.size = I + 1 ∧ X < I ∧ R < I ∧ Keeps None w W ∧ W.heap[I]? = some (.cells #[.int .i64 ik, .int .i64 a, .int .i64 m, .int .i64 ic, .int .i64 iK] 37 (0, 0)) ∧ w.cell? ⟨b, off + m * 4, none⟩ = some (.int .i64 n) ∧ (∀ x ∈ t.regs, okI x)) := ⟨hI, sW, hXI, hRI, hal, bI, hpc, hok⟩
  have HR1 : Hid (IsRR W R (.slice (some ⟨b, off, none⟩) fn fc) fuel er depth M nv ∧ IsRT W X at_ e t ∧ IsRR w R (.slice (some ⟨b, off, none⟩) fn fc) fuel er depth M nv) := ⟨r1, t1, hr⟩
  have HPL : Hid _ := hplay
  have HB : Hid (¬ RFoot R nv b ∧ b ≠ X) := hb
  have HQ : Hid (t.number = q ∧ M[q]? = some nd ∧ nd.ped = t.node.ped) := ⟨hq, hM, hp⟩
  have i1 : ¬ (4096 ≤ t.depth) := by omega
  have i0 : (m : Int) < (fn : Int) := by omega
  clear hplay hr ht hal r1 t1 hpc bI hb hok hq hM hp
  go_enter Tryz.func47, Tryz.ntmps47
  go_upto_region 1 with fail
  rw [← hW, ← hI]
  clear hW hI sW hXI hRI
  go_wp2_with fail
  go_loopw [6, 7] (fun s6 s7 wr => ∃ (k : Nat) (av : Value), k ≤ n ∧ s6 = av ∧ s7 = .int .i64 k ∧ ArgsAt W wr I X R (.slice (some ⟨b, off, none⟩) fn fc) nv fuel er depth M at_ e t ic.toNat k av) (fun _ i _ => n - (intOf i).toNat)
  case atStart =>
    exact ⟨0, .slice none 0 0, Nat.zero_le _, rfl, rfl, ⟨⟨rfl, .inl ⟨rfl, rfl⟩⟩, fun g e => by simp [Value.ownBlock] at e, Keeps.refl _ _, HR1.out.1, HR1.out.2.1⟩⟩
  case round =>
    obtain ⟨k, av, hk, rfl, rfl, hA⟩ := hrel
    have bI := blk_kept HS.out.2.2.2.2.2.1 hA.kept (fun f => f)
    have x0 : wr.cell? ⟨I, 2, none⟩ = some (.int .i64 (m : Int)) := (blk_cell bI 2).trans rfl
    have x1 : wr.cell? ⟨R, 0, none⟩ = some (.slice (some ⟨b, off, none⟩) fn fc) := (blk_cell hA.run.blk 0).trans rfl
    have x2 : wr.cell? ⟨b, off + m * 4, none⟩ = some (.int .i64 (n : Int)) := (HS.out.2.2.2.2.1.trans hA.kept (fun _ f _ => f)).cell HS.out.2.2.2.2.2.2.1 (fun f => f)
    clear c1
    by_cases hkn : k < n
    · have i2 : (k : Int) < (n : Int) := by omega
      have hic : 0 ≤ ic ∧ ic + n ≤ 16 := by omega
      obtain ⟨c, rfl⟩ := Int.eq_ofNat_of_zero_le hic.1
      have HA : Hid _ := hA
      have HBI : Hid _ := bI
      clear hA bI
      go_upto_region 5 with fail
      go_quiet (fail)
      go_upto_region 7 with fail
      have hq1 := Keeps.drewN None wr nq
      generalize wr.drewN nq = Wq at *
      obtain ⟨x, hx⟩ : ∃ x, x = t.regs.getD (c + k) 0 := ⟨_, rfl⟩
      obtain ⟨ck, hck⟩ : ∃ ck : Nat, ck = c + k := ⟨_, rfl⟩
      have i3 : (ck : Int) < 16 := by omega
      have i4 : IntKind.i64.wrap ((c : Int) + (k : Int)) = (ck : Int) := by rw [wrap_small (by omega)]; omega
      have bI2 := blk_kept HBI.out hq1 (fun f => f)
      have tq := HA.out.task.kept hq1 (fun f => f)
      have rq := HA.out.run.kept hq1 (fun _ _ f => f)
      have owq := hq1.own HA.out.row (fun _ _ f => f)
      have y1 : Wq.cell? ⟨I, 3, none⟩ = some (.int .i64 (c : Int)) := (blk_cell bI2 3).trans rfl
      have y2 := tq.reg (k := ck) (by omega)
      rw [hck, ← hx, ← hck] at y2
      have hkA := (Keeps.drew None Wq).trans (Keeps.alloc None Wq.drew (.cells #[.int .i64 x] 2)) (fun _ f _ => f)
      have hgn := heap_alloc_new Wq.drew (.cells #[.int .i64 x] 2)
      obtain ⟨bb, cap, w1, hr1, ho1, hgr1, hm1⟩ := i64_append u6 (argL t.regs c k) x Wq.heap.size 25 _ (hkA.own owq (fun _ _ f => f)) (by rw [argL_len]; omega) hgn
      rw [argL_len] at hr1 ho1 hm1
      have hk1 : Keeps (fun i => u6.ownBlock = some i) Wq w1 := (hkA.mono (fun _ f _ => f.elim)).andGrown hgr1 (fun k e => .inl e)
      have hnew := HA.out.new
      have hW1 : Keeps None W w1 := ((HA.out.kept.trans hq1 (fun _ f _ => f))).trans hk1 (fun i e hi => by have := hnew i e; have := HS.out.2.1; omega)
      have hsz : I < Wq.heap.size := by have := HA.out.kept.size; have := hq1.size; have := HS.out.2.1; omega
      have nX6 : ¬ u6.ownBlock = some X := fun e => by have := hnew X e; have := HS.out.2.2.1; omega
      have nR6 : ∀ j, RFoot R nv j → ¬ u6.ownBlock = some j := fun j hj e => by
        rcases hj with hj | hj
        · subst hj; have := hnew j e; have := HS.out.2.2.2.1; omega
        · rcases HR1.out.2.2.row.2 with ⟨h0, _⟩ | ⟨g', _, _, h0, _, hg, _⟩
          · rw [h0] at hj; simp [Value.ownBlock] at hj
          · rw [h0] at hj; simp [Value.ownBlock] at hj; subst hj
            have := blk_lt hg; have := hnew g' e; have := HS.out.1; omega
      have hfin : ArgsAt W w1 I X R (.slice (some ⟨b, off, none⟩) fn fc) nv fuel er depth M at_ e t c (k + 1) (.slice (some ⟨bb, 0, none⟩) (k + 1) cap) := by
        refine ⟨?_, fun g e => ?_, hW1, rq.kept hk1 nR6, tq.kept hk1 nX6⟩
        · rw [argL_step, ← hx]
          simpa [argL_len] using ho1
        · rcases hm1 with hm1 | ⟨g', e', hg'⟩
          · exact hnew g (hm1 ▸ e)
          · rw [e'] at e
            obtain rfl := Option.some.inj e
            simp at hg'
            omega
      have HF : Hid _ := hfin
      have yr := hr1
      clear hfin hr1 ho1 hgr1 hm1 hk1 hW1 hsz nX6 nR6 hnew owq rq tq bI2 hgn hkA hq1 x0 x1 x2 hx HA HBI hck
      go_region_law (refine step_append_run rfl (.tmp 33) (.tmp 43) 25 25 rfl (by simp [Act.eval]) (by simp [Act.eval]) yr ?_)
      all_goals go_wp2_with fail
      all_goals exact ⟨⟨k + 1, _, by omega, rfl, by simp, HF.out⟩, by simp [intOf]; omega⟩
    · obtain rfl : k = n := by omega
      have i2 : ¬ ((k : Int) < (k : Int)) := by omega
      have HA : Hid _ := hA
      have HBI : Hid _ := bI
      clear hA bI
      go_upto_region 5 with fail
      go_quiet (fail)
      go_upto_region 8 with fail
      have hq1 := Keeps.drewN None wr nq
      generalize wr.drewN nq = Wq at *
      have bI2 := blk_kept HBI.out hq1 (fun f => f)
      have tq := HA.out.task.kept hq1 (fun f => f)
      have rq := HA.out.run.kept hq1 (fun _ _ f => f)
      have owq := hq1.own HA.out.row (fun _ _ f => f)
      have kq := (HS.out.2.2.2.2.1.trans HA.out.kept (fun _ f _ => f)).trans hq1 (fun _ f _ => f)
      have hrok : ∀ x ∈ argL t.regs ic.toNat k, okI x := fun x hx => by
        unfold argL at hx
        obtain ⟨j, _, rfl⟩ := List.mem_map.1 hx
        exact getD_ok HS.out.2.2.2.2.2.2.2 _
      obtain ⟨aa, ac, hav, hseen⟩ := row_seenA owq (by rw [argL_len]; omega) hrok
      rw [argL_len] at hav hseen
      subst hav
      obtain ⟨g, cap, hnv, hlt, hcell, _, _⟩ := rq.node HQ.out.2.1
      have y1 : Wq.cell? ⟨R, 3, none⟩ = some (.slice (some ⟨g, 0, none⟩) M.length cap) := by rw [← hnv]; exact (blk_cell rq.blk 3).trans rfl
      have y2 : Wq.cell? ⟨X, 0, none⟩ = some (.int .i64 (q : Int)) := by rw [← HQ.out.1]; exact tq.num
      have y3 : Wq.cell? ⟨g, q * 7 + 4, none⟩ = some (.int .i64 t.node.ped) := by rw [← HQ.out.2.2]; exact hcell 4 _ rfl
      have y4 : Wq.cell? ⟨X, 29, none⟩ = some (.int .i64 t.spawned) := tq.tail 3 rfl
      have i3 : (q : Int) < (M.length : Int) := by omega
      have hped := fun wx => rped_any t.node.ped t.spawned wx
      have HPD : wrap64 (wrap64 (wrap64 (t.node.ped * 1000003) + t.spawned) + 1) = pedV t.node.ped t.spawned := rfl
      rw [HPD] at hped
      obtain ⟨PV, hPV⟩ : ∃ PV, PV = pedV t.node.ped t.spawned := ⟨_, rfl⟩
      rw [← hPV] at hped
      have HPED : Hid _ := hped
      obtain ⟨ML, hML⟩ : ∃ ML, ML = M.length := ⟨_, rfl⟩
      rw [← hML] at y1 i3
      have HE : Hid (IsRR Wq R (.slice (some ⟨b, off, none⟩) fn fc) fuel er depth M nv ∧ IsRT Wq X at_ e t ∧ Keeps None w Wq ∧ SeenA Wq aa k (argL t.regs ic.toNat k) ∧ Wq.heap[I]? = some (.cells #[.int .i64 ik, .int .i64 a, .int .i64 m, .int .i64 ic, .int .i64 iK] 37 (0, 0)) ∧ PV = pedV t.node.ped t.spawned) := ⟨rq, tq, kq, hseen, bI2, hPV⟩
      clear HPD hped hML hnv hlt hcell hseen hrok kq owq rq tq bI2 hq1 x0 x1 x2 HA HBI hPV
      go_cut [5, 6, 8] (fun s5 s6 s8 wx => s5 = .pointer (some ⟨I, 0, none⟩) ∧ s6 = .slice aa k ac ∧ s8 = .int .i64 PV ∧ Keeps None Wq wx)
      case first =>
        go_region_held3 (fun w' => w'.cell? ⟨R, 3, none⟩ = some (.slice (some ⟨g, 0, none⟩) ML cap) ∧ w'.cell? ⟨X, 0, none⟩ = some (.int .i64 (q : Int)) ∧ w'.cell? ⟨g, q * 7 + 4, none⟩ = some (.int .i64 t.node.ped) ∧ w'.cell? ⟨X, 29, none⟩ = some (.int .i64 t.spawned)) (go_keep) ((go_at_call 22; refine (HPED.out _).mono ?_; rintro _ w4 ⟨rfl, hw4⟩; have hw5 := hw4.symm; subst hw5))
        all_goals (go_wp2_with fail; go_meet)
        all_goals exact ⟨rfl, rfl, rfl, Keeps.drew None _⟩
      case rest =>
        obtain ⟨rfl, rfl, rfl, kc⟩ := hcut
        have bI := blk_kept HE.out.2.2.2.2.1 kc (fun f => f)
        have rc := HE.out.1.kept kc (fun _ _ f => f)
        have tc := HE.out.2.1.kept kc (fun f => f)
        have kw := HE.out.2.2.1.trans kc (fun _ f _ => f)
        have c1 : wc.cell? ⟨X, 0, none⟩ = some (.int .i64 t.number) := tc.num
        have c2 : wc.cell? ⟨X, 29, none⟩ = some (.int .i64 t.spawned) := tc.tail 3 rfl
        have c3 : wc.cell? ⟨I, 2, none⟩ = some (.int .i64 (m : Int)) := (blk_cell bI 2).trans rfl
        have c4 : wc.cell? ⟨X, 1, none⟩ = some (.int .i64 t.depth) := tc.dep
        have hwd : IntKind.i64.wrap (t.depth + 1) = t.depth + 1 := wrap_small (by omega)
        have HP2 : Hid (∀ wx, Keeps None wc wx → Calls Tryz.prog 36 #[.pointer (some ⟨R, 0, none⟩), .agg #[.int .i64 t.number, .int .i64 t.spawned, .int .i64 m, .int .i64 0, .int .i64 PV, .int .i64 0, .int .i64 0], .slice aa k ac, .int .i64 (t.depth + 1)] wx (RGot R (.slice (some ⟨b, off, none⟩) fn fc) nv wx Q)) := fun wx hx => by
          rw [HE.out.2.2.2.2.2]
          exact HPL.out wx aa ac (rc.kept hx (fun _ _ f => f)) (kw.trans hx (fun _ f _ => f)) ((HE.out.2.2.2.1.more kc).more hx)
        have HNX : Hid (¬ RFoot R nv X) := fun e => (rc.off tc X e) rfl
        have HNI : Hid (¬ RFoot R nv I) := fun e => by
          rcases e with e | e
          · have := HS.out.2.2.2.1; omega
          · rcases HR1.out.2.2.row.2 with ⟨h0, _⟩ | ⟨g', _, _, h0, _, hg, _⟩
            · rw [h0] at e; simp [Value.ownBlock] at e
            · rw [h0] at e; simp [Value.ownBlock] at e; subst e
              have := blk_lt hg; have := HS.out.1; omega
        have HC : Hid (IsRR wc R (.slice (some ⟨b, off, none⟩) fn fc) fuel er depth M nv ∧ IsRT wc X at_ e t ∧ Keeps None w wc ∧ wc.heap[I]? = some (.cells #[.int .i64 ik, .int .i64 a, .int .i64 m, .int .i64 ic, .int .i64 iK] 37 (0, 0))) := ⟨rc, tc, kw, bI⟩
        clear bI rc tc kw kc y1 y2 y3 y4
        go_upto_region 9 with fail
        go_cut [5, 9, 10] (fun s5 s9 s10 wx => s5 = .pointer (some ⟨I, 0, none⟩) ∧ ∃ v sp fuel' er' depth' M' nv', s9 = .int .i64 v ∧ s10 = .int .i64 sp ∧ wx.heap[I]? = some (.cells #[.int .i64 ik, .int .i64 a, .int .i64 m, .int .i64 ic, .int .i64 iK] 37 (0, 0)) ∧ IsRR wx R (.slice (some ⟨b, off, none⟩) fn fc) fuel' er' depth' M' nv' ∧ IsRT wx X at_ e t ∧ Keeps (RFoot R nv) w wx ∧ Moved w nv nv' ∧ 0 ≤ sp ∧ sp ≤ 8388608 ∧ Q v sp fuel' er' depth' M')
        case first =>
          refine wp_region_held_drew (S := (fun w' => w'.cell? ⟨X, 0, none⟩ = some (.int .i64 t.number) ∧ w'.cell? ⟨X, 29, none⟩ = some (.int .i64 t.spawned) ∧ w'.cell? ⟨I, 2, none⟩ = some (.int .i64 (m : Int)) ∧ w'.cell? ⟨X, 1, none⟩ = some (.int .i64 t.depth))) (by kernel_rfl) ?_ (fun hHeld => ?_)
          · (try dsimp only); first | exact ⟨c1, c2, c3, c4⟩ | exact ⟨d1, d2, d3, d4⟩ | go_keep
          refine wpAnyH_take (i := 0) (oi := { dst := some 62, op := Op.move (Operand.tmp 0), type := 100, pos := "serial.go:50", after := #[], guard := none }) (v := ?_) rfl (by kernel_rfl) (by kernel_rfl) (by kernel_rfl) (fun _ _ _ h => h) (Or.inl ⟨by rfl, ?_⟩) (by assumption) ?_
          rotate_left
          · (intro wz hSw; (try dsimp only at hSw); go_simp; try with_reducible rfl)
          simp only [Act.put, List.setIfInBounds_toArray, List.set_cons_zero, List.set_cons_succ]
          refine wpAnyH_take (i := 1) (oi := { dst := some 63, op := Op.move (Operand.tmp 1), type := 115, pos := "serial.go:50", after := #[], guard := none }) (v := ?_) rfl (by kernel_rfl) (by kernel_rfl) (by kernel_rfl) (fun _ _ _ h => h) (Or.inl ⟨by rfl, ?_⟩) (by assumption) ?_
          rotate_left
          · (intro wz hSw; (try dsimp only at hSw); go_simp; try with_reducible rfl)
          simp only [Act.put, List.setIfInBounds_toArray, List.set_cons_zero, List.set_cons_succ]
          refine wpAnyH_take (i := 2) (oi := { dst := some 64, op := Op.nilCheck (Operand.tmp 63), type := 0, pos := "serial.go:50", after := #[{ on := 1, ground := Ground.data }], guard := none }) (v := ?_) rfl (by kernel_rfl) (by kernel_rfl) (by kernel_rfl) (fun _ _ _ h => h) (Or.inl ⟨by rfl, ?_⟩) (by assumption) ?_
          rotate_left
          · (intro wz hSw; (try dsimp only at hSw); go_simp; try with_reducible rfl)
          simp only [Act.put, List.setIfInBounds_toArray, List.set_cons_zero, List.set_cons_succ]
          refine wpAnyH_take (i := 3) (oi := { dst := some 65, op := Op.fieldAddr 117 (Operand.tmp 64) 0, type := 0, pos := "serial.go:50", after := #[{ on := 2, ground := Ground.data }], guard := none }) (v := ?_) rfl (by kernel_rfl) (by kernel_rfl) (by kernel_rfl) (fun _ _ _ h => h) (Or.inl ⟨by rfl, ?_⟩) (by assumption) ?_
          rotate_left
          · (intro wz hSw; (try dsimp only at hSw); go_simp; try with_reducible rfl)
          simp only [Act.put, List.setIfInBounds_toArray, List.set_cons_zero, List.set_cons_succ]
          refine wpAnyH_take (i := 4) (oi := { dst := some 66, op := Op.load 3 (Operand.tmp 65), type := 3, pos := "serial.go:50", after := #[{ on := 3, ground := Ground.data }], guard := none }) (v := ?_) rfl (by kernel_rfl) (by kernel_rfl) (by kernel_rfl) (fun _ _ _ h => h) (Or.inl ⟨by rfl, ?_⟩) (by assumption) ?_
          rotate_left
          · (intro wz hSw; (try dsimp only at hSw); go_simp; try with_reducible rfl)
          simp only [Act.put, List.setIfInBounds_toArray, List.set_cons_zero, List.set_cons_succ]
          refine wpAnyH_take (i := 5) (oi := { dst := some 67, op := Op.move (Operand.tmp 1), type := 115, pos := "serial.go:50", after := #[], guard := none }) (v := ?_) rfl (by kernel_rfl) (by kernel_rfl) (by kernel_rfl) (fun _ _ _ h => h) (Or.inl ⟨by rfl, ?_⟩) (by assumption) ?_
          rotate_left
          · (intro wz hSw; (try dsimp only at hSw); go_simp; try with_reducible rfl)
          simp only [Act.put, List.setIfInBounds_toArray, List.set_cons_zero, List.set_cons_succ]
          refine wpAnyH_take (i := 6) (oi := { dst := some 68, op := Op.nilCheck (Operand.tmp 67), type := 0, pos := "serial.go:50", after := #[{ on := 5, ground := Ground.data }], guard := none }) (v := ?_) rfl (by kernel_rfl) (by kernel_rfl) (by kernel_rfl) (fun _ _ _ h => h) (Or.inl ⟨by rfl, ?_⟩) (by assumption) ?_
          rotate_left
          · (intro wz hSw; (try dsimp only at hSw); go_simp; try with_reducible rfl)
          simp only [Act.put, List.setIfInBounds_toArray, List.set_cons_zero, List.set_cons_succ]
          refine wpAnyH_take (i := 7) (oi := { dst := some 69, op := Op.fieldAddr 117 (Operand.tmp 68) 7, type := 0, pos := "serial.go:50", after := #[{ on := 6, ground := Ground.data }], guard := none }) (v := ?_) rfl (by kernel_rfl) (by kernel_rfl) (by kernel_rfl) (fun _ _ _ h => h) (Or.inl ⟨by rfl, ?_⟩) (by assumption) ?_
          rotate_left
          · (intro wz hSw; (try dsimp only at hSw); go_simp; try with_reducible rfl)
          simp only [Act.put, List.setIfInBounds_toArray, List.set_cons_zero, List.set_cons_succ]
          refine wpAnyH_take (i := 8) (oi := { dst := some 70, op := Op.load 3 (Operand.tmp 69), type := 3, pos := "serial.go:50", after := #[{ on := 7, ground := Ground.data }], guard := none }) (v := ?_) rfl (by kernel_rfl) (by kernel_rfl) (by kernel_rfl) (fun _ _ _ h => h) (Or.inl ⟨by rfl, ?_⟩) (by assumption) ?_
          rotate_left
          · (intro wz hSw; (try dsimp only at hSw); go_simp; try with_reducible rfl)
          simp only [Act.put, List.setIfInBounds_toArray, List.set_cons_zero, List.set_cons_succ]
          refine wpAnyH_take (i := 9) (oi := { dst := some 71, op := Op.fieldAddr 37 (Operand.tmp 5) 2, type := 0, pos := "serial.go:50", after := #[], guard := none }) (v := ?_) rfl (by kernel_rfl) (by kernel_rfl) (by kernel_rfl) (fun _ _ _ h => h) (Or.inl ⟨by rfl, ?_⟩) (by assumption) ?_
          rotate_left
          · (intro wz hSw; (try dsimp only at hSw); go_simp; try with_reducible rfl)
          simp only [Act.put, List.setIfInBounds_toArray, List.set_cons_zero, List.set_cons_succ]
          refine wpAnyH_take (i := 10) (oi := { dst := some 72, op := Op.load 3 (Operand.tmp 71), type := 3, pos := "serial.go:50", after := #[{ on := 9, ground := Ground.data }], guard := none }) (v := ?_) rfl (by kernel_rfl) (by kernel_rfl) (by kernel_rfl) (fun _ _ _ h => h) (Or.inl ⟨by rfl, ?_⟩) (by assumption) ?_
          rotate_left
          · (intro wz hSw; (try dsimp only at hSw); go_simp; try with_reducible rfl)
          simp only [Act.put, List.setIfInBounds_toArray, List.set_cons_zero, List.set_cons_succ]
          refine wpAnyH_take (i := 11) (oi := { dst := some 73, op := Op.move (Operand.tmp 8), type := 2, pos := "serial.go:50", after := #[], guard := none }) (v := ?_) rfl (by kernel_rfl) (by kernel_rfl) (by kernel_rfl) (fun _ _ _ h => h) (Or.inl ⟨by rfl, ?_⟩) (by assumption) ?_
          rotate_left
          · (intro wz hSw; (try dsimp only at hSw); go_simp; try with_reducible rfl)
          simp only [Act.put, List.setIfInBounds_toArray, List.set_cons_zero, List.set_cons_succ]
          refine wpAnyH_take (i := 12) (oi := { dst := some 74, op := Op.build 65 #[(0, Operand.tmp 66), (1, Operand.tmp 70), (2, Operand.tmp 72), (4, Operand.tmp 73)], type := 65, pos := "serial.go:50", after := #[{ on := 4, ground := Ground.data }, { on := 8, ground := Ground.data }, { on := 10, ground := Ground.data }, { on := 11, ground := Ground.data }], guard := none }) (v := ?_) rfl (by kernel_rfl) (by kernel_rfl) (by kernel_rfl) (fun _ _ _ h => h) (Or.inl ⟨by rfl, ?_⟩) (by assumption) ?_
          rotate_left
          · (intro wz hSw; (try dsimp only at hSw); go_simp; try with_reducible rfl)
          simp only [Act.put, List.setIfInBounds_toArray, List.set_cons_zero, List.set_cons_succ]
          refine wpAnyH_take (i := 13) (oi := { dst := some 75, op := Op.move (Operand.tmp 6), type := 25, pos := "serial.go:50", after := #[], guard := none }) (v := ?_) rfl (by kernel_rfl) (by kernel_rfl) (by kernel_rfl) (fun _ _ _ h => h) (Or.inl ⟨by rfl, ?_⟩) (by assumption) ?_
          rotate_left
          · (intro wz hSw; (try dsimp only at hSw); go_simp; try with_reducible rfl)
          simp only [Act.put, List.setIfInBounds_toArray, List.set_cons_zero, List.set_cons_succ]
          refine wpAnyH_take (i := 14) (oi := { dst := some 76, op := Op.move (Operand.tmp 1), type := 115, pos := "serial.go:50", after := #[], guard := none }) (v := ?_) rfl (by kernel_rfl) (by kernel_rfl) (by kernel_rfl) (fun _ _ _ h => h) (Or.inl ⟨by rfl, ?_⟩) (by assumption) ?_
          rotate_left
          · (intro wz hSw; (try dsimp only at hSw); go_simp; try with_reducible rfl)
          simp only [Act.put, List.setIfInBounds_toArray, List.set_cons_zero, List.set_cons_succ]
          refine wpAnyH_take (i := 15) (oi := { dst := some 77, op := Op.nilCheck (Operand.tmp 76), type := 0, pos := "serial.go:50", after := #[{ on := 14, ground := Ground.data }], guard := none }) (v := ?_) rfl (by kernel_rfl) (by kernel_rfl) (by kernel_rfl) (fun _ _ _ h => h) (Or.inl ⟨by rfl, ?_⟩) (by assumption) ?_
          rotate_left
          · (intro wz hSw; (try dsimp only at hSw); go_simp; try with_reducible rfl)
          simp only [Act.put, List.setIfInBounds_toArray, List.set_cons_zero, List.set_cons_succ]
          refine wpAnyH_take (i := 16) (oi := { dst := some 78, op := Op.fieldAddr 117 (Operand.tmp 77) 1, type := 0, pos := "serial.go:50", after := #[{ on := 15, ground := Ground.data }], guard := none }) (v := ?_) rfl (by kernel_rfl) (by kernel_rfl) (by kernel_rfl) (fun _ _ _ h => h) (Or.inl ⟨by rfl, ?_⟩) (by assumption) ?_
          rotate_left
          · (intro wz hSw; (try dsimp only at hSw); go_simp; try with_reducible rfl)
          simp only [Act.put, List.setIfInBounds_toArray, List.set_cons_zero, List.set_cons_succ]
          refine wpAnyH_take (i := 17) (oi := { dst := some 79, op := Op.load 3 (Operand.tmp 78), type := 3, pos := "serial.go:50", after := #[{ on := 16, ground := Ground.data }], guard := none }) (v := ?_) rfl (by kernel_rfl) (by kernel_rfl) (by kernel_rfl) (fun _ _ _ h => h) (Or.inl ⟨by rfl, ?_⟩) (by assumption) ?_
          rotate_left
          · (intro wz hSw; (try dsimp only at hSw); go_simp; try with_reducible rfl)
          simp only [Act.put, List.setIfInBounds_toArray, List.set_cons_zero, List.set_cons_succ]
          refine wpAnyH_take (i := 18) (oi := { dst := some 80, op := Op.binOp BinOp.add 3 (Operand.tmp 79) (Operand.const (Value.int IntKind.i64 1)) 3, type := 3, pos := "serial.go:50", after := #[{ on := 17, ground := Ground.data }], guard := none }) (v := ?_) rfl (by kernel_rfl) (by kernel_rfl) (by kernel_rfl) (fun _ _ _ h => h) (Or.inl ⟨by rfl, ?_⟩) (by assumption) ?_
          rotate_left
          · (intro wz hSw; (try dsimp only at hSw); go_simp; try with_reducible rfl)
          simp only [Act.put, List.setIfInBounds_toArray, List.set_cons_zero, List.set_cons_succ]
          refine wpAnyH_ready (rs := [19]) (by kernel_rfl) (by simp) ?_
          refine AllReadyH.cons (o := { dst := some 81, op := Op.call { callee := Callee.value (Operand.func 36), args := #[Operand.tmp 62, Operand.tmp 74, Operand.tmp 75, Operand.tmp 80], argTypes := #[100, 65, 25, 3] }, type := 58, pos := "serial.go:50", after := #[{ on := 0, ground := Ground.data }, { on := 12, ground := Ground.data }, { on := 13, ground := Ground.data }, { on := 18, ground := Ground.data }], guard := none }) rfl (fun K hK => ?_) ?_
          · go_simp
            refine (HP2.out _ (Keeps.drew None wc)).mono ?_
            rintro _ w5 ⟨v, sp, fuel', er', depth', M', nv', rfl, hr5, hk5, hm5, hs0, hs1, hQ5⟩
            have d1 := hk5.cell (a := ⟨X, 0, none⟩) c1 HNX.out
            have d2 := hk5.cell (a := ⟨X, 29, none⟩) c2 HNX.out
            have d3 := hk5.cell (a := ⟨I, 2, none⟩) c3 HNI.out
            have d4 := hk5.cell (a := ⟨X, 1, none⟩) c4 HNX.out
            refine hK.out _ _ ?_ (fun hHeld2 => ?_)
            · (try dsimp only); first | exact ⟨c1, c2, c3, c4⟩ | exact ⟨d1, d2, d3, d4⟩ | go_keep
            clear hK K
            try simp only [Act.put, List.setIfInBounds_toArray, List.set_cons_zero, List.set_cons_succ]
            refine wpAnyH_take (i := 20) (oi := { dst := some 61, op := Op.move (Operand.tmp 81), type := 58, pos := "serial.go:50", after := #[{ on := 19, ground := Ground.data }], guard := none }) (v := ?_) rfl (by kernel_rfl) (by kernel_rfl) (by kernel_rfl) (fun _ _ _ h => h) (Or.inl ⟨by rfl, ?_⟩) (by assumption) ?_
            rotate_left
            · (intro wz hSw; (try dsimp only at hSw); go_simp; try with_reducible rfl)
            simp only [Act.put, List.setIfInBounds_toArray, List.set_cons_zero, List.set_cons_succ]
            refine wpAnyH_take (i := 21) (oi := { dst := some 82, op := Op.extract (Operand.tmp 61) 0, type := 2, pos := "serial.go:50", after := #[{ on := 20, ground := Ground.data }], guard := none }) (v := ?_) rfl (by kernel_rfl) (by kernel_rfl) (by kernel_rfl) (fun _ _ _ h => h) (Or.inl ⟨by rfl, ?_⟩) (by assumption) ?_
            rotate_left
            · (intro wz hSw; (try dsimp only at hSw); go_simp; try with_reducible rfl)
            simp only [Act.put, List.setIfInBounds_toArray, List.set_cons_zero, List.set_cons_succ]
            refine wpAnyH_take (i := 22) (oi := { dst := some 83, op := Op.extract (Operand.tmp 61) 1, type := 3, pos := "serial.go:50", after := #[{ on := 20, ground := Ground.data }, { on := 23, ground := Ground.gcOnly Departure.lateStores }], guard := none }) (v := ?_) rfl (by kernel_rfl) (by kernel_rfl) (by kernel_rfl) (fun _ _ _ h => h) (Or.inl ⟨by rfl, ?_⟩) (by assumption) ?_
            rotate_left
            · (intro wz hSw; (try dsimp only at hSw); go_simp; try with_reducible rfl)
            simp only [Act.put, List.setIfInBounds_toArray, List.set_cons_zero, List.set_cons_succ]
            refine wpAnyH_take (i := 23) (oi := { dst := some 9, op := Op.assign (Operand.tmp 82), type := 2, pos := "serial.go:50", after := #[{ on := 21, ground := Ground.data }, { on := 19, ground := Ground.chain }, { on := 0, ground := Ground.phase }, { on := 1, ground := Ground.phase }, { on := 2, ground := Ground.phase }, { on := 3, ground := Ground.phase }, { on := 4, ground := Ground.phase }, { on := 5, ground := Ground.phase }, { on := 6, ground := Ground.phase }, { on := 7, ground := Ground.phase }, { on := 8, ground := Ground.phase }, { on := 9, ground := Ground.phase }, { on := 10, ground := Ground.phase }, { on := 11, ground := Ground.phase }, { on := 12, ground := Ground.phase }, { on := 13, ground := Ground.phase }, { on := 14, ground := Ground.phase }, { on := 15, ground := Ground.phase }, { on := 16, ground := Ground.phase }, { on := 17, ground := Ground.phase }, { on := 18, ground := Ground.phase }, { on := 19, ground := Ground.phase }, { on := 20, ground := Ground.phase }, { on := 21, ground := Ground.phase }, { on := 22, ground := Ground.textOnly Departure.lateStores }], guard := none }) (v := ?_) rfl (by kernel_rfl) (by kernel_rfl) (by kernel_rfl) (fun _ _ _ h => h) (Or.inl ⟨by rfl, ?_⟩) (by assumption) ?_
            rotate_left
            · (intro wz hSw; (try dsimp only at hSw); go_simp; try with_reducible rfl)
            simp only [Act.put, List.setIfInBounds_toArray, List.set_cons_zero, List.set_cons_succ]
            refine wpAnyH_take (i := 24) (oi := { dst := some 10, op := Op.assign (Operand.tmp 83), type := 3, pos := "serial.go:50", after := #[{ on := 22, ground := Ground.data }, { on := 23, ground := Ground.chain }, { on := 0, ground := Ground.phase }, { on := 1, ground := Ground.phase }, { on := 2, ground := Ground.phase }, { on := 3, ground := Ground.phase }, { on := 4, ground := Ground.phase }, { on := 5, ground := Ground.phase }, { on := 6, ground := Ground.phase }, { on := 7, ground := Ground.phase }, { on := 8, ground := Ground.phase }, { on := 9, ground := Ground.phase }, { on := 10, ground := Ground.phase }, { on := 11, ground := Ground.phase }, { on := 12, ground := Ground.phase }, { on := 13, ground := Ground.phase }, { on := 14, ground := Ground.phase }, { on := 15, ground := Ground.phase }, { on := 16, ground := Ground.phase }, { on := 17, ground := Ground.phase }, { on := 18, ground := Ground.phase }, { on := 19, ground := Ground.phase }, { on := 20, ground := Ground.phase }, { on := 21, ground := Ground.phase }, { on := 22, ground := Ground.phase }, { on := 23, ground := Ground.phase }], guard := none }) (v := ?_) rfl (by kernel_rfl) (by kernel_rfl) (by kernel_rfl) (fun _ _ _ h => h) (Or.inl ⟨by rfl, ?_⟩) (by assumption) ?_
            rotate_left
            · (intro wz hSw; (try dsimp only at hSw); go_simp; try with_reducible rfl)
            simp only [Act.put, List.setIfInBounds_toArray, List.set_cons_zero, List.set_cons_succ]
            refine wpAnyH_done (by kernel_rfl) ?_ _
            go_wp2_with fail
            go_meet
            exact ⟨rfl, v, sp, fuel', er', depth', M', nv', rfl, rfl, blk_kept (blk_kept HC.out.2.2.2 (Keeps.drew None wc) (fun f => f)) hk5 HNI.out, hr5, (HC.out.2.1.kept (Keeps.drew None wc) (fun f => f)).kept hk5 HNX.out, (HC.out.2.2.1.andDrew.mono (T := RFoot R nv) (fun _ f _ => f.elim)).trans hk5 (fun _ e _ => e), hm5.back HC.out.2.2.1.andDrew.size, hs0, hs1, hQ5⟩
          exact AllReadyH.nil
        case rest =>
          obtain ⟨rfl, v0, sp0, fuel', er', depth', M', nv', rfl, rfl, bI, r5, t5, k5, m5, hs0, hs1, hQ5⟩ := hcut
          have e1 := t5.tail 3 rfl
          have e2 := t5.free 29
          have t6 := t5.putTail (t' := spawnT t) (at' := at_) (e' := e) (j := 3) (x := t.spawned + 1) rfl rfl rfl rfl rfl
          have k6 : Keeps (· = X) wc _ := Keeps.setCell (S := (· = X)) wc (a := ⟨X, 29, none⟩) rfl (.int .i64 (t.spawned + 1))
          have bI6 := blk_kept bI k6 (by have := HS.out.2.2.1; omega)
          have r6 := r5.kept k6 (r5.off t5)
          have HW : Hid (IsRR (wc.setCell ⟨X, 29, none⟩ (.int .i64 (t.spawned + 1))) R (.slice (some ⟨b, off, none⟩) fn fc) fuel' er' depth' M' nv' ∧ IsRT (wc.setCell ⟨X, 29, none⟩ (.int .i64 (t.spawned + 1))) X at_ e (spawnT t) ∧ Keeps (fun k => RFoot R nv k ∨ k = X) w (wc.setCell ⟨X, 29, none⟩ (.int .i64 (t.spawned + 1))) ∧ Moved w nv nv' ∧ (wc.setCell ⟨X, 29, none⟩ (.int .i64 (t.spawned + 1))).heap[I]? = some (.cells #[.int .i64 ik, .int .i64 a, .int .i64 m, .int .i64 ic, .int .i64 iK] 37 (0, 0))) :=
            ⟨r6, t6, (k5.mono (T := fun k => RFoot R nv k ∨ k = X) (fun _ e _ => .inl e)).trans k6 (fun _ e _ => .inr e), m5, bI6⟩
          clear bI r5 t5 k5 m5 t6 k6 bI6 r6 c1 c2 c3 c4 hwd
          go_upto_region 11 with fail
          obtain ⟨V, hV⟩ : ∃ V, V = wc.setCell ⟨X, 29, none⟩ (.int .i64 (t.spawned + 1)) := ⟨_, rfl⟩
          rw [← hV]
          rw [← hV] at HW
          clear hV e1 e2
          have f1 : V.cell? ⟨I, 1, none⟩ = some (.int .i64 (a : Int)) := (blk_cell HW.out.2.2.2.2 1).trans rfl
          have f2 := HW.out.2.1.slot ha8
          have f3 := HW.out.2.1.free (18 + a)
          have i5 : (a : Int) < 8 := by omega
          have t7 := HW.out.2.1.putSlot (x := v0) ha8
          have k7 : Keeps (· = X) V _ := Keeps.setCell (S := (· = X)) V (a := ⟨X, 18 + a, none⟩) rfl (.int .i64 v0)
          have t8 := t7.putTail (t' := gotT (spawnT t) a v0 sp0) (at' := at_) (e' := imax e (t.span + sp0)) (j := 2) (x := imax e (t.span + sp0)) rfl rfl rfl rfl rfl
          have k8 : Keeps (· = X) (V.setCell ⟨X, 18 + a, none⟩ (.int .i64 v0)) _ := Keeps.setCell (S := (· = X)) _ (a := ⟨X, 28, none⟩) rfl (.int .i64 (imax e (t.span + sp0)))
          have k78 := k7.trans k8 (fun _ e _ => e)
          have g1 : (V.setCell ⟨X, 18 + a, none⟩ (.int .i64 v0)).cell? ⟨X, 28, none⟩ = some (.int .i64 e) := t7.tail 2 rfl
          have g2 : (V.setCell ⟨X, 18 + a, none⟩ (.int .i64 v0)).cell? ⟨X, 27, none⟩ = some (.int .i64 t.span) := t7.tail 1 rfl
          have g3 := t7.free 28
          have HF : Hid (∀ y, y = imax e (t.span + sp0) → ∃ v sp fuel' er' depth' M' nv', IsRR (((V.setCell ⟨X, 18 + a, none⟩ (.int .i64 v0)).setCell ⟨X, 28, none⟩ (.int .i64 y)).drew.drew) R (.slice (some ⟨b, off, none⟩) fn fc) fuel' er' depth' M' nv' ∧ IsRT (((V.setCell ⟨X, 18 + a, none⟩ (.int .i64 v0)).setCell ⟨X, 28, none⟩ (.int .i64 y)).drew.drew) X at_ (imax e (t.span + sp)) (gotT (spawnT t) a v sp) ∧ Keeps (fun k => RFoot R nv k ∨ k = X) w (((V.setCell ⟨X, 18 + a, none⟩ (.int .i64 v0)).setCell ⟨X, 28, none⟩ (.int .i64 y)).drew.drew) ∧ Moved w nv nv' ∧ 0 ≤ sp ∧ sp ≤ 8388608 ∧ Q v sp fuel' er' depth' M') := fun y hy => by
            subst hy
            exact ⟨v0, sp0, fuel', er', depth', M', nv', ((HW.out.1.kept k78 (HW.out.1.off HW.out.2.1)).kept (Keeps.drew None _) (fun _ _ f => f)).kept (Keeps.drew None _) (fun _ _ f => f), (t8.kept (Keeps.drew None _) (fun f => f)).kept (Keeps.drew None _) (fun f => f), (HW.out.2.2.1.trans k78 (fun _ e _ => .inr e)).andDrew.andDrew, HW.out.2.2.2.1, hs0, hs1, hQ5⟩
          obtain ⟨y, hy⟩ : ∃ y, y = (spawnT t).slots.getD a 0 := ⟨_, rfl⟩
          rw [← hy] at f2
          clear t7 k7 t8 k8 k78 hy HW
          by_cases hlt : e < t.span + sp0
          · have HG := HF.out (t.span + sp0) (if_pos hlt).symm
            have HGG : Hid _ := HG
            clear HG HF
            go_wp2_with fail
            go_region
            all_goals go_wp2_with fail
            all_goals go_region
            all_goals go_end0
            all_goals exact ⟨rfl, HGG.out⟩
          · have HG := HF.out e (if_neg hlt).symm
            have HGG : Hid _ := HG
            clear HG HF
            go_wp2_with fail
            go_region
            all_goals go_wp2_with fail
            all_goals go_region
            all_goals go_end0
            all_goals exact ⟨rfl, HGG.out⟩
end Go.Proofs.YtbdpdojeaahpjaaGreatDoor
