import Derived.Test.YtbdpdojeaahpjaaGreatDoorPkAZ
/-! The document's 'task': its beginning. -/
namespace Go.Proofs.YtbdpdojeaahpjaaGreatDoor
set_option linter.unusedVariables false
set_option maxRecDepth 20000
set_option linter.unusedSimpArgs false
open Go.RowKit Go.HeapKit Go.PlainOps

def ndC (p i f wk pd ag vv : Int) : Obj := .cells #[.int .i64 p, .int .i64 i, .int .i64 f, .int .i64 wk, .int .i64 pd, .int .i64 ag, .int .i64 vv] 65 (0, 0)
def freshR (num d : Int) (regs : List Int) : Tk := { regs := regs, slots := List.replicate 8 0, node := ⟨0, 0, 0, 0, 0, 0, 0⟩, number := num, depth := d, spawned := 0, span := 0, due := 0 }
/-- What stands behind the task's beginning. -/
structure BegR (fv : Value) (w : World) (R X N0 : Nat) (nv : Value) (s : Rn) (t : Tk) (M : List Nd) (wx : World) (nv' : Value) : Prop where
  run : IsRR wx R fv s.fuel 0 (imax s.depth t.depth) (M ++ [(enterT s t).node]) nv'
  task : IsRT wx X 0 0 (enterT s t)
  nblk : wx.heap[N0]? = some (ndC t.node.parent t.node.idx t.node.func 0 t.node.ped (t.regs.getD 0 0) 0)
  kept : Keeps (RFoot R nv) w wx
  moved : Moved w nv nv'
  nn : nv'.ownBlock ≠ some N0
set_option maxHeartbeats 4000000 in
theorem rtask_step (fs : List Fn) (hA : AllV fs) (fa : Option Addr) (fn fc : Nat) (w0 : World) (R n : Nat) (IH : ∀ k, k < n → RTaskOk fs fa fn fc w0 R k) : RTaskOk fs fa fn fc w0 R n := by
  intro g s t nv M aa an ac zs w hg hn hr hE hB hd hml hN hS
  have htin := hB.tin hd
  have hsin := hB.sin hd
  have hst : s.nodes.length = s.tasks := by simpa using hB.nodes
  have htk := hB.tasks
  have hlen : an = zs.length := hS.len
  obtain ⟨N0, hN0⟩ : ∃ N0, N0 = w.heap.size := ⟨_, rfl⟩
  obtain ⟨na, nc, hnv⟩ := hr.slice
  have hk2 := keeps2 w (ndC t.node.parent t.node.idx t.node.func 0 t.node.ped 0 0) (.cells (ints ((freshR M.length t.depth (List.replicate 16 0)).rl 0 0)).toArray 117)
  obtain ⟨p1, p2⟩ := two_boxes w #[.int .i64 t.node.parent, .int .i64 t.node.idx, .int .i64 t.node.func, .int .i64 0, .int .i64 t.node.ped, .int .i64 0, .int .i64 0] (ints ((freshR M.length t.depth (List.replicate 16 0)).rl 0 0)).toArray 65 117
  obtain ⟨W, hW⟩ : ∃ W, W = (w.alloc (ndC t.node.parent t.node.idx t.node.func 0 t.node.ped 0 0)).alloc (.cells (ints ((freshR M.length t.depth (List.replicate 16 0)).rl 0 0)).toArray 117) := ⟨_, rfl⟩
  have hW' := hW
  unfold ndC at hW' hk2
  rw [← hW'] at hk2 p1 p2
  rw [← hN0] at p1 p2
  have sW : W.heap.size = N0 + 2 := by rw [hW, hN0]; simp
  have r1 := hr.kept hk2 (fun _ _ f => f)
  have t1 : IsRT W (N0 + 1) 0 0 (freshR M.length t.depth (argsV zs 0 0)) := ⟨by rw [p2, args_zero], args_len _ _ _, rfl⟩
  obtain ⟨W1, hW1⟩ : ∃ W1, W1 = w.alloc (.cells #[.int .i64 t.node.parent, .int .i64 t.node.idx, .int .i64 t.node.func, .int .i64 0, .int .i64 t.node.ped, .int .i64 0, .int .i64 0] 65 (0, 0)) := ⟨_, rfl⟩
  have hcR : W1.cell? ⟨R, 3, none⟩ = some (.slice na M.length nc) := by
    rw [← hnv, hW1]
    exact (blk_cell (hr.kept (Keeps.alloc None w _) (fun _ _ f => f)).blk 3).trans rfl
  have hz1 : W1.heap.size = N0 + 1 := by rw [hW1, hN0]; simp
  rw [← hW1] at hW'
  have HX : Hid (N0 = w.heap.size ∧ W.heap.size = N0 + 2 ∧ Keeps None w W ∧ W.heap[N0]? = some (ndC t.node.parent t.node.idx t.node.func 0 t.node.ped 0 0) ∧ IsRR W R (.slice fa fn fc) s.fuel 0 s.depth M nv ∧ IsRT W (N0 + 1) 0 0 (freshR M.length t.depth (argsV zs 0 0)) ∧ SeenA w aa an zs ∧ R < N0 ∧ (∀ q, nv.ownBlock = some q → q < N0)) :=
    ⟨hN0, sW, hk2, p1, r1, t1, hS, by rw [hN0]; exact blk_lt hr.blk, fun q e => by
      rcases hr.row.2 with ⟨h0, _⟩ | ⟨g', _, _, h0, _, hg, _⟩
      · rw [h0] at e; simp [Value.ownBlock] at e
      · rw [h0] at e; simp [Value.ownBlock] at e; subst e; rw [hN0]; exact blk_lt hg⟩
  have HG : Hid (NewT t zs ∧ M.length = s.nodes.length ∧ s.nodes.length = s.tasks ∧ (enterT s t).In fs s.fuel ∧ (enterS true s t).In true ∧ s.fuel < g ∧ s.fuel ≤ n ∧ Env w0 w fa fn fs R nv ∧ AllV fs ∧ (∀ k, k < n → RTaskOk fs fa fn fc w0 R k) ∧ an = zs.length ∧ s.tasks + s.fuel < 8388608 ∧ IsRR w R (.slice fa fn fc) s.fuel 0 s.depth M nv) := ⟨hN, hml, hst, htin, hsin, hg, hn, hE, hA, IH, hlen, htk, hr⟩
  have HM : Hid (M.length ≤ 8388608) := by have := hB.tasks; unfold Hid; omega
  generalize hres : loopV fs true g (enterS true s t) (enterT s t) 0 = res
  have HRS : Hid _ := hres
  have HW : Hid (W = W1.alloc (.cells (ints ((freshR M.length t.depth (List.replicate 16 0)).rl 0 0)).toArray 117)) := hW'
  obtain ⟨ML, hML⟩ : ∃ ML, ML = M.length := ⟨_, rfl⟩
  rw [← hML] at hcR HW
  have HML : Hid _ := hML
  have HZ1 : Hid _ := hz1
  clear hg hn hr hE hB hml hN hS htin hsin hst htk hlen hk2 p1 p2 sW r1 t1 IH hA hres hnv hW' hW hML hz1
  go_enter Tryz.func36, Tryz.ntmps36
  go_upto_region 1 with fail
  rw [← hW1, ← hN0]
  clear hW1 hN0
  go_upto_region 2 with fail
  change Code.wp _ _ _ _ (W1.alloc (.cells (ints ((freshR ML t.depth (List.replicate 16 0)).rl 0 0)).toArray 117))
  rw [← HW.out, HZ1.out]
  clear hcR
  go_wp2_with fail
  go_loopw [11] (fun s11 wr => ∃ k : Nat, k ≤ an ∧ s11 = .int .i64 k ∧ IsRT wr (N0 + 1) 0 0 (freshR ML t.depth (argsV zs 0 k)) ∧ Keeps (· = N0 + 1) W wr) (fun i _ => an - (intOf i).toNat)
  case atStart =>
    refine ⟨0, Nat.zero_le _, rfl, ?_, Keeps.refl _ _⟩
    rw [HML.out]
    exact HX.out.2.2.2.2.2.1
  case round =>
    obtain ⟨k, hk, rfl, hY, kY⟩ := hrel
    have hzl : an = zs.length := HG.out.2.2.2.2.2.2.2.2.2.2.1
    have hz8 := HG.out.1.len
    have hk8 : k ≤ 8 := by omega
    have han : an ≤ 8 := by omega
    have HZL : Hid _ := hzl
    by_cases hkn : k < an
    · have i1 : (k : Int) < (an : Int) := by omega
      have i2 : (k : Int) < 16 := by omega
      obtain ⟨bb, oo, hab, hbb, hcc⟩ := HX.out.2.2.2.2.2.2.1.ex (by omega)
      subst hab
      obtain ⟨x, hx⟩ : ∃ x, zs[k]? = some x := ⟨zs[k]'(by omega), by simp⟩
      have c1 : wr.cell? ⟨bb, oo + k, none⟩ = some (.int .i64 x) := kY.cell (HX.out.2.2.1.cell (hcc k x hx) (fun f => f)) (by show ¬ bb = N0 + 1; have := HX.out.1; omega)
      have c2 := hY.reg (k := k) (by omega)
      have c3 := hY.free (2 + k)
      have t2 := hY.putReg (j := k) (x := x) (by omega)
      have k2 : Keeps (· = N0 + 1) wr _ := Keeps.setCell (S := (· = N0 + 1)) wr (a := ⟨N0 + 1, 2 + k, none⟩) rfl (.int .i64 x)
      have ex : setR (freshR ML t.depth (argsV zs 0 k)) k x = freshR ML t.depth (argsV zs 0 (k + 1)) := by
        have h1 := args_step zs 0 k (by omega)
        have h2 : zs.getD (0 + k) 0 = x := by simp [hx]
        rw [h2] at h1
        unfold setR freshR
        simp only
        rw [h1]
      rw [ex] at t2
      have HF : Hid _ := And.intro (t2.kept (Keeps.drew None _) (fun f => f)) ((kY.trans k2 (fun _ e _ => e)).andDrew)
      generalize (freshR ML t.depth (argsV zs 0 k)).regs.getD k 0 = x2 at *
      clear hY kY t2 k2 ex hx hcc hbb hzl hz8
      go_wp2_with fail
      go_region
      all_goals (go_wp2_with fail)
      all_goals exact ⟨⟨k + 1, by omega, by simp, HF.out⟩, by simp [intOf]; omega⟩
    · have i1 : ¬ ((k : Int) < (an : Int)) := by omega
      obtain rfl : k = an := by omega
      have etk : (enterT s t).rl 0 0 = (freshR ML t.depth (argsV zs 0 k)).rl 0 0 := by
        have hh := HG.out
        unfold Tk.rl Tk.rt enterT freshR
        simp only
        rw [HML.out, hh.2.1, hh.2.2.1, hh.1.regs, hh.1.slots, hh.1.spawned, hh.1.span, hzl]
      have tE : IsRT wr (N0 + 1) 0 0 (enterT s t) := ⟨by rw [etk]; exact hY.blk, by show t.regs.length = 16; rw [HG.out.1.regs]; exact args_len _ _ _, by show t.slots.length = 8; rw [HG.out.1.slots]; rfl⟩
      have bN := blk_kept HX.out.2.2.2.1 kY (by omega)
      have rE := HX.out.2.2.2.2.1.kept kY (fun q hq e => by
        rcases hq with hq | hq
        · have := HX.out.2.2.2.2.2.2.2.1; omega
        · have := HX.out.2.2.2.2.2.2.2.2 q hq; omega)
      have hr0 := tE.reg (k := 0) (by omega)
      unfold ndC at bN
      have z5 := blk_free bN 5
      have b5 : wr.cell? ⟨N0, 5, none⟩ = some (.int .i64 0) := (blk_cell bN 5).trans rfl
      have hreg0 : wr.cell? ⟨N0 + 1, 2, none⟩ = some (.int .i64 (t.regs.getD 0 0)) := hr0
      have HT : Hid (IsRT wr (N0 + 1) 0 0 (enterT s t) ∧ IsRR wr R (.slice fa fn fc) s.fuel 0 s.depth M nv ∧ Keeps (· = N0 + 1) W wr) := ⟨tE, rE, kY⟩
      have HBN : Hid _ := bN
      have hzz : k = 0 → t.regs.getD 0 0 = 0 := fun h0 => by
        have h1 := HG.out.1.regs
        have h2 : zs = [] := List.eq_nil_of_length_eq_zero (by omega)
        rw [h1, h2]
        rfl
      obtain ⟨A0, hA0⟩ : ∃ A0, A0 = t.regs.getD 0 0 := ⟨_, rfl⟩
      rw [← hA0] at hreg0 hzz
      have HA0 : Hid _ := hA0
      clear hY kY etk tE bN rE hr0 hzl hz8 hA0
      have bN1 : (wr.setCell ⟨N0, 5, none⟩ (.int .i64 A0)).heap[N0]? = some (ndC t.node.parent t.node.idx t.node.func 0 t.node.ped A0 0) := by rw [blk_set HBN.out]; rfl
      have kN1 : Keeps (· = N0) wr (wr.setCell ⟨N0, 5, none⟩ (.int .i64 A0)) := Keeps.setCell (S := (· = N0)) wr (a := ⟨N0, 5, none⟩) rfl _
      have HV : Hid ((wr.setCell ⟨N0, 5, none⟩ (.int .i64 A0)).heap[N0]? = some (ndC t.node.parent t.node.idx t.node.func 0 t.node.ped A0 0) ∧ Keeps (· = N0) wr (wr.setCell ⟨N0, 5, none⟩ (.int .i64 A0))) := ⟨bN1, kN1⟩
      clear bN1 kN1
      go_upto_region 7 with fail
      obtain ⟨V, hV⟩ : ∃ V, V = wr.setCell ⟨N0, 5, none⟩ (.int .i64 A0) := ⟨_, rfl⟩
      rw [← hV]
      rw [← hV] at HV
      clear hV hreg0 z5 b5
      go_cut [5, 10, 45] (fun s5 s10 s45 wx => s5 = .pointer (some ⟨N0, 0, none⟩) ∧ s10 = .pointer (some ⟨N0 + 1, 0, none⟩) ∧ s45 = .bool (decide ((k : Int) = 0)) ∧ wx = V)
      case first =>
        by_cases h0 : (k : Int) = 0
        · have h1 : ((k : Int) == 0) = true := by simpa using h0
          have H2 : Hid (decide ((k : Int) = 0) = true) := by unfold Hid; simpa using h0
          clear h0
          go_wp2_with fail
          go_meet
          exact ⟨rfl, rfl, by rw [H2.out], rfl⟩
        · have h1 : ((k : Int) == 0) = false := by simpa using h0
          have H2 : Hid (decide ((k : Int) = 0) = false) := by unfold Hid; simpa using h0
          clear h0
          go_wp2_with fail
          go_meet
          exact ⟨rfl, rfl, by rw [H2.out], rfl⟩
      case rest =>
        obtain ⟨rfl, rfl, rfl, hwV⟩ := hcut
        have hwV2 := hwV.symm
        subst hwV2
        go_step
        go_cut [5, 10] (fun s5 s10 wx => s5 = .pointer (some ⟨N0, 0, none⟩) ∧ s10 = .pointer (some ⟨N0 + 1, 0, none⟩) ∧ wx.heap[N0]? = some (ndC t.node.parent t.node.idx t.node.func 0 t.node.ped A0 0) ∧ Keeps (· = N0) wr wx)
        case first =>
          by_cases h0 : k = 0
          · have e0 := hzz h0
            subst e0
            subst h0
            have v5 : V.cell? ⟨N0, 5, none⟩ = some (.int .i64 0) := (blk_cell (by have := HV.out.1; unfold ndC at this; exact this) 5).trans rfl
            have y5 : V.frozen? ⟨N0, 5, none⟩ = false := blk_free (by have := HV.out.1; unfold ndC at this; exact this) 5
            have HF : Hid ((V.setCell ⟨N0, 5, none⟩ (.int .i64 0)).heap[N0]? = some (ndC t.node.parent t.node.idx t.node.func 0 t.node.ped 0 0) ∧ Keeps (· = N0) wr (V.setCell ⟨N0, 5, none⟩ (.int .i64 0))) := by
              have h1 := HV.out.1
              unfold ndC at h1
              refine ⟨by rw [blk_set h1]; rfl, HV.out.2.andSet (x := ⟨N0, 5, none⟩) (.inl rfl) _⟩
            clear hzz
            go_wp2_with fail
            go_meet
            exact ⟨rfl, rfl, HF.out⟩
          · have h2 : decide ((k : Int) = 0) = false := by simp; omega
            rw [h2]
            clear h2
            go_wp2_with fail
            go_meet
            exact ⟨rfl, rfl, HV.out⟩
        case rest =>
          obtain ⟨rfl, rfl, bN, kN⟩ := hcut
          have nNR : ∀ q, RFoot R nv q → ¬ q = N0 := fun q hq e => by
            rcases hq with hq | hq
            · have := HX.out.2.2.2.2.2.2.2.1; omega
            · have := HX.out.2.2.2.2.2.2.2.2 q hq; omega
          have rc := HT.out.2.1.kept kN nNR
          have tc := HT.out.1.kept kN (by omega)
          have kw : Keeps None w wc := (HX.out.2.2.1.trans HT.out.2.2 (fun i e hi => by have := HX.out.1; omega)).trans kN (fun i e hi => by have := HX.out.1; omega)
          have hEN : (enterT s t).node = ⟨t.node.parent, t.node.idx, t.node.func, 0, t.node.ped, A0, 0⟩ := by
            have hh := HG.out.1
            unfold enterT
            simp only
            rw [hh.work, hh.v, HA0.out]
          have kd := Keeps.drew None wc
          obtain ⟨bb, cap, w1, hr0, d3, f3, q1, q2, q3, q4⟩ := rnoded (x := (enterT s t).node) (rc.kept kd (fun _ _ f => f)) (tc.kept kd (fun f => f)) HM.out
          rw [hEN] at hr0
          simp only at hr0
          unfold ndC at bN
          have g0 : wc.cell? ⟨N0, 0, none⟩ = some (.int .i64 t.node.parent) := (blk_cell bN 0).trans rfl
          have g1 : wc.cell? ⟨N0, 1, none⟩ = some (.int .i64 t.node.idx) := (blk_cell bN 1).trans rfl
          have g2 : wc.cell? ⟨N0, 2, none⟩ = some (.int .i64 t.node.func) := (blk_cell bN 2).trans rfl
          have g3 : wc.cell? ⟨N0, 3, none⟩ = some (.int .i64 0) := (blk_cell bN 3).trans rfl
          have g4 : wc.cell? ⟨N0, 4, none⟩ = some (.int .i64 t.node.ped) := (blk_cell bN 4).trans rfl
          have g5 : wc.cell? ⟨N0, 5, none⟩ = some (.int .i64 A0) := (blk_cell bN 5).trans rfl
          have g6 : wc.cell? ⟨N0, 6, none⟩ = some (.int .i64 0) := (blk_cell bN 6).trans rfl
          have y3 : wc.cell? ⟨R, 3, none⟩ = some nv := (blk_cell rc.blk 3).trans rfl
          have e6 := (Keeps.alloc None wc (.cells #[.int .i64 t.node.parent, .int .i64 t.node.idx, .int .i64 t.node.func, .int .i64 0, .int .i64 t.node.ped, .int .i64 A0, .int .i64 0] 65)).cell y3 (fun f => f)
          have hyr : (Builtin.append_ #[55, 55] 55 #[nv, .slice (some ⟨wc.heap.size, 0, none⟩) 1 1]).run Tryz.prog (wc.drew.alloc (.cells #[.int .i64 t.node.parent, .int .i64 t.node.idx, .int .i64 t.node.func, .int .i64 0, .int .i64 t.node.ped, .int .i64 A0, .int .i64 0] 65)) = .ok (.slice (some ⟨bb, 0, none⟩) (M.length + 1) cap) w1 := hr0
          have kd2 : Keeps (RFoot R nv) wc _ := (kd.mono (T := RFoot R nv) (fun _ f _ => f.elim)).trans q3 (fun _ e _ => e)
          have bN2 := blk_kept bN kd2 (fun e => nNR N0 e rfl)
          have kw2 := (kw.mono (T := RFoot R nv) (fun _ f _ => f.elim)).trans kd2 (fun _ e _ => e)
          have mv2 : Moved w nv (.slice (some ⟨bb, 0, none⟩) (M.length + 1) cap) := q4.back (Nat.le_trans kw.size kd.size)
          obtain ⟨V2, hV2⟩ : ∃ V2, V2 = w1.setCell ⟨R, 3, none⟩ (.slice (some ⟨bb, 0, none⟩) (M.length + 1) cap) := ⟨_, rfl⟩
          rw [← hV2] at q1 q2 bN2 kw2
          have HQ : Hid (IsRR V2 R (.slice fa fn fc) s.fuel 0 s.depth (M ++ [(enterT s t).node]) (.slice (some ⟨bb, 0, none⟩) (M.length + 1) cap) ∧ IsRT V2 (N0 + 1) 0 0 (enterT s t) ∧ V2.heap[N0]? = some (ndC t.node.parent t.node.idx t.node.func 0 t.node.ped A0 0) ∧ Keeps (RFoot R nv) w V2 ∧ Moved w nv (.slice (some ⟨bb, 0, none⟩) (M.length + 1) cap) ∧ (Value.slice (some ⟨bb, 0, none⟩) (M.length + 1) cap).ownBlock ≠ some N0) := ⟨q1, q2, bN2, kw2, mv2, by
            rcases q4 with q4 | ⟨g', e', hg'⟩
            · rw [q4]; exact fun e => nNR N0 (.inr e) rfl
            · intro e3
              rw [e'] at e3
              obtain rfl := Option.some.inj e3
              have := blk_lt bN
              have h9 : wc.heap.size ≤ g' := hg'
              omega⟩
          have HV2 : Hid _ := hV2
          clear bN kN rc tc kw kd kd2 bN2 kw2 q1 q2 q3 q4 hr0 mv2 hV2 nNR HT HBN HV hEN
          obtain ⟨ML1, hML1⟩ : ∃ ML1, ML1 = M.length + 1 := ⟨_, rfl⟩
          rw [← hML1] at hyr HV2 HQ
          clear hML1
          go_upto_region 9 with fail
          go_cut [5, 10] (fun s5 s10 wx => s5 = .pointer (some ⟨N0, 0, none⟩) ∧ s10 = .pointer (some ⟨N0 + 1, 0, none⟩) ∧ wx = V2)
          case first =>
            go_region_law (refine step_append_run rfl (.tmp 51) (.tmp 53) 55 55 rfl (by simp [Act.eval]) (by simp [Act.eval]) hyr ?_)
            all_goals go_wp2_with fail
            all_goals go_meet
            all_goals exact ⟨rfl, rfl, HV2.out.symm⟩
          case rest =>
            obtain ⟨rfl, rfl, hwc⟩ := hcut
            have hwc2 := hwc.symm
            subst hwc2
            clear HV2 hyr d3 f3 g0 g1 g2 g3 g4 g5 g6 y3 e6
            have x4 : V2.cell? ⟨R, 4, none⟩ = some (.int .i64 s.depth) := (blk_cell HQ.out.1.blk 4).trans rfl
            have z4 := blk_free HQ.out.1.blk 4
            have r3 := HQ.out.1.put (k := 4) (x := imax s.depth t.depth) (fuel' := s.fuel) (er' := 0) (depth' := imax s.depth t.depth) rfl
            have k3 : Keeps (· = R) V2 _ := Keeps.setCell (S := (· = R)) V2 (a := ⟨R, 4, none⟩) rfl (.int .i64 (imax s.depth t.depth))
            have hbeg : BegR (.slice fa fn fc) w R (N0 + 1) N0 nv s t M (V2.setCell ⟨R, 4, none⟩ (.int .i64 (imax s.depth t.depth))) (.slice (some ⟨bb, 0, none⟩) ML1 cap) :=
              ⟨r3, HQ.out.2.1.kept k3 (HQ.out.1.ne HQ.out.2.1).symm, by rw [← HA0.out]; exact blk_kept HQ.out.2.2.1 k3 (by have := HX.out.2.2.2.2.2.2.2.1; omega), HQ.out.2.2.2.1.trans k3 (fun _ e _ => .inl e), HQ.out.2.2.2.2.1, HQ.out.2.2.2.2.2⟩
            have HBG : Hid (∀ y, y = imax s.depth t.depth → BegR (.slice fa fn fc) w R (N0 + 1) N0 nv s t M (V2.setCell ⟨R, 4, none⟩ (.int .i64 y)) (.slice (some ⟨bb, 0, none⟩) ML1 cap)) := fun y hy => by rw [hy]; exact hbeg
            clear r3 k3 hbeg HQ
            go_upto_region 10 with fail
            go_cut [5, 10] (fun s5 s10 wx => s5 = .pointer (some ⟨N0, 0, none⟩) ∧ s10 = .pointer (some ⟨N0 + 1, 0, none⟩) ∧ ∃ nv', BegR (.slice fa fn fc) w R (N0 + 1) N0 nv s t M wx nv')
            case first =>
              by_cases hlt : s.depth < t.depth
              · go_wp2_with fail
                go_meet
                exact ⟨rfl, rfl, _, HBG.out _ (if_pos hlt).symm⟩
              · have HLT : Hid (¬ s.depth < t.depth) := hlt
                go_wp2_with fail
                go_meet
                exact ⟨rfl, rfl, _, HBG.out _ (if_neg (by have := HLT.out; omega)).symm⟩
            case rest =>
              obtain ⟨rfl, rfl, nv2, hbg⟩ := hcut
              clear HBG x4 z4
              obtain ⟨f, hf, hfm, hcf, hVf, hokf⟩ := HG.out.2.2.2.2.2.2.2.2.1.fn HG.out.2.2.2.1.func
              obtain ⟨m, hm⟩ : ∃ m : Nat, t.node.func = m := Int.eq_ofNat_of_zero_le HG.out.2.2.2.1.func.1
              have hfm2 : fs[m]? = some f := by
                have e1 : (enterT s t).node.func.toNat = m := by show t.node.func.toNat = m; rw [hm]; rfl
                rw [← e1]; exact hf
              have hE0 := HG.out.2.2.2.2.2.2.2.1
              obtain ⟨b, off, ca, cc, hfa, hmn, hb0, hat00⟩ := hE0.fn hfm2
              subst hfa
              obtain ⟨b2, off2, hfa2, hb2, hat0⟩ := hE0.seen.ex (by omega)
              obtain ⟨rfl, rfl⟩ : b = b2 ∧ off = off2 := by injection hfa2 with e; injection e with e1 e2; exact ⟨e1, e2⟩
              obtain ⟨ca, cc, hat0⟩ := hat0 m f hfm2
              have hcl : f.code.length ≤ 512 := by have := (valid_bounds hVf).2.2.2; omega
              have hcl0 : 1 ≤ f.code.length := by have := (valid_bounds hVf).2.2.2; omega
              have hcm : codeOf fs (m : Int) = f.code := code_of f (by simpa using hfm2)
              obtain ⟨N, hN⟩ : ∃ N, N = f.code.length := ⟨_, rfl⟩
              rw [← hN] at hcl hcl0
              have HC : Hid (FnAt w0 b (off + m * 4) f ca cc ∧ N = f.code.length ∧ codeOf fs (m : Int) = f.code ∧ Valid fs f ∧ f.Ok ∧ b < w0.heap.size ∧ t.node.func = m) := ⟨hat0, hN, hcm, hVf, hokf, hb0, hm⟩
              have HBG : Hid _ := hbg
              clear hf hfm hcf hVf hokf hm hfm2 hE0 hat00 hfa2 hb2 hat0 hcm hN hbg hb0
              go_wp2_with fail
              go_loopw [] (fun wr => (∃ (at_ g' : Nat) (s' : Rn) (t' : Tk) (e : Int) (M' : List Nd) (nv' : Value), AtR fs (.slice (some ⟨b, off, none⟩) fn fc) w R (N0 + 1) N0 nv res m n s.tasks M wr at_ g' s' t' e M' nv') ∨ OutR (.slice (some ⟨b, off, none⟩) fn fc) w R nv res wr) (fun wr => muOf wr R)
              case atStart =>
                refine .inl ⟨0, g, enterS true s t, enterT s t, 0, M ++ [(enterT s t).node], nv2, ?_⟩
                have hh := HG.out
                have hMl : M.length = s.tasks := hh.2.1.trans hh.2.2.1
                have hbb := HBG.out
                exact {
                  res := HRS.out, fuel := hh.2.2.2.2.2.1, most := hh.2.2.2.2.2.2.1, run := hbb.run, task := hbb.task
                  nblk := ⟨_, _, _, _, _, _, by have := hbb.nblk; unfold ndC at this; rw [HC.out.2.2.2.2.2.2] at this; exact this⟩
                  se := ⟨Int.le_refl _, by show (0 : Int) ≤ t.due; rw [hh.1.due]; exact Int.le_refl _, .inr hh.1.due.symm⟩
                  sin := hh.2.2.2.2.1, tin := hh.2.2.2.1
                  lt := by rw [HC.out.2.2.1, ← HC.out.2.1]; omega
                  func := HC.out.2.2.2.2.2.2, num := rfl
                  ltn := Nat.lt_succ_self _
                  mlen := by show (M ++ [_]).length = (s.nodes ++ [_]).length; simp [hh.2.1]
                  own := by rw [← hMl]; simp
                  beh := fun j hj => by
                    show (M ++ [_])[j]? = (s.nodes ++ [_])[j]?
                    rw [List.getElem?_eq_none (by simp; omega), List.getElem?_eq_none (by simp; have := hh.2.2.1; omega)]
                  fro := fun j hj => by rw [List.getElem?_append_left (by omega)]
                  nn := hbb.nn, kept := hbb.kept, moved := hbb.moved }
              case round =>
                clear HBG
                rcases hrel with ⟨at_, g', s', t', e, M', nv', hL⟩ | hout
                · have hXs : w.heap.size ≤ N0 + 1 := by have := HX.out.1; omega
                  have E0 := HG.out.2.2.2.2.2.2.2.1
                  have hXw : w0.heap.size ≤ N0 := by have := E0.kept.size; have := HX.out.1; omega
                  have Er := E0.more hL.kept (fun k e => E0.foot k e) hL.moved
                  obtain ⟨gg, rfl⟩ : ∃ gg, g' = gg + 1 := ⟨g' - 1, by have := hL.fuel; omega⟩
                  have x1 : wr.cell? ⟨R, 1, none⟩ = some (.int .i64 s'.fuel) := (blk_cell hL.run.blk 1).trans rfl
                  have x2 : wr.cell? ⟨R, 2, none⟩ = some (.int .i64 0) := (blk_cell hL.run.blk 2).trans rfl
                  have z1 := blk_free hL.run.blk 1
                  have z2 := blk_free hL.run.blk 2
                  by_cases h0 : s'.fuel = 0
                  · have hres : res = .gave 62 := by rw [← hL.res]; exact loop_out h0
                    have r2 := hL.run.put (k := 2) (x := 62) (fuel' := s'.fuel) (er' := 62) (depth' := s'.depth) rfl
                    have k2 : Keeps (· = R) wr _ := Keeps.setCell (S := (· = R)) wr (a := ⟨R, 2, none⟩) rfl (.int .i64 62)
                    have HF : Hid (RTo R (.slice (some ⟨b, off, none⟩) fn fc) nv w s.tasks M res (.returned (.tuple #[.int .i64 0, .int .i64 0])) (wr.setCell ⟨R, 2, none⟩ (.int .i64 62))) := by
                      rw [hres]
                      exact ⟨_, _, _, _, rfl, r2, hL.kept.trans k2 (fun i e hi => foot_back hL.moved hXs i (.inl (.inl e)) hi), hL.moved⟩
                    rw [h0] at x1
                    clear hL Er E0 hres h0 r2 k2
                    go_wp2_with fail
                    go_ret2
                    exact HF.out
                  · obtain ⟨m', hm'⟩ : ∃ m', s'.fuel = m' + 1 := ⟨s'.fuel - 1, by omega⟩
                    have hpf : (payS s').fuel = m' := by simp [payS, hm']
                    obtain ⟨F, hF⟩ : ∃ F : Int, F = (m' : Int) + 1 := ⟨_, rfl⟩
                    have hFb : F ≤ 8388609 := by have := hL.sin.tasks; omega
                    have f1 : (F == 0) = false := by simp; omega
                    have f3 : 1 ≤ F := by omega
                    have x1' : wr.cell? ⟨R, 1, none⟩ = some (.int .i64 F) := by rw [x1, hm', hF]; rfl
                    have r1 : IsRR (wr.setCell ⟨R, 1, none⟩ (.int .i64 (F - 1))) R (.slice (some ⟨b, off, none⟩) fn fc) (payS s').fuel 0 s'.depth M' nv' := hL.run.put (by rw [hpf, hF]; simp)
                    have k1 : Keeps (· = R) wr (wr.setCell ⟨R, 1, none⟩ (.int .i64 (F - 1))) := Keeps.setCell (S := (· = R)) wr (a := ⟨R, 1, none⟩) rfl _
                    have t1 := hL.task.kept k1 (hL.run.ne hL.task).symm
                    have E1 := Er.more k1 (fun k e => by rw [e]; exact E0.hR) (Moved.refl _ _)
                    obtain ⟨p_, i_, wk_, pd_, ag_, vv_, hnb⟩ := hL.nblk
                    have bN1 := blk_kept hnb k1 (by have := HX.out.2.2.2.2.2.2.2.1; omega)
                    obtain ⟨W1, hW1⟩ : ∃ W1, W1 = wr.setCell ⟨R, 1, none⟩ (.int .i64 (F - 1)) := ⟨_, rfl⟩
                    rw [← hW1] at r1 k1 t1 E1 bN1
                    have hlt : at_ < N := by have := hL.lt; rw [HC.out.2.2.1] at this; rw [HC.out.2.1]; exact this
                    have hatF := HC.out.1.more E1.kept
                    obtain ⟨cb, co, i, hca, hi, hins⟩ := hatF.seen.at (k := at_) (by rw [← HC.out.2.1]; exact hlt)
                    subst hca
                    obtain ⟨y0, y1, y2, y3, y4⟩ := hins
                    have so := step_ok HC.out.2.2.2.1 hi
                    have hik := (HC.out.2.2.2.2.1.code i (List.mem_of_getElem? hi)).k
                    have hcode : (codeOf fs t'.node.func)[at_]? = some i := by rw [hL.func, HC.out.2.2.1]; exact hi
                    have v0 : W1.cell? ⟨R, 0, none⟩ = some (.slice (some ⟨b, off, none⟩) fn fc) := (blk_cell r1.blk 0).trans rfl
                    have v1 : W1.cell? ⟨N0, 2, none⟩ = some (.int .i64 (m : Int)) := (blk_cell bN1 2).trans rfl
                    have v2 := hatF.code
                    rw [← HC.out.2.1] at v2
                    have v3 : W1.cell? ⟨N0 + 1, 26, none⟩ = some (.int .i64 (at_ : Int)) := t1.tail 0 rfl
                    have hat5 : (at_ : Int) < (N : Int) := by omega
                    have hmn' : (m : Int) < (fn : Int) := by omega
                    have HL : Hid _ := hL
                    have H1 : Hid (IsRR W1 R (.slice (some ⟨b, off, none⟩) fn fc) (payS s').fuel 0 s'.depth M' nv' ∧ Keeps (· = R) wr W1 ∧ IsRT W1 (N0 + 1) at_ e t' ∧ Env w0 W1 (some ⟨b, off, none⟩) fn fs R nv' ∧ W1.heap[N0]? = some (.cells #[.int .i64 p_, .int .i64 i_, .int .i64 (m : Int), .int .i64 wk_, .int .i64 pd_, .int .i64 ag_, .int .i64 vv_] 65 (0, 0)) ∧ StepOk fs N at_ i ∧ okI i.k ∧ (codeOf fs t'.node.func)[at_]? = some i ∧ (payS s').fuel = m' ∧ s'.fuel = m' + 1 ∧ w.heap.size ≤ N0 + 1 ∧ w0.heap.size ≤ N0) :=
                      ⟨r1, k1, t1, E1, bN1, by rw [HC.out.2.1]; exact so, hik, hcode, hpf, hm', hXs, hXw⟩
                    clear r1 k1 t1 E1 bN1 hatF so hik hcode hi hL Er E0 hnb hpf hm' hF x1 h0
                    go_upto_region 15 with fail
                    rw [← hW1]
                    clear hW1 x1' x2 z1 z2
                    obtain ⟨J, hJ⟩ : ∃ J, J = W1.heap.size := ⟨_, rfl⟩
                    have HJ : Hid _ := hJ
                    clear hJ
                    go_cut [12] (fun s12 wx => s12 = .pointer (some ⟨J, 0, none⟩) ∧ wx.heap[J]? = some (.cells #[.int .i64 i.kind, .int .i64 i.a, .int .i64 i.b, .int .i64 i.c, .int .i64 i.k] 37 (0, 0)) ∧ Keeps None W1 wx)
                    case first =>
                      as_aux_lemma =>
                        have hst := heap_alloc_new W1.drew (.cells #[.int .i64 0, .int .i64 0, .int .i64 0, .int .i64 0, .int .i64 0] 37)
                        have hz : W1.drew.heap.size = J := HJ.out.symm
                        rw [hz] at hst
                        have hkf : Keeps None W1 ((W1.drew.alloc (.cells #[.int .i64 0, .int .i64 0, .int .i64 0, .int .i64 0, .int .i64 0] 37)).setRow J #[.int .i64 i.kind, .int .i64 i.a, .int .i64 i.b, .int .i64 i.c, .int .i64 i.k]) := ((Keeps.drew None W1).trans (Keeps.alloc None W1.drew _) (fun _ f _ => f)).trans (setRow_keeps _ _ _) (fun i e hi => by have := HJ.out; omega)
                        have HF : Hid _ := And.intro (setRow_heap (c' := #[.int .i64 i.kind, .int .i64 i.a, .int .i64 i.b, .int .i64 i.c, .int .i64 i.k]) hst) hkf
                        have u0 := hkf.cell v0 (fun f => f)
                        have u1 := hkf.cell v1 (fun f => f)
                        have u2 := hkf.cell v2 (fun f => f)
                        have u3 := hkf.cell v3 (fun f => f)
                        have q0 := hkf.cell y0 (fun f => f)
                        have q1 := hkf.cell y1 (fun f => f)
                        have q2 := hkf.cell y2 (fun f => f)
                        have q3 := hkf.cell y3 (fun f => f)
                        have q4 := hkf.cell y4 (fun f => f)
                        have HST : Hid _ := hst
                        have HZ : Hid (W1.heap.size = J) := hz
                        clear hst hkf hz
                        refine wp_region_held_drew (S := (fun w' => w'.cell? ⟨R, 0, none⟩ = some (.slice (some ⟨b, off, none⟩) fn fc) ∧ w'.cell? ⟨N0, 2, none⟩ = some (.int .i64 (m : Int)) ∧ w'.cell? ⟨b, off + m * 4 + 3, none⟩ = some (.slice (some ⟨cb, co, none⟩) N cc) ∧ w'.cell? ⟨N0 + 1, 26, none⟩ = some (.int .i64 (at_ : Int)) ∧ w'.cell? ⟨cb, co + at_ * 5, none⟩ = some (.int .i64 i.kind) ∧ w'.cell? ⟨cb, co + at_ * 5 + 1, none⟩ = some (.int .i64 i.a) ∧ w'.cell? ⟨cb, co + at_ * 5 + 2, none⟩ = some (.int .i64 i.b) ∧ w'.cell? ⟨cb, co + at_ * 5 + 3, none⟩ = some (.int .i64 i.c) ∧ w'.cell? ⟨cb, co + at_ * 5 + 4, none⟩ = some (.int .i64 i.k))) (by kernel_rfl) ?_ (fun hHeld => ?_)
                        · (try dsimp only); first | exact ⟨v0, v1, v2, v3, y0, y1, y2, y3, y4⟩ | exact ⟨u0, u1, u2, u3, q0, q1, q2, q3, q4⟩ | go_keep
                        refine wpAnyH_take (i := 0) (oi := { dst := some 86, op := Op.move (Operand.tmp 0), type := 100, pos := "serial.go:97", after := #[], guard := none }) (v := ?_) rfl (by kernel_rfl) (by kernel_rfl) (by kernel_rfl) (fun _ _ _ h => h) (Or.inl ⟨by rfl, ?_⟩) (by assumption) ?_
                        rotate_left
                        · (intro wz hSw; (try dsimp only at hSw); go_simp; try with_reducible rfl)
                        simp only [Act.put, List.setIfInBounds_toArray, List.set_cons_zero, List.set_cons_succ]
                        refine wpAnyH_take (i := 1) (oi := { dst := some 87, op := Op.nilCheck (Operand.tmp 86), type := 0, pos := "serial.go:97", after := #[{ on := 0, ground := Ground.data }], guard := none }) (v := ?_) rfl (by kernel_rfl) (by kernel_rfl) (by kernel_rfl) (fun _ _ _ h => h) (Or.inl ⟨by rfl, ?_⟩) (by assumption) ?_
                        rotate_left
                        · (intro wz hSw; (try dsimp only at hSw); go_simp; try with_reducible rfl)
                        simp only [Act.put, List.setIfInBounds_toArray, List.set_cons_zero, List.set_cons_succ]
                        refine wpAnyH_take (i := 2) (oi := { dst := some 88, op := Op.fieldAddr 102 (Operand.tmp 87) 0, type := 0, pos := "serial.go:97", after := #[{ on := 1, ground := Ground.data }], guard := none }) (v := ?_) rfl (by kernel_rfl) (by kernel_rfl) (by kernel_rfl) (fun _ _ _ h => h) (Or.inl ⟨by rfl, ?_⟩) (by assumption) ?_
                        rotate_left
                        · (intro wz hSw; (try dsimp only at hSw); go_simp; try with_reducible rfl)
                        simp only [Act.put, List.setIfInBounds_toArray, List.set_cons_zero, List.set_cons_succ]
                        refine wpAnyH_take (i := 3) (oi := { dst := some 89, op := Op.fieldAddr 24 (Operand.tmp 88) 0, type := 0, pos := "serial.go:97", after := #[{ on := 2, ground := Ground.data }], guard := none }) (v := ?_) rfl (by kernel_rfl) (by kernel_rfl) (by kernel_rfl) (fun _ _ _ h => h) (Or.inl ⟨by rfl, ?_⟩) (by assumption) ?_
                        rotate_left
                        · (intro wz hSw; (try dsimp only at hSw); go_simp; try with_reducible rfl)
                        simp only [Act.put, List.setIfInBounds_toArray, List.set_cons_zero, List.set_cons_succ]
                        refine wpAnyH_take (i := 4) (oi := { dst := some 90, op := Op.load 22 (Operand.tmp 89), type := 22, pos := "serial.go:97", after := #[{ on := 3, ground := Ground.data }], guard := none }) (v := ?_) rfl (by kernel_rfl) (by kernel_rfl) (by kernel_rfl) (fun _ _ _ h => h) (Or.inl ⟨by rfl, ?_⟩) (by assumption) ?_
                        rotate_left
                        · (intro wz hSw; (try dsimp only at hSw); go_simp; try with_reducible rfl)
                        simp only [Act.put, List.setIfInBounds_toArray, List.set_cons_zero, List.set_cons_succ]
                        refine wpAnyH_take (i := 5) (oi := { dst := some 91, op := Op.fieldAddr 65 (Operand.tmp 5) 2, type := 0, pos := "serial.go:97", after := #[], guard := none }) (v := ?_) rfl (by kernel_rfl) (by kernel_rfl) (by kernel_rfl) (fun _ _ _ h => h) (Or.inl ⟨by rfl, ?_⟩) (by assumption) ?_
                        rotate_left
                        · (intro wz hSw; (try dsimp only at hSw); go_simp; try with_reducible rfl)
                        simp only [Act.put, List.setIfInBounds_toArray, List.set_cons_zero, List.set_cons_succ]
                        refine wpAnyH_take (i := 6) (oi := { dst := some 92, op := Op.load 3 (Operand.tmp 91), type := 3, pos := "serial.go:97", after := #[{ on := 5, ground := Ground.data }], guard := none }) (v := ?_) rfl (by kernel_rfl) (by kernel_rfl) (by kernel_rfl) (fun _ _ _ h => h) (Or.inl ⟨by rfl, ?_⟩) (by assumption) ?_
                        rotate_left
                        · (intro wz hSw; (try dsimp only at hSw); go_simp; try with_reducible rfl)
                        simp only [Act.put, List.setIfInBounds_toArray, List.set_cons_zero, List.set_cons_succ]
                        refine wpAnyH_take (i := 7) (oi := { dst := some 93, op := Op.indexAddr 22 (Operand.tmp 90) (Operand.tmp 92), type := 0, pos := "serial.go:97", after := #[{ on := 4, ground := Ground.data }, { on := 6, ground := Ground.data }], guard := none }) (v := ?_) rfl (by kernel_rfl) (by kernel_rfl) (by kernel_rfl) (fun _ _ _ h => h) (Or.inl ⟨by rfl, ?_⟩) (by assumption) ?_
                        rotate_left
                        · (intro wz hSw; (try dsimp only at hSw); go_simp; try with_reducible rfl)
                        simp only [Act.put, List.setIfInBounds_toArray, List.set_cons_zero, List.set_cons_succ]
                        refine wpAnyH_take (i := 8) (oi := { dst := some 94, op := Op.fieldAddr 35 (Operand.tmp 93) 3, type := 0, pos := "serial.go:97", after := #[{ on := 7, ground := Ground.data }], guard := none }) (v := ?_) rfl (by kernel_rfl) (by kernel_rfl) (by kernel_rfl) (fun _ _ _ h => h) (Or.inl ⟨by rfl, ?_⟩) (by assumption) ?_
                        rotate_left
                        · (intro wz hSw; (try dsimp only at hSw); go_simp; try with_reducible rfl)
                        simp only [Act.put, List.setIfInBounds_toArray, List.set_cons_zero, List.set_cons_succ]
                        refine wpAnyH_take (i := 9) (oi := { dst := some 95, op := Op.load 33 (Operand.tmp 94), type := 33, pos := "serial.go:97", after := #[{ on := 8, ground := Ground.data }], guard := none }) (v := ?_) rfl (by kernel_rfl) (by kernel_rfl) (by kernel_rfl) (fun _ _ _ h => h) (Or.inl ⟨by rfl, ?_⟩) (by assumption) ?_
                        rotate_left
                        · (intro wz hSw; (try dsimp only at hSw); go_simp; try with_reducible rfl)
                        simp only [Act.put, List.setIfInBounds_toArray, List.set_cons_zero, List.set_cons_succ]
                        refine wpAnyH_take (i := 10) (oi := { dst := some 96, op := Op.move (Operand.tmp 10), type := 115, pos := "serial.go:97", after := #[], guard := none }) (v := ?_) rfl (by kernel_rfl) (by kernel_rfl) (by kernel_rfl) (fun _ _ _ h => h) (Or.inl ⟨by rfl, ?_⟩) (by assumption) ?_
                        rotate_left
                        · (intro wz hSw; (try dsimp only at hSw); go_simp; try with_reducible rfl)
                        simp only [Act.put, List.setIfInBounds_toArray, List.set_cons_zero, List.set_cons_succ]
                        refine wpAnyH_take (i := 11) (oi := { dst := some 97, op := Op.nilCheck (Operand.tmp 96), type := 0, pos := "serial.go:97", after := #[{ on := 10, ground := Ground.data }], guard := none }) (v := ?_) rfl (by kernel_rfl) (by kernel_rfl) (by kernel_rfl) (fun _ _ _ h => h) (Or.inl ⟨by rfl, ?_⟩) (by assumption) ?_
                        rotate_left
                        · (intro wz hSw; (try dsimp only at hSw); go_simp; try with_reducible rfl)
                        simp only [Act.put, List.setIfInBounds_toArray, List.set_cons_zero, List.set_cons_succ]
                        refine wpAnyH_take (i := 12) (oi := { dst := some 98, op := Op.fieldAddr 117 (Operand.tmp 97) 4, type := 0, pos := "serial.go:97", after := #[{ on := 11, ground := Ground.data }], guard := none }) (v := ?_) rfl (by kernel_rfl) (by kernel_rfl) (by kernel_rfl) (fun _ _ _ h => h) (Or.inl ⟨by rfl, ?_⟩) (by assumption) ?_
                        rotate_left
                        · (intro wz hSw; (try dsimp only at hSw); go_simp; try with_reducible rfl)
                        simp only [Act.put, List.setIfInBounds_toArray, List.set_cons_zero, List.set_cons_succ]
                        refine wpAnyH_take (i := 13) (oi := { dst := some 99, op := Op.load 3 (Operand.tmp 98), type := 3, pos := "serial.go:97", after := #[{ on := 12, ground := Ground.data }], guard := none }) (v := ?_) rfl (by kernel_rfl) (by kernel_rfl) (by kernel_rfl) (fun _ _ _ h => h) (Or.inl ⟨by rfl, ?_⟩) (by assumption) ?_
                        rotate_left
                        · (intro wz hSw; (try dsimp only at hSw); go_simp; try with_reducible rfl)
                        simp only [Act.put, List.setIfInBounds_toArray, List.set_cons_zero, List.set_cons_succ]
                        refine wpAnyH_take (i := 14) (oi := { dst := some 100, op := Op.indexAddr 33 (Operand.tmp 95) (Operand.tmp 99), type := 0, pos := "serial.go:97", after := #[{ on := 9, ground := Ground.data }, { on := 13, ground := Ground.data }], guard := none }) (v := ?_) rfl (by kernel_rfl) (by kernel_rfl) (by kernel_rfl) (fun _ _ _ h => h) (Or.inl ⟨by rfl, ?_⟩) (by assumption) ?_
                        rotate_left
                        · (intro wz hSw; (try dsimp only at hSw); go_simp; try with_reducible rfl)
                        simp only [Act.put, List.setIfInBounds_toArray, List.set_cons_zero, List.set_cons_succ]
                        refine wpAnyH_take (i := 15) (oi := { dst := some 101, op := Op.load 37 (Operand.tmp 100), type := 37, pos := "serial.go:97", after := #[{ on := 14, ground := Ground.data }], guard := none }) (v := ?_) rfl (by kernel_rfl) (by kernel_rfl) (by kernel_rfl) (fun _ _ _ h => h) (Or.inl ⟨by rfl, ?_⟩) (by assumption) ?_
                        rotate_left
                        · (intro wz hSw; (try dsimp only at hSw); go_simp; try with_reducible rfl)
                        simp only [Act.put, List.setIfInBounds_toArray, List.set_cons_zero, List.set_cons_succ]
                        refine wpAnyH_ready (rs := [16]) (by kernel_rfl) (by simp) ?_
                        refine AllReadyH.cons (o := { dst := some 12, op := Op.alloc 37, type := 0, pos := "serial.go:97", after := #[], guard := none }) rfl (fun K hK => ?_) ?_
                        · go_simp
                          refine hK.out _ _ ?_ (fun hHeld2 => ?_)
                          · (try dsimp only); first | exact ⟨v0, v1, v2, v3, y0, y1, y2, y3, y4⟩ | exact ⟨u0, u1, u2, u3, q0, q1, q2, q3, q4⟩ | go_keep
                          clear hK K
                          try simp only [Act.put, List.setIfInBounds_toArray, List.set_cons_zero, List.set_cons_succ]
                          refine wpAnyH_ready (rs := [17]) (by kernel_rfl) (by simp) ?_
                          refine AllReadyH.cons (o := { dst := none, op := Op.store 37 (Operand.tmp 12) (Operand.tmp 101), type := 0, pos := "serial.go:97", after := #[{ on := 16, ground := Ground.data }, { on := 15, ground := Ground.data }, { on := 0, ground := Ground.phase }, { on := 1, ground := Ground.phase }, { on := 2, ground := Ground.phase }, { on := 3, ground := Ground.phase }, { on := 4, ground := Ground.phase }, { on := 5, ground := Ground.phase }, { on := 6, ground := Ground.phase }, { on := 7, ground := Ground.phase }, { on := 8, ground := Ground.phase }, { on := 9, ground := Ground.phase }, { on := 10, ground := Ground.phase }, { on := 11, ground := Ground.phase }, { on := 12, ground := Ground.phase }, { on := 13, ground := Ground.phase }, { on := 14, ground := Ground.phase }, { on := 15, ground := Ground.phase }, { on := 16, ground := Ground.phase }], guard := none }) rfl (fun K hK => ?_) ?_
                          · refine step_store_row rfl 37 (.tmp 12) (.tmp 101) rfl J #[.int .i64 i.kind, .int .i64 i.a, .int .i64 i.b, .int .i64 i.c, .int .i64 i.k] (by simp [Act.eval, HZ.out]) rfl 37 #[.int .i64 0, .int .i64 0, .int .i64 0, .int .i64 0, .int .i64 0] HST.out (by kernel_rfl) rfl (ints_one [i.kind, i.a, i.b, i.c, i.k]) ?_
                            refine hK.out _ _ ?_ (fun hHeld2 => ?_)
                            · (try dsimp only); first | exact ⟨v0, v1, v2, v3, y0, y1, y2, y3, y4⟩ | exact ⟨u0, u1, u2, u3, q0, q1, q2, q3, q4⟩ | go_keep
                            clear hK K
                            try simp only [Act.put, List.setIfInBounds_toArray, List.set_cons_zero, List.set_cons_succ]
                            refine wpAnyH_done (by kernel_rfl) ?_ _
                            go_wp2_with fail
                            go_meet
                            exact ⟨by rw [HZ.out], HF.out⟩
                          exact AllReadyH.nil
                        exact AllReadyH.nil
                    case rest =>
                      obtain ⟨rfl, bJ, kc⟩ := hcut
                      have hL := HL.out
                      have r2 := H1.out.1.kept kc (fun _ _ f => f)
                      have t2 := H1.out.2.2.1.kept kc (fun f => f)
                      have bN2 := blk_kept H1.out.2.2.2.2.1 kc (fun f => f)
                      have E2 := H1.out.2.2.2.1.more kc (fun _ f => f.elim) (Moved.refl _ _)
                      have a1 : wc.cell? ⟨N0 + 1, 26, none⟩ = some (.int .i64 (at_ : Int)) := t2.tail 0 rfl
                      have a2 := t2.free 26
                      have t3 := t2.putTail (t' := t') (at' := (at_ : Int) + 1) (e' := e) (j := 0) (x := (at_ : Int) + 1) rfl rfl rfl rfl rfl
                      have a3 : (wc.setCell ⟨N0 + 1, 26, none⟩ (.int .i64 ((at_ : Int) + 1))).cell? ⟨N0 + 1, 27, none⟩ = some (.int .i64 t'.span) := t3.tail 1 rfl
                      have a4 := t3.free 27
                      have t4 := t3.putTail (t' := payT t') (at' := (at_ : Int) + 1) (e' := e) (j := 1) (x := t'.span + 1) rfl rfl rfl rfl rfl
                      have k4 : Keeps (· = N0 + 1) wc _ := ((Keeps.refl (· = N0 + 1) wc).andSet (x := ⟨N0 + 1, 26, none⟩) (.inl rfl) (.int .i64 ((at_ : Int) + 1))).andSet (x := ⟨N0 + 1, 27, none⟩) (.inl rfl) (.int .i64 (t'.span + 1))
                      have hJX : J ≠ N0 + 1 := by have := blk_lt H1.out.2.2.1.blk; have := HJ.out; omega
                      have hJN : J ≠ N0 := by have := blk_lt H1.out.2.2.2.2.1; have := HJ.out; omega
                      have bJ4 := blk_kept bJ k4 hJX
                      have r4 := r2.kept k4 (r2.off t2)
                      have bN4 := blk_kept bN2 k4 (by omega)
                      have E4 := E2.more k4 (fun k e => by rw [e]; have := H1.out.2.2.2.2.2.2.2.2.2.2.2; omega) (Moved.refl _ _)
                      have kr4 : Keeps (fun k => RFoot R nv' k ∨ k = N0 + 1) wr _ := ((H1.out.2.1.mono (T := fun k => RFoot R nv' k ∨ k = N0 + 1) (fun _ e _ => .inl (.inl e))).trans kc (fun _ f _ => f.elim)).trans k4 (fun _ e _ => .inr e)
                      have hsp1 := hL.tin.span
                      have hat512 : (at_ : Int) ≤ 512 := by omega
                      obtain ⟨V3, hV3⟩ : ∃ V3, V3 = (wc.setCell ⟨N0 + 1, 26, none⟩ (.int .i64 ((at_ : Int) + 1))).setCell ⟨N0 + 1, 27, none⟩ (.int .i64 (t'.span + 1)) := ⟨_, rfl⟩
                      rw [← hV3] at t4 bJ4 r4 bN4 E4 kr4
                      obtain ⟨g0, cap, hnv, hlt2, hcell, hfr, hput⟩ := r4.node hL.own
                      have wk := hL.tin.work
                      have b0 : V3.cell? ⟨R, 3, none⟩ = some (.slice (some ⟨g0, 0, none⟩) M'.length cap) := by rw [← hnv]; exact (blk_cell r4.blk 3).trans rfl
                      have b1 : V3.cell? ⟨N0 + 1, 0, none⟩ = some (.int .i64 ((s.tasks : Nat) : Int)) := by rw [← hL.num]; exact t4.num
                      have b3 : V3.cell? ⟨g0, s.tasks * 7 + 3, none⟩ = some (.int .i64 t'.node.work) := hcell 3 _ rfl
                      have b4 := hfr (s.tasks * 7 + 3)
                      have hww : IntKind.i64.wrap (t'.node.work + 1) = t'.node.work + 1 := wrap_small (by omega)
                      have hkl : ((s.tasks : Nat) : Int) < (M'.length : Int) := by omega
                      obtain ⟨r5, k5⟩ := hput 3 (t'.node.work + 1) (payT t').node (by omega) rfl
                      have hnvX := r4.nX t4
                      have t5 := t4.kept k5 hnvX
                      have bN5 := blk_kept bN4 k5 hL.nn
                      have bJ5 := blk_kept bJ4 k5 (fun e => by have := own_type r4.row e bJ4; exact absurd this (by decide))
                      have E5 := E4.more k5 (fun k e => E4.hN k e) (Moved.refl _ _)
                      have kr5 : Keeps (fun k => RFoot R nv' k ∨ k = N0 + 1) wr _ := kr4.trans k5 (fun _ e _ => .inl (.inr e))
                      have kd5 := Keeps.drew None (V3.setCell ⟨g0, s.tasks * 7 + 3, none⟩ (.int .i64 (t'.node.work + 1)))
                      obtain ⟨V, hV⟩ : ∃ V, V = (V3.setCell ⟨g0, s.tasks * 7 + 3, none⟩ (.int .i64 (t'.node.work + 1))).drew := ⟨_, rfl⟩
                      have r6 := r5.kept kd5 (fun _ _ f => f)
                      have t6 := t5.kept kd5 (fun f => f)
                      have bN6 := blk_kept bN5 kd5 (fun f => f)
                      have bJ6 := blk_kept bJ5 kd5 (fun f => f)
                      have E6 := E5.more kd5 (fun _ f => f.elim) (Moved.refl _ _)
                      have kr6 := kr5.andDrew
                      rw [← hV] at r6 t6 bN6 bJ6 E6 kr6
                      obtain ⟨M2, hM2⟩ : ∃ M2, M2 = M'.set s.tasks (payT t').node := ⟨_, rfl⟩
                      rw [← hM2] at r6
                      have HV : Hid (IsRR V R (.slice (some ⟨b, off, none⟩) fn fc) (payS s').fuel 0 s'.depth M2 nv' ∧ IsRT V (N0 + 1) ((at_ : Int) + 1) e (payT t') ∧ Keeps (fun k => RFoot R nv' k ∨ k = N0 + 1) wr V ∧ Env w0 V (some ⟨b, off, none⟩) fn fs R nv' ∧ V.heap[N0]? = some (.cells #[.int .i64 p_, .int .i64 i_, .int .i64 (m : Int), .int .i64 wk_, .int .i64 pd_, .int .i64 ag_, .int .i64 vv_] 65 (0, 0)) ∧ V.heap[J]? = some (.cells #[.int .i64 i.kind, .int .i64 i.a, .int .i64 i.b, .int .i64 i.c, .int .i64 i.k] 37 (0, 0))) := ⟨r6, t6, kr6, E6, bN6, bJ6⟩
                      have HM2 : Hid (M2.length = s'.nodes.length ∧ M2[s.tasks]? = some (payT t').node ∧ (∀ j, s.tasks < j → M2[j]? = s'.nodes[j]?) ∧ (∀ j, j < s.tasks → M2[j]? = M'[j]?)) := by
                        rw [hM2]
                        refine ⟨by simpa using hL.mlen, ?_, fun j hj => ?_, fun j hj => ?_⟩
                        · rw [List.getElem?_set_self hlt2]
                        · rw [List.getElem?_set_ne (by omega)]; exact hL.beh j hj
                        · rw [List.getElem?_set_ne (by omega)]
                      have HVV : Hid _ := hV
                      clear hM2 hV r6 t6 bN6 bJ6 E6 kr6 kd5 kr5 E5 bJ5 bN5 t5 hnvX r5 k5 hput hfr hcell hnv kr4 E4 bN4 r4 bJ4 k4 t4 t3 E2 bN2 t2 r2 kc bJ hL
                      go_upto_region 19 with fail
                      rw [← hV3]
                      clear hV3 a1 a2 a3 a4 v0 v1 v2 v3 y0 y1 y2 y3 y4
                      go_cut [12, 13] (fun s12 s13 wx => s12 = .pointer (some ⟨J, 0, none⟩) ∧ s13 = .int .i64 t'.span ∧ wx = V)
                      case first =>
                        as_aux_lemma =>
                          obtain ⟨ML2, hML2⟩ : ∃ ML2, ML2 = M'.length := ⟨_, rfl⟩
                          rw [← hML2] at b0 hkl
                          clear hML2
                          go_region
                          all_goals go_wp2_with fail
                          all_goals go_meet
                          all_goals exact ⟨rfl, rfl, HVV.out.symm⟩
                      case rest =>
                        obtain ⟨rfl, rfl, hwc⟩ := hcut
                        have hwc2 := hwc.symm
                        subst hwc2
                        clear b0 b1 b3 b4 hww hkl HVV
                        have hR : Rnd fs b off fn fc w0 w R N0 nv res m n s.tasks M wr at_ gg s' t' e M' nv' V i M2 N :=
                          { L := HL.out, hX := H1.out.2.2.2.2.2.2.2.2.2.2.1, hw0 := H1.out.2.2.2.2.2.2.2.2.2.2.2, so := H1.out.2.2.2.2.2.1, ok := H1.out.2.2.2.2.2.2.1, code := H1.out.2.2.2.2.2.2.2.1
                            len := by rw [HC.out.2.2.1, HC.out.2.1], fuel0 := by have := H1.out.2.2.2.2.2.2.2.2.2.1; omega
                            run := HV.out.1, task := HV.out.2.1, kept := HV.out.2.2.1, env := HV.out.2.2.2.1, nblk := ⟨_, _, _, _, _, _, HV.out.2.2.2.2.1⟩, hRN := by have := HX.out.2.2.2.2.2.2.2.1; omega
                            m1 := HM2.out.1, m2 := HM2.out.2.1, m3 := HM2.out.2.2.1, m4 := HM2.out.2.2.2, all := HG.out.2.2.2.2.2.2.2.2.1, IH := HG.out.2.2.2.2.2.2.2.2.2.1 }
                        have HR : Hid _ := hR
                        have cJ0 : V.cell? ⟨J, 0, none⟩ = some (.int .i64 i.kind) := (blk_cell HV.out.2.2.2.2.2 0).trans rfl
                        have cJ1 : V.cell? ⟨J, 1, none⟩ = some (.int .i64 i.a) := (blk_cell HV.out.2.2.2.2.2 1).trans rfl
                        have cJ2 : V.cell? ⟨J, 2, none⟩ = some (.int .i64 i.b) := (blk_cell HV.out.2.2.2.2.2 2).trans rfl
                        have cJ3 : V.cell? ⟨J, 3, none⟩ = some (.int .i64 i.c) := (blk_cell HV.out.2.2.2.2.2 3).trans rfl
                        have cJ4 : V.cell? ⟨J, 4, none⟩ = some (.int .i64 i.k) := (blk_cell HV.out.2.2.2.2.2 4).trans rfl
                        have bJ9 := HV.out.2.2.2.2.2
                        clear hR HL H1 HV HM2 HC HX HG HRS HM HML HZ1 HJ HA0 HZL wk hsp1 hlt hlt2 hat512 hat5 hmn' hmn f1 f3 hFb hJX hJN hcl hcl0 hXs hXw hzz hk hkn
                        have so := HR.out.so
                        have hcases : i.kind = 5 ∨ i.kind = 6 ∨ i.kind = 9 ∨ (i.kind = 0 ∨ i.kind = 1 ∨ i.kind = 2 ∨ i.kind = 3 ∨ i.kind = 4 ∨ i.kind = 7 ∨ i.kind = 8) := by have := so.kind; omega
                        rcases hcases with hk | hk | hk | hk
                        · -- ISpawn
                          as_aux_lemma =>
                            obtain ⟨a, ha⟩ := Int.eq_ofNat_of_zero_le (so.slot hk).1
                            have ha8 : a < 8 := by have := (so.slot hk).2; omega
                            obtain ⟨m2, hm2⟩ := Int.eq_ofNat_of_zero_le (so.fn hk).1
                            have hm2l : m2 < fs.length := by have := (so.fn hk).2; omega
                            obtain ⟨f2, hf2⟩ : ∃ f2, fs[m2]? = some f2 := ⟨fs[m2], by simp⟩
                            obtain ⟨b2, off2, ca2, cc2, hfa2, hmn2, hb2, hat2⟩ := HR.out.env.fn hf2
                            obtain ⟨rfl, rfl⟩ : b = b2 ∧ off = off2 := by injection hfa2 with e; injection e with e1 e2; exact ⟨e1, e2⟩
                            have hpar : parV fs i.b = f2.params := by simp [parV, hm2, hf2]
                            have hV2 := HR.out.all.all f2 (List.mem_of_getElem? hf2)
                            obtain ⟨np, hnp⟩ := Int.eq_ofNat_of_zero_le (valid_bounds hV2).1.1
                            have hnp8 : np ≤ 8 := by have := (valid_bounds hV2).1.2; omega
                            have hpc : V.cell? ⟨b, off + m2 * 4, none⟩ = some (.int .i64 (np : Int)) := by rw [← hnp]; exact hat2.params
                            have hpn : parV fs i.b = (np : Int) := hpar.trans hnp
                            have hargs : np = 0 ∨ (0 ≤ i.c ∧ i.c + np ≤ 16) := by
                              have := so.args hk
                              rw [hpn] at this
                              omega
                            have hnb : ¬ RFoot R nv' b ∧ b ≠ N0 + 1 := ⟨fun e => by have := HR.out.env.foot b e; omega, by have := HR.out.hw0; omega⟩
                            by_cases hdeep : 4096 ≤ (payT t').depth
                            · have hsp := rspawn_deep R (N0 + 1) (.slice (some ⟨b, off, none⟩) fn fc) nv' (payS s').fuel 0 s'.depth M2 ((at_ : Int) + 1) e (payT t') 5 (a : Int) (m2 : Int) i.c i.k V HR.out.run HR.out.task hdeep
                              have HK : Hid (i.kind = 5 ∧ 4096 ≤ (payT t').depth) := ⟨hk, hdeep⟩
                              rw [hk] at cJ0
                              rw [hm2] at cJ2
                              rw [ha] at cJ1
                              clear ha hm2 hk so hat2 hargs hpar hV2 hdeep hf2 hfa2 hnp hpn hpc
                              go_wp2_with (go_at_call 47; refine hsp.mono ?_; rintro _ wy ⟨rfl, ry, ky⟩)
                              exact HR.out.deep HK.out.1 HK.out.2 ry ky
                            · obtain ⟨m', hm', hpf, tin⟩ := HR.out.pf
                              have ptin := tin.pay
                              have td := ptin.depth
                              have ts := ptin.spawned
                              have tsn := ptin.span
                              have te1 := HR.out.L.se.nn
                              have te2 := HR.out.L.se.le
                              have te3 := tin.due
                              have hsp := rspawn_any R (N0 + 1) (some ⟨b, off, none⟩) fn fc nv' (payS s').fuel 0 s'.depth M2 (payT t').node s.tasks ((at_ : Int) + 1) e (payT t') 5 i.c i.k a m2 np b off V HR.out.run HR.out.task HR.out.L.num HR.out.m2 rfl hmn2 rfl hnb hpc hnp8 (by omega) (by omega) hargs ha8 (by omega) (by omega) ptin.okr _ (HR.out.plays hk hdeep hm2 hpn hnp8)
                              have HK : Hid (i.kind = 5 ∧ i.b = m2 ∧ parV fs i.b = (np : Int) ∧ i.a = a) := ⟨hk, hm2, hpn, ha⟩
                              rw [hk] at cJ0
                              rw [hm2] at cJ2
                              rw [ha] at cJ1
                              clear ha hm2 hk so hat2 hargs hpar hV2 hdeep hf2 hfa2 hnp hpn hpc hm' hpf tin ptin td ts tsn te1 te2 te3
                              go_wp2_with (go_at_call 47; refine hsp.mono ?_; rintro _ wy ⟨rfl, v, sp, fuel', er', depth', M'', nv2, ry, ty, ky, my, hs0, hs1, hq⟩)
                              exact HR.out.got HK.out.1 HK.out.2.1 HK.out.2.2.1 HK.out.2.2.2 ry ty ky my hs0 hq
                        · -- ISync
                          as_aux_lemma =>
                            obtain ⟨m', hm', hpf, tin⟩ := HR.out.pf
                            have te1 := HR.out.L.se.nn
                            have te2 := HR.out.L.se.le
                            have te3 := tin.due
                            have te4 := tin.span
                            have d1 : V.cell? ⟨N0 + 1, 28, none⟩ = some (.int .i64 e) := HR.out.task.tail 2 rfl
                            have d2 : V.cell? ⟨N0 + 1, 27, none⟩ = some (.int .i64 (t'.span + 1)) := HR.out.task.tail 1 rfl
                            have d3 := HR.out.task.free 27
                            have hwt := HR.out.L.se.wait.1
                            have t5 := HR.out.task.putTail (t' := waitT (payT t')) (at' := (at_ : Int) + 1) (e' := e) (j := 1) (x := imax t'.span e + 1) rfl rfl rfl rfl (by rw [hwt]; rfl)
                            have t6 := t5.putTail (t' := waitT (payT t')) (at' := (at_ : Int) + 1) (e' := 0) (j := 2) (x := 0) rfl rfl rfl rfl rfl
                            have k6 : Keeps (· = N0 + 1) V _ := ((Keeps.refl (· = N0 + 1) V).andSet (x := ⟨N0 + 1, 27, none⟩) (.inl rfl) (.int .i64 (imax t'.span e + 1))).andSet (x := ⟨N0 + 1, 28, none⟩) (.inl rfl) (.int .i64 0)
                            have hfin := HR.out.sync hk (HR.out.run.kept k6 (HR.out.run.off HR.out.task)) t6 k6
                            have e1 : (V.setCell ⟨N0 + 1, 27, none⟩ (.int .i64 (imax t'.span e + 1))).cell? ⟨N0 + 1, 28, none⟩ = some (.int .i64 e) := t5.tail 2 rfl
                            have e2 := t5.free 28
                            have b1 : 0 ≤ t'.span ∧ t'.span ≤ 8388608 := by omega
                            have b2 : 0 ≤ e ∧ e ≤ 8388608 := by omega
                            rw [hk] at cJ0
                            clear t5 t6 k6 so hk te1 te2 te3 te4 tin hm' hpf hwt cJ1 cJ2 cJ3 cJ4
                            by_cases hlt : t'.span < e
                            · have ei : imax t'.span e = e := if_pos hlt
                              rw [ei] at hfin e1 e2
                              have HF : Hid _ := hfin
                              clear hfin ei
                              go_wp2_with fail
                              exact HF.out
                            · have ei : imax t'.span e = t'.span := if_neg hlt
                              rw [ei] at hfin e1 e2
                              have HF : Hid _ := hfin
                              clear hfin ei
                              go_wp2_with fail
                              exact HF.out
                        · -- IReturn
                          as_aux_lemma =>
                            obtain ⟨a, ha⟩ := Int.eq_ofNat_of_zero_le (so.reg (by omega) (by omega) (by omega)).1
                            have ha16 : a < 16 := by have := (so.reg (by omega) (by omega) (by omega)).2; omega
                            obtain ⟨x, hx⟩ : ∃ x, t'.regs.getD a 0 = x := ⟨_, rfl⟩
                            have d0 : V.cell? ⟨N0 + 1, 2 + a, none⟩ = some (.int .i64 x) := by rw [← hx]; exact HR.out.task.reg ha16
                            have d1 : V.cell? ⟨N0 + 1, 0, none⟩ = some (.int .i64 ((s.tasks : Nat) : Int)) := by rw [← HR.out.L.num]; exact HR.out.task.num
                            obtain ⟨g0, cap, hnv, hlt2, hcell, hfr, hput⟩ := HR.out.run.node HR.out.m2
                            have d2 : V.cell? ⟨R, 3, none⟩ = some (.slice (some ⟨g0, 0, none⟩) M2.length cap) := by rw [← hnv]; exact (blk_cell HR.out.run.blk 3).trans rfl
                            have d3 : V.cell? ⟨g0, s.tasks * 7 + 6, none⟩ = some (.int .i64 (payT t').node.v) := hcell 6 _ rfl
                            have d4 := hfr (s.tasks * 7 + 6)
                            obtain ⟨r5, k5⟩ := hput 6 x (endT (payT t') x).node (by omega) rfl
                            have t5 := HR.out.task.kept k5 (HR.out.run.nX HR.out.task)
                            have hJg : ¬ nv'.ownBlock = some J := fun e => by have := own_type HR.out.run.row e bJ9; exact absurd this (by decide)
                            have bJ5 := blk_kept bJ9 k5 hJg
                            have i2 : (a : Int) < 16 := by omega
                            have i3 : ((s.tasks : Nat) : Int) < (M2.length : Int) := by omega
                            obtain ⟨ML2, hML2⟩ : ∃ ML2, ML2 = M2.length := ⟨_, rfl⟩
                            rw [← hML2] at d2 i3
                            obtain ⟨vv, hvv⟩ : ∃ vv, vv = (payT t').node.v := ⟨_, rfl⟩
                            rw [← hvv] at d3
                            have HF : Hid (∀ wy, Keeps None (V.setCell ⟨g0, s.tasks * 7 + 6, none⟩ (.int .i64 x)) wy → RTo R (.slice (some ⟨b, off, none⟩) fn fc) nv w s.tasks M res (.returned (.tuple #[.int .i64 x, .int .i64 (t'.span + 1)])) wy) := fun wy hy =>
                              HR.out.ret hk ha hx (r5.kept hy (fun _ _ f => f)) ((k5.mono (T := fun k => RFoot R nv' k ∨ k = N0 + 1) (fun _ e _ => .inl (.inr e))).trans hy (fun _ f _ => f.elim))
                            have HT : Hid (IsRT (V.setCell ⟨g0, s.tasks * 7 + 6, none⟩ (.int .i64 x)) (N0 + 1) ((at_ : Int) + 1) e (payT t') ∧ (V.setCell ⟨g0, s.tasks * 7 + 6, none⟩ (.int .i64 x)).heap[J]? = some (.cells #[.int .i64 i.kind, .int .i64 i.a, .int .i64 i.b, .int .i64 i.c, .int .i64 i.k] 37 (0, 0)) ∧ i.a = a ∧ t'.regs.getD a 0 = x) := ⟨t5, bJ5, ha, hx⟩
                            rw [hk] at cJ0
                            rw [ha] at cJ1
                            clear t5 bJ5 hput hcell hfr hnv r5 k5 so hk ha hx hML2 hvv cJ2 cJ3 cJ4 hlt2 hJg HR
                            go_upto_region 28 with fail
                            go_cut [10, 12] (fun s10 s12 wx => s10 = .pointer (some ⟨N0 + 1, 0, none⟩) ∧ s12 = .pointer (some ⟨J, 0, none⟩) ∧ wx = (V.setCell ⟨g0, s.tasks * 7 + 6, none⟩ (.int .i64 x)).drew)
                            case first =>
                              go_region
                              all_goals go_wp2_with fail
                              all_goals go_meet
                              all_goals exact ⟨rfl, rfl, rfl⟩
                            case rest =>
                              obtain ⟨rfl, rfl, hwc⟩ := hcut
                              have kd := Keeps.drew None (V.setCell ⟨g0, s.tasks * 7 + 6, none⟩ (.int .i64 x))
                              rw [← hwc] at kd
                              have t6 := HT.out.1.kept kd (fun f => f)
                              have bJ6 := blk_kept HT.out.2.1 kd (fun f => f)
                              have d5 : wc.cell? ⟨J, 1, none⟩ = some (.int .i64 (a : Int)) := by rw [← HT.out.2.2.1]; exact (blk_cell bJ6 1).trans rfl
                              have d6 : wc.cell? ⟨N0 + 1, 2 + a, none⟩ = some (.int .i64 x) := by rw [← HT.out.2.2.2]; exact t6.reg ha16
                              have d7 : wc.cell? ⟨N0 + 1, 27, none⟩ = some (.int .i64 (t'.span + 1)) := t6.tail 1 rfl
                              have HKD : Hid _ := kd
                              clear hwc kd t6 bJ6 d0 d1 d2 d3 d4 cJ0 cJ1
                              go_upto_region 29 with fail
                              go_quiet (fail)
                              go_wp2_with fail
                              go_ret2
                              exact HF.out _ (HKD.out.trans (Keeps.drewN None wc _) (fun _ f _ => f))
                        · -- the others
                          as_aux_lemma =>
                            obtain ⟨m', hm', hpf, tin⟩ := HR.out.pf
                            have hcm := rplain_any R (N0 + 1) (.slice (some ⟨b, off, none⟩) fn fc) nv' (payS s').fuel 0 s'.depth M2 (payT t').node s.tasks ((at_ : Int) + 1) e (payT t') i V HR.out.run HR.out.task HR.out.L.num HR.out.m2 rfl tin.pay.okr hk (fun h => so.reg h (by omega) (by omega)) (fun h => so.regb h) (fun h => so.regc h) (fun h => so.op h) (fun h => so.load h)
                            have HK : Hid _ := hk
                            have q5 : (i.kind == 5) = false := by simp; omega
                            have q6 : (i.kind == 6) = false := by simp; omega
                            have q9 : (i.kind == 9) = false := by simp; omega
                            clear so hk hm' hpf tin
                            go_wp2_with (go_at_call 48; refine hcm.mono ?_; rintro _ wy ⟨rfl, ty, ky⟩)
                            exact HR.out.plain HK.out (HR.out.run.kept ky (HR.out.run.off HR.out.task)) ty ky
                · obtain ⟨er, fuel', depth', M', nv', hres, hne, hr', hk', hm'⟩ := hout.ex
                  have c2 : wr.cell? ⟨R, 2, none⟩ = some (.int .i64 er) := (blk_cell hr'.blk 2).trans rfl
                  have hq : (er == 0) = false := by simpa using hne
                  have HF : Hid (RTo R (.slice (some ⟨b, off, none⟩) fn fc) nv w s.tasks M res (.returned (.tuple #[.int .i64 0, .int .i64 0])) wr) := by
                    rw [hres]
                    exact ⟨_, _, _, _, rfl, hr', hk', hm'⟩
                  clear hres hne hr' hk' hm' hout
                  go_wp2_with fail
                  go_ret2
                  exact HF.out
end Go.Proofs.YtbdpdojeaahpjaaGreatDoor
