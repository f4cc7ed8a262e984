import Derived.Test.YtoehkjfdaolcnaaDoorPkAB
import Derived.Test.YtoehkjfdaolcnaaDoorPkAE
import Derived.WalkMore
import Derived.Laws.StructEq
/-! The search: its start. -/
namespace Go.Proofs.YtoehkjfdaolcnaaDoor
set_option linter.unusedVariables false
set_option maxRecDepth 20000
open Go.RowKit Go.HeapKit

theorem eqPt (a b c d : Int) (w : World) : (binOp .eql 106 (.agg #[.int .i64 a, .int .i64 b]) (.agg #[.int .i64 c, .int .i64 d])).run Tryd.prog w = .ok (.bool (a == c && b == d)) w := by
  have u3 := Tryd.underlying3
  have a3 := Tryd.isAgg3
  have z3 := Tryd.sizeOf3
  have hS : Tryd.prog.underlying 106 = some (.struct (Tryd.prog.fieldsOf 106)) := by kernel_rfl
  have hp : Tryd.prog.stoodInHeld 106 = false := by kernel_rfl
  rw [run_eql_struct, show (10000 : Nat) = 9999 + 1 from rfl, run_equalIn_agg w 9999 106 _ _ hS hp]
  simp only [Program.fieldsOf, Tryd.underlying106]
  go_simp
  by_cases h1 : a = c <;> by_cases h2 : b = d <;> simp [h1, h2]
theorem pt_ne {b q : Int} {goal : Pt} (h : ¬ (b, q) = goal) : ((b == goal.1) && (q == goal.2)) = false := by
  cases h1 : ((b == goal.1) && (q == goal.2)) with
  | false => rfl
  | true =>
    simp only [Bool.and_eq_true, beq_iff_eq] at h1
    exact absurd (Prod.ext h1.1 h1.2) h
theorem ptVals_zero (m : Nat) : ptVals (List.replicate m (0, 0)) = List.replicate (m * 2) (.int .i64 0) := by
  induction m with
  | zero => rfl
  | succ m ih =>
    rw [List.replicate_succ, show (m + 1) * 2 = m * 2 + 1 + 1 by omega, List.replicate_succ, List.replicate_succ, ← ih]
    rfl
theorem made_zero (n : Nat) : madeCells (Value.agg (Array.replicate 10 (.int .i64 0))).cells (n * 10) = (ptVals (List.replicate (n * 5) (0, 0))).toArray := by
  rw [ptVals_zero, show n * 5 * 2 = n * 10 by omega]
  apply Array.ext
  · simp [madeCells]
  · intro i h1 h2
    have h10 : (Value.agg (Array.replicate 10 (Value.int .i64 0))).cells = #[.int .i64 0, .int .i64 0, .int .i64 0, .int .i64 0, .int .i64 0, .int .i64 0, .int .i64 0, .int .i64 0, .int .i64 0, .int .i64 0] := rfl
    simp only [h10]
    simp only [madeCells, Array.getElem_map, Array.getElem_range, List.getElem_toArray, List.getElem_replicate]
    have hlt : i % 10 < 10 := Nat.mod_lt _ (by omega)
    show #[Value.int .i64 0, .int .i64 0, .int .i64 0, .int .i64 0, .int .i64 0, .int .i64 0, .int .i64 0, .int .i64 0, .int .i64 0, .int .i64 0][i % 10]! = _
    generalize i % 10 = q at hlt
    match q, hlt with
    | 0, _ => rfl
    | 1, _ => rfl
    | 2, _ => rfl
    | 3, _ => rfl
    | 4, _ => rfl
    | 5, _ => rfl
    | 6, _ => rfl
    | 7, _ => rfl
    | 8, _ => rfl
    | 9, _ => rfl
theorem from_made (w : World) (n : Nat) (hn : n ≤ 512) : ∃ w', (Instr.makeSlice 103 (.int .i64 n) (.int .i64 n)).run Tryd.prog w = .ok (.slice (some ⟨w.heap.size, 0, none⟩) n n) w' ∧ IsFrom w' w.heap.size n (List.replicate (n * 5) (0, 0)) ∧ Keeps None w w' := by
  obtain ⟨i0, hi, hz0, hz1, hz2⟩ := info_parts Tryd.infoFive
  obtain ⟨M, hM, _, hr⟩ := run_make_block (P := Tryd.prog) (w := w) 103 107 i0 _ 10 80 Tryd.underlying103 hi hz0 hz1 hz2 n (by omega) (by omega)
  refine ⟨_, hr, ⟨?_, by simp⟩, Keeps.alloc None w _⟩
  rw [heap_alloc_new, hM, made_zero]

set_option maxHeartbeats 2000000 in
theorem search_any (f : Fn) (ca : Option Addr) (cc : Nat) (slot : Int) (goal : Pt) (w : World) (hT : Tabs w) (hC : SeenI w ca f.code.length f.code) (hG : Good f) :
    Calls Tryd.prog 81 #[fnV f ca cc, .int .i64 slot, .agg #[.int .i64 goal.1, .int .i64 goal.2]] w fun e w' => ∃ g, e = .returned (.slice (some ⟨g, 0, none⟩) f.code.length f.code.length) ∧ IsFrom w' g f.code.length (searchV f slot goal) ∧ Keeps None w w' ∧ w.heap.size ≤ g := by
  obtain ⟨n, hn⟩ : ∃ n, n = f.code.length := ⟨_, rfl⟩
  unfold fnV
  rw [← hn] at hC ⊢
  have HG : Hid (Good f ∧ n = f.code.length ∧ Tabs w ∧ SeenI w ca n f.code) := ⟨hG, hn, hT, hC⟩
  have n1 : 1 ≤ n := by have := hG.n1; omega
  have n2 : n ≤ 512 := by have := hG.n2; omega
  clear hG hn hT hC
  obtain ⟨B, hB⟩ : ∃ B, B = w.heap.size := ⟨_, rfl⟩
  obtain ⟨b1, b2⟩ := two_boxes w #[.int .i64 f.params, .int .i64 f.regs, .int .i64 f.slots, .slice ca n cc] #[.int .i64 goal.1, .int .i64 goal.2] 37 106
  have hk := keeps2 w (.cells #[.int .i64 f.params, .int .i64 f.regs, .int .i64 f.slots, .slice ca n cc] 37) (.cells #[.int .i64 goal.1, .int .i64 goal.2] 106)
  have hsz : ((w.alloc (.cells #[.int .i64 f.params, .int .i64 f.regs, .int .i64 f.slots, .slice ca n cc] 37)).alloc (.cells #[.int .i64 goal.1, .int .i64 goal.2] 106)).heap.size = B + 2 := by simp [hB]
  generalize hw2 : (w.alloc (.cells #[.int .i64 f.params, .int .i64 f.regs, .int .i64 f.slots, .slice ca n cc] 37)).alloc (.cells #[.int .i64 goal.1, .int .i64 goal.2] 106) = w2 at b1 b2 hk hsz
  have d3 := (cell_of_heap b1 3).trans rfl
  rw [← hB] at b1 b2
  obtain ⟨w3, hmk, hF, hk3⟩ := from_made w2 n n2
  rw [hsz] at hmk hF
  have HB : Hid (Keeps None w w3 ∧ w3.heap[B]? = _ ∧ w3.heap[B + 1]? = _ ∧ IsFrom w3 (B + 2) n (List.replicate (n * 5) (0, 0)) ∧ B = w.heap.size) := ⟨hk.trans hk3 (fun _ f _ => f), blk_kept b1 hk3 (fun f => f), blk_kept b2 hk3 (fun f => f), hF, hB⟩
  obtain ⟨s0, s1⟩ := (HG.out.2.2.1.more HB.out.1).start0
  have u0 := hF.at (k := 1) (x := (0, 0)) (by rw [List.getElem?_replicate]; simp; omega)
  have z0 := blk_free hF.blk 2
  have z1 := blk_free hF.blk 3
  have i1 : (0 : Int) < (n : Int) := by omega
  clear b1 b2 hk hF hk3
  go_enter Tryd.func81, Tryd.ntmps81
  go_wp2_with fail
  go_step3
  go_upto_region 2 with (at_make; refine wpList_make_run rfl (.tmp 18) (.tmp 18) 103 rfl rfl rfl hmk ?_)
  rw [← hB]
  clear hmk d3 hw2 hsz hB
  go_cut [7] (fun s7 wx => s7 = .slice (some ⟨B + 2, 0, none⟩) n n ∧ IsFrom wx (B + 2) n (fr0 n) ∧ Keeps (· = B + 2) w3 wx)
  case first =>
    have i1n : 0 < n := by omega
    have i1m : ¬ n = 0 := by omega
    go_region_held3 (fun w' => w'.cell? ⟨1, 0, none⟩ = some (.int .i64 0) ∧ w'.cell? ⟨1, 1, none⟩ = some (.int .i64 1)) (go_keep) (fail)
    all_goals (go_wp2_with fail; go_meet)
    all_goals
      have hq := HB.out.2.2.2.1.set 1 (0, 1) (by simp; omega)
      exact ⟨rfl, hq.kept (Keeps.drew None _) (fun f => f), (((Keeps.refl (· = B + 2) w3).andSet (x := ⟨B + 2, 2, none⟩) (.inl rfl) _).andSet (x := ⟨B + 2, 3, none⟩) (.inl rfl) _).andDrew⟩
  case rest =>
    obtain ⟨rfl, hF, hk3⟩ := hcut
    have hkw : Keeps None w wc := HB.out.1.trans hk3 (fun i e hi => by have := HB.out.2.2.2.2; omega)
    have hb1 := blk_kept HB.out.2.1 hk3 (by omega)
    have hb2 := blk_kept HB.out.2.2.1 hk3 (by omega)
    obtain ⟨s0', s1'⟩ := (HG.out.2.2.1.more hkw).start0
    have HS : Hid (Held w (wc.alloc (.cells #[.int .i64 0, .int .i64 1] 106)) B n #[.int .i64 f.params, .int .i64 f.regs, .int .i64 f.slots, .slice ca n cc] goal (fr0 n) (.slice (some ⟨wc.heap.size, 0, none⟩) 1 1) [(0, 1)]) := by
      have hal := Keeps.alloc None wc (.cells #[.int .i64 0, .int .i64 1] 106)
      refine ⟨hkw.trans hal (fun _ f _ => f), blk_kept hb1 hal (fun f => f), blk_kept hb2 hal (fun f => f), hF.kept hal (fun f => f), ⟨.inr ⟨wc.heap.size, 0, 1, _, rfl, ?_, heap_alloc_new _ _, by simp, by unfold maxLen; omega, by simp, fun j u hu => by simpa [ptVals] using hu⟩⟩, ⟨hF.len, fun p hp => ?_⟩, by have := HB.out.2.2.2.2; omega⟩
      · have := blk_lt hF.blk
        omega
      · simp at hp
        subst hp
        exact ⟨by simp, by simp; omega, .inl rfl⟩
    clear hF hk3 hkw hb1 hb2 s0 s1 u0 z0 z1 HB
    obtain ⟨R, hR⟩ : ∃ R, R = searchV f slot goal := ⟨_, rfl⟩
    have HR : Hid (R = searchV f slot goal) := hR
    clear hR
    generalize hfv : (#[.int .i64 f.params, .int .i64 f.regs, .int .i64 f.slots, .slice ca n cc] : Array Value) = fv at HS
    have HV : Hid _ := hfv
    clear hfv
    go_wp2_with fail
    go_step3
    go_wp2_with fail
    go_loopw [8, 9] (fun s8 s9 wr => ∃ fr op k, Held w wr B n fv goal fr s8 op ∧ 2 * blanks fr + op.length ≤ k ∧ k ≤ 6000 ∧ runS f slot goal k fr op = R ∧ ∃ (m : Nat) (l : List Int), wr.ownsRow 0 3 1 s9 m (l.map (Value.int .i64)) ∧ ∀ g, s9.ownBlock = some g → w.heap.size ≤ g) (fun s8 _ wr => 2 * blankW wr (B + 2) + lenS s8)
    case atStart =>
      refine ⟨fr0 n, [(0, 1)], n * 10 + 2, HS.out, ?_, by omega, ?_, 0, [], ⟨by simp, .inl ⟨rfl, rfl⟩⟩, fun g e => by simp [Value.ownBlock] at e⟩
      · have := blanks_le (fr0 n)
        have h5 : (fr0 n).length = n * 5 := by simp [fr0]
        simp only [List.length_cons, List.length_nil]
        omega
      · rw [HR.out]
        unfold searchV
        rw [← HG.out.2.1]
    case round =>
      obtain ⟨fr, op, k, hH, hmeas, hk6, hrun, m, l, hrow, hlow⟩ := hrel
      cases op with
      | nil =>
        have HF : Hid (IsFrom wr (B + 2) n R ∧ Keeps None w wr ∧ w.heap.size ≤ B + 2) := by
          refine ⟨?_, hH.keep, by have := hH.low; omega⟩
          have : R = fr := by rw [← hrun]; cases k <;> rfl
          rw [this]
          exact hH.from_
        rw [HR.out] at HF
        rcases hH.q.ex with ⟨rfl, -⟩ | ⟨g, off, cap, cur, rfl, -⟩
        · clear hH hrun hrow hlow
          go_wp2_with fail
          rw [Exit.noGoto_ret]
          go_ret
          exact ⟨_, rfl, HF.out.1, HF.out.2⟩
        · clear hH hrun hrow hlow
          go_wp2_with fail
          rw [Exit.noGoto_ret]
          go_ret
          exact ⟨_, rfl, HF.out.1, HF.out.2⟩
      | cons h t =>
        obtain ⟨g, off, cap, rfl, hgB, hcap, hc0, hc1, hQ⟩ := hH.q.head
        obtain ⟨ha0, ha1, hst⟩ := hH.plain.op h (List.mem_cons_self ..)
        obtain ⟨h1, h2⟩ := h
        simp only at ha0 ha1 hst hc0 hc1
        obtain ⟨a, rfl⟩ := Int.eq_ofNat_of_zero_le ha0
        have han : a < n := by omega
        obtain ⟨bI, oI, x, rfl, hx, hat⟩ := (HG.out.2.2.2.more hH.keep).at han
        have hbx : wr.heap[B]? = some (.cells #[.int .i64 f.params, .int .i64 f.regs, .int .i64 f.slots, .slice (some ⟨bI, oI, none⟩) n cc] 37 (0, 0)) := by rw [hH.box, ← HV.out]
        obtain ⟨H, hHs⟩ : ∃ H, H = wr.heap.size := ⟨_, rfl⟩
        have HO : Hid (Held w wr B n fv goal fr (.slice (some ⟨g, off, none⟩) (t.length + 1) cap) (((a : Int), h2) :: t) ∧ IsQ wr (B + 3) (.slice (some (if cap = 1 then ⟨g, off, none⟩ else ⟨g, off + 2, none⟩)) t.length (cap - 1)) t ∧ f.code[a]? = some x ∧ InsAt wr bI (oI + a * 5) x ∧ H = wr.heap.size ∧ (h2 = 1 ∨ h2 = 2 ∨ h2 = 4) ∧ 2 * blanks fr + t.length + 1 ≤ k ∧ wr.heap[B]? = some (.cells #[.int .i64 f.params, .int .i64 f.regs, .int .i64 f.slots, .slice (some ⟨bI, oI, none⟩) n cc] 37 (0, 0))) := ⟨hH, hQ, hx, hat, hHs, hst, hmeas, hbx⟩
        have HM : Hid (k ≤ 6000 ∧ runS f slot goal k fr (((a : Int), h2) :: t) = R) := ⟨hk6, hrun⟩
        have HRW : Hid (wr.ownsRow 0 3 1 u9 m (l.map (Value.int .i64)) ∧ ∀ g, u9.ownBlock = some g → w.heap.size ≤ g) := ⟨hrow, hlow⟩
        have j1 : (0 : Int) < ((t.length + 1 : Nat) : Int) := by omega
        have j2 : 1 ≤ cap := by omega
        clear hH hQ hx hat hst hmeas hbx hk6 hrun hrow hlow ha0 ha1 s0' s1' HS hHs
        go_upto_region 6 with fail
        go_cut [10] (fun s10 wx => s10 = .pointer (some ⟨H, 0, none⟩) ∧ wx.heap[H]? = some (.cells #[.int .i64 a, .int .i64 h2] 106 (0, 0)) ∧ Keeps None wr wx)
        case first =>
          go_wp2_with fail
          go_meet
          rw [HO.out.2.2.2.2.1]
          exact ⟨rfl, heap_alloc_new _ _, Keeps.alloc None _ _⟩
        case rest =>
          obtain ⟨rfl, hhb, hkA⟩ := hcut
          have HA : Hid (wc.heap[H]? = some (.cells #[.int .i64 a, .int .i64 h2] 106 (0, 0)) ∧ Keeps None wr wc) := ⟨hhb, hkA⟩
          clear hhb hkA hc0 hc1
          have j3 : (1 : Int) ≤ ((t.length + 1 : Nat) : Int) := by omega
          have j4 : ((t.length + 1 : Nat) : Int) ≤ (cap : Int) := by omega
          go_upto_region 7 with fail
          go_cut [8] (fun s8 wx => s8 = .slice (some (if cap = 1 then ⟨g, off, none⟩ else ⟨g, off + 2, none⟩)) t.length (cap - 1) ∧ wx = wc)
          case first =>
            by_cases hcap1 : cap = 1
            · subst hcap1
              have ht0 : t.length = 0 := by omega
              go_wp2_with fail
              go_meet
              simp [ht0]
            · go_wp2_with fail
              go_meet
              simp [hcap1]
          case rest =>
            obtain ⟨rfl, hwx⟩ := hcut
            subst hwx
            have hkA := HA.out.2
            have c3 := (cell_of_heap (blk_kept HO.out.2.2.2.2.2.2.2 hkA (fun f => f)) 3).trans rfl
            have c0 := (cell_of_heap HA.out.1 0).trans rfl
            have c1 := (cell_of_heap HA.out.1 1).trans rfl
            obtain ⟨y0, y1, y2, y3, y4⟩ := HO.out.2.2.2.1.kept hkA (fun f => f)
            have j5 : (a : Int) < (n : Int) := by omega
            obtain ⟨I, hI⟩ : ∃ I, I = wc.heap.size := ⟨_, rfl⟩
            have HI : Hid (I = wc.heap.size) := hI
            clear hI
            generalize hsv : (Value.slice (some (if cap = 1 then (⟨g, off, none⟩ : Addr) else ⟨g, off + 2, none⟩)) t.length (cap - 1)) = sv at *
            go_upto_region 8 with fail
            go_cut [11] (fun s11 wx => s11 = .pointer (some ⟨I, 0, none⟩) ∧ wx.heap[I]? = some (.cells #[.int .i64 x.kind, .int .i64 x.a, .int .i64 x.b, .int .i64 x.c, .int .i64 x.k] 39 (0, 0)) ∧ Keeps None wc wx)
            case first =>
              go_wp2_with fail
              go_meet
              rw [HI.out]
              exact ⟨rfl, heap_alloc_new _ _, Keeps.alloc None _ _⟩
            case rest =>
              obtain ⟨rfl, hib, hkB⟩ := hcut
              have hkC := HA.out.2.trans hkB (fun _ f _ => f)
              obtain ⟨st, hst⟩ : ∃ st, st = afterV x slot h2 := ⟨_, rfl⟩
              have hst3 := after_st x slot h2 HO.out.2.2.2.2.2.1
              rw [← hst] at hst3
              obtain ⟨q, hq⟩ : ∃ q : Nat, st = q := ⟨st.toNat, by omega⟩
              have HQ : Hid (((q : Int) = 1 ∨ (q : Int) = 2 ∨ (q : Int) = 4) ∧ (q : Int) = afterV x slot h2) := ⟨hq ▸ hst3, hq ▸ hst⟩
              have haf := fun wx => after_any x slot h2 wx
              rw [← hst, hq] at haf
              unfold insV at haf
              have hhb := blk_kept HA.out.1 hkB (fun f => f)
              have e1 := (cell_of_heap hhb 1).trans rfl
              have f0 := (cell_of_heap hib 0).trans rfl
              have f1 := (cell_of_heap hib 1).trans rfl
              have f2 := (cell_of_heap hib 2).trans rfl
              have f3 := (cell_of_heap hib 3).trans rfl
              have f4 := (cell_of_heap hib 4).trans rfl
              have HC : Hid (wc.heap[H]? = some (.cells #[.int .i64 a, .int .i64 h2] 106 (0, 0)) ∧ wc.heap[I]? = some (.cells #[.int .i64 x.kind, .int .i64 x.a, .int .i64 x.b, .int .i64 x.c, .int .i64 x.k] 39 (0, 0)) ∧ Keeps None wr wc) := ⟨hhb, hib, hkC⟩
              clear hst hst3 hq hhb hib hkC hkB c3 c0 c1 y0 y1 y2 y3 y4 hkA
              go_upto_region 9 with fail
              go_cut [12] (fun s12 wx => s12 = .int .i64 q ∧ Keeps None wc wx)
              case first =>
                go_wp2_with (go_at_call 84; refine (haf _).mono ?_; rintro e w2 ⟨rfl, hk2⟩)
                go_meet
                exact ⟨rfl, hk2⟩
              case rest =>
                obtain ⟨rfl, hkD⟩ := hcut
                obtain ⟨ao9, cp9, hu9, hz9, hb9, hcm9, hmc9, hn9, hsp9⟩ := own_zero HRW.out.1
                subst hu9
                have hkE := HC.out.2.2.trans hkD (fun _ f _ => f)
                have hhb := blk_kept HC.out.1 hkD (fun f => f)
                have hib := blk_kept HC.out.2.1 hkD (fun f => f)
                have g0 := (cell_of_heap hhb 0).trans rfl
                have f0 := (cell_of_heap hib 0).trans rfl
                have f1 := (cell_of_heap hib 1).trans rfl
                have f2 := (cell_of_heap hib 2).trans rfl
                have f3 := (cell_of_heap hib 3).trans rfl
                have f4 := (cell_of_heap hib 4).trans rfl
                obtain ⟨L, hL⟩ : ∃ L, L = exitsV a x := ⟨_, rfl⟩
                have hrow0 : wc.ownsRow 0 3 1 (.slice ao9 0 cp9) 0 [] := hkE.own hz9 (fun _ _ f => f)
                have hex := exits_any (.slice ao9 0 cp9) a x wc.drew (((HG.out.2.2.1.more HO.out.1.keep).more hkE).more (Keeps.drew None _)) ((Keeps.drew None wc).own hrow0 (fun _ _ f => f)) (HG.out.1.kind _ _ HO.out.2.2.1).1 (HG.out.1.kind _ _ HO.out.2.2.1).2 ⟨by omega, by omega⟩
                rw [← hL] at hex
                unfold insV at hex
                have nH : ¬ (Value.slice ao9 0 cp9).ownBlock = some H := fun e => by
                  obtain ⟨c, hc⟩ := own_block hrow0 e
                  exact blk_ne hc hhb (by decide) rfl
                have nI : ¬ (Value.slice ao9 0 cp9).ownBlock = some I := fun e => by
                  obtain ⟨c, hc⟩ := own_block hrow0 e
                  exact blk_ne hc hib (by decide) rfl
                have HN : Hid (¬ (Value.slice ao9 0 cp9).ownBlock = some H ∧ ¬ (Value.slice ao9 0 cp9).ownBlock = some I ∧ L = exitsV a x ∧ wc.ownsRow 0 3 1 (.slice ao9 0 cp9) 0 [] ∧ (Value.slice ao9 0 cp9).ownBlock = (Value.slice ao9 m cp9).ownBlock) := ⟨nH, nI, hL, hrow0, hb9⟩
                have HE : Hid (Keeps None wr wc ∧ wc.heap[H]? = some (.cells #[.int .i64 a, .int .i64 h2] 106 (0, 0)) ∧ wc.heap[I]? = some (.cells #[.int .i64 x.kind, .int .i64 x.a, .int .i64 x.b, .int .i64 x.c, .int .i64 x.k] 39 (0, 0))) := ⟨hkE, hhb, hib⟩
                unfold maxLen at hcm9
                have j6 : (0 : Int) ≤ (cp9 : Int) := by omega
                clear nH nI hL hrow0 hz9 hb9 hkE hhb hib hkD haf e1
                go_upto_region 10 with fail
                go_cut [9] (fun s9 wx => Out wc (.slice ao9 0 cp9) wx s9 L)
                case first =>
                  go_region_held3 (fun w' => w'.cell? ⟨H, 0, none⟩ = some (.int .i64 a) ∧ w'.cell? ⟨I, 0, none⟩ = some (.int .i64 x.kind) ∧ w'.cell? ⟨I, 1, none⟩ = some (.int .i64 x.a) ∧ w'.cell? ⟨I, 2, none⟩ = some (.int .i64 x.b) ∧ w'.cell? ⟨I, 3, none⟩ = some (.int .i64 x.c) ∧ w'.cell? ⟨I, 4, none⟩ = some (.int .i64 x.k)) (first | exact hs2 | go_keep) (first
                    | (go_at_call 85; refine hex.mono ?_; rintro e w2 ⟨v2, rfl, ho2⟩; have hs2 : w2.cell? ⟨H, 0, none⟩ = some (.int .i64 a) ∧ w2.cell? ⟨I, 0, none⟩ = some (.int .i64 x.kind) ∧ w2.cell? ⟨I, 1, none⟩ = some (.int .i64 x.a) ∧ w2.cell? ⟨I, 2, none⟩ = some (.int .i64 x.b) ∧ w2.cell? ⟨I, 3, none⟩ = some (.int .i64 x.c) ∧ w2.cell? ⟨I, 4, none⟩ = some (.int .i64 x.k) := ⟨ho2.keep.cell g0 HN.out.1, ho2.keep.cell f0 HN.out.2.1, ho2.keep.cell f1 HN.out.2.1, ho2.keep.cell f2 HN.out.2.1, ho2.keep.cell f3 HN.out.2.1, ho2.keep.cell f4 HN.out.2.1⟩))
                  all_goals (go_wp2_with fail; go_meet)
                  all_goals exact ⟨ho2.own, (Keeps.drew _ wc).trans ho2.keep (fun _ e _ => e), ho2.mov⟩
                case rest =>
                  obtain ⟨V, hV⟩ : ∃ V, V = visit goal ((a : Int), h2) q L fr t := ⟨_, rfl⟩
                  have hrl : ∀ g, (Value.slice ao9 0 cp9).ownBlock = some g → w.heap.size ≤ g := fun g e => HRW.out.2 g (HN.out.2.2.2.2 ▸ e)
                  have hH0 := (HO.out.1.tail HO.out.2.1).more HE.out.1
                  have hH1 := hH0.rows hcut.keep (fun g e => by
                    obtain ⟨c, hc⟩ := own_block HN.out.2.2.2.1 e
                    exact ⟨hrl g e, c, _, hc⟩)
                  have hIn : Inner w wc B n H (2 * blanks fr + t.length) fv goal ((a : Int), h2) q L V u9 0 sv fr t := by
                    refine ⟨hH1, hV.symm, Nat.le_refl _, blk_kept HE.out.2.1 hcut.keep HN.out.1, hcut.own, fun g e => ?_, fun g e => ?_⟩
                    · rcases hcut.mov g e with e | e
                      · exact hrl g e
                      · have := HE.out.1.size; have := HO.out.1.keep.size; omega
                    · have := (HO.out.2.1.low e).2.1
                      have := HO.out.2.2.2.2.1
                      omega
                  obtain ⟨ao, cp, hu9, -, -, hcp, -, -, -⟩ := own_zero hcut.own
                  subst hu9
                  obtain ⟨m9, hm9⟩ : ∃ m9, m9 = L.length := ⟨_, rfl⟩
                  have HI9 : Hid (Inner w wc B n H (2 * blanks fr + t.length) fv goal ((a : Int), h2) q L V (.slice ao m9 cp) 0 sv fr t ∧ m9 = L.length) := ⟨hm9 ▸ hIn, hm9⟩
                  have HVV : Hid (V = visit goal ((a : Int), h2) q L fr t ∧ h2 ≠ 0 ∧ ∀ b ∈ L, 0 ≤ b ∧ b < n) := by
                    refine ⟨hV, by have := HO.out.2.2.2.2.2.1; omega, ?_⟩
                    rw [HN.out.2.2.1, HG.out.2.1]
                    exact HG.out.1.ways a x HO.out.2.2.1
                  have i10 : (m9 : Int) ≤ 3 := by have := exits_len a x; rw [← HN.out.2.2.1] at this; omega
                  rw [← hm9]
                  clear hV hrl hH0 hH1 hIn hcut hcp hm9 g0 f0 f1 f2 f3 f4 hex
                  go_wp2_with fail
                  go_loopw [8, 57] (fun s8 s57 wi => ∃ (j : Nat) (fr' op' : List Pt), j ≤ m9 ∧ s57 = .int .i64 j ∧ Inner w wi B n H (2 * blanks fr + t.length) fv goal ((a : Int), h2) q L V (.slice ao m9 cp) j s8 fr' op') (fun _ s57 _ => m9 - (intOf s57).toNat)
                  case atStart => exact ⟨0, fr, t, Nat.zero_le _, rfl, HI9.out.1⟩
                  case round =>
                    as_aux_lemma =>
                     obtain ⟨j, fr', op', hj, rfl, hIn⟩ := hrel
                     by_cases hjm : j < m9
                     · obtain ⟨b0, hb0⟩ : ∃ b0, L[j]? = some b0 := ⟨L[j]'(by have := HI9.out.2; omega), by simp⟩
                       have hb01 := HVV.out.2.2 b0 (List.mem_of_getElem? hb0)
                       obtain ⟨b, rfl⟩ := Int.eq_ofNat_of_zero_le hb01.1
                       have hbn : b < n := by have := hb01.2; omega
                       obtain ⟨g9, hao⟩ : ∃ g9, ao = some ⟨g9, 0, none⟩ := by
                         rcases hIn.row.2 with ⟨e, _⟩ | ⟨g, cap, cur, e, _⟩
                         · simp only [Value.slice.injEq] at e; omega
                         · simp only [Value.slice.injEq] at e; exact ⟨g, e.1⟩
                       subst hao
                       have c9 : wr.cell? ⟨g9, j, none⟩ = some (.int .i64 b) := by
                         have := hIn.row.cells (g := g9) rfl j (.int .i64 b) (by simp [hb0])
                         rwa [show (⟨g9, 0, none⟩ : Addr).add j = ⟨g9, j, none⟩ by unfold Addr.add; split <;> simp_all] at this
                       obtain ⟨X, hX⟩ : ∃ X, X = wr.heap.size := ⟨_, rfl⟩
                       have i9 : (j : Int) < (m9 : Int) := by omega
                       have HJ : Hid (Inner w wr B n H (2 * blanks fr + t.length) fv goal ((a : Int), h2) q L V (.slice (some ⟨g9, 0, none⟩) m9 cp) j u8 fr' op' ∧ L[j]? = some (b : Int) ∧ X = wr.heap.size) := ⟨hIn, hb0, hX⟩
                       clear hIn hb0 hX hb01
                       go_upto_region 14 with fail
                       go_cut [15] (fun s15 wx => s15 = .pointer (some ⟨X, 0, none⟩) ∧ wx.heap[X]? = some (.cells #[.int .i64 b, .int .i64 q] 106 (0, 0)) ∧ Keeps None wr wx)
                       case first =>
                         go_wp2_with fail
                         go_meet
                         rw [HJ.out.2.2]
                         exact ⟨rfl, heap_alloc_new _ _, Keeps.alloc None _ _⟩
                       case rest =>
                         obtain ⟨rfl, hxb, hkX⟩ := hcut
                         have hI2 := HJ.out.1.more hkX
                         have x0 := (cell_of_heap hxb 0).trans rfl
                         have x1 := (cell_of_heap hxb 1).trans rfl
                         have hq5 : q < 5 := by have := HQ.out.1; omega
                         have hmt := met_any (B + 2) n fr' b q wc hI2.held.from_ hbn hq5
                         cases hm : metV fr' ((b : Int), (q : Int)) with
                         | true =>
                           rw [hm] at hmt
                           have HK : Hid (Inner w wc B n H (2 * blanks fr + t.length) fv goal ((a : Int), h2) q L V (.slice (some ⟨g9, 0, none⟩) m9 cp) j u8 fr' op' ∧ metV fr' ((b : Int), (q : Int)) = true) := ⟨hI2, hm⟩
                           clear hI2 hm hxb hkX
                           go_wp2_with (go_at_call 86; refine hmt.mono ?_; rintro e w2 ⟨rfl, hk2⟩)
                           exact ⟨⟨j + 1, fr', op', by omega, by simp, (HK.out.1.skip HJ.out.2.1 HK.out.2).more hk2⟩, by simp [intOf]; omega⟩
                         | false =>
                           rw [hm] at hmt
                           have HK : Hid (Inner w wc B n H (2 * blanks fr + t.length) fv goal ((a : Int), h2) q L V (.slice (some ⟨g9, 0, none⟩) m9 cp) j u8 fr' op' ∧ metV fr' ((b : Int), (q : Int)) = false ∧ wc.heap[X]? = some (.cells #[.int .i64 b, .int .i64 q] 106 (0, 0))) := ⟨hI2, hm, hxb⟩
                           clear hI2 hm hxb hkX
                           go_upto_region 16 with (go_at_call 86; refine hmt.mono ?_; rintro e w2 ⟨rfl, hk2⟩)
                           have hI3 := HK.out.1.more hk2
                           have ok : PtOk n ((b : Int), (q : Int)) := ⟨by simp, by simpa using hbn, HQ.out.1⟩
                           obtain ⟨w4, hw4, hHd, hk4, hb4, hr4, hM4, hV4⟩ := hI3.mark HJ.out.2.1 HK.out.2.1 ok HVV.out.2.1
                           have hix : ptIx ((b : Int), (q : Int)) = b * 5 + q := by simp [ptIx]
                           have hxb := blk_kept HK.out.2.2 hk2 (fun f => f)
                           have hxb4 := blk_kept hxb hk4 (blk_ne hxb hI3.held.from_.blk (by decide))
                           have hl5 : b * 5 + q < fr'.length := by have := hI3.held.plain.len; omega
                           obtain ⟨y, hy⟩ : ∃ y, fr'[b * 5 + q]? = some y := ⟨fr'[b * 5 + q]'hl5, List.getElem?_eq_getElem hl5⟩
                           have u0 := hI3.held.from_.at hy
                           have z0 := blk_free hI3.held.from_.blk (b * 10 + q * 2)
                           have z1 := blk_free hI3.held.from_.blk (b * 10 + q * 2 + 1)
                           rw [show (b * 5 + q) * 2 = b * 10 + q * 2 by omega] at u0
                           obtain ⟨u0a, u0b⟩ := u0
                           have X0 := (cell_of_heap hxb 0).trans rfl
                           have X1 := (cell_of_heap hxb 1).trans rfl
                           have H0 := (cell_of_heap hI3.hbox 0).trans rfl
                           have H1 := (cell_of_heap hI3.hbox 1).trans rfl
                           rw [hix, show (b * 5 + q) * 2 = b * 10 + q * 2 by omega] at hw4
                           simp only at hw4
                           obtain ⟨FR, hFR⟩ : ∃ FR, FR = fr'.set (b * 5 + q) ((a : Int), h2) := ⟨_, rfl⟩
                           rw [hix, ← hFR] at hHd hM4 hV4
                           have HL : Hid (Held w w4 B n fv goal FR u8 op' ∧ w4.heap[H]? = some (.cells #[.int .i64 a, .int .i64 h2] 106 (0, 0)) ∧ w4.ownsRow 0 3 1 (.slice (some ⟨g9, 0, none⟩) m9 cp) L.length (L.map (Value.int .i64)) ∧ 2 * blanks FR + op'.length + 2 ≤ 2 * blanks fr + t.length ∧ w4.heap[X]? = some (.cells #[.int .i64 b, .int .i64 q] 106 (0, 0)) ∧
                             V = (if ((b : Int), (q : Int)) = goal then (FR, op', true) else visit goal ((a : Int), h2) q (L.drop (j + 1)) FR (op' ++ [((b : Int), (q : Int))])) ∧ w4 = (w2.setCell ⟨B + 2, b * 10 + q * 2, none⟩ (.int .i64 a)).setCell ⟨B + 2, b * 10 + q * 2 + 1, none⟩ (.int .i64 h2) ∧ w4.heap.size = w2.heap.size ∧ H < w2.heap.size ∧ ∀ g, qBlock u8 = some g → g ≠ H) := ⟨hHd, hb4, hr4, hM4, hxb4, hV4, hw4, by rw [hw4]; simp [World.setCell], blk_lt hI3.hbox, hI3.qne⟩
                           have hs4 : ((w2.setCell ⟨B + 2, b * 10 + q * 2, none⟩ (.int .i64 a)).setCell ⟨B + 2, b * 10 + q * 2 + 1, none⟩ (.int .i64 h2)).drew.cell? ⟨X, 0, none⟩ = some (.int .i64 b) ∧ ((w2.setCell ⟨B + 2, b * 10 + q * 2, none⟩ (.int .i64 a)).setCell ⟨B + 2, b * 10 + q * 2 + 1, none⟩ (.int .i64 h2)).drew.cell? ⟨X, 1, none⟩ = some (.int .i64 q) ∧ ((w2.setCell ⟨B + 2, b * 10 + q * 2, none⟩ (.int .i64 a)).setCell ⟨B + 2, b * 10 + q * 2 + 1, none⟩ (.int .i64 h2)).drew.cell? ⟨H, 0, none⟩ = some (.int .i64 a) ∧ ((w2.setCell ⟨B + 2, b * 10 + q * 2, none⟩ (.int .i64 a)).setCell ⟨B + 2, b * 10 + q * 2 + 1, none⟩ (.int .i64 h2)).drew.cell? ⟨H, 1, none⟩ = some (.int .i64 h2) := by
                             have hkd := (hw4 ▸ hk4).andDrew
                             have nX : ¬ X = B + 2 := blk_ne hxb hI3.held.from_.blk (by decide)
                             have nH : ¬ H = B + 2 := blk_ne hI3.hbox hI3.held.from_.blk (by decide)
                             exact ⟨hkd.cell X0 nX, hkd.cell X1 nX, hkd.cell H0 nH, hkd.cell H1 nH⟩
                           clear hHd hb4 hr4 hM4 hxb4 hV4 hw4 hI3 hxb hk4 hy hix hFR hl5
                           have i2 : (b : Int) < (n : Int) := by omega
                           have i3 : (q : Int) < 5 := by omega
                           have i4 : ¬ n = 0 := by omega
                           go_cut [15] (fun s15 wx => s15 = .pointer (some ⟨X, 0, none⟩) ∧ wx = w4.drew)
                           case first =>
                             go_region_held3 (fun w' => w'.cell? ⟨X, 0, none⟩ = some (.int .i64 b) ∧ w'.cell? ⟨X, 1, none⟩ = some (.int .i64 q) ∧ w'.cell? ⟨H, 0, none⟩ = some (.int .i64 a) ∧ w'.cell? ⟨H, 1, none⟩ = some (.int .i64 h2)) (first | exact hs4 | go_keep) (fail)
                             all_goals (go_wp2_with fail; go_meet)
                             all_goals
                               rw [HL.out.2.2.2.2.2.2.1]
                               exact ⟨rfl, rfl⟩
                           case rest =>
                             obtain ⟨rfl, hwx⟩ := hcut
                             have hkd : Keeps None w4 wc := by rw [hwx]; exact Keeps.drew None w4
                             have hszc : wc.heap.size = w2.heap.size := by rw [hwx]; exact HL.out.2.2.2.2.2.2.2.1
                             have hHd := HL.out.1.more hkd
                             have hhb := blk_kept HL.out.2.1 hkd (fun f => f)
                             have hrw := hkd.own HL.out.2.2.1 (fun _ _ f => f)
                             have hxb := blk_kept HL.out.2.2.2.2.1 hkd (fun f => f)
                             have X0' := (cell_of_heap hxb 0).trans rfl
                             have X1' := (cell_of_heap hxb 1).trans rfl
                             have G0' := (cell_of_heap hHd.gbox 0).trans rfl
                             have G1' := (cell_of_heap hHd.gbox 1).trans rfl
                             by_cases hg : ((b : Int), (q : Int)) = goal
                             · have hg1 : goal.1 = b := by rw [← hg]
                               have hg2 : goal.2 = q := by rw [← hg]
                               rw [hg1] at G0'
                               rw [hg2] at G1'
                               have HF : Hid (IsFrom wc (B + 2) n R ∧ Keeps None w wc ∧ w.heap.size ≤ B + 2) := by
                                 refine ⟨?_, hHd.keep, by have := hHd.low; omega⟩
                                 have hkk := HO.out.2.2.2.2.2.2.1
                                 obtain ⟨k', rfl⟩ : ∃ k', k = k' + 1 := ⟨k - 1, by omega⟩
                                 have hs1 := HM.out.2
                                 have hV4 := HL.out.2.2.2.2.2.1
                                 rw [if_pos hg] at hV4
                                 have hVe : (FR, op', true) = visit goal ((a : Int), h2) (afterV x slot h2) (exitsV a x) fr t := by rw [← hV4, HVV.out.1, HQ.out.2, HN.out.2.2.1]
                                 rw [runS_step HO.out.2.2.1 hVe] at hs1
                                 have : FR = R := hs1
                                 rw [← this]
                                 exact hHd.from_
                               rw [HR.out] at HF
                               clear hHd hhb hrw hxb hkd hszc hwx X0 X1 H0 H1 hs4 u0a u0b z0 z1 x0 x1 c9 hg hg1 hg2
                               go_wp2_with fail
                               rw [Exit.noGoto_ret]
                               go_ret
                               exact ⟨_, rfl, HF.out.1, HF.out.2⟩
                             · have hal := Keeps.alloc None wc (.cells #[.int .i64 b, .int .i64 q] 106)
                               have hmm := HL.out.2.2.2.1
                               have hk6 := HM.out.1
                               have hkk := HO.out.2.2.2.2.2.2.1
                               have hbl := blanks_le fr
                               have hfl := HO.out.1.plain.len
                               have hol : op'.length ≤ 100000 := by omega
                               obtain ⟨v5, w5, hr5, hq5', hk5, hn5⟩ := q_more (B + 3) u8 op' ((b : Int), (q : Int)) 108 wc.heap.size (wc.alloc (.cells #[.int .i64 b, .int .i64 q] 106)) (hHd.q.kept hal (fun _ _ f => f)) (by have := blk_lt hHd.from_.blk; simp; omega) hol (heap_alloc_new _ _)
                               have HG1 : Hid (((b : Int) == goal.1 && (q : Int) == goal.2) = false) := pt_ne hg
                               have HP : Hid (Inner w w5 B n H (2 * blanks fr + t.length) fv goal ((a : Int), h2) q L V (.slice (some ⟨g9, 0, none⟩) m9 cp) (j + 1) v5 FR (op' ++ [((b : Int), (q : Int))])) := by
                                 have hkk5 : Keeps (fun k => qBlock u8 = some k) wc w5 := (hal.mono (fun _ f _ => f.elim)).trans hk5 (fun _ e _ => e)
                                 have hV4 := HL.out.2.2.2.2.2.1
                                 rw [if_neg hg] at hV4
                                 refine ⟨hHd.push hq5' hkk5 ⟨by simp, by simpa using hbn, HQ.out.1⟩, hV4.symm, by simp only [List.length_append, List.length_cons, List.length_nil]; omega, blk_kept hhb hkk5 (fun e => HL.out.2.2.2.2.2.2.2.2.2 _ e rfl), hkk5.own hrw (fun g e e2 => ?_), HJ.out.1.rlow, fun g e => ?_⟩
                                 · obtain ⟨c, hc⟩ := own_block hrw e
                                   obtain ⟨_, _, cur, hc2⟩ := hHd.q.low e2
                                   exact blk_ne hc hc2 (by decide) rfl
                                 · rcases hn5 g e with e | e
                                   · exact HL.out.2.2.2.2.2.2.2.2.2 _ e
                                   · simp only [World.size_alloc] at e
                                     have := HL.out.2.2.2.2.2.2.2.2.1
                                     omega
                               clear hHd hhb hrw hxb hkd hszc hwx X0 X1 H0 H1 hs4 u0a u0b z0 z1 x0 x1 c9 hg hal hmm hk6 hkk hbl hfl hol hq5' hk5 hn5
                               by_cases h1 : (b : Int) = goal.1
                               · have h2 : ¬ (q : Int) = goal.2 := fun e => by have := HG1.out; simp [h1, e] at this
                                 rw [← h1] at G0'
                                 clear h1
                                 go_wp2_with (at_builtin; refine wpList_append_run rfl (.tmp 78) (.tmp 80) 108 108 rfl rfl rfl hr5 ?_)
                                 exact ⟨⟨j + 1, FR, op' ++ [((b : Int), (q : Int))], by omega, by simp, HP.out⟩, by simp [intOf]; omega⟩
                               · go_wp2_with (at_builtin; refine wpList_append_run rfl (.tmp 78) (.tmp 80) 108 108 rfl rfl rfl hr5 ?_)
                                 exact ⟨⟨j + 1, FR, op' ++ [((b : Int), (q : Int))], by omega, by simp, HP.out⟩, by simp [intOf]; omega⟩
                     · have i9 : ¬ ((j : Int) < (m9 : Int)) := by omega
                       have hvis : V = (fr', op', false) := by
                         have := hIn.vis
                         rw [List.drop_eq_nil_of_le (by have := HI9.out.2; omega)] at this
                         exact this.symm
                       have HJ : Hid (Inner w wr B n H (2 * blanks fr + t.length) fv goal ((a : Int), h2) q L V (.slice ao m9 cp) j u8 fr' op' ∧ V = (fr', op', false)) := ⟨hIn, hvis⟩
                       clear hIn hvis
                       go_wp2_with fail
                       have hIn := HJ.out.1
                       have hkk := HO.out.2.2.2.2.2.2.1
                       obtain ⟨k', rfl⟩ : ∃ k', k = k' + 1 := ⟨k - 1, by omega⟩
                       have hmm := hIn.meas
                       refine ⟨⟨fr', op', k', hIn.held, by omega, by have := HM.out.1; omega, ?_, L.length, L, hIn.row, hIn.rlow⟩, ?_⟩
                       · have hs1 := HM.out.2
                         have hVe : (fr', op', false) = visit goal ((a : Int), h2) (afterV x slot h2) (exitsV a x) fr t := by rw [← HJ.out.2, HVV.out.1, HQ.out.2, HN.out.2.2.1]
                         rw [runS_step HO.out.2.2.1 hVe] at hs1
                         exact hs1
                       · rw [hIn.held.from_.blank, hIn.held.q.lenS, HO.out.1.from_.blank]
                         show _ < 2 * blanks fr + (t.length + 1)
                         omega
end Go.Proofs.YtoehkjfdaolcnaaDoor
