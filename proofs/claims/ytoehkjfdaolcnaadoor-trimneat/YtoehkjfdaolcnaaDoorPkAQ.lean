import Derived.Test.YtoehkjfdaolcnaaDoorPkAP
import Derived.BigQuiet
import Derived.Deep.QuietTactic
import Derived.Deep.RegionHeld3
import Derived.WalkMore
/-! slotStates: the document's search. -/
namespace Go.Proofs.YtoehkjfdaolcnaaDoor
set_option linter.unusedVariables false
set_option maxRecDepth 20000
open Go.RowKit Go.HeapKit

/-- The inner loop: what is left to visit. -/
structure Vis (w wr : World) (B M n : Nat) (fv : Array Value) (k : Nat) (here : Pt) (st : Int) (L : List Int) (V : List Pt × List Pt × Bool) (lv : Value) (j : Nat) (fr : List Pt) (Q : List Pt) (pv sv : Value) : Prop where
  mem : Srch w wr B M n fv fr (Q.map (·.1)) (Q.map (·.2)) pv sv
  row : wr.ownsRow 0 3 1 lv L.length (L.map (Value.int .i64))
  rne : ∀ g, lv.ownBlock = some g → g ≠ M ∧ pv.ownBlock ≠ some g ∧ sv.ownBlock ≠ some g
  vis : visit (0, 0) here st (L.drop j) fr (Q.drop (k + 1)) = V
  size : Q.length + blanks fr ≤ 2561
  lt : k < Q.length
  seeks : Seeks n fr Q
  bare : Bare n fr
theorem runS_free {f : Fn} {slot : Int} {k : Nat} {fr t : List Pt} {a : Nat} {h2 : Int} {x : Ins} (hx : f.code[a]? = some x) (h3 : h2 = 1 ∨ h2 = 2 ∨ h2 = 4) :
    runS f slot (0, 0) (k + 1) fr (((a : Int), h2) :: t) = runS f slot (0, 0) k (visit (0, 0) ((a : Int), h2) (afterV x slot h2) (exitsV a x) fr t).1 (visit (0, 0) ((a : Int), h2) (afterV x slot h2) (exitsV a x) fr t).2.1 := by
  have hf := visit_free 0 ((a : Int), h2) (afterV x slot h2) (after_st x slot h2 h3) (exitsV a x) fr t
  conv => lhs; unfold runS
  simp only [Int.toNat_natCast, hx]
  generalize visit (0, 0) ((a : Int), h2) (afterV x slot h2) (exitsV a x) fr t = V at *
  obtain ⟨a, b, c⟩ := V
  simp only at hf
  subst hf
  rfl
theorem map_snoc {α β : Type} (f : α → β) (l : List α) (x : α) : (l ++ [x]).map f = l.map f ++ [f x] := by simp
set_option maxHeartbeats 4000000 in
theorem rstates_any (f : Fn) (ca : Option Addr) (cc : Nat) (slot : Int) (w : World) (hC : SeenI w ca f.code.length f.code) (hG : Good f) :
    Calls Tryd.prog 40 #[fnV f ca cc, .int .i64 slot] w fun e w' => ∃ g, e = .returned (.slice (some ⟨g, 0, none⟩) f.code.length f.code.length) ∧ w'.heap[g]? = some (.cells (sums (searchV f slot (0, 0)) f.code.length) 3 (0, 0)) ∧ Keeps None w w' ∧ w.heap.size ≤ g := by
  obtain ⟨n, hn⟩ : ∃ n, n = f.code.length := ⟨_, rfl⟩
  have hN := rnexts_any f
  unfold fnV at *
  rw [← hn] at hC ⊢
  simp only [← hn] at hN
  have HG : Hid (Good f ∧ n = f.code.length ∧ SeenI w ca n f.code) := ⟨hG, hn, hC⟩
  have HN : Hid _ := hN
  have n1 : 1 ≤ n := by have := hG.n1; omega
  have n2 : n ≤ 512 := by have := hG.n2; omega
  clear hG hn hC hN
  obtain ⟨fv, hfv⟩ : ∃ fv : Array Value, fv = #[.int .i64 f.params, .int .i64 f.regs, .int .i64 f.slots, .slice ca n cc] := ⟨_, rfl⟩
  obtain ⟨B, hB⟩ : ∃ B, B = w.heap.size := ⟨_, rfl⟩
  have hmk := row_made_n (w.alloc (.cells #[.int .i64 f.params, .int .i64 f.regs, .int .i64 f.slots, .slice ca n cc] 37)) n n2
  have hsz : (w.alloc (.cells #[.int .i64 f.params, .int .i64 f.regs, .int .i64 f.slots, .slice ca n cc] 37)).heap.size = B + 1 := by rw [hB]; simp
  rw [hsz] at hmk
  have hst : Srch w ((((w.alloc (.cells #[.int .i64 f.params, .int .i64 f.regs, .int .i64 f.slots, .slice ca n cc] 37)).alloc (.cells ((List.range n).map (fun _ => Value.int .i64 0)).toArray 3)).alloc (.cells #[.int .i64 0] 3)).alloc (.cells #[.int .i64 1] 3) |>.setCell ⟨B + 1, 0, none⟩ (.int .i64 1)) B (B + 1) n fv (fr0 n) [0] [1] (.slice (some ⟨B + 2, 0, none⟩) 1 1) (.slice (some ⟨B + 3, 0, none⟩) 1 1) := by
    generalize hw1 : w.alloc (.cells #[.int .i64 f.params, .int .i64 f.regs, .int .i64 f.slots, .slice ca n cc] 37) = w1 at *
    have b0 : w1.heap[B]? = some (.cells fv 37 (0, 0)) := by rw [← hw1, hB, hfv]; exact heap_alloc_new w _
    have k1 : Keeps None w w1 := by rw [← hw1]; exact Keeps.alloc None w _
    generalize hw2 : w1.alloc (.cells ((List.range n).map (fun _ => Value.int .i64 0)).toArray 3) = w2
    have b1 : w2.heap[B + 1]? = some (.cells ((List.range n).map (fun _ => Value.int .i64 0)).toArray 3 (0, 0)) := by rw [← hw2, ← hsz]; exact heap_alloc_new w1 _
    have s2 : w2.heap.size = B + 2 := by rw [← hw2]; simp [hsz]
    have k2 : Keeps None w1 w2 := by rw [← hw2]; exact Keeps.alloc None w1 _
    generalize hw3 : w2.alloc (.cells #[.int .i64 0] 3) = w3
    have r3 := row_built w2 [0] 1 rfl (by simp)
    have s3 : w3.heap.size = B + 3 := by rw [← hw3]; simp [s2]
    have k3 : Keeps None w2 w3 := by rw [← hw3]; exact Keeps.alloc None w2 _
    generalize hw4 : w3.alloc (.cells #[.int .i64 1] 3) = w4
    have r4 := row_built w3 [1] 1 rfl (by simp)
    have k4 : Keeps None w3 w4 := by rw [← hw4]; exact Keeps.alloc None w3 _
    have k5 : Keeps (· = B + 1) w4 (w4.setCell ⟨B + 1, 0, none⟩ (.int .i64 1)) := Keeps.setCell (S := (· = B + 1)) w4 rfl _
    simp only [List.map_cons, List.map_nil] at r3 r4
    rw [hw3, s2] at r3
    rw [hw4, s3] at r4
    have k34 := k3.trans k4 (fun _ f _ => f)
    have k24 := k2.trans k34 (fun _ f _ => f)
    have hmet : w4.heap[B + 1]? = some (.cells ((List.range n).map (fun _ => Value.int .i64 0)).toArray 3 (0, 0)) := blk_kept b1 k34 (fun f => f)
    refine ⟨(k1.trans k24 (fun _ f _ => f)).trans k5 (fun i e hi => by omega), blk_kept (blk_kept b0 k24 (fun f => f)) k5 (by omega), ?_, k5.own (k4.own r3 (fun _ _ f => f)) (fun g e q => by simp [Value.ownBlock] at e; omega), k5.own r4 (fun g e q => by simp [Value.ownBlock] at e; omega), by omega, by omega, by simp [Value.ownBlock], by simp [Value.ownBlock], fun g e q => by simp [Value.ownBlock] at e q; omega, fun g e => by simp [Value.ownBlock] at e; omega, fun g e => by simp [Value.ownBlock] at e; omega⟩
    rw [blk_set hmet, range_set]
    congr 3
    apply List.map_congr_left
    intro j hj
    rw [sum_fr0 n n1 j (List.mem_range.1 hj)]
    by_cases e : j = 0 <;> simp [e]
  have HS : Hid _ := hst
  have hm0 : ((((w.alloc (.cells #[.int .i64 f.params, .int .i64 f.regs, .int .i64 f.slots, .slice ca n cc] 37)).alloc (.cells ((List.range n).map (fun _ => Value.int .i64 0)).toArray 3)).alloc (.cells #[.int .i64 0] 3)).alloc (.cells #[.int .i64 1] 3)).heap[B + 1]? = some (.cells ((List.range n).map (fun _ => Value.int .i64 0)).toArray 3 (0, 0)) := by
    have := heap_alloc_new (w.alloc (.cells #[.int .i64 f.params, .int .i64 f.regs, .int .i64 f.slots, .slice ca n cc] 37)) (.cells ((List.range n).map (fun _ => Value.int .i64 0)).toArray 3)
    rw [hsz] at this
    exact blk_kept (blk_kept this (Keeps.alloc None _ _) (fun f => f)) (Keeps.alloc None _ _) (fun f => f)
  have m0 := blk_cell hm0 0
  rw [range_at n 0 _ (by omega)] at m0
  have z0 := blk_free hm0 0
  have i1 : (0 : Int) < (n : Int) := by omega
  have HB : Hid (B = w.heap.size) := hB
  have HF : Hid _ := hfv
  clear hst hm0 hsz hB
  go_enter Tryd.func40, Tryd.ntmps40
  go_upto_region 2 with (at_make; refine wpList_make_run rfl (.tmp 15) (.tmp 15) 56 rfl rfl rfl hmk ?_)
  go_upto_region 5 with fail
  rw [← HB.out]
  clear hmk m0 z0 hfv
  generalize ((((w.alloc (.cells #[.int .i64 f.params, .int .i64 f.regs, .int .i64 f.slots, .slice ca n cc] 37)).alloc (.cells ((List.range n).map (fun _ => Value.int .i64 0)).toArray 3)).alloc (.cells #[.int .i64 0] 3)).alloc (.cells #[.int .i64 1] 3) |>.setCell ⟨B + 1, 0, none⟩ (.int .i64 1)) = W at *
  obtain ⟨R, hR⟩ : ∃ R, R = searchV f slot (0, 0) := ⟨_, rfl⟩
  have HR : Hid (R = searchV f slot (0, 0)) := hR
  clear hR
  go_wp2_with fail
  go_loopw [6, 7, 8] (fun s6 s7 s8 wr => ∃ (k fuel : Nat) (fr Q : List Pt), s8 = .int .i64 k ∧ Srch w wr B (B + 1) n fv fr (Q.map (·.1)) (Q.map (·.2)) s6 s7 ∧ k ≤ Q.length ∧ Q.length + blanks fr ≤ 2561 ∧ 2 * blanks fr + (Q.length - k) ≤ fuel ∧ runS f slot (0, 0) fuel fr (Q.drop k) = R ∧ Seeks n fr Q ∧ Bare n fr) (fun _ _ s8 _ => 3000 - (intOf s8).toNat)
  case atStart =>
    refine ⟨0, n * 10 + 2, fr0 n, [(0, 1)], rfl, HS.out, by simp, ?_, ?_, ?_, ⟨fr0_len n, ?_⟩, fr0_bare n n1⟩
    · have := blanks_le (fr0 n)
      have h5 := fr0_len n
      have h6 := fr0_bare n n1
      simp only [List.length_cons, List.length_nil]
      omega
    · have := blanks_le (fr0 n)
      have h5 := fr0_len n
      simp only [List.length_cons, List.length_nil]
      omega
    · rw [HR.out]
      unfold searchV
      rw [← HG.out.2.1]
      rfl
    · intro p hp
      simp at hp
      subst hp
      exact ⟨by simp, by simp; omega, .inl rfl⟩
  case round =>
    obtain ⟨k, fuel, fr, Q, rfl, hS, hkQ, hsz, hfuel, hrun, hSk, hBr⟩ := hrel
    by_cases hlt : k < Q.length
    · obtain ⟨⟨h1, h2⟩, hq⟩ : ∃ q, Q[k]? = some q := ⟨Q[k], by simp⟩
      have hPt := hSk.op _ (List.mem_of_getElem? hq)
      obtain ⟨ha0, ha1, hst3⟩ := hPt
      simp only at ha0 ha1 hst3
      obtain ⟨a, rfl⟩ := Int.eq_ofNat_of_zero_le ha0
      have han : a < n := by omega
      have hl1 : (Q.map (·.1)).length = Q.length := by simp
      have hl2 : (Q.map (·.2)).length = Q.length := by simp
      obtain ⟨gp, cp, hpv, hpc⟩ := row_cell hS.pl (k := k) (x := (a : Int)) (by simp [hq])
      obtain ⟨gs, cs, hsv, hsc⟩ := row_cell hS.st (k := k) (x := h2) (by simp [hq])
      rw [hl1] at hpv
      rw [hl2] at hsv
      subst hpv
      subst hsv
      obtain ⟨bI, oI, x, rfl, hx, hat⟩ := (HG.out.2.2.more hS.keep).at han
      have hbx := hS.box
      rw [HF.out] at hbx
      obtain ⟨fuel', hfl⟩ : ∃ fuel', fuel = fuel' + 1 := ⟨fuel - 1, by omega⟩
      subst hfl
      have hdrop : Q.drop k = ((a : Int), h2) :: Q.drop (k + 1) := by
        rw [List.drop_eq_getElem_cons hlt]
        congr 1
        rw [List.getElem?_eq_getElem hlt] at hq
        exact Option.some.inj hq
      rw [hdrop] at hrun
      rw [runS_free hx hst3] at hrun
      obtain ⟨V, hV⟩ : ∃ V, V = visit (0, 0) ((a : Int), h2) (afterV x slot h2) (exitsV a x) fr (Q.drop (k + 1)) := ⟨_, rfl⟩
      rw [← hV] at hrun
      have hst := after_st x slot h2 hst3
      have hkd := HG.out.1.kind a x hx
      have hways := HG.out.1.ways a x hx
      rw [← HG.out.2.1] at hways
      have HO : Hid (Srch w wr B (B + 1) n fv fr (Q.map (·.1)) (Q.map (·.2)) (.slice (some ⟨gp, 0, none⟩) Q.length cp) (.slice (some ⟨gs, 0, none⟩) Q.length cs) ∧ k < Q.length ∧ Q.length + blanks fr ≤ 2561 ∧ 2 * blanks fr + (Q.length - k) ≤ fuel' + 1 ∧ Seeks n fr Q ∧ Bare n fr ∧ (h2 = 1 ∨ h2 = 2 ∨ h2 = 4) ∧ f.code[a]? = some x ∧ (0 ≤ x.kind ∧ x.kind < 10)) := ⟨hS, hlt, hsz, hfuel, hSk, hBr, hst3, hx, hkd⟩
      have HRU : Hid _ := hrun
      have HVV : Hid _ := hV
      have HWY : Hid _ := hways
      have haf : ∀ wx, Calls Tryd.prog 64 #[.agg #[.int .i64 x.kind, .int .i64 x.a, .int .i64 x.b, .int .i64 x.c, .int .i64 x.k], .int .i64 slot, .int .i64 h2] wx fun e w' => e = .returned (.int .i64 (afterV x slot h2)) ∧ Keeps None wx w' := fun wx => rafter_any x slot h2 wx
      generalize hST : afterV x slot h2 = st at *
      have HST : Hid _ := hST
      have c3 : wr.cell? ⟨B, 3, none⟩ = some (.slice (some ⟨bI, oI, none⟩) n cc) := (cell_of_heap hbx 3).trans rfl
      have y := hat
      obtain ⟨y0, y1, y2, y3, y4⟩ := y
      have j1 : (k : Int) < (Q.length : Int) := by omega
      have j2 : (a : Int) < (n : Int) := by omega
      have j3 : Q.length ≤ 2561 := by omega
      obtain ⟨I, hI⟩ : ∃ I, I = wr.heap.size := ⟨_, rfl⟩
      have HI : Hid (I = wr.heap.size) := hI
      have HAF : Hid _ := haf
      clear hS hsz hfuel hSk hBr hst3 hx hkd hrun hV hways hbx hat hq hdrop haf hST hlt hkQ ha0 ha1 hI hl1 hl2
      generalize hql : Q.length = ql at *
      have HQL : Hid _ := hql
      clear hql
      go_upto_region 8 with fail
      go_cut [9] (fun s9 wx => s9 = .pointer (some ⟨I, 0, none⟩) ∧ wx.heap[I]? = some (.cells #[.int .i64 x.kind, .int .i64 x.a, .int .i64 x.b, .int .i64 x.c, .int .i64 x.k] 39 (0, 0)) ∧ Keeps None wr wx)
      case first =>
        go_region_held3 (fun w' => w'.cell? ⟨B, 3, none⟩ = some (.slice (some ⟨bI, oI, none⟩) n cc) ∧ w'.cell? ⟨gp, k, none⟩ = some (.int .i64 (a : Int)) ∧ w'.cell? ⟨bI, oI + a * 5, none⟩ = some (.int .i64 x.kind) ∧ w'.cell? ⟨bI, oI + a * 5 + 1, none⟩ = some (.int .i64 x.a) ∧ w'.cell? ⟨bI, oI + a * 5 + 2, none⟩ = some (.int .i64 x.b) ∧ w'.cell? ⟨bI, oI + a * 5 + 3, none⟩ = some (.int .i64 x.c) ∧ w'.cell? ⟨bI, oI + a * 5 + 4, none⟩ = some (.int .i64 x.k)) (go_keep) (fail)
        all_goals go_wp2_with fail
        all_goals go_meet
        all_goals
          rw [HI.out]
          exact ⟨rfl, blk_kept (heap_alloc_new wr _) (Keeps.drew None _) (fun f => f), (Keeps.alloc None wr _).andDrew⟩
      case rest =>
        obtain ⟨rfl, hib, hkA⟩ := hcut
        have hSa := HO.out.1.more hkA
        have q0 : wc.cell? ⟨I, 0, none⟩ = some (.int .i64 x.kind) := (cell_of_heap hib 0).trans rfl
        have q1 : wc.cell? ⟨I, 1, none⟩ = some (.int .i64 x.a) := (cell_of_heap hib 1).trans rfl
        have q2 : wc.cell? ⟨I, 2, none⟩ = some (.int .i64 x.b) := (cell_of_heap hib 2).trans rfl
        have q3 : wc.cell? ⟨I, 3, none⟩ = some (.int .i64 x.c) := (cell_of_heap hib 3).trans rfl
        have q4 : wc.cell? ⟨I, 4, none⟩ = some (.int .i64 x.k) := (cell_of_heap hib 4).trans rfl
        have hsc2 := hkA.cell hsc (fun f => f)
        have HA : Hid (Srch w wc B (B + 1) n fv fr (Q.map (·.1)) (Q.map (·.2)) (.slice (some ⟨gp, 0, none⟩) ql cp) (.slice (some ⟨gs, 0, none⟩) ql cs) ∧ wc.cell? ⟨gp, k, none⟩ = some (.int .i64 (a : Int))) := ⟨hSa, hkA.cell hpc (fun f => f)⟩
        clear hib hkA hSa c3 y0 y1 y2 y3 y4 hpc hsc
        go_upto_region 9 with fail
        go_cut [10] (fun s10 wx => s10 = .int .i64 st ∧ Keeps None wc wx)
        case first =>
          go_region_held3 (fun w' => w'.cell? ⟨I, 0, none⟩ = some (.int .i64 x.kind) ∧ w'.cell? ⟨I, 1, none⟩ = some (.int .i64 x.a) ∧ w'.cell? ⟨I, 2, none⟩ = some (.int .i64 x.b) ∧ w'.cell? ⟨I, 3, none⟩ = some (.int .i64 x.c) ∧ w'.cell? ⟨I, 4, none⟩ = some (.int .i64 x.k) ∧ w'.cell? ⟨gs, k, none⟩ = some (.int .i64 h2)) (first | go_keep | with_reducible exact hS5) ((go_at_call 64; refine (HAF.out _).mono ?_; rintro _ w4 ⟨rfl, hk4⟩; have hkP : Keeps None wc w4 := (Keeps.drew None wc).trans hk4 (fun _ f _ => f); have hS5 := And.intro (hkP.cell q0 (fun f => f)) (And.intro (hkP.cell q1 (fun f => f)) (And.intro (hkP.cell q2 (fun f => f)) (And.intro (hkP.cell q3 (fun f => f)) (And.intro (hkP.cell q4 (fun f => f)) (hkP.cell hsc2 (fun f => f))))))))
          all_goals (go_wp2_with fail; go_meet)
          all_goals exact ⟨rfl, ((Keeps.drew None wc)).trans hk4 (fun _ f _ => f)⟩
        case rest =>
          obtain ⟨rfl, hkB⟩ := hcut
          have hSb := HA.out.1.more hkB
          have hbx := hSb.box
          rw [HF.out] at hbx
          have d0 : wc.cell? ⟨B, 0, none⟩ = some (.int .i64 f.params) := (cell_of_heap hbx 0).trans rfl
          have d1 : wc.cell? ⟨B, 1, none⟩ = some (.int .i64 f.regs) := (cell_of_heap hbx 1).trans rfl
          have d2 : wc.cell? ⟨B, 2, none⟩ = some (.int .i64 f.slots) := (cell_of_heap hbx 2).trans rfl
          have d3 : wc.cell? ⟨B, 3, none⟩ = some (.slice (some ⟨bI, oI, none⟩) n cc) := (cell_of_heap hbx 3).trans rfl
          have d4 := hkB.cell HA.out.2 (fun f => f)
          have hnx : ∀ wx, Keeps None wc wx → Calls Tryd.prog 65 #[.agg #[.int .i64 f.params, .int .i64 f.regs, .int .i64 f.slots, .slice (some ⟨bI, oI, none⟩) n cc], .int .i64 (a : Int)] wx fun e w' => ∃ v, e = .returned v ∧ NewRow wx v w' (exitsV a x) := fun wx hk => HN.out _ cc a x wx (HG.out.2.2.more (hSb.keep.trans hk (fun _ f _ => f))) HO.out.2.2.2.2.2.2.2.1 HO.out.2.2.2.2.2.2.2.2 n2
          have HB2 : Hid _ := hSb
          have HNX : Hid _ := hnx
          clear hbx hSb hkB q0 q1 q2 q3 q4 hsc2 hnx
          go_upto_region 10 with fail
          go_cut [11] (fun s11 wx => NewRow wc s11 wx (exitsV a x))
          case first =>
            go_region_held3 (fun w' => w'.cell? ⟨B, 0, none⟩ = some (.int .i64 f.params) ∧ w'.cell? ⟨B, 1, none⟩ = some (.int .i64 f.regs) ∧ w'.cell? ⟨B, 2, none⟩ = some (.int .i64 f.slots) ∧ w'.cell? ⟨B, 3, none⟩ = some (.slice (some ⟨bI, oI, none⟩) n cc) ∧ w'.cell? ⟨gp, k, none⟩ = some (.int .i64 (a : Int))) (first | go_keep | with_reducible exact hS5) ((go_at_call 65; refine (HNX.out _ (Keeps.drew None _)).mono ?_; rintro _ w4 ⟨v4, rfl, hk4⟩; have hkP : Keeps None wc w4 := (Keeps.drew None wc).trans hk4.keep (fun _ f _ => f); have hS5 := And.intro (hkP.cell d0 (fun f => f)) (And.intro (hkP.cell d1 (fun f => f)) (And.intro (hkP.cell d2 (fun f => f)) (And.intro (hkP.cell d3 (fun f => f)) (hkP.cell d4 (fun f => f)))))))
            all_goals (go_wp2_with fail; go_meet)
            all_goals exact ⟨hk4.own, (Keeps.drew None wc).trans hk4.keep (fun _ f _ => f), hk4.low⟩
          case rest =>
            have hrow := hcut
            obtain ⟨L, hL⟩ : ∃ L, L = exitsV a x := ⟨_, rfl⟩
            rw [← hL] at hrow
            have hv0 : visit (0, 0) ((a : Int), h2) st L fr (Q.drop (k + 1)) = V := by rw [hL]; exact HVV.out.symm
            have hw0 : ∀ y ∈ L, 0 ≤ y ∧ y < n := by rw [hL]; exact HWY.out
            have hvis : Vis w wc B (B + 1) n fv k ((a : Int), h2) st L V u11 0 fr Q (.slice (some ⟨gp, 0, none⟩) ql cp) (.slice (some ⟨gs, 0, none⟩) ql cs) := by
              have hO := HO.out
              have hB2 := HB2.out
              refine ⟨hB2.more hrow.keep, hrow.own, fun g e => ?_, hv0, by have := hO.2.2.1; rw [HQL.out]; exact this, by have := hO.2.1; rw [HQL.out]; exact this, hO.2.2.2.2.1, hO.2.2.2.2.2.1⟩
              have hg := hrow.low g e
              refine ⟨fun q => ?_, fun q => ?_, fun q => ?_⟩
              · have := blk_lt hB2.met; omega
              · have := own_lt hB2.pl q; omega
              · have := own_lt hB2.st q; omega
            have hL3 : L.length ≤ 3 := by rw [hL]; exact exits_len _ _
            have vok := visit_ok n (0, 0) ((a : Int), h2) st hst (by simp only; have := HO.out.2.2.2.2.2.2.1; omega) L fr (Q.drop (k + 1)) hw0 ⟨HO.out.2.2.2.2.1.len, fun p hp => HO.out.2.2.2.2.1.op p (List.mem_of_mem_drop hp)⟩
            rw [hv0] at vok
            have HVO : Hid (2 * blanks V.1 + V.2.1.length ≤ fuel') := by
              show 2 * blanks V.1 + V.2.1.length ≤ fuel'
              have h1 := vok.2
              have h2 := HO.out.2.2.2.1
              have h3 := HO.out.2.1
              have h4 := HQL.out
              simp only [List.length_drop] at h1
              omega
            have HVS : Hid _ := hvis
            have HW0 : Hid _ := hw0
            have HK9 : Hid (k < ql ∧ ql ≤ 2561) := ⟨HO.out.2.1, by omega⟩
            have HH2 : Hid (h2 ≠ 0) := by have := HO.out.2.2.2.2.2.2.1; show h2 ≠ 0; omega
            clear hv0 hw0 hvis vok hrow hcut hL HB2 HNX HAF HN HO HVV HWY d0 d1 d2 d3 d4 HA
            go_wp2_with fail
            go_loopw [6, 7, 12] (fun s6 s7 s12 wx => ∃ (j : Nat) (fr' Q' : List Pt), s12 = .int .i64 j ∧ j ≤ L.length ∧ Vis w wx B (B + 1) n fv k ((a : Int), h2) st L V u11 j fr' Q' s6 s7) (fun _ _ s12 _ => L.length - (intOf s12).toNat)
            case atStart => exact ⟨0, fr, Q, rfl, Nat.zero_le _, HVS.out⟩
            case round =>
              obtain ⟨j, fr', Q', rfl, hjL, hv⟩ := hrel
              clear HVS
              by_cases hj : j < L.length
              · obtain ⟨y, hy⟩ : ∃ y, L[j]? = some y := ⟨L[j], by simp⟩
                have hyb := HW0.out y (List.mem_of_getElem? hy)
                obtain ⟨c, rfl⟩ := Int.eq_ofNat_of_zero_le hyb.1
                have hcn : c < n := by omega
                obtain ⟨gl, cl, hlv, hlc⟩ := row_cell hv.row hy
                have hok : PtOk n ((c : Int), st) := ⟨by simp, by simp; omega, hst⟩
                have hmc : wr.cell? ⟨B + 1, c, none⟩ = some (.int .i64 (sumAt fr' c)) := by rw [blk_cell hv.mem.met]; exact range_at n c _ hcn
                have hmf := blk_free hv.mem.met c
                have hz := and_met hv.bare c hcn st hst
                have h7 : 0 ≤ sumAt fr' c ∧ sumAt fr' c ≤ 7 := sum_seven hv.bare c hcn
                have hdr : visit (0, 0) ((a : Int), h2) st ((c : Int) :: L.drop (j + 1)) fr' (Q'.drop (k + 1)) = V := by
                  have := hv.vis
                  rw [List.drop_eq_getElem_cons hj] at this
                  rw [List.getElem?_eq_getElem hj] at hy
                  rw [Option.some.inj hy] at this
                  exact this
                unfold visit at hdr
                have l1 : (c : Int) < (n : Int) := by omega
                have l2 : (j : Int) < (L.length : Int) := by omega
                cases hm : metV fr' ((c : Int), st) with
                | true =>
                  rw [hm] at hz
                  rw [if_pos hm] at hdr
                  have NX : Hid (Vis w wr B (B + 1) n fv k ((a : Int), h2) st L V u11 (j + 1) fr' Q' u6 u7) := ⟨hv.mem, hv.row, hv.rne, hdr, hv.size, hv.lt, hv.seeks, hv.bare⟩
                  generalize sumAt fr' c = x1 at *
                  obtain ⟨LL, hLL⟩ : ∃ LL, LL = L.length := ⟨_, rfl⟩
                  rw [← hLL] at hlv l2 hjL ⊢
                  have HLL : Hid _ := hLL
                  subst hlv
                  clear hv hdr hm hyb hy hok hLL
                  go_wp2_with fail
                  refine ⟨⟨j + 1, fr', Q', by simp, by omega, NX.out⟩, ?_⟩
                  simp [intOf]
                  omega
                | false =>
                  rw [hm] at hz
                  rw [if_neg (by rw [hm]; simp)] at hdr
                  have hne0 : ¬ ((c : Int), st) = ((0 : Int), (0 : Int)) := by simp; omega
                  rw [if_neg hne0] at hdr
                  have hmk := hv.mem.mark hv.bare hv.seeks.len hok (here := ((a : Int), h2)) HH2.out hm
                  have hkM : Keeps (· = B + 1) wr (wr.setCell ⟨B + 1, c, none⟩ (.int .i64 (sumAt fr' c + st))) := Keeps.setCell (S := (· = B + 1)) wr rfl _
                  have hrw := hkM.own hv.row (fun g e q => (hv.rne g e).1 q)
                  have hbl := blanks_set (h := ((a : Int), h2)) (by rw [hv.seeks.len]; exact ptIx_lt hok) (by unfold metV at hm; simpa using hm) HH2.out
                  have hvs := hv.size
                  have hvl := hv.lt
                  have hse : Seeks n (fr'.set (ptIx ((c : Int), st)) ((a : Int), h2)) (Q' ++ [((c : Int), st)]) := ⟨by simpa using hv.seeks.len, fun p hp => by
                    rcases List.mem_append.1 hp with h1 | h1
                    · exact hv.seeks.op p h1
                    · simp at h1; subst h1; exact hok⟩
                  have hba := hv.bare.set hok (here := ((a : Int), h2))
                  have hdq : Q'.drop (k + 1) ++ [((c : Int), st)] = (Q' ++ [((c : Int), st)]).drop (k + 1) := by rw [List.drop_append_of_le_length (by omega)]
                  rw [hdq] at hdr
                  obtain ⟨FR, hFR⟩ : ∃ FR, FR = fr'.set (ptIx ((c : Int), st)) ((a : Int), h2) := ⟨_, rfl⟩
                  rw [← hFR] at hdr hmk hbl hse hba
                  have HM : Hid (Srch w (wr.setCell ⟨B + 1, c, none⟩ (.int .i64 (sumAt fr' c + st))) B (B + 1) n fv FR (Q'.map (·.1)) (Q'.map (·.2)) u6 u7 ∧ (wr.setCell ⟨B + 1, c, none⟩ (.int .i64 (sumAt fr' c + st))).ownsRow 0 3 1 u11 L.length (L.map (Value.int .i64)) ∧ (∀ g, u11.ownBlock = some g → g ≠ B + 1 ∧ u6.ownBlock ≠ some g ∧ u7.ownBlock ≠ some g)) := ⟨hmk, hrw, hv.rne⟩
                  have HD : Hid (visit (0, 0) ((a : Int), h2) st (L.drop (j + 1)) FR ((Q' ++ [((c : Int), st)]).drop (k + 1)) = V ∧ (Q' ++ [((c : Int), st)]).length + blanks FR ≤ 2561 ∧ k < (Q' ++ [((c : Int), st)]).length ∧ Seeks n FR (Q' ++ [((c : Int), st)]) ∧ Bare n FR ∧ Q'.length ≤ 2561) := ⟨hdr, by simp only [List.length_append, List.length_cons, List.length_nil]; omega, by simp only [List.length_append, List.length_cons, List.length_nil]; omega, hse, hba, by omega⟩
                  have hi : L[j]? = some (c : Int) := hy
                  have e15 : IntKind.i64.wrap (sumAt fr' c + st) = sumAt fr' c + st := Go.IntWalk.i64_in _ (by omega)
                  generalize sumAt fr' c = x1 at *
                  obtain ⟨LL, hLL⟩ : ∃ LL, LL = L.length := ⟨_, rfl⟩
                  rw [← hLL] at hlv l2 hjL HM ⊢
                  have HLL : Hid _ := hLL
                  have HYY : Hid _ := hi
                  subst hlv
                  clear hv hdr hm hyb hy hok hLL hi hmk hkM hrw hbl hvs hvl hse hba hdq hFR hne0
                  go_upto_region 15 with fail
                  go_cut [10] (fun s10 wx => s10 = .int .i64 st ∧ Srch w wx B (B + 1) n fv FR (Q'.map (·.1)) (Q'.map (·.2)) u6 u7 ∧ wx.ownsRow 0 3 1 (.slice (some ⟨gl, 0, none⟩) LL cl) LL (L.map (Value.int .i64)) ∧ wx.cell? ⟨gl, j, none⟩ = some (.int .i64 (c : Int)))
                  case first =>
                    go_region
                    all_goals go_wp2_with fail
                    all_goals go_meet
                    all_goals
                      have hd := Keeps.drew None (wr.setCell ⟨B + 1, c, none⟩ (.int .i64 (x1 + st)))
                      refine ⟨rfl, HM.out.1.more hd, hd.own HM.out.2.1 (fun _ _ f => f), ?_⟩
                      have hne := (HM.out.2.2 gl rfl).1
                      exact (((Keeps.setCell (S := (· = B + 1)) wr (a := ⟨B + 1, c, none⟩) rfl (.int .i64 (x1 + st))).andDrew).cell hlc hne)
                  case rest =>
                    obtain ⟨rfl, hS5, hr5, hl5⟩ := hcut
                    have hq1 : (Q'.map (·.1)).length = Q'.length := by simp
                    have hq2 : (Q'.map (·.2)).length = Q'.length := by simp
                    have hQ6 := HD.out.2.2.2.2.2
                    have hS6 := hS5.more (Keeps.alloc None wc (.cells #[.int .i64 (c : Int)] 3))
                    obtain ⟨g1, c1, w1, hrn1, ho1, hk1, hg1⟩ := int_more 0 u6 (Q'.map (·.1)) (c : Int) Q'.length 56 wc.heap.size (wc.alloc (.cells #[.int .i64 (c : Int)] 3)) hq1.symm (by have := hS6.pl; rw [hq1] at this; exact this) (Nat.zero_le _) (by omega) (heap_alloc_new _ _)
                    have hS7 := hS6.pushP (x := (c : Int)) (m := Q'.length + 1) (by simp) ho1 hk1 hg1
                    have hS8 := hS7.more (Keeps.alloc None w1 (.cells #[.int .i64 st] 3))
                    obtain ⟨g2, c2, w2, hrn2, ho2, hk2, hg2⟩ := int_more 0 u7 (Q'.map (·.2)) st Q'.length 56 w1.heap.size (w1.alloc (.cells #[.int .i64 st] 3)) hq2.symm (by have := hS8.st; rw [hq2] at this; exact this) (Nat.zero_le _) (by omega) (heap_alloc_new _ _)
                    have hS9 := hS8.pushS (x := st) (m := Q'.length + 1) (by simp) ho2 hk2 hg2
                    have hne := HM.out.2.2 gl rfl
                    have gl5 := own_lt hr5 (g := gl) rfl
                    have hr9 : w2.ownsRow 0 3 1 (.slice (some ⟨gl, 0, none⟩) LL cl) LL (L.map (Value.int .i64)) := by
                      refine hk2.own ((Keeps.alloc None w1 _).own (hk1.own ((Keeps.alloc None wc _).own hr5 (fun _ _ f => f)) (fun g e q => ?_)) (fun _ _ f => f)) (fun g e q => ?_)
                      · simp [Value.ownBlock] at e; subst e; exact hne.2.1 q
                      · simp [Value.ownBlock] at e; subst e; exact hne.2.2 q
                    have sz1 := hk1.size
                    simp only [World.size_alloc] at sz1 hg1 hg2
                    have NX : Hid (Vis w w2 B (B + 1) n fv k ((a : Int), h2) st L V (.slice (some ⟨gl, 0, none⟩) LL cl) (j + 1) FR (Q' ++ [((c : Int), st)]) (.slice (some ⟨g1, 0, none⟩) (Q'.length + 1) c1) (.slice (some ⟨g2, 0, none⟩) (Q'.length + 1) c2)) := by
                      refine ⟨by rw [map_snoc, map_snoc]; exact hS9, by rw [← HLL.out]; exact hr9, fun g e => ?_, HD.out.1, HD.out.2.1, HD.out.2.2.1, HD.out.2.2.2.1, HD.out.2.2.2.2.1⟩
                      simp [Value.ownBlock] at e
                      subst e
                      refine ⟨hne.1, fun q => ?_, fun q => ?_⟩
                      · simp [Value.ownBlock] at q
                        subst q
                        rcases hg1 with q | q
                        · exact hne.2.1 q
                        · omega
                      · simp [Value.ownBlock] at q
                        subst q
                        rcases hg2 with q | q
                        · exact hne.2.2 q
                        · omega
                    clear hS5 hr5 hS6 ho1 hk1 hg1 hS7 hS8 ho2 hk2 hg2 hS9 hr9 hmc hmf hz hlc
                    go_upto_region 17 with (at_builtin; refine wpList_append_run rfl (.tmp 79) (.tmp 84) 56 56 rfl rfl rfl hrn1 ?_)
                    go_wp2_with (at_builtin; refine wpList_append_run rfl (.tmp 86) (.tmp 88) 56 56 rfl rfl rfl hrn2 ?_)
                    refine ⟨⟨j + 1, FR, Q' ++ [((c : Int), st)], by simp, by omega, NX.out⟩, ?_⟩
                    simp [intOf]
                    omega
              · have hnl : L.drop j = [] := List.drop_eq_nil_of_le (by omega)
                have hvv := hv.vis
                rw [hnl] at hvv
                have hvV : V = (fr', Q'.drop (k + 1), false) := by rw [← hvv]; rfl
                have HE : Hid (Srch w wr B (B + 1) n fv fr' (Q'.map (·.1)) (Q'.map (·.2)) u6 u7 ∧ k + 1 ≤ Q'.length ∧ Q'.length + blanks fr' ≤ 2561 ∧ 2 * blanks fr' + (Q'.length - (k + 1)) ≤ fuel' ∧ runS f slot (0, 0) fuel' fr' (Q'.drop (k + 1)) = R ∧ Seeks n fr' Q' ∧ Bare n fr') := by
                  have h1 := HVO.out
                  have h2 := HRU.out
                  rw [hvV] at h1 h2
                  simp only [List.length_drop] at h1
                  exact ⟨hv.mem, hv.lt, hv.size, h1, h2, hv.seeks, hv.bare⟩
                obtain ⟨la, lc, hlv⟩ : ∃ la lc, u11 = .slice la L.length lc := by
                  rcases hv.row.2 with ⟨rfl, h0⟩ | ⟨g, cap, cur, rfl, _⟩
                  · exact ⟨none, 0, by rw [h0]⟩
                  · exact ⟨_, cap, rfl⟩
                have l2 : ¬ (j : Int) < (L.length : Int) := by omega
                obtain ⟨LL, hLL⟩ : ∃ LL, LL = L.length := ⟨_, rfl⟩
                rw [← hLL] at hlv l2
                subst hlv
                clear hv hvv hvV hnl hLL
                go_wp2_with fail
                refine ⟨⟨k + 1, fuel', fr', Q', by simp, HE.out⟩, ?_⟩
                have := HK9.out
                simp [intOf]
                omega
    · have hdrop : Q.drop k = [] := List.drop_eq_nil_of_le (by omega)
      rw [hdrop] at hrun
      have hRfr : fr = R := by rw [← hrun]; cases fuel <;> rfl
      rw [HR.out] at hRfr
      subst hRfr
      have HFI : Hid (wr.heap[B + 1]? = some (.cells (sums (searchV f slot (0, 0)) n) 3 (0, 0)) ∧ Keeps None w wr ∧ w.heap.size ≤ B + 1) := ⟨hS.met, hS.keep, hS.lowM⟩
      obtain ⟨pg, pc, hpv⟩ : ∃ a c, u6 = .slice a Q.length c := by
        have := hS.pl
        simp only [List.length_map] at this
        rcases this.2 with ⟨rfl, h0⟩ | ⟨g, cap, cur, rfl, _⟩
        · exact ⟨none, 0, by rw [h0]⟩
        · exact ⟨_, cap, rfl⟩
      subst hpv
      have i2 : ¬ (k : Int) < (Q.length : Int) := by omega
      clear hS hsz hfuel hrun hSk hBr hdrop hkQ
      go_wp2_with fail
      go_ret
      exact ⟨B + 1, rfl, HFI.out⟩
end Go.Proofs.YtoehkjfdaolcnaaDoor
