import Derived.Test.YtheginjjncnheaaHoGo
import Derived.Laws.Tables
/-! The search for an order: the walk of 'goOn'. -/
namespace Go.Proofs.Ytheginjjncnheaa
set_option linter.unusedVariables false
set_option maxRecDepth 20000
set_option linter.unusedSimpArgs false
open Go.RowKit Go.HeapKit

theorem bld (na nb nc nd most : Int) (va : Option Addr) (vn vc : Nat) (w : World) : (Instr.build 64 #[(0, .agg #[.int .i64 na, .int .i64 nb, .int .i64 nc, .int .i64 nd]), (1, .agg #[.int .i64 most, .slice va vn vc])]).run Try.prog w = .ok (.agg #[.int .i64 na, .int .i64 nb, .int .i64 nc, .int .i64 nd, .int .i64 most, .slice va vn vc]) w := run_build _ _ _ _ (by kernel_rfl)
theorem wpList_build_run {P : Program} {w : World} {ops : Array Oper} {rest : List Oper} {o : Oper} {a : Act} {Q : Exit → Act → World → Prop} (hgd : o.guard = none) (t : TypeId) (parts : Array (Nat × Operand)) (ho : o.op = .build t parts) {vals : Array (Nat × Value)} (hv : parts.map (fun p => (p.1, a.eval p.2)) = vals) {v : Value} (hr : (Instr.build t vals).run P w = .ok v w) (h : wpList P ops Q rest (a.put o.dst v) w) : wpList P ops Q (o :: rest) a w :=
  wpList_plain hgd fun _ hK => by
    unfold Oper.wp
    simp [execOp, ho, hv, hr, Result.andThen]
    exact hK _ _ h
set_option maxHeartbeats 4000000 in
theorem goOn_ok (W w : World) (S : Nat) (a : Option Addr) (n c : Nat) (vs : Nat → Value) (mb : Nat) (tv : Value) (l : List Cl) (most : Nat) (M : List (C4 × Int)) (T : List St) (x : C4) (v : Value) (zs : List Int) (h : Sr W w S a n c vs mb tv l most M T) (hS : Seen W a n l) (h40 : l.length ≤ 40) (hv : Held w v zs) (hx : InC l x) (hz : zs.length ≤ 4096) (hl : T.length ≤ 6900000) :
    Calls Try.prog 23 #[.pointer (some ⟨S, 0, none⟩), .agg #[.int .i64 x.a, .int .i64 x.b, .int .i64 x.c, .int .i64 x.d, .int .i64 most, v]] w fun e w' => e = .returned (.tuple #[]) ∧ ∃ tv' M' T', Sr W w' S a n c vs mb tv' l most M' T' ∧ (M', strip T') = goK l most x zs (M, strip T) 4 := by
  have hal := Keeps.alloc None w (.cells #[.int .i64 x.a, .int .i64 x.b, .int .i64 x.c, .int .i64 x.d, .int .i64 most, v] 64)
  have bX := heap_alloc_new w (.cells #[.int .i64 x.a, .int .i64 x.b, .int .i64 x.c, .int .i64 x.d, .int .i64 most, v] 64)
  obtain ⟨W1, hW1⟩ : ∃ W1, W1 = w.alloc (.cells #[.int .i64 x.a, .int .i64 x.b, .int .i64 x.c, .int .i64 x.d, .int .i64 most, v] 64) := ⟨_, rfl⟩
  obtain ⟨X, hX⟩ : ∃ X, X = w.heap.size := ⟨_, rfl⟩
  rw [← hW1] at hal bX
  rw [← hX] at bX
  have hst : GoAt W S a n c vs mb l most M T x v zs X W1 0 tv M T := ⟨h.more hal, rfl, bX, hv.kept hal (fun _ _ f => f), fun e => by have := own_lt h.row e; omega, Nat.le_refl _⟩
  have HST : Hid _ := hst
  have HC : Hid (Seen W a n l ∧ l.length ≤ 40 ∧ InC l x ∧ n = l.length ∧ zs.length ≤ 4096 ∧ T.length ≤ 6900000) := ⟨hS, h40, hx, hS.len, hz, hl⟩
  clear h hS h40 hv hx hz hl hal bX hst
  go_enter Try.func23, Try.ntmps23
  go_upto_region 1 with fail
  rw [← hW1, ← hX]
  clear hW1 hX
  go_wp2_with fail
  go_loopw [11] (fun s11 wr => ∃ (i : Nat) (tv' : Value) (M' : List (C4 × Int)) (T' : List St), i ≤ 4 ∧ s11 = .int .i64 i ∧ GoAt W S a n c vs mb l most M T x v zs X wr i tv' M' T') (fun i _ => 4 - (intOf i).toNat)
  case atStart => exact ⟨0, tv, M, T, by omega, rfl, HST.out⟩
  case round =>
    clear HST
    obtain ⟨i, tv', M', T', hi, rfl, hG⟩ := hrel
    by_cases hi4 : i < 4
    · have i1 : (i : Int) < 4 := by omega
      have hR := hG.reads HC.out.1 HC.out.2.1
      have x0 : wr.cell? ⟨X, 0, none⟩ = some (.int .i64 x.a) := (blk_cell hG.xb 0).trans rfl
      have x1 : wr.cell? ⟨X, 1, none⟩ = some (.int .i64 x.b) := (blk_cell hG.xb 1).trans rfl
      have x2 : wr.cell? ⟨X, 2, none⟩ = some (.int .i64 x.c) := (blk_cell hG.xb 2).trans rfl
      have x3 : wr.cell? ⟨X, 3, none⟩ = some (.int .i64 x.d) := (blk_cell hG.xb 3).trans rfl
      have hnx := next_ok S a n c vs mb tv' l W.heap.size x i wr hR.sr hR.made hR.few hi4 (HC.out.2.2.1 i hi4)
      have HNX : Hid (Calls Try.prog 36 #[.pointer (some ⟨S, 0, none⟩), .agg #[.int .i64 x.a, .int .i64 x.b, .int .i64 x.c, .int .i64 x.d], .int .i64 (i : Int)] wr fun e w' => e = .returned (.tuple #[.int .i64 ((nxt l x i).getD 0), .bool (nxt l x i).isSome]) ∧ Keeps None wr w') := hnx
      have HG : Hid (GoAt W S a n c vs mb l most M T x v zs X wr i tv' M' T') := hG
      clear hnx hG hR
      cases hn : nxt l x i with
      | none =>
        as_aux_lemma =>
          rw [hn] at HNX
          have HF : Hid (goI l most x zs (goK l most x zs (M, strip T) i) i = goK l most x zs (M, strip T) i) := goI_none hn
          clear hn
          go_upto_region 5 with (go_at_call 36; refine Calls.mono HNX.out ?_; rintro _ w4 ⟨rfl, hk4⟩; have H4 : Hid _ := hk4; clear hk4)
          go_quiet (fail)
          go_wp2_with fail
          exact ⟨⟨i + 1, tv', M', T', by omega, by go_num, HG.out.same (H4.out.trans (drewN_keeps _ _) (fun _ f _ => f)) HF.out⟩, by simp [intOf]; omega⟩
      | some j =>
        rw [hn] at HNX
        obtain ⟨q, rfl, hq, hqw⟩ := nxt_is hn
        obtain ⟨y, hy⟩ : ∃ y, l[q]? = some y := ⟨l[q], by simp⟩
        obtain ⟨bb, oo, rfl, _, _⟩ := HC.out.1.ex (by have := HC.out.2.2.2.1; omega)
        have i2 : (q : Int) < (n : Int) := by have := HC.out.2.2.2.1; omega
        have HY : Hid (l[q]? = some y ∧ nxt l x i = some (q : Int)) := ⟨hy, hn⟩
        obtain ⟨ib, hib⟩ : ∃ ib, ib = inB l x y 4 := ⟨_, rfl⟩
        have HIB : Hid (ib = inB l x y 4) := hib
        have hit := fun wx (hk : Keeps None wr wx) => inTime_ok S (some ⟨bb, oo, none⟩) n c vs mb tv' l W.heap.size x y wx ((HG.out.reads HC.out.1 HC.out.2.1).more hk) HC.out.2.2.1
        have HIT : Hid (∀ wx, Keeps None wr wx → Calls Try.prog 38 #[.pointer (some ⟨S, 0, none⟩), .agg #[.int .i64 x.a, .int .i64 x.b, .int .i64 x.c, .int .i64 x.d], .agg #[.int .i64 y.who, .int .i64 y.kind, .int .i64 y.arg, .int .i64 y.beg, .int .i64 y.fin, .int .i64 y.code, .int .i64 y.v]] wx fun e w' => e = .returned (.bool ib) ∧ Keeps None wx w') := by rw [hib]; exact hit
        clear hn hy hq hqw hit hib
        go_upto_region 5 with (go_at_call 36; refine Calls.mono HNX.out ?_; rintro _ w4 ⟨rfl, hk4⟩)
        have hG4 := HG.out.sr.more hk4
        obtain ⟨bb', oo', e', hb', hcl⟩ := (HC.out.1.more hG4.keep).ex (by have := HC.out.2.2.2.1; have := (List.getElem?_eq_some_iff.1 HY.out.1).1; omega)
        injection e' with e'
        injection e' with e1 e2
        subst e1 e2
        obtain ⟨y0, y1, y2, y3, y4, y5, y6⟩ := hcl q y HY.out.1
        have s0 : w4.cell? ⟨S, 0, none⟩ = some (.slice (some ⟨bb, oo, none⟩) n c) := (blk_cell hG4.sr.blk 0).trans rfl
        have xc0 := hk4.cell x0 (fun f => f)
        have xc1 := hk4.cell x1 (fun f => f)
        have xc2 := hk4.cell x2 (fun f => f)
        have xc3 := hk4.cell x3 (fun f => f)
        have HSA : Hid (∀ w', Keeps None w4 w' → w'.cell? ⟨S, 0, none⟩ = some (.slice (some ⟨bb, oo, none⟩) n c) ∧ (w'.cell? ⟨bb, oo + q * 7, none⟩ = some (.int .i64 y.who) ∧ w'.cell? ⟨bb, oo + q * 7 + 1, none⟩ = some (.int .i64 y.kind) ∧ w'.cell? ⟨bb, oo + q * 7 + 2, none⟩ = some (.int .i64 y.arg) ∧ w'.cell? ⟨bb, oo + q * 7 + 3, none⟩ = some (.int .i64 y.beg) ∧ w'.cell? ⟨bb, oo + q * 7 + 4, none⟩ = some (.int .i64 y.fin) ∧ w'.cell? ⟨bb, oo + q * 7 + 5, none⟩ = some (.int .i64 y.code) ∧ w'.cell? ⟨bb, oo + q * 7 + 6, none⟩ = some (.int .i64 y.v)) ∧ w'.cell? ⟨X, 0, none⟩ = some (.int .i64 x.a) ∧ w'.cell? ⟨X, 1, none⟩ = some (.int .i64 x.b) ∧ w'.cell? ⟨X, 2, none⟩ = some (.int .i64 x.c) ∧ w'.cell? ⟨X, 3, none⟩ = some (.int .i64 x.d)) := fun w' hk => ⟨hk.cell s0 (fun f => f), ⟨hk.cell y0 (fun f => f), hk.cell y1 (fun f => f), hk.cell y2 (fun f => f), hk.cell y3 (fun f => f), hk.cell y4 (fun f => f), hk.cell y5 (fun f => f), hk.cell y6 (fun f => f)⟩, hk.cell xc0 (fun f => f), hk.cell xc1 (fun f => f), hk.cell xc2 (fun f => f), hk.cell xc3 (fun f => f)⟩
        have H4 : Hid (Keeps None wr w4) := hk4
        clear hk4 hcl hb' x0 x1 x2 x3 hG4
        go_cut [37] (fun s37 wx => s37 = .bool (!ib) ∧ Keeps None w4 wx)
        case first =>
          as_aux_lemma =>
            go_region_held3 (fun w' => w'.cell? ⟨S, 0, none⟩ = some (.slice (some ⟨bb, oo, none⟩) n c) ∧ (w'.cell? ⟨bb, oo + q * 7, none⟩ = some (.int .i64 y.who) ∧ w'.cell? ⟨bb, oo + q * 7 + 1, none⟩ = some (.int .i64 y.kind) ∧ w'.cell? ⟨bb, oo + q * 7 + 2, none⟩ = some (.int .i64 y.arg) ∧ w'.cell? ⟨bb, oo + q * 7 + 3, none⟩ = some (.int .i64 y.beg) ∧ w'.cell? ⟨bb, oo + q * 7 + 4, none⟩ = some (.int .i64 y.fin) ∧ w'.cell? ⟨bb, oo + q * 7 + 5, none⟩ = some (.int .i64 y.code) ∧ w'.cell? ⟨bb, oo + q * 7 + 6, none⟩ = some (.int .i64 y.v)) ∧ w'.cell? ⟨X, 0, none⟩ = some (.int .i64 x.a) ∧ w'.cell? ⟨X, 1, none⟩ = some (.int .i64 x.b) ∧ w'.cell? ⟨X, 2, none⟩ = some (.int .i64 x.c) ∧ w'.cell? ⟨X, 3, none⟩ = some (.int .i64 x.d)) (first | exact hs2 | go_keep) (first | (go_at_call 38; refine Calls.mono (HIT.out _ (H4.out.andDrew)) ?_; rintro _ w5 ⟨rfl, hk5⟩; have hk6 : Keeps None w4 w5 := (Keeps.drew None w4).trans hk5 (fun _ f _ => f); have hs2 := HSA.out w5 hk6))
            all_goals (go_wp2_with fail; go_meet)
            all_goals exact ⟨rfl, hk6⟩
        case rest =>
          obtain ⟨rfl, hkc⟩ := hcut
          have H5 : Hid (Keeps None wr wc) := H4.out.trans hkc (fun _ f _ => f)
          have HS5 : Hid (∀ w', Keeps None wc w' → w'.cell? ⟨S, 0, none⟩ = some (.slice (some ⟨bb, oo, none⟩) n c) ∧ (w'.cell? ⟨bb, oo + q * 7, none⟩ = some (.int .i64 y.who) ∧ w'.cell? ⟨bb, oo + q * 7 + 1, none⟩ = some (.int .i64 y.kind) ∧ w'.cell? ⟨bb, oo + q * 7 + 2, none⟩ = some (.int .i64 y.arg) ∧ w'.cell? ⟨bb, oo + q * 7 + 3, none⟩ = some (.int .i64 y.beg) ∧ w'.cell? ⟨bb, oo + q * 7 + 4, none⟩ = some (.int .i64 y.fin) ∧ w'.cell? ⟨bb, oo + q * 7 + 5, none⟩ = some (.int .i64 y.code) ∧ w'.cell? ⟨bb, oo + q * 7 + 6, none⟩ = some (.int .i64 y.v)) ∧ w'.cell? ⟨X, 0, none⟩ = some (.int .i64 x.a) ∧ w'.cell? ⟨X, 1, none⟩ = some (.int .i64 x.b) ∧ w'.cell? ⟨X, 2, none⟩ = some (.int .i64 x.c) ∧ w'.cell? ⟨X, 3, none⟩ = some (.int .i64 x.d)) := fun w' hk => HSA.out w' (hkc.trans hk (fun _ f _ => f))
          clear hkc HSA y0 y1 y2 y3 y4 y5 y6 s0 xc0 xc1 xc2 xc3 H4
          cases hb : ib with
          | false =>
            as_aux_lemma =>
              subst hb
              have HF : Hid (goI l most x zs (goK l most x zs (M, strip T) i) i = goK l most x zs (M, strip T) i) := goI_not HY.out.2 HY.out.1 (fun h => by rw [← HIB.out] at h; exact absurd h.1 (by decide))
              go_wp2_with fail
              exact ⟨⟨i + 1, tv', M', T', by omega, by go_num, HG.out.same H5.out HF.out⟩, by simp [intOf]; omega⟩
          | true =>
            subst hb
            have hGc := HG.out.sr.more H5.out
            obtain ⟨s0, ⟨y0, y1, y2, y3, y4, y5, y6⟩, x0, x1, x2, x3⟩ := HS5.out wc (Keeps.refl _ _)
            have hx40 : x.at i ≤ 40 := Nat.le_trans (HC.out.2.2.1 i hi4) (Nat.le_trans (mineL_length _ _ _) HC.out.2.1)
            obtain ⟨D, hD⟩ : ∃ D, D = wc.heap.size := ⟨_, rfl⟩
            have k6 := Keeps.alloc None wc (.cells #[.int .i64 x.a, .int .i64 x.b, .int .i64 x.c, .int .i64 x.d] 62)
            have b6 : (wc.alloc (.cells #[.int .i64 x.a, .int .i64 x.b, .int .i64 x.c, .int .i64 x.d] 62)).heap[wc.heap.size]? = some (.cells x.arr 62 (0, 0)) := heap_alloc_new wc (.cells #[.int .i64 x.a, .int .i64 x.b, .int .i64 x.c, .int .i64 x.d] 62)
            obtain ⟨W6, hW6⟩ : ∃ W6, W6 = wc.alloc (.cells #[.int .i64 x.a, .int .i64 x.b, .int .i64 x.c, .int .i64 x.d] 62) := ⟨_, rfl⟩
            rw [← hW6] at k6 b6
            rw [← hD] at b6
            have d6 : W6.cell? ⟨D, i, none⟩ = some (.int .i64 (x.at i : Int)) := (blk_cell b6 i).trans (x.arr_at hi4)
            have f6 := blk_free b6 i
            have k7 : Keeps (· = D) W6 (W6.setCell ⟨D, i, none⟩ (.int .i64 ((x.at i : Int) + 1))) := Keeps.setCell (S := (· = D)) W6 (a := ⟨D, i, none⟩) rfl _
            have b7 : (W6.setCell ⟨D, i, none⟩ (.int .i64 ((x.at i : Int) + 1))).heap[D]? = some (.cells (x.inc i).arr 62 (0, 0)) := by rw [blk_set b6, x.arr_inc hi4]
            obtain ⟨W7, hW7⟩ : ∃ W7, W7 = W6.setCell ⟨D, i, none⟩ (.int .i64 ((x.at i : Int) + 1)) := ⟨_, rfl⟩
            rw [← hW7] at k7 b7
            have kc7 : Keeps None wc W7 := k6.trans k7 (fun j e hj => by omega)
            have H7 : Hid (Keeps None wc W7 ∧ W7.heap[D]? = some (.cells (x.inc i).arr 62 (0, 0))) := ⟨kc7, b7⟩
            generalize x.at i = xa at *
            clear k6 b6 k7 b7 kc7 hGc
            go_upto_region 7 with fail
            rw [← hW6, ← hD]
            clear hW6 hD
            go_upto_region 8 with fail
            rw [← hW7]
            clear hW7 d6 f6 hx40 s0 y0 y1 y2 y3 y4 y5 y6 x0 x1 x2 x3
            have hG7 := HG.out.sr.more (H5.out.trans H7.out.1 (fun _ f _ => f))
            obtain ⟨d0, d1, d2, d3⟩ := arr_cells H7.out.2
            have s5 : W7.cell? ⟨S, 5, none⟩ = some (.map (some mb)) := (blk_cell hG7.sr.blk 5).trans rfl
            have hlk0 := (hG7.met.kept (Keeps.drew None W7) (fun f => f)).known (x.inc i)
            have hlk : (Instr.lookup 56 (.map (some mb)) (.agg #[.int .i64 (x.inc i).a, .int .i64 (x.inc i).b, .int .i64 (x.inc i).c, .int .i64 (x.inc i).d]) true).run Try.prog W7.drew = .ok (.tuple #[.int .i64 ((lookM M' (x.inc i)).getD 0), .bool (lookM M' (x.inc i)).isSome]) W7.drew := hlk0
            clear hlk0 hG7
            cases hm : lookM M' (x.inc i) with
            | some jj =>
              as_aux_lemma =>
                rw [hm] at hlk
                have HF : Hid (goI l most x zs (goK l most x zs (M, strip T) i) i = goK l most x zs (M, strip T) i) := goI_not HY.out.2 HY.out.1 (fun h => by rw [← HG.out.is] at h; have := h.2.1; rw [hm] at this; cases this)
                clear hm
                go_region
                all_goals go_wp2_with fail
                all_goals exact ⟨⟨i + 1, tv', M', T', by omega, by go_num, HG.out.same ((H5.out.trans H7.out.1 (fun _ f _ => f)).andDrew) HF.out⟩, by simp [intOf]; omega⟩
            | none =>
              rw [hm] at hlk
              have HM : Hid (lookM M' (x.inc i) = none) := hm
              have HAT : Hid (GoAt W S (some ⟨bb, oo, none⟩) n c vs mb l most M T x v zs X wr i tv' M' T' ∧ Keeps None wr W7.drew ∧ W7.drew.heap[D]? = some (.cells (x.inc i).arr 62 (0, 0))) := ⟨HG.out, (H5.out.trans H7.out.1 (fun _ f _ => f)).andDrew, H7.out.2⟩
              clear hm
              go_region
              clear hlk s5 d0 d1 d2 d3
              obtain ⟨W8, hW8⟩ : ∃ W8, W8 = W7.drew := ⟨_, rfl⟩
              rw [← hW8]
              rw [← hW8] at HAT
              clear hW8
              have bX8 := blk_kept HAT.out.1.xb HAT.out.2.1 (fun f => f)
              have x4 : W8.cell? ⟨X, 4, none⟩ = some (.int .i64 most) := (blk_cell bX8 4).trans rfl
              have x5 : W8.cell? ⟨X, 5, none⟩ = some v := (blk_cell bX8 5).trans rfl
              have hcp := copied_ok most v zs W8 (HAT.out.1.held.kept HAT.out.2.1 (fun _ _ f => f)) HC.out.2.2.2.2.1
              clear bX8
              go_upto_region 11 with (go_at_call 39; refine Calls.mono hcp ?_; rintro _ w10 ⟨g, rfl, hh10, hg10, hk10⟩)
              have k11 := Keeps.alloc None w10 (.cells #[.int .i64 most, .slice (some ⟨g, 0, none⟩) zs.length zs.length] 47)
              have b11 := heap_alloc_new w10 (.cells #[.int .i64 most, .slice (some ⟨g, 0, none⟩) zs.length zs.length] 47)
              obtain ⟨w11, hw11⟩ : ∃ w11, w11 = w10.alloc (.cells #[.int .i64 most, .slice (some ⟨g, 0, none⟩) zs.length zs.length] 47) := ⟨_, rfl⟩
              obtain ⟨PB, hPB⟩ : ∃ PB, PB = w10.heap.size := ⟨_, rfl⟩
              rw [← hw11, ← hPB]
              rw [← hw11] at k11 b11
              rw [← hPB] at b11
              have hpl : IsPlain w11 PB most (.slice (some ⟨g, 0, none⟩) zs.length zs.length) zs := ⟨b11, hh10.kept k11 (fun _ _ f => f)⟩
              have hal := allows_ok PB most _ zs y w11 hpl (by have := HC.out.2.2.2.2.1; omega)
              have k811 := hk10.trans k11 (fun _ f _ => f)
              have hsr11 := HAT.out.1.sr.more (HAT.out.2.1.trans k811 (fun _ f _ => f))
              obtain ⟨bb', oo', e', hb', hcl⟩ := (HC.out.1.more hsr11.keep).ex (by have := HC.out.2.2.2.1; have := (List.getElem?_eq_some_iff.1 HY.out.1).1; omega)
              injection e' with e'
              injection e' with e1 e2
              subst e1 e2
              obtain ⟨y0, y1, y2, y3, y4, y5, y6⟩ := hcl q y HY.out.1
              have s0 : w11.cell? ⟨S, 0, none⟩ = some (.slice (some ⟨bb, oo, none⟩) n c) := (blk_cell hsr11.sr.blk 0).trans rfl
              have H11 : Hid (Keeps None W8 w11 ∧ W8.heap.size ≤ g ∧ W8.heap.size ≤ PB) := ⟨k811, hg10, by rw [hPB]; exact hk10.size⟩
              obtain ⟨ab, hab⟩ : ∃ ab, ab = alwB most zs y := ⟨_, rfl⟩
              rw [← hab] at hal
              have HAB : Hid (ab = alwB most zs y) := hab
              have HALW : Hid (Calls Try.prog 40 #[.pointer (some ⟨PB, 0, none⟩), .agg #[.int .i64 y.who, .int .i64 y.kind, .int .i64 y.arg, .int .i64 y.beg, .int .i64 y.fin, .int .i64 y.code, .int .i64 y.v]] w11 fun e w' => e = .returned (.bool ab) ∧ PAfter w11 w' PB most (.slice (some ⟨g, 0, none⟩) zs.length zs.length) (alwZ most zs y)) := hal
              clear hw11 hPB k11 b11 hpl hal k811 hsr11 hcl hb' hh10 hg10 hk10 hab hcp x4 x5
              cases hb2 : ab with
              | false =>
                as_aux_lemma =>
                  subst hb2
                  have HF : Hid (goI l most x zs (goK l most x zs (M, strip T) i) i = goK l most x zs (M, strip T) i) := goI_not HY.out.2 HY.out.1 (fun h => by rw [← HAB.out] at h; exact absurd h.2.2 (by decide))
                  go_wp2_with (go_at_call 40; refine Calls.mono HALW.out ?_; rintro _ w12 ⟨rfl, hpa⟩)
                  obtain ⟨v2, _, hk12, _⟩ := hpa
                  exact ⟨⟨i + 1, tv', M', T', by omega, by go_num, HG.out.same (HAT.out.2.1.trans (H11.out.1.trans hk12 (fun j e hj => by
                    rcases e with e | e
                    · have := H11.out.2.2; omega
                    · simp [Value.ownBlock] at e; have := H11.out.2.1; omega)) (fun _ f _ => f)) HF.out⟩, by simp [intOf]; omega⟩
              | true =>
                as_aux_lemma =>
                  subst hb2
                  go_upto_region 12 with (go_at_call 40; refine Calls.mono HALW.out ?_; rintro _ w12 ⟨rfl, hpa⟩)
                  obtain ⟨v2, hp2, hk12, hmv⟩ := hpa
                  have k812 : Keeps None W8 w12 := H11.out.1.trans hk12 (fun j e hj => by
                    rcases e with e | e
                    · have := H11.out.2.2; omega
                    · simp [Value.ownBlock] at e; have := H11.out.2.1; omega)
                  have bD := blk_kept HAT.out.2.2 k812 (fun f => f)
                  obtain ⟨d0, d1, d2, d3⟩ := arr_cells bD
                  have p0 : w12.cell? ⟨PB, 0, none⟩ = some (.int .i64 most) := hp2.c0
                  have p1 : w12.cell? ⟨PB, 1, none⟩ = some v2 := hp2.c1
                  have k12 : Keeps None wr w12 := HAT.out.2.1.trans k812 (fun _ f _ => f)
                  have hs12 := HG.out.sr.more k12
                  have hmt := meet_ok W w12 S (some ⟨bb, oo, none⟩) n c vs mb tv' l most M' T' (x.inc i) v2 (alwZ most zs y) (q : Int) hs12 hp2.held HM.out (by have := HG.out.len; have := HC.out.2.2.2.2.2; omega)
                  have hxb := blk_kept HG.out.xb k12 (fun f => f)
                  have hvh := HG.out.held.kept k12 (fun _ _ f => f)
                  have HX12 : Hid (w12.heap[X]? = some (.cells #[.int .i64 x.a, .int .i64 x.b, .int .i64 x.c, .int .i64 x.d, .int .i64 most, v] 64 (0, 0)) ∧ Held w12 v zs ∧ Sr W w12 S (some ⟨bb, oo, none⟩) n c vs mb tv' l most M' T') := ⟨hxb, hvh, hs12⟩
                  obtain ⟨va, vn, vc, hve⟩ : ∃ va vn vc, v2 = .slice va vn vc := by obtain ⟨va, vc, e, -⟩ := hp2.held.shape; exact ⟨va, _, vc, e⟩
                  subst hve
                  obtain ⟨⟨na, nb, nc, nd⟩, hnn⟩ : ∃ nx, nx = x.inc i := ⟨_, rfl⟩
                  rw [← hnn] at d0 d1 d2 d3 hmt
                  have HNN : Hid (⟨na, nb, nc, nd⟩ = x.inc i) := hnn
                  obtain ⟨zz, hzz⟩ : ∃ zz, zz = alwZ most zs y := ⟨_, rfl⟩
                  rw [← hzz] at hmt
                  have HZZ : Hid (zz = alwZ most zs y) := hzz
                  have HMT : Hid (Calls Try.prog 20 #[.pointer (some ⟨S, 0, none⟩), .agg #[.int .i64 (na : Int), .int .i64 (nb : Int), .int .i64 (nc : Int), .int .i64 (nd : Int), .int .i64 (most : Int), (.slice va vn vc)], .int .i64 (q : Int)] w12 fun e w' => e = .returned (.tuple #[]) ∧ ∃ tv2, Sr W w' S (some ⟨bb, oo, none⟩) n c vs mb tv2 l most (M' ++ [(⟨na, nb, nc, nd⟩, (q : Int))]) (T' ++ [(⟨na, nb, nc, nd⟩, (.slice va vn vc), zz)]) ∧ Keeps (fun k => k = S ∨ k = mb ∨ tv'.ownBlock = some k) w12 w' ∧ (∀ g, tv2.ownBlock = some g → tv'.ownBlock = some g ∨ w12.heap.size ≤ g)) := hmt
                  simp only at d0 d1 d2 d3
                  have hbd := bld (na : Int) (nb : Int) (nc : Int) (nd : Int) (most : Int) va vn vc w12
                  clear hp2 hk12 hmv k812 bD k12 hs12 hxb hvh s0 y0 y1 y2 y3 y4 y5 y6 hmt hnn hzz
                  go_step
                  go_step
                  go_step
                  go_step
                  go_step
                  go_step
                  go_step
                  go_step
                  go_step
                  go_step
                  refine wpList_build_run (vals := #[(0, .agg #[.int .i64 (na : Int), .int .i64 (nb : Int), .int .i64 (nc : Int), .int .i64 (nd : Int)]), (1, .agg #[.int .i64 (most : Int), .slice va vn vc])]) rfl 64 #[(0, .tmp 67), (1, .tmp 68)] rfl (by simp [Act.eval]) hbd ?_
                  clear hbd
                  go_wp2_with (go_at_call 20; refine Calls.mono HMT.out ?_; rintro _ w13 ⟨rfl, tv2, hs13, hk13, hm13⟩; have H13 : Hid (Sr W w13 S (some ⟨bb, oo, none⟩) n c vs mb tv2 l most (M' ++ [(⟨na, nb, nc, nd⟩, (q : Int))]) (T' ++ [(⟨na, nb, nc, nd⟩, (.slice va vn vc), zz)]) ∧ Keeps (fun k => k = S ∨ k = mb ∨ tv'.ownBlock = some k) w12 w13 ∧ (∀ g, tv2.ownBlock = some g → tv'.ownBlock = some g ∨ w12.heap.size ≤ g)) := ⟨hs13, hk13, hm13⟩; clear hs13 hk13 hm13)
                  refine ⟨⟨i + 1, tv2, M' ++ [(⟨na, nb, nc, nd⟩, (q : Int))], T' ++ [(⟨na, nb, nc, nd⟩, (.slice va vn vc), zz)], by omega, by go_num, ⟨H13.out.1, ?_, ?_, ?_, ?_, ?_⟩⟩, by simp [intOf]; omega⟩
                  · rw [goK_more, ← HG.out.is, goI_yes HY.out.2 HY.out.1 ⟨HIB.out.symm, HM.out, HAB.out.symm⟩, HNN.out, HZZ.out]
                    simp [strip]
                  · refine blk_kept HX12.out.1 H13.out.2.1 (fun e => ?_)
                    rcases e with e | e | e
                    · have hb := HX12.out.2.2.sr.blk
                      rw [← e, HX12.out.1] at hb
                      injection hb with hb
                      injection hb with _ hb
                      exact absurd hb (by decide)
                    · exact HX12.out.2.2.met.ne HX12.out.1 e
                    · exact HG.out.xt e
                  · refine HX12.out.2.1.kept H13.out.2.1 (fun gg eg e => ?_)
                    obtain ⟨cur, hc⟩ := held_blk HX12.out.2.1 eg
                    rcases e with e | e | e
                    · have hb := HX12.out.2.2.sr.blk
                      rw [← e, hc] at hb
                      injection hb with hb
                      injection hb with _ hb
                      exact absurd hb (by decide)
                    · exact HX12.out.2.2.met.ne hc e
                    · exact absurd (own_type HX12.out.2.2.row e hc) (by decide)
                  · intro e
                    rcases H13.out.2.2 X e with e2 | e2
                    · exact HG.out.xt e2
                    · have := (Array.getElem?_eq_some_iff.1 HX12.out.1).1
                      omega
                  · have := HG.out.len
                    simp
                    omega
    · have i1 : ¬ ((i : Int) < 4) := by omega
      have hi' : i = 4 := by omega
      subst hi'
      have HF : Hid _ := hG
      clear hG
      go_wp2_with fail
      go_end0
      exact ⟨rfl, tv', M', T', HF.out.sr, HF.out.is⟩
end Go.Proofs.Ytheginjjncnheaa
