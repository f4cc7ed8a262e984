import Derived.Test.YtheginjjncnheaaHrLev
import Derived.Deep.RegionHeld3
import Derived.Deep.RegionLaw
/-! The document's search for an order: the state behind the next call of an actor. -/
namespace Go.Proofs.Ytheginjjncnheaa
set_option linter.unusedVariables false
set_option maxRecDepth 20000
set_option linter.unusedSimpArgs false
open Go.RowKit Go.HeapKit

/-- 'append(later, t)'. -/
theorem Sts.push {w : World} {base : Nat} {sv : Value} {T : List St} (h : Sts w base sv T) (hb : base ≤ w.heap.size) (t : St) (ht : Held w t.2.1 t.2.2) (hl : T.length ≤ 7000000) :
    ∃ g cap w2, (Builtin.append_ #[86, 86] 86 #[sv, .slice (some ⟨w.heap.size, 0, none⟩) 1 1]).run Try.prog (w.alloc (.cells #[.int .i64 t.1.a, .int .i64 t.1.b, .int .i64 t.1.c, .int .i64 t.1.d, t.2.1] 85)) = .ok (.slice (some ⟨g, 0, none⟩) (T.length + 1) cap) w2 ∧
      Sts w2 base (.slice (some ⟨g, 0, none⟩) (T.length + 1) cap) (T ++ [t]) ∧ Keeps (fun k => sv.ownBlock = some k) w w2 := by
  have hal := Keeps.alloc None w (.cells #[.int .i64 t.1.a, .int .i64 t.1.b, .int .i64 t.1.c, .int .i64 t.1.d, t.2.1] 85)
  have h1 := h.more hal
  have ht1 := ht.kept hal (fun _ _ f => f)
  have hg0 := heap_alloc_new w (.cells #[.int .i64 t.1.a, .int .i64 t.1.b, .int .i64 t.1.c, .int .i64 t.1.d, t.2.1] 85)
  have hv1 : t.2.1.oneCell' = true := by
    rcases ht with ⟨e, _⟩ | ⟨_, _, _, _, e, _⟩ <;> rw [e] <;> rfl
  obtain ⟨i0, hi, hz0, hz1, hz2⟩ := info_parts Try.infoStR
  obtain ⟨v', w2, hr, ho, hgr, hm, -⟩ := run_append_moved (P := Try.prog) (w.alloc (.cells #[.int .i64 t.1.a, .int .i64 t.1.b, .int .i64 t.1.c, .int .i64 t.1.d, t.2.1] 85)) base 86 86 85 i0 _ 5 56 Try.underlying86 hi hz0 hz1 hz2 rfl (by decide) sv T.length (T.flatMap stR) h1.row
    ⟨w.heap.size, 0, none⟩ 1 1 (stR t) rfl (by
      intro j u hu
      rw [show (⟨w.heap.size, 0, none⟩ : Addr).add j = ⟨w.heap.size, j, none⟩ by unfold Addr.add; split <;> simp_all, blk_cell hg0]
      simpa [stR] using hu) (by
      intro u hu
      simp [stR] at hu
      rcases hu with rfl | rfl | rfl | rfl | rfl
      · rfl
      · rfl
      · rfl
      · rfl
      · exact hv1) (by unfold maxLen; omega) (by omega) (by have := hal.size; omega)
  obtain ⟨g, cap, rfl⟩ : ∃ g cap, v' = .slice (some ⟨g, 0, none⟩) (T.length + 1) cap := by
    rcases ho.2 with ⟨_, h0⟩ | ⟨b, cap, cur, rfl, _⟩
    · omega
    · exact ⟨b, cap, rfl⟩
  have hke : Keeps (fun k => sv.ownBlock = some k) (w.alloc (.cells #[.int .i64 t.1.a, .int .i64 t.1.b, .int .i64 t.1.c, .int .i64 t.1.d, t.2.1] 85)) w2 := (Keeps.refl _ _).andGrown hgr (fun k e => .inl e)
  refine ⟨g, cap, w2, hr, ⟨?_, fun t' ht' => ?_⟩, (hal.mono (T := fun k => sv.ownBlock = some k) (fun _ f _ => f.elim)).trans hke (fun _ e _ => e)⟩
  · have e : (T ++ [t]).flatMap stR = T.flatMap stR ++ stR t := by simp
    rw [e, List.length_append, List.length_singleton]
    exact ho
  · have hh : Held (w.alloc (.cells #[.int .i64 t.1.a, .int .i64 t.1.b, .int .i64 t.1.c, .int .i64 t.1.d, t.2.1] 85)) t'.2.1 t'.2.2 := by
      rcases List.mem_append.1 ht' with h2 | h2
      · exact h1.held t' h2
      · simp at h2
        subst h2
        exact ht1
    exact hh.kept hke (fun q eq e => by
      obtain ⟨cur, hc⟩ := held_blk hh eq
      exact absurd (own_type h1.row e hc) (by decide))
theorem bldR (na nb nc nd : Nat) (va : Option Addr) (vn vc : Nat) (w : World) : (Instr.build 85 #[(0, .agg #[.int .i64 (na : Int), .int .i64 (nb : Int), .int .i64 (nc : Int), .int .i64 (nd : Int)]), (1, .slice va vn vc)]).run Try.prog w = .ok (.agg #[.int .i64 (na : Int), .int .i64 (nb : Int), .int .i64 (nc : Int), .int .i64 (nd : Int), .slice va vn vc]) w := run_build _ _ _ _ (by kernel_rfl)
/-- What step tells. -/
def StepPost (w : World) (base : Nat) (l : List Cl) (most : Nat) (sv : Value) (T : List St) (x : C4) (zs : List Int) (i : Nat) (e : Ending) (w' : World) : Prop := ∃ sv' T', e = .returned sv' ∧ Sts w' base sv' T' ∧ strip T' = stepL l most x zs (strip T) i ∧ Keeps (fun k => sv.ownBlock = some k) w w'
theorem strip_len (T : List St) : (strip T).length = T.length := by simp [strip]
theorem stA_cells {w : World} {X : Nat} {x : C4} {v : Value} (h : w.heap[X]? = some (.cells (stA x v) 85 (0, 0))) : w.cell? ⟨X, 0, none⟩ = some (.int .i64 (x.a : Int)) ∧ w.cell? ⟨X, 1, none⟩ = some (.int .i64 (x.b : Int)) ∧ w.cell? ⟨X, 2, none⟩ = some (.int .i64 (x.c : Int)) ∧ w.cell? ⟨X, 3, none⟩ = some (.int .i64 (x.d : Int)) ∧ w.cell? ⟨X, 4, none⟩ = some v :=
  ⟨(blk_cell h 0).trans rfl, (blk_cell h 1).trans rfl, (blk_cell h 2).trans rfl, (blk_cell h 3).trans rfl, (blk_cell h 4).trans rfl⟩
theorem stA_inc (x : C4) (v : Value) {i : Nat} (hi : i < 4) : (stA x v).setIfInBounds i (.int .i64 ((x.at i : Int) + 1)) = stA (x.inc i) v := by
  obtain ⟨a, b, c, d⟩ := x
  rcases i with _ | _ | _ | _ | i
  · rfl
  · rfl
  · rfl
  · rfl
  · omega
theorem alw_len {l : List Cl} {most : Nat} {x : C4} {zs : List Int} (h : Rch l most x zs) : zs.length ≤ most := by
  induction h with
  | nil => simp
  | more _ _ _ _ _ _ ih => exact alw_length ih
set_option maxHeartbeats 8000000 in
theorem rstep_ok (a : Option Addr) (n c : Nat) (l : List Cl) (most : Nat) (x : C4) (va : Option Addr) (vn vc : Nat) (zs : List Int) (i base : Nat) (sa : Option Addr) (sn sc : Nat) (T : List St) (w : World) (hS : Seen w a n l) (h40 : n ≤ 40) (hm : most ≤ 4096) (hh : histB l = true) (hx : InC l x) (hr : Rch l most x zs) (hi : i < 4) (hv : Held w (.slice va vn vc) zs) (hT : Sts w base (.slice sa sn sc) T) (hb : base ≤ w.heap.size) (hl : T.length ≤ 7000000) :
    Calls Try.prog 43 #[.slice a n c, .int .i64 (most : Int), .agg #[.int .i64 x.a, .int .i64 x.b, .int .i64 x.c, .int .i64 x.d, .slice va vn vc], .int .i64 (i : Int), .slice sa sn sc] w (StepPost w base l most (.slice sa sn sc) T x zs i) := by
  have hal := Keeps.alloc None w (.cells #[.int .i64 x.a, .int .i64 x.b, .int .i64 x.c, .int .i64 x.d, .slice va vn vc] 85)
  have bX := heap_alloc_new w (.cells #[.int .i64 x.a, .int .i64 x.b, .int .i64 x.c, .int .i64 x.d, .slice va vn vc] 85)
  obtain ⟨W, hW⟩ : ∃ W, W = w.alloc (.cells #[.int .i64 x.a, .int .i64 x.b, .int .i64 x.c, .int .i64 x.d, .slice va vn vc] 85) := ⟨_, rfl⟩
  obtain ⟨X, hX⟩ : ∃ X, X = w.heap.size := ⟨_, rfl⟩
  rw [← hW] at hal bX
  rw [← hX] at bX
  have HC : Hid (Seen W a n l ∧ Keeps None w W ∧ W.heap[X]? = some (.cells (stA x (.slice va vn vc)) 85 (0, 0)) ∧ InC l x ∧ histB l = true ∧ n = l.length ∧ Held W (.slice va vn vc) zs ∧ Sts W base (.slice sa sn sc) T ∧ base ≤ W.heap.size ∧ Rch l most x zs ∧ T.length ≤ 7000000) := ⟨hS.more hal, hal, bX, hx, hh, hS.len, hv.kept hal (fun _ _ f => f), hT.more hal, by have := hal.size; omega, hr, hl⟩
  have HS : Hid (∀ w', Keeps None W w' → stepL l most x zs (strip T) i = strip T → StepPost w base l most (.slice sa sn sc) T x zs i (.returned (.slice sa sn sc)) w') := fun w' hk e => ⟨_, T, rfl, HC.out.2.2.2.2.2.2.2.1.more hk, e.symm, (HC.out.2.1.trans hk (fun _ f _ => f)).mono (fun _ f _ => f.elim)⟩
  have hnx := rnext_ok a n c l i (x.at i) W HC.out.1 h40 (HC.out.2.2.2.1.at (by have := HC.out.2.2.2.2.2.1; omega) hi)
  have c1 : W.cell? ⟨X, i, none⟩ = some (.int .i64 (x.at i : Int)) := (blk_cell HC.out.2.2.1 i).trans (stA_at _ _ hi)
  obtain ⟨J, hJ⟩ : ∃ J, J = nxI (nxt l x i) := ⟨_, rfl⟩
  have HNX : Hid (Calls Try.prog 49 #[.slice a n c, .int .i64 (i : Int), .int .i64 (x.at i : Int)] W fun e w' => e = .returned (.int .i64 J) ∧ Keeps None W w') := by rw [hJ]; exact hnx
  have i1 : (i : Int) < 4 := by omega
  have hxi : x.at i ≤ 1000 := HC.out.2.2.2.1.at (by have := HC.out.2.2.2.2.2.1; omega) hi
  have HXI : Hid (∃ xi, xi = x.at i) := ⟨_, rfl⟩
  clear hS hx hal bX hh hr hv hT hb hl hnx
  cases hn : nxt l x i with
  | none =>
    rw [hn] at hJ
    have hJ2 : J = -1 := hJ
    subst hJ2
    have HF := stepL_none (most := most) (zs := zs) (T := strip T) hn
    have HF2 : Hid (stepL l most x zs (strip T) i = strip T) := HF
    clear hn hJ HF
    generalize x.at i = xi at *
    go_enter Try.func43, Try.ntmps43
    go_upto_region 1 with fail
    rw [← hW, ← hX]
    clear hW hX
    go_wp2_with (go_at_call 49; refine Calls.mono HNX.out ?_; rintro _ w4 ⟨rfl, hk4⟩; have H4 : Hid _ := hk4; clear hk4)
    go_ret
    exact HS.out _ H4.out HF2.out
  | some j =>
    rw [hn] at hJ
    obtain ⟨q, rfl, hq, hqw⟩ := nxt_is hn
    have hJ2 : J = (q : Int) := hJ
    subst hJ2
    have hnl := HC.out.2.2.2.2.2.1
    obtain ⟨y, hy⟩ : ∃ y, l[q]? = some y := ⟨l[q], by simp⟩
    obtain ⟨bb, oo, rfl, _, _⟩ := HC.out.1.ex (by omega)
    have i2 : (q : Int) < (n : Int) := by omega
    have i3 : ¬ (q : Int) < 0 := by omega
    obtain ⟨F, hF⟩ : ∃ F, F = inB l x y 4 := ⟨_, rfl⟩
    have HFR : Hid (∀ w', Keeps None W w' → Calls Try.prog 50 #[.slice (some ⟨bb, oo, none⟩) n c, .agg #[.int .i64 x.a, .int .i64 x.b, .int .i64 x.c, .int .i64 x.d, .slice va vn vc], .int .i64 (q : Int)] w' fun e w2 => e = .returned (.bool F) ∧ Keeps None w' w2) := fun w' hk => by
      rw [hF]
      exact rfree_ok _ n c l x va vn vc q y w' (HC.out.1.more hk) h40 HC.out.2.2.2.2.1 HC.out.2.2.2.1 hy
    have HY : Hid (l[q]? = some y ∧ nxt l x i = some (q : Int) ∧ F = inB l x y 4 ∧ i < 4) := ⟨hy, hn, hF, hi⟩
    clear hn hy hq hqw hnl hJ hF hi
    cases F with
    | false =>
      have HF2 : Hid (stepL l most x zs (strip T) i = strip T) := stepL_not HY.out.2.1 HY.out.1 (fun h => by have := HY.out.2.2.1; rw [h.1] at this; cases this)
      generalize x.at i = xi at *
      go_enter Try.func43, Try.ntmps43
      go_upto_region 1 with fail
      rw [← hW, ← hX]
      clear hW hX
      go_wp2_with (first | (go_at_call 49; refine Calls.mono HNX.out ?_; rintro _ w4 ⟨rfl, hk4⟩; obtain ⟨x0, x1, x2, x3, x4⟩ := stA_cells (blk_kept HC.out.2.2.1 hk4 (fun f => f)); have H4 : Hid _ := hk4; clear hk4) | (go_at_call 50; refine Calls.mono (HFR.out _ H4.out) ?_; rintro _ w5 ⟨rfl, hk5⟩; have H5 : Hid _ := hk5; clear hk5))
      go_ret
      exact HS.out _ (H4.out.trans H5.out (fun _ f _ => f)) HF2.out
    | true =>
      go_enter Try.func43, Try.ntmps43
      go_upto_region 1 with fail
      rw [← hW, ← hX]
      clear hW hX
      generalize hxg : x.at i = xi at c1 HNX hxi
      clear HXI
      go_upto_region 4 with (first | (go_at_call 49; refine Calls.mono HNX.out ?_; rintro _ w4 ⟨rfl, hk4⟩; obtain ⟨x0, x1, x2, x3, x4⟩ := stA_cells (blk_kept HC.out.2.2.1 hk4 (fun f => f)); have H4 : Hid _ := hk4; clear hk4) | (go_at_call 50; refine Calls.mono (HFR.out _ H4.out) ?_; rintro _ w5 ⟨rfl, hk5⟩; have H5 : Hid _ := hk5; clear hk5))
      have k5 := H4.out.trans H5.out (fun _ f _ => f)
      clear x0 x1 x2 x3 x4 c1
      obtain ⟨x0, x1, x2, x3, x4⟩ := stA_cells (blk_kept HC.out.2.2.1 k5 (fun f => f))
      obtain ⟨bb', oo', e', hb', hcl⟩ := (HC.out.1.more k5).ex (by omega)
      injection e' with e'
      injection e' with e1 e3
      subst e1 e3
      obtain ⟨y0, y1, y2, y3, y4, y5, y6⟩ := hcl q y HY.out.1
      have H6 : Hid (Keeps None W w5) := k5
      have HDO : Hid (∀ w', Keeps None w5 w' → Calls Try.prog 45 #[.slice va vn vc, .agg #[.int .i64 y.who, .int .i64 y.kind, .int .i64 y.arg, .int .i64 y.beg, .int .i64 y.fin, .int .i64 y.code, .int .i64 y.v], .int .i64 (most : Int)] w' (DoPost w' (.slice va vn vc) (doR zs y most))) := fun w' hk => do_ok _ zs y most w' (HC.out.2.2.2.2.2.2.1.kept (H6.out.trans hk (fun _ f _ => f)) (fun _ _ f => f)) (by have := alw_len HC.out.2.2.2.2.2.2.2.2.2.1; omega) hm
      have hal2 := alw_do (c := y) (hist_fits HC.out.2.2.2.2.1 HY.out.1) (alw_len HC.out.2.2.2.2.2.2.2.2.2.1)
      have HAL : Hid (alwB most zs y = (doR zs y most).2 ∧ (alwB most zs y = true → alwZ most zs y = (doR zs y most).1)) := hal2
      obtain ⟨D, hD⟩ : ∃ D, D = doR zs y most := ⟨_, rfl⟩
      have HD : Hid (D = doR zs y most) := hD
      rw [← hD] at HDO HAL
      have HSA : Hid (∀ w', Keeps None w5 w' → w'.cell? ⟨X, 4, none⟩ = some (.slice va vn vc) ∧ w'.cell? ⟨bb, oo + q * 7, none⟩ = some (.int .i64 y.who) ∧ w'.cell? ⟨bb, oo + q * 7 + 1, none⟩ = some (.int .i64 y.kind) ∧ w'.cell? ⟨bb, oo + q * 7 + 2, none⟩ = some (.int .i64 y.arg) ∧ w'.cell? ⟨bb, oo + q * 7 + 3, none⟩ = some (.int .i64 y.beg) ∧ w'.cell? ⟨bb, oo + q * 7 + 4, none⟩ = some (.int .i64 y.fin) ∧ w'.cell? ⟨bb, oo + q * 7 + 5, none⟩ = some (.int .i64 y.code) ∧ w'.cell? ⟨bb, oo + q * 7 + 6, none⟩ = some (.int .i64 y.v)) := fun w' hk => ⟨hk.cell x4 (fun f => f), hk.cell y0 (fun f => f), hk.cell y1 (fun f => f), hk.cell y2 (fun f => f), hk.cell y3 (fun f => f), hk.cell y4 (fun f => f), hk.cell y5 (fun f => f), hk.cell y6 (fun f => f)⟩
      clear hal2 hD k5 hcl hb' HFR HNX H4 H5 i3
      go_cut [12, 13] (fun s12 s13 wx => ∃ sa' sn' sc', s12 = .slice sa' sn' sc' ∧ s13 = .bool D.2 ∧ Held wx (.slice sa' sn' sc') D.1 ∧ Keeps None w5 wx)
      case first =>
        go_region_held3 (fun w' => w'.cell? ⟨X, 4, none⟩ = some (.slice va vn vc) ∧ w'.cell? ⟨bb, oo + q * 7, none⟩ = some (.int .i64 y.who) ∧ w'.cell? ⟨bb, oo + q * 7 + 1, none⟩ = some (.int .i64 y.kind) ∧ w'.cell? ⟨bb, oo + q * 7 + 2, none⟩ = some (.int .i64 y.arg) ∧ w'.cell? ⟨bb, oo + q * 7 + 3, none⟩ = some (.int .i64 y.beg) ∧ w'.cell? ⟨bb, oo + q * 7 + 4, none⟩ = some (.int .i64 y.fin) ∧ w'.cell? ⟨bb, oo + q * 7 + 5, none⟩ = some (.int .i64 y.code) ∧ w'.cell? ⟨bb, oo + q * 7 + 6, none⟩ = some (.int .i64 y.v)) (first | exact hs2 | go_keep) (first | (go_at_call 45; refine Calls.mono (HDO.out _ (Keeps.drew None w5)) ?_; rintro _ w6 ⟨v6, rfl, hh6, hk6, hm6⟩; have hk7 : Keeps None w5 w6 := (Keeps.drew None w5).trans hk6 (fun _ f _ => f); obtain ⟨⟨a3, n3, c3⟩, hv6⟩ : ∃ t : Option Addr × Nat × Nat, v6 = Value.slice t.1 t.2.1 t.2.2 := (by obtain ⟨a', c', e, -⟩ := hh6.shape; exact ⟨(a', _, c'), e⟩); subst hv6; have hs2 := HSA.out w6 hk7; have H7 : Hid (Held w6 (.slice a3 n3 c3) D.1 ∧ Keeps None w5 w6) := ⟨hh6, hk7⟩; clear hh6 hk6 hm6 hk7))
        all_goals (go_wp2_with fail; go_meet)
        all_goals exact ⟨_, _, _, rfl, rfl, H7.out⟩
      case rest =>
        obtain ⟨a3, n3, c3, rfl, rfl, hh7, hk7⟩ := hcut
        have k7 := H6.out.trans hk7 (fun _ f _ => f)
        clear x0 x1 x2 x3 x4 y0 y1 y2 y3 y4 y5 y6 HSA HDO
        obtain ⟨D1, D2⟩ := D
        simp only at hh7 HAL ⊢
        cases D2 with
        | false =>
          have HF2 : Hid (stepL l most x zs (strip T) i = strip T) := stepL_not HY.out.2.1 HY.out.1 (fun h => by have := HAL.out.1; rw [h.2.1] at this; cases this)
          have H7 : Hid (Keeps None W wc) := k7
          clear hh7 hk7 k7
          go_wp2_with fail
          go_ret
          exact HS.out _ H7.out HF2.out
        | true =>
          have hz : alwZ most zs y = D1 := HAL.out.2 HAL.out.1
          have HAB : Hid (alwB most zs y = true) := HAL.out.1
          obtain ⟨x0, x1, x2, x3, x4⟩ := stA_cells (blk_kept HC.out.2.2.1 k7 (fun f => f))
          have kA := Keeps.alloc None wc (.cells #[.int .i64 x.a, .int .i64 x.b, .int .i64 x.c, .int .i64 x.d, .slice a3 n3 c3] 85)
          have bA := heap_alloc_new wc (.cells #[.int .i64 x.a, .int .i64 x.b, .int .i64 x.c, .int .i64 x.d, .slice a3 n3 c3] 85)
          obtain ⟨W8, hW8⟩ : ∃ W8, W8 = wc.alloc (.cells #[.int .i64 x.a, .int .i64 x.b, .int .i64 x.c, .int .i64 x.d, .slice a3 n3 c3] 85) := ⟨_, rfl⟩
          obtain ⟨B, hB⟩ : ∃ B, B = wc.heap.size := ⟨_, rfl⟩
          rw [← hW8] at kA bA
          rw [← hB] at bA
          have hbd := fun w' => bldR x.a x.b x.c x.d a3 n3 c3 w'
          have H8 : Hid (Keeps None W W8 ∧ Held W8 (.slice a3 n3 c3) D1 ∧ W8.heap[B]? = some (.cells (stA x (.slice a3 n3 c3)) 85 (0, 0)) ∧ W.heap.size ≤ B ∧ alwZ most zs y = D1) := ⟨k7.trans kA (fun _ f _ => f), hh7.kept kA (fun _ _ f => f), bA, by have := k7.size; omega, hz⟩
          clear hh7 hk7 kA bA k7 hz
          go_upto_region 8 with fail
          rw [← hW8, ← hB]
          clear hW8 hB x0 x1 x2 x3 x4 hbd
          have b1 : W8.cell? ⟨B, i, none⟩ = some (.int .i64 (xi : Int)) := by rw [← hxg]; exact (blk_cell H8.out.2.2.1 i).trans (stA_at _ _ HY.out.2.2.2)
          have f1 : W8.frozen? ⟨B, i, none⟩ = false := blk_free H8.out.2.2.1 i
          obtain ⟨W9, hW9⟩ : ∃ W9, W9 = W8.setCell ⟨B, i, none⟩ (.int .i64 ((xi : Int) + 1)) := ⟨_, rfl⟩
          have k9 : Keeps (· = B) W8 W9 := by rw [hW9]; exact Keeps.setCell (S := (· = B)) W8 (a := ⟨B, i, none⟩) rfl _
          have b9 : W9.heap[B]? = some (.cells (stA (x.inc i) (.slice a3 n3 c3)) 85 (0, 0)) := by
            rw [hW9, blk_set H8.out.2.2.1, ← hxg, stA_inc _ _ HY.out.2.2.2]
          have H9 : Hid (Keeps None W W9 ∧ Held W9 (.slice a3 n3 c3) D1 ∧ W9.heap[B]? = some (.cells (stA (x.inc i) (.slice a3 n3 c3)) 85 (0, 0)) ∧ alwZ most zs y = D1) := by
            refine ⟨H8.out.1.trans k9 (fun k e hk => by have := H8.out.2.2.2.1; omega), H8.out.2.1.kept k9 (fun g e e2 => ?_), b9, H8.out.2.2.2.2⟩
            obtain ⟨cur, hc⟩ := held_blk H8.out.2.1 e
            rw [e2, H8.out.2.2.1] at hc
            injection hc with hc
            injection hc with _ hc
            exact absurd hc (by decide)
          obtain ⟨z0, z1, z2, z3, z4⟩ := stA_cells b9
          obtain ⟨K, hK⟩ : ∃ K, K = (lookM (toM (strip T)) (x.inc i)).isSome := ⟨_, rfl⟩
          have HKN : Hid (Calls Try.prog 51 #[.slice sa sn sc, .agg #[.int .i64 (x.inc i).a, .int .i64 (x.inc i).b, .int .i64 (x.inc i).c, .int .i64 (x.inc i).d]] W9 fun e w' => e = .returned (.bool K) ∧ Keeps None W9 w') := by
            rw [hK]
            exact known_ok base _ T (x.inc i) W9 (HC.out.2.2.2.2.2.2.2.1.more H9.out.1) HC.out.2.2.2.2.2.2.2.2.2.2
          have HK : Hid (K = (lookM (toM (strip T)) (x.inc i)).isSome) := hK
          clear k9 b9 hK H8 HAL hxg HD
          go_upto_region 9 with fail
          rw [← hW9]
          clear hW9 b1 f1
          generalize (x.inc i).a = na at z0 HKN
          generalize (x.inc i).b = nb at z1 HKN
          generalize (x.inc i).c = nc at z2 HKN
          generalize (x.inc i).d = nd at z3 HKN
          cases K with
          | true =>
            have HF2 : Hid (stepL l most x zs (strip T) i = strip T) := stepL_not HY.out.2.1 HY.out.1 (fun h => by have := HK.out; rw [h.2.2] at this; cases this)
            go_wp2_with (go_at_call 51; refine Calls.mono HKN.out ?_; rintro _ wa ⟨rfl, hka⟩; have HA : Hid _ := hka; clear hka)
            go_ret
            exact HS.out _ (H9.out.1.trans HA.out (fun _ f _ => f)) HF2.out
          | false =>
            have hlk : lookM (toM (strip T)) (x.inc i) = none := by
              cases e : lookM (toM (strip T)) (x.inc i) with
              | none => rfl
              | some z => have := HK.out; rw [e] at this; cases this
            have HF2 : Hid (stepL l most x zs (strip T) i = strip T ++ [(x.inc i, D1)]) := by
              rw [← H9.out.2.2.2]
              exact stepL_yes HY.out.2.1 HY.out.1 ⟨HY.out.2.2.1.symm, HAB.out, hlk⟩
            clear hlk
            go_upto_region 11 with (go_at_call 51; refine Calls.mono HKN.out ?_; rintro _ wa ⟨rfl, hka⟩; have HA : Hid _ := hka; clear hka)
            have ka := H9.out.1.trans HA.out (fun _ f _ => f)
            obtain ⟨g, cap, w2, hr, hs2, kp⟩ := (HC.out.2.2.2.2.2.2.2.1.more ka).push (by have := ka.size; have := HC.out.2.2.2.2.2.2.2.2.1; omega) (x.inc i, .slice a3 n3 c3, D1) (H9.out.2.1.kept HA.out (fun _ _ f => f)) HC.out.2.2.2.2.2.2.2.2.2.2
            clear z0 z1 z2 z3 z4
            obtain ⟨z0, z1, z2, z3, z4⟩ := stA_cells (blk_kept H9.out.2.2.1 HA.out (fun f => f))
            have HF : Hid (StepPost w base l most (.slice sa sn sc) T x zs i (.returned (.slice (some ⟨g, 0, none⟩) (T.length + 1) cap)) w2) := ⟨_, _, rfl, hs2, by rw [HF2.out]; simp [strip], ((HC.out.2.1.trans ka (fun _ f _ => f)).mono (T := fun k => (Value.slice sa sn sc).ownBlock = some k) (fun _ f _ => f.elim)).trans kp (fun _ e _ => e)⟩
            clear ka hs2 kp HF2 HKN
            simp only at hr
            go_wp2_with (at_builtin; refine wpList_append_run rfl (.tmp 62) (.tmp 64) 86 86 rfl rfl rfl hr ?_)
            go_ret
            exact HF.out
end Go.Proofs.Ytheginjjncnheaa
