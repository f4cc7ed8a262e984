import Derived.Test.YtheginjjncnheaaHrOver
/-! The document's search for an order: may a call come next? -/
namespace Go.Proofs.Ytheginjjncnheaa
set_option linter.unusedVariables false
set_option maxRecDepth 20000
set_option linter.unusedSimpArgs false
open Go.RowKit Go.HeapKit

theorem ahead_self {y : Cl} (h : fitsB y = true) : aheadB y y = false := by
  obtain ⟨_, _, h3, _⟩ := fits_ended h
  unfold aheadB
  simp only [decide_eq_false_iff_not]
  rintro ⟨h1, h2⟩
  have := h3 h1
  omega
set_option maxHeartbeats 4000000 in
theorem rfree_ok (a : Option Addr) (n c : Nat) (l : List Cl) (x : C4) (va : Option Addr) (vn vc k : Nat) (z : Cl) (w : World) (hS : Seen w a n l) (h40 : n ≤ 40) (hh : histB l = true) (hx : InC l x) (hz : l[k]? = some z) :
    Calls Try.prog 50 #[.slice a n c, .agg #[.int .i64 x.a, .int .i64 x.b, .int .i64 x.c, .int .i64 x.d, .slice va vn vc], .int .i64 (k : Int)] w fun e w' => e = .returned (.bool (inB l x z 4)) ∧ Keeps None w w' := by
  have hal := Keeps.alloc None w (.cells #[.int .i64 x.a, .int .i64 x.b, .int .i64 x.c, .int .i64 x.d, .slice va vn vc] 85)
  have bX := heap_alloc_new w (.cells #[.int .i64 x.a, .int .i64 x.b, .int .i64 x.c, .int .i64 x.d, .slice va vn vc] 85)
  obtain ⟨W, hW⟩ : ∃ W, W = w.alloc (.cells #[.int .i64 x.a, .int .i64 x.b, .int .i64 x.c, .int .i64 x.d, .slice va vn vc] 85) := ⟨_, rfl⟩
  obtain ⟨X, hX⟩ : ∃ X, X = w.heap.size := ⟨_, rfl⟩
  rw [← hW] at hal bX
  rw [← hX] at bX
  have hkl := (List.getElem?_eq_some_iff.1 hz).1
  have hnl0 := hS.len
  have ik : (k : Int) < (n : Int) := by omega
  have HC : Hid (Seen W a n l ∧ Keeps None w W ∧ W.heap[X]? = some (.cells (stA x (.slice va vn vc)) 85 (0, 0)) ∧ InC l x ∧ histB l = true ∧ n = l.length ∧ l[k]? = some z ∧ k < n) := ⟨hS.more hal, hal, bX, hx, hh, hS.len, hz, by omega⟩
  obtain ⟨R, hRR⟩ : ∃ R, R = inB l x z 4 := ⟨_, rfl⟩
  have HR : Hid (R = inB l x z 4) := hRR
  rw [← hRR]
  clear hS hx hal bX hRR hh hz hkl hnl0
  go_enter Try.func50, Try.ntmps50
  go_upto_region 1 with fail
  rw [← hW, ← hX]
  clear hW hX
  go_wp2_with fail
  go_loopw [7] (fun s7 wr => ∃ i : Nat, i ≤ 4 ∧ s7 = .int .i64 i ∧ inB l x z i = true ∧ Keeps None W wr) (fun i _ => 4 - (intOf i).toNat)
  case atStart => exact ⟨0, by omega, rfl, rfl, Keeps.refl _ _⟩
  case round =>
    obtain ⟨i, hi, rfl, ht, hkp⟩ := hrel
    by_cases hi4 : i < 4
    · have i1 : (i : Int) < 4 := by omega
      have c1 : wr.cell? ⟨X, i, none⟩ = some (.int .i64 (x.at i : Int)) := (blk_cell (blk_kept HC.out.2.2.1 hkp (fun f => f)) i).trans (stA_at _ _ hi4)
      have hnx := rnext_ok a n c l i (x.at i) wr (HC.out.1.more hkp) h40 (HC.out.2.2.2.1.at (by have := HC.out.2.2.2.2.2.1; omega) hi4)
      obtain ⟨J, hJ⟩ : ∃ J, J = nxI (nxt l x i) := ⟨_, rfl⟩
      have HNX : Hid (Calls Try.prog 49 #[.slice a n c, .int .i64 (i : Int), .int .i64 (x.at i : Int)] wr fun e w' => e = .returned (.int .i64 J) ∧ Keeps None wr w') := by rw [hJ]; exact hnx
      have HT : Hid (inB l x z i = true ∧ Keeps None W wr) := ⟨ht, hkp⟩
      clear hnx ht hkp
      generalize x.at i = xi at *
      cases hn : nxt l x i with
      | none =>
        rw [hn] at hJ
        have hJ2 : J = -1 := hJ
        subst hJ2
        have HF : Hid (inB l x z (i + 1) = true) := by unfold Hid; rw [in_more, HT.out.1, inI_none hn]; rfl
        clear hn hJ
        go_upto_region 5 with (go_at_call 49; refine Calls.mono HNX.out ?_; rintro _ w4 ⟨rfl, hk4⟩; have H4 : Hid _ := hk4; clear hk4)
        go_quiet (fail)
        go_wp2_with fail
        exact ⟨⟨i + 1, by omega, by go_num, HF.out, (HT.out.2.trans H4.out (fun _ f _ => f)).trans (drewN_keeps _ _) (fun _ f _ => f)⟩, by simp [intOf]; omega⟩
      | some j =>
        rw [hn] at hJ
        obtain ⟨q, rfl, hq, hqw⟩ := nxt_is hn
        have hJ2 : J = (q : Int) := hJ
        subst hJ2
        have hnl := HC.out.2.2.2.2.2.1
        obtain ⟨y, hy⟩ : ∃ y, l[q]? = some y := ⟨l[q], by simp⟩
        obtain ⟨bb, oo, rfl, _, _⟩ := HC.out.1.ex (by omega)
        have i2 : (q : Int) < (n : Int) := by omega
        have hf := inI_some (z := z) hn hy
        by_cases hqk : q = k
        · have e2 : ((q : Int) != (k : Int)) = false := by simp [hqk]
          have HF : Hid (inB l x z (i + 1) = true) := by
            unfold Hid
            rw [in_more, HT.out.1, hf]
            subst hqk
            have e3 : y = z := by have := HC.out.2.2.2.2.2.2.1; rw [hy] at this; injection this
            subst e3
            rw [ahead_self (hist_fits HC.out.2.2.2.2.1 hy)]
            rfl
          clear hn hf hy hq hqw hnl hJ hqk
          go_upto_region 5 with (go_at_call 49; refine Calls.mono HNX.out ?_; rintro _ w4 ⟨rfl, hk4⟩; have H4 : Hid _ := hk4; clear hk4)
          go_quiet (fail)
          go_wp2_with fail
          exact ⟨⟨i + 1, by omega, by go_num, HF.out, (HT.out.2.trans H4.out (fun _ f _ => f)).trans (drewN_keeps _ _) (fun _ f _ => f)⟩, by simp [intOf]; omega⟩
        · have e2 : ((q : Int) != (k : Int)) = true := by simp; omega
          have hah := fun wx => rahead_ok y z wx
          rw [ahead_same (hist_fits HC.out.2.2.2.2.1 hy)] at hah
          obtain ⟨ab, hab⟩ : ∃ ab, ab = aheadB y z := ⟨_, rfl⟩
          rw [← hab] at hah hf
          have HAH : Hid (∀ wx, Calls Try.prog 44 #[.agg #[.int .i64 y.who, .int .i64 y.kind, .int .i64 y.arg, .int .i64 y.beg, .int .i64 y.fin, .int .i64 y.code, .int .i64 y.v], .agg #[.int .i64 z.who, .int .i64 z.kind, .int .i64 z.arg, .int .i64 z.beg, .int .i64 z.fin, .int .i64 z.code, .int .i64 z.v]] wx fun e w' => e = .returned (.bool ab) ∧ Keeps None wx w') := hah
          have HF : Hid (inI l x z i = !ab) := hf
          have HY : Hid (l[q]? = some y) := hy
          clear hn hf hy hah hq hqw hnl hab hJ hqk
          go_upto_region 5 with (go_at_call 49; refine Calls.mono HNX.out ?_; rintro _ w4 ⟨rfl, hk4⟩)
          have k4 := HT.out.2.trans hk4 (fun _ f _ => f)
          obtain ⟨bb', oo', e', hb', hcl⟩ := (HC.out.1.more k4).ex (by have := HC.out.2.2.2.2.2.2.2; omega)
          injection e' with e'
          injection e' with e1 e3
          subst e1 e3
          obtain ⟨y0, y1, y2, y3, y4, y5, y6⟩ := hcl q y HY.out
          obtain ⟨z0, z1, z2, z3, z4, z5, z6⟩ := hcl k z HC.out.2.2.2.2.2.2.1
          have H4 : Hid (Keeps None W w4) := k4
          have HSA : Hid (∀ w', Keeps None w4 w' → (w'.cell? ⟨bb, oo + q * 7, none⟩ = some (.int .i64 y.who) ∧ w'.cell? ⟨bb, oo + q * 7 + 1, none⟩ = some (.int .i64 y.kind) ∧ w'.cell? ⟨bb, oo + q * 7 + 2, none⟩ = some (.int .i64 y.arg) ∧ w'.cell? ⟨bb, oo + q * 7 + 3, none⟩ = some (.int .i64 y.beg) ∧ w'.cell? ⟨bb, oo + q * 7 + 4, none⟩ = some (.int .i64 y.fin) ∧ w'.cell? ⟨bb, oo + q * 7 + 5, none⟩ = some (.int .i64 y.code) ∧ w'.cell? ⟨bb, oo + q * 7 + 6, none⟩ = some (.int .i64 y.v)) ∧ w'.cell? ⟨bb, oo + k * 7, none⟩ = some (.int .i64 z.who) ∧ w'.cell? ⟨bb, oo + k * 7 + 1, none⟩ = some (.int .i64 z.kind) ∧ w'.cell? ⟨bb, oo + k * 7 + 2, none⟩ = some (.int .i64 z.arg) ∧ w'.cell? ⟨bb, oo + k * 7 + 3, none⟩ = some (.int .i64 z.beg) ∧ w'.cell? ⟨bb, oo + k * 7 + 4, none⟩ = some (.int .i64 z.fin) ∧ w'.cell? ⟨bb, oo + k * 7 + 5, none⟩ = some (.int .i64 z.code) ∧ w'.cell? ⟨bb, oo + k * 7 + 6, none⟩ = some (.int .i64 z.v)) := fun w' hk => ⟨⟨hk.cell y0 (fun f => f), hk.cell y1 (fun f => f), hk.cell y2 (fun f => f), hk.cell y3 (fun f => f), hk.cell y4 (fun f => f), hk.cell y5 (fun f => f), hk.cell y6 (fun f => f)⟩, hk.cell z0 (fun f => f), hk.cell z1 (fun f => f), hk.cell z2 (fun f => f), hk.cell z3 (fun f => f), hk.cell z4 (fun f => f), hk.cell z5 (fun f => f), hk.cell z6 (fun f => f)⟩
          clear hk4 k4 hcl hb' c1
          go_cut [37] (fun s37 wx => s37 = .bool ab ∧ Keeps None w4 wx)
          case first =>
            go_region_held3 (fun w' => (w'.cell? ⟨bb, oo + q * 7, none⟩ = some (.int .i64 y.who) ∧ w'.cell? ⟨bb, oo + q * 7 + 1, none⟩ = some (.int .i64 y.kind) ∧ w'.cell? ⟨bb, oo + q * 7 + 2, none⟩ = some (.int .i64 y.arg) ∧ w'.cell? ⟨bb, oo + q * 7 + 3, none⟩ = some (.int .i64 y.beg) ∧ w'.cell? ⟨bb, oo + q * 7 + 4, none⟩ = some (.int .i64 y.fin) ∧ w'.cell? ⟨bb, oo + q * 7 + 5, none⟩ = some (.int .i64 y.code) ∧ w'.cell? ⟨bb, oo + q * 7 + 6, none⟩ = some (.int .i64 y.v)) ∧ w'.cell? ⟨bb, oo + k * 7, none⟩ = some (.int .i64 z.who) ∧ w'.cell? ⟨bb, oo + k * 7 + 1, none⟩ = some (.int .i64 z.kind) ∧ w'.cell? ⟨bb, oo + k * 7 + 2, none⟩ = some (.int .i64 z.arg) ∧ w'.cell? ⟨bb, oo + k * 7 + 3, none⟩ = some (.int .i64 z.beg) ∧ w'.cell? ⟨bb, oo + k * 7 + 4, none⟩ = some (.int .i64 z.fin) ∧ w'.cell? ⟨bb, oo + k * 7 + 5, none⟩ = some (.int .i64 z.code) ∧ w'.cell? ⟨bb, oo + k * 7 + 6, none⟩ = some (.int .i64 z.v)) (first | exact hs2 | go_keep) (first | (go_at_call 44; refine Calls.mono (HAH.out _) ?_; rintro _ w5 ⟨rfl, hk5⟩; have hk6 : Keeps None w4 w5 := (Keeps.drew None w4).trans hk5 (fun _ f _ => f); have hs2 := HSA.out w5 hk6))
            all_goals (go_wp2_with fail; go_meet)
            all_goals exact ⟨rfl, hk6⟩
          case rest =>
            obtain ⟨rfl, hkc⟩ := hcut
            have H5 : Hid (Keeps None W wc) := H4.out.trans hkc (fun _ f _ => f)
            clear hkc HSA y0 y1 y2 y3 y4 y5 y6 z0 z1 z2 z3 z4 z5 z6
            cases hab : ab with
            | false =>
              subst hab
              have HG : Hid (inB l x z (i + 1) = true) := by unfold Hid; rw [in_more, HT.out.1, HF.out]; rfl
              go_wp2_with fail
              exact ⟨⟨i + 1, by omega, by go_num, HG.out, H5.out⟩, by simp [intOf]; omega⟩
            | true =>
              subst hab
              have HG : Hid (R = false) := by rw [HR.out]; exact in_not hi4 HF.out
              go_wp2_with fail
              go_ret
              exact ⟨by rw [HG.out]; rfl, HC.out.2.1.trans H5.out (fun _ f _ => f)⟩
    · have i1 : ¬ ((i : Int) < 4) := by omega
      have hi' : i = 4 := by omega
      subst hi'
      have HF : Hid (R = true ∧ Keeps None w wr) := ⟨HR.out.trans ht, HC.out.2.1.trans hkp (fun _ f _ => f)⟩
      clear ht hkp
      go_wp2_with fail
      go_ret
      exact ⟨by rw [HF.out.1]; rfl, HF.out.2⟩
end Go.Proofs.Ytheginjjncnheaa
