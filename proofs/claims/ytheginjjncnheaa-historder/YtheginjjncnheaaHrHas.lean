import Derived.Test.YtheginjjncnheaaHrStep
import Derived.Deep.LoopGhost
import Derived.Deep.CutBlock
/-! The document's search for an order: does a history have one? -/
namespace Go.Proofs.Ytheginjjncnheaa
set_option linter.unusedVariables false
set_option maxRecDepth 20000
set_option linter.unusedSimpArgs false
open Go.RowKit Go.HeapKit

/-- What Has tells. -/
def HasPost (w : World) (l : List Cl) (most : Nat) (e : Ending) (w' : World) : Prop := ∃ b : Bool, e = .returned (.bool b) ∧ Keeps None w w' ∧ (b = true → ∃ x zs, Rch l most x zs ∧ thrB l x 4 = true) ∧ (b = false → ∀ x zs, Rch l most x zs → thrB l x 4 = false)
theorem bldZ (w : World) : (Instr.build 85 #[]).run Try.prog w = .ok (.agg #[.int .i64 0, .int .i64 0, .int .i64 0, .int .i64 0, .slice none 0 0]) w := run_build _ _ _ _ (by kernel_rfl)
theorem strip_at {T : List St} {i : Nat} {t : St} (h : T[i]? = some t) : (strip T)[i]? = some (t.1, t.2.2) := by
  unfold strip
  rw [List.getElem?_map, h]
  rfl
set_option maxHeartbeats 8000000 in
theorem has_ok (a : Option Addr) (n c : Nat) (l : List Cl) (most : Nat) (w : World) (hS : Seen w a n l) (h40 : n ≤ 40) (hm : most ≤ 4096) (hh : histB l = true) :
    Calls Try.prog 28 #[.slice a n c, .int .i64 (most : Int)] w (HasPost w l most) := by
  have HC : Hid (Seen w a n l ∧ histB l = true ∧ n = l.length ∧ l.length ≤ 40) := ⟨hS, hh, hS.len, by have := hS.len; omega⟩
  have hal := Keeps.alloc None w (.cells #[.int .i64 0, .int .i64 0, .int .i64 0, .int .i64 0, .slice none 0 0] 85)
  have bA := heap_alloc_new w (.cells #[.int .i64 0, .int .i64 0, .int .i64 0, .int .i64 0, .slice none 0 0] 85)
  obtain ⟨W, hW⟩ : ∃ W, W = w.alloc (.cells #[.int .i64 0, .int .i64 0, .int .i64 0, .int .i64 0, .slice none 0 0] 85) := ⟨_, rfl⟩
  obtain ⟨X, hX⟩ : ∃ X, X = w.heap.size := ⟨_, rfl⟩
  rw [← hW] at hal bA
  rw [← hX] at bA
  have HW : Hid (Keeps None w W ∧ Sts W w.heap.size (.slice (some ⟨X, 0, none⟩) 1 1) [(c0, .slice none 0 0, [])]) := by
    refine ⟨hal, ⟨⟨rfl, .inr ⟨X, 1, _, rfl, by omega, bA, Nat.le_refl _, by decide, by decide, rfl⟩⟩, fun t ht => ?_⟩⟩
    rw [List.mem_singleton] at ht
    subst ht
    exact .inl ⟨rfl, rfl⟩
  have hbz := bldZ w
  clear hS hh hal bA
  go_enter Try.func28, Try.ntmps28
  go_upto_block 0 with fail
  rw [← hW, ← hX]
  clear hW hX hbz
  obtain ⟨n₀, hn₀⟩ : ∃ n₀ : Nat, n₀ = 162 := ⟨_, rfl⟩
  have HN : Hid (n₀ = 162) := hn₀
  clear hn₀
  go_wp2_with fail
  go_loopg [5] n₀ (fun k s5 wr => ∃ (R : List St) (lv : Nat), k + lv = 162 ∧ lv ≤ 161 ∧ Sts wr w.heap.size s5 R ∧ Row l most lv (strip R) ∧ Keeps None w wr)
  case atStart => exact ⟨_, 0, HN.out, by omega, HW.out.2, Row.first l most, HW.out.1⟩
  case round =>
    clear HW HN
    obtain ⟨R, lv, hk, hlv, hst, hrow, hkp⟩ := hrel
    obtain ⟨ra, rc, rfl⟩ := hst.shape
    generalize wr = W1 at *
    by_cases hR : R = []
    · subst hR
      have HF : Hid (HasPost w l most (.returned (.bool false)) W1) := ⟨false, rfl, hkp, fun h => by (cases h), fun _ => Row.none hrow⟩
      clear hst hrow hkp
      go_wp2_with fail
      go_ret
      exact HF.out
    · have hlv2 : lv ≤ 160 := by
        obtain ⟨t, r, e⟩ := List.exists_cons_of_ne_nil hR
        subst e
        obtain ⟨_, h2, h3⟩ := hrow.lev.ok (t.1, t.2.2) (by simp [strip])
        have := h2.sum HC.out.2.2.2
        omega
      have hNp : 0 < R.length := List.length_pos_iff.2 hR
      have hNf : R.length ≤ 2825761 := by have := hrow.lev.few; rw [strip_len] at this; omega
      obtain ⟨N, hN⟩ : ∃ N, N = R.length := ⟨_, rfl⟩
      have H1 : Hid (Sts W1 w.heap.size (.slice ra N rc) R ∧ Row l most lv (strip R) ∧ Keeps None w W1 ∧ N = R.length) := by
        rw [hN]
        exact ⟨hst, hrow, hkp, rfl⟩
      rw [← hN] at hNp hNf ⊢
      have i0 : (0 : Int) < (N : Int) := by omega
      clear hst hrow hkp hR hN
      go_wp2_with fail
      go_loopw [6, 7] (fun s6 s7 w2 => ∃ (T : List St) (i : Nat), i ≤ N ∧ s7 = .int .i64 i ∧ Sts w2 W1.heap.size s6 T ∧ Lev l most (lv + 1) (strip T) ∧ Cov l most (strip R) (strip T) i 0 ∧ Keeps None W1 w2) (fun _ i _ => N - (intOf i).toNat)
      case atStart => exact ⟨[], 0, Nat.zero_le _, rfl, ⟨row_nil _ _ _ _, fun t ht => by (cases ht)⟩, Lev.nil _ _ _, Cov.nil _ _ _, Keeps.refl _ _⟩
      case round =>
        obtain ⟨T, i, hi, rfl, hT, hlev, hcov, hk2⟩ := hrel
        obtain ⟨ta, tc, rfl⟩ := hT.shape
        by_cases hiN : i < N
        · have i1 : (i : Int) < (N : Int) := by omega
          obtain ⟨t, ht⟩ : ∃ t, R[i]? = some t := ⟨R[i]'(by have := H1.out.2.2.2; omega), by simp⟩
          obtain ⟨x, v, zs⟩ := t
          have hRs := H1.out.1.more hk2
          obtain ⟨g, cap, e, hb, hcap, hc⟩ := hRs.at ht
          injection e with e1 e2 e3
          subst e1 e3
          have hv := hRs.held _ (List.mem_of_getElem? ht)
          obtain ⟨va, vn, vc, hve⟩ : ∃ va vn vc, v = .slice va vn vc := by obtain ⟨va, vc, e, -⟩ := hv.shape; exact ⟨va, _, vc, e⟩
          subst hve
          obtain ⟨hrch, hinc, hsum⟩ := H1.out.2.1.lev.ok (x, zs) (List.mem_of_getElem? (strip_at ht))
          have k1 := H1.out.2.2.1.trans hk2 (fun _ f _ => f)
          obtain ⟨O, hO⟩ : ∃ O, O = thrB l x 4 := ⟨_, rfl⟩
          have HOV : Hid (Calls Try.prog 42 #[.slice a n c, .agg #[.int .i64 x.a, .int .i64 x.b, .int .i64 x.c, .int .i64 x.d, .slice va vn vc]] wr fun e w' => e = .returned (.bool O) ∧ Keeps None wr w') := by
            rw [hO]
            exact rover_ok a n c l x va vn vc _ (HC.out.1.more k1) h40 HC.out.2.1 hinc
          have y0 : wr.cell? ⟨g, i * 5, none⟩ = some (.int .i64 x.a) := hc 0 _ rfl
          have y1 : wr.cell? ⟨g, i * 5 + 1, none⟩ = some (.int .i64 x.b) := hc 1 _ rfl
          have y2 : wr.cell? ⟨g, i * 5 + 2, none⟩ = some (.int .i64 x.c) := hc 2 _ rfl
          have y3 : wr.cell? ⟨g, i * 5 + 3, none⟩ = some (.int .i64 x.d) := hc 3 _ rfl
          have y4 : wr.cell? ⟨g, i * 5 + 4, none⟩ = some (.slice va vn vc) := hc 4 _ rfl
          have H2 : Hid (Sts wr W1.heap.size (.slice ta T.length tc) T ∧ Lev l most (lv + 1) (strip T) ∧ Cov l most (strip R) (strip T) i 0 ∧ Keeps None W1 wr ∧ R[i]? = some (x, .slice va vn vc, zs) ∧ Rch l most x zs ∧ InC l x ∧ x.sum = lv ∧ O = thrB l x 4 ∧ Keeps None w wr) := ⟨hT, hlev, hcov, hk2, ht, hrch, hinc, hsum, hO, k1⟩
          clear hT hlev hcov hk2 ht hrch hinc hsum hO hRs hc hv hb hcap k1 e2
          generalize T.length = TN at *
          cases O with
          | true =>
            have HF : Hid (∀ w', Keeps None wr w' → HasPost w l most (.returned (.bool true)) w') := fun w' hk => ⟨true, rfl, H2.out.2.2.2.2.2.2.2.2.2.trans hk (fun _ f _ => f), fun _ => ⟨x, zs, H2.out.2.2.2.2.2.1, H2.out.2.2.2.2.2.2.2.2.1.symm⟩, fun h => by (cases h)⟩
            go_wp2_with (go_at_call 42; refine Calls.mono HOV.out ?_; rintro _ w4 ⟨rfl, hk4⟩; have H4 : Hid _ := hk4; clear hk4)
            go_ret
            exact HF.out _ H4.out
          | false =>
            have HT4 : Hid (thrB l x 4 = false) := H2.out.2.2.2.2.2.2.2.2.1.symm
            go_wp2_with (go_at_call 42; refine Calls.mono HOV.out ?_; rintro _ w4 ⟨rfl, hk4⟩; have H4 : Hid _ := hk4; clear hk4)
            go_loopw [6, 8] (fun s6 s8 w5 => ∃ (T' : List St) (u : Nat), u ≤ 4 ∧ s8 = .int .i64 u ∧ Sts w5 W1.heap.size s6 T' ∧ Lev l most (lv + 1) (strip T') ∧ Cov l most (strip R) (strip T') i u ∧ Keeps None W1 w5) (fun _ u _ => 4 - (intOf u).toNat)
            case atStart => exact ⟨T, 0, by omega, rfl, H2.out.1.more H4.out, H2.out.2.1, H2.out.2.2.1, H2.out.2.2.2.1.trans H4.out (fun _ f _ => f)⟩
            case round =>
              clear y0 y1 y2 y3 y4 HOV H4
              obtain ⟨T', u, hu, rfl, hT, hlev, hcov, hk2⟩ := hrel
              obtain ⟨ta', tc', rfl⟩ := hT.shape
              by_cases hu4 : u < 4
              · have i2 : (u : Int) < 4 := by omega
                have hRs := H1.out.1.more hk2
                obtain ⟨g', cap', e', hb, hcap, hc⟩ := hRs.at H2.out.2.2.2.2.1
                injection e' with e1 e2 e3
                injection e1 with e1
                injection e1 with e1
                subst e1 e3
                have hv := hRs.held _ (List.mem_of_getElem? H2.out.2.2.2.2.1)
                have y0 : wr.cell? ⟨g, i * 5, none⟩ = some (.int .i64 x.a) := hc 0 _ rfl
                have y1 : wr.cell? ⟨g, i * 5 + 1, none⟩ = some (.int .i64 x.b) := hc 1 _ rfl
                have y2 : wr.cell? ⟨g, i * 5 + 2, none⟩ = some (.int .i64 x.c) := hc 2 _ rfl
                have y3 : wr.cell? ⟨g, i * 5 + 3, none⟩ = some (.int .i64 x.d) := hc 3 _ rfl
                have y4 : wr.cell? ⟨g, i * 5 + 4, none⟩ = some (.slice va vn vc) := hc 4 _ rfl
                have k1 := H1.out.2.2.1.trans hk2 (fun _ f _ => f)
                have hst := rstep_ok a n c l most x va vn vc zs u W1.heap.size ta' T'.length tc' T' wr (HC.out.1.more k1) h40 hm HC.out.2.1 H2.out.2.2.2.2.2.2.1 H2.out.2.2.2.2.2.1 hu4 hv hT hk2.size (by have := hlev.few; rw [strip_len] at this; omega)
                have HST : Hid (Calls Try.prog 43 #[.slice a n c, .int .i64 (most : Int), .agg #[.int .i64 x.a, .int .i64 x.b, .int .i64 x.c, .int .i64 x.d, .slice va vn vc], .int .i64 (u : Int), .slice ta' T'.length tc'] wr fun e w' => ∃ (ta2 : Option Addr) (tn2 tc2 : Nat) (T2 : List St), e = .returned (.slice ta2 tn2 tc2) ∧ Sts w' W1.heap.size (.slice ta2 tn2 tc2) T2 ∧ Lev l most (lv + 1) (strip T2) ∧ Cov l most (strip R) (strip T2) i (u + 1) ∧ Keeps None W1 w') := hst.mono fun e w' hp => by
                  obtain ⟨sv', T2, rfl, hs2, hst2, hkk⟩ := hp
                  obtain ⟨ta2, tc2, rfl⟩ := hs2.shape
                  refine ⟨_, _, _, T2, rfl, hs2, ?_, ?_, hk2.trans hkk (fun k e hk => by have := row_low hT.row e; omega)⟩
                  · rw [hst2]
                    exact hlev.step HC.out.2.2.2 H2.out.2.2.2.2.2.1 H2.out.2.2.2.2.2.2.1 H2.out.2.2.2.2.2.2.2.1 hu4
                  · rw [hst2]
                    exact hcov.step (strip_at H2.out.2.2.2.2.1) HT4.out
                clear hst hT hlev hcov hk2 hRs hc hv hb hcap k1 e2
                generalize T'.length = TN' at *
                go_wp2_with (go_at_call 43; refine Calls.mono HST.out ?_; rintro _ w6 ⟨ta2, tn2, tc2, T2, rfl, hp⟩; have H6 : Hid _ := hp; clear hp)
                exact ⟨⟨T2, u + 1, by omega, by go_num, H6.out⟩, by simp [intOf]; omega⟩
              · have hu5 : u = 4 := by omega
                subst hu5
                have HF : Hid (Sts wr W1.heap.size (.slice ta' T'.length tc') T' ∧ Lev l most (lv + 1) (strip T') ∧ Cov l most (strip R) (strip T') (i + 1) 0 ∧ Keeps None W1 wr) := ⟨hT, hlev, hcov.next, hk2⟩
                clear hT hlev hcov hk2
                generalize hTN : T'.length = TN' at *
                go_wp2_with fail
                exact ⟨⟨T', i + 1, by omega, by go_num, HF.out⟩, by simp [intOf]; omega⟩
        · have hi2 : i = N := by omega
          subst hi2
          have HF : Hid (Sts wr w.heap.size (.slice ta T.length tc) T ∧ Row l most (lv + 1) (strip T) ∧ Keeps None w wr) := by
            have hN := H1.out.2.2.2
            refine ⟨⟨row_base hT.row H1.out.2.2.1.size, hT.held⟩, H1.out.2.1.later HC.out.2.1 hlev ?_, H1.out.2.2.1.trans hk2 (fun _ f _ => f)⟩
            rw [strip_len, ← hN]
            exact hcov
          clear hT hlev hcov hk2 hiN
          have i1 : ¬ (i : Int) < (i : Int) := by omega
          go_wp2_with fail
          go_roundg (gk - 1)
          case measure => omega
          case rel => exact ⟨T, lv + 1, by omega, by omega, HF.out⟩
end Go.Proofs.Ytheginjjncnheaa
