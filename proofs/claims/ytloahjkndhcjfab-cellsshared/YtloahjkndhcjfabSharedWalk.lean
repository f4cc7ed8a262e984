import Derived.Test.YtloahjkndhcjfabSharedPair
import Derived.Test.YtloahjkndhcjfabOpenStruct
/-! The walk of CellsShared. -/
namespace Go.Proofs.Ytloahjkndhcjfab
open Go.RowKit Go.HeapKit

/-- A slice of moves that came in: its rows of five numbers. -/
def Moves (w : World) (ao : Option Addr) (len : Nat) (M : Nat → Nat → Int) : Prop :=
  0 < len → ∃ b0 off, ao = some ⟨b0, off, none⟩ ∧ b0 < w.heap.size ∧ ∀ i, i < len → w.cell? ⟨b0, off + i * 5, none⟩ = some (.int .i64 (M i 0)) ∧ w.cell? ⟨b0, off + i * 5 + 1, none⟩ = some (.int .i64 (M i 1)) ∧ w.cell? ⟨b0, off + i * 5 + 2, none⟩ = some (.int .i64 (M i 2)) ∧ w.cell? ⟨b0, off + i * 5 + 3, none⟩ = some (.int .i64 (M i 3)) ∧ w.cell? ⟨b0, off + i * 5 + 4, none⟩ = some (.int .i64 (M i 4))

set_option maxHeartbeats 4000000 in
set_option maxRecDepth 100000 in
theorem shared_walk (n0 n1 : Int) (ao : Option Addr) (len cap : Nat) (M : Nat → Nat → Int) (w : World) (hlen : len ≤ cap) (hcap : cap * 40 ≤ 140737488351232) (hM : Moves w ao len M) :
    Calls Try.prog 4 #[.int .i64 n0, .int .i64 n1, .slice ao len cap] w fun e w' => e = .returned (.bool true) ∧ Below w.heap.size w w' := by
  have HM : Hid (Moves w ao len M) := hM
  clear hM
  go_enter Try.func4, Try.ntmps4
  go_wp2_with fail
  refine (rnew_any n0 w).mono ?_
  rintro e w1 ⟨rfl, hr0, hk1⟩
  go_wp2_with fail
  refine (rnew_any n1 w1).mono ?_
  rintro e w2 ⟨rfl, hr1, hk2⟩
  go_wp2_with fail
  refine (shnew_any n0 w2).mono ?_
  rintro e w3 ⟨sv0, F0, rfl, hs0, hk3, hF0, hv0⟩
  go_wp2_with fail
  refine (shnew_any n1 w3).mono ?_
  rintro e w4 ⟨sv1, F1, rfl, hs1, hk4, hF1, hv1⟩
  have HP : Hid (Pair w.heap.size w4 (fun c => if c then sv1 else sv0) (fun c => if c then F1 else F0) (fun c => if c then w1.heap.size else w.heap.size) (fun c => if c then Ar.new (szOf n1) else Ar.new (szOf n0)) (fun c => if c then Ar.new (szOf n1) else Ar.new (szOf n0)) ∧ Below w.heap.size w w4) := pair_new hr0 hk1 hr1 hk2 hs0 hk3 hF0 hs1 hk4 hF1
  have HV : Hid (((fine n0 = false ∧ sv0 = .pointer none) ∨ (fine n0 = true ∧ ∃ p, sv0 = .pointer (some ⟨p, 0, none⟩))) ∧ ((fine n1 = false ∧ sv1 = .pointer none) ∨ (fine n1 = true ∧ ∃ p, sv1 = .pointer (some ⟨p, 0, none⟩)))) := ⟨hv0, hv1⟩
  clear hr0 hk1 hr1 hk2 hs0 hk3 hF0 hs1 hk4 hF1 hv0 hv1
  go_upto_region 5 with fail
  go_cut [62] (fun s62 wc => s62 = .bool false ∧ wc = w4)
  case first =>
    rcases HV.out with ⟨⟨f0, rfl⟩ | ⟨f0, p0, rfl⟩, ⟨f1, rfl⟩ | ⟨f1, p1, rfl⟩⟩
    · have b0 : (errOf n0 != 0) = true := by unfold errOf; rw [f0]; rfl
      have b1 : (errOf n1 != 0) = true := by unfold errOf; rw [f1]; rfl
      go_wp2
      go_meet
      case rel => exact ⟨rfl, rfl⟩
    · have b0 : (errOf n0 != 0) = true := by unfold errOf; rw [f0]; rfl
      have b1 : (errOf n1 != 0) = false := by unfold errOf; rw [f1]; rfl
      go_wp2
      go_meet
      case rel => exact ⟨rfl, rfl⟩
    · have b0 : (errOf n0 != 0) = false := by unfold errOf; rw [f0]; rfl
      have b1 : (errOf n1 != 0) = true := by unfold errOf; rw [f1]; rfl
      go_wp2
      go_meet
      case rel => exact ⟨rfl, rfl⟩
    · have b0 : (errOf n0 != 0) = false := by unfold errOf; rw [f0]; rfl
      have b1 : (errOf n1 != 0) = false := by unfold errOf; rw [f1]; rfl
      go_wp2
      go_meet
      case rel => exact ⟨rfl, rfl⟩
  case rest =>
    obtain ⟨rfl, rfl⟩ := hcut
    clear HV
    obtain ⟨sv, F, q, HS, HP2⟩ : ∃ (sv : Bool → Value) (F : Bool → Nat → Prop) (q : Bool → Nat), Hid (sv false = sv0 ∧ sv true = sv1 ∧ q false = w.heap.size ∧ q true = w1.heap.size) ∧ Hid (Pair w.heap.size wc sv F q (fun c => if c then Ar.new (szOf n1) else Ar.new (szOf n0)) (fun c => if c then Ar.new (szOf n1) else Ar.new (szOf n0)) ∧ Below w.heap.size w wc) :=
      ⟨_, _, _, ⟨rfl, rfl, rfl, rfl⟩, HP.out⟩
    clear HP
    go_wp2_with fail
    go_loopw [15, 16, 17, 18, 19, 20] (fun i _ _ _ _ _ wr => ∃ k : Nat, k ≤ len ∧ i = .int .i64 k ∧ Below w.heap.size w wr ∧ ∃ A, (∀ c, (A c).log = []) ∧ Pair w.heap.size wr sv F q A A) (fun i _ _ _ _ _ _ => len - (intOf i).toNat)
    case atStart => exact ⟨0, Nat.zero_le _, rfl, HP2.out.2, _, fun c => by cases c <;> rfl, HP2.out.1⟩
    case round =>
      clear HP2
      obtain ⟨k, hk, rfl, hb, A, hlog, hP⟩ := hrel
      have HB : Hid (Below w.heap.size w wr ∧ (∀ c, (A c).log = []) ∧ Pair w.heap.size wr sv F q A A) := ⟨hb, hlog, hP⟩
      clear hb hlog hP
      by_cases hkn : k < len
      · obtain ⟨b0, off, rfl, hb0, hcell⟩ := HM.out (by omega)
        have m0 := (HB.out.1.cell (p := ⟨b0, off + k * 5, none⟩) hb0).trans (hcell k hkn).1
        have m1 := (HB.out.1.cell (p := ⟨b0, off + k * 5 + 1, none⟩) hb0).trans (hcell k hkn).2.1
        have m2 := (HB.out.1.cell (p := ⟨b0, off + k * 5 + 2, none⟩) hb0).trans (hcell k hkn).2.2.1
        have m3 := (HB.out.1.cell (p := ⟨b0, off + k * 5 + 3, none⟩) hb0).trans (hcell k hkn).2.2.2.1
        have m4 := (HB.out.1.cell (p := ⟨b0, off + k * 5 + 4, none⟩) hb0).trans (hcell k hkn).2.2.2.2
        have i1 : (k : Int) < (len : Int) := by omega
        clear hcell
        generalize M k 0 = s at m0
        generalize M k 1 = kind at m1
        generalize M k 2 = x at m2
        generalize M k 3 = a at m3
        generalize M k 4 = b at m4
        go_upto_if 78 with (go_at_call 12; refine (mod2 s _).mono ?_; rintro e w' ⟨rfl, rfl⟩)
        go_cut [17, 18] (fun s17 s18 wx => ∃ c, s17 = sv c ∧ s18 = .pointer (some ⟨q c, 0, none⟩) ∧ wx = wr.alloc (.cells #[.int .i64 s, .int .i64 kind, .int .i64 x, .int .i64 a, .int .i64 b] 33))
        case first =>
          by_cases h2 : s % 2 = 1
          · have h2' : (s % 2 == 1) = true := by simpa using h2
            go_wp2
            go_meet
            case rel => exact ⟨true, HS.out.2.1.symm, by rw [HS.out.2.2.2], rfl⟩
          · have h2' : (s % 2 == 1) = false := by simpa using h2
            go_wp2
            go_meet
            case rel => exact ⟨false, HS.out.1.symm, by rw [HS.out.2.2.1], rfl⟩
        case rest =>
          obtain ⟨c, rfl, rfl, rfl⟩ := hcut
          clear m0 m1 m2 m3 m4
          obtain ⟨hPw, hBw⟩ := HB.out.2.2.alloc (.cells #[.int .i64 s, .int .i64 kind, .int .i64 x, .int .i64 a, .int .i64 b] 33)
          have HW : Hid (Below w.heap.size w (wr.alloc (.cells #[.int .i64 s, .int .i64 kind, .int .i64 x, .int .i64 a, .int .i64 b] 33)) ∧ (∀ c, (A c).log = []) ∧ Pair w.heap.size (wr.alloc (.cells #[.int .i64 s, .int .i64 kind, .int .i64 x, .int .i64 a, .int .i64 b] 33)) sv F q A A) := ⟨HB.out.1.trans hBw, HB.out.2.1, hPw⟩
          clear HB hPw hBw
          go_upto_region 16 with fail
          go_cut [88] (fun s88 wx => s88 = .bool (decide (0 ≤ kind) && decide (kind ≤ 4)) ∧ wx = wr.alloc (.cells #[.int .i64 s, .int .i64 kind, .int .i64 x, .int .i64 a, .int .i64 b] 33))
          case first =>
            by_cases h0 : 0 ≤ kind
            · by_cases h4 : kind ≤ 4
              · go_wp2
                go_meet
                case rel => exact ⟨by simp [h0, h4], rfl⟩
              · go_wp2
                go_meet
                case rel => exact ⟨by simp [h0, h4], rfl⟩
            · go_wp2
              go_meet
              case rel => exact ⟨by have h9 : ¬ 0 ≤ kind := by omega
                                    simp [h9], rfl⟩
          case rest =>
            obtain ⟨rfl, rfl⟩ := hcut
            go_upto_if 88 with fail
            go_cut [19, 20] (fun _ _ wx => Below w.heap.size w wx ∧ wx.heap[wr.heap.size]? = some (.cells #[.int .i64 s, .int .i64 kind, .int .i64 x, .int .i64 a, .int .i64 b] 33 (0, 0)) ∧ ∃ A, (∀ c, (A c).log = []) ∧ Pair w.heap.size wx sv F q A A)
            case first =>
              by_cases h04 : (decide (0 ≤ kind) && decide (kind ≤ 4)) = true
              · rw [h04]
                have hc1 := shared_any (sv c) (F c) (A c) s kind x a b _ (HW.out.2.2.sh c)
                have hkind : 0 ≤ kind ∧ kind ≤ 4 := by simpa using h04
                have hpl := (HW.out.2.2.sh c).plain
                have hdl := Ar.did_log hpl kind x a b
                generalize hD : (A c).did kind x a b = D at hc1 hdl
                obtain ⟨⟨v, ok, err⟩, X⟩ := D
                simp only [Eff.value] at hc1 hdl
                have HD : Hid ((A c).did kind x a b = (⟨v, ok, err⟩, X)) := hD
                clear hD hpl
                have hbx : (wr.alloc (.cells #[.int .i64 s, .int .i64 kind, .int .i64 x, .int .i64 a, .int .i64 b] 33)).heap[wr.heap.size]? = _ := new_at _ _ _ rfl
                go_wp2_with fail
                refine hc1.mono ?_
                rintro e w5 ⟨rfl, hs5, hk5⟩
                have hbx5 := sh_keep (HW.out.2.2.sh c) hk5 hbx (by decide) (by decide)
                obtain ⟨hP5, hB5⟩ := HW.out.2.2.step c hs5 hk5
                obtain ⟨hP6, hB6⟩ := hP5.alloc (.cells #[.int .i64 v, .bool ok, .int .i64 err] 36)
                have hbx6 := alloc_keep hbx5 (.cells #[.int .i64 v, .bool ok, .int .i64 err] 36)
                have he6 := new_at w5 (.cells #[.int .i64 v, .bool ok, .int .i64 err] 36) _ rfl
                have HQ : Hid (Below w.heap.size w (w5.alloc (.cells #[.int .i64 v, .bool ok, .int .i64 err] 36)) ∧ Pair w.heap.size (w5.alloc (.cells #[.int .i64 v, .bool ok, .int .i64 err] 36)) sv F q (upd A c X) A) := ⟨(HW.out.1.trans hB5).trans hB6, hP6⟩
                have x0 := (cell_of_block hbx6 0).trans rfl
                have x1 := (cell_of_block hbx6 1).trans rfl
                have x2 := (cell_of_block hbx6 2).trans rfl
                have x3 := (cell_of_block hbx6 3).trans rfl
                have x4 := (cell_of_block hbx6 4).trans rfl
                clear hs5 hk5 hP5 hB5 hP6 hB6 hc1
                go_wp2_with fail
                refine (act_any s kind x a b _).mono ?_
                rintro e w7 ⟨rfl, hk7⟩
                obtain ⟨hP7, hB7⟩ := HQ.out.2.kept hk7 (fun _ f => f.elim)
                have hbx7 := none_keep hk7 hbx6
                have he7 := none_keep hk7 he6
                obtain ⟨vh, vb, hr7, hst⟩ := hP7.ref c
                have hc2 := do_any (q c) vh vb (A c) 0 kind x a b w7 hr7 (by rw [HW.out.2.1 c]; decide) hkind
                rw [HD.out] at hc2
                simp only [Eff.value] at hc2
                clear x0 x1 x2 x3 x4
                go_wp2_with fail
                refine hc2.mono ?_
                rintro e w8 ⟨rfl, hR8⟩
                obtain ⟨hP8, hB8⟩ := hst w8 X hR8
                have hbx8 := rf_keep hr7 hR8 hbx7 (by decide) (by decide) (by decide)
                have he8 := rf_keep hr7 hR8 he7 (by decide) (by decide) (by decide)
                have he9 := alloc_keep he8 (.cells #[.int .i64 v, .bool ok, .int .i64 err] 36)
                have y0 := (cell_of_block he9 0).trans rfl
                have y1 := (cell_of_block he9 1).trans rfl
                have y2 := (cell_of_block he9 2).trans rfl
                obtain ⟨hP9, hB9⟩ := hP8.alloc (.cells #[.int .i64 v, .bool ok, .int .i64 err] 36)
                have hbx9 := alloc_keep hbx8 (.cells #[.int .i64 v, .bool ok, .int .i64 err] 36)
                have HR : Hid (Below w.heap.size w (w8.alloc (.cells #[.int .i64 v, .bool ok, .int .i64 err] 36)) ∧ (w8.alloc (.cells #[.int .i64 v, .bool ok, .int .i64 err] 36)).heap[wr.heap.size]? = some (.cells #[.int .i64 s, .int .i64 kind, .int .i64 x, .int .i64 a, .int .i64 b] 33 (0, 0)) ∧ ∃ A, (∀ c, (A c).log = []) ∧ Pair w.heap.size (w8.alloc (.cells #[.int .i64 v, .bool ok, .int .i64 err] 36)) sv F q A A) := by
                  refine ⟨((HQ.out.1.trans hB7).trans hB8).trans hB9, hbx9, upd A c X, fun d => ?_, hP9⟩
                  by_cases hd : d = c
                  · subst hd
                    rw [upd_same, hdl]
                    exact HW.out.2.1 d
                  · rw [other_of hd, upd_other]
                    exact HW.out.2.1 _
                clear hP7 hB7 hP8 hB8 hP9 hB9 hst hr7 hR8 hc2 hbx hbx5 hbx6 hbx7 hbx8 hbx9 he6 he7 he8 he9 hk7 HQ
                go_wp2
                go_meet
                case rel => exact HR.out
              · rw [Bool.not_eq_true] at h04
                rw [h04]
                go_wp2
                go_meet
                case rel => exact ⟨HW.out.1, new_at _ _ _ rfl, A, HW.out.2⟩
            case rest =>
              clear HW
              obtain ⟨wy, hwy⟩ : ∃ wy, wy = wc := ⟨_, rfl⟩
              subst hwy
              obtain ⟨hBy, hbx, A', hlog', hPy⟩ := hcut
              have HY : Hid (Below w.heap.size w wy ∧ (∀ c, (A' c).log = []) ∧ Pair w.heap.size wy sv F q A' A') := ⟨hBy, hlog', hPy⟩
              have x1 := (cell_of_block hbx 1).trans rfl
              obtain ⟨vh, vb, hr, -⟩ := hPy.ref c
              have y0 := hr.c0
              have y1 := hr.c1
              have HSH : Hid (IsSh wy (sv c) (F c) (A' c)) := hPy.sh c
              obtain ⟨ah, ch, rfl⟩ := own_shape hr.cells
              clear hBy hlog' hPy hr
              go_upto_region 21 with fail
              go_cut [110] (fun s110 wx => s110 = .bool false ∧ Keeps None wy wx)
              case first =>
                by_cases h7 : kind = 7
                · have h7' : (kind == 7) = true := by simpa using h7
                  go_wp2_with fail
                  go_quiet ((go_at_call 16; refine Calls.quiet_of_same (shsize_any (sv c) (F c) (A' c) _ (HSH.out.kept (Keeps.drewN None _ _) (fun _ _ f => f)))))
                  go_wp2_with fail
                  go_meet
                  case rel => exact ⟨by first | rfl | simp, Keeps.drewN None _ _⟩
                · have h7' : (kind == 7) = false := by simpa using h7
                  go_wp2_with fail
                  go_quiet (fail)
                  go_wp2_with fail
                  go_meet
                  case rel => exact ⟨rfl, Keeps.drewN None _ _⟩
              case rest =>
                obtain ⟨wz, hwz⟩ : ∃ wz, wz = wc := ⟨_, rfl⟩
                subst hwz
                obtain ⟨rfl, hkz⟩ := hcut
                have hbz := none_keep hkz hbx
                obtain ⟨hPz, hBz⟩ := HY.out.2.2.kept hkz (fun _ f => f.elim)
                have HZ : Hid (Below w.heap.size w wz ∧ (∀ c, (A' c).log = []) ∧ Pair w.heap.size wz sv F q A' A') := ⟨HY.out.1.trans hBz, HY.out.2.1, hPz⟩
                have HSZ : Hid (IsSh wz (sv c) (F c) (A' c)) := hPz.sh c
                obtain ⟨vh, vb, hr, -⟩ := hPz.ref c
                have z1 := (cell_of_block hbz 1).trans rfl
                have u1 := hr.c1
                obtain ⟨ai, ci, rfl⟩ := own_shape hr.cells
                clear x1 y0 y1 hbx hPz hBz hr HY HSH hkz hbz
                go_upto_region 23 with fail
                go_cut [123] (fun s123 wx => s123 = .bool false ∧ Keeps None wz wx)
                case first =>
                  by_cases h8 : kind = 8
                  · have h8' : (kind == 8) = true := by simpa using h8
                    go_wp2_with fail
                    go_quiet ((go_at_call 17; refine Calls.quiet_of_same (shmark_any (sv c) (F c) (A' c) _ (HSZ.out.kept (Keeps.drewN None _ _) (fun _ _ f => f)))))
                    go_wp2_with fail
                    go_meet
                    case rel => exact ⟨by first | rfl | simp, Keeps.drewN None _ _⟩
                  · have h8' : (kind == 8) = false := by simpa using h8
                    go_wp2_with fail
                    go_quiet (fail)
                    go_wp2_with fail
                    go_meet
                    case rel => exact ⟨rfl, Keeps.drewN None _ _⟩
                case rest =>
                  obtain ⟨rfl, hkv⟩ := hcut
                  obtain ⟨hPv, hBv⟩ := HZ.out.2.2.kept hkv (fun _ f => f.elim)
                  have HV : Hid (Below w.heap.size w wc ∧ ∃ A, (∀ c, (A c).log = []) ∧ Pair w.heap.size wc sv F q A A) := ⟨HZ.out.1.trans hBv, A', HZ.out.2.1, hPv⟩
                  clear hPv hBv hkv HZ HSZ z1 u1
                  go_wp2
                  go_roundw
                  case rel => exact ⟨k + 1, by omega, by go_num, HV.out.1, HV.out.2⟩
                  case measure => simp [intOf]; omega
      · obtain ⟨vh0, vb0, hr0, -⟩ := HB.out.2.2.ref false
        obtain ⟨vh1, vb1, hr1, -⟩ := HB.out.2.2.ref true
        have u0 := hr0.c1
        have u1 := hr1.c1
        rw [HS.out.2.2.1] at u0
        rw [HS.out.2.2.2] at u1
        have hh0 := holds_any (sv false) vh0 (F false) (A false) wr (HB.out.2.2.sh false) hr0.cells (by have := hr0.fit; omega)
        have hh1 := holds_any (sv true) vh1 (F true) (A true) wr (HB.out.2.2.sh true) hr1.cells (by have := hr1.fit; omega)
        rw [HS.out.1] at hh0
        rw [HS.out.2.1] at hh1
        clear hr0 hr1
        have HE : Hid (Below w.heap.size w wr) := HB.out.1
        clear HB
        go_wp2_with fail
        refine hh0.mono ?_
        rintro e w' ⟨rfl, rfl⟩
        clear hh0
        go_wp2_with fail
        refine hh1.mono ?_
        rintro e w' ⟨rfl, rfl⟩
        clear hh1
        go_wp2
        go_ret
        exact ⟨rfl, HE.out⟩

theorem grid_moves {w : World} {ao : Option Addr} {len cap : Nat} {g : List (List Int)} (h : IsGrid 5 w ao len cap g) : len ≤ cap ∧ Moves w ao len (fun i j => ((g.getD i []).getD j 0)) := by
  rcases h with ⟨rfl, rfl, rfl, rfl⟩ | ⟨x, rfl, hl, hm, hlen, hrow⟩
  · exact ⟨Nat.le_refl _, fun h => by omega⟩
  · refine ⟨hl, fun hpos => ?_⟩
    have hspot : x.spot = none := by
      obtain ⟨ns, h1, h2, h3, h4⟩ := hrow 0 (by omega)
      match ns, h2 with
      | m0 :: _, _ =>
        have := h4 0 m0 rfl
        rw [Nat.zero_mul] at this
        have e : (x.add 0).add 0 = x := by unfold Addr.add; simp
        rw [e] at this
        unfold World.cell? at this
        split at this
        · split at this
          · cases this
          · rename_i hs; simpa using hs
        · cases this
    obtain ⟨b0, off, sp⟩ := x
    simp only at hspot
    subst hspot
    have hat : ∀ i j, (((⟨b0, off, none⟩ : Addr).add (i * 5)).add j) = ⟨b0, off + i * 5 + j, none⟩ := by
      intro i j
      unfold Addr.add
      split <;> split <;> simp_all
    have hcell : ∀ i, i < len → ∀ j, j < 5 → w.cell? ⟨b0, off + i * 5 + j, none⟩ = some (.int .i64 ((g.getD i []).getD j 0)) := by
      intro i hi j hj
      obtain ⟨ns, h1, h2, h3, h4⟩ := hrow i (by omega)
      have hg : g.getD i [] = ns := by simp [List.getD, h1]
      rw [hg, ← hat i j]
      exact h4 j _ (by simp [List.getD, h2, hj])
    refine ⟨b0, off, rfl, ?_, fun i hi => ⟨hcell i hi 0 (by decide), hcell i hi 1 (by decide), hcell i hi 2 (by decide), hcell i hi 3 (by decide), hcell i hi 4 (by decide)⟩⟩
    have hc0 := hcell 0 hpos 0 (by decide)
    cases hb : w.heap[b0]? with
    | none => simp [World.cell?, hb] at hc0
    | some o => exact (Array.getElem?_eq_some_iff.1 hb).1
end Go.Proofs.Ytloahjkndhcjfab
