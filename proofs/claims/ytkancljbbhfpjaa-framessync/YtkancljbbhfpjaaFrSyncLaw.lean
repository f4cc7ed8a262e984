import Derived.Test.YtkancljbbhfpjaaFrEndsLaw
/-! FramesSync. -/
namespace Go.Proofs.Ytkancljbbhfpjaa
open Go.RowKit Go.HeapKit Go.IntWalk

theorem own_at1 {w : World} {e : TypeId} {v : Value} {n : Nat} {xs : List Value} (h : w.ownsRow 0 e 1 v n xs) (i : Nat) (hi : i < n) : ∃ g c, v = .slice (some ⟨g, 0, none⟩) n c ∧ w.cell? ⟨g, i, none⟩ = some (xs.getD i undef) := by
  have hl : xs.length = n := by have := h.1; simpa using this
  rcases h.2 with ⟨_, h0⟩ | ⟨g, cap, cur, rfl, _, hg, hn, _, hcs, ht⟩
  · omega
  · refine ⟨g, cap, rfl, ?_⟩
    have hu := h.cells (g := g) rfl i (xs.getD i undef) (by rw [List.getD_eq_getElem?_getD, List.getElem?_eq_getElem (by omega)]; rfl)
    rwa [add0] at hu
theorem vals100_at (r m k : Nat) (h : k < m) : ((vals100 r m).map (Value.int .i64)).getD k undef = .int .i64 ((100 * r + k : Nat) : Int) := by simp [vals100, List.getD_eq_getElem?_getD, h]
/-- What the law reads of the run, in the world W. -/
def SyncJ (l : List Nat) (ps : List Int) (w W : World) (R : Nat) (ao : Option Addr) : Prop :=
  ∃ n done holders reads marks log rs xh ch xd cd gm, Told l n done holders reads marks log ∧ (total l ≤ ps.length → done = true) ∧ Keeps None w W ∧ Ints W ao (l.map (fun n : Nat => (n : Int))) ∧
    W.ownsRow 0 45 1 (.slice xd reads.length cd) reads.length rs ∧ (∀ i, i < reads.length → W.ownsRow 0 2 1 (rs.getD i undef) (reads.getD i []).length ((reads.getD i []).map (Value.int .i64))) ∧
    W.heap[gm]? = some (.cells (marks.map (Value.int .i64)).toArray 2 (0, 0)) ∧ W.cell? ⟨R, 0, none⟩ = some (.bool done) ∧ W.cell? ⟨R, 2, none⟩ = some (.slice xh reads.length ch) ∧ W.cell? ⟨R, 3, none⟩ = some (.slice xd reads.length cd) ∧ W.cell? ⟨R, 4, none⟩ = some (.slice (some ⟨gm, 0, none⟩) (frs l) (frs l))
theorem sync_of {l : List Nat} {ps : List Int} {m : Nat} {w w1 w3 : World} {ao : Option Addr} {val : Value} {n steps : Nat} {done : Bool} {holders : List Int} {reads : List (List Int)} {marks : List Int} {log : List Acc}
    (hr : Rounds l) (hm : m = min 1048576 ps.length) (hk1 : Keeps None w w1) (hI : Ints w1 ao (l.map (fun n : Nat => (n : Int)))) (hV : RunV w3 val done steps holders reads marks log) (ht : Told l n done holders reads marks log) (hst : steps = log.length) (hen : done = true ∨ steps = m) (hle : steps ≤ m) (hk3 : Keeps None w1 w3) :
    ∃ v0 v1 v2 v3 v4 v5, val = .agg #[v0, v1, v2, v3, v4, v5] ∧ v0 = .bool done ∧ v1 = .int .i64 steps ∧ (∃ x y z, v2 = .slice x y z) ∧ (∃ x y z, v3 = .slice x y z) ∧ (∃ x y z, v4 = .slice x y z) ∧ (∃ x y z, v5 = .slice x y z) ∧ ∀ W, Keeps None w3 W → W.heap[w3.heap.size]? = some (.cells #[v0, v1, v2, v3, v4, v5] 69 (0, 0)) → SyncJ l ps w W w3.heap.size ao := by
  obtain ⟨vh, vd, rs, gm, gl, rfl, hh, hd, hrl, hrow, hbm, -⟩ := hV
  obtain ⟨xh, ch, rfl⟩ := own_slice hh
  obtain ⟨xd, cd, rfl⟩ := own_slice hd
  have hT := toGo_le hr
  obtain ⟨hA, hB⟩ := told_ends ht hst hen hle
  have q1 : reads.length = holders.length := ht.rh
  have q4 : marks.length = frs l := ht.ml
  refine ⟨_, _, _, _, _, _, rfl, rfl, rfl, ⟨_, _, _, rfl⟩, ⟨_, _, _, rfl⟩, ⟨_, _, _, rfl⟩, ⟨_, _, _, rfl⟩, fun W hkW hJ => ?_⟩
  refine ⟨n, done, holders, reads, marks, log, rs, xh, ch, xd, cd, gm, ht, fun h => (hB (by unfold total at *; omega)).1, (hk1.trans hk3 (fun _ f _ => f)).trans hkW (fun _ f _ => f), (hI.kept hk3).kept hkW, hkW.own hd (fun _ _ f => f), fun i hi => hkW.own (hrow i hi) (fun _ _ f => f), (hkW.block gm (Array.getElem?_eq_some_iff.1 hbm).1 (fun f => f)).trans hbm, cell_of_block hJ 0, ?_, cell_of_block hJ 3, ?_⟩
  · rw [q1]; exact cell_of_block hJ 2
  · rw [← q4]; exact cell_of_block hJ 4
set_option maxHeartbeats 8000000 in
set_option maxRecDepth 100000 in
theorem framesSync_walk (a0 a1 : Option Addr) (c0 c1 : Nat) (zs ps : List Int) (w : World) (hz : Ints w a0 zs) (hp : Ints w a1 ps) (hc1 : ps.length ≤ c1) :
    Calls Try.prog 8 #[.slice a0 zs.length c0, .slice a1 ps.length c1] w fun e w' => e = .returned (.bool true) ∧ Keeps None w w' := by
  have htd := tidy_any a0 c0 zs w hz
  have hrd := tidyL_rounds zs
  have hcut := fun w => cut_any a1 c1 ps w hc1
  have HP : Hid (Ints w a1 ps) := hp
  generalize tidyL zs = l at htd hrd
  clear hz hp
  have h64 := hrd.len
  have HR : Hid (Rounds l) := hrd
  go_enter Try.func8, Try.ntmps8
  go_wp2_with fail
  refine htd.mono ?_
  rintro e w1 ⟨v, rfl, ho, hk1⟩
  have ho2 : w1.ownsRow 0 3 1 v l.length ((l.map (fun n : Nat => (n : Int))).map (Value.int .i64)) := by rw [List.map_map]; exact ho
  obtain ⟨ao, c, rfl, hI, -⟩ := own_ints ho2
  have hlen := fun w h => length_any ao c l w h hrd
  have hplay := play_ok ao a1 c c1 l (ps.take 1048576) w1 hI ((HP.out.kept hk1).take _) hrd (by simp; omega)
  have hmm : (ps.take 1048576).length = min 1048576 ps.length := by simp
  generalize hPl : (ps.take 1048576).length = m at hcut hplay hmm
  have HM : Hid _ := hmm
  have HK1 : Hid _ := hk1
  have HI1 : Hid (Ints w1 ao (l.map (fun n : Nat => (n : Int)))) := hI
  clear ho ho2 hI htd hk1 hPl hrd hmm
  go_upto_region 2 with fail
  go_cut [6, 7] (fun s6 s7 wx => s7 = .int .i64 0 ∧ ∃ R, s6 = .pointer (some ⟨R, 0, none⟩) ∧ SyncJ l ps w wx R ao)
  case first =>
    go_wp2_with fail
    refine (hcut _).mono ?_
    rintro e w2 ⟨rfl, hw2⟩
    have hv2 := hw2.symm
    subst hv2
    clear hw2 hcut
    go_wp2_with fail
    refine hplay.mono ?_
    rintro e w3 ⟨val, n, done, steps, holders, reads, marks, log, rfl, hV, ht, hst, hen, hle, hk3⟩
    obtain ⟨v0, v1, v2, v3, v4, v5, rfl, rfl, rfl, ⟨y0, y1, y2, rfl⟩, ⟨y3, y4, y5, rfl⟩, ⟨y6, y7, y8, rfl⟩, ⟨y9, y10, y11, rfl⟩, hF⟩ := sync_of HR.out HM.out HK1.out HI1.out hV ht hst hen hle hk3
    have HF : Hid _ := hF
    clear hF hV ht hst hen hle hk3 hplay hlen
    go_wp2_with fail
    go_meet
    exact ⟨rfl, _, rfl, HF.out _ (Keeps.alloc None w3 _) (new_at w3 _ _ rfl)⟩
  case rest =>
    obtain ⟨rfl, R, rfl, n, done, holders, reads, marks, log, rs, xh, ch, xd, cd, gm, ht, hdn, hkW, hIW, hDW, hRW, hBM, r0, r2, r3, r4⟩ := hcut
    have hl1 := hlen wc hIW
    have q2 : reads.length ≤ l.length := ht.rl
    have hF := HR.out.frs_le
    have j1 : ¬ (l.length : Int) < (reads.length : Int) := by omega
    have j64 : (l.length : Int) ≤ 64 := by omega
    have HH : Hid _ := And.intro ht (And.intro hdn (And.intro hkW (And.intro hIW (And.intro hDW (And.intro hRW hBM)))))
    clear ht hdn hkW hIW hDW hRW hBM hlen hplay hcut
    obtain ⟨wQ, hwQ⟩ : ∃ wQ, wQ = wc := ⟨_, rfl⟩
    subst hwQ
    go_upto_region 5 with fail
    go_cut [51] (fun s51 wx => s51 = .bool false ∧ wx = wQ)
    case first =>
      go_wp2_with fail
      refine hl1.mono ?_
      rintro e w2 ⟨rfl, hw2⟩
      have hv2 := hw2.symm
      subst hv2
      clear hw2 hl1
      by_cases h9 : total l ≤ ps.length
      · have e9 : done = true := HH.out.2.1 h9
        subst e9
        have j2 : (total l : Int) ≤ (ps.length : Int) := by omega
        go_wp2_with fail
        go_meet
        exact ⟨rfl, rfl⟩
      · have j2 : ¬ (total l : Int) ≤ (ps.length : Int) := by omega
        go_wp2_with fail
        go_meet
        exact ⟨rfl, rfl⟩
    case rest =>
      obtain ⟨rfl, rfl⟩ := hcut
      clear hl1
      go_wp2_with fail
      go_loopw [8, 9] (fun s8 s9 wr => wr = wc ∧ ∃ k b : Nat, k ≤ l.length ∧ b = baseR l k ∧ s8 = .int .i64 b ∧ s9 = .int .i64 k) (fun _ s9 _ => l.length - (intOf s9).toNat)
      case atStart => exact ⟨rfl, 0, 1, Nat.zero_le _, by simp [baseR], rfl, rfl⟩
      case round =>
        obtain ⟨rfl, k, b, hk, hbk, rfl, rfl⟩ := hrel
        have HBK : Hid _ := hbk
        have hb513 : b ≤ 513 := by rw [hbk]; have := base_le l k; omega
        clear hbk
        by_cases hkl : k < l.length
        · obtain ⟨bl, off, rfl, -, hc⟩ := HH.out.2.2.2.1 (by simp; omega)
          have c0 := hc k (by simpa using hkl)
          rw [getD_map] at c0
          have h8 := HR.out.few k
          have hbs := base_succ hkl
          have HBS : Hid _ := hbs
          generalize hn : l.getD k 0 = nn at c0 h8
          have HN : Hid _ := hn
          have j11 : (k : Int) < (l.length : Int) := by omega
          have j12 : (b : Int) ≤ 513 := by omega
          have j13 : (nn : Int) ≤ 8 := by omega
          clear hc hbs hn
          go_wp2_with fail
          go_roundw
          case rel => exact ⟨by first | rfl | trivial, k + 1, b + nn, by omega, by have h1 := HBK.out; have h2 := HBS.out; have h3 := HN.out; omega, by go_num, by go_num⟩
          case measure => simp only [intOf]; omega
        · have j11 : ¬ (k : Int) < (l.length : Int) := by omega
          obtain rfl : k = l.length := by omega
          obtain rfl : b = frs l := by have := HBK.out; rw [base_end] at this; exact this
          clear HBK
          obtain ⟨wK, hwK⟩ : ∃ wK, wK = wr := ⟨_, rfl⟩
          subst hwK
          go_upto_region 12 with fail
          go_cut [80] (fun s80 wx => s80 = .bool false ∧ wx = wK)
          case first =>
            cases done with
            | true =>
              have e5 : reads.length = l.length := by have h5 := HH.out.1; rw [h5.rh]; exact (h5.dh rfl).1
              rw [e5] at r2
              go_wp2_with fail
              go_meet
              exact ⟨rfl, rfl⟩
            | false =>
              go_wp2_with fail
              go_meet
              exact ⟨rfl, rfl⟩
          case rest =>
            obtain ⟨rfl, hwc⟩ := hcut
            subst hwc
            obtain ⟨wN, hwN⟩ : ∃ wN, wN = wc := ⟨_, rfl⟩
            subst hwN
            obtain ⟨ht, -, hkW, hIW, hDW, hRW, hBM⟩ := HH.out
            have HC : Hid (∀ wx, Keeps None wN wx → wx.cell? ⟨R, 0, none⟩ = some (.bool done) ∧ wx.cell? ⟨R, 3, none⟩ = some (.slice xd reads.length cd) ∧ wx.cell? ⟨R, 4, none⟩ = some (.slice (some ⟨gm, 0, none⟩) (frs l) (frs l))) := fun wx hk => ⟨hk.cell r0 (fun f => f), hk.cell r3 (fun f => f), hk.cell r4 (fun f => f)⟩
            have HG : Hid _ := And.intro ht (And.intro hkW (And.intro hIW (And.intro hDW (And.intro hRW hBM))))
            clear r0 r2 r3 r4 HH ht hkW hIW hDW hRW hBM
            go_wp2_with fail
            go_loopw [10] (fun s10 wr => ∃ i : Nat, i ≤ reads.length ∧ s10 = .int .i64 i ∧ Keeps None wN wr) (fun s10 _ => reads.length - (intOf s10).toNat)
            case atStart => exact ⟨0, Nat.zero_le _, rfl, Keeps.refl _ _⟩
            case round =>
              obtain ⟨i, hi, rfl, hkr⟩ := hrel
              obtain ⟨r0, r3, r4⟩ := HC.out wr hkr
              by_cases hin : i < reads.length
              · obtain ⟨ht, hkW, hIW, hDW, hRW, hBM⟩ := HG.out
                obtain ⟨mi, hm1, hm2, hm3⟩ := ht.row i hin
                obtain ⟨g, cg, hvv, ci⟩ := own_at1 hDW i hin
                have hrw := hRW i hin
                rw [hm2, vals100_length] at hrw
                obtain ⟨xr, cr, hxr⟩ := own_slice hrw
                obtain ⟨bl, off, hao, -, hcl⟩ := hIW (by simp; omega)
                have cl := hcl i (by simp; omega)
                rw [getD_map] at cl
                rw [hxr] at ci
                have ex : xd = some ⟨g, 0, none⟩ := by injection hvv with e1
                subst ex hao
                have HROW : Hid (∀ k, k < mi → ∃ g2, xr = some ⟨g2, 0, none⟩ ∧ wN.cell? ⟨g2, k, none⟩ = some (.int .i64 (100 * (i : Int) + (k : Int)))) := by
                  intro k hk
                  obtain ⟨g2, c2, e2, cc⟩ := own_at1 hrw k hk
                  rw [hxr] at e2
                  injection e2 with e3
                  rw [vals100_at i mi k hk] at cc
                  exact ⟨g2, e3, by rw [cc]; first | (congr 2; done) | (congr 2; omega)⟩
                generalize hli : l.getD i 0 = li at cl hm1 hm3
                have HM3 : Hid _ := hm3
                have HCI : Hid (∀ wx, Keeps None wN wx → wx.cell? ⟨g, i, none⟩ = some (.slice xr mi cr) ∧ wx.cell? ⟨bl, off + i, none⟩ = some (.int .i64 li)) := fun wx hk => ⟨hk.cell ci (fun f => f), hk.cell cl (fun f => f)⟩
                have j21 : (i : Int) < (reads.length : Int) := by omega
                have j22 : (i : Int) < (l.length : Int) := by omega
                have j23 : ¬ (li : Int) < (mi : Int) := by omega
                have j24 : (i : Int) ≤ 64 := by omega
                have hmi : mi ≤ 8 := by have := HR.out.few i; rw [hli] at this; omega
                have HKR : Hid _ := hkr
                clear ht hkW hIW hDW hRW hBM hrw hvv hcl cl ci hm2 hm3 hli hkr hxr
                go_upto_region 17 with fail
                go_cut [11] (fun s11 wx => ∃ wh : Bool, s11 = .bool wh ∧ (wh = true → mi = li) ∧ wx = wr)
                case first =>
                  cases done with
                  | true =>
                    go_wp2_with fail
                    go_meet
                    exact ⟨true, rfl, fun _ => HM3.out (by simp), rfl⟩
                  | false =>
                    by_cases hnx : i + 1 < reads.length
                    · have j25 : (i : Int) + 1 < (reads.length : Int) := by omega
                      go_wp2_with fail
                      go_meet
                      exact ⟨true, rfl, fun _ => HM3.out (by simp [hnx]), rfl⟩
                    · have j25 : ¬ (i : Int) + 1 < (reads.length : Int) := by omega
                      go_wp2_with fail
                      go_meet
                      exact ⟨false, rfl, fun e => (by cases e), rfl⟩
                case rest =>
                  obtain ⟨wh, rfl, hwh, hwc⟩ := hcut
                  subst hwc
                  obtain ⟨i3, i4⟩ := HCI.out _ HKR.out
                  clear r0 r4
                  go_upto_region 18 with fail
                  go_cut [124] (fun s124 wx => s124 = .bool false ∧ Keeps None wN wx)
                  case first =>
                    cases wh with
                    | true =>
                      have e6 := hwh rfl
                      subst e6
                      go_quiet (fail)
                      all_goals (go_wp2_with fail; go_meet)
                      all_goals exact ⟨rfl, HKR.out.trans (Keeps.drewM None _ _) (fun _ f _ => f)⟩
                    | false =>
                      go_quiet (fail)
                      all_goals (go_wp2_with fail; go_meet)
                      all_goals exact ⟨rfl, HKR.out.trans (Keeps.drewM None _ _) (fun _ f _ => f)⟩
                  case rest =>
                    obtain ⟨rfl, hk5⟩ := hcut
                    clear r3 i3 i4 hwh HKR
                    have HK5 : Hid _ := hk5
                    go_wp2_with fail
                    go_loopw [12] (fun s12 wx => ∃ k : Nat, k ≤ mi ∧ s12 = .int .i64 k ∧ Keeps None wN wx) (fun s12 _ => mi - (intOf s12).toNat)
                    case atStart => exact ⟨0, Nat.zero_le _, rfl, HK5.out⟩
                    case round =>
                      obtain ⟨k, hk, rfl, hkx⟩ := hrel
                      obtain ⟨r0, r3, r4⟩ := HC.out _ hkx
                      obtain ⟨i3, i4⟩ := HCI.out _ hkx
                      by_cases hkm : k < mi
                      · obtain ⟨g2, e7, cc⟩ := HROW.out k hkm
                        have cc2 := hkx.cell cc (fun f => f)
                        subst e7
                        have j31 : (k : Int) < (mi : Int) := by omega
                        have j32 : (k : Int) ≤ 8 := by omega
                        have HX : Hid _ := hkx
                        clear hkx cc
                        go_wp2_with fail
                        go_roundw
                        case rel => exact ⟨k + 1, by omega, by go_num, HX.out⟩
                        case measure => simp only [intOf]; omega
                      · have j31 : ¬ (k : Int) < (mi : Int) := by omega
                        have HX : Hid _ := hkx
                        clear hkx
                        go_wp2_with fail
                        go_roundw
                        case rel => exact ⟨i + 1, by omega, by go_num, HX.out⟩
                        case measure => simp only [intOf]; omega
              · have j21 : ¬ (i : Int) < (reads.length : Int) := by omega
                have HKR : Hid _ := hkr
                clear hkr
                go_wp2_with fail
                go_loopw [13] (fun s13 wx => ∃ k : Nat, k ≤ frs l ∧ s13 = .int .i64 k ∧ Keeps None wN wx) (fun s13 _ => frs l - (intOf s13).toNat)
                case atStart => exact ⟨0, Nat.zero_le _, rfl, HKR.out⟩
                case round =>
                  obtain ⟨k, hk, rfl, hkx⟩ := hrel
                  obtain ⟨q0, q3, q4⟩ := HC.out _ hkx
                  by_cases hkm : k < frs l
                  · obtain ⟨ht, hkW, hIW, hDW, hRW, hBM⟩ := HG.out
                    have hmk := ht.mark k hkm
                    have hml := ht.ml
                    have cm0 : wN.cell? ⟨gm, k, none⟩ = some (.int .i64 (marks.getD k 0)) := by
                      rw [cell_of_block hBM]
                      have : k < marks.length := by omega
                      simp [List.getD_eq_getElem?_getD, this]
                    have cm := hkx.cell cm0 (fun f => f)
                    generalize marks.getD k 0 = y at cm hmk
                    have j41 : (k : Int) < (frs l : Int) := by omega
                    have HX : Hid _ := hkx
                    obtain ⟨hy, hyd⟩ := hmk
                    clear ht hkW hIW hDW hRW hBM hml cm0 hkx
                    go_upto_region 28 with fail
                    go_cut [178] (fun s178 wx => s178 = .bool false ∧ Keeps None wN wx)
                    case first =>
                      rcases hy with rfl | rfl
                      · cases done with
                        | true => exact absurd (hyd rfl) (by decide)
                        | false =>
                          go_wp2_with fail
                          go_meet
                          exact ⟨rfl, HX.out⟩
                      · cases done with
                        | true =>
                          go_wp2_with fail
                          go_meet
                          exact ⟨rfl, HX.out⟩
                        | false =>
                          go_wp2_with fail
                          go_meet
                          exact ⟨rfl, HX.out⟩
                    case rest =>
                      obtain ⟨rfl, hk6⟩ := hcut
                      have H6 : Hid _ := hk6
                      clear hk6 cm q0 q3 q4 hy hyd
                      go_wp2_with fail
                      go_roundw
                      case rel => exact ⟨k + 1, by omega, by go_num, H6.out⟩
                      case measure => simp only [intOf]; omega
                  · have j41 : ¬ (k : Int) < (frs l : Int) := by omega
                    have HX : Hid _ := hkx
                    clear hkx
                    go_wp2_with fail
                    go_ret
                    exact ⟨rfl, HG.out.2.1.trans HX.out (fun _ f _ => f)⟩
end Go.Proofs.Ytkancljbbhfpjaa
