import Derived.Test.YtolhojagbiaamabPkAO
import Derived.WalkKit
import Derived.ProofKit
import Derived.OpenShut
import Derived.Deep.Slices
import Derived.Test.YtolhojagbiaamabPkAA
/-! The document's Detect, whole; samePlaces; detectPlaced. -/
namespace Go.Proofs.Ytolhojagbiaamab
set_option linter.unusedVariables false
set_option maxRecDepth 20000
set_option linter.unusedSimpArgs false
open Go.RowKit Go.HeapKit

/-- What Detect tells. -/
structure DetP (l : List Dd) (w : World) (e : Ending) (w' : World) : Prop where
  ex : ∃ v Z, e = .returned (.tuple #[v, .int .i64 (chkE l)]) ∧ RowL w' w.heap.size v Z ∧ DetL l Z ∧ Keeps None w w'
set_option maxHeartbeats 4000000 in
theorem rdetect_raw (a : Option Addr) (n c : Nat) (l : List Dd) (w : World) (hS : Seen w a n l) :
    Calls Try.prog 17 #[.slice a n c] w fun e w' => DetP l w e w' := by
  have HS : Hid (Seen w a n l) := hS
  have HLen : Hid (n = l.length) := hS.len
  clear hS
  go_enter Try.func17, Try.ntmps17
  go_upto_region 2 with (go_at_call 28; refine Calls.mono (rcheck_raw a n c l w HS.out) ?_; rintro _ w1 ⟨rfl, hk1⟩)
  obtain ⟨E, hE⟩ : ∃ E, E = chkE l := ⟨_, rfl⟩
  obtain ⟨A1, hA1⟩ : ∃ A1, A1 = chkA l := ⟨_, rfl⟩
  rw [← hE, ← hA1]
  have b2 := heap_alloc_new w1 (.cells #[.int .i64 E, .int .i64 A1] 54)
  have k2 := hk1.andAlloc (.cells #[.int .i64 E, .int .i64 A1] 54)
  obtain ⟨w2, hw2⟩ : ∃ w2, w2 = w1.alloc (.cells #[.int .i64 E, .int .i64 A1] 54) := ⟨_, rfl⟩
  obtain ⟨B, hB⟩ : ∃ B, B = w1.heap.size := ⟨_, rfl⟩
  rw [← hw2] at b2 k2
  rw [← hB] at b2
  rw [← hw2, ← hB]
  have g0 : w2.cell? ⟨B, 0, none⟩ = some (.int .i64 E) := cell_of_heap b2 0
  have HK : Hid (Keeps None w w2) := k2
  have HE : Hid (chkE l = E) := hE.symm
  clear b2 k2 hw2 hB hE hA1 hk1
  by_cases hE0 : E = 0
  · subst hE0
    obtain ⟨hn, hf⟩ := chk_fine HE.out
    have hn2 : n ≤ 4096 := by rw [HLen.out]; exact hn
    have HP : Hid _ := before_ok a n c l w2 (HS.out.more HK.out) hf hn2
    have HF : Hid (Fine l) := hf
    clear hn hf
    go_upto_region 5 with (go_at_call 29; refine Calls.mono HP.out ?_; rintro _ w3 ⟨G, R, M, rfl, hB, hSy, hk3⟩)
    have HT : Hid (BfM w3 w2.heap.size n n G R M ∧ Says l n n M ∧ Keeps None w w3) := ⟨hB, hSy, HK.out.trans hk3 (fun _ f _ => f)⟩
    clear hB hSy hk3 HP g0
    go_wp2_with fail
    go_loopw [6, 7, 8] (fun s6 s7 _ wr => ∃ (k : Nat) (Z : List Int), k ≤ n ∧ s7 = .int .i64 k ∧ Hid (RowL wr w.heap.size s6 Z ∧ DetN l k Z ∧ Keeps None w3 wr)) (fun _ s7 _ _ => n - (intOf s7).toNat)
    case atStart => exact ⟨0, [], Nat.zero_le _, rfl, ⟨rfl, .inl ⟨rfl, rfl⟩⟩, DetN.zero l, Keeps.refl _ _⟩
    case round =>
      obtain ⟨k, Z, hk, rfl, HR⟩ := hrel
      generalize wr = W at *
      obtain ⟨sa, cs, rfl, _⟩ := HR.out.1.shape
      by_cases hkn : k < n
      · have i1 : (k : Int) < (n : Int) := by omega
        have hkw : Keeps None w W := HT.out.2.2.trans HR.out.2.2 (fun _ f _ => f)
        have hRa := racy_ok a n c k l W _ G R M (HS.out.more hkw) HF.out (HT.out.1.more HR.out.2.2) HT.out.2.1 hkn hn2
        obtain ⟨rb, hrb⟩ : ∃ rb, rb = rcB l k := ⟨_, rfl⟩
        rw [← hrb] at hRa
        have HRa : Hid _ := hRa
        have HB : Hid (rcB l k = rb ∧ Keeps None w W) := ⟨hrb.symm, hkw⟩
        clear hRa hrb hkw
        cases rb with
        | false =>
          go_wp2_with (go_at_call 30; refine Calls.mono HRa.out ?_; rintro _ w4 ⟨rfl, hk4⟩)
          have HN : Hid (RowL w4 w.heap.size (.slice sa Z.length cs) Z ∧ DetN l (k + 1) Z ∧ Keeps None w3 w4) := ⟨HR.out.1.kept hk4 (fun _ _ f => f), HR.out.2.1.no HB.out.1, HR.out.2.2.trans hk4 (fun _ f _ => f)⟩
          clear hk4
          go_roundw
          case rel => exact ⟨k + 1, Z, by omega, by simp, HN.out⟩
          case measure => simp [intOf]; omega
        | true =>
          go_upto_region 10 with (go_at_call 30; refine Calls.mono HRa.out ?_; rintro _ w4 ⟨rfl, hk4⟩)
          obtain ⟨bb, off, ha, hbb, e0, e1⟩ := seen_deed (HS.out.more (HB.out.2.trans hk4 (fun _ f _ => f))) (n := k) hkn
          subst ha
          have hJ := joins_ok (.slice sa Z.length cs) Z (lcN l k) _ w4 (HR.out.1.kept hk4 (fun _ _ f => f)) (by have := HR.out.2.1.len; omega)
          obtain ⟨lc, hlc⟩ : ∃ lc, lc = lcN l k := ⟨_, rfl⟩
          rw [← hlc] at e1 hJ
          have HJ : Hid _ := hJ
          have HQ : Hid (DetN l (k + 1) (jnL Z lc) ∧ Keeps None w3 w4 ∧ Keeps None w w4) := ⟨by rw [hlc]; exact HR.out.2.1.yes HB.out.1, HR.out.2.2.trans hk4 (fun _ f _ => f), HB.out.2.trans hk4 (fun _ f _ => f)⟩
          clear hJ hk4 hlc hbb e0
          go_wp2_with (go_at_call 31; refine Calls.mono HJ.out ?_; rintro _ w5 ⟨v5, rfl, hr5, hk5⟩)
          have HN : Hid (RowL w5 w.heap.size v5 (jnL Z lc) ∧ DetN l (k + 1) (jnL Z lc) ∧ Keeps None w3 w5) := ⟨hr5.low HQ.out.2.2.size, HQ.out.1, HQ.out.2.1.trans hk5 (fun _ f _ => f)⟩
          clear hr5 hk5
          go_roundw
          case rel => exact ⟨k + 1, _, by omega, by simp, HN.out⟩
          case measure => simp [intOf]; omega
      · obtain rfl : k = n := by omega
        have i1 : ¬ (k : Int) < (k : Int) := by omega
        have HN : Hid (RowL W w.heap.size (.slice sa Z.length cs) Z ∧ DetL l Z ∧ Keeps None w W) := ⟨HR.out.1, DetN.det HE.out (by have := HR.out.2.1; rw [HLen.out] at this; exact this), HT.out.2.2.trans HR.out.2.2 (fun _ f _ => f)⟩
        go_wp2_with fail
        go_ret2
        exact ⟨⟨_, Z, by rw [HE.out]; rfl, HN.out⟩⟩
  · go_upto_region 3 with fail
    go_region
    all_goals (go_wp2_with fail; go_ret2)
    all_goals exact ⟨⟨_, [], by rw [HE.out]; rfl, ⟨rfl, .inl ⟨rfl, rfl⟩⟩, ⟨fun h => absurd (HE.out.symm.trans h) hE0, fun _ => rfl, Nat.zero_le _⟩, HK.out.andDrew⟩⟩
theorem rdetect_ok (a : Option Addr) (n c : Nat) (l : List Dd) (w : World) (hS : Seen w a n l) :
    Calls Try.prog 17 #[.slice a n c] w fun e w' => ∃ v Z, e = .returned (.tuple #[v, .int .i64 (chkE l)]) ∧ RowL w' w.heap.size v Z ∧ DetL l Z ∧ Keeps None w w' :=
  (rdetect_raw a n c l w hS).mono fun e w' h => h.ex
set_option maxHeartbeats 1600000 in
theorem samePl_ok (v1 v2 : Value) (Z : List Int) (b1 b2 : Nat) (w : World) (h1 : RowL w b1 v1 Z) (h2 : RowL w b2 v2 Z) (hl : Z.length ≤ 4096) :
    Calls Try.prog 35 #[v1, v2] w fun e w' => e = .returned (.bool true) ∧ Keeps None w w' := by
  obtain ⟨a1, c1, rfl, hs1⟩ := h1.shape
  obtain ⟨a2, c2, rfl, hs2⟩ := h2.shape
  have HH : Hid (RowL w b1 (.slice a1 Z.length c1) Z ∧ RowL w b2 (.slice a2 Z.length c2) Z ∧ (0 < Z.length → ∃ g, a1 = some ⟨g, 0, none⟩) ∧ (0 < Z.length → ∃ g, a2 = some ⟨g, 0, none⟩)) := ⟨h1, h2, hs1, hs2⟩
  obtain ⟨n, hn⟩ : ∃ n, n = Z.length := ⟨_, rfl⟩
  clear h1 h2 hs1 hs2
  rw [← hn]
  have hn4 : n ≤ 4096 := by omega
  have HL : Hid (n = Z.length) := hn
  clear hn hl
  go_enter Try.func35, Try.ntmps35
  go_wp2_with fail
  go_loopw [4, 5] (fun s4 s5 wr => ∃ k : Nat, k ≤ n ∧ s4 = .bool false ∧ s5 = .int .i64 k ∧ Hid (Keeps None w wr)) (fun _ s5 _ => n - (intOf s5).toNat)
  case atStart => exact ⟨0, Nat.zero_le _, rfl, rfl, Keeps.refl _ _⟩
  case round =>
    obtain ⟨k, hk, rfl, rfl, HK⟩ := hrel
    generalize wr = X at *
    by_cases hkn : k < n
    · obtain ⟨g1, rfl⟩ := HH.out.2.2.1 (by rw [← HL.out]; omega)
      obtain ⟨g2, rfl⟩ := HH.out.2.2.2 (by rw [← HL.out]; omega)
      have e1 := HK.out.cell (HH.out.1.cell (k := k) (by rw [← HL.out]; exact hkn)) (fun f => f)
      have e2 := HK.out.cell (HH.out.2.1.cell (k := k) (by rw [← HL.out]; exact hkn)) (fun f => f)
      obtain ⟨y, hy⟩ : ∃ y, y = Z.getD k 0 := ⟨_, rfl⟩
      rw [← hy] at e1 e2
      have i1 : (k : Int) < (n : Int) := by omega
      clear hy
      go_upto_region 6 with fail
      go_region
      all_goals go_wp2_with fail
      all_goals go_roundw
      case rel => exact ⟨k + 1, by omega, rfl, by simp, HK.out.andDrew⟩
      case measure => simp [intOf]; omega
    · obtain rfl : k = n := by omega
      have i1 : ¬ (k : Int) < (k : Int) := by omega
      go_wp2_with fail
      go_ret
      exact ⟨rfl, HK.out⟩
set_option maxHeartbeats 4000000 in
theorem detectPlaced_ok (a : Option Addr) (n c : Nat) (l : List Dd) (w : World) (hS : Seen w a n l) (hn : (n + 2) * 16 ≤ 140737488355328) :
    Calls Try.prog 20 #[.slice a n c] w fun e w' => e = .returned (.bool true) ∧ Keeps None w w' := by
  have HS : Hid (Seen w a n l) := hS
  have HLen : Hid (n = l.length) := hS.len
  clear hS
  go_enter Try.func20, Try.ntmps20
  go_wp2_with fail
  refine (turned_ok a n c l w HS.out hn).mono ?_
  rintro e w1 ⟨v, rfl, hr1, hk1⟩
  obtain ⟨a1, c1, rfl⟩ := row_shape hr1
  have HR1 : Hid (w1.ownsRow w.heap.size 26 2 (.slice a1 n c1) n (ddVals (l.map turnD)) ∧ Keeps None w w1) := ⟨hr1, hk1⟩
  have hs1 := hk1.size
  clear hr1 hk1
  go_wp2_with fail
  refine (tspare_ok _ n (l.map turnD) w1 _ HR1.out.1 (by simpa using HLen.out) hn).mono ?_
  rintro e w2 ⟨g, rfl, hsp, hk2⟩
  have HR2 : Hid (Spare w2 w1.heap.size g n (l.map turnD) ∧ Keeps None w w2 ∧ Keeps None w1 w2) := ⟨hsp, HR1.out.2.trans hk2 (fun _ f _ => f), hk2⟩
  clear hsp hk2
  go_wp2_with fail
  refine (detect_ok _ n _ (l.map turnD) w2 HR2.out.1.seen).mono ?_
  rintro e w3 ⟨v1, Z1, rfl, hv1, hd1, hk3⟩
  obtain ⟨E1, hE1⟩ : ∃ E1, E1 = chkE (l.map turnD) := ⟨_, rfl⟩
  rw [← hE1]
  have HR3 : Hid (Spare w3 w1.heap.size g n (l.map turnD) ∧ Keeps None w w3 ∧ Keeps None w1 w3 ∧ RowL w3 w2.heap.size v1 Z1 ∧ DetL (l.map turnD) Z1 ∧ g < w2.heap.size ∧ E1 = chkE (l.map turnD)) := ⟨HR2.out.1.more hk3, HR2.out.2.1.trans hk3 (fun _ f _ => f), HR2.out.2.2.trans hk3 (fun _ f _ => f), hv1, hd1, HR2.out.1.2.lt, hE1⟩
  clear hk3 HR2 hv1 hd1 hE1
  go_wp2_with fail
  refine (lay_ok a n c g _ (n + 2) l (l.map turnD) w3 HR3.out.1 (HS.out.more HR3.out.2.1) (fun h0 b e e2 => by have h3 := HS.out.low h0 e; have := HR3.out.1.2.low; omega) (by omega) hn).mono ?_
  rintro e w5 ⟨rfl, hsp4, hk4⟩
  have HR5 : Hid (Spare w5 w1.heap.size g n l ∧ Keeps None w w5 ∧ Keeps None w1 w5 ∧ RowL w5 w2.heap.size v1 Z1) := ⟨hsp4, HR3.out.2.1.trans hk4 (fun i e hi => by have := HR3.out.1.2.low; omega), HR3.out.2.2.1.trans hk4 (fun i e hi => by have := HR3.out.1.2.low; omega), HR3.out.2.2.2.1.kept hk4 (fun b e e2 => by have := row_low HR3.out.2.2.2.1 e; have := HR3.out.2.2.2.2.2.1; omega)⟩
  have HDt : Hid (DetL (l.map turnD) Z1 ∧ E1 = chkE (l.map turnD)) := ⟨HR3.out.2.2.2.2.1, HR3.out.2.2.2.2.2.2⟩
  clear hsp4 hk4 HR3
  go_wp2_with fail
  refine (detect_ok _ n _ l w5 HR5.out.1.seen).mono ?_
  rintro e w6 ⟨v3, Z3, rfl, hv3, hd3, hk6⟩
  obtain ⟨E2, hE2⟩ : ∃ E2, E2 = chkE l := ⟨_, rfl⟩
  rw [← hE2]
  have HR6 : Hid (Keeps None w w6 ∧ Keeps None w1 w6 ∧ RowL w6 w2.heap.size v1 Z1 ∧ RowL w6 w5.heap.size v3 Z3 ∧ DetL l Z3 ∧ E2 = chkE l) := ⟨HR5.out.2.1.trans hk6 (fun _ f _ => f), HR5.out.2.2.1.trans hk6 (fun _ f _ => f), HR5.out.2.2.2.kept hk6 (fun _ _ f => f), hv3, hd3, hE2⟩
  clear hk6 HR5 hv3 hd3 hE2
  go_wp2_with fail
  refine (rdetect_ok a1 n c1 (l.map turnD) w6 ((Seen.of_row (by simpa using HLen.out) HR1.out.1).more HR6.out.2.1)).mono ?_
  rintro e w7 ⟨vA, ZA, rfl, hvA, hdA, hk7⟩
  rw [← HDt.out.2]
  obtain rfl : ZA = Z1 := det_uniq hdA HDt.out.1
  have HR7 : Hid (Keeps None w w7 ∧ RowL w7 w2.heap.size v1 ZA ∧ RowL w7 w5.heap.size v3 Z3 ∧ RowL w7 w6.heap.size vA ZA ∧ ZA.length ≤ 4096) := ⟨HR6.out.1.trans hk7 (fun _ f _ => f), HR6.out.2.2.1.kept hk7 (fun _ _ f => f), HR6.out.2.2.2.1.kept hk7 (fun _ _ f => f), hvA, hdA.2.2⟩
  clear hk7 hvA hdA
  go_wp2_with fail
  refine (rdetect_ok a n c l w7 (HS.out.more HR7.out.1)).mono ?_
  rintro e w8 ⟨vB, ZB, rfl, hvB, hdB, hk8⟩
  rw [← HR6.out.2.2.2.2.2]
  obtain rfl : ZB = Z3 := det_uniq hdB HR6.out.2.2.2.2.1
  have HR8 : Hid (Keeps None w w8 ∧ RowL w8 w2.heap.size v1 ZA ∧ RowL w8 w5.heap.size v3 ZB ∧ RowL w8 w6.heap.size vA ZA ∧ RowL w8 w7.heap.size vB ZB ∧ ZA.length ≤ 4096 ∧ ZB.length ≤ 4096) := ⟨HR7.out.1.trans hk8 (fun _ f _ => f), HR7.out.2.1.kept hk8 (fun _ _ f => f), HR7.out.2.2.1.kept hk8 (fun _ _ f => f), HR7.out.2.2.2.1.kept hk8 (fun _ _ f => f), hvB, HR7.out.2.2.2.2, hdB.2.2⟩
  clear hk8 hvB hdB HR7 HR6 HDt
  have HA : Hid _ := samePl_ok v1 vA ZA _ _ w8 HR8.out.2.1 HR8.out.2.2.2.1 HR8.out.2.2.2.2.2.1
  go_wp2_with fail
  refine Calls.mono HA.out ?_
  rintro e w9 ⟨rfl, hk9⟩
  have HB : Hid _ := samePl_ok v3 vB ZB _ _ w9 (HR8.out.2.2.1.kept hk9 (fun _ _ f => f)) (HR8.out.2.2.2.2.1.kept hk9 (fun _ _ f => f)) HR8.out.2.2.2.2.2.2
  have HK9 : Hid (Keeps None w w9) := HR8.out.1.trans hk9 (fun _ f _ => f)
  clear hk9
  go_wp2_with fail
  refine Calls.mono HB.out ?_
  rintro e w10 ⟨rfl, hk10⟩
  go_wp2_with fail
  go_ret
  exact ⟨rfl, HK9.out.trans hk10 (fun _ f _ => f)⟩
end Go.Proofs.Ytolhojagbiaamab
/-! The walk of RacesDetect. -/
namespace Go.Proofs.Ytolhojagbiaamab
set_option linter.unusedVariables false
set_option maxRecDepth 20000
set_option linter.unusedSimpArgs false
open Go.RowKit Go.HeapKit

theorem RowL.free {w : World} {base g c n : Nat} {L : List Int} (h : RowL w base (.slice (some ⟨g, 0, none⟩) n c) L) (k : Nat) : w.frozen? ⟨g, k, none⟩ = false := by
  rcases h.2 with ⟨e1, _⟩ | ⟨g', cap, cur, he, hb0, hg, _⟩
  · cases e1
  · injection he with e1 e2 e3
    injection e1 with e1
    injection e1 with e1
    subst e1
    exact blk_free hg k
theorem RowL.put {w : World} {base g c : Nat} {L : List Int} {k : Nat} (h : RowL w base (.slice (some ⟨g, 0, none⟩) L.length c) L) (x : Int) : RowL (w.setCell ⟨g, k, none⟩ (.int .i64 x)) base (.slice (some ⟨g, 0, none⟩) L.length c) (L.set k x) := by
  have := row_set h k (.int .i64 x)
  unfold RowL
  rw [List.length_set]
  have e : (ivZ L).set k (.int .i64 x) = ivZ (L.set k x) := by simp [ivZ, List.map_set]
  rw [← e]
  exact this
/-- One row that was written over and appended to. -/
structure Wld (w4 wr : World) (b : Nat) (v s : Value) (m : Nat) (L : List Int) : Prop where
  len : m = L.length
  row : RowL wr b s L
  kp : Keeps (fun i => v.ownBlock = some i) w4 wr
  blk : s.ownBlock = v.ownBlock ∨ ∃ g, s.ownBlock = some g ∧ w4.heap.size ≤ g
theorem Wld.app {w4 wr : World} {b : Nat} {v : Value} {sa : Option Addr} {cs m : Nat} {L : List Int} (h : Wld w4 wr b v (.slice sa m cs) m L) (hb : b ≤ w4.heap.size) (x : Int) (hlen : (m + 1) * 8 ≤ 140737488355328) :
    ∃ g cp w2, (Builtin.append_ #[27, 27] 27 #[.slice sa m cs, .slice (some ⟨wr.heap.size, 0, none⟩) 1 1]).run Try.prog (wr.alloc (.cells #[.int .i64 x] 2)) = .ok (.slice (some ⟨g, 0, none⟩) (m + 1) cp) w2 ∧ Hid (Wld w4 w2 b v (.slice (some ⟨g, 0, none⟩) (m + 1) cp) (m + 1) (L ++ [x])) := by
  have hm := h.len
  subst hm
  have hbn : (wr.alloc (.cells #[.int .i64 x] 2)).heap[wr.heap.size]? = some (.cells #[.int .i64 x] 2 (0, 0)) := heap_alloc_new _ _
  obtain ⟨g, cp, w2, hr, ho, hk3, hmv⟩ := numL_more b (.slice sa L.length cs) L x 27 _ (h.row.kept (Keeps.alloc None wr _) (fun _ _ f => f)) (by have := h.kp.size; simp; omega) hlen hbn
  refine ⟨g, cp, w2, hr, by simp, ho, ?_, ?_⟩
  · refine (h.kp.andAlloc _).trans hk3 (fun i e hi => ?_)
    rcases h.blk with hbl | ⟨g', hg', hlt⟩
    · rw [hbl] at e; exact e
    · rw [hg'] at e; injection e with e; omega
  · rcases hmv with hmv | ⟨hmv, _⟩
    · rcases h.blk with hbl | ⟨g', hg', hlt⟩
      · left; rw [← hbl, hmv]; rfl
      · right
        refine ⟨g, rfl, ?_⟩
        rw [hg'] at hmv
        injection hmv with hmv
        omega
    · right
      refine ⟨g, rfl, ?_⟩
      have := h.kp.size
      simp at hmv
      omega
set_option maxHeartbeats 8000000 in
theorem racesDetect_walk (a : Option Addr) (n c : Nat) (l : List Dd) (w : World) (hS : Seen w a n l) (hn : (n + 2) * 16 ≤ 140737488355328) :
    Calls Try.prog 6 #[.slice a n c] w fun e w' => e = .returned (.bool true) ∧ Below w.heap.size w w' := by
  have HS : Hid (Seen w a n l) := hS
  have HLen : Hid (n = l.length) := hS.len
  clear hS
  obtain ⟨E, hE⟩ : ∃ E, E = chkE l := ⟨_, rfl⟩
  have HE : Hid (E = chkE l) := hE
  clear hE
  go_enter Try.func6, Try.ntmps6
  go_wp2_with fail
  refine (rdetect_ok a n c l w HS.out).mono ?_
  rintro e w1 ⟨v0, Z, rfl, hv0, hd0, hk1⟩
  rw [← HE.out]
  obtain ⟨a0, c0, rfl, hs0⟩ := hv0.shape
  have H1 : Hid (RowL w1 w.heap.size (.slice a0 Z.length c0) Z ∧ DetL l Z ∧ Keeps None w w1 ∧ (0 < Z.length → ∃ g, a0 = some ⟨g, 0, none⟩)) := ⟨hv0, hd0, hk1, hs0⟩
  clear hv0 hd0 hk1 hs0
  go_wp2_with fail
  refine (spare_ok a n c l w1 (HS.out.more H1.out.2.2.1) hn).mono ?_
  rintro e w2 ⟨g, rfl, hsp, hk2⟩
  have H2 : Hid (RowL w2 w.heap.size (.slice a0 Z.length c0) Z ∧ Spare w2 w1.heap.size g n l ∧ Keeps None w w2 ∧ w1.heap.size ≤ w2.heap.size) := ⟨H1.out.1.kept hk2 (fun _ _ f => f), hsp, H1.out.2.2.1.trans hk2 (fun _ f _ => f), hk2.size⟩
  clear hsp hk2
  go_wp2_with fail
  refine (detect_ok _ n _ l w2 H2.out.2.1.seen).mono ?_
  rintro e w3 ⟨v1, Z1, rfl, hv1, hd1, hk3⟩
  rw [← HE.out]
  obtain rfl : Z1 = Z := det_uniq hd1 H1.out.2.1
  obtain ⟨a1, c1, rfl, hs1⟩ := hv1.shape
  have H3 : Hid (RowL w3 w.heap.size (.slice a0 Z1.length c0) Z1 ∧ Spare w3 w1.heap.size g n l ∧ Keeps None w w3 ∧ RowL w3 w2.heap.size (.slice a1 Z1.length c1) Z1 ∧ (0 < Z1.length → ∃ g, a1 = some ⟨g, 0, none⟩)) := ⟨H2.out.1.kept hk3 (fun _ _ f => f), H2.out.2.1.more hk3, H2.out.2.2.1.trans hk3 (fun _ f _ => f), hv1, hs1⟩
  have hs3 : w2.heap.size ≤ w3.heap.size := hk3.size
  clear hk3 hv1 hd1 hs1
  go_wp2_with fail
  refine (detect_ok _ n _ l w3 H3.out.2.1.seen).mono ?_
  rintro e w4 ⟨v2, Z2, rfl, hv2, hd2, hk4⟩
  rw [← HE.out]
  obtain rfl : Z2 = Z1 := det_uniq hd2 H1.out.2.1
  obtain ⟨a2, c2, rfl, hs2⟩ := hv2.shape
  have H4 : Hid (RowL w4 w.heap.size (.slice a0 Z2.length c0) Z2 ∧ Spare w4 w1.heap.size g n l ∧ Keeps None w w4 ∧ RowL w4 w2.heap.size (.slice a1 Z2.length c1) Z2 ∧ RowL w4 w3.heap.size (.slice a2 Z2.length c2) Z2 ∧ (0 < Z2.length → ∃ g, a2 = some ⟨g, 0, none⟩)) := ⟨H3.out.1.kept hk4 (fun _ _ f => f), H3.out.2.1.more hk4, H3.out.2.2.1.trans hk4 (fun _ f _ => f), H3.out.2.2.2.1.kept hk4 (fun _ _ f => f), hv2, hs2⟩
  have H5 : Hid (Z2.length ≤ 4096 ∧ (∀ i, (Value.slice a1 Z2.length c1).ownBlock = some i → w2.heap.size ≤ i ∧ i < w3.heap.size) ∧ (∀ i, (Value.slice a0 Z2.length c0).ownBlock = some i → i < w1.heap.size) ∧ g < w2.heap.size ∧ w1.heap.size ≤ w2.heap.size ∧ w.heap.size ≤ w2.heap.size ∧ w2.heap.size ≤ w4.heap.size) :=
    ⟨hd2.2.2, fun i e => ⟨row_low H3.out.2.2.2.1 e, own_lt H3.out.2.2.2.1 e⟩, fun i e => own_lt H1.out.1 e, H2.out.2.1.2.lt, H2.out.2.2.2, H2.out.2.2.1.size, by have := hk4.size; omega⟩
  clear hk4 hv2 hd2 hs2 hs3
  have H6 : Hid ((0 < Z2.length → ∃ g, a0 = some ⟨g, 0, none⟩) ∧ (0 < Z2.length → ∃ g, a1 = some ⟨g, 0, none⟩)) := ⟨H1.out.2.2.2, H3.out.2.2.2.2⟩
  clear H1 H2 H3
  obtain ⟨nz, hnz⟩ : ∃ nz, nz = Z2.length := ⟨_, rfl⟩
  rw [← hnz]
  have HNz : Hid (nz = Z2.length) := hnz
  have hz4 : nz ≤ 4096 := by have := H5.out.1; omega
  clear hnz
  go_wp2_with fail
  go_loopw [10] (fun s10 wr => ∃ k : Nat, k ≤ nz ∧ s10 = .int .i64 k ∧ Hid (Keeps None w4 wr)) (fun s10 _ => nz - (intOf s10).toNat)
  case atStart => exact ⟨0, Nat.zero_le _, rfl, Keeps.refl _ _⟩
  case round =>
    obtain ⟨k, hk, rfl, HK⟩ := hrel
    generalize wr = X at *
    by_cases hkn : k < nz
    · obtain ⟨g0, rfl⟩ := H6.out.1 (by rw [← HNz.out]; omega)
      obtain ⟨g1, rfl⟩ := H6.out.2 (by rw [← HNz.out]; omega)
      have e1 := HK.out.cell (H4.out.1.cell (k := k) (by rw [← HNz.out]; exact hkn)) (fun f => f)
      have e2 := HK.out.cell (H4.out.2.2.2.1.cell (k := k) (by rw [← HNz.out]; exact hkn)) (fun f => f)
      obtain ⟨y, hy⟩ : ∃ y, y = Z2.getD k 0 := ⟨_, rfl⟩
      rw [← hy] at e1 e2
      have i1 : (k : Int) < (nz : Int) := by omega
      clear hy
      go_upto_region 10 with fail
      go_region
      all_goals go_wp2_with fail
      all_goals go_roundw
      case rel => exact ⟨k + 1, by omega, by simp, HK.out.andDrew⟩
      case measure => simp [intOf]; omega
    · obtain rfl : k = nz := by omega
      have i1 : ¬ (k : Int) < (k : Int) := by omega
      go_wp2_with fail
      clear i1
      go_loopw [11] (fun s11 wr => ∃ (q : Nat) (L : List Int), q ≤ k ∧ s11 = .int .i64 q ∧ Hid (Wld w4 wr w2.heap.size (.slice a1 k c1) (.slice a1 k c1) k L)) (fun s11 _ => k - (intOf s11).toNat)
      case atStart => exact ⟨0, Z2, Nat.zero_le _, rfl, HNz.out, by have := H4.out.2.2.2.1.kept HK.out (fun _ _ f => f); rw [← HNz.out] at this; exact this, HK.out.mono (fun _ f => f.elim), .inl rfl⟩
      case round =>
        obtain ⟨q, L, hq, rfl, HW⟩ := hrel
        by_cases hqn : q < k
        · obtain ⟨g1, rfl⟩ := H6.out.2 (by rw [← HNz.out]; omega)
          have hrow := HW.out.row
          have hc : wr.cell? ⟨g1, q, none⟩ = some (.int .i64 (L.getD q 0)) := by
            rw [HW.out.len] at hrow
            exact hrow.cell (by rw [← HW.out.len]; exact hqn)
          have hf := hrow.free q
          have HN : Hid (Wld w4 (wr.setCell ⟨g1, q, none⟩ (.int .i64 (-99))) w2.heap.size (.slice (some ⟨g1, 0, none⟩) k c1) (.slice (some ⟨g1, 0, none⟩) k c1) k (L.set q (-99))) := by
            refine ⟨by rw [List.length_set]; exact HW.out.len, ?_, HW.out.kp.andSet (x := ⟨g1, q, none⟩) (.inl rfl) _, .inl rfl⟩
            have h2 := hrow
            rw [HW.out.len] at h2 ⊢
            exact h2.put (k := q) (-99)
          have i1 : (q : Int) < (k : Int) := by omega
          clear hrow
          go_wp2_with fail
          go_roundw
          case rel => exact ⟨q + 1, _, by omega, by simp, HN⟩
          case measure => simp [intOf]; omega
        · obtain rfl : q = k := by omega
          have i1 : ¬ (q : Int) < (q : Int) := by omega
          go_wp2_with fail
          clear i1
          go_loopw [6, 12] (fun s6 s12 wr => ∃ (p m : Nat) (L : List Int), p ≤ 64 ∧ m ≤ q + p ∧ s12 = .int .i64 p ∧ Hid (Wld w4 wr w2.heap.size (.slice a1 q c1) s6 m L)) (fun _ s12 _ => 64 - (intOf s12).toNat)
          case atStart => exact ⟨0, q, L, by omega, by omega, rfl, HW⟩
          case round =>
            clear HW
            obtain ⟨p, m, L, hp, hm, rfl, HW⟩ := hrel
            obtain ⟨sa, cs, hs, _⟩ := HW.out.row.shape
            rw [← HW.out.len] at hs
            subst hs
            by_cases hpn : p < 64
            · obtain ⟨g3, cp3, w5, hr, HN⟩ := HW.out.app H5.out.2.2.2.2.2.2 (-98) (by omega)
              have i1 : (p : Int) < 64 := by omega
              go_wp2_with (at_builtin; refine wpList_append_run rfl (.tmp 87) (.tmp 88) 27 27 rfl rfl rfl hr ?_)
              go_roundw
              case rel => exact ⟨p + 1, m + 1, _, by omega, by omega, by simp, HN⟩
              case measure => simp [intOf]; omega
            · obtain rfl : p = 64 := by omega
              have hkp := HW.out.kp
              have HF : Hid (Spare wr w1.heap.size g n l ∧ Keeps None w wr ∧ RowL wr w.heap.size (.slice a0 q c0) Z2 ∧ RowL wr w3.heap.size (.slice a2 q c2) Z2) := by
                have h4 := H4.out
                have h5 := H5.out
                rw [← HNz.out] at h4 h5
                refine ⟨h4.2.1.kept hkp (fun e => by have := (h5.2.1 _ e).1; omega), h4.2.2.1.trans hkp (fun i e hi => by have := (h5.2.1 _ e).1; omega), h4.1.kept hkp (fun i e e2 => ?_), h4.2.2.2.2.1.kept hkp (fun i e e2 => ?_)⟩
                · have x1 := h5.2.2.1 _ e
                  have x2 := (h5.2.1 _ e2).1
                  omega
                · have x1 := row_low h4.2.2.2.2.1 e
                  have x2 := (h5.2.1 _ e2).2
                  omega
              clear hkp HW
              generalize wr = Y at *
              go_wp2_with fail
              go_loopw [13] (fun s13 wx => ∃ k : Nat, k ≤ q ∧ s13 = .int .i64 k ∧ Hid (Keeps None Y wx)) (fun s13 _ => q - (intOf s13).toNat)
              case atStart => exact ⟨0, Nat.zero_le _, rfl, Keeps.refl _ _⟩
              case round =>
                obtain ⟨t, ht, rfl, HKt⟩ := hrel
                generalize wr = V at *
                by_cases htn : t < q
                · obtain ⟨g0, rfl⟩ := H6.out.1 (by rw [← HNz.out]; omega)
                  obtain ⟨g2, rfl⟩ := H4.out.2.2.2.2.2 (by rw [← HNz.out]; omega)
                  have r1 := HF.out.2.2.1
                  have r2 := HF.out.2.2.2
                  rw [HNz.out] at r1 r2
                  have e1 := HKt.out.cell (r1.cell (k := t) (by rw [← HNz.out]; exact htn)) (fun f => f)
                  have e2 := HKt.out.cell (r2.cell (k := t) (by rw [← HNz.out]; exact htn)) (fun f => f)
                  obtain ⟨y, hy⟩ : ∃ y, y = Z2.getD t 0 := ⟨_, rfl⟩
                  rw [← hy] at e1 e2
                  have i1 : (t : Int) < (q : Int) := by omega
                  clear hy r1 r2
                  go_upto_region 23 with fail
                  go_region
                  all_goals go_wp2_with fail
                  all_goals go_roundw
                  case rel => exact ⟨t + 1, by omega, by simp, HKt.out.andDrew⟩
                  case measure => simp [intOf]; omega
                · obtain rfl : t = q := by omega
                  have i1 : ¬ (t : Int) < (t : Int) := by omega
                  have HSp : Hid (Spare V w1.heap.size g n l ∧ Keeps None w V) := ⟨HF.out.1.more HKt.out, HF.out.2.1.trans HKt.out (fun _ f _ => f)⟩
                  have HU : Hid _ := untouched_ok a g n c _ l V HSp.out.1 (HS.out.more HSp.out.2) hn
                  have HDp : Hid (∀ w', Keeps None w w' → Calls Try.prog 20 #[.slice a n c] w' fun e w'' => e = .returned (.bool true) ∧ Keeps None w' w'') := fun w' hk => detectPlaced_ok a n c l w' (HS.out.more hk) hn
                  go_wp2_with fail
                  refine Calls.mono HU.out ?_
                  rintro e w7 ⟨rfl, m7, rfl⟩
                  have hk7 : Keeps None w (V.drewN m7) := HSp.out.2.trans (keeps_drewN _ m7) (fun _ f _ => f)
                  generalize V.drewN m7 = V7 at *
                  have HD7 : Hid _ := HDp.out V7 hk7
                  have HK7 : Hid (Keeps None w V7) := hk7
                  clear hk7
                  go_wp2_with fail
                  refine Calls.mono HD7.out ?_
                  rintro e w8 ⟨rfl, hk8⟩
                  go_wp2_with fail
                  go_ret
                  exact ⟨rfl, (HK7.out.trans hk8 (fun _ f _ => f)).below _ (Nat.le_refl _) (fun _ f => f.elim)⟩
end Go.Proofs.Ytolhojagbiaamab
/-! Structs of 64-bit numbers among the arguments, and slices of them. Whatever the program. -/
namespace Go.HeapKit
open Go.ChangeShapes Go.WideShapes Go.ChangeAt Go.RowKit Go.Deep

section
variable {H : Type} {enc : TypeId × Value → H} {P : Program} {w : World} {base : Nat} {spare : Nat → Bool} {held : Bool}

/-- All fields are 64-bit numbers, one cell each, in order. -/
def allInts (P : Program) (fs : List Field) : Bool :=
  (List.range fs.length).all fun i => match fs[i]? with
    | some f => f.offset == i && (match P.underlying f.type with | some (.int .i64) => true | _ => false) && P.cellsOf f.type == 1
    | none => false
theorem allInts_at {fs : List Field} (h : allInts P fs = true) {i : Nat} {f : Field} (hf : fs[i]? = some f) : f.offset = i ∧ P.underlying f.type = some (.int .i64) ∧ P.cellsOf f.type = 1 := by
  have hi : i < fs.length := (List.getElem?_eq_some_iff.1 hf).1
  have := List.all_eq_true.1 h i (List.mem_range.2 hi)
  rw [hf] at this
  simp only [Bool.and_eq_true, beq_iff_eq] at this
  obtain ⟨⟨h1, h2⟩, h3⟩ := this
  refine ⟨h1, ?_, h3⟩
  split at h2
  · assumption
  · cases h2

theorem struct_ints {t : TypeId} {fs : Array Field} {fuel : Nat} {cs : List Value} {x : DataW H × List MemPlace} (ht : P.underlying t = some (.struct fs)) (ha : allInts P fs.toList = true) (hc : P.cellsOf t = fs.size)
    (h : DataW.trod enc P w base spare held fuel t cs = some x) : ∃ ns : List Int, ns.length = fs.size ∧ cs = ns.map (Value.int .i64) ∧ ∀ n ∈ ns, (Lit.int .i64 n).wf = true := by
  obtain ⟨xs, n, _, rfl, hl, hlen, hf⟩ := DataW.trod_struct ht h
  rw [hc] at hl
  have hat : ∀ i, i < fs.size → ∃ m : Int, cs[i]? = some (.int .i64 m) ∧ (Lit.int .i64 m).wf = true := by
    intro i hi
    have hfi : fs[i]? = some fs[i] := by simp [hi]
    obtain ⟨h1, h2, h3⟩ := allInts_at ha (i := i) (f := fs[i]) (by simp)
    have hq := hf i fs[i] hfi
    rw [h1, h3, show xs[i]? = some xs[i] by simp] at hq
    obtain ⟨m, hm, _, hw⟩ := DataW.trod_int h2 hq
    refine ⟨m, ?_, hw⟩
    have : (List.take 1 (List.drop i cs))[0]? = some (.int .i64 m) := by rw [hm]; rfl
    simpa [List.getElem?_take, List.getElem?_drop] using this
  have hall : ∀ v ∈ cs, ∃ m : Int, v = .int .i64 m ∧ (Lit.int .i64 m).wf = true := by
    intro v hv
    obtain ⟨i, hi, rfl⟩ := List.mem_iff_getElem.1 hv
    obtain ⟨m, hm, hw⟩ := hat i (by omega)
    exact ⟨m, by simpa [hi] using hm, hw⟩
  have hex : ∀ cs : List Value, (∀ v ∈ cs, ∃ m : Int, v = .int .i64 m ∧ (Lit.int .i64 m).wf = true) → ∃ ns : List Int, cs = ns.map (Value.int .i64) ∧ ∀ n ∈ ns, (Lit.int .i64 n).wf = true := by
    intro cs
    induction cs with
    | nil => exact fun _ => ⟨[], rfl, fun _ h => by cases h⟩
    | cons v cs ih =>
      intro hv
      obtain ⟨ns, rfl, hw⟩ := ih (fun u hu => hv u (List.mem_cons_of_mem _ hu))
      obtain ⟨m, rfl, hm⟩ := hv v (List.mem_cons_self ..)
      refine ⟨m :: ns, rfl, ?_⟩
      intro n hn
      rcases List.mem_cons.1 hn with rfl | hn
      · exact hm
      · exact hw n hn
  obtain ⟨ns, rfl, hw⟩ := hex cs hall
  exact ⟨ns, by simpa using hl, rfl, hw⟩

theorem open_struct_ints {r : Reach} {b0 : Nat} {t : TypeId} {fs : Array Field} {v : Value} {d : DataW H} {ps : List MemPlace} (ht : P.underlying t = some (.struct fs)) (ha : allInts P fs.toList = true) (hc : P.cellsOf t = fs.size)
    (hval : Value.okWide P w r b0 t v) (hd : DataW.Trod enc P w base spare held t v d ps) : ∃ ns : List Int, ns.length = fs.size ∧ v = .agg (ns.map (Value.int .i64)).toArray ∧ ∀ n ∈ ns, (Lit.int .i64 n).wf = true := by
  obtain ⟨cs, rfl, hs⟩ := okWide_struct ht hval
  obtain ⟨fuel, hf⟩ := hd
  obtain ⟨ns, hl, he, hw⟩ := struct_ints ht ha hc hf
  refine ⟨ns, hl, ?_, hw⟩
  have : cs.toList = ns.map (Value.int .i64) := by simpa [Value.cells] using he
  rw [← this]

/-- A slice of structs of numbers that came in: nil; or a grid of 'cap' rows, 'size' cells each. -/
def IsGrid (size : Nat) (w : World) (a : Option Addr) (len cap : Nat) (rows : List (List Int)) : Prop :=
  (a = none ∧ len = 0 ∧ cap = 0 ∧ rows = []) ∨
  ∃ x : Addr, a = some x ∧ len ≤ cap ∧ cap ≤ maxLen ∧ rows.length = cap ∧ (∀ i, i < cap → ∃ ns : List Int, rows[i]? = some ns ∧ ns.length = size ∧ (∀ n ∈ ns, (Lit.int .i64 n).wf = true) ∧ ∀ j m, ns[j]? = some m → w.cell? ((x.add (i * size)).add j) = some (.int .i64 m))

theorem grid_slice {t e : TypeId} {x : Addr} {len cap : Nat} {d : DataW H} {ps : List MemPlace} (ht : P.underlying t = some (.slice e)) (hd : DataW.Trod enc P w base spare held t (.slice (some x) len cap) d ps) : ∃ elems sp, d = .slice elems sp := by
  obtain ⟨fuel, hf⟩ := hd
  rcases open_slice ht hf with ⟨h0, _⟩ | ⟨x, l, c, m, n, D, Pl, hcs, _, _, _, _, hx, _⟩
  · simp [Value.cells] at h0
  · simp only [Prod.mk.injEq] at hx
    exact ⟨_, _, hx.1⟩
theorem open_grid {t e : TypeId} {fs : Array Field} {a : Option Addr} {len cap : Nat} {d : DataW H} {ps : List MemPlace} (ht : P.underlying t = some (.slice e)) (he : P.underlying e = some (.struct fs)) (ha : allInts P fs.toList = true) (hc : P.cellsOf e = fs.size)
    (hd : DataW.Trod enc P w base (fun _ => true) held t (.slice a len cap) d ps) : (∃ rows, IsGrid fs.size w a len cap rows) ∧ ∀ elems sp, d = .slice elems sp → elems.length + sp.length = cap := by
  obtain ⟨fuel, hf⟩ := hd
  rcases open_slice ht hf with ⟨h0, hx⟩ | ⟨x, l, c, m, n, D, Pl, hcs, _, hl, hm, hmm, hx, hall⟩
  · simp [Value.cells] at h0
    obtain ⟨rfl, rfl, rfl⟩ := h0
    simp only [Prod.mk.injEq] at hx
    exact ⟨⟨[], .inl ⟨rfl, rfl, rfl, rfl⟩⟩, fun elems sp e => by rw [hx.1] at e; cases e⟩
  · simp [Value.cells] at hcs
    obtain ⟨rfl, rfl, rfl⟩ := hcs
    have hmc : m = cap := by simpa using hmm
    subst hmc
    simp only [Prod.mk.injEq] at hx
    refine ⟨?_, fun elems sp e => by rw [hx.1] at e; injection e with e1 e2; rw [← e1, ← e2]; simp; omega⟩
    have hrow : ∀ i, i < m → ∃ ns : List Int, ns.length = fs.size ∧ (∀ n ∈ ns, (Lit.int .i64 n).wf = true) ∧ ∀ j m, ns[j]? = some m → w.cell? ((x.add (i * fs.size)).add j) = some (.int .i64 m) := by
      intro i hi
      obtain ⟨cs', h1, h2⟩ := hall i hi
      rw [hc] at h1
      obtain ⟨ns, hl, rfl, hw⟩ := struct_ints he ha hc h2
      refine ⟨ns, hl, hw, ?_⟩
      intro j m hj
      obtain ⟨_, hlen, hcell⟩ := World.cells?_some h1
      rw [hcell j (by have := (List.getElem?_eq_some_iff.1 hj).1; omega)]
      simp [hj]
    have hex : ∀ k, k ≤ m → ∃ rows : List (List Int), rows.length = k ∧ ∀ i, i < k → ∃ ns : List Int, rows[i]? = some ns ∧ ns.length = fs.size ∧ (∀ n ∈ ns, (Lit.int .i64 n).wf = true) ∧ ∀ j m, ns[j]? = some m → w.cell? ((x.add (i * fs.size)).add j) = some (.int .i64 m) := by
      intro k
      induction k with
      | zero => exact fun _ => ⟨[], rfl, fun _ h => by omega⟩
      | succ k ih =>
        intro hk
        obtain ⟨rows, hrl, hr⟩ := ih (by omega)
        obtain ⟨ns, h1, h2, h3⟩ := hrow k (by omega)
        refine ⟨rows ++ [ns], by simp [hrl], ?_⟩
        intro i hi
        by_cases hik : i < k
        · obtain ⟨ns', e, r⟩ := hr i hik
          exact ⟨ns', by rw [List.getElem?_append_left (by omega)]; exact e, r⟩
        · obtain rfl : i = k := by omega
          exact ⟨ns, by rw [List.getElem?_append_right (by omega), hrl]; simp, h1, h2, h3⟩
    obtain ⟨rows, hrl, hr⟩ := hex m (Nat.le_refl _)
    exact ⟨rows, .inr ⟨x, rfl, hl, hm, hrl, hr⟩⟩
end
end Go.HeapKit
/-! A slice of deeds that came in. -/
namespace Go.Proofs.Ytolhojagbiaamab
open Go.RowKit Go.HeapKit

def ddOf (ns : List Int) : Dd := ⟨ns.getD 0 0, ns.getD 1 0⟩
theorem spot_of_cell {w : World} {x : Addr} {v : Value} (h : w.cell? x = some v) : x.spot = none := by
  unfold World.cell? at h
  split at h
  · split at h
    · cases h
    · rename_i hs; simpa using hs
  · cases h
theorem lt_of_cell {w : World} {b o : Nat} {v : Value} (h : w.cell? ⟨b, o, none⟩ = some v) : b < w.heap.size := by
  cases hb : w.heap[b]? with
  | none => simp [World.cell?, hb] at h
  | some o => exact (Array.getElem?_eq_some_iff.1 hb).1
theorem grid_deeds {w : World} {ao : Option Addr} {len cap : Nat} {g : List (List Int)} (h : IsGrid 2 w ao len cap g) : len ≤ cap ∧ Seen w ao len ((g.take len).map ddOf) := by
  rcases h with ⟨rfl, rfl, rfl, rfl⟩ | ⟨x, rfl, hl, hm, hlen, hrow⟩
  · exact ⟨Nat.le_refl _, rfl, fun h => by omega⟩
  · refine ⟨hl, by simp; omega, fun hpos => ?_⟩
    have hspot : x.spot = none := by
      obtain ⟨ns, h1, h2, h3, h4⟩ := hrow 0 (by omega)
      match ns, h2 with
      | m0 :: _, _ =>
        have := h4 0 m0 rfl
        rw [Nat.zero_mul] at this
        have e : (x.add 0).add 0 = x := by unfold Addr.add; simp
        rw [e] at this
        exact spot_of_cell this
    obtain ⟨b0, off, sp⟩ := x
    simp only at hspot
    subst hspot
    have hat : ∀ i j, (((⟨b0, off, none⟩ : Addr).add (i * 2)).add j) = ⟨b0, off + i * 2 + j, none⟩ := by
      intro i j
      unfold Addr.add
      split <;> split <;> simp_all
    have hcell : ∀ i, i < len → ∀ j, j < 2 → w.cell? ⟨b0, off + i * 2 + j, none⟩ = some (.int .i64 ((g.getD i []).getD j 0)) := by
      intro i hi j hj
      obtain ⟨ns, h1, h2, h3, h4⟩ := hrow i (by omega)
      have hg : g.getD i [] = ns := by simp [List.getD, h1]
      rw [hg, ← hat i j]
      exact h4 j _ (by simp [List.getD, h2, hj])
    refine ⟨b0, off, rfl, lt_of_cell (hcell 0 hpos 0 (by decide)), fun k x hx => ?_⟩
    have hk : k < len := by have := (List.getElem?_eq_some_iff.1 hx).1; simp at this; omega
    have hx2 : x = ddOf (g.getD k []) := by
      rw [List.getElem?_map, List.getElem?_take, if_pos hk] at hx
      obtain ⟨ns, h1, _⟩ := hrow k (by omega)
      rw [h1] at hx
      simp at hx
      rw [← hx]
      simp [List.getD, h1]
    subst hx2
    exact ⟨hcell k hk 0 (by decide), hcell k hk 1 (by decide)⟩
end Go.Proofs.Ytolhojagbiaamab
