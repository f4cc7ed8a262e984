import Derived.Test.YtnhoedodnbifdaaDgEar
/-! Earliest: the document's. -/
namespace Go.Proofs.Ytnhoedodnbifdaa
set_option linter.unusedVariables false
set_option maxRecDepth 20000
open Go.RowKit Go.HeapKit

theorem bef_at {n : Int} {l : List Ed} (hd : Dag n l) {k j : Nat} (hj : j < (bef l k).length) : ∃ t : Nat, (bef l k)[j]? = some (t : Int) ∧ t < k := by
  have hm : (bef l k)[j] ∈ bef l k := List.getElem_mem hj
  obtain ⟨e, he, h1, h2⟩ := mem_bef.1 hm
  have hok := hd.ok e he
  refine ⟨e.f.toNat, ?_, by omega⟩
  rw [List.getElem?_eq_getElem hj, ← h2]
  congr 1
  omega
/-- The lengths of the nodes below i, and v at i. -/
def upTo (l : List Ed) (i : Nat) (v : Int) (j : Nat) : Int := if j < i then R l j else if j = i then v else 0
theorem upTo_set (l : List Ed) (i : Nat) (v v' : Int) (j : Nat) : upd (upTo l i v) i v' j = upTo l i v' j := by
  unfold upd upTo
  by_cases e : j = i
  · subst e; simp
  · simp [e]
theorem upTo_next {n : Int} {l : List Ed} (hd : Dag n l) (i j : Nat) : upTo l i (upR l (bef l i)) j = upTo l (i + 1) 0 j := by
  rw [upR_bef hd]
  unfold upTo
  by_cases e : j < i
  · rw [if_pos e, if_pos (by omega)]
  · rw [if_neg e]
    by_cases e2 : j = i
    · rw [if_pos e2, if_pos (by omega), e2]
    · rw [if_neg e2, if_neg (by omega)]
      split <;> rfl
theorem upR_le {n : Int} {l : List Ed} (hd : Dag n l) (i j : Nat) : upR l ((bef l i).take j) ≤ i + 1 := by
  rcases foldmax_eq (fun a => R l a.toNat + 1) ((bef l i).take j) 1 with h | ⟨a, ha, h⟩
  · have : upR l ((bef l i).take j) = 1 := h
    omega
  · have h2 : upR l ((bef l i).take j) = R l a.toNat + 1 := h
    obtain ⟨e, he, h3, h4⟩ := mem_bef.1 (List.mem_of_mem_take ha)
    have := hd.ok e he
    have := R_le l a.toNat
    omega
set_option maxHeartbeats 3200000 in
theorem rear_any (n : Int) (a : Option Addr) (m c : Nat) (l : List Ed) (w : World) (h : SeenE w a m l) (hs : m * 16 ≤ 140737488351232) :
    Calls Try.prog 54 #[dagV n a m c] w fun e w' => ∃ v, e = .returned (.tuple #[v, .int .i64 (checkV n l)]) ∧ w'.ownsRow w.heap.size 3 1 v (earV n l).length (iv (earV n l)) ∧ Keeps None w w' := by
  have HS : Hid (SeenE w a m l) := h
  clear h
  obtain ⟨s0, hs0⟩ : ∃ s0, s0 = w.heap.size := ⟨_, rfl⟩
  have HS0 : Hid (s0 = w.heap.size) := hs0
  unfold dagV
  go_enter Try.func54, Try.ntmps54
  go_wp2_with fail
  have hbox := blk_new w (.cells #[.int .i64 n, .slice a m c] 24) _ rfl
  have hk0 := keeps1 w (.cells #[.int .i64 n, .slice a m c] 24)
  refine (rcheck_any n a m c l _ (HS.out.more hk0) hs).mono ?_
  rintro e w2 ⟨rfl, hk⟩
  rw [← hs0] at hbox ⊢
  have H1 : Hid (w2.heap[s0]? = some (.cells #[.int .i64 n, .slice a m c] 24 (0, 0)) ∧ Keeps None w w2) := ⟨blk_kept hbox hk (fun f => f), hk0.trans hk (fun _ f _ => f)⟩
  have d0 : w2.cell? ⟨s0, 0, none⟩ = some (.int .i64 n) := (blk_cell H1.out.1 0).trans rfl
  have d1 : w2.cell? ⟨s0, 1, none⟩ = some (.slice a m c) := (blk_cell H1.out.1 1).trans rfl
  clear hk0 hbox hk hs0
  by_cases hc : checkV n l = 0
  · have HC : Hid (checkV n l = 0) := hc
    rw [hc]
    have hd := dag_of hc
    obtain ⟨N, rfl⟩ := Int.eq_ofNat_of_zero_le hd.lo
    have hN : N ≤ 4096 := by have := hd.hi; omega
    have HD : Hid (Dag (N : Int) l) := hd
    clear hc hd
    go_wp2_with fail
    refine (bef_any N a m c l _ (HS.out.more H1.out.2) HD.out).mono ?_
    rintro e w3 ⟨g, vs, rfl, hL, hk⟩
    have H2 : Hid (w3.heap[s0]? = some (.cells #[.int .i64 N, .slice a m c] 24 (0, 0)) ∧ Keeps None w w3 ∧ IsL w3 w2.heap.size g N vs (bef l)) := ⟨blk_kept H1.out.1 hk (fun f => f), H1.out.2.trans hk (fun _ f _ => f), hL⟩
    have d2 : w3.cell? ⟨s0, 0, none⟩ = some (.int .i64 N) := (blk_cell H2.out.1 0).trans rfl
    obtain ⟨base, hbase⟩ : ∃ base, base = w2.heap.size := ⟨_, rfl⟩
    rw [← hbase] at H2
    clear hL hk H1 hbase d0 d1
    have hmk := make_ints N w3 hN
    go_wp2_with (at_make; refine wpList_make_run rfl (.tmp 17) (.tmp 17) 25 rfl rfl rfl hmk ?_)
    obtain ⟨G, hG⟩ : ∃ G, G = w3.heap.size := ⟨_, rfl⟩
    have hnew := blk_new w3 (.cells ((List.range N).map (fun _ => Value.int .i64 0)).toArray 3) _ rfl
    have hk3 := Keeps.alloc None w3 (.cells ((List.range N).map (fun _ => Value.int .i64 0)).toArray 3)
    rw [← hG] at hnew ⊢
    have H3 : Hid ((w3.alloc (.cells ((List.range N).map (fun _ => Value.int .i64 0)).toArray 3)).heap[s0]? = some (.cells #[.int .i64 N, .slice a m c] 24 (0, 0)) ∧ Keeps None w (w3.alloc (.cells ((List.range N).map (fun _ => Value.int .i64 0)).toArray 3)) ∧ IsL (w3.alloc (.cells ((List.range N).map (fun _ => Value.int .i64 0)).toArray 3)) base g N vs (bef l) ∧
        IsN (w3.alloc (.cells ((List.range N).map (fun _ => Value.int .i64 0)).toArray 3)) G N (fun _ => 0)) := ⟨blk_kept H2.out.1 hk3 (fun f => f), H2.out.2.1.trans hk3 (fun _ f _ => f), H2.out.2.2.more hk3, hnew⟩
    have HG : Hid (w.heap.size ≤ G ∧ s0 < G ∧ g < G ∧ ∀ k b, k < N → (vs k).ownBlock = some b → b < G) := by
      have h1 := H2.out.2.1.size
      have h2 := blk_lt H2.out.1
      have h3 := blk_lt H2.out.2.2.outer
      exact ⟨by omega, by omega, by omega, fun k b hk e => by have := own_lt (H2.out.2.2.rows k hk) e; omega⟩
    clear hmk hnew hk3 hG H2 d2
    generalize (w3.alloc (.cells ((List.range N).map (fun _ => Value.int .i64 0)).toArray 3)) = w4 at *
    go_wp2_with fail
    go_loopw [7, 8] (fun s7 _ wr => ∃ i : Nat, s7 = .int .i64 i ∧ i ≤ N ∧ wr.heap[s0]? = some (.cells #[.int .i64 N, .slice a m c] 24 (0, 0)) ∧ Keeps None w wr ∧ IsL wr base g N vs (bef l) ∧ IsN wr G N (upTo l i 0)) (fun s7 _ _ => N - (intOf s7).toNat)
    case atStart =>
      refine ⟨0, rfl, Nat.zero_le _, H3.out.1, H3.out.2.1, H3.out.2.2.1, H3.out.2.2.2.congr (fun k _ => ?_)⟩
      unfold upTo
      rw [if_neg (by omega)]
      split <;> rfl
    case round =>
      obtain ⟨i, rfl, hi, b0, hkp, hL, hF⟩ := hrel
      have d0 : wr.cell? ⟨s0, 0, none⟩ = some (.int .i64 N) := (blk_cell b0 0).trans rfl
      by_cases hlt : i < N
      · have i1 : (i : Int) < (N : Int) := by omega
        have n0 : ¬ N = 0 := by omega
        have x0 := hF.at hlt
        have z0 := hF.free i
        obtain ⟨len, hlen⟩ : ∃ len, len = (bef l i).length := ⟨_, rfl⟩
        have hl16 : len ≤ 16384 := by rw [hlen]; exact Nat.le_trans (bef_len l i) HD.out.len
        have hrow := hL.rows i hlt
        rw [← hlen] at hrow
        obtain ⟨sa, cs, hv⟩ := row_shape hrow
        have HV : Hid (vs i = .slice sa len cs ∧ len = (bef l i).length) := ⟨hv, hlen⟩
        have hkS : Keeps (· = G) wr (wr.setCell ⟨G, i, none⟩ (.int .i64 1)) := Keeps.setCell (S := (· = G)) wr rfl _
        have H4 : Hid ((wr.setCell ⟨G, i, none⟩ (.int .i64 1)).heap[s0]? = some (.cells #[.int .i64 N, .slice a m c] 24 (0, 0)) ∧ Keeps None w (wr.setCell ⟨G, i, none⟩ (.int .i64 1)) ∧ IsL (wr.setCell ⟨G, i, none⟩ (.int .i64 1)) base g N vs (bef l) ∧ IsN (wr.setCell ⟨G, i, none⟩ (.int .i64 1)) G N (upTo l i (upR l ((bef l i).take 0)))) := by
          have hg := HG.out
          refine ⟨blk_kept b0 hkS (by omega), hkp.trans hkS (fun q e hq => by omega), hL.kept hkS (by omega) (fun k b hk e e2 => by have := hg.2.2.2 k b hk e; omega), (hF.set i 1).congr (fun j _ => ?_)⟩
          rw [upTo_set]
          rfl
        clear hkp hL hF b0 hrow hv hlen hkS
        go_wp2_with fail
        generalize (wr.setCell ⟨G, i, none⟩ (.int .i64 1)) = w5 at *
        go_loopw [8] (fun s8 wr => ∃ j : Nat, s8 = .int .i64 j ∧ j ≤ len ∧ wr.heap[s0]? = some (.cells #[.int .i64 N, .slice a m c] 24 (0, 0)) ∧ Keeps None w wr ∧ IsL wr base g N vs (bef l) ∧ IsN wr G N (upTo l i (upR l ((bef l i).take j)))) (fun s8 _ => len - (intOf s8).toNat)
        case atStart => exact ⟨0, rfl, Nat.zero_le _, H4.out⟩
        case round =>
          clear H4
          obtain ⟨j, rfl, hj, b0, hkp, hL, hF⟩ := hrel
          have y0 := hL.at hlt
          rw [HV.out.1] at y0
          by_cases hjl : j < len
          · have j1 : (j : Int) < (len : Int) := by omega
            have l0 : ¬ len = 0 := by omega
            obtain ⟨t, ht, hti⟩ := bef_at HD.out (k := i) (j := j) (by have := HV.out.2; omega)
            have hrow := hL.rows i hlt
            rw [← HV.out.2, HV.out.1] at hrow
            obtain ⟨q, rfl, hq, _⟩ := row_at hrow ht
            have x1 := hF.at hlt
            have z1 := hF.free i
            have x2 := hF.at (show t < N by omega)
            rw [show upTo l i (upR l ((bef l i).take j)) i = upR l ((bef l i).take j) by unfold upTo; rw [if_neg (by omega), if_pos rfl]] at x1
            rw [show upTo l i (upR l ((bef l i).take j)) t = R l t by unfold upTo; rw [if_pos hti]] at x2
            have t1 : (t : Int) < (N : Int) := by omega
            have u1 := R_le l t
            have u2 := R_one l t
            have hsn : upR l ((bef l i).take (j + 1)) = max (upR l ((bef l i).take j)) (R l t + 1) := by
              rw [List.take_add_one, ht]
              exact upR_snoc l _ t
            have H5 : Hid (wr.heap[s0]? = some (.cells #[.int .i64 N, .slice a m c] 24 (0, 0)) ∧ Keeps None w wr ∧ IsL wr base g N vs (bef l) ∧ IsN wr G N (upTo l i (upR l ((bef l i).take j)))) := ⟨b0, hkp, hL, hF⟩
            have HX : Hid (upR l ((bef l i).take (j + 1)) = max (upR l ((bef l i).take j)) (R l t + 1)) := hsn
            obtain ⟨v1, hv1⟩ : ∃ v1, v1 = upR l ((bef l i).take j) := ⟨_, rfl⟩
            obtain ⟨v2, hv2⟩ : ∃ v2, v2 = R l t := ⟨_, rfl⟩
            rw [← hv1] at x1 HX
            rw [← hv2] at x2 HX u1 u2
            have HV1 : Hid (v1 = upR l ((bef l i).take j)) := hv1
            have hw : IntKind.i64.wrap (v2 + 1) = v2 + 1 := by rw [IntKind.wrap_i64]; omega
            clear hkp hL hF b0 hrow hsn hv1 hv2 ht
            go_wp2_with fail
            go_region
            all_goals go_wp2_with fail
            have hx : (if v1 < v2 + 1 then v2 + 1 else v1) = upR l ((bef l i).take (j + 1)) := by
              rw [HX.out]
              split <;> omega
            rw [hx]
            have hkS : Keeps (· = G) wr (wr.setCell ⟨G, i, none⟩ (.int .i64 (upR l ((bef l i).take (j + 1))))) := Keeps.setCell (S := (· = G)) wr rfl _
            have hg := HG.out
            have hA := blk_kept H5.out.1 hkS (by omega)
            refine ⟨⟨j + 1, by go_num, by omega, hA, (H5.out.2.1.trans hkS (fun q e hq => by have := hg.1; omega)).andDrew, (H5.out.2.2.1.kept hkS (fun e => Nat.ne_of_lt hg.2.2.1 e) (fun k b hk e e2 => by have := hg.2.2.2 k b hk e; omega)).more (Keeps.drew None _), ?_⟩, by simp [intOf]; omega⟩
            refine IsN.kept ((H5.out.2.2.2.set i _).congr (fun k _ => ?_)) (Keeps.drew None _) (fun f => f)
            rw [upTo_set]
          · have j1 : ¬ (j : Int) < (len : Int) := by omega
            have HN : Hid (wr.heap[s0]? = some (.cells #[.int .i64 N, .slice a m c] 24 (0, 0)) ∧ Keeps None w wr ∧ IsL wr base g N vs (bef l) ∧ IsN wr G N (upTo l (i + 1) 0)) := by
              have hjl2 : j = (bef l i).length := by have := HV.out.2; omega
              rw [hjl2, List.take_length] at hF
              exact ⟨b0, hkp, hL, hF.congr (fun k _ => upTo_next HD.out i k)⟩
            clear hkp hL hF b0
            go_wp2_with fail
            exact ⟨⟨i + 1, by go_num, by omega, HN.out⟩, by simp [intOf]; omega⟩
      · have i1 : ¬ (i : Int) < (N : Int) := by omega
        obtain rfl : N = i := by omega
        have HN : Hid (wr.ownsRow w.heap.size 3 1 (.slice (some ⟨G, 0, none⟩) N N) (earV N l).length (iv (earV N l)) ∧ Keeps None w wr) := by
          refine ⟨?_, hkp⟩
          have hF2 : IsN wr G N (R l) := hF.congr (fun k hk => by unfold upTo; rw [if_pos hk])
          have := hF2.row w.heap.size HG.out.1 hN
          rw [ear_ok HC.out]
          simpa using this
        clear hkp hL hF b0
        go_wp2_with fail
        go_ret2
        exact ⟨_, by rw [HC.out]; rfl, HN.out⟩
  · have HC : Hid (¬ checkV n l = 0) := hc
    have hb : (checkV n l == 0) = false := by simpa using hc
    have HE : Hid (earV n l = []) := ear_bad hc
    have q0 : ¬ checkV n l = 0 := hc
    clear hc
    go_wp2_with fail
    go_ret2
    refine ⟨_, rfl, ?_, H1.out.2⟩
    rw [HE.out]
    exact row_nil _ _ _ _
end Go.Proofs.Ytnhoedodnbifdaa
