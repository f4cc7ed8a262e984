import Derived.Test.YtpofffbookhinaaDgListP
/-! 'listed' is a greedy schedule. -/
namespace Go.Proofs.Ytpofffbookhinaa
set_option linter.unusedVariables false
set_option maxRecDepth 20000
open Go.RowKit Go.HeapKit

theorem can_t (n : Nat) (a : Option Addr) (m c : Nat) (l : List Ed) (g : Nat) (T : Nat → Int) (i t : Nat) (w : World) (h : SeenE w a m l) (hN : IsN w g n T) (hd : Dag (n : Int) l) (hi : i < n) (hq : canQ l T i t) :
    Calls Try.prog 25 #[dagV n a m c, .slice (some ⟨g, 0, none⟩) n n, .int .i64 i, .int .i64 t] w fun e w' => e = .returned (.bool true) ∧ Keeps None w w' :=
  (can_any n a m c l g T i t w h hN hd hi).mono (by rintro e w' ⟨b, rfl, hb, hk⟩; rw [hb.2 hq]; exact ⟨rfl, hk⟩)
theorem can_f (n : Nat) (a : Option Addr) (m c : Nat) (l : List Ed) (g : Nat) (T : Nat → Int) (i t : Nat) (w : World) (h : SeenE w a m l) (hN : IsN w g n T) (hd : Dag (n : Int) l) (hi : i < n) (hq : ¬ canQ l T i t) :
    Calls Try.prog 25 #[dagV n a m c, .slice (some ⟨g, 0, none⟩) n n, .int .i64 i, .int .i64 t] w fun e w' => e = .returned (.bool false) ∧ Keeps None w w' :=
  (can_any n a m c l g T i t w h hN hd hi).mono (by
    rintro e w' ⟨b, rfl, hb, hk⟩
    cases b with
    | true => exact absurd (hb.1 rfl) hq
    | false => exact ⟨rfl, hk⟩)
theorem cnt_upd {n : Nat} {T : Nat → Int} {b : Nat} {t : Int} (hb : b < n) (h0 : T b = 0) (ht : t ≠ 0) : cntT n (upd T b t) = cntT n T + 1 := by
  have h1 : ∀ S : Nat → Int, cntT n S + cntAt n S 0 = n := by
    intro S
    unfold cntT cntAt
    have := filter_split (List.range n) (fun i => decide (S i ≠ 0)) (fun i => decide (S i = 0)) (fun _ => true) (fun x => by by_cases e : S x = 0 <;> simp [e]) (fun x hx => by simp at hx)
    rw [← this, List.filter_eq_self.2 (fun _ _ => rfl), List.length_range]
  have h2 := h1 T
  have h3 := h1 (upd T b t)
  have h4 : cntAt n T 0 = cntAt n (upd T b t) 0 + 1 := by
    have := cnt_upd_same (T := upd T b t) (b := b) (t := 0) (by simp [upd]; exact ht) n
    rw [if_pos hb] at this
    rw [← this]
    congr 1
    funext j
    unfold upd
    by_cases e : j = b
    · subst e; simp [h0]
    · simp [e]
  omega
theorem cnt_none (n : Nat) : cntT n (fun _ => 0) = 0 := by
  unfold cntT
  rw [List.length_eq_zero_iff, List.filter_eq_nil_iff]
  intro i _ h
  simp at h
theorem cnt_lt {n : Nat} {T : Nat → Int} (h : cntT n T < n) : ∃ i, i < n ∧ T i = 0 := by
  apply Classical.byContradiction
  intro h2
  have : cntT n T = n := cnt_all.2 (fun i hi h0 => h2 ⟨i, hi, h0⟩)
  omega
/-- What lies there, while a schedule is made. -/
def LsW (w wr : World) (s0 g n : Nat) (a : Option Addr) (m c : Nat) (T : Nat → Int) : Prop := wr.heap[s0]? = some (.cells #[.int .i64 n, .slice a m c] 25 (0, 0)) ∧ IsN wr g n T ∧ Keeps None w wr ∧ w.heap.size ≤ g ∧ s0 ≠ g
theorem LsW.more {w wr w5 : World} {s0 g n : Nat} {a : Option Addr} {m c : Nat} {T : Nat → Int} (h : LsW w wr s0 g n a m c T) (hk : Keeps None wr w5) : LsW w w5 s0 g n a m c T :=
  ⟨blk_kept h.1 hk (fun f => f), h.2.1.kept hk (fun f => f), h.2.2.1.trans hk (fun _ f _ => f), h.2.2.2.1, h.2.2.2.2⟩
def BestOk (n : Nat) (l : List Ed) (T : Nat → Int) (t i : Nat) (b : Int) : Prop := (b = -1 ∧ ∀ j, j < i → ¬ canQ l T j t) ∨ ∃ q : Nat, b = q ∧ q < n ∧ canQ l T q t
def ListAns (n P : Nat) (l : List Ed) (w : World) (e : Ending) (w' : World) : Prop := ∃ g T t, e = .returned (.slice (some ⟨g, 0, none⟩) n n) ∧ IsN w' g n T ∧ w.heap.size ≤ g ∧ Lst n P l T t 0 ∧ (∀ i, i < n → T i ≠ 0) ∧ Keeps None w w'
set_option maxHeartbeats 3200000 in
theorem listed_any (n : Nat) (a : Option Addr) (m c : Nat) (l : List Ed) (P : Nat) (oa : Option Addr) (ol oc : Nat) (os : List Int) (w : World) (h : SeenE w a m l) (ho : SeenZ w oa ol os) (hd : Dag (n : Int) l) (hP : 1 ≤ P) (hP2 : P ≤ 64) :
    Calls Try.prog 10 #[dagV n a m c, .int .i64 P, .slice oa ol oc] w fun e w' => ListAns n P l w e w' := by
  have HD : Hid (Dag (n : Int) l) := hd
  have HS : Hid (SeenE w a m l ∧ SeenZ w oa ol os) := ⟨h, ho⟩
  have hn : n ≤ 4096 := by have := hd.hi; omega
  clear hd h ho
  obtain ⟨s0, hs0⟩ : ∃ s0, s0 = w.heap.size := ⟨_, rfl⟩
  obtain ⟨wa, hwa⟩ : ∃ wa, wa = w.alloc (.cells #[.int .i64 n, .slice a m c] 25) := ⟨_, rfl⟩
  have hbox : wa.heap[s0]? = some (.cells #[.int .i64 n, .slice a m c] 25 (0, 0)) := by rw [hwa]; exact blk_new w _ _ hs0.symm
  have hka : Keeps None w wa := by rw [hwa]; exact keeps1 _ _
  obtain ⟨g, hg⟩ : ∃ g, g = wa.heap.size := ⟨_, rfl⟩
  have hmk := make_ints n wa hn
  rw [← hg] at hmk
  obtain ⟨wm, hwm⟩ : ∃ wm, wm = wa.alloc (.cells ((List.range n).map (fun _ => Value.int .i64 0)).toArray 3) := ⟨_, rfl⟩
  have hN0 : IsN wm g n (fun _ => 0) := by rw [hwm]; exact blk_new _ _ _ hg.symm
  have hkm : Keeps None wa wm := by rw [hwm]; exact keeps1 _ _
  rw [← hwm] at hmk
  have d0 : wa.cell? ⟨s0, 0, none⟩ = some (.int .i64 n) := (blk_cell hbox 0).trans rfl
  have HW : Hid (LsW w wm s0 g n a m c (fun _ => 0)) := ⟨blk_kept hbox hkm (fun f => f), hN0, hka.trans hkm (fun _ f _ => f), by have := hka.size; omega, by have := blk_lt hbox; omega⟩
  have HA : Hid (wa = w.alloc (.cells #[.int .i64 n, .slice a m c] 25)) := hwa
  clear hbox hka hN0 hkm hwm hwa
  unfold dagV
  go_enter Try.func10, Try.ntmps10
  go_upto_region 1 with fail
  rw [← HA.out, ← hs0]
  clear HA hs0 hg
  go_wp2_with fail
  go_loopw [9, 8, 10, 11, 12] (fun s9 s8 _ _ _ wr => ∃ (t : Nat) (T : Nat → Int), s9 = .int .i64 t ∧ s8 = .int .i64 (cntT n T) ∧ LsW w wr s0 g n a m c T ∧ Lst n P l T t 0 ∧ t ≤ n + 1 ∧ (cntT n T = n ∨ t ≤ cntT n T + 1)) (fun s9 _ _ _ _ _ => n + 1 - (intOf s9).toNat)
  case atStart => exact ⟨1, fun _ => 0, rfl, by rw [cnt_none]; rfl, HW.out, Lst.start n P l, by omega, .inr (by omega)⟩
  case round =>
    obtain ⟨t, T, rfl, rfl, hW, hL, ht, hc⟩ := hrel
    have e0 : wr.cell? ⟨s0, 0, none⟩ = some (.int .i64 n) := (blk_cell hW.1 0).trans rfl
    obtain ⟨dn, hdn⟩ : ∃ dn, dn = cntT n T := ⟨_, rfl⟩
    have hdle : dn ≤ n := by rw [hdn]; exact cnt_le n T
    have HI : Hid (LsW w wr s0 g n a m c T ∧ Lst n P l T t 0 ∧ (cntT n T = n ∨ t ≤ cntT n T + 1) ∧ dn = cntT n T) := ⟨hW, hL, hc, hdn⟩
    rw [← hdn]
    clear hW hL hc hdn d0 hmk
    by_cases hgo : dn < n
    · have ht2 : t ≤ n := by have := HI.out.2.2.1; have := HI.out.2.2.2; omega
      have g1 : (dn : Int) < (n : Int) := by omega
      have g2 : (t : Int) ≤ (n : Int) := by omega
      go_wp2_with fail
      go_loopw [10, 8, 11, 12] (fun s10 s8 _ _ ws => ∃ (k dk : Nat) (T' : Nat → Int), s10 = .int .i64 k ∧ s8 = .int .i64 dk ∧ LsW w ws s0 g n a m c T' ∧ Lst n P l T' t k ∧ k ≤ P ∧ cntT n T' = dk ∧ dk = dn + k) (fun s10 _ _ _ _ => P - (intOf s10).toNat)
      case atStart => exact ⟨0, dn, T, rfl, rfl, HI.out.1, HI.out.2.1, Nat.zero_le _, HI.out.2.2.2.symm, rfl⟩
      case round =>
        obtain ⟨k, dk, T', rfl, rfl, hW, hL, hk, hcn, hdk2⟩ := hrel
        have e1 : wr.cell? ⟨s0, 0, none⟩ = some (.int .i64 n) := (blk_cell hW.1 0).trans rfl
        have HJ : Hid (LsW w wr s0 g n a m c T' ∧ Lst n P l T' t k ∧ cntT n T' = dk ∧ dk = dn + k) := ⟨hW, hL, hcn, hdk2⟩
        have hdk : dk ≤ n := by rw [← hcn]; exact cnt_le n T'
        clear hW hL hcn e0 hdk2
        by_cases hkP : k < P
        · have k1 : (k : Int) < (P : Int) := by omega
          go_wp2_with fail
          go_loopw [12, 11] (fun s12 s11 wt => ∃ (i : Nat) (b : Int), s12 = .int .i64 i ∧ s11 = .int .i64 b ∧ i ≤ n ∧ BestOk n l T' t i b ∧ LsW w wt s0 g n a m c T') (fun s12 _ _ => n - (intOf s12).toNat)
          case atStart => exact ⟨0, -1, rfl, rfl, Nat.zero_le _, .inl ⟨rfl, fun j hj => by omega⟩, HJ.out.1⟩
          case round =>
            obtain ⟨i, b, rfl, rfl, hi, hB, hW⟩ := hrel
            have e2 : wr.cell? ⟨s0, 0, none⟩ = some (.int .i64 n) := (blk_cell hW.1 0).trans rfl
            have e3 : wr.cell? ⟨s0, 1, none⟩ = some (.slice a m c) := (blk_cell hW.1 1).trans rfl
            have HK : Hid (LsW w wr s0 g n a m c T') := hW
            have HSE : Hid (SeenE wr a m l ∧ SeenZ wr oa ol os) := ⟨HS.out.1.more hW.2.2.1, HS.out.2.more hW.2.2.1⟩
            clear hW e1
            by_cases hin : i < n
            · have i1 : (i : Int) < (n : Int) := by omega
              have HCT : Hid (canQ l T' i t → Calls Try.prog 25 #[.agg #[.int .i64 n, .slice a m c], .slice (some ⟨g, 0, none⟩) n n, .int .i64 i, .int .i64 t] wr fun e w' => e = .returned (.bool true) ∧ Keeps None wr w') := fun hq => can_t n a m c l g T' i t wr HSE.out.1 HK.out.2.1 HD.out hin hq
              have HCF : Hid (¬ canQ l T' i t → Calls Try.prog 25 #[.agg #[.int .i64 n, .slice a m c], .slice (some ⟨g, 0, none⟩) n n, .int .i64 i, .int .i64 t] wr fun e w' => e = .returned (.bool false) ∧ Keeps None wr w') := fun hq => can_f n a m c l g T' i t wr HSE.out.1 HK.out.2.1 HD.out hin hq
              rcases hB with ⟨rfl, hnone⟩ | ⟨q, rfl, hqn, hqc⟩
              · have HNO : Hid (∀ j, j < i → ¬ canQ l T' j t) := hnone
                clear hnone
                by_cases hq : canQ l T' i t
                · have HQ : Hid (canQ l T' i t) := hq
                  clear hq
                  go_wp2_with fail
                  refine (HCT.out HQ.out).mono ?_
                  rintro _ w5 ⟨rfl, hk5⟩
                  have H5 : Hid (LsW w w5 s0 g n a m c T') := HK.out.more hk5
                  clear hk5
                  go_wp2_with fail
                  go_roundw
                  case rel => exact ⟨i + 1, i, by go_num, rfl, by omega, .inr ⟨i, rfl, hin, HQ.out⟩, H5.out⟩
                  case measure => simp [intOf]; omega
                · have HQ : Hid (¬ canQ l T' i t) := hq
                  clear hq
                  go_wp2_with fail
                  refine (HCF.out HQ.out).mono ?_
                  rintro _ w5 ⟨rfl, hk5⟩
                  have H5 : Hid (LsW w w5 s0 g n a m c T') := HK.out.more hk5
                  clear hk5
                  go_wp2_with fail
                  have HN2 : Hid (∀ j, j < i + 1 → ¬ canQ l T' j t) := fun j hj => by
                    by_cases e : j = i
                    · rw [e]; exact HQ.out
                    · exact HNO.out j (by omega)
                  go_roundw
                  case rel => exact ⟨i + 1, -1, by go_num, rfl, by omega, .inl ⟨rfl, HN2.out⟩, H5.out⟩
                  case measure => simp [intOf]; omega
              · have HQC : Hid (canQ l T' q t) := hqc
                have q0 : ¬ (q : Int) < 0 := by omega
                clear hqc
                go_wp2_with fail
                refine (rank_any oa ol oc os i wr HSE.out.2).mono ?_
                rintro _ wz ⟨rfl, hw⟩
                have hw2 := hw.symm
                subst hw2
                clear hw
                generalize os.getD i 0 = x
                go_wp2_with fail
                refine (rank_any oa ol oc os q wr HSE.out.2).mono ?_
                rintro _ wz ⟨rfl, hw⟩
                have hw2 := hw.symm
                subst hw2
                clear hw
                generalize os.getD q 0 = y
                by_cases hxy : x < y
                · by_cases hq : canQ l T' i t
                  · have HQ : Hid (canQ l T' i t) := hq
                    clear hq
                    go_wp2_with fail
                    refine (HCT.out HQ.out).mono ?_
                    rintro _ w5 ⟨rfl, hk5⟩
                    have H5 : Hid (LsW w w5 s0 g n a m c T') := HK.out.more hk5
                    clear hk5
                    go_wp2_with fail
                    go_roundw
                    case rel => exact ⟨i + 1, i, by go_num, rfl, by omega, .inr ⟨i, rfl, hin, HQ.out⟩, H5.out⟩
                    case measure => simp [intOf]; omega
                  · have HQ : Hid (¬ canQ l T' i t) := hq
                    clear hq
                    go_wp2_with fail
                    refine (HCF.out HQ.out).mono ?_
                    rintro _ w5 ⟨rfl, hk5⟩
                    have H5 : Hid (LsW w w5 s0 g n a m c T') := HK.out.more hk5
                    clear hk5
                    go_wp2_with fail
                    go_roundw
                    case rel => exact ⟨i + 1, q, by go_num, rfl, by omega, .inr ⟨q, rfl, hqn, HQC.out⟩, H5.out⟩
                    case measure => simp [intOf]; omega
                · go_wp2_with fail
                  exact ⟨⟨i + 1, q, by go_num, rfl, by omega, .inr ⟨q, rfl, hqn, HQC.out⟩, HK.out⟩, by simp [intOf]; omega⟩
            · have i1 : ¬ (i : Int) < (n : Int) := by omega
              rcases hB with ⟨rfl, hnone⟩ | ⟨q, rfl, hqn, hqc⟩
              · have HNO : Hid (∀ j, j < n → ¬ canQ l T' j t) := fun j hj => hnone j (by omega)
                clear hnone
                go_wp2_with fail
                refine ⟨⟨t + 1, T', by go_num, by rw [HJ.out.2.2.1], HK.out, HJ.out.2.1.next (.inr HNO.out), by omega, .inr ?_⟩, by simp [intOf]; omega⟩
                have h1 := HI.out.2.2.1
                have h2 := HI.out.2.2.2
                have h3 := HJ.out.2.2.1
                have h4 := HJ.out.2.2.2
                by_cases hk0 : k = 0
                · exfalso
                  obtain ⟨j, hj, hj0⟩ := cnt_lt (T := T') (n := n) (by omega)
                  have hL := HJ.out.2.1
                  rw [hk0] at hL
                  obtain ⟨j2, hj2, hc2⟩ := hL.some HD.out j hj hj0
                  exact HNO.out j2 hj2 hc2
                · omega
              · have q0 : ¬ (q : Int) < 0 := by omega
                have q1 : (q : Int) < (n : Int) := by omega
                have n0 : ¬ n = 0 := by omega
                have x0 := HK.out.2.1.at hqn
                have z0 := HK.out.2.1.free q
                have HN : Hid (LsW w (wr.setCell ⟨g, q, none⟩ (.int .i64 t)) s0 g n a m c (upd T' q t) ∧ Lst n P l (upd T' q t) t (k + 1) ∧ cntT n (upd T' q t) = dk + 1 ∧ dk + 1 = dn + (k + 1)) := by
                  refine ⟨⟨blk_kept HK.out.1 (Keeps.setCell (S := (· = g)) wr rfl _) HK.out.2.2.2.2, HK.out.2.1.set q t, HK.out.2.2.1.andSet (x := ⟨g, q, none⟩) (.inr HK.out.2.2.2.1) _, HK.out.2.2.2.1, HK.out.2.2.2.2⟩, HJ.out.2.1.put HD.out hqn hqc hkP, ?_, by have := HJ.out.2.2.2; omega⟩
                  rw [cnt_upd hqn hqc.1 (by have := HJ.out.2.1.t1; omega), HJ.out.2.2.1]
                generalize T' q = y at x0
                clear hqc
                go_wp2_with fail
                exact ⟨⟨k + 1, dk + 1, upd T' q t, by go_num, by go_num, HN.out.1, HN.out.2.1, by omega, HN.out.2.2.1, HN.out.2.2.2⟩, by simp [intOf]; omega⟩
        · have k1 : ¬ (k : Int) < (P : Int) := by omega
          go_wp2_with fail
          refine ⟨⟨t + 1, T', by go_num, by rw [HJ.out.2.2.1], HJ.out.1, HJ.out.2.1.next (.inl (by omega)), by omega, .inr ?_⟩, by simp [intOf]; omega⟩
          have := HI.out.2.2.1
          have := HI.out.2.2.2
          have := HJ.out.2.2.1
          have := HJ.out.2.2.2
          omega
    · have g1 : ¬ (dn : Int) < (n : Int) := by omega
      have HF : Hid (∀ i, i < n → T i ≠ 0) := cnt_all.1 (by have := HI.out.2.2.2; omega)
      go_wp2_with fail
      go_ret
      exact ⟨g, T, t, rfl, HI.out.1.2.1, HI.out.1.2.2.2.1, HI.out.2.1, HF.out, HI.out.1.2.2.1⟩
end Go.Proofs.Ytpofffbookhinaa
