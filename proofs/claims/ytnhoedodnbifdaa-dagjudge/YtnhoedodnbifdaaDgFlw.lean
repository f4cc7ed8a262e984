import Derived.Test.YtnhoedodnbifdaaDgLists
/-! For each node those that it is ahead of; those that are ahead of it. -/
namespace Go.Proofs.Ytnhoedodnbifdaa
set_option linter.unusedVariables false
set_option maxRecDepth 20000
open Go.RowKit Go.HeapKit

theorem make_lists (n : Nat) (w : World) (hn : n ≤ 4096) : (Instr.makeSlice 55 (.int .i64 n) (.int .i64 n)).run Try.prog w = .ok (.slice (some ⟨w.heap.size, 0, none⟩) n n) (w.alloc (.cells ((List.range n).map (fun _ => Value.slice none 0 0)).toArray 25)) := by
  obtain ⟨i0, hi, hz0, hz1, hz2⟩ := info_parts Try.infoInts
  obtain ⟨M, hM, _, hr⟩ := run_make_block (P := Try.prog) (w := w) 55 25 i0 _ 1 24 Try.underlying55 hi hz0 hz1 hz2 n (by omega) (by omega)
  rw [made_one _ rfl, Nat.mul_one] at hM
  rw [hr, hM]
theorem IsL.congr {w : World} {base g n : Nat} {vs : Nat → Value} {L L' : Nat → List Int} (h : IsL w base g n vs L) (e : ∀ k, k < n → L k = L' k) : IsL w base g n vs L' :=
  ⟨h.outer, h.low, fun k hk => by rw [← e k hk]; exact h.rows k hk, h.apart⟩
set_option maxHeartbeats 3200000 in
theorem flw_any (n : Nat) (a : Option Addr) (m c : Nat) (l : List Ed) (w : World) (h : SeenE w a m l) (hd : Dag (n : Int) l) :
    Calls Try.prog 59 #[dagV n a m c] w fun e w' => ∃ g vs, e = .returned (.slice (some ⟨g, 0, none⟩) n n) ∧ IsL w' w.heap.size g n vs (flw l) ∧ Keeps None w w' := by
  have HS : Hid (SeenE w a m l) := h
  have HD : Hid (Dag (n : Int) l) := hd
  have hl : Hid (m = l.length) := h.len
  have hn : n ≤ 4096 := by have := hd.hi; omega
  have hm : m ≤ 16384 := by have := hd.len; have := hl.out; omega
  clear h hd
  obtain ⟨s0, hs0⟩ : ∃ s0, s0 = w.heap.size := ⟨_, rfl⟩
  have HS0 : Hid (s0 = w.heap.size) := hs0
  have hmk := make_lists n (w.alloc (.cells #[.int .i64 n, .slice a m c] 24)) hn
  unfold dagV
  go_enter Try.func59, Try.ntmps59
  go_wp2_with (at_make; refine wpList_make_run rfl (.tmp 7) (.tmp 7) 55 rfl rfl rfl hmk ?_)
  clear hmk
  rw [← hs0]
  clear hs0
  go_loopw [12, 5] (fun s12 _ wr => ∃ (i : Nat) (vs : Nat → Value), s12 = .int .i64 i ∧ i ≤ m ∧ IsL wr s0 (s0 + 1) n vs (flw (l.take i)) ∧ Keeps None w wr) (fun s12 _ _ => m - (intOf s12).toNat)
  case atStart =>
    have e := HS0.out
    have hst := IsL.start (w.alloc (.cells #[.int .i64 n, .slice a m c] 24)) s0 n (by simp; omega)
    rw [show (w.alloc (.cells #[.int .i64 n, .slice a m c] 24)).heap.size = s0 + 1 by simp; omega] at hst
    exact ⟨0, _, rfl, Nat.zero_le _, hst.congr (fun k _ => by simp [flw]), ((Keeps.refl None w).andAlloc _).andAlloc _⟩
  case round =>
    obtain ⟨i, vs, rfl, hi, hL, hkp⟩ := hrel
    skip
    by_cases hlt : i < m
    · obtain ⟨b, off, e, rfl, he, hat⟩ := (HS.out.more hkp).at hlt
      have hok := HD.out.ok e (List.mem_of_getElem? he)
      have hs0 := HS0.out
      have hsz := hkp.size
      have e0 := hat.f
      have e1 := hat.t
      obtain ⟨ef, et⟩ := e
      simp only at e0 e1 hok
      obtain ⟨f, rfl⟩ := Int.eq_ofNat_of_zero_le hok.1
      obtain ⟨t, rfl⟩ := Int.eq_ofNat_of_zero_le (show 0 ≤ et by omega)
      have m0 : ¬ m = 0 := by omega
      have i1 : (i : Int) < (m : Int) := by omega
      have i2 : (f : Int) < (n : Int) := by omega
      have n0 : ¬ n = 0 := by omega
      have hkn : f < n := by omega
      have hll : (flw (l.take i) f).length ≤ 16384 := by
        have := flw_len (l.take i) f
        rw [List.length_take] at this
        have := hl.out
        omega
      obtain ⟨wa, hwa⟩ : ∃ wa, wa = wr.alloc (.cells #[.int .i64 f, .int .i64 t] 52) := ⟨_, rfl⟩
      have hwk : Keeps None wr wa := by rw [hwa]; exact Keeps.alloc None wr _
      have hLa := hL.more hwk
      have hws : wa.heap.size = wr.heap.size + 1 := by rw [hwa]; simp
      have f0 : wa.cell? ⟨wr.heap.size, 0, none⟩ = some (.int .i64 f) := by rw [hwa]; exact (blk_cell (blk_new wr (.cells #[.int .i64 f, .int .i64 t] 52) _ rfl) 0).trans rfl
      have f1 : wa.cell? ⟨wr.heap.size, 1, none⟩ = some (.int .i64 t) := by rw [hwa]; exact (blk_cell (blk_new wr (.cells #[.int .i64 f, .int .i64 t] 52) _ rfl) 1).trans rfl
      have g1 := hLa.at hkn
      have hDk : Keeps None wa (wa.drew.alloc (.cells #[.int .i64 t] 3)) := ((Keeps.refl None wa).andDrew).andAlloc _
      obtain ⟨vb, vc, w2, hr, y1, y2, hk3, hL2, hk2⟩ := list_more (hLa.more hDk) f hkn t 25 wa.heap.size (by simp; omega) (by omega) (blk_new _ _ _ (by simp))
      generalize hln : (flw (l.take i) f).length + 1 = ln at hr hL2 hk2
      have g2 : (wa.alloc (.cells #[.int .i64 t] 3)).cell? ⟨s0 + 1, f, none⟩ = some (vs f) := (Keeps.alloc None wa _).cell g1 (fun f => f)
      have f2 : (wa.alloc (.cells #[.int .i64 t] 3)).cell? ⟨wr.heap.size, 0, none⟩ = some (.int .i64 f) := (Keeps.alloc None wa _).cell f0 (fun f => f)
      have f3 : (wa.alloc (.cells #[.int .i64 t] 3)).cell? ⟨wr.heap.size, 1, none⟩ = some (.int .i64 t) := (Keeps.alloc None wa _).cell f1 (fun f => f)
      have hbe : wa.heap[wr.heap.size]? = some (.cells #[.int .i64 f, .int .i64 t] 52 (0, 0)) := by rw [hwa]; exact blk_new _ _ _ rfl
      have hbe2 := blk_kept hbe hDk (fun f => f)
      have f4 : w2.cell? ⟨wr.heap.size, 0, none⟩ = some (.int .i64 f) := (blk_cell (blk_kept hbe2 hk3 (fun e => absurd (own_type ((hLa.more hDk).rows f hkn) e hbe2) (by decide))) 0).trans rfl
      clear hbe hbe2
      have HN : Hid (IsL (w2.setCell ⟨s0 + 1, f, none⟩ (.slice (some ⟨vb, 0, none⟩) ln vc)) s0 (s0 + 1) n (upd vs f (.slice (some ⟨vb, 0, none⟩) ln vc)) (flw (l.take (i + 1))) ∧ Keeps None w (w2.setCell ⟨s0 + 1, f, none⟩ (.slice (some ⟨vb, 0, none⟩) ln vc))) := by
        refine ⟨hL2.congr (fun k _ => ?_), ((hkp.trans hwk (fun _ f _ => f)).trans hDk (fun _ f _ => f)).trans hk2 (fun j e hj => by omega)⟩
        rw [flw_take l i _ he]
        unfold upd
        simp only [Int.natCast_inj]
        by_cases e : k = f
        · subst e; simp
        · rw [if_neg e, if_neg (Ne.symm e)]
      skip
      obtain ⟨sa, sn, cs, hv⟩ : ∃ sa sn cs, vs f = .slice sa sn cs := by
        obtain ⟨ao, cp, e⟩ := row_shape (hL.rows f hkn)
        exact ⟨_, _, _, e⟩
      rw [hv] at hr y1 g1 g2
      clear hL hkp hL2 hk2 hDk hLa hwk he hat hok HS HD hv hll hln hk3 hsz hs0 
      go_upto_region 5 with fail
      rw [← hwa]
      clear hwa
      go_wp2_with fail
      go_region_law (refine step_append_run rfl (.tmp 23) (.tmp 26) 25 25 rfl (by simp [Act.eval]) (by simp [Act.eval]) hr ?_)
      all_goals (go_wp2_with fail; exact ⟨⟨i + 1, _, by go_num, by omega, HN.out⟩, by simp [intOf]; omega⟩)
    · have i1 : ¬ (i : Int) < (m : Int) := by omega
      obtain rfl : i = m := by omega
      have HN : Hid (IsL wr w.heap.size (s0 + 1) n vs (flw l) ∧ Keeps None w wr) := by
        rw [List.take_of_length_le (by have := hl.out; omega), HS0.out] at hL
        rw [HS0.out]
        exact ⟨hL, hkp⟩
      clear hL hkp
      go_wp2_with fail
      go_ret
      exact ⟨_, rfl, ⟨_, HN.out.1⟩, HN.out.2⟩
set_option maxHeartbeats 3200000 in
theorem bef_any (n : Nat) (a : Option Addr) (m c : Nat) (l : List Ed) (w : World) (h : SeenE w a m l) (hd : Dag (n : Int) l) :
    Calls Try.prog 35 #[dagV n a m c] w fun e w' => ∃ g vs, e = .returned (.slice (some ⟨g, 0, none⟩) n n) ∧ IsL w' w.heap.size g n vs (bef l) ∧ Keeps None w w' := by
  have HS : Hid (SeenE w a m l) := h
  have HD : Hid (Dag (n : Int) l) := hd
  have hl : Hid (m = l.length) := h.len
  have hn : n ≤ 4096 := by have := hd.hi; omega
  have hm : m ≤ 16384 := by have := hd.len; have := hl.out; omega
  clear h hd
  obtain ⟨s0, hs0⟩ : ∃ s0, s0 = w.heap.size := ⟨_, rfl⟩
  have HS0 : Hid (s0 = w.heap.size) := hs0
  have hmk := make_lists n (w.alloc (.cells #[.int .i64 n, .slice a m c] 24)) hn
  unfold dagV
  go_enter Try.func35, Try.ntmps35
  go_wp2_with (at_make; refine wpList_make_run rfl (.tmp 7) (.tmp 7) 55 rfl rfl rfl hmk ?_)
  clear hmk
  rw [← hs0]
  clear hs0
  go_loopw [4, 5] (fun s12 _ wr => ∃ (i : Nat) (vs : Nat → Value), s12 = .int .i64 i ∧ i ≤ m ∧ wr.heap[s0]? = some (.cells #[.int .i64 n, .slice a m c] 24 (0, 0)) ∧ IsL wr s0 (s0 + 1) n vs (bef (l.take i)) ∧ Keeps None w wr) (fun s12 _ _ => m - (intOf s12).toNat)
  case atStart =>
    have e := HS0.out
    have hst := IsL.start (w.alloc (.cells #[.int .i64 n, .slice a m c] 24)) s0 n (by simp; omega)
    rw [show (w.alloc (.cells #[.int .i64 n, .slice a m c] 24)).heap.size = s0 + 1 by simp; omega] at hst
    exact ⟨0, _, rfl, Nat.zero_le _, blk_old (blk_new _ _ _ e.symm) _, hst.congr (fun k _ => by simp [bef]), ((Keeps.refl None w).andAlloc _).andAlloc _⟩
  case round =>
    obtain ⟨i, vs, rfl, hi, b0, hL, hkp⟩ := hrel
    have d1 := (blk_cell b0 1).trans rfl
    by_cases hlt : i < m
    · obtain ⟨b, off, e, rfl, he, hat⟩ := (HS.out.more hkp).at hlt
      have hok := HD.out.ok e (List.mem_of_getElem? he)
      have hs0 := HS0.out
      have hsz := hkp.size
      have e0 := hat.f
      have e1 := hat.t
      obtain ⟨ef, et⟩ := e
      simp only at e0 e1 hok
      obtain ⟨f, rfl⟩ := Int.eq_ofNat_of_zero_le hok.1
      obtain ⟨t, rfl⟩ := Int.eq_ofNat_of_zero_le (show 0 ≤ et by omega)
      have m0 : ¬ m = 0 := by omega
      have i1 : (i : Int) < (m : Int) := by omega
      have i2 : (t : Int) < (n : Int) := by omega
      have n0 : ¬ n = 0 := by omega
      have hkn : t < n := by omega
      have hll : (bef (l.take i) t).length ≤ 16384 := by
        have := bef_len (l.take i) t
        rw [List.length_take] at this
        have := hl.out
        omega
      obtain ⟨wa, hwa⟩ : ∃ wa, wa = wr.alloc (.cells #[.int .i64 f, .int .i64 t] 52) := ⟨_, rfl⟩
      have hwk : Keeps None wr wa := by rw [hwa]; exact Keeps.alloc None wr _
      have hLa := hL.more hwk
      have hws : wa.heap.size = wr.heap.size + 1 := by rw [hwa]; simp
      have f0 : wa.cell? ⟨wr.heap.size, 0, none⟩ = some (.int .i64 f) := by rw [hwa]; exact (blk_cell (blk_new wr (.cells #[.int .i64 f, .int .i64 t] 52) _ rfl) 0).trans rfl
      have f1 : wa.cell? ⟨wr.heap.size, 1, none⟩ = some (.int .i64 t) := by rw [hwa]; exact (blk_cell (blk_new wr (.cells #[.int .i64 f, .int .i64 t] 52) _ rfl) 1).trans rfl
      have g1 := hLa.at hkn
      have hDk : Keeps None wa (wa.drew.alloc (.cells #[.int .i64 f] 3)) := ((Keeps.refl None wa).andDrew).andAlloc _
      obtain ⟨vb, vc, w2, hr, y1, y2, hk3, hL2, hk2⟩ := list_more (hLa.more hDk) t hkn f 25 wa.heap.size (by simp; omega) (by omega) (blk_new _ _ _ (by simp))
      generalize hln : (bef (l.take i) t).length + 1 = ln at hr hL2 hk2
      have g2 : (wa.alloc (.cells #[.int .i64 f] 3)).cell? ⟨s0 + 1, t, none⟩ = some (vs t) := (Keeps.alloc None wa _).cell g1 (fun f => f)
      have f2 : (wa.alloc (.cells #[.int .i64 f] 3)).cell? ⟨wr.heap.size, 0, none⟩ = some (.int .i64 f) := (Keeps.alloc None wa _).cell f0 (fun f => f)
      have f3 : (wa.alloc (.cells #[.int .i64 f] 3)).cell? ⟨wr.heap.size, 1, none⟩ = some (.int .i64 t) := (Keeps.alloc None wa _).cell f1 (fun f => f)
      have hbe : wa.heap[wr.heap.size]? = some (.cells #[.int .i64 f, .int .i64 t] 52 (0, 0)) := by rw [hwa]; exact blk_new _ _ _ rfl
      have hbe2 := blk_kept hbe hDk (fun f => f)
      have f4 : w2.cell? ⟨wr.heap.size, 1, none⟩ = some (.int .i64 t) := (blk_cell (blk_kept hbe2 hk3 (fun e => absurd (own_type ((hLa.more hDk).rows t hkn) e hbe2) (by decide))) 1).trans rfl
      clear hbe hbe2
      have HN : Hid (IsL (w2.setCell ⟨s0 + 1, t, none⟩ (.slice (some ⟨vb, 0, none⟩) ln vc)) s0 (s0 + 1) n (upd vs t (.slice (some ⟨vb, 0, none⟩) ln vc)) (bef (l.take (i + 1))) ∧ Keeps None w (w2.setCell ⟨s0 + 1, t, none⟩ (.slice (some ⟨vb, 0, none⟩) ln vc))) := by
        refine ⟨hL2.congr (fun k _ => ?_), ((hkp.trans hwk (fun _ f _ => f)).trans hDk (fun _ f _ => f)).trans hk2 (fun j e hj => by omega)⟩
        rw [bef_take l i _ he]
        unfold upd
        simp only [Int.natCast_inj]
        by_cases e : k = t
        · subst e; simp
        · rw [if_neg e, if_neg (Ne.symm e)]
      have HB : Hid ((w2.setCell ⟨s0 + 1, t, none⟩ (.slice (some ⟨vb, 0, none⟩) ln vc)).heap[s0]? = some (.cells #[.int .i64 n, .slice (some ⟨b, off, none⟩) m c] 24 (0, 0))) := by
        have h3 := blk_kept (blk_kept b0 hwk (fun f => f)) hDk (fun f => f)
        have h4 := blk_kept h3 hk3 (fun e => absurd (own_type ((hLa.more hDk).rows t hkn) e h3) (by decide))
        exact blk_kept h4 (Keeps.setCell (S := (· = s0 + 1)) w2 rfl _) (by omega)
      obtain ⟨sa, sn, cs, hv⟩ : ∃ sa sn cs, vs t = .slice sa sn cs := by
        obtain ⟨ao, cp, e⟩ := row_shape (hL.rows t hkn)
        exact ⟨_, _, _, e⟩
      rw [hv] at hr y1 g1 g2
      clear hL hkp hL2 hk2 hDk hLa hwk he hat hok HS HD hv hll hln hk3 hsz hs0 b0
      go_upto_region 6 with fail
      rw [← hwa]
      clear hwa
      go_wp2_with fail
      go_region_law (refine step_append_run rfl (.tmp 28) (.tmp 31) 25 25 rfl (by simp [Act.eval]) (by simp [Act.eval]) hr ?_)
      all_goals (go_wp2_with fail; exact ⟨⟨i + 1, _, by go_num, by omega, HB.out, HN.out⟩, by simp [intOf]; omega⟩)
    · have i1 : ¬ (i : Int) < (m : Int) := by omega
      obtain rfl : i = m := by omega
      have HN : Hid (IsL wr w.heap.size (s0 + 1) n vs (bef l) ∧ Keeps None w wr) := by
        rw [List.take_of_length_le (by have := hl.out; omega), HS0.out] at hL
        rw [HS0.out]
        exact ⟨hL, hkp⟩
      clear hL hkp
      go_wp2_with fail
      go_ret
      exact ⟨_, rfl, ⟨_, HN.out.1⟩, HN.out.2⟩
end Go.Proofs.Ytnhoedodnbifdaa
