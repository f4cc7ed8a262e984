import Derived.Test.YtoehkjfdaolcnaaDoorPkAF
import Derived.Test.YtoehkjfdaolcnaaDoorPkAG
/-! The states of all slots. -/
namespace Go.Proofs.YtoehkjfdaolcnaaDoor
set_option linter.unusedVariables false
set_option maxRecDepth 20000
open Go.RowKit Go.HeapKit

/-- What flow has, slot by slot, place by place, state by state. -/
def flowM (f : Fn) (fr : List Pt) (s k i : Nat) : Nat → Nat → Int := fun k' s' => if s' < s then sumAt (searchV f s' (0, 0)) k' else if s' = s then (if k' < k then sumAt fr k' else if k' = k then partV fr k i else 0) else 0
theorem part_same {f : Fn} {FR : List Pt} {s a i : Nat} (h : ((FR[a * 5 + i]?).getD (0, 0)).2 = 0) {k' s' : Nat} : flowM f FR s a i k' s' = flowM f FR s a (i + 1) k' s' := by
  have e : partV FR a (i + 1) = partV FR a i := by
    conv => lhs; unfold partV
    rw [List.getD_eq_getElem?_getD, if_neg (fun q => q h)]
  simp only [flowM, e]
theorem part_more {f : Fn} {FR : List Pt} {s a i : Nat} {v : Int} (h : ((FR[a * 5 + i]?).getD (0, 0)).2 ≠ 0) (hv : v = partV FR a i) (k' s' : Nat) : (if k' = a ∧ s' = s then v + i else flowM f FR s a i k' s') = flowM f FR s a (i + 1) k' s' := by
  have e : partV FR a (i + 1) = partV FR a i + i := by
    conv => lhs; unfold partV
    rw [List.getD_eq_getElem?_getD, if_pos h]
  simp only [flowM, e]
  by_cases h1 : k' = a <;> by_cases h2 : s' = s
  · simp [h1, h2, hv]
  · simp [h1, h2]
  · simp [h1]
  · simp [h1]
theorem part_next {f : Fn} {FR : List Pt} {s a : Nat} (k' s' : Nat) : flowM f FR s a 5 k' s' = flowM f FR s (a + 1) 0 k' s' := by
  have e : partV FR (a + 1) 0 = 0 := rfl
  simp only [flowM, part_sum, e]
  by_cases h1 : k' < a
  · simp [h1, show k' < a + 1 by omega]
  · by_cases h2 : k' = a
    · simp [h2]
    · simp [h1, h2, show ¬ k' < a + 1 by omega]
theorem part_slot {f : Fn} {FR : List Pt} {s a : Nat} (h : FR = searchV f s (0, 0)) {k' s' : Nat} (hk : k' < a) : flowM f FR s a 0 k' s' = flowM f [] (s + 1) 0 0 k' s' := by
  simp only [flowM, partV, hk, if_true]
  by_cases h1 : s' < s
  · simp [h1, show s' < s + 1 by omega]
  · by_cases h2 : s' = s
    · subst h2; simp [h]
    · simp [h1, h2, show ¬ s' < s + 1 by omega]
theorem five_of {n : Nat} {fr : List Pt} (h : fr.length = n * 5) {k : Nat} (hk : k < n) : ∃ u0 v0 u1 v1 u2 v2 u3 v3 u4 v4, fr[k * 5]? = some (u0, v0) ∧ fr[k * 5 + 1]? = some (u1, v1) ∧ fr[k * 5 + 2]? = some (u2, v2) ∧ fr[k * 5 + 3]? = some (u3, v3) ∧ fr[k * 5 + 4]? = some (u4, v4) :=
  ⟨(fr[k * 5]'(by omega)).1, (fr[k * 5]'(by omega)).2, (fr[k * 5 + 1]'(by omega)).1, (fr[k * 5 + 1]'(by omega)).2, (fr[k * 5 + 2]'(by omega)).1, (fr[k * 5 + 2]'(by omega)).2, (fr[k * 5 + 3]'(by omega)).1, (fr[k * 5 + 3]'(by omega)).2, (fr[k * 5 + 4]'(by omega)).1, (fr[k * 5 + 4]'(by omega)).2, List.getElem?_eq_getElem _, List.getElem?_eq_getElem _, List.getElem?_eq_getElem _, List.getElem?_eq_getElem _, List.getElem?_eq_getElem _⟩
set_option maxRecDepth 10000 in
set_option maxHeartbeats 2000000 in
theorem flow_any (f : Fn) (ca : Option Addr) (cc : Nat) (w : World) (hT : Tabs w) (hC : SeenI w ca f.code.length f.code) (hG : Good f) (n m : Nat) (hn : n = f.code.length) (hm : (m : Int) = f.slots) (hm8 : m ≤ 8) :
    Calls Tryd.prog 74 #[fnV f ca cc] w fun e w' => ∃ g, e = .returned (.slice (some ⟨g, 0, none⟩) n n) ∧ IsM w' g n m n (fun k s => sumAt (searchV f s (0, 0)) k) ∧ Keeps None w w' ∧ w.heap.size ≤ g := by
  unfold fnV
  rw [← hn] at hC ⊢
  have n2 : n ≤ 512 := by have := hG.n2; omega
  rw [← hm]
  have HG : Hid (Good f ∧ n = f.code.length ∧ Tabs w ∧ SeenI w ca n f.code) := ⟨hG, hn, hT, hC⟩
  obtain ⟨B, hB⟩ : ∃ B, B = w.heap.size := ⟨_, rfl⟩
  have hse := fun (slot : Nat) (wx : World) (hk : Keeps None w wx) => search_any f ca cc slot (0, 0) wx (hT.more hk) (by rw [← hn]; exact hC.more hk) hG
  unfold fnV at hse
  rw [← hn, ← hm] at hse
  have HSE : Hid _ := hse
  clear hse hG hn hT hC hm
  have hk1 := Keeps.alloc None w (.cells #[.int .i64 f.params, .int .i64 f.regs, .int .i64 m, .slice ca n cc] 37)
  have b1 := heap_alloc_new w (.cells #[.int .i64 f.params, .int .i64 f.regs, .int .i64 m, .slice ca n cc] 37)
  have hs1 : (w.alloc (.cells #[.int .i64 f.params, .int .i64 f.regs, .int .i64 m, .slice ca n cc] 37)).heap.size = B + 1 := by simp [hB]
  obtain ⟨w3, hmk, hM, hk3, hs3⟩ := rows_made (w.alloc (.cells #[.int .i64 f.params, .int .i64 f.regs, .int .i64 m, .slice ca n cc] 37)) n n2 m
  rw [hs1] at hmk hM hs3
  rw [← hB] at b1
  have HB : Hid (IsM w3 (B + 1) n m 0 (fun _ _ => 0) ∧ Keeps None w w3 ∧ w3.heap.size = B + 1 + 1 ∧ w3.heap[B]? = some (.cells #[.int .i64 f.params, .int .i64 f.regs, .int .i64 m, .slice ca n cc] 37 (0, 0)) ∧ B = w.heap.size) := ⟨hM, hk1.trans hk3 (fun _ f _ => f), hs3, blk_kept b1 hk3 (fun f => f), hB⟩
  clear hM hk1 b1 hk3 hs3 hs1
  go_enter Tryd.func74, Tryd.ntmps74
  go_wp2_with (at_make; refine wpList_make_run rfl (.tmp 12) (.tmp 12) 48 rfl rfl rfl hmk ?_)
  rw [← hB]
  clear hmk hB
  go_loopw [16] (fun s16 wr => ∃ k : Nat, k ≤ n ∧ s16 = .int .i64 k ∧ IsM wr (B + 1) n m k (fun _ _ => 0) ∧ Keeps None w wr ∧ wr.heap.size = B + 1 + 1 + k ∧ wr.heap[B]? = some (.cells #[.int .i64 f.params, .int .i64 f.regs, .int .i64 m, .slice ca n cc] 37 (0, 0))) (fun i _ => n - (intOf i).toNat)
  case atStart => exact ⟨0, Nat.zero_le _, rfl, HB.out.1, HB.out.2.1, HB.out.2.2.1, HB.out.2.2.2.1⟩
  case round =>
    obtain ⟨k, hk, rfl, hM, hkp, hsz, hbx⟩ := hrel
    have d2 := (cell_of_heap hbx 2).trans rfl
    by_cases hkn : k < n
    · have i1 : (k : Int) < (n : Int) := by omega
      have hmk := row_made wr m hm8
      have hal := Keeps.alloc None wr (.cells ((List.range m).map (fun _ => Value.int .i64 0)).toArray 3)
      have o1 := blk_kept hM.outer hal (fun f => f)
      have o2 := (blk_cell o1 k).trans (range_at n k _ hkn)
      have o3 := blk_free o1 k
      have hL := hM.lay hkn hsz
      have hkL : Keeps (· = B + 1) wr ((wr.alloc (.cells ((List.range m).map (fun _ => Value.int .i64 0)).toArray 3)).setCell ⟨B + 1, k, none⟩ (.slice (some ⟨wr.heap.size, 0, none⟩) m m)) := (hal.mono (fun _ f _ => f.elim)).andSet (S := (· = B + 1)) (x := ⟨B + 1, k, none⟩) (.inl rfl) _
      have HK : Hid (IsM _ _ _ _ _ _ ∧ Keeps (· = B + 1) wr _ ∧ Keeps None w wr ∧ wr.heap.size = B + 1 + 1 + k ∧ wr.heap[B]? = some (.cells #[.int .i64 f.params, .int .i64 f.regs, .int .i64 m, .slice ca n cc] 37 (0, 0))) := ⟨hL, hkL, hkp, hsz, hbx⟩
      clear hM hkp hsz hbx o1 hal hL hkL
      go_wp2_with (at_make; refine wpList_make_run rfl (.tmp 22) (.tmp 22) 56 rfl rfl rfl hmk ?_)
      refine ⟨⟨k + 1, by omega, by simp, HK.out.1, HK.out.2.2.1.trans HK.out.2.1 (fun i e hi => by have := HB.out.2.2.2.2; omega), ?_, blk_kept HK.out.2.2.2.2 HK.out.2.1 (by omega)⟩, by simp [intOf]; omega⟩
      have := HK.out.2.2.2.1
      simp [World.setCell]
      omega
    · have hkn2 : k = n := by omega
      subst hkn2
      have i1 : ¬ ((k : Int) < (k : Int)) := by omega
      have HK : Hid (IsM wr (B + 1) k m k (fun _ _ => 0) ∧ Keeps None w wr ∧ wr.heap[B]? = some (.cells #[.int .i64 f.params, .int .i64 f.regs, .int .i64 m, .slice ca k cc] 37 (0, 0))) := ⟨hM, hkp, hbx⟩
      clear hM hkp hsz hbx
      go_wp2_with fail
      go_loopw [28] (fun s28 wr => ∃ s : Nat, s ≤ m ∧ s28 = .int .i64 s ∧ IsM wr (B + 1) k m k (flowM f [] s 0 0) ∧ Keeps None w wr ∧ wr.heap[B]? = some (.cells #[.int .i64 f.params, .int .i64 f.regs, .int .i64 m, .slice ca k cc] 37 (0, 0))) (fun i _ => m - (intOf i).toNat)
      case atStart => exact ⟨0, Nat.zero_le _, rfl, HK.out.1.congr (fun k' s' _ _ => by simp [flowM, partV]), HK.out.2.1, HK.out.2.2⟩
      case round =>
        obtain ⟨s, hs, rfl, hM, hkp, hbx⟩ := hrel
        have d0 := (cell_of_heap hbx 0).trans rfl
        have d1 := (cell_of_heap hbx 1).trans rfl
        have d2 := (cell_of_heap hbx 2).trans rfl
        have d3 := (cell_of_heap hbx 3).trans rfl
        by_cases hsm : s < m
        · have i1 : (s : Int) < (m : Int) := by omega
          have hc := HSE.out s _ hkp
          have HN : Hid (IsM wr (B + 1) k m k (flowM f [] s 0 0) ∧ Keeps None w wr ∧ wr.heap[B]? = some (.cells #[.int .i64 f.params, .int .i64 f.regs, .int .i64 m, .slice ca k cc] 37 (0, 0))) := ⟨hM, hkp, hbx⟩
          clear hM hkp hbx
          go_wp2_with (go_at_call 81; refine hc.mono ?_; rintro e w5 ⟨gs, rfl, hF, hk5, hgs⟩)
          obtain ⟨FR, hFR⟩ : ∃ FR, FR = searchV f s (0, 0) := ⟨_, rfl⟩
          rw [← hFR] at hF
          have H5 : Hid (IsM w5 (B + 1) k m k (flowM f FR s 0 0) ∧ IsFrom w5 gs k FR ∧ Keeps None w w5 ∧ w5.heap[B]? = some (.cells #[.int .i64 f.params, .int .i64 f.regs, .int .i64 m, .slice ca k cc] 37 (0, 0)) ∧ FR = searchV f s (0, 0)) :=
            ⟨(HN.out.1.kept hk5 (fun _ _ f => f)).congr (fun k' s' _ _ => by simp [flowM, partV]), hF, HN.out.2.1.trans hk5 (fun _ f _ => f), blk_kept HN.out.2.2 hk5 (fun f => f), hFR⟩
          clear hF hk5 hgs hFR hc d0 d1 d2 d3
          go_loopw [36] (fun s36 wr => ∃ a : Nat, a ≤ k ∧ s36 = .int .i64 a ∧ IsM wr (B + 1) k m k (flowM f FR s a 0) ∧ IsFrom wr gs k FR ∧ Keeps None w wr ∧ wr.heap[B]? = some (.cells #[.int .i64 f.params, .int .i64 f.regs, .int .i64 m, .slice ca k cc] 37 (0, 0))) (fun i _ => k - (intOf i).toNat)
          case atStart => exact ⟨0, Nat.zero_le _, rfl, H5.out.1, H5.out.2.1, H5.out.2.2.1, H5.out.2.2.2.1⟩
          case round =>
            as_aux_lemma =>
             obtain ⟨a, ha, rfl, hM, hF, hkp, hbx⟩ := hrel
             by_cases hak : a < k
             · obtain ⟨u0, v0, u1, v1, u2, v2, u3, v3, u4, v4, hx0, hx1, hx2, hx3, hx4⟩ := five_of hF.len hak
               have i3 : (a : Int) < (k : Int) := by omega
               obtain ⟨y0, y1⟩ := hF.at hx0
               obtain ⟨y2, y3⟩ := hF.at hx1
               obtain ⟨y4, y5⟩ := hF.at hx2
               obtain ⟨y6, y7⟩ := hF.at hx3
               obtain ⟨y8, y9⟩ := hF.at hx4
               rw [show a * 5 * 2 = a * 10 by omega] at y0 y1
               rw [show (a * 5 + 1) * 2 = a * 10 + 2 by omega] at y2 y3
               rw [show (a * 5 + 2) * 2 = a * 10 + 4 by omega] at y4 y5
               rw [show (a * 5 + 3) * 2 = a * 10 + 6 by omega] at y6 y7
               rw [show (a * 5 + 4) * 2 = a * 10 + 8 by omega] at y8 y9
               have HX : Hid (FR[a * 5]? = some (u0, v0) ∧ FR[a * 5 + 1]? = some (u1, v1) ∧ FR[a * 5 + 2]? = some (u2, v2) ∧ FR[a * 5 + 3]? = some (u3, v3) ∧ FR[a * 5 + 4]? = some (u4, v4)) := ⟨hx0, hx1, hx2, hx3, hx4⟩
               have HQ : Hid (IsM wr (B + 1) k m k (flowM f FR s a 0) ∧ IsFrom wr gs k FR ∧ Keeps None w wr ∧ wr.heap[B]? = some (.cells #[.int .i64 f.params, .int .i64 f.regs, .int .i64 m, .slice ca k cc] 37 (0, 0))) := ⟨hM, hF, hkp, hbx⟩
               clear hx0 hx1 hx2 hx3 hx4 hM hF hkp hbx
               go_wp2_with fail
               go_loopw [42] (fun s42 wr => ∃ i : Nat, i ≤ 5 ∧ s42 = .int .i64 i ∧ IsM wr (B + 1) k m k (flowM f FR s a i) ∧ IsFrom wr gs k FR ∧ Keeps None w wr ∧ wr.heap[B]? = some (.cells #[.int .i64 f.params, .int .i64 f.regs, .int .i64 m, .slice ca k cc] 37 (0, 0))) (fun i _ => 5 - (intOf i).toNat)
               case atStart =>
                 have hal := Keeps.alloc None wr (.cells #[.int .i64 u0, .int .i64 v0, .int .i64 u1, .int .i64 v1, .int .i64 u2, .int .i64 v2, .int .i64 u3, .int .i64 v3, .int .i64 u4, .int .i64 v4] 107)
                 exact ⟨0, Nat.zero_le _, rfl, HQ.out.1.kept hal (fun _ _ f => f), HQ.out.2.1.kept hal (fun f => f), HQ.out.2.2.1.andAlloc _, blk_kept HQ.out.2.2.2 hal (fun f => f)⟩
               case round =>
                 clear y0 y1 y2 y3 y4 y5 y6 y7 y8 y9
                 obtain ⟨i, hi, rfl, hM, hF, hkp, hbx⟩ := hrel
                 by_cases hi5 : i < 5
                 · obtain ⟨hx0, hx1, hx2, hx3, hx4⟩ := HX.out
                   obtain rfl | rfl | rfl | rfl | rfl : i = 0 ∨ i = 1 ∨ i = 2 ∨ i = 3 ∨ i = 4 := by omega
                   · have hp := hx0
                     have hix : ∀ wx, (Instr.index 107 (.agg #[.int .i64 u0, .int .i64 v0, .int .i64 u1, .int .i64 v1, .int .i64 u2, .int .i64 v2, .int .i64 u3, .int .i64 v3, .int .i64 u4, .int .i64 v4]) (.int .i64 0)).run Tryd.prog wx = .ok (.agg #[.int .i64 u0, .int .i64 v0]) wx := fun wx => rfl
                     by_cases hz : v0 = 0
                     · have hz' : (v0 != 0) = false := by simp [hz]
                       have HQ : Hid (IsM wr (B + 1) k m k (flowM f FR s a 0) ∧ IsFrom wr gs k FR ∧ Keeps None w wr ∧ wr.heap[B]? = some (.cells #[.int .i64 f.params, .int .i64 f.regs, .int .i64 m, .slice ca k cc] 37 (0, 0)) ∧ v0 = 0 ∧ FR[a * 5 + 0]? = some (u0, v0)) := ⟨hM, hF, hkp, hbx, hz, hp⟩
                       clear hM hF hkp hbx hp hz
                       go_wp2_with fail
                       have hal := Keeps.alloc None wr (.cells #[.int .i64 u0, .int .i64 v0] 106)
                       exact ⟨⟨1, by omega, rfl, (HQ.out.1.kept hal (fun _ _ f => f)).congr (fun k' s' _ _ => part_same (by rw [HQ.out.2.2.2.2.2]; simpa using HQ.out.2.2.2.2.1)), HQ.out.2.1.kept hal (fun f => f), HQ.out.2.2.1.andAlloc _, blk_kept HQ.out.2.2.2.1 hal (fun f => f)⟩, by simp [intOf]⟩
                     · have hz' : (v0 != 0) = true := by simp [hz]
                       have hal := Keeps.alloc None wr (.cells #[.int .i64 u0, .int .i64 v0] 106)
                       have hM2 := hM.kept hal (fun _ _ f => f)
                       have r1 := hM2.row hak hak
                       have r2 := hM2.cell hak hsm
                       have r3 := hM2.free s hak
                       obtain ⟨v, hv⟩ : ∃ v, v = partV FR a 0 := ⟨_, rfl⟩
                       have hvb := part_le FR a 0 (by omega)
                       have e2 : flowM f FR s a 0 a s = v := by rw [hv]; simp [flowM]
                       rw [e2] at r2
                       rw [← hv] at hvb
                       have va : 0 ≤ v := hvb.1
                       have vb : v ≤ 20 := by omega
                       have hM3 := hM2.set a s (v + 0) hak
                       have hk3 : Keeps (· = B + 1 + 1 + a) wr ((wr.alloc (.cells #[.int .i64 u0, .int .i64 v0] 106)).setCell ⟨B + 1 + 1 + a, s, none⟩ (.int .i64 (v + 0))) := (hal.mono (fun _ f _ => f.elim)).andSet (S := (· = B + 1 + 1 + a)) (x := ⟨B + 1 + 1 + a, s, none⟩) (.inl rfl) _
                       have HQ : Hid (IsM _ (B + 1) k m k _ ∧ Keeps (· = B + 1 + 1 + a) wr _ ∧ IsFrom wr gs k FR ∧ Keeps None w wr ∧ wr.heap[B]? = some (.cells #[.int .i64 f.params, .int .i64 f.regs, .int .i64 m, .slice ca k cc] 37 (0, 0)) ∧ v0 ≠ 0 ∧ FR[a * 5 + 0]? = some (u0, v0) ∧ v = partV FR a 0 ∧ ¬ gs = B + 1 + 1 + a) := ⟨hM3, hk3, hF, hkp, hbx, hz, hp, hv, blk_ne hF.blk (hM.rows a hak) (by decide)⟩
                       clear hM hF hkp hbx hp hal hM2 hM3 hk3 hv hvb e2
                       go_wp2_with fail
                       have HQ2 := HQ.out
                       simp only [Int.add_zero] at HQ2
                       exact ⟨⟨1, by omega, rfl, HQ2.1.congr (fun k' s' _ _ => by have := part_more (f := f) (s := s) (FR := FR) (a := a) (i := 0) (by rw [HQ2.2.2.2.2.2.2.1]; simpa using HQ2.2.2.2.2.2.1) HQ2.2.2.2.2.2.2.2.1 k' s'; rwa [show v + ((0 : Nat) : Int) = v from Int.add_zero v] at this), HQ2.2.2.1.kept HQ2.2.1 HQ2.2.2.2.2.2.2.2.2, HQ2.2.2.2.1.trans HQ2.2.1 (fun i e hi => by have := HB.out.2.2.2.2; omega), blk_kept HQ2.2.2.2.2.1 HQ2.2.1 (by omega)⟩, by simp [intOf]⟩
                   · have hp := hx1
                     have hix : ∀ wx, (Instr.index 107 (.agg #[.int .i64 u0, .int .i64 v0, .int .i64 u1, .int .i64 v1, .int .i64 u2, .int .i64 v2, .int .i64 u3, .int .i64 v3, .int .i64 u4, .int .i64 v4]) (.int .i64 1)).run Tryd.prog wx = .ok (.agg #[.int .i64 u1, .int .i64 v1]) wx := fun wx => rfl
                     by_cases hz : v1 = 0
                     · have hz' : (v1 != 0) = false := by simp [hz]
                       have HQ : Hid (IsM wr (B + 1) k m k (flowM f FR s a 1) ∧ IsFrom wr gs k FR ∧ Keeps None w wr ∧ wr.heap[B]? = some (.cells #[.int .i64 f.params, .int .i64 f.regs, .int .i64 m, .slice ca k cc] 37 (0, 0)) ∧ v1 = 0 ∧ FR[a * 5 + 1]? = some (u1, v1)) := ⟨hM, hF, hkp, hbx, hz, hp⟩
                       clear hM hF hkp hbx hp hz
                       go_wp2_with fail
                       have hal := Keeps.alloc None wr (.cells #[.int .i64 u1, .int .i64 v1] 106)
                       exact ⟨⟨2, by omega, rfl, (HQ.out.1.kept hal (fun _ _ f => f)).congr (fun k' s' _ _ => part_same (by rw [HQ.out.2.2.2.2.2]; simpa using HQ.out.2.2.2.2.1)), HQ.out.2.1.kept hal (fun f => f), HQ.out.2.2.1.andAlloc _, blk_kept HQ.out.2.2.2.1 hal (fun f => f)⟩, by simp [intOf]⟩
                     · have hz' : (v1 != 0) = true := by simp [hz]
                       have hal := Keeps.alloc None wr (.cells #[.int .i64 u1, .int .i64 v1] 106)
                       have hM2 := hM.kept hal (fun _ _ f => f)
                       have r1 := hM2.row hak hak
                       have r2 := hM2.cell hak hsm
                       have r3 := hM2.free s hak
                       obtain ⟨v, hv⟩ : ∃ v, v = partV FR a 1 := ⟨_, rfl⟩
                       have hvb := part_le FR a 1 (by omega)
                       have e2 : flowM f FR s a 1 a s = v := by rw [hv]; simp [flowM]
                       rw [e2] at r2
                       rw [← hv] at hvb
                       have va : 0 ≤ v := hvb.1
                       have vb : v ≤ 20 := by omega
                       have hM3 := hM2.set a s (v + 1) hak
                       have hk3 : Keeps (· = B + 1 + 1 + a) wr ((wr.alloc (.cells #[.int .i64 u1, .int .i64 v1] 106)).setCell ⟨B + 1 + 1 + a, s, none⟩ (.int .i64 (v + 1))) := (hal.mono (fun _ f _ => f.elim)).andSet (S := (· = B + 1 + 1 + a)) (x := ⟨B + 1 + 1 + a, s, none⟩) (.inl rfl) _
                       have HQ : Hid (IsM _ (B + 1) k m k _ ∧ Keeps (· = B + 1 + 1 + a) wr _ ∧ IsFrom wr gs k FR ∧ Keeps None w wr ∧ wr.heap[B]? = some (.cells #[.int .i64 f.params, .int .i64 f.regs, .int .i64 m, .slice ca k cc] 37 (0, 0)) ∧ v1 ≠ 0 ∧ FR[a * 5 + 1]? = some (u1, v1) ∧ v = partV FR a 1 ∧ ¬ gs = B + 1 + 1 + a) := ⟨hM3, hk3, hF, hkp, hbx, hz, hp, hv, blk_ne hF.blk (hM.rows a hak) (by decide)⟩
                       clear hM hF hkp hbx hp hal hM2 hM3 hk3 hv hvb e2
                       go_wp2_with fail
                       exact ⟨⟨2, by omega, rfl, HQ.out.1.congr (fun k' s' _ _ => part_more (by rw [HQ.out.2.2.2.2.2.2.1]; simpa using HQ.out.2.2.2.2.2.1) HQ.out.2.2.2.2.2.2.2.1 k' s'), HQ.out.2.2.1.kept HQ.out.2.1 HQ.out.2.2.2.2.2.2.2.2, HQ.out.2.2.2.1.trans HQ.out.2.1 (fun i e hi => by have := HB.out.2.2.2.2; omega), blk_kept HQ.out.2.2.2.2.1 HQ.out.2.1 (by omega)⟩, by simp [intOf]⟩
                   · have hp := hx2
                     have hix : ∀ wx, (Instr.index 107 (.agg #[.int .i64 u0, .int .i64 v0, .int .i64 u1, .int .i64 v1, .int .i64 u2, .int .i64 v2, .int .i64 u3, .int .i64 v3, .int .i64 u4, .int .i64 v4]) (.int .i64 2)).run Tryd.prog wx = .ok (.agg #[.int .i64 u2, .int .i64 v2]) wx := fun wx => rfl
                     by_cases hz : v2 = 0
                     · have hz' : (v2 != 0) = false := by simp [hz]
                       have HQ : Hid (IsM wr (B + 1) k m k (flowM f FR s a 2) ∧ IsFrom wr gs k FR ∧ Keeps None w wr ∧ wr.heap[B]? = some (.cells #[.int .i64 f.params, .int .i64 f.regs, .int .i64 m, .slice ca k cc] 37 (0, 0)) ∧ v2 = 0 ∧ FR[a * 5 + 2]? = some (u2, v2)) := ⟨hM, hF, hkp, hbx, hz, hp⟩
                       clear hM hF hkp hbx hp hz
                       go_wp2_with fail
                       have hal := Keeps.alloc None wr (.cells #[.int .i64 u2, .int .i64 v2] 106)
                       exact ⟨⟨3, by omega, rfl, (HQ.out.1.kept hal (fun _ _ f => f)).congr (fun k' s' _ _ => part_same (by rw [HQ.out.2.2.2.2.2]; simpa using HQ.out.2.2.2.2.1)), HQ.out.2.1.kept hal (fun f => f), HQ.out.2.2.1.andAlloc _, blk_kept HQ.out.2.2.2.1 hal (fun f => f)⟩, by simp [intOf]⟩
                     · have hz' : (v2 != 0) = true := by simp [hz]
                       have hal := Keeps.alloc None wr (.cells #[.int .i64 u2, .int .i64 v2] 106)
                       have hM2 := hM.kept hal (fun _ _ f => f)
                       have r1 := hM2.row hak hak
                       have r2 := hM2.cell hak hsm
                       have r3 := hM2.free s hak
                       obtain ⟨v, hv⟩ : ∃ v, v = partV FR a 2 := ⟨_, rfl⟩
                       have hvb := part_le FR a 2 (by omega)
                       have e2 : flowM f FR s a 2 a s = v := by rw [hv]; simp [flowM]
                       rw [e2] at r2
                       rw [← hv] at hvb
                       have va : 0 ≤ v := hvb.1
                       have vb : v ≤ 20 := by omega
                       have hM3 := hM2.set a s (v + 2) hak
                       have hk3 : Keeps (· = B + 1 + 1 + a) wr ((wr.alloc (.cells #[.int .i64 u2, .int .i64 v2] 106)).setCell ⟨B + 1 + 1 + a, s, none⟩ (.int .i64 (v + 2))) := (hal.mono (fun _ f _ => f.elim)).andSet (S := (· = B + 1 + 1 + a)) (x := ⟨B + 1 + 1 + a, s, none⟩) (.inl rfl) _
                       have HQ : Hid (IsM _ (B + 1) k m k _ ∧ Keeps (· = B + 1 + 1 + a) wr _ ∧ IsFrom wr gs k FR ∧ Keeps None w wr ∧ wr.heap[B]? = some (.cells #[.int .i64 f.params, .int .i64 f.regs, .int .i64 m, .slice ca k cc] 37 (0, 0)) ∧ v2 ≠ 0 ∧ FR[a * 5 + 2]? = some (u2, v2) ∧ v = partV FR a 2 ∧ ¬ gs = B + 1 + 1 + a) := ⟨hM3, hk3, hF, hkp, hbx, hz, hp, hv, blk_ne hF.blk (hM.rows a hak) (by decide)⟩
                       clear hM hF hkp hbx hp hal hM2 hM3 hk3 hv hvb e2
                       go_wp2_with fail
                       exact ⟨⟨3, by omega, rfl, HQ.out.1.congr (fun k' s' _ _ => part_more (by rw [HQ.out.2.2.2.2.2.2.1]; simpa using HQ.out.2.2.2.2.2.1) HQ.out.2.2.2.2.2.2.2.1 k' s'), HQ.out.2.2.1.kept HQ.out.2.1 HQ.out.2.2.2.2.2.2.2.2, HQ.out.2.2.2.1.trans HQ.out.2.1 (fun i e hi => by have := HB.out.2.2.2.2; omega), blk_kept HQ.out.2.2.2.2.1 HQ.out.2.1 (by omega)⟩, by simp [intOf]⟩
                   · have hp := hx3
                     have hix : ∀ wx, (Instr.index 107 (.agg #[.int .i64 u0, .int .i64 v0, .int .i64 u1, .int .i64 v1, .int .i64 u2, .int .i64 v2, .int .i64 u3, .int .i64 v3, .int .i64 u4, .int .i64 v4]) (.int .i64 3)).run Tryd.prog wx = .ok (.agg #[.int .i64 u3, .int .i64 v3]) wx := fun wx => rfl
                     by_cases hz : v3 = 0
                     · have hz' : (v3 != 0) = false := by simp [hz]
                       have HQ : Hid (IsM wr (B + 1) k m k (flowM f FR s a 3) ∧ IsFrom wr gs k FR ∧ Keeps None w wr ∧ wr.heap[B]? = some (.cells #[.int .i64 f.params, .int .i64 f.regs, .int .i64 m, .slice ca k cc] 37 (0, 0)) ∧ v3 = 0 ∧ FR[a * 5 + 3]? = some (u3, v3)) := ⟨hM, hF, hkp, hbx, hz, hp⟩
                       clear hM hF hkp hbx hp hz
                       go_wp2_with fail
                       have hal := Keeps.alloc None wr (.cells #[.int .i64 u3, .int .i64 v3] 106)
                       exact ⟨⟨4, by omega, rfl, (HQ.out.1.kept hal (fun _ _ f => f)).congr (fun k' s' _ _ => part_same (by rw [HQ.out.2.2.2.2.2]; simpa using HQ.out.2.2.2.2.1)), HQ.out.2.1.kept hal (fun f => f), HQ.out.2.2.1.andAlloc _, blk_kept HQ.out.2.2.2.1 hal (fun f => f)⟩, by simp [intOf]⟩
                     · have hz' : (v3 != 0) = true := by simp [hz]
                       have hal := Keeps.alloc None wr (.cells #[.int .i64 u3, .int .i64 v3] 106)
                       have hM2 := hM.kept hal (fun _ _ f => f)
                       have r1 := hM2.row hak hak
                       have r2 := hM2.cell hak hsm
                       have r3 := hM2.free s hak
                       obtain ⟨v, hv⟩ : ∃ v, v = partV FR a 3 := ⟨_, rfl⟩
                       have hvb := part_le FR a 3 (by omega)
                       have e2 : flowM f FR s a 3 a s = v := by rw [hv]; simp [flowM]
                       rw [e2] at r2
                       rw [← hv] at hvb
                       have va : 0 ≤ v := hvb.1
                       have vb : v ≤ 20 := by omega
                       have hM3 := hM2.set a s (v + 3) hak
                       have hk3 : Keeps (· = B + 1 + 1 + a) wr ((wr.alloc (.cells #[.int .i64 u3, .int .i64 v3] 106)).setCell ⟨B + 1 + 1 + a, s, none⟩ (.int .i64 (v + 3))) := (hal.mono (fun _ f _ => f.elim)).andSet (S := (· = B + 1 + 1 + a)) (x := ⟨B + 1 + 1 + a, s, none⟩) (.inl rfl) _
                       have HQ : Hid (IsM _ (B + 1) k m k _ ∧ Keeps (· = B + 1 + 1 + a) wr _ ∧ IsFrom wr gs k FR ∧ Keeps None w wr ∧ wr.heap[B]? = some (.cells #[.int .i64 f.params, .int .i64 f.regs, .int .i64 m, .slice ca k cc] 37 (0, 0)) ∧ v3 ≠ 0 ∧ FR[a * 5 + 3]? = some (u3, v3) ∧ v = partV FR a 3 ∧ ¬ gs = B + 1 + 1 + a) := ⟨hM3, hk3, hF, hkp, hbx, hz, hp, hv, blk_ne hF.blk (hM.rows a hak) (by decide)⟩
                       clear hM hF hkp hbx hp hal hM2 hM3 hk3 hv hvb e2
                       go_wp2_with fail
                       exact ⟨⟨4, by omega, rfl, HQ.out.1.congr (fun k' s' _ _ => part_more (by rw [HQ.out.2.2.2.2.2.2.1]; simpa using HQ.out.2.2.2.2.2.1) HQ.out.2.2.2.2.2.2.2.1 k' s'), HQ.out.2.2.1.kept HQ.out.2.1 HQ.out.2.2.2.2.2.2.2.2, HQ.out.2.2.2.1.trans HQ.out.2.1 (fun i e hi => by have := HB.out.2.2.2.2; omega), blk_kept HQ.out.2.2.2.2.1 HQ.out.2.1 (by omega)⟩, by simp [intOf]⟩
                   · have hp := hx4
                     have hix : ∀ wx, (Instr.index 107 (.agg #[.int .i64 u0, .int .i64 v0, .int .i64 u1, .int .i64 v1, .int .i64 u2, .int .i64 v2, .int .i64 u3, .int .i64 v3, .int .i64 u4, .int .i64 v4]) (.int .i64 4)).run Tryd.prog wx = .ok (.agg #[.int .i64 u4, .int .i64 v4]) wx := fun wx => rfl
                     by_cases hz : v4 = 0
                     · have hz' : (v4 != 0) = false := by simp [hz]
                       have HQ : Hid (IsM wr (B + 1) k m k (flowM f FR s a 4) ∧ IsFrom wr gs k FR ∧ Keeps None w wr ∧ wr.heap[B]? = some (.cells #[.int .i64 f.params, .int .i64 f.regs, .int .i64 m, .slice ca k cc] 37 (0, 0)) ∧ v4 = 0 ∧ FR[a * 5 + 4]? = some (u4, v4)) := ⟨hM, hF, hkp, hbx, hz, hp⟩
                       clear hM hF hkp hbx hp hz
                       go_wp2_with fail
                       have hal := Keeps.alloc None wr (.cells #[.int .i64 u4, .int .i64 v4] 106)
                       exact ⟨⟨5, by omega, rfl, (HQ.out.1.kept hal (fun _ _ f => f)).congr (fun k' s' _ _ => part_same (by rw [HQ.out.2.2.2.2.2]; simpa using HQ.out.2.2.2.2.1)), HQ.out.2.1.kept hal (fun f => f), HQ.out.2.2.1.andAlloc _, blk_kept HQ.out.2.2.2.1 hal (fun f => f)⟩, by simp [intOf]⟩
                     · have hz' : (v4 != 0) = true := by simp [hz]
                       have hal := Keeps.alloc None wr (.cells #[.int .i64 u4, .int .i64 v4] 106)
                       have hM2 := hM.kept hal (fun _ _ f => f)
                       have r1 := hM2.row hak hak
                       have r2 := hM2.cell hak hsm
                       have r3 := hM2.free s hak
                       obtain ⟨v, hv⟩ : ∃ v, v = partV FR a 4 := ⟨_, rfl⟩
                       have hvb := part_le FR a 4 (by omega)
                       have e2 : flowM f FR s a 4 a s = v := by rw [hv]; simp [flowM]
                       rw [e2] at r2
                       rw [← hv] at hvb
                       have va : 0 ≤ v := hvb.1
                       have vb : v ≤ 20 := by omega
                       have hM3 := hM2.set a s (v + 4) hak
                       have hk3 : Keeps (· = B + 1 + 1 + a) wr ((wr.alloc (.cells #[.int .i64 u4, .int .i64 v4] 106)).setCell ⟨B + 1 + 1 + a, s, none⟩ (.int .i64 (v + 4))) := (hal.mono (fun _ f _ => f.elim)).andSet (S := (· = B + 1 + 1 + a)) (x := ⟨B + 1 + 1 + a, s, none⟩) (.inl rfl) _
                       have HQ : Hid (IsM _ (B + 1) k m k _ ∧ Keeps (· = B + 1 + 1 + a) wr _ ∧ IsFrom wr gs k FR ∧ Keeps None w wr ∧ wr.heap[B]? = some (.cells #[.int .i64 f.params, .int .i64 f.regs, .int .i64 m, .slice ca k cc] 37 (0, 0)) ∧ v4 ≠ 0 ∧ FR[a * 5 + 4]? = some (u4, v4) ∧ v = partV FR a 4 ∧ ¬ gs = B + 1 + 1 + a) := ⟨hM3, hk3, hF, hkp, hbx, hz, hp, hv, blk_ne hF.blk (hM.rows a hak) (by decide)⟩
                       clear hM hF hkp hbx hp hal hM2 hM3 hk3 hv hvb e2
                       go_wp2_with fail
                       exact ⟨⟨5, by omega, rfl, HQ.out.1.congr (fun k' s' _ _ => part_more (by rw [HQ.out.2.2.2.2.2.2.1]; simpa using HQ.out.2.2.2.2.2.1) HQ.out.2.2.2.2.2.2.2.1 k' s'), HQ.out.2.2.1.kept HQ.out.2.1 HQ.out.2.2.2.2.2.2.2.2, HQ.out.2.2.2.1.trans HQ.out.2.1 (fun i e hi => by have := HB.out.2.2.2.2; omega), blk_kept HQ.out.2.2.2.2.1 HQ.out.2.1 (by omega)⟩, by simp [intOf]⟩
                 · have hi6 : i = 5 := by omega
                   subst hi6
                   have HR : Hid (IsM wr (B + 1) k m k (flowM f FR s a 5) ∧ IsFrom wr gs k FR ∧ Keeps None w wr ∧ wr.heap[B]? = some (.cells #[.int .i64 f.params, .int .i64 f.regs, .int .i64 m, .slice ca k cc] 37 (0, 0))) := ⟨hM, hF, hkp, hbx⟩
                   clear hM hF hkp hbx
                   go_wp2_with fail
                   exact ⟨⟨a + 1, by omega, by simp, HR.out.1.congr (fun k' s' _ _ => part_next k' s'), HR.out.2.1, HR.out.2.2.1, HR.out.2.2.2⟩, by simp [intOf]; omega⟩
             · have hak2 : a = k := by omega
               subst hak2
               have i3 : ¬ ((a : Int) < (a : Int)) := by omega
               have HR : Hid (IsM wr (B + 1) a m a (flowM f FR s a 0) ∧ Keeps None w wr ∧ wr.heap[B]? = some (.cells #[.int .i64 f.params, .int .i64 f.regs, .int .i64 m, .slice ca a cc] 37 (0, 0))) := ⟨hM, hkp, hbx⟩
               clear hM hF hkp hbx
               go_wp2_with fail
               exact ⟨⟨s + 1, by omega, by simp, HR.out.1.congr (fun k' s' hk' _ => part_slot H5.out.2.2.2.2 hk'), HR.out.2.1, HR.out.2.2⟩, by simp [intOf]; omega⟩
        · have hsm2 : s = m := by omega
          subst hsm2
          have i1 : ¬ ((s : Int) < (s : Int)) := by omega
          have HN : Hid (IsM wr (B + 1) k s k (flowM f [] s 0 0) ∧ Keeps None w wr ∧ B = w.heap.size) := ⟨hM, hkp, HB.out.2.2.2.2⟩
          clear hM hkp hbx
          go_wp2_with fail
          go_ret
          exact ⟨_, rfl, HN.out.1.congr (fun k' s' _ h => by simp [flowM, h]), HN.out.2.1, by have := HN.out.2.2; omega⟩
end Go.Proofs.YtoehkjfdaolcnaaDoor
