import Derived.Test.YtcjmceedkfjbeaaDoorPgDecU
import Derived.Test.YtcjmceedkfjbeaaDoorPgWordsLaw
/-! decodePlaced. -/
namespace Go.Proofs.YtcjmceedkfjbeaaDoor
set_option linter.unusedVariables false
set_option maxRecDepth 20000
open Go.RowKit Go.HeapKit

/-- The words turned. -/
def turnW (zs : List Int) : List Int := (zs.reverse).map (fun x => wrap64 (x + 1))
theorem turnW_len (zs : List Int) : (turnW zs).length = zs.length := by simp [turnW]
theorem turnW_at (zs : List Int) (k : Nat) (x : Int) (hk : k < zs.length) (hx : zs[zs.length - 1 - k]? = some x) : (turnW zs)[k]? = some (wrap64 (x + 1)) := by
  unfold turnW
  rw [List.getElem?_map, List.getElem?_reverse hk, hx]
  rfl
/-- A row while it is filled. -/
def fillW (zs old : List Int) (k : Nat) : List Int := zs.take k ++ old.drop k
theorem fillW_step (zs old : List Int) (k : Nat) (x : Int) (hx : zs[k]? = some x) (hl : old.length = zs.length) : (fillW zs old k).set k x = fillW zs old (k + 1) := by
  have hk := (List.getElem?_eq_some_iff.1 hx).1
  unfold fillW
  rw [List.set_append_right _ _ (by simp; omega), show k - (zs.take k).length = 0 by simp; omega, List.drop_eq_getElem_cons (by omega : k < old.length), List.set_cons_zero, List.take_add_one, hx]
  simp
theorem fillW_len (zs old : List Int) (k : Nat) (hl : old.length = zs.length) (hk : k ≤ zs.length) : (fillW zs old k).length = zs.length := by simp [fillW]; omega
theorem fillW_end (zs old : List Int) (hl : old.length = zs.length) : fillW zs old zs.length = zs := by
  unfold fillW
  rw [List.take_of_length_le (Nat.le_refl _), List.drop_eq_nil_of_le (by omega), List.append_nil]
theorem IsW.seenW {w : World} {g : Nat} {l : List Int} (h : IsW w g l) (n : Nat) (hn : n = l.length) (hm : n ≤ 9223372036854775807) (hok : ∀ x ∈ l, okI x) : SeenW w (some ⟨g, 0, none⟩) n l :=
  ⟨hn, hm, hok, fun _ => ⟨g, 0, rfl, blk_lt h, fun k x hx => by rw [Nat.zero_add]; exact h.at hx⟩⟩
theorem turnW_ok (zs : List Int) : ∀ x ∈ turnW zs, okI x := fun x hx => by
  simp only [turnW, List.mem_map] at hx
  obtain ⟨y, _, rfl⟩ := hx
  unfold okI wrap64
  omega
set_option maxHeartbeats 4000000 in
theorem decodePlaced_any (a : Option Addr) (n c : Nat) (zs : List Int) (w : World) (hT : Tabs w) (hS : SeenW w a n zs) (hc : n ≤ c) (hcm : c ≤ maxLen) (hr : n * 8 ≤ 140737488351232) :
    Calls Tryd.prog 14 #[.slice a n c] w fun e w' => e = .returned (.bool true) ∧ Keeps None w w' := by
  have hlen := hS.len
  obtain ⟨w1, hmk1, hI1, hk1⟩ := words_made w n (by omega)
  obtain ⟨w2, hmk2, hI2, hk2⟩ := words_made w1 n (by omega)
  obtain ⟨L, hL⟩ : ∃ L, L = w.heap.size := ⟨_, rfl⟩
  obtain ⟨T, hTT⟩ : ∃ T, T = w1.heap.size := ⟨_, rfl⟩
  rw [← hL] at hmk1 hI1
  rw [← hTT] at hmk2 hI2
  have hLT : L < T := by rw [hTT]; exact blk_lt hI1
  obtain ⟨ts, hts⟩ : ∃ ts, ts = turnW zs := ⟨_, rfl⟩
  have HC : Hid (Tabs w ∧ SeenW w a n zs ∧ n = zs.length ∧ L = w.heap.size ∧ ts = turnW zs ∧ ts.length = n ∧ (∀ x ∈ ts, okI x)) := ⟨hT, hS, hlen, hL, hts, by rw [hts, turnW_len, hlen], by rw [hts]; exact turnW_ok zs⟩
  obtain ⟨o, ho⟩ : ∃ o, o = List.replicate n (0 : Int) := ⟨_, rfl⟩
  have HO : Hid (o.length = n) := by unfold Hid; rw [ho]; simp
  have H2 : Hid (IsW w2 L (fillW ts o 0) ∧ IsW w2 T (fillW ts o 0) ∧ Keeps None w w2) := ⟨by simp only [fillW, List.take_zero, List.nil_append, List.drop_zero]; rw [ho]; exact hI1.kept hk2 (fun f => f), by simp only [fillW, List.take_zero, List.nil_append, List.drop_zero]; rw [ho]; exact hI2, hk1.trans hk2 (fun _ f _ => f)⟩
  have hnb : (n : Int) ≤ 4611686018427387904 := by omega
  have HTw : Hid (w.heap.size ≤ T) := by unfold Hid; rw [hTT]; exact hk1.size
  have nLT : ¬ L = T := by omega
  have nTL : ¬ T = L := by omega
  clear hT hS hlen hL hts hI1 hI2 hk1 hk2 ho hTT hLT
  go_enter Tryd.func14, Tryd.ntmps14
  go_upto_region 3 with (at_make; refine wpList_make_run rfl (.tmp 18) (.tmp 18) 22 rfl rfl rfl hmk1 ?_)
  go_upto_region 4 with (at_make; refine wpList_make_run rfl (.tmp 20) (.tmp 20) 22 rfl rfl rfl hmk2 ?_)
  clear hmk1 hmk2
  go_wp2_with fail
  go_loopw [6] (fun s6 wr => ∃ k : Nat, k ≤ n ∧ s6 = .int .i64 k ∧ IsW wr L (fillW ts o k) ∧ IsW wr T (fillW ts o k) ∧ Keeps None w wr) (fun i _ => n - (intOf i).toNat)
  case atStart => exact ⟨0, Nat.zero_le _, rfl, H2.out.1, H2.out.2.1, H2.out.2.2⟩
  case round =>
    obtain ⟨k, hk, rfl, hIL, hIT, hkp⟩ := hrel
    have hzl := HC.out.2.2.1
    have htl := HC.out.2.2.2.2.2.1
    by_cases hkn : k < n
    · obtain ⟨b, off, rfl, hbl, hcl⟩ := HC.out.2.1.ex (by omega)
      obtain ⟨J, hJ⟩ : ∃ J, J = n - 1 - k := ⟨_, rfl⟩
      obtain ⟨x, hx⟩ : ∃ x, zs[J]? = some x := ⟨zs[J]'(by omega), List.getElem?_eq_getElem _⟩
      have y := hkp.cell (hcl J x hx) (fun f => f)
      obtain ⟨v, hv⟩ : ∃ v, v = wrap64 (x + 1) := ⟨_, rfl⟩
      have htk : ts[k]? = some v := by rw [HC.out.2.2.2.2.1, hv]; exact turnW_at zs k x (by omega) (by rw [← hzl, ← hJ]; exact hx)
      have hfl := fillW_len ts o k (by rw [HO.out, htl]) (by omega)
      have uT := hIT.at (List.getElem?_eq_getElem (by omega : k < (fillW ts o k).length))
      have fT := blk_free hIT k
      have uL := hIL.at (List.getElem?_eq_getElem (by omega : k < (fillW ts o k).length))
      have fL := blk_free hIL k
      generalize (fillW ts o k)[k]'(by omega) = v0 at uT uL
      have kS : Keeps (· = T) wr (wr.setCell ⟨T, k, none⟩ (.int .i64 v)) := Keeps.setCell (S := (· = T)) wr (a := ⟨T, k, none⟩) rfl _
      have hIT2 := hIT.set k v
      rw [fillW_step ts o k v htk (by rw [HO.out, htl])] at hIT2
      have hIL1 := hIL.kept kS nLT
      have uT2 := hIT2.at (k := k) (x := v) (by unfold fillW; rw [List.getElem?_append_left (by simp; omega), List.getElem?_take, if_pos (by omega)]; exact htk)
      have uL2 := hIL1.at (k := k) (x := v0) (by
        have h1 := blk_cell hIL k
        rw [uL] at h1
        simpa using h1.symm)
      have fL2 := blk_free hIL1 k
      have kS2 : Keeps (· = L) (wr.setCell ⟨T, k, none⟩ (.int .i64 v)) ((wr.setCell ⟨T, k, none⟩ (.int .i64 v)).setCell ⟨L, k, none⟩ (.int .i64 v)) := Keeps.setCell (S := (· = L)) _ (a := ⟨L, k, none⟩) rfl _
      have hIL2 := hIL1.set k v
      rw [fillW_step ts o k v htk (by rw [HO.out, htl])] at hIL2
      have hIT3 := hIT2.kept kS2 nTL
      have hLw := HC.out.2.2.2.1
      have hTw := HTw.out
      have HN : Hid (IsW ((wr.setCell ⟨T, k, none⟩ (.int .i64 v)).setCell ⟨L, k, none⟩ (.int .i64 v)) L (fillW ts o (k + 1)) ∧ IsW ((wr.setCell ⟨T, k, none⟩ (.int .i64 v)).setCell ⟨L, k, none⟩ (.int .i64 v)) T (fillW ts o (k + 1)) ∧ Keeps None w ((wr.setCell ⟨T, k, none⟩ (.int .i64 v)).setCell ⟨L, k, none⟩ (.int .i64 v))) := ⟨hIL2, hIT3, (hkp.trans kS (fun i e hi => by omega)).trans kS2 (fun i e hi => by omega)⟩
      have hv' : wrap64 (x + 1) = v := hv.symm
      have i1 : (k : Int) < (n : Int) := by omega
      have i2 : (n : Int) - 1 - (k : Int) = (J : Int) := by omega
      have i3 : (J : Int) < (n : Int) := by omega
      clear hcl hx hv hJ htk hfl hIL hIT hkp kS hIT2 hIL1 kS2 hIL2 hIT3 hLw hTw hzl htl
      go_upto_region 8 with fail
      generalize wr.setCell ⟨T, k, none⟩ (.int .i64 v) = W at *
      clear y uT fT uL fL i2 i3 hv'
      go_wp2_with fail
      exact ⟨⟨k + 1, by omega, by simp, HN.out.1, HN.out.2.1, HN.out.2.2⟩, by simp [intOf]; omega⟩
    · have i1 : ¬ ((k : Int) < (n : Int)) := by omega
      have hkn2 : k = n := by omega
      subst hkn2
      have hfe := fillW_end ts o (by rw [HO.out, htl])
      rw [htl] at hfe
      rw [hfe] at hIL hIT
      have hd1 := decode_un (some ⟨L, 0, none⟩) k k ts wr (HC.out.1.more hkp) (hIL.seenW k htl.symm (by omega) HC.out.2.2.2.2.2.2) (Nat.le_refl _) (by unfold maxLen; omega)
      obtain ⟨d1, hde1⟩ : ∃ d1, d1 = decV ts := ⟨_, rfl⟩
      obtain ⟨d2, hde2⟩ : ∃ d2, d2 = decV zs := ⟨_, rfl⟩
      obtain ⟨s1, hs1⟩ : ∃ s1, s1 = d1.1 := ⟨_, rfl⟩
      obtain ⟨s2, hs2⟩ : ∃ s2, s2 = d2.1 := ⟨_, rfl⟩
      rw [← hde1, ← hs1] at hd1
      have H3 : Hid (IsW wr L (fillW zs ts 0) ∧ IsW wr T ts ∧ Keeps None w wr ∧ d1 = decV ts ∧ d2 = decV zs ∧ s1 = d1.1 ∧ s2 = d2.1 ∧ k = zs.length ∧ ts.length = k) := ⟨by simp only [fillW, List.take_zero, List.nil_append, List.drop_zero]; exact hIL, hIT, hkp, hde1, hde2, hs1, hs2, hzl, htl⟩
      clear hIL hIT hkp hfe hzl htl hde1 hde2 hs1 hs2
      go_upto_region 9 with fail
      go_wp2_with fail
      refine hd1.mono ?_
      rintro _ w3 ⟨xa, m1, xc, rfl, hA1, hk3⟩
      clear hd1
      have k4 := Keeps.alloc None w3 (.cells #[.slice xa m1 xc] 25)
      have b4 := heap_alloc_new w3 (.cells #[.slice xa m1 xc] 25)
      obtain ⟨P1, hP1⟩ : ∃ P1, P1 = w3.heap.size := ⟨_, rfl⟩
      rw [← hP1] at b4
      have k04 := hk3.trans k4 (fun _ f _ => f)
      have hLlt := blk_lt H3.out.1
      have H4 : Hid ((w3.alloc (.cells #[.slice xa m1 xc] 25)).heap[P1]? = some (.cells #[.slice xa m1 xc] 25 (0, 0)) ∧ AnsD (L + 1) (w3.alloc (.cells #[.slice xa m1 xc] 25)) xa m1 d1.2 ∧ IsW (w3.alloc (.cells #[.slice xa m1 xc] 25)) L (fillW zs ts 0) ∧ IsW (w3.alloc (.cells #[.slice xa m1 xc] 25)) T ts ∧ Keeps None w (w3.alloc (.cells #[.slice xa m1 xc] 25)) ∧ L < P1) := by
        refine ⟨b4, ?_, H3.out.1.kept k04 (fun f => f), H3.out.2.1.kept k04 (fun f => f), H3.out.2.2.1.trans k04 (fun _ f _ => f), by have := hk3.size; omega⟩
        rcases (hA1.more k4) with h | ⟨gb, E, e, h⟩
        · exact .inl h
        · exact .inr ⟨gb, E, e, ⟨h.blk, h.len, h.num, fun j f hj hf => by obtain ⟨cb, q1, q2, q3⟩ := h.laid j f hj hf; exact ⟨cb, q1, q2, by omega⟩, by have := h.low; omega, h.dis⟩⟩
      clear hA1 hk3 k4 b4 k04 hLlt
      go_upto_region 10 with fail
      rw [← hP1]
      clear hP1
      generalize w3.alloc (.cells #[.slice xa m1 xc] 25) = w4 at *
      go_wp2_with fail
      go_loopw [9] (fun s9 wx => ∃ j : Nat, j ≤ k ∧ s9 = .int .i64 j ∧ IsW wx L (fillW zs ts j) ∧ Keeps (· = L) w4 wx) (fun i _ => k - (intOf i).toNat)
      case atStart => exact ⟨0, Nat.zero_le _, rfl, H4.out.2.2.1, Keeps.refl _ _⟩
      case round =>
        obtain ⟨j, hj, rfl, hIL, hkx⟩ := hrel
        have hkw : Keeps None w wr := H4.out.2.2.2.2.1.trans hkx (fun i e hi => by have := HC.out.2.2.2.1; omega)
        have hzl := H3.out.2.2.2.2.2.2.2.1
        have htl := H3.out.2.2.2.2.2.2.2.2
        by_cases hjk : j < k
        · obtain ⟨b, off, rfl, hbl, hcl⟩ := HC.out.2.1.ex (by omega)
          obtain ⟨x, hx⟩ : ∃ x, zs[j]? = some x := ⟨zs[j]'(by omega), List.getElem?_eq_getElem _⟩
          have y := hkw.cell (hcl j x hx) (fun f => f)
          have hfl := fillW_len zs ts j (by omega) (by omega)
          have uL := hIL.at (List.getElem?_eq_getElem (by omega : j < (fillW zs ts j).length))
          have fL := blk_free hIL j
          generalize (fillW zs ts j)[j]'(by omega) = v0 at uL
          have hIL2 := hIL.set j x
          rw [fillW_step zs ts j x hx (by omega)] at hIL2
          have i2 : (j : Int) < (k : Int) := by omega
          have HN : Hid (IsW (wr.setCell ⟨L, j, none⟩ (.int .i64 x)) L (fillW zs ts (j + 1)) ∧ Keeps (· = L) w4 (wr.setCell ⟨L, j, none⟩ (.int .i64 x))) := ⟨hIL2, hkx.andSet (x := ⟨L, j, none⟩) (.inl rfl) _⟩
          clear hcl hx hfl hIL hkx hIL2 hkw hzl htl
          go_wp2_with fail
          exact ⟨⟨j + 1, by omega, by simp, HN.out.1, HN.out.2⟩, by simp [intOf]; omega⟩
        · have i2 : ¬ ((j : Int) < (k : Int)) := by omega
          have hjk2 : j = k := by omega
          subst hjk2
          have hfe := fillW_end zs ts (by omega)
          rw [← hzl] at hfe
          rw [hfe] at hIL
          have hA1 := H4.out.2.1.kept hkx (fun i e => by omega)
          have bP1 := blk_kept H4.out.1 hkx (by have := H4.out.2.2.2.2.2; omega)
          have hIT := H4.out.2.2.2.1.kept hkx nTL
          have hd2 := decode_un (some ⟨L, 0, none⟩) j j zs wr (HC.out.1.more hkw) (hIL.seenW j hzl (by omega) HC.out.2.1.ok) (Nat.le_refl _) (by unfold maxLen; omega)
          rw [← H3.out.2.2.2.2.1, ← H3.out.2.2.2.2.2.2.1] at hd2
          have H5 : Hid (AnsD (L + 1) wr xa m1 d1.2 ∧ wr.heap[P1]? = some (.cells #[.slice xa m1 xc] 25 (0, 0)) ∧ IsW wr T ts ∧ Keeps None w wr) := ⟨hA1, bP1, hIT, hkw⟩
          clear hIL hkx hkw hA1 bP1 hIT hfe hzl htl
          go_upto_region 14 with fail
          go_wp2_with fail
          refine hd2.mono ?_
          rintro _ w5 ⟨ya, m2, yc, rfl, hA2, hk5⟩
          clear hd2
          have k6 := Keeps.alloc None w5 (.cells #[.slice ya m2 yc] 25)
          have b6 := heap_alloc_new w5 (.cells #[.slice ya m2 yc] 25)
          obtain ⟨P2, hP2⟩ : ∃ P2, P2 = w5.heap.size := ⟨_, rfl⟩
          rw [← hP2] at b6
          have k56 := hk5.trans k6 (fun _ f _ => f)
          have H6 : Hid (SeenF (w5.alloc (.cells #[.slice ya m2 yc] 25)) ya m2 d2.2 ∧ (w5.alloc (.cells #[.slice ya m2 yc] 25)).heap[P2]? = some (.cells #[.slice ya m2 yc] 25 (0, 0)) ∧ Keeps None wr (w5.alloc (.cells #[.slice ya m2 yc] 25))) := ⟨(hA2.more k6).seen, b6, k56⟩
          clear hA2 hk5 k6 b6 k56
          go_upto_region 15 with fail
          rw [← hP2]
          clear hP2
          generalize w5.alloc (.cells #[.slice ya m2 yc] 25) = w6 at *
          have hIT6 := H5.out.2.2.1.kept H6.out.2.2 (fun f => f)
          have hr1 := rdecode_un (some ⟨T, 0, none⟩) j j ts w6 (hIT6.seenW j H3.out.2.2.2.2.2.2.2.2.symm (by omega) HC.out.2.2.2.2.2.2) (Nat.le_refl _) (by unfold maxLen; omega) hr
          rw [← H3.out.2.2.2.1, ← H3.out.2.2.2.2.2.1] at hr1
          clear hIT6
          go_wp2_with fail
          refine hr1.mono ?_
          rintro _ w7 ⟨va, m3, vc, rfl, hS3, hk7⟩
          clear hr1
          have k8 := Keeps.alloc None w7 (.cells #[.slice va m3 vc] 25)
          have b8 := heap_alloc_new w7 (.cells #[.slice va m3 vc] 25)
          obtain ⟨P3, hP3⟩ : ∃ P3, P3 = w7.heap.size := ⟨_, rfl⟩
          rw [← hP3] at b8
          have k68 := hk7.trans k8 (fun _ f _ => f)
          have H8 : Hid (SeenF (w7.alloc (.cells #[.slice va m3 vc] 25)) va m3 d1.2 ∧ (w7.alloc (.cells #[.slice va m3 vc] 25)).heap[P3]? = some (.cells #[.slice va m3 vc] 25 (0, 0)) ∧ Keeps None w6 (w7.alloc (.cells #[.slice va m3 vc] 25))) := ⟨hS3.more k8, b8, k68⟩
          clear hS3 hk7 k8 b8 k68
          go_upto_region 16 with fail
          rw [← hP3]
          clear hP3
          generalize w7.alloc (.cells #[.slice va m3 vc] 25) = w8 at *
          have k08 := (H5.out.2.2.2.trans H6.out.2.2 (fun _ f _ => f)).trans H8.out.2.2 (fun _ f _ => f)
          have hr2 := rdecode_un a j c zs w8 (HC.out.2.1.more k08) hc hcm hr
          rw [← H3.out.2.2.2.2.1, ← H3.out.2.2.2.2.2.2.1] at hr2
          have HK8 : Hid _ := k08
          clear k08
          go_wp2_with fail
          refine hr2.mono ?_
          rintro _ w9 ⟨ua, m4, uc, rfl, hS4, hk9⟩
          clear hr2
          have k10 := Keeps.alloc None w9 (.cells #[.slice ua m4 uc] 25)
          have b10 := heap_alloc_new w9 (.cells #[.slice ua m4 uc] 25)
          obtain ⟨P4, hP4⟩ : ∃ P4, P4 = w9.heap.size := ⟨_, rfl⟩
          rw [← hP4] at b10
          have k810 := hk9.trans k10 (fun _ f _ => f)
          have H10 : Hid (SeenF (w9.alloc (.cells #[.slice ua m4 uc] 25)) ua m4 d2.2 ∧ (w9.alloc (.cells #[.slice ua m4 uc] 25)).heap[P4]? = some (.cells #[.slice ua m4 uc] 25 (0, 0)) ∧ Keeps None w8 (w9.alloc (.cells #[.slice ua m4 uc] 25))) := ⟨hS4.more k10, b10, k810⟩
          clear hS4 hk9 k10 b10 k810
          go_upto_region 17 with fail
          rw [← hP4]
          clear hP4
          generalize w9.alloc (.cells #[.slice ua m4 uc] 25) = w10 at *
          have k6x := H8.out.2.2.trans H10.out.2.2 (fun _ f _ => f)
          have k5x := H6.out.2.2.trans k6x (fun _ f _ => f)
          have kwx := H5.out.2.2.2.trans k5x (fun _ f _ => f)
          have g1 := (cell_of_heap (blk_kept H5.out.2.1 k5x (fun f => f)) 0).trans rfl
          have g2 := (cell_of_heap (blk_kept H6.out.2.1 k6x (fun f => f)) 0).trans rfl
          have g3 := (cell_of_heap (blk_kept H8.out.2.1 H10.out.2.2 (fun f => f)) 0).trans rfl
          have g4 := (cell_of_heap H10.out.2.1 0).trans rfl
          have q1 := (H5.out.1.more k5x).seen
          have q2 := H6.out.1.more k6x
          have q3 := H8.out.1.more H10.out.2.2
          have q4 := H10.out.1
          rw [H3.out.2.2.2.1] at q1 q3
          rw [H3.out.2.2.2.2.1] at q2 q4
          obtain ⟨hm3, hsa⟩ := same_dec xa va m1 m3 xc vc ts w10 q1 q3
          subst hm3
          have HQ : Hid (SeenF w10 ya m2 (decV zs).2 ∧ SeenF w10 ua m4 (decV zs).2 ∧ Keeps None w w10) := ⟨q2, q4, kwx⟩
          clear q1 q2 q3 q4 k6x k5x kwx
          go_wp2_with fail
          refine hsa.mono ?_
          rintro _ w11 ⟨rfl, hk11⟩
          clear hsa
          obtain ⟨hm4, hsb⟩ := same_dec ya ua m2 m4 yc uc zs w11 (HQ.out.1.more hk11) (HQ.out.2.1.more hk11)
          subst hm4
          replace g2 := hk11.cell g2 (fun f => f)
          replace g4 := hk11.cell g4 (fun f => f)
          have H11 : Hid (Keeps None w w11) := HQ.out.2.2.trans hk11 (fun _ f _ => f)
          clear hk11 g1 g3
          go_wp2_with fail
          refine hsb.mono ?_
          rintro _ w12 ⟨rfl, hk12⟩
          have H12 : Hid (Keeps None w w12) := H11.out.trans hk12 (fun _ f _ => f)
          clear hk12 hsb
          go_wp2_with fail
          go_ret
          exact ⟨rfl, H12.out⟩
end Go.Proofs.YtcjmceedkfjbeaaDoor
