import Derived.Test.YtbeblgeiafkniaaDoorScRTold
/-! told, the document's Encode. -/
namespace Go.Proofs.YtbeblgeiafkniaaDoor
set_option linter.unusedVariables false
set_option maxRecDepth 20000
open Go.RowKit Go.HeapKit Go.Sc Go.IntWalk

theorem Hid.mk' {p : Prop} (h : p) : Hid p := h
structure RtI (w wr : World) (B : Nat) (a : Option Addr) (n : Nat) (l : List Int) (v : Value) (acc : List UInt8) : Prop where
  seen : SeenN wr a n l
  low : 0 < n → ∀ x, a = some x → x.block < B
  ok : ∀ x ∈ l, okX x
  row : IsBy wr B v acc
  bel : Below B w wr
  up : B ≤ wr.heap.size
theorem RtI.on {w wr w' : World} {B : Nat} {a : Option Addr} {n : Nat} {l : List Int} {v v' : Value} {acc acc' : List UInt8} (h : RtI w wr B a n l v acc) (hb : Below B wr w') (hr : IsBy w' B v' acc') : RtI w w' B a n l v' acc' :=
  ⟨h.seen.below hb h.low, h.low, h.ok, hr, h.bel.trans hb, Nat.le_trans h.up hb.size⟩
theorem RtI.more {w wr w' : World} {B : Nat} {a : Option Addr} {n : Nat} {l : List Int} {v : Value} {acc : List UInt8} (h : RtI w wr B a n l v acc) (hk : Keeps None wr w') : RtI w w' B a n l v acc :=
  h.on (hk.below B h.up (fun _ f => f.elim)) (row_more h.row hk)
theorem below_keeps {w w' : World} (h : Below w.heap.size w w') : Keeps None w w' := ⟨h.os, h.tape, h.output, h.size, fun k hk _ => h.block k hk⟩
theorem by_shape2 {w : World} {B : Nat} {v : Value} {l : List UInt8} (h : IsBy w B v l) : ∃ ao n cap, v = .slice ao n cap := by
  obtain ⟨ao, cap, e⟩ := by_shape h
  exact ⟨ao, _, cap, e⟩
set_option maxHeartbeats 6400000 in
theorem told_any (B : Nat) (a : Option Addr) (n c : Nat) (l : List Int) (v : Value) (acc : List UInt8) (w : World) (h : RtI w w B a n l v acc) (hn : n ≤ 1048576) (hacc0 : acc.length ≤ 65600) :
    Calls Tryd.prog 16 #[v, .slice a n c] w fun e w' => ∃ v', e = .returned v' ∧ IsBy w' B v' (tellV acc l) ∧ Below B w w' := by
  have HI : Hid (RtI w w B a n l v acc) := h
  obtain ⟨ao, cap, rfl⟩ := by_shape h.row
  clear h
  go_enter Tryd.func16, Tryd.ntmps16
  go_wp2_with fail
  go_loopw [0, 5] (fun s0 s5 wr => ∃ (i : Nat) (acc' : List UInt8), s5 = .int .i64 i ∧ i ≤ n ∧ RtI w wr B a n l s0 acc' ∧ acc'.length ≤ 65600 ∧ tellV acc' (l.drop i) = tellV acc l) (fun _ s5 _ => n - (intOf s5).toNat)
  case atStart => exact ⟨0, acc, rfl, Nat.zero_le _, HI.out, hacc0, rfl⟩
  case round =>
    obtain ⟨i, acc', rfl, hi, hI, hal, hT⟩ := hrel
    have hl := hI.seen.len
    obtain ⟨ao', cap', rfl⟩ := by_shape hI.row
    by_cases hin : i < n
    · have i0 : (i : Int) < (n : Int) := by omega
      by_cases hacc : acc'.length ≤ 65536
      · have i1 : (acc'.length : Int) ≤ 65536 := by omega
        obtain ⟨b0, off, x, rfl, hx, c0⟩ := hI.seen.at hin
        have hx0 : (l.drop i)[0]? = some x := by rw [List.getElem?_drop, Nat.add_zero]; exact hx
        obtain ⟨t, ht⟩ := drop_head hx0
        have hstep := tellV_step acc' x t hacc
        rw [← ht, hT] at hstep
        have hok : okX x := hI.ok x (List.mem_of_getElem? hx)
        have hil := itoa_len x hok
        have HW : Hid (RtI w wr B (some ⟨b0, off, none⟩) n l (.slice ao' acc'.length cap') acc') := hI
        have HX : Hid (l[i]? = some x ∧ tellV acc l = tellV (acc' ++ rowB x (eqN x (l.drop i))) ((l.drop i).drop (eqN x (l.drop i))) ∧ n = l.length) := ⟨hx, hstep, hl⟩
        have m0 : ¬ n = 0 := by omega
        clear hI hT hx hstep hl ht hx0
        go_wp2_with fail
        go_loopw [6] (fun s6 wq => ∃ k : Nat, s6 = .int .i64 k ∧ 1 ≤ k ∧ i + k ≤ n ∧ (∃ d, wq = wr.drewN d) ∧ ∀ j, j < k → (l.drop i)[j]? = some x) (fun s6 _ => n - (intOf s6).toNat)
        case atStart => exact ⟨1, rfl, Nat.le_refl _, by omega, ⟨0, rfl⟩, fun j hj => by rw [show j = 0 by omega, List.getElem?_drop, Nat.add_zero]; exact HX.out.1⟩
        case round =>
          obtain ⟨k, rfl, hk1, hkn, ⟨d, rfl⟩, hall⟩ := hrel
          have HA : Hid (∀ j, j < k → (l.drop i)[j]? = some x) := hall
          clear hall
          by_cases hik : i + k < n
          · obtain ⟨b1, off1, y, e1, hy, c1⟩ := HW.out.seen.at hik
            injection e1 with e1
            injection e1 with e1 e2
            subst e1 e2
            have i2 : (i : Int) + (k : Int) < (n : Int) := by omega
            have HY : Hid (l[i + k]? = some y) := hy
            clear hy
            by_cases hyx : y = x
            · subst hyx
              have HQ : Hid (∀ j, j < k + 1 → (l.drop i)[j]? = some y) := by
                intro j hj
                by_cases e : j = k
                · subst e; rw [List.getElem?_drop]; exact HY.out
                · exact HA.out j (by omega)
              have ew : IntKind.i64.wrap ((i : Int) + (k : Int)) = ((i + k : Nat) : Int) := by rw [i64_in _ (by omega)]; omega
              have i3 : ((i + k : Nat) : Int) < (n : Int) := by omega
              go_wp2_with fail
              go_quiet (fail)
              all_goals go_wp2_with fail
              all_goals exact ⟨⟨k + 1, by go_num, by omega, by omega, ⟨_, rfl⟩, HQ.out⟩, by simp [intOf]; omega⟩
            · have HQ : Hid (eqN x (l.drop i) = k) := eqN_is x _ k (by have := HX.out.2.2; simp; omega) HA.out (.inr ⟨y, by rw [List.getElem?_drop]; exact HY.out, hyx⟩)
              have ew : IntKind.i64.wrap ((i : Int) + (k : Int)) = ((i + k : Nat) : Int) := by rw [i64_in _ (by omega)]; omega
              have i3 : ((i + k : Nat) : Int) < (n : Int) := by omega
              have q1 : (y == x) = false := by simp [hyx]
              have hkl := itoa_len (k : Int) ⟨by omega, by omega⟩
              have HD : Hid (∀ d', RtI w ((wr.drewN d).drewN d') B (some ⟨b0, off, none⟩) n l (.slice ao' acc'.length cap') acc') := fun d' => (HW.out.more (Keeps.drewN None _ _)).more (Keeps.drewN None _ _)
              clear hyx
              go_wp2_with fail
              go_quiet (fail)
              go_upto_region 6 with fail
              have HD2 := HD.out nq
              clear HD c0 HW HI
              generalize (wr.drewN d).drewN nq = wi at HD2 ⊢
              obtain ⟨v1, w1, hr1, hy1, hb1⟩ := byte_more B (.slice ao' acc'.length cap') acc' 32 32 rfl wi HD2.row HD2.up (by omega)
              have HR1 := Hid.mk' hr1
              clear hr1
              have H1 : Hid (RtI w w1 B (some ⟨b0, off, none⟩) n l v1 (acc' ++ [32])) := HD2.on hb1 hy1
              obtain ⟨ao1, n1, cp1, rfl⟩ := by_shape2 hy1
              have c1 : w1.cell? ⟨b0, off + i, none⟩ = some (.int .i64 x) := by
                obtain ⟨b9, off9, z, e9, hz, cz⟩ := H1.out.seen.at hin
                injection e9 with e9
                injection e9 with e1 e2
                subst e1 e2
                rw [HX.out.1] at hz
                injection hz with hz
                subst hz
                exact cz
              clear HD2 hy1 hb1
              go_wp2_with (at_builtin; refine wpList_append_run rfl (.tmp 37) (.tmp 38) 39 39 rfl rfl rfl HR1.out ?_)
              refine (refFormat_any x _ hok).mono ?_
              rintro e w2 ⟨rfl, hb2⟩
              have H2 : Hid (RtI w w2 B (some ⟨b0, off, none⟩) n l (.slice ao1 n1 cp1) (acc' ++ [32])) := H1.out.more (below_keeps hb2)
              obtain ⟨v3, w3, hr3, hy3, hb3⟩ := str_more B (.slice ao1 n1 cp1) (acc' ++ [32]) (Lib.itoa x) w2 H2.out.row H2.out.up (by simp; omega)
              have HR3 := Hid.mk' hr3
              clear hr3
              have H3 : Hid (RtI w w3 B (some ⟨b0, off, none⟩) n l v3 (acc' ++ [32] ++ Lib.itoa x)) := H2.out.on hb3 hy3
              obtain ⟨ao3, n3, cp3, rfl⟩ := by_shape2 hy3
              clear hb2 hb3 hy3
              by_cases hk2 : 1 < k
              · have HE : Hid (acc' ++ [32] ++ Lib.itoa x ++ [42] ++ Lib.itoa k = acc' ++ rowB x k) := by
                  unfold rowB
                  rw [if_pos hk2]
                  show _ = _
                  simp
                obtain ⟨v4, w4, hr4, hy4, hb4⟩ := byte_more B (.slice ao3 n3 cp3) (acc' ++ [32] ++ Lib.itoa x) 42 42 rfl w3 H3.out.row H3.out.up (by simp; omega)
                have HR4 := Hid.mk' hr4
                clear hr4
                have H4 : Hid (RtI w w4 B (some ⟨b0, off, none⟩) n l v4 (acc' ++ [32] ++ Lib.itoa x ++ [42])) := H3.out.on hb4 hy4
                obtain ⟨ao4, n4, cp4, rfl⟩ := by_shape2 hy4
                clear hb4 hy4
                have i4 : (k : Int) > 1 := by omega
                go_wp2_with (first | (at_builtin; refine wpList_append_run rfl (.tmp 40) (.tmp 45) 39 9 rfl rfl rfl HR3.out ?_) | (at_builtin; refine wpList_append_run rfl (.tmp 49) (.tmp 50) 39 39 rfl rfl rfl HR4.out ?_))
                refine (refFormat_any (k : Int) _ ⟨by omega, by omega⟩).mono ?_
                rintro e w5 ⟨rfl, hb5⟩
                have H5 : Hid (RtI w w5 B (some ⟨b0, off, none⟩) n l (.slice ao4 n4 cp4) (acc' ++ [32] ++ Lib.itoa x ++ [42])) := H4.out.more (below_keeps hb5)
                obtain ⟨v6, w6, hr6, hy6, hb6⟩ := str_more B (.slice ao4 n4 cp4) (acc' ++ [32] ++ Lib.itoa x ++ [42]) (Lib.itoa k) w5 H5.out.row H5.out.up (by simp; omega)
                have HR6 := Hid.mk' hr6
                clear hr6
                have H6 : Hid (RtI w w6 B (some ⟨b0, off, none⟩) n l v6 (acc' ++ rowB x k)) := by rw [← HE.out]; exact H5.out.on hb6 hy6
                obtain ⟨ao6, n6, cp6, rfl⟩ := by_shape2 hy6
                clear hb5 hb6 hy6
                go_wp2_with (at_builtin; refine wpList_append_run rfl (.tmp 52) (.tmp 54) 39 9 rfl rfl rfl HR6.out ?_)
                refine ⟨⟨i + k, _, by go_num, by omega, H6.out, ?_, ?_⟩, by simp [intOf]; omega⟩
                · have := rowB_len x k hok (by omega)
                  rw [List.length_append]; omega
                · rw [HX.out.2.1, HQ.out, List.drop_drop]
              · have HE : Hid (acc' ++ [32] ++ Lib.itoa x = acc' ++ rowB x k) := by
                  unfold rowB
                  rw [if_neg hk2]
                  show _ = _
                  simp
                have i4 : ¬ (k : Int) > 1 := by omega
                go_wp2_with (at_builtin; refine wpList_append_run rfl (.tmp 40) (.tmp 45) 39 9 rfl rfl rfl HR3.out ?_)
                refine ⟨⟨i + k, _, by go_num, by omega, HE.out ▸ H3.out, ?_, ?_⟩, by simp [intOf]; omega⟩
                · have := rowB_len x k hok (by omega)
                  rw [List.length_append]; omega
                · rw [HX.out.2.1, HQ.out, List.drop_drop]
          · have HQ : Hid (eqN x (l.drop i) = k) := eqN_is x _ k (by have := HX.out.2.2; simp; omega) HA.out (.inl (by have := HX.out.2.2; simp; omega))
            have ew : IntKind.i64.wrap ((i : Int) + (k : Int)) = ((i + k : Nat) : Int) := by rw [i64_in _ (by omega)]; omega
            have hkl := itoa_len (k : Int) ⟨by omega, by omega⟩
            have HD : Hid (∀ d', RtI w ((wr.drewN d).drewN d') B (some ⟨b0, off, none⟩) n l (.slice ao' acc'.length cap') acc') := fun d' => (HW.out.more (Keeps.drewN None _ _)).more (Keeps.drewN None _ _)
            go_wp2_with fail
            have i3 : decide (((i + k : Nat) : Int) < (n : Int)) = false := by simp; omega
            have i4 : decide ((i : Int) + (k : Int) < (n : Int)) = false := by simp; omega
            go_quiet (fail)
            go_upto_region 6 with fail
            have HD2 := HD.out nq
            clear HD c0 HW HI
            generalize (wr.drewN d).drewN nq = wi at HD2 ⊢
            obtain ⟨v1, w1, hr1, hy1, hb1⟩ := byte_more B (.slice ao' acc'.length cap') acc' 32 32 rfl wi HD2.row HD2.up (by omega)
            have HR1 := Hid.mk' hr1
            clear hr1
            have H1 : Hid (RtI w w1 B (some ⟨b0, off, none⟩) n l v1 (acc' ++ [32])) := HD2.on hb1 hy1
            obtain ⟨ao1, n1, cp1, rfl⟩ := by_shape2 hy1
            have c1 : w1.cell? ⟨b0, off + i, none⟩ = some (.int .i64 x) := by
              obtain ⟨b9, off9, z, e9, hz, cz⟩ := H1.out.seen.at hin
              injection e9 with e9
              injection e9 with e1 e2
              subst e1 e2
              rw [HX.out.1] at hz
              injection hz with hz
              subst hz
              exact cz
            clear HD2 hy1 hb1
            go_wp2_with (at_builtin; refine wpList_append_run rfl (.tmp 37) (.tmp 38) 39 39 rfl rfl rfl HR1.out ?_)
            refine (refFormat_any x _ hok).mono ?_
            rintro e w2 ⟨rfl, hb2⟩
            have H2 : Hid (RtI w w2 B (some ⟨b0, off, none⟩) n l (.slice ao1 n1 cp1) (acc' ++ [32])) := H1.out.more (below_keeps hb2)
            obtain ⟨v3, w3, hr3, hy3, hb3⟩ := str_more B (.slice ao1 n1 cp1) (acc' ++ [32]) (Lib.itoa x) w2 H2.out.row H2.out.up (by simp; omega)
            have HR3 := Hid.mk' hr3
            clear hr3
            have H3 : Hid (RtI w w3 B (some ⟨b0, off, none⟩) n l v3 (acc' ++ [32] ++ Lib.itoa x)) := H2.out.on hb3 hy3
            obtain ⟨ao3, n3, cp3, rfl⟩ := by_shape2 hy3
            clear hb2 hb3 hy3
            by_cases hk2 : 1 < k
            · have HE : Hid (acc' ++ [32] ++ Lib.itoa x ++ [42] ++ Lib.itoa k = acc' ++ rowB x k) := by
                unfold rowB
                rw [if_pos hk2]
                show _ = _
                simp
              obtain ⟨v4, w4, hr4, hy4, hb4⟩ := byte_more B (.slice ao3 n3 cp3) (acc' ++ [32] ++ Lib.itoa x) 42 42 rfl w3 H3.out.row H3.out.up (by simp; omega)
              have HR4 := Hid.mk' hr4
              clear hr4
              have H4 : Hid (RtI w w4 B (some ⟨b0, off, none⟩) n l v4 (acc' ++ [32] ++ Lib.itoa x ++ [42])) := H3.out.on hb4 hy4
              obtain ⟨ao4, n4, cp4, rfl⟩ := by_shape2 hy4
              clear hb4 hy4
              have i4 : (k : Int) > 1 := by omega
              go_wp2_with (first | (at_builtin; refine wpList_append_run rfl (.tmp 40) (.tmp 45) 39 9 rfl rfl rfl HR3.out ?_) | (at_builtin; refine wpList_append_run rfl (.tmp 49) (.tmp 50) 39 39 rfl rfl rfl HR4.out ?_))
              refine (refFormat_any (k : Int) _ ⟨by omega, by omega⟩).mono ?_
              rintro e w5 ⟨rfl, hb5⟩
              have H5 : Hid (RtI w w5 B (some ⟨b0, off, none⟩) n l (.slice ao4 n4 cp4) (acc' ++ [32] ++ Lib.itoa x ++ [42])) := H4.out.more (below_keeps hb5)
              obtain ⟨v6, w6, hr6, hy6, hb6⟩ := str_more B (.slice ao4 n4 cp4) (acc' ++ [32] ++ Lib.itoa x ++ [42]) (Lib.itoa k) w5 H5.out.row H5.out.up (by simp; omega)
              have HR6 := Hid.mk' hr6
              clear hr6
              have H6 : Hid (RtI w w6 B (some ⟨b0, off, none⟩) n l v6 (acc' ++ rowB x k)) := by rw [← HE.out]; exact H5.out.on hb6 hy6
              obtain ⟨ao6, n6, cp6, rfl⟩ := by_shape2 hy6
              clear hb5 hb6 hy6
              go_wp2_with (at_builtin; refine wpList_append_run rfl (.tmp 52) (.tmp 54) 39 9 rfl rfl rfl HR6.out ?_)
              refine ⟨⟨i + k, _, by go_num, by omega, H6.out, ?_, ?_⟩, by simp [intOf]; omega⟩
              · have := rowB_len x k hok (by omega)
                rw [List.length_append]; omega
              · rw [HX.out.2.1, HQ.out, List.drop_drop]
            · have HE : Hid (acc' ++ [32] ++ Lib.itoa x = acc' ++ rowB x k) := by
                unfold rowB
                rw [if_neg hk2]
                show _ = _
                simp
              have i4 : ¬ (k : Int) > 1 := by omega
              go_wp2_with (at_builtin; refine wpList_append_run rfl (.tmp 40) (.tmp 45) 39 9 rfl rfl rfl HR3.out ?_)
              refine ⟨⟨i + k, _, by go_num, by omega, HE.out ▸ H3.out, ?_, ?_⟩, by simp [intOf]; omega⟩
              · have := rowB_len x k hok (by omega)
                rw [List.length_append]; omega
              · rw [HX.out.2.1, HQ.out, List.drop_drop]
      · have i1 : ¬ (acc'.length : Int) ≤ 65536 := by omega
        have HT : Hid (acc' = tellV acc l ∧ IsBy wr B (.slice ao' acc'.length cap') acc' ∧ Below B w wr) := ⟨by rw [← hT]; exact (tellV_long _ _ (by omega)).symm, hI.row, hI.bel⟩
        clear hT hI
        go_wp2_with fail
        go_ret
        exact ⟨_, rfl, HT.out.1 ▸ HT.out.2.1, HT.out.2.2⟩
    · have i0 : ¬ (i : Int) < (n : Int) := by omega
      have hnil : l.drop i = [] := List.drop_eq_nil_of_le (by omega)
      have HT : Hid (acc' = tellV acc l ∧ IsBy wr B (.slice ao' acc'.length cap') acc' ∧ Below B w wr) := ⟨by rw [← hT, hnil]; rfl, hI.row, hI.bel⟩
      clear hT hI
      go_wp2_with fail
      go_ret
      exact ⟨_, rfl, HT.out.1 ▸ HT.out.2.1, HT.out.2.2⟩
end Go.Proofs.YtbeblgeiafkniaaDoor
