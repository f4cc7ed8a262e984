import Derived.Test.YtdiabpoafennlaaHyTold
/-! How many views are made, as the law counts them. -/
namespace Go.Proofs.Ytdiabpoafennlaa
set_option linter.unusedVariables false
set_option maxRecDepth 20000
set_option linter.unusedSimpArgs false
open Go.RowKit Go.HeapKit

theorem bool_at {w : World} {a : Option Addr} {n : Nat} {st : List Bool} (h : SeenV w a n (bv' st)) {q : Nat} (hq : q < n) : ∃ b off, a = some ⟨b, off, none⟩ ∧ w.cell? ⟨b, off + q, none⟩ = some (.bool (st.getD q false)) := by
  obtain ⟨b, off, v, hsa, -, hv, hc⟩ := h.at hq
  refine ⟨b, off, hsa, ?_⟩
  rw [bv', List.getElem?_map] at hv
  cases hk : st[q]? with
  | none => rw [hk] at hv; cases hv
  | some x =>
    rw [hk] at hv
    rw [hc, ← hv, List.getD_eq_getElem?_getD, hk]
    rfl
set_option maxHeartbeats 800000 in
theorem stole_ok (a0 a1 a2 : Option Addr) (n0 c0 n1 c1 n2 c2 q : Nat) (st : List Bool) (w : World) (h1 : SeenV w a1 n1 (bv' st)) :
    Calls Try.prog 28 #[.agg #[.slice a0 n0 c0, .slice a1 n1 c1, .slice a2 n2 c2], .int .i64 q] w fun e w' => e = .returned (.bool (st.getD q false)) ∧ Keeps None w w' := by
  have hlen := h1.len
  rw [bv_len] at hlen
  obtain ⟨p0, hp0⟩ : ∃ p0, p0 = w.heap.size := ⟨_, rfl⟩
  have hb0 := blk_new w (.cells #[.slice a0 n0 c0, .slice a1 n1 c1, .slice a2 n2 c2] 26) p0 hp0.symm
  have hkb := (Keeps.alloc None w (.cells #[.slice a0 n0 c0, .slice a1 n1 c1, .slice a2 n2 c2] 26))
  have HK : Hid (Keeps None w (w.alloc (.cells #[.slice a0 n0 c0, .slice a1 n1 c1, .slice a2 n2 c2] 26))) := hkb
  have i0 : (0 : Int) ≤ (q : Int) := by omega
  by_cases hq : q < n1
  · obtain ⟨b, off, rfl, hc⟩ := bool_at (h1.more hkb) hq
    have i1 : (q : Int) < (n1 : Int) := by omega
    obtain ⟨x, hx⟩ : ∃ x, x = st.getD q false := ⟨_, rfl⟩
    rw [← hx] at hc ⊢
    clear h1 hlen hb0 hkb hp0 hx
    go_enter Try.func28, Try.ntmps28
    go_wp2
    go_ret
    exact ⟨rfl, HK.out⟩
  · have i1 : ¬ (q : Int) < (n1 : Int) := by omega
    have hx : st.getD q false = false := by rw [List.getD_eq_getElem?_getD, List.getElem?_eq_none (by omega)]; rfl
    rw [hx]
    clear h1 hlen hb0 hkb hp0 hx
    go_enter Try.func28, Try.ntmps28
    go_wp2
    go_ret
    exact ⟨rfl, HK.out⟩
theorem row_shrink {w : World} {base : Nat} {e : TypeId} {a : Option Addr} {n c : Nat} {vs : List Value} {x : Value} (h : w.ownsRow base e 1 (.slice a (n + 1) c) (n + 1) (vs ++ [x])) : w.ownsRow base e 1 (.slice a n c) n vs := by
  have hl := h.1
  rw [List.length_append, List.length_singleton] at hl
  refine ⟨by omega, ?_⟩
  rcases h.2 with ⟨_, h0⟩ | ⟨g, cap, cur, e1, hb, hg, hn, hm, hcs, ht⟩
  · omega
  · injection e1 with e1 e2 e3
    refine .inr ⟨g, cap, cur, by rw [e1, e3], hb, hg, by omega, hm, hcs, ?_⟩
    have : cur.toList.take (n * 1) = (cur.toList.take ((n + 1) * 1)).take (n * 1) := by rw [List.take_take]; congr 1; omega
    rw [this, ht, Nat.mul_one, List.take_append_of_le_length (by omega), List.take_of_length_le (by omega)]
theorem nv_snoc (l : List Nat) (x : Nat) : nv (l ++ [x]) = nv l ++ [.int .i64 x] := by simp [nv, iv, nI]
theorem madeL_0 (st : List Bool) (x : Dd) (ds : List (Int × Int)) (n : Nat) (op : List Nat) (h : x.k = 0) : madeL st (dp x :: ds) n op = madeL st ds (n + 1) (n :: op) := by
  rw [madeL_cons, if_pos (show (dp x).1 = 0 from h)]
theorem madeL_1n (st : List Bool) (x : Dd) (ds : List (Int × Int)) (n : Nat) (h : x.k = 1) : madeL st (dp x :: ds) n [] = madeL st ds n [] := by
  rw [madeL_cons, if_neg (show ¬ (dp x).1 = 0 by show ¬ x.k = 0; omega), if_pos (show (dp x).1 = 1 from h)]
theorem madeL_1 (st : List Bool) (x : Dd) (ds : List (Int × Int)) (n t : Nat) (op : List Nat) (h : x.k = 1) : madeL st (dp x :: ds) n (t :: op) = (if st.getD t false = true then 1 else 0) + madeL st ds n op := by
  rw [madeL_cons, if_neg (show ¬ (dp x).1 = 0 by show ¬ x.k = 0; omega), if_pos (show (dp x).1 = 1 from h)]
theorem madeL_2 (st : List Bool) (x : Dd) (ds : List (Int × Int)) (n : Nat) (op : List Nat) (h : ¬ x.k = 0) (h1 : ¬ x.k = 1) : madeL st (dp x :: ds) n op = madeL st ds n op := by
  rw [madeL_cons, if_neg (show ¬ (dp x).1 = 0 from h), if_neg (show ¬ (dp x).1 = 1 from h1)]
set_option maxHeartbeats 3200000 in
theorem made_ok (a0 a1 a2 : Option Addr) (n0 c0 n1 c1 n2 c2 : Nat) (l : List Dd) (st : List Bool) (w : World) (h0 : Seen w a0 n0 l) (h1 : SeenV w a1 n1 (bv' st)) (hn : n0 ≤ 4096) (M : Nat) (hM : 1 + madeL st (l.map dp) 0 [] = M) :
    Calls Try.prog 17 #[.agg #[.slice a0 n0 c0, .slice a1 n1 c1, .slice a2 n2 c2]] w fun e w' => e = .returned (.int .i64 M) ∧ Keeps None w w' := by
  have HL : Hid (n0 = l.length) := h0.len
  obtain ⟨p0, hp0⟩ : ∃ p0, p0 = w.heap.size := ⟨_, rfl⟩
  have hb0 := blk_new w (.cells #[.slice a0 n0 c0, .slice a1 n1 c1, .slice a2 n2 c2] 26) p0 hp0.symm
  have hkb := (Keeps.alloc None w (.cells #[.slice a0 n0 c0, .slice a1 n1 c1, .slice a2 n2 c2] 26))
  go_enter Try.func17, Try.ntmps17
  go_upto_region 1 with fail
  rw [← hp0]
  clear hp0
  generalize w.alloc (.cells #[.slice a0 n0 c0, .slice a1 n1 c1, .slice a2 n2 c2] 26) = wb at *
  have HB : Hid (∀ wx, Keeps None wb wx → (wx.cell? ⟨p0, 0, none⟩ = some (.slice a0 n0 c0) ∧ wx.cell? ⟨p0, 1, none⟩ = some (.slice a1 n1 c1) ∧ wx.cell? ⟨p0, 2, none⟩ = some (.slice a2 n2 c2)) ∧ Seen wx a0 n0 l ∧ SeenV wx a1 n1 (bv' st)) := fun wx hx => ⟨⟨blk_cell (blk_kept hb0 hx (fun f => f)) 0, blk_cell (blk_kept hb0 hx (fun f => f)) 1, blk_cell (blk_kept hb0 hx (fun f => f)) 2⟩, (h0.more hkb).more hx, (h1.more hkb).more hx⟩
  have HK : Hid (Keeps None w wb) := hkb
  clear h0 h1 hb0 hkb
  obtain ⟨⟨y0, y1, y2⟩, -⟩ := HB.out wb (Keeps.refl _ _)
  go_wp2_with fail
  clear y0 y1 y2
  go_loopw [3, 4, 5, 6] (fun n s o i wr => ∃ (k N sp : Nat) (op : List Nat), k ≤ n0 ∧ i = .int .i64 k ∧ n = .int .i64 N ∧ s = .int .i64 sp ∧ wr.ownsRow wb.heap.size 3 1 o op.length (nv op.reverse) ∧ N + madeL st ((l.drop k).map dp) sp op = M ∧ N ≤ k + 1 ∧ sp ≤ k ∧ op.length ≤ k ∧ Keeps None wb wr) (fun _ _ _ i _ => n0 - (intOf i).toNat)
  case atStart => exact ⟨0, 1, 0, [], Nat.zero_le _, rfl, rfl, rfl, row_nil _ _ _ _, hM, Nat.le_refl _, Nat.le_refl _, Nat.le_refl _, Keeps.refl _ _⟩
  case round =>
    obtain ⟨k, N, sp, op, hk, rfl, rfl, rfl, hrow, hmd, hN, hsp, hop, hkp⟩ := hrel
    obtain ⟨sa, cs, rfl⟩ := row_shape hrow
    obtain ⟨⟨y0, y1, y2⟩, hS, hT⟩ := HB.out wr hkp
    by_cases hkn : k < n0
    · obtain ⟨b, off, x, rfl, hb, hx, u0, u1⟩ := hS.elem hkn
      have i3 : (k : Int) < (n0 : Int) := by omega
      have hmd2 : (l.drop k).map dp = dp x :: (l.drop (k + 1)).map dp := by
        obtain ⟨h1, h2⟩ := List.getElem?_eq_some_iff.1 hx
        rw [List.drop_eq_getElem_cons h1, h2]
        rfl
      rw [hmd2] at hmd
      obtain ⟨xk, xl⟩ := x
      have HKP : Hid (Keeps None wb wr) := hkp
      simp only at u0
      by_cases e0 : xk = 0
      · subst e0
        rw [madeL_0 _ _ _ _ _ rfl] at hmd
        obtain ⟨g, cp, w2, hr, ho, hk3, hm3⟩ := row1_more wb.heap.size (.slice sa op.length cs) op.reverse sp 24 wr.heap.size (wr.alloc (.cells #[.int .i64 sp] 3)) (by rw [List.length_reverse]; exact hrow.alloc _) (by have := hkp.size; simp; omega) (by rw [List.length_reverse]; omega) (blk_new _ _ _ rfl)
        have hkw2 : Keeps None wb w2 := (hkp.andAlloc _).trans hk3 (fun i e hi => by have := row_low hrow e; omega)
        have HN : Hid (w2.ownsRow wb.heap.size 3 1 (.slice (some ⟨g, 0, none⟩) (op.length + 1) cp) (sp :: op).length (nv (sp :: op).reverse) ∧ Keeps None wb w2 ∧ N + madeL st ((l.drop (k + 1)).map dp) (sp + 1) (sp :: op) = M) := by
          refine ⟨?_, hkw2, hmd⟩
          rw [List.length_append, List.length_singleton, List.length_reverse] at ho
          rw [List.reverse_cons, List.length_cons]
          exact ho
        rw [List.length_reverse] at hr
        obtain ⟨⟨z0, z1, z2⟩, hS2, -⟩ := HB.out w2 hkw2
        obtain ⟨b', off', x', e', hb', hx', v0, v1⟩ := hS2.elem hkn
        injection e' with e'
        injection e' with e1 e2
        subst e1 e2
        rw [hx] at hx'
        obtain rfl := Option.some.inj hx'
        simp only at v0
        clear hrow hkp hx hx' hmd hmd2 ho hk3 hm3 hS hT hS2 hkw2
        go_wp2_with (at_builtin; refine wpList_append_run rfl (.tmp 21) (.tmp 23) 24 24 rfl rfl rfl hr ?_)
        go_roundw
        case rel => exact ⟨k + 1, N, sp + 1, sp :: op, by omega, by go_num, rfl, by go_num, HN.out.1, HN.out.2.2, by omega, by omega, by simp; omega, HN.out.2.1⟩
        case measure => simp [intOf]; omega
      · by_cases e1 : xk = 1
        · subst e1
          cases op with
          | nil =>
            rw [madeL_1n _ _ _ _ rfl] at hmd
            have HN : Hid (wr.ownsRow wb.heap.size 3 1 (.slice sa ([] : List Nat).length cs) ([] : List Nat).length (nv ([] : List Nat).reverse) ∧ N + madeL st ((l.drop (k + 1)).map dp) sp [] = M) := ⟨hrow, hmd⟩
            clear hrow hkp hx hmd hmd2 hS hT
            go_wp2
            go_roundw
            case rel => exact ⟨k + 1, N, sp, [], by omega, by go_num, rfl, rfl, HN.out.1, HN.out.2, by omega, by omega, by simp, HKP.out⟩
            case measure => simp [intOf]; omega
          | cons t op =>
            rw [madeL_1 _ _ _ _ _ _ rfl] at hmd
            have hr1 := hrow
            rw [List.reverse_cons, nv_snoc, List.length_cons] at hr1
            have hnl : (nv op.reverse).length = op.length := by rw [nv_len, List.length_reverse]
            obtain ⟨g, rfl, hg1, hg2, hg3, hc, -⟩ := own_cell1 hr1 (k := op.length) (x := .int .i64 t) (by rw [List.getElem?_append_right (by omega)]; simp [hnl])
            have hr2 := row_shrink hr1
            obtain ⟨v, hv⟩ : ∃ v, v = st.getD t false := ⟨_, rfl⟩
            have HT : Hid (∀ wx, Keeps None wr wx → SeenV wx a1 n1 (bv' st)) := fun wx hx => hT.more hx
            have HV : Hid (v = st.getD t false) := hv
            have HN : Hid (wr.ownsRow wb.heap.size 3 1 (.slice (some ⟨g, 0, none⟩) op.length cs) op.length (nv op.reverse) ∧ N + ((if v = true then 1 else 0) + madeL st ((l.drop (k + 1)).map dp) sp op) = M) := ⟨hr2, by rw [hv]; exact hmd⟩
            have hle : op.length + 1 ≤ cs := hg3
            simp only [List.length_cons] at hop ⊢
            obtain ⟨T, hTT⟩ : ∃ T, T = op.length + 1 := ⟨_, rfl⟩
            rw [← hTT]
            have hw1 : wrap64 ((T : Int) - 1) = (op.length : Int) := by unfold wrap64; omega
            have hw2 : IntKind.i64.wrap ((T : Int) - 1) = (op.length : Int) := by rw [IntKind.wrap_i64]; omega
            have i5 : (op.length : Int) < (T : Int) := by omega
            have i6 : (0 : Int) < (T : Int) := by omega
            have i7 : (0 : Int) ≤ (op.length : Int) := by omega
            have i8 : (op.length : Int) ≤ (cs : Int) := by omega
            clear hTT
            clear hrow hkp hx hmd hmd2 hS hT hr1 hr2 hnl hv
            go_upto_region 11 with fail
            have hkc : Keeps None wr wr.drew := Keeps.drew None wr
            have hs : wr.drew.cell? ⟨p0, 0, none⟩ = some (.slice (some ⟨b, off, none⟩) n0 c0) ∧ wr.drew.cell? ⟨p0, 1, none⟩ = some (.slice a1 n1 c1) ∧ wr.drew.cell? ⟨p0, 2, none⟩ = some (.slice a2 n2 c2) ∧ wr.drew.cell? ⟨g, op.length, none⟩ = some (.int .i64 t) := ⟨y0, y1, y2, hc⟩
            go_region_held3 (fun wx => wx.cell? ⟨p0, 0, none⟩ = some (.slice (some ⟨b, off, none⟩) n0 c0) ∧ wx.cell? ⟨p0, 1, none⟩ = some (.slice a1 n1 c1) ∧ wx.cell? ⟨p0, 2, none⟩ = some (.slice a2 n2 c2) ∧ wx.cell? ⟨g, op.length, none⟩ = some (.int .i64 t)) (first | exact hs | go_keep) (first
              | (go_at_call 28; refine Calls.mono (stole_ok (some ⟨b, off, none⟩) a1 a2 n0 c0 n1 c1 n2 c2 t st _ (HT.out _ hkc)) ?_; rintro _ wn ⟨rfl, hkn⟩; replace hkc := hkc.trans hkn (fun _ f _ => f); replace hs : wn.cell? ⟨p0, 0, none⟩ = some (.slice (some ⟨b, off, none⟩) n0 c0) ∧ wn.cell? ⟨p0, 1, none⟩ = some (.slice a1 n1 c1) ∧ wn.cell? ⟨p0, 2, none⟩ = some (.slice a2 n2 c2) ∧ wn.cell? ⟨g, op.length, none⟩ = some (.int .i64 t) := ⟨hkc.cell y0 (fun f => f), hkc.cell y1 (fun f => f), hkc.cell y2 (fun f => f), hkc.cell hc (fun f => f)⟩; rw [← HV.out]; clear hkn))
            all_goals
              have HK2 : Hid (Keeps None wb wn ∧ wn.ownsRow wb.heap.size 3 1 (.slice (some ⟨g, 0, none⟩) op.length cs) op.length (nv op.reverse)) := ⟨HKP.out.trans hkc (fun _ f _ => f), row_kept HN.out.1 hkc (fun _ _ f => f)⟩
              cases v with
              | true =>
                have HN3 := HN.out.2
                simp only [if_true] at HN3
                have HN4 : Hid (N + (1 + madeL st ((l.drop (k + 1)).map dp) sp op) = M) := HN3
                clear HN3 hkc
                go_wp2_with fail
                exact ⟨⟨k + 1, N + 1, sp, op, by omega, by go_num, by go_num, rfl, HK2.out.2, by have := HN4.out; omega, by omega, by omega, by omega, HK2.out.1⟩, by simp [intOf]; omega⟩
              | false =>
                have HN3 : N + madeL st ((l.drop (k + 1)).map dp) sp op = M := by
                  have h := HN.out.2
                  rw [if_neg (by simp), Nat.zero_add] at h
                  exact h
                have HN4 : Hid (N + (madeL st ((l.drop (k + 1)).map dp) sp op) = M) := HN3
                clear HN3 hkc
                go_wp2_with fail
                exact ⟨⟨k + 1, N, sp, op, by omega, by go_num, rfl, rfl, HK2.out.2, HN4.out, by omega, by omega, by omega, HK2.out.1⟩, by simp [intOf]; omega⟩
        · rw [madeL_2 _ _ _ _ _ e0 e1] at hmd
          have HN : Hid (wr.ownsRow wb.heap.size 3 1 (.slice sa op.length cs) op.length (nv op.reverse) ∧ N + madeL st ((l.drop (k + 1)).map dp) sp op = M) := ⟨hrow, hmd⟩
          clear hrow hkp hx hmd hmd2 hS hT
          go_wp2
          go_roundw
          case rel => exact ⟨k + 1, N, sp, op, by omega, by go_num, rfl, rfl, HN.out.1, HN.out.2, by omega, by omega, by omega, HKP.out⟩
          case measure => simp [intOf]; omega
    · have hkn2 : k = n0 := by omega
      have i3 : ¬ (k : Int) < (n0 : Int) := by omega
      rw [List.drop_eq_nil_of_le (by have := HL.out; omega)] at hmd
      have he : N = M := hmd
      have HE : Hid (N = M ∧ Keeps None w wr) := ⟨he, HK.out.trans hkp (fun _ f _ => f)⟩
      clear hrow hkp hmd he hS hT
      go_wp2
      go_ret
      exact ⟨by rw [HE.out.1]; rfl, HE.out.2⟩
end Go.Proofs.Ytdiabpoafennlaa
