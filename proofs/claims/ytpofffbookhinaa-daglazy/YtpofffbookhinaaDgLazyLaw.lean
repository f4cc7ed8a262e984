import Derived.Test.YtpofffbookhinaaDgLazyP
import Derived.Shelf.RegionOpenPlain
/-! DagLazy: its walk. -/
namespace Go.Proofs.Ytpofffbookhinaa
set_option linter.unusedVariables false
set_option maxRecDepth 20000
open Go.RowKit Go.HeapKit

def lF (F : Nat → Int) (k : Nat) : List Int := (List.range k).map F
theorem lF_len (F : Nat → Int) (k : Nat) : (lF F k).length = k := by simp [lF]
theorem lF_succ (F : Nat → Int) (k : Nat) : lF F (k + 1) = lF F k ++ [F k] := by simp [lF, List.range_succ]
set_option maxHeartbeats 6400000 in
theorem dagLazy_walk (n : Int) (a : Option Addr) (m c : Nat) (l : List Ed) (q : Int) (oa : Option Addr) (ol oc : Nat) (os : List Int) (lt : Int) (w : World) (o : okI n) (oq : okI q) (olt : okI lt) (h : SeenE w a m l) (hok : ∀ e ∈ l, okI e.f ∧ okI e.t) (hos : SeenZ w oa ol os) :
    Calls Try.prog 3 #[.int .i64 n, .slice a m c, .int .i64 q, .slice oa ol oc, .int .i64 lt] w fun e w' => e = .returned (.bool true) ∧ Keeps None w w' := by
  have HS : Hid (SeenE w a m l ∧ (∀ e ∈ l, okI e.f ∧ okI e.t) ∧ okI q) := ⟨h, hok, oq⟩
  have HO : Hid (SeenZ w oa ol os) := hos
  clear h hok oq hos
  go_enter Try.func3, Try.ntmps3
  go_wp2_with fail
  refine (fit_any n a m c l _ o HS.out.1 HS.out.2.1).mono ?_
  rintro _ w2 ⟨sa, k, sc, rfl, hrow, hk⟩
  have hN := modN_lt n (n := 201) (by omega)
  obtain ⟨N, hNe⟩ : ∃ N, N = modN n 201 := ⟨_, rfl⟩
  rw [← hNe] at hN hrow ⊢
  have hD := fit_dag N l (by omega)
  obtain ⟨L, hL⟩ : ∃ L, L = fitL N l := ⟨_, rfl⟩
  rw [← hL] at hrow hD
  have HD : Hid (Dag (N : Int) L) := hD
  have hks : k * 16 ≤ 140737488351232 := by
    have h1 := hrow.1
    rw [edVals_length] at h1
    have h2 := hD.len
    omega
  obtain ⟨p, hp⟩ : ∃ p, p = w2.heap.size := ⟨_, rfl⟩
  have hkA := Keeps.alloc None w2 (.cells #[.int .i64 N, .slice sa k sc] 25)
  have H1 : Hid (SeenE (w2.alloc (.cells #[.int .i64 N, .slice sa k sc] 25)) sa k L ∧ (w2.alloc (.cells #[.int .i64 N, .slice sa k sc] 25)).heap[p]? = some (.cells #[.int .i64 N, .slice sa k sc] 25 (0, 0)) ∧ Keeps None w (w2.alloc (.cells #[.int .i64 N, .slice sa k sc] 25))) :=
    ⟨(row_seen hrow).more hkA, blk_new _ _ _ hp.symm, hk.trans hkA (fun _ f _ => f)⟩
  unfold dagV
  clear hrow hk hkA hL hD hNe o
  go_wp2_with fail
  refine (mod_any q 64 _ HS.out.2.2 (by omega) (by omega)).mono ?_
  rintro _ wz ⟨rfl, hw⟩
  have hw2 := hw.symm
  subst hw2
  clear hw
  have hM := modN_lt q (n := 64) (by omega)
  obtain ⟨M, hMe⟩ : ∃ M, M = modN q 64 := ⟨_, rfl⟩
  rw [← hMe] at hM ⊢
  obtain ⟨P, hPe⟩ : ∃ P, P = M + 1 := ⟨_, rfl⟩
  have HPE : Hid ((1 : Int) + (M : Int) = (P : Int)) := by show _ = _; omega
  have hP1 : 1 ≤ P := by omega
  have hP2 : P ≤ 64 := by omega
  rw [← hp]
  clear hMe HS hp
  generalize w2.alloc (.cells #[.int .i64 N, .slice sa k sc] 25) = wa at H1 ⊢
  have d0 : wa.cell? ⟨p, 0, none⟩ = some (.int .i64 N) := (blk_cell H1.out.2.1 0).trans rfl
  have d1 : wa.cell? ⟨p, 1, none⟩ = some (.slice sa k sc) := (blk_cell H1.out.2.1 1).trans rfl
  clear hPe
  go_wp2_with fail
  refine (mod_any lt 1099511627776 _ olt (by omega) (by omega)).mono ?_
  rintro _ wz ⟨rfl, hw⟩
  have hw2 := hw.symm
  subst hw2
  clear hw
  have hM2 := modN_lt lt (n := 1099511627776) (by omega)
  obtain ⟨M2, hMe2⟩ : ∃ M2, M2 = modN lt 1099511627776 := ⟨_, rfl⟩
  rw [← hMe2] at hM2 ⊢
  obtain ⟨K, hKe⟩ : ∃ K, K = M2 + 1 := ⟨_, rfl⟩
  have HKE : Hid ((1 : Int) + (M2 : Int) = (K : Int)) := by show _ = _; omega
  have hK1 : 1 ≤ K := by omega
  have hK2 : K ≤ 1099511627776 := by omega
  clear hMe2 hKe
  go_wp2_with fail
  rw [HPE.out, HKE.out]
  clear HPE HKE
  refine (listed_any N sa k sc L P oa ol oc os wa H1.out.1 (HO.out.more H1.out.2.2) HD.out hP1 hP2).mono ?_
  rintro _ w3 ⟨g, T, t0, rfl, hNT, hgw, hLst, hnz, hk3⟩
  have hTb : ∀ i, i < N → 1 ≤ T i ∧ T i ≤ 4096 := by
    intro i hi
    obtain ⟨zs, hzs⟩ : ∃ zs, zs = (List.range N).map T := ⟨_, rfl⟩
    obtain ⟨t9, ht9⟩ : ∃ t : Nat, grt zs = t := Int.eq_ofNat_of_zero_le (grt_ge zs).1
    obtain ⟨S9, hS9⟩ : ∃ S : Nat, spanV N L = S := Int.eq_ofNat_of_zero_le (crit_len N L).1
    have h2 := (brent_plain HD.out hP1 hLst hnz zs hzs t9 S9 ht9 hS9).2.2.2.2.2
    have h3 := (grt_ge zs).2 (T i) (by rw [hzs]; exact List.mem_map.2 ⟨i, List.mem_range.2 hi, rfl⟩)
    have h4 := hLst.rng i hi
    have h5 := hnz i hi
    omega
  have HP : Hid ((Lst N P L T t0 0 ∧ ∀ i, i < N → T i ≠ 0) ∧ (∀ i, i < N → 1 ≤ T i ∧ T i ≤ 4096)) := ⟨⟨hLst, hnz⟩, hTb⟩
  have H2 : Hid (SeenE w3 sa k L ∧ w3.heap[p]? = some (.cells #[.int .i64 N, .slice sa k sc] 25 (0, 0)) ∧ Keeps None w w3 ∧ IsN w3 g N T ∧ w.heap.size ≤ g ∧ g ≠ p ∧ ∀ x, sa = some x → 0 < k → x.block < g) :=
    ⟨H1.out.1.more hk3, blk_kept H1.out.2.1 hk3 (fun f => f), H1.out.2.2.trans hk3 (fun _ f _ => f), hNT, by have := H1.out.2.2.size; omega, by have := blk_lt H1.out.2.1; omega, fun x hx h0 => by obtain ⟨b9, o9, e9, hb9, _⟩ := H1.out.1.ex h0; rw [e9] at hx; injection hx with hx; subst hx; show b9 < g; omega⟩
  obtain ⟨B, hB⟩ : ∃ B, B = w3.heap.size := ⟨_, rfl⟩
  have HB : Hid (B = w3.heap.size) := hB
  clear hk3 H1 d0 d1 hNT hgw hLst hnz hTb hB
  have e0 : w3.cell? ⟨p, 0, none⟩ = some (.int .i64 N) := (blk_cell H2.out.2.1 0).trans rfl
  go_wp2_with fail
  go_loopw [16, 15] (fun s16 s15 ws => ∃ (i : Nat) (la : Option Addr) (lc : Nat), s16 = .int .i64 i ∧ s15 = .slice la i lc ∧ i ≤ N ∧ ws.ownsRow B 3 1 (.slice la i lc) i (iv (lF (fun j => T j + (K : Int)) i)) ∧ Keeps None w3 ws) (fun s16 _ _ => N - (intOf s16).toNat)
  case atStart => exact ⟨0, none, 0, rfl, rfl, Nat.zero_le _, row_nil _ _ _ _, Keeps.refl _ _⟩
  case round =>
    obtain ⟨i, la, lc, rfl, rfl, hi, hrow, hkp⟩ := hrel
    have e2 := hkp.cell e0 (fun f => f)
    have HI : Hid (wr.ownsRow B 3 1 (.slice la i lc) i (iv (lF (fun j => T j + (K : Int)) i)) ∧ Keeps None w3 wr) := ⟨hrow, hkp⟩
    clear hrow hkp e0
    by_cases hlt : i < N
    · have i2 : (i : Int) < (N : Int) := by omega
      have n0 : ¬ N = 0 := by omega
      have x0 := (H2.out.2.2.2.1.kept HI.out.2 (fun f => f)).at hlt
      have hTi := HP.out.2 i hlt
      have HX : Hid (lF (fun j => T j + (K : Int)) (i + 1) = lF (fun j => T j + (K : Int)) i ++ [T i + (K : Int)]) := lF_succ _ i
      generalize T i = ti at x0 hTi HX
      have hsz : B ≤ wr.heap.size := by have := HI.out.2.size; have := HB.out; omega
      obtain ⟨gg, cc, w7, hr, ho, hk7, hm7⟩ := int_more B (.slice la i lc) (lF (fun j => T j + (K : Int)) i) (ti + (K : Int)) i 23 wr.heap.size (wr.alloc (.cells #[.int .i64 (ti + (K : Int))] 3)) (lF_len _ i).symm (row_kept HI.out.1 (Keeps.alloc None wr _) (fun _ _ f => f)) (by simp; omega) (by omega) (blk_new _ _ _ rfl)
      have HE : Hid (w7.ownsRow B 3 1 (.slice (some ⟨gg, 0, none⟩) (i + 1) cc) (i + 1) (iv (lF (fun j => T j + (K : Int)) (i + 1))) ∧ Keeps None w3 w7) := by
        refine ⟨by rw [HX.out]; exact ho, (HI.out.2.andAlloc _).trans hk7 (fun j e hj => ?_)⟩
        have := row_low HI.out.1 e
        have := HB.out
        omega
      clear ho hk7 hm7
      go_wp2_with (at_builtin; refine wpList_append_run rfl (.tmp 39) (.tmp 46) 23 23 rfl rfl rfl hr ?_)
      exact ⟨⟨i + 1, _, _, by go_num, rfl, by omega, HE.out.1, HE.out.2⟩, by simp [intOf]; omega⟩
    · have i2 : ¬ (i : Int) < (N : Int) := by omega
      obtain rfl : i = N := by omega
      have hoz : ∀ x ∈ lF (fun j => T j + (K : Int)) i, okI x := by
        intro x hx
        obtain ⟨j, hj, rfl⟩ := List.mem_map.1 hx
        have := HP.out.2 j (List.mem_range.1 hj)
        unfold okI
        omega
      have H3 : Hid (SeenE wr sa k L ∧ wr.heap[p]? = some (.cells #[.int .i64 i, .slice sa k sc] 25 (0, 0)) ∧ Keeps None w wr ∧ IsN wr g i T ∧ SeenZ wr la i (lF (fun j => T j + (K : Int)) i)) :=
        ⟨H2.out.1.more HI.out.2, blk_kept H2.out.2.1 HI.out.2 (fun f => f), H2.out.2.2.1.trans HI.out.2 (fun _ f _ => f), H2.out.2.2.2.1.kept HI.out.2 (fun f => f), row_seenZ HI.out.1 hoz⟩
      have d1 : wr.cell? ⟨p, 1, none⟩ = some (.slice sa k sc) := (blk_cell H3.out.2.1 1).trans rfl
      have hone := lazy_one HD.out hP1 HP.out.1.1 HP.out.1.2 K hK1 (lF (fun j => T j + (K : Int)) i) rfl
      have HON : Hid (isSched P (lF (fun j => T j + (K : Int)) i) L ∧ (0 < i → ¬ grOk P (lF (fun j => T j + (K : Int)) i) L (lF (fun j => T j + (K : Int)) i).length) ∧ (i = 0 → grOk P (lF (fun j => T j + (K : Int)) i) L (lF (fun j => T j + (K : Int)) i).length)) := hone
      clear hoz HI hone
      go_wp2_with fail
      refine (judge_any i sa k sc L P ⟨hP1, hP2⟩ la lc _ wr H3.out.1 H3.out.2.2.2.2 (dag_check HD.out)).mono ?_
      rintro _ w4 ⟨jv, rfl, hj, hk4⟩
      have H4 : Hid (SeenE w4 sa k L ∧ w4.heap[p]? = some (.cells #[.int .i64 i, .slice sa k sc] 25 (0, 0)) ∧ Keeps None w w4 ∧ IsN w4 g i T) :=
        ⟨H3.out.1.more hk4, blk_kept H3.out.2.1 hk4 (fun f => f), H3.out.2.2.1.trans hk4 (fun _ f _ => f), H3.out.2.2.2.1.kept hk4 (fun f => f)⟩
      have d0 : w4.cell? ⟨p, 0, none⟩ = some (.int .i64 i) := (blk_cell H4.out.2.1 0).trans rfl
      have d1 : w4.cell? ⟨p, 1, none⟩ = some (.slice sa k sc) := (blk_cell H4.out.2.1 1).trans rfl
      by_cases hi0 : i = 0
      · have hj2 : jv = 2 := by
          rcases hj with h | h | h
          · exact absurd HON.out.1 h.2
          · exact absurd (HON.out.2.2 hi0) h.2.2
          · exact h.1
        subst hj2
        have hq0 : ((i : Int) == 0) = true := by simp [hi0]
        clear hj hk4 H3
        subst hi0
        go_wp2_with fail
        go_ret
        exact ⟨rfl, H4.out.2.2.1⟩
      · have hj2 : jv = 1 := by
          rcases hj with h | h | h
          · exact absurd HON.out.1 h.2
          · exact h.1
          · exact absurd h.2.2 (HON.out.2.1 (by omega))
        subst hj2
        have hq0 : ((i : Int) == 0) = false := by simp; omega
        have HKL : Hid (k = L.length) := H4.out.1.len
        have hkb0 : k ≤ 16384 := by have := HKL.out; have := HD.out.len; omega
        clear hj hk4 H3 HON
        by_cases hk0 : k = 0
        · have hq1 : ((k : Int) == 0) = true := by simp [hk0]
          go_wp2_with fail
          go_ret
          exact ⟨rfl, H4.out.2.2.1⟩
        · have hq1 : ((k : Int) == 0) = false := by simp; omega
          have hkb : k ≤ 1099511627776 := by omega
          have hmod := fun w => mod_any lt k w olt (by omega) hkb
          have hjl := modN_lt lt (n := k) (by omega)
          obtain ⟨j, hje⟩ : ∃ j, j = modN lt k := ⟨_, rfl⟩
          rw [← hje] at hmod hjl
          obtain ⟨b, off, hsa, hbl, hcell⟩ := H4.out.1.ex (by omega)
          obtain ⟨x, hx⟩ : ∃ x, L[j]? = some x := ⟨_, List.getElem?_eq_getElem (by have := HKL.out; omega)⟩
          have hat := hcell j x hx
          have hxok := HD.out.ok x (List.mem_of_getElem? hx)
          obtain ⟨xf, xt⟩ := x
          simp only at hxok
          obtain ⟨u, rfl⟩ := Int.eq_ofNat_of_zero_le hxok.1
          obtain ⟨v, rfl⟩ := Int.eq_ofNat_of_zero_le (show 0 ≤ xt by omega)
          have a0 := hat.f
          have a1 := hat.t
          simp only at a0 a1
          have HXE : Hid ((⟨(u : Int), (v : Int)⟩ : Ed) ∈ L) := List.mem_of_getElem? hx
          have j1 : (j : Int) < (k : Int) := by omega
          subst hsa
          clear hje hcell hx hat
          go_wp2_with fail
          go_cut [19] (fun s19 wx => ∃ y, s19 = .pointer (some ⟨y, 0, none⟩) ∧ wx.heap[y]? = some (.cells #[.int .i64 u, .int .i64 v] 33 (0, 0)) ∧ Keeps None w4 wx)
          case first =>
            go_region_held3 (fun w' => w'.cell? ⟨p, 1, none⟩ = some (.slice (some ⟨b, off, none⟩) k sc) ∧ w'.cell? ⟨b, off + j * 2, none⟩ = some (.int .i64 u) ∧ w'.cell? ⟨b, off + j * 2 + 1, none⟩ = some (.int .i64 v)) (go_keep) (first | (go_at_call 9; refine (hmod _).mono ?_; rintro _ w9 ⟨rfl, hw9⟩; have hv9 := hw9.symm; subst hv9; clear hw9) | fail)
            all_goals go_wp2_with fail
            all_goals go_meet
            all_goals exact ⟨_, rfl, blk_new _ _ _ rfl, (Keeps.drew None _).andAlloc _⟩
          case rest =>
            obtain ⟨y, rfl, hy, hk5⟩ := hcut
            have b0 : wc.cell? ⟨y, 0, none⟩ = some (.int .i64 u) := (blk_cell hy 0).trans rfl
            have b1 : wc.cell? ⟨y, 1, none⟩ = some (.int .i64 v) := (blk_cell hy 1).trans rfl
            have hNc := H4.out.2.2.2.kept hk5 (fun f => f)
            have t0 := hNc.at (k := u) (by omega)
            have t1 := hNc.at (k := v) (by omega)
            have z0 := hNc.free u
            have z1 := hNc.free v
            have HT2 : Hid (¬ isSched P ((List.range i).map (upd (upd T u (T v)) v (T u))) L) := lazy_two HD.out HP.out.1.1 HP.out.1.2 ⟨u, v⟩ HXE.out u v rfl rfl _ rfl
            have hoz2 : ∀ x ∈ (List.range i).map (upd (upd T u (T v)) v (T u)), okI x := by
              intro x hx
              obtain ⟨j9, hj9, rfl⟩ := List.mem_map.1 hx
              have q1 := HP.out.2 j9 (List.mem_range.1 hj9)
              have q2 := HP.out.2 u (by omega)
              have q3 := HP.out.2 v (by omega)
              unfold upd okI
              split
              · omega
              · split <;> omega
            have hkk : Keeps (· = g) wc ((wc.setCell ⟨g, u, none⟩ (.int .i64 (T v))).setCell ⟨g, v, none⟩ (.int .i64 (T u))) := (Keeps.setCell (S := (· = g)) wc (a := ⟨g, u, none⟩) rfl _).andSet (x := ⟨g, v, none⟩) (.inl rfl) _
            have H5 : Hid (SeenE ((wc.setCell ⟨g, u, none⟩ (.int .i64 (T v))).setCell ⟨g, v, none⟩ (.int .i64 (T u))) (some ⟨b, off, none⟩) k L ∧ ((wc.setCell ⟨g, u, none⟩ (.int .i64 (T v))).setCell ⟨g, v, none⟩ (.int .i64 (T u))).heap[p]? = some (.cells #[.int .i64 i, .slice (some ⟨b, off, none⟩) k sc] 25 (0, 0)) ∧ Keeps None w ((wc.setCell ⟨g, u, none⟩ (.int .i64 (T v))).setCell ⟨g, v, none⟩ (.int .i64 (T u))) ∧ SeenZ ((wc.setCell ⟨g, u, none⟩ (.int .i64 (T v))).setCell ⟨g, v, none⟩ (.int .i64 (T u))) (some ⟨g, 0, none⟩) i ((List.range i).map (upd (upd T u (T v)) v (T u)))) := by
              have hr := ((hNc.set u (T v)).set v (T u)).row 0 (Nat.zero_le _) (by omega)
              refine ⟨(H4.out.1.more hk5).kept hkk (fun x hx _ => ?_), blk_kept (blk_kept H4.out.2.1 hk5 (fun f => f)) hkk (fun e => H2.out.2.2.2.2.2.1 e.symm), (H4.out.2.2.1.trans hk5 (fun _ f _ => f)).trans hkk (fun q e hq => ?_), row_seenZ hr hoz2⟩
              · have := H2.out.2.2.2.2.2.2 x hx (by omega)
                show ¬ x.block = g
                omega
              · have := H2.out.2.2.2.2.1
                omega
            have hyg : y ≠ g := by
              intro e
              subst e
              have hN9 := hNc
              unfold IsN at hN9
              rw [hy] at hN9
              injection hN9 with h
              injection h with h1 h2
              exact absurd h2 (by decide)
            have hkq : Keeps (· = g) wc (wc.setCell ⟨g, u, none⟩ (.int .i64 (T v))) := Keeps.setCell (S := (· = g)) wc (a := ⟨g, u, none⟩) rfl _


            have i5 : ¬ u = v := by omega
            have i6 : (u : Int) < (i : Int) := by omega
            have i7 : (v : Int) < (i : Int) := by omega
            have i8 : ¬ i = 0 := hi0
            generalize T u = tu at t0 H5 HT2
            generalize T v = tv at t1 H5 HT2 hkq
            have b2 := hkq.cell b0 (fun e => hyg e)
            have b3 := hkq.cell b1 (fun e => hyg e)
            clear hkk hkq hNc hoz2 hy hk5 H4 a0 a1 hmod
            have mixed : Try.prog.follows Departure.mixedOrders = true := by kernel_rfl
            go_wp2_with fail
            go_region_o
            generalize (wc.setCell ⟨g, u, none⟩ (.int .i64 tv)).setCell ⟨g, v, none⟩ (.int .i64 tu) = wd at H5 ⊢
            have c0 : wd.cell? ⟨p, 0, none⟩ = some (.int .i64 i) := (blk_cell H5.out.2.1 0).trans rfl
            have c1 : wd.cell? ⟨p, 1, none⟩ = some (.slice (some ⟨b, off, none⟩) k sc) := (blk_cell H5.out.2.1 1).trans rfl
            go_wp2_with fail
            refine (judge_any i _ k sc L P ⟨hP1, hP2⟩ (some ⟨g, 0, none⟩) i _ _ (H5.out.1.more (Keeps.drew None _)) (H5.out.2.2.2.more (Keeps.drew None _)) (dag_check HD.out)).mono ?_
            rintro _ w8 ⟨jv2, rfl, hj2, hk8⟩
            have hv0 : jv2 = 0 := by
              rcases hj2 with h | h | h
              · exact h.1
              · exact absurd h.2.1 HT2.out
              · exact absurd h.2.1 HT2.out
            subst hv0
            have HF : Hid (Keeps None w w8) := (H5.out.2.2.1.trans (Keeps.drew None _) (fun _ f _ => f)).trans hk8 (fun _ f _ => f)
            clear hj2 hk8
            go_wp2_with fail
            go_ret
            exact ⟨rfl, HF.out⟩
end Go.Proofs.Ytpofffbookhinaa
