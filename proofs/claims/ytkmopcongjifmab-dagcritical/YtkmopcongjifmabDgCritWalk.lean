import Derived.Test.YtkmopcongjifmabDgSpan
import Derived.Deep.RegionHeld3
/-! DagCritical. -/
namespace Go.Proofs.Ytkmopcongjifmab
set_option linter.unusedVariables false
set_option maxRecDepth 20000
open Go.RowKit Go.HeapKit

set_option maxHeartbeats 1600000 in
theorem joined_any (n : Int) (a : Option Addr) (m c : Nat) (l : List Ed) (x y : Int) (w : World) (h : SeenE w a m l) (hs : m * 16 ≤ 140737488351232) (hx : ∃ e ∈ l, e.f = x ∧ e.t = y) :
    Calls Try.prog 30 #[dagV n a m c, .int .i64 x, .int .i64 y] w fun e w' => e = .returned (.bool true) ∧ Keeps None w w' := by
  have H : Hid (SeenE w a m l ∧ m = l.length ∧ ∃ (k : Nat) (e : Ed), l[k]? = some e ∧ e.f = x ∧ e.t = y) := by
    obtain ⟨e, he, h1, h2⟩ := hx
    obtain ⟨k, hk, rfl⟩ := List.mem_iff_getElem.1 he
    exact ⟨h, h.len, k, l[k], List.getElem?_eq_getElem hk, h1, h2⟩
  clear h hx
  unfold dagV
  go_enter Try.func30, Try.ntmps30
  go_wp2_with fail
  go_loopw [7] (fun s7 wr => ∃ k : Nat, s7 = .int .i64 k ∧ k ≤ m ∧ wr.heap[w.heap.size]? = some (.cells #[.int .i64 n, .slice a m c] 24 (0, 0)) ∧ Keeps None w wr ∧ ∀ (i : Nat) (e : Ed), i < k → l[i]? = some e → ¬ (e.f = x ∧ e.t = y)) (fun s7 _ => m - (intOf s7).toNat)
  case atStart => exact ⟨0, rfl, Nat.zero_le _, blk_new _ _ _ rfl, keeps1 _ _, fun i e hi => by omega⟩
  case round =>
    obtain ⟨k, rfl, hk, b0, hkp, hall⟩ := hrel
    have hlt : k < m := by
      obtain ⟨_, h2, i, e, he, h3⟩ := H.out
      have : ¬ i < k := fun hi => hall i e hi he h3
      have := (List.getElem?_eq_some_iff.1 he).1
      omega
    have d1 := (blk_cell b0 1).trans rfl
    obtain ⟨b, off, e, rfl, he, hat⟩ := (H.out.1.more hkp).at hlt
    have k1 : (k : Int) < (m : Int) := by omega
    have m0 : ¬ m = 0 := by omega
    have e0 := hat.f
    have e1 := hat.t
    obtain ⟨ef, et⟩ := e
    simp only at e0 e1
    have HH : Hid (wr.heap[w.heap.size]? = some (.cells #[.int .i64 n, .slice (some ⟨b, off, none⟩) m c] 24 (0, 0)) ∧ Keeps None w wr ∧ (∀ (i : Nat) (e : Ed), i < k → l[i]? = some e → ¬ (e.f = x ∧ e.t = y)) ∧ l[k]? = some (⟨ef, et⟩ : Ed)) := ⟨b0, hkp, hall, he⟩
    clear b0 hkp hall he hat
    by_cases c1 : ef = x
    · have q1 : (ef == x) = true := by simpa using c1
      have C1 : Hid (ef = x) := c1
      clear c1
      by_cases c2 : et = y
      · have q2 : (et == y) = true := by simpa using c2
        clear c2
        go_wp2_with fail
        go_ret
        exact ⟨rfl, HH.out.2.1⟩
      · have q2 : (et == y) = false := by simpa using c2
        have C2 : Hid (¬ et = y) := c2
        clear c2
        go_wp2_with fail
        refine ⟨⟨k + 1, by go_num, by omega, HH.out.1, HH.out.2.1, fun i e hi he => ?_⟩, by simp [intOf]; omega⟩
        by_cases e2 : i = k
        · subst e2
          rw [HH.out.2.2.2] at he
          injection he with he
          subst he
          exact fun h => C2.out h.2
        · exact HH.out.2.2.1 i e (by omega) he
    · have q1 : (ef == x) = false := by simpa using c1
      have C1 : Hid (¬ ef = x) := c1
      clear c1
      go_wp2_with fail
      refine ⟨⟨k + 1, by go_num, by omega, HH.out.1, HH.out.2.1, fun i e hi he => ?_⟩, by simp [intOf]; omega⟩
      by_cases e2 : i = k
      · subst e2
        rw [HH.out.2.2.2] at he
        injection he with he
        subst he
        exact fun h => C1.out h.1
      · exact HH.out.2.2.1 i e (by omega) he
set_option maxHeartbeats 3200000 in
theorem rpath_any (n : Int) (a : Option Addr) (m c : Nat) (l : List Ed) (v : Value) (base : Nat) (path : List Int) (w : World) (h : SeenE w a m l) (hs : m * 16 ≤ 140737488351232) (hr : w.ownsRow base 3 1 v path.length (iv path)) (hc : critV n l path) :
    Calls Try.prog 15 #[dagV n a m c, v] w fun e w' => e = .returned (.bool true) ∧ Keeps None w w' := by
  obtain ⟨a1, c1, rfl⟩ := row_shape hr
  have hlen := hc.1
  have hrng := crit_len n l
  obtain ⟨K, hK⟩ : ∃ K, K = path.length := ⟨_, rfl⟩
  have H : Hid (SeenE w a m l ∧ w.ownsRow base 3 1 (.slice a1 K c1) K (iv path) ∧ PathOk n l path ∧ K = path.length ∧ (K : Int) = spanV n l) := ⟨h, by rw [hK]; exact hr, hc.2, hK, by rw [hK]; exact hlen⟩
  have hK4 : K ≤ 4096 := by omega
  rw [← hK]
  clear h hr hc hlen hrng hK
  unfold dagV
  go_enter Try.func15, Try.ntmps15
  go_wp2_with fail
  obtain ⟨s0, hs0⟩ : ∃ s0, s0 = w.heap.size := ⟨_, rfl⟩
  have hbox := blk_new w (.cells #[.int .i64 n, .slice a m c] 24) _ rfl
  have hk0 := keeps1 w (.cells #[.int .i64 n, .slice a m c] 24)
  refine (rspan_any n a m c l _ (H.out.1.more hk0) hs).mono ?_
  rintro _ w2 ⟨rfl, hk⟩
  rw [← hs0] at hbox ⊢
  have H1 : Hid (w2.heap[s0]? = some (.cells #[.int .i64 n, .slice a m c] 24 (0, 0)) ∧ Keeps None w w2) := ⟨blk_kept hbox hk (fun f => f), hk0.trans hk (fun _ f _ => f)⟩
  rw [← H.out.2.2.2.2]
  clear hk0 hbox hk hs0
  go_wp2_with fail
  go_loopw [7] (fun s7 wr => ∃ k : Nat, s7 = .int .i64 k ∧ k ≤ K ∧ wr.heap[s0]? = some (.cells #[.int .i64 n, .slice a m c] 24 (0, 0)) ∧ Keeps None w wr) (fun s7 _ => K - (intOf s7).toNat)
  case atStart => exact ⟨0, rfl, Nat.zero_le _, H1.out.1, H1.out.2⟩
  case round =>
    obtain ⟨k, rfl, hk, b0, hkp⟩ := hrel
    have d0 : wr.cell? ⟨s0, 0, none⟩ = some (.int .i64 n) := (blk_cell b0 0).trans rfl
    have d1 : wr.cell? ⟨s0, 1, none⟩ = some (.slice a m c) := (blk_cell b0 1).trans rfl
    have HH : Hid (wr.heap[s0]? = some (.cells #[.int .i64 n, .slice a m c] 24 (0, 0)) ∧ Keeps None w wr) := ⟨b0, hkp⟩
    clear b0 hkp
    by_cases hlt : k < K
    · have k1 : (k : Int) < (K : Int) := by omega
      have K0 : ¬ K = 0 := by omega
      have hkl : k < path.length := by have := H.out.2.2.2.1; omega
      have hx := List.getElem?_eq_getElem hkl
      obtain ⟨g, rfl, c0, _⟩ := row_at (row_kept H.out.2.1 HH.out.2 (fun _ _ f => f)) hx
      have hrg := H.out.2.2.1.rng _ (List.getElem_mem hkl)
      obtain ⟨x, hxe⟩ : ∃ x, x = path[k] := ⟨_, rfl⟩
      rw [← hxe] at hx c0 hrg
      have x0 : ¬ x < 0 := by omega
      have x1 : ¬ n ≤ x := by omega
      have HX : Hid (path[k]? = some x) := hx
      clear hx hxe hrg hkl
      by_cases hz : k = 0
      · subst hz
        go_wp2_with fail
        go_quiet (fail)
        go_wp2_with fail
        go_quiet (fail)
        go_wp2_with fail
        exact ⟨⟨1, by go_num, by omega, HH.out.1, HH.out.2.trans (Keeps.drewN None _ _) (fun _ f _ => f)⟩, by simp [intOf]; omega⟩
      · have z0 : (0 : Int) < (k : Int) := by omega
        have hkl : k - 1 < path.length := by have := H.out.2.2.2.1; omega
        have hy := List.getElem?_eq_getElem hkl
        obtain ⟨g', e', c2, _⟩ := row_at (row_kept H.out.2.1 HH.out.2 (fun _ _ f => f)) hy
        injection e' with e'
        injection e' with e'
        subst e'
        have hlk := H.out.2.2.1.link (k - 1) _ _ hy (by rw [show k - 1 + 1 = k by omega]; exact HX.out)
        obtain ⟨y, hye⟩ : ∃ y, y = path[k - 1] := ⟨_, rfl⟩
        rw [← hye] at c2 hlk
        obtain ⟨j, hj⟩ : ∃ j, j = k - 1 := ⟨_, rfl⟩
        rw [← hj] at c2
        have ej : IntKind.i64.wrap ((k : Int) - 1) = (j : Int) := by rw [IntKind.wrap_i64]; omega
        have j1 : (j : Int) < (K : Int) := by omega
        have HL : Hid (∃ e ∈ l, e.f = y ∧ e.t = x) := hlk
        have z1 : 0 < k := by omega
        clear hy hye hlk hkl hj
        go_wp2_with fail
        go_quiet (fail)
        go_upto_region 9 with fail
        go_cut [52] (fun s52 wx => s52 = .bool false ∧ Keeps None wr wx)
        case first =>
          have hjn := fun wz (hk : Keeps None wr wz) => joined_any n a m c l y x wz (H.out.1.more (HH.out.2.trans hk (fun _ f _ => f))) hs HL.out
          have hdn : Keeps None wr (wr.drewN nq) := Keeps.drewN None _ _
          generalize wr.drewN nq = wq at *
          have d0q := hdn.cell d0 (fun f => f)
          have d1q := hdn.cell d1 (fun f => f)
          have c0q := hdn.cell c0 (fun f => f)
          have c2q := hdn.cell c2 (fun f => f)
          go_region_held3 (fun w' => w'.cell? ⟨s0, 0, none⟩ = some (.int .i64 n) ∧ w'.cell? ⟨s0, 1, none⟩ = some (.slice a m c) ∧ w'.cell? ⟨g, k, none⟩ = some (.int .i64 x) ∧ w'.cell? ⟨g, j, none⟩ = some (.int .i64 y)) (first | with_reducible exact hs2 | go_keep) (first
            | (go_at_call 30; refine (hjn _ (hdn.andDrew)).mono ?_; rintro _ w9 ⟨rfl, hk9⟩; have hkd := (Keeps.drew None wq).trans hk9 (fun _ f _ => f); have hs2 := (⟨hkd.cell d0q (fun f => f), hkd.cell d1q (fun f => f), hkd.cell c0q (fun f => f), hkd.cell c2q (fun f => f)⟩ : w9.cell? ⟨s0, 0, none⟩ = some (.int .i64 n) ∧ w9.cell? ⟨s0, 1, none⟩ = some (.slice a m c) ∧ w9.cell? ⟨g, k, none⟩ = some (.int .i64 x) ∧ w9.cell? ⟨g, j, none⟩ = some (.int .i64 y))))
          all_goals (go_wp2_with fail; go_meet)
          all_goals exact ⟨rfl, hdn.trans hkd (fun _ f _ => f)⟩
        case rest =>
          obtain ⟨rfl, hkc⟩ := hcut
          go_wp2_with fail
          exact ⟨⟨k + 1, by go_num, by omega, blk_kept HH.out.1 hkc (fun f => f), HH.out.2.trans hkc (fun _ f _ => f)⟩, by simp [intOf]; omega⟩
    · have k1 : ¬ (k : Int) < (K : Int) := by omega
      go_wp2_with fail
      go_ret
      exact ⟨rfl, HH.out.2⟩
set_option maxHeartbeats 3200000 in
theorem dagCritical_walk (n : Int) (a : Option Addr) (m c : Nat) (l : List Ed) (w : World) (o : okI n) (h : SeenE w a m l) (hok : ∀ i ∈ l, okI i.f ∧ okI i.t) (hs : m * 16 ≤ 140737488351232) :
    Calls Try.prog 3 #[dagV n a m c] w fun e w' => e = .returned (.bool true) ∧ Keeps None w w' := by
  have HS : Hid (SeenE w a m l) := h
  clear h
  obtain ⟨s0, hs0⟩ : ∃ s0, s0 = w.heap.size := ⟨_, rfl⟩
  have HS0 : Hid (s0 = w.heap.size) := hs0
  unfold dagV
  go_enter Try.func3, Try.ntmps3
  go_wp2_with fail
  refine (moved_any n a m c l (w.alloc (.cells #[.int .i64 n, .slice a m c] 24)) (HS.out.more (keeps1 _ _)) hs).mono ?_
  rintro e w1 ⟨g, cap, rfl, hR, hk⟩
  have hsz : (w.alloc (.cells #[.int .i64 n, .slice a m c] 24)).heap.size = s0 + 1 := by simp; omega
  rw [hsz] at hR
  have hst := St.start (n := n) (c := c) (p := w1.heap.size) hs0 HS.out (blk_kept (blk_new w (.cells #[.int .i64 n, .slice a m c] 24) s0 hs0.symm) hk (fun f => f)) hR ((keeps1 w _).trans hk (fun _ f _ => f)) rfl
  obtain ⟨p, hp⟩ : ∃ p, p = w1.heap.size := ⟨_, rfl⟩
  rw [← hp] at hst
  have HT : Hid (St w (w1.alloc (.cells #[.int .i64 n, .slice (some ⟨g, 0, none⟩) m cap] 24)) s0 p g m cap n a c l (l.map mvE)) := hst
  unfold dagV
  rw [← hs0]
  clear hst hk hR hs0 hsz
  go_wp2_with fail
  refine (crit_any n (some ⟨g, 0, none⟩) m cap _ _ HT.out.own hs).mono ?_
  rintro e w2 ⟨v0, path0, rfl, _, _, hk⟩
  have HT2 : Hid (St w w2 s0 p g m cap n a c l (l.map mvE)) := HT.out.more hk
  clear HT hk
  rw [← hp]
  clear hp
  have c0 := HT2.out.c0
  have c1 := HT2.out.c1
  have p0 := HT2.out.p0
  have p1 := HT2.out.p1
  go_wp2_with fail
  refine (back_any n n w.heap.size g m cap a c l _ _ HT2.out.seen HT2.out.room HT2.out.apart hs).mono ?_
  rintro e w3 ⟨rfl, hR, hk⟩
  have HT : Hid (St w w3 s0 p g m cap n a c l l) := HT2.out.back hR hk
  clear HT2 hk hR c0 c1 p0 p1
  have c0 := HT.out.c0
  have c1 := HT.out.c1
  have p0 := HT.out.p0
  have p1 := HT.out.p1
  go_wp2_with fail
  refine (crit_any n (some ⟨g, 0, none⟩) m cap _ _ HT.out.own hs).mono ?_
  rintro e w4 ⟨v1, path, rfl, hr1, hc1, hk⟩
  obtain ⟨a1, k1, rfl⟩ := row_shape hr1
  have H1 : Hid (w4.ownsRow w3.heap.size 3 1 (.slice a1 path.length k1) path.length (iv path) ∧ critV n l path ∧ St w w4 s0 p g m cap n a c l l) := ⟨hr1, hc1, HT.out.more hk⟩
  have HT2 : Hid (St w w4 s0 p g m cap n a c l l) := HT.out.more hk
  clear HT hk c0 c1 p0 p1 hr1 hc1
  have c0 := HT2.out.c0
  have c1 := HT2.out.c1
  have p0 := HT2.out.p0
  have p1 := HT2.out.p1
  go_wp2_with fail
  refine (crit_any n (some ⟨g, 0, none⟩) m cap _ _ HT2.out.own hs).mono ?_
  rintro e w5 ⟨v2, path2, rfl, hr2, hc2, hk5⟩
  obtain ⟨a2, k2, rfl⟩ := row_shape hr2
  have hK2 : path2.length ≤ 4096 := by have h1 := hc2.1; have h2 := crit_len n l; omega
  have H2 : Hid (w5.ownsRow w4.heap.size 3 1 (.slice a2 path2.length k2) path2.length (iv path2) ∧ Keeps None w4 w5) := ⟨hr2, hk5⟩
  clear hr2 hk5 HT2 c0 c1 p0 p1 hc2
  go_wp2_with fail
  refine (spoilt_any _ _ _ _ _ H2.out.1 H2.out.2.size hK2).mono ?_
  rintro e w6 ⟨a3, k3, rfl, hk6⟩
  have hk46 : Keeps None w4 w6 := H2.out.2.trans hk6 (fun i e hi => by omega)
  have H3 : Hid (w6.ownsRow w3.heap.size 3 1 (.slice a1 path.length k1) path.length (iv path) ∧ critV n l path) := ⟨row_kept H1.out.1 hk46 (fun _ _ f => f), H1.out.2.1⟩
  have HT : Hid (St w w6 s0 p g m cap n a c l l) := H1.out.2.2.more hk46
  clear H1 H2 hk6 hk46
  obtain ⟨K2, hKK⟩ : ∃ K2, K2 = path2.length := ⟨_, rfl⟩
  rw [← hKK] at hK2 ⊢
  clear hKK
  have i2 : ¬ (K2 : Int) + 1 < 1 := by omega
  have c0 := HT.out.c0
  have c1 := HT.out.c1
  have p0 := HT.out.p0
  have p1 := HT.out.p1
  go_wp2_with fail
  refine (rcheck_any n a m c _ _ HT.out.seen hs).mono ?_
  rintro e w7 ⟨rfl, hk⟩
  have H4 : Hid (w7.ownsRow w3.heap.size 3 1 (.slice a1 path.length k1) path.length (iv path) ∧ critV n l path) := ⟨row_kept H3.out.1 hk (fun _ _ f => f), H3.out.2⟩
  have HT2 : Hid (St w w7 s0 p g m cap n a c l l) := HT.out.more hk
  clear HT hk c0 c1 p0 p1 H3
  have c0 := HT2.out.c0
  have c1 := HT2.out.c1
  have p0 := HT2.out.p0
  have p1 := HT2.out.p1
  go_wp2_with fail
  refine (marked_any n _ g m cap _ _ HT2.out.room hs).mono ?_
  rintro e w8 ⟨rfl, hk⟩
  have H5 : Hid (w8.ownsRow w3.heap.size 3 1 (.slice a1 path.length k1) path.length (iv path) ∧ critV n l path) := ⟨row_kept H4.out.1 hk (fun _ _ f => f), H4.out.2⟩
  have HT : Hid (St w w8 s0 p g m cap n a c l l) := HT2.out.more hk
  clear HT2 hk c0 c1 p0 p1 H4
  have c0 := HT.out.c0
  have c1 := HT.out.c1
  have p0 := HT.out.p0
  have p1 := HT.out.p1
  go_wp2_with fail
  refine (sameEdges_any _ _ m _ _ l _ HT.out.own HT.out.seen hs).mono ?_
  rintro e w9 ⟨rfl, hk⟩
  have H6 : Hid (w9.ownsRow w3.heap.size 3 1 (.slice a1 path.length k1) path.length (iv path) ∧ critV n l path) := ⟨row_kept H5.out.1 hk (fun _ _ f => f), H5.out.2⟩
  have HT2 : Hid (St w w9 s0 p g m cap n a c l l) := HT.out.more hk
  clear HT hk c0 c1 p0 p1 H5
  have c0 := HT2.out.c0
  have c1 := HT2.out.c1
  have p0 := HT2.out.p0
  have p1 := HT2.out.p1
  by_cases hc : checkV n l = 0
  · have eb : (checkV n l == 0) = true := by simpa using hc
    go_wp2_with fail
    refine (rpath_any n a m c l _ _ path _ HT2.out.seen hs H6.out.1 H6.out.2).mono ?_
    rintro e w10 ⟨rfl, hk⟩
    have HF : Hid (Keeps None w w10) := HT2.out.keeps.trans hk (fun _ f _ => f)
    clear hk
    go_wp2_with fail
    go_ret
    exact ⟨rfl, HF.out⟩
  · have eb : (checkV n l == 0) = false := by simpa using hc
    have h0 : path.length = 0 := by
      have h1 := H6.out.2.1
      rw [ear_bad hc] at h1
      have : grt [] = 0 := rfl
      omega
    rw [h0]
    go_wp2_with fail
    go_ret
    exact ⟨rfl, HT2.out.keeps⟩
end Go.Proofs.Ytkmopcongjifmab
