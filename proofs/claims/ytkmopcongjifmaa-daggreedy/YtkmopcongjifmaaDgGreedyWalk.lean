import Derived.Test.YtkmopcongjifmaaDgRGre
/-! DagGreedy. -/
namespace Go.Proofs.Ytkmopcongjifmaa
set_option linter.unusedVariables false
set_option maxRecDepth 20000
open Go.RowKit Go.HeapKit

set_option maxHeartbeats 3200000 in
theorem dagGreedy_walk (n : Int) (a : Option Addr) (m c : Nat) (l : List Ed) (p_ : Int) (w : World) (o : okI n) (h : SeenE w a m l) (hok : ∀ i ∈ l, okI i.f ∧ okI i.t) (hs : m * 16 ≤ 140737488351232) (op : okI p_) :
    Calls Try.prog 8 #[dagV n a m c, .int .i64 p_] w fun e w' => e = .returned (.bool true) ∧ Keeps None w w' := by
  have HS : Hid (SeenE w a m l) := h
  clear h
  obtain ⟨s0, hs0⟩ : ∃ s0, s0 = w.heap.size := ⟨_, rfl⟩
  have HS0 : Hid (s0 = w.heap.size) := hs0
  unfold dagV
  go_enter Try.func8, Try.ntmps8
  go_wp2_with fail
  refine (moved_any n a m c l (w.alloc (.cells #[.int .i64 n, .slice a m c] 24)) (HS.out.more (keeps1 _ _)) hs).mono ?_
  rintro e w1 ⟨g, cap, rfl, hR, hk⟩
  have hsz : (w.alloc (.cells #[.int .i64 n, .slice a m c] 24)).heap.size = s0 + 1 := by simp; omega
  rw [hsz] at hR
  have hst := St.start (n := n) (c := c) (p := w1.heap.size) hs0 HS.out (blk_kept (blk_new w (.cells #[.int .i64 n, .slice a m c] 24) s0 hs0.symm) hk (fun f => f)) hR ((keeps1 w _).trans hk (fun _ f _ => f)) rfl
  obtain ⟨p, hp⟩ : ∃ p, p = w1.heap.size := ⟨_, rfl⟩
  rw [← hp] at hst
  have HT : Hid (St w (w1.alloc (.cells #[.int .i64 n, .slice (some ⟨g, 0, none⟩) m cap] 24)) s0 p g m cap n a c l (l.map mvE)) := hst
  unfold dagV
  rw [← hs0]
  clear hst hk hR hs0 hsz
  go_wp2_with fail
  refine (gre_any n (some ⟨g, 0, none⟩) m cap _ p_ _ HT.out.own hs).mono ?_
  rintro e w2 ⟨v0, rfl, _, hk⟩
  have HT2 : Hid (St w w2 s0 p g m cap n a c l (l.map mvE)) := HT.out.more hk
  clear HT hk
  rw [← hp]
  clear hp
  have c0 := HT2.out.c0
  have c1 := HT2.out.c1
  have p0 := HT2.out.p0
  have p1 := HT2.out.p1
  go_wp2_with fail
  refine (back_any n n w.heap.size g m cap a c l _ _ HT2.out.seen HT2.out.room HT2.out.apart hs).mono ?_
  rintro e w3 ⟨rfl, hR, hk⟩
  have HT : Hid (St w w3 s0 p g m cap n a c l l) := HT2.out.back hR hk
  clear HT2 hk hR c0 c1 p0 p1
  have c0 := HT.out.c0
  have c1 := HT.out.c1
  have p0 := HT.out.p0
  have p1 := HT.out.p1
  go_wp2_with fail
  refine (gre_any n (some ⟨g, 0, none⟩) m cap _ p_ _ HT.out.own hs).mono ?_
  rintro e w4 ⟨v1, rfl, hr1, hk⟩
  obtain ⟨K, hK⟩ : ∃ K, K = (greV n l p_).length := ⟨_, rfl⟩
  have HK : Hid (K = (greV n l p_).length) := hK
  have hK4 : K ≤ 4096 := by rw [hK]; exact gre_len n l p_
  rw [← hK] at hr1
  obtain ⟨a1, k1, rfl⟩ := row_shape hr1
  have H1 : Hid (w4.ownsRow w3.heap.size 3 1 (.slice a1 K k1) K (iv (greV n l p_)) ∧ St w w4 s0 p g m cap n a c l l) := ⟨hr1, HT.out.more hk⟩
  have HT2 : Hid (St w w4 s0 p g m cap n a c l l) := HT.out.more hk
  clear HT hk c0 c1 p0 p1 hr1 hK
  have c0 := HT2.out.c0
  have c1 := HT2.out.c1
  have p0 := HT2.out.p0
  have p1 := HT2.out.p1
  go_wp2_with fail
  refine (gre_any n (some ⟨g, 0, none⟩) m cap _ p_ _ HT2.out.own hs).mono ?_
  rintro e w5 ⟨v2, rfl, hr2, hk5⟩
  rw [← HK.out] at hr2
  obtain ⟨a2, k2, rfl⟩ := row_shape hr2
  have H2 : Hid (w5.ownsRow w4.heap.size 3 1 (.slice a2 K k2) K (iv (greV n l p_)) ∧ Keeps None w4 w5) := ⟨hr2, hk5⟩
  clear hr2 hk5 HT2 c0 c1 p0 p1
  go_wp2_with fail
  refine (spoilt_any _ _ K _ _ H2.out.1 H2.out.2.size hK4).mono ?_
  rintro e w6 ⟨a3, k3, rfl, hk6⟩
  have hk46 : Keeps None w4 w6 := H2.out.2.trans hk6 (fun i e hi => by omega)
  have H3 : Hid (w6.ownsRow w3.heap.size 3 1 (.slice a1 K k1) K (iv (greV n l p_))) := row_kept H1.out.1 hk46 (fun _ _ f => f)
  have HT : Hid (St w w6 s0 p g m cap n a c l l) := H1.out.2.more hk46
  clear H1 H2 hk6 hk46
  have c0 := HT.out.c0
  have c1 := HT.out.c1
  have p0 := HT.out.p0
  have p1 := HT.out.p1
  go_wp2_with fail
  refine (rgre_any n a m c _ p_ _ HT.out.seen hs).mono ?_
  rintro e w7 ⟨v4, rfl, hr4, hk⟩
  rw [← HK.out] at hr4
  obtain ⟨a4, k4, rfl⟩ := row_shape hr4
  have H4 : Hid (w7.ownsRow w3.heap.size 3 1 (.slice a1 K k1) K (iv (greV n l p_)) ∧ w7.ownsRow w6.heap.size 3 1 (.slice a4 K k4) K (iv (greV n l p_))) := ⟨row_kept H3.out hk (fun _ _ f => f), hr4⟩
  have HT2 : Hid (St w w7 s0 p g m cap n a c l l) := HT.out.more hk
  clear HT hk c0 c1 p0 p1 hr4 H3
  have c0 := HT2.out.c0
  have c1 := HT2.out.c1
  have p0 := HT2.out.p0
  have p1 := HT2.out.p1
  go_wp2_with fail
  refine (same_any _ _ _ _ K _ _ H4.out.1 H4.out.2 hK4).mono ?_
  rintro e w8 ⟨rfl, hk⟩
  have HT : Hid (St w w8 s0 p g m cap n a c l l) := HT2.out.more hk
  clear HT2 hk c0 c1 p0 p1 H4
  have c0 := HT.out.c0
  have c1 := HT.out.c1
  have p0 := HT.out.p0
  have p1 := HT.out.p1
  go_wp2_with fail
  refine (marked_any n _ g m cap _ _ HT.out.room hs).mono ?_
  rintro e w9 ⟨rfl, hk⟩
  have HT2 : Hid (St w w9 s0 p g m cap n a c l l) := HT.out.more hk
  clear HT hk c0 c1 p0 p1
  have c0 := HT2.out.c0
  have c1 := HT2.out.c1
  have p0 := HT2.out.p0
  have p1 := HT2.out.p1
  go_wp2_with fail
  refine (sameEdges_any _ _ m _ _ l _ HT2.out.own HT2.out.seen hs).mono ?_
  rintro e w10 ⟨rfl, hk⟩
  have HT : Hid (St w w10 s0 p g m cap n a c l l) := HT2.out.more hk
  clear HT2 hk c0 c1 p0 p1
  go_wp2_with fail
  go_ret
  exact ⟨rfl, HT.out.keeps⟩
end Go.Proofs.Ytkmopcongjifmaa
