import Derived.Test.YtkmopcongjifmaaDgSpan
/-! DagSpan. -/
namespace Go.Proofs.Ytkmopcongjifmaa
set_option linter.unusedVariables false
set_option maxRecDepth 20000
open Go.RowKit Go.HeapKit

set_option maxHeartbeats 1600000 in
theorem dagSpan_walk (n : Int) (a : Option Addr) (m c : Nat) (l : List Ed) (w : World) (o : okI n) (h : SeenE w a m l) (hok : ∀ i ∈ l, okI i.f ∧ okI i.t) (hs : m * 16 ≤ 140737488351232) :
    Calls Try.prog 6 #[dagV n a m c] w fun e w' => e = .returned (.bool true) ∧ Keeps None w w' := by
  have HS : Hid (SeenE w a m l) := h
  clear h
  obtain ⟨s0, hs0⟩ : ∃ s0, s0 = w.heap.size := ⟨_, rfl⟩
  have HS0 : Hid (s0 = w.heap.size) := hs0
  unfold dagV
  go_enter Try.func6, Try.ntmps6
  go_wp2_with fail
  refine (moved_any n a m c l (w.alloc (.cells #[.int .i64 n, .slice a m c] 24)) (HS.out.more (keeps1 _ _)) hs).mono ?_
  rintro e w1 ⟨g, cap, rfl, hR, hk⟩
  have hsz : (w.alloc (.cells #[.int .i64 n, .slice a m c] 24)).heap.size = s0 + 1 := by simp; omega
  rw [hsz] at hR
  have hst := St.start (n := n) (c := c) (p := w1.heap.size) hs0 HS.out (blk_kept (blk_new w (.cells #[.int .i64 n, .slice a m c] 24) s0 hs0.symm) hk (fun f => f)) hR ((keeps1 w _).trans hk (fun _ f _ => f)) rfl
  obtain ⟨p, hp⟩ : ∃ p, p = w1.heap.size := ⟨_, rfl⟩
  rw [← hp] at hst
  have HT : Hid (St w (w1.alloc (.cells #[.int .i64 n, .slice (some ⟨g, 0, none⟩) m cap] 24)) s0 p g m cap n a c l (l.map mvE)) := hst
  unfold dagV
  rw [← hs0]
  clear hst hk hR hs0 hsz
  go_wp2_with fail
  refine (span_any n (some ⟨g, 0, none⟩) m cap _ _ HT.out.own hs).mono ?_
  rintro e w2 ⟨rfl, hk⟩
  have HT2 : Hid (St w w2 s0 p g m cap n a c l (l.map mvE)) := HT.out.more hk
  clear HT hk
  rw [← hp]
  clear hp
  have c0 := HT2.out.c0
  have c1 := HT2.out.c1
  have p0 := HT2.out.p0
  have p1 := HT2.out.p1
  go_wp2_with fail
  refine (back_any n n w.heap.size g m cap a c l _ _ HT2.out.seen HT2.out.room HT2.out.apart hs).mono ?_
  rintro e w3 ⟨rfl, hR, hk⟩
  have HT : Hid (St w w3 s0 p g m cap n a c l l) := HT2.out.back hR hk
  clear HT2 hk hR c0 c1 p0 p1
  have c0 := HT.out.c0
  have c1 := HT.out.c1
  have p0 := HT.out.p0
  have p1 := HT.out.p1
  go_wp2_with fail
  refine (span_any n (some ⟨g, 0, none⟩) m cap _ _ HT.out.own hs).mono ?_
  rintro e w4 ⟨rfl, hk⟩
  have HT2 : Hid (St w w4 s0 p g m cap n a c l l) := HT.out.more hk
  clear HT hk c0 c1 p0 p1
  have c0 := HT2.out.c0
  have c1 := HT2.out.c1
  have p0 := HT2.out.p0
  have p1 := HT2.out.p1
  go_wp2_with fail
  refine (rspan_any n a m c _ _ HT2.out.seen hs).mono ?_
  rintro e w5 ⟨rfl, hk⟩
  have HT : Hid (St w w5 s0 p g m cap n a c l l) := HT2.out.more hk
  clear HT2 hk c0 c1 p0 p1
  have c0 := HT.out.c0
  have c1 := HT.out.c1
  have p0 := HT.out.p0
  have p1 := HT.out.p1
  go_wp2_with fail
  refine (marked_any n _ g m cap _ _ HT.out.room hs).mono ?_
  rintro e w6 ⟨rfl, hk⟩
  have HT2 : Hid (St w w6 s0 p g m cap n a c l l) := HT.out.more hk
  clear HT hk c0 c1 p0 p1
  have c0 := HT2.out.c0
  have c1 := HT2.out.c1
  have p0 := HT2.out.p0
  have p1 := HT2.out.p1
  go_wp2_with fail
  refine (sameEdges_any _ _ m _ _ l _ HT2.out.own HT2.out.seen hs).mono ?_
  rintro e w7 ⟨rfl, hk⟩
  have HT : Hid (St w w7 s0 p g m cap n a c l l) := HT2.out.more hk
  clear HT2 hk c0 c1 p0 p1
  go_wp2_with fail
  go_ret
  exact ⟨rfl, HT.out.keeps⟩
end Go.Proofs.Ytkmopcongjifmaa
