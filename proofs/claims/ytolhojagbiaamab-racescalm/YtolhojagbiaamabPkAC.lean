import Derived.Test.YtolhojagbiaamabPkAB
namespace Go.Proofs.Ytolhojagbiaamab
set_option linter.unusedVariables false
set_option maxRecDepth 20000
set_option linter.unusedSimpArgs false
open Go.RowKit Go.HeapKit
set_option maxHeartbeats 4000000 in
theorem add_1s (w : World) (base R n gN gA cap k l : Nat) (ee : Nat)  (N : Nat → Int) (A : List Dd) (p : Dd) (h : RowM w base R n N ((A ++ [p]) ++ [⟨l, endO (some ee)⟩]) gN gA cap) (hA : (A ++ [p]).length ≤ 4999) (hk : k < n) (hn : n ≤ 4096) (hl : l ≤ n) (he : ee ≤ n) (hb : base ≤ w.heap.size) :
    Calls Try.prog 43 #[.pointer (some ⟨R, 0, none⟩), .int .i64 k, .int .i64 1] w fun e w' => e = .returned (.tuple #[]) ∧ (∃ gA' cap', RowM w' base R n (upd (upd N k (N ee)) ee k) (A ++ [⟨p.k, endE p k⟩]) gN gA' cap') ∧ Keeps (fun i => base ≤ i) w w' := by
  have HM : Hid (RowM w base R n N ((A ++ [p]) ++ [⟨l, endO (some ee)⟩]) gN gA cap) := h
  obtain ⟨q, hq⟩ : ∃ q, q = (A ++ [p]).length := ⟨_, rfl⟩
  have HQ : Hid (q = (A ++ [p]).length) := hq
  obtain ⟨⟨u0, u1⟩, hf, hc⟩ := h.top
  rw [← hq] at u0 u1 hc hA
  have b1 := h.blk
  have hlen : ((A ++ [p]) ++ [(⟨l, endO (some ee)⟩ : Dd)]).length = q + 1 := by simp [hq]
  rw [hlen] at b1
  have r0 : w.cell? ⟨R, 0, none⟩ = some (.slice (some ⟨gN, 0, none⟩) (n + 1) (n + 1)) := cell_of_heap b1 0
  have r1 : w.cell? ⟨R, 1, none⟩ = some (.slice (some ⟨gA, 0, none⟩) (q + 1) cap) := cell_of_heap b1 1
  have hw1 : IntKind.i64.wrap (q : Int) = (q : Int) := by rw [IntWalk.i64_left]; unfold wrap64; omega
  have hw2 : IntKind.i64.wrap (((q + 1 : Nat) : Int) - 1) = (q : Int) := by rw [IntWalk.i64_left]; unfold wrap64; omega
  have q1 : (q : Int) < ((q + 1 : Nat) : Int) := by omega
  clear h b1 hlen hq
  go_enter Try.func43, Try.ntmps43
  go_wp2_with fail
  go_cut [6] (fun s6 wx => s6 = .pointer (some ⟨gA, q * 2, none⟩) ∧ wx = w.drew)
  case first =>
    go_region
    go_wp2_with fail
    go_meet
    exact ⟨rfl, rfl⟩
  case rest =>
  obtain ⟨rfl, hwc⟩ := hcut
  have hwc' := hwc.symm
  subst hwc'
  have v0 : w.drew.cell? ⟨gA, q * 2, none⟩ = some (.int .i64 l) := u0
  have v1 : w.drew.cell? ⟨gA, q * 2 + 1, none⟩ = some (.int .i64 ee) := u1
  have en : ¬ (ee : Int) = -1 := by omega
  have f0 : w.drew.frozen? ⟨gA, q * 2, none⟩ = false := hf _
  have f1 : w.drew.frozen? ⟨gA, q * 2 + 1, none⟩ = false := hf _
  have f2 : (w.setCell ⟨gA, q * 2, none⟩ (.int .i64 ee)).drew.frozen? ⟨gA, q * 2 + 1, none⟩ = false := by have := (HM.out.putK ee).1.top.2.1 (q * 2 + 1); rw [← HQ.out] at this; exact this
  have f3 : (w.setCell ⟨gA, q * 2, none⟩ (.int .i64 ee)).frozen? ⟨gA, q * 2 + 1, none⟩ = false := f2
  have v2 : (w.setCell ⟨gA, q * 2, none⟩ (.int .i64 ee)).drew.cell? ⟨gA, q * 2 + 1, none⟩ = some (.int .i64 ee) := by have := (HM.out.putK ee).1.top.1.c1; rw [← HQ.out] at this; exact this
  have v3 : (w.setCell ⟨gA, q * 2, none⟩ (.int .i64 ee)).cell? ⟨gA, q * 2 + 1, none⟩ = some (.int .i64 ee) := v2
  clear r0 r1 u0 u1 hf
  go_upto_region 3 with fail
  have hR : RowM ((w.setCell ⟨gA, q * 2, none⟩ (.int .i64 ee)).setCell ⟨gA, q * 2 + 1, none⟩ (.int .i64 (-1))) base R n N ((A ++ [p]) ++ [⟨ee, -1⟩]) gN gA cap ∧ Keeps (fun i => base ≤ i) w ((w.setCell ⟨gA, q * 2, none⟩ (.int .i64 ee)).setCell ⟨gA, q * 2 + 1, none⟩ (.int .i64 (-1))) := by
    have h1 := HM.out.putK ee
    have h2 := h1.1.putL (-1)
    rw [HQ.out]
    exact ⟨h2.1, h1.2.trans h2.2 (fun _ e _ => e)⟩
  obtain ⟨w1, hw⟩ : ∃ w1, w1 = ((w.setCell ⟨gA, q * 2, none⟩ (.int .i64 ee)).setCell ⟨gA, q * 2 + 1, none⟩ (.int .i64 (-1))).drew := ⟨_, rfl⟩
  have hR1 : RowM w1 base R n N ((A ++ [p]) ++ [⟨ee, -1⟩]) gN gA cap ∧ Keeps (fun i => base ≤ i) w w1 := by rw [hw]; exact ⟨hR.1.more (Keeps.drew None _), hR.2.andDrew⟩
  rw [← hw]
  obtain ⟨⟨u0, u1⟩, hf, _⟩ := hR1.1.top
  rw [← HQ.out] at u0 u1
  have r0 : w1.cell? ⟨R, 0, none⟩ = some (.slice (some ⟨gN, 0, none⟩) (n + 1) (n + 1)) := cell_of_heap hR1.1.blk 0
  have nb : w1.cell? ⟨gN, ee, none⟩ = some (.int .i64 (N ee)) := (cell_of_heap hR1.1.nums _).trans (nums_at _ _ (by omega))
  have nk : w1.cell? ⟨gN, k, none⟩ = some (.int .i64 (N k)) := (cell_of_heap hR1.1.nums _).trans (nums_at _ _ (by omega))
  have g0 := blk_free hR1.1.nums k
  have g1 := blk_free hR1.1.nums ee
  have i0 : (k : Int) < ((n + 1 : Nat) : Int) := by omega
  have i1 : (ee : Int) < ((n + 1 : Nat) : Int) := by omega
  have i2 : k < n + 1 := by omega
  have i3 : ee < n + 1 := by omega
  have hP := (hR1.1.putN k (N ee)).1
  have nb2 : (w1.setCell ⟨gN, k, none⟩ (.int .i64 (N ee))).cell? ⟨gN, ee, none⟩ = some (.int .i64 (N ee)) := (cell_of_heap hP.nums _).trans ((nums_at _ _ (by omega)).trans (by unfold upd; split <;> rfl))
  have g2 := blk_free hP.nums ee
  have nb3 : (w1.setCell ⟨gN, k, none⟩ (.int .i64 (N ee))).drew.cell? ⟨gN, ee, none⟩ = some (.int .i64 (N ee)) := nb2
  have g3 : (w1.setCell ⟨gN, k, none⟩ (.int .i64 (N ee))).drew.frozen? ⟨gN, ee, none⟩ = false := g2
  have HR1 : Hid _ := hR1
  clear hR hR1 hw v0 v1 f0 f1 HM hf hP
  have HI : Hid (∀ w2 : World, w2 = ((w1.setCell ⟨gN, k, none⟩ (.int .i64 (N ee))).setCell ⟨gN, ee, none⟩ (.int .i64 k)) → RowM w2.drew base R n (upd (upd N k (N ee)) ee k) ((A ++ [p]) ++ [⟨ee, -1⟩]) gN gA cap ∧ Keeps (fun i => base ≤ i) w w2.drew) := by
    intro w2 e
    have h1 := HR1.out.1.putN k (N ee)
    have h2 := h1.1.putN ee k
    rw [e]
    exact ⟨h2.1.more (Keeps.drew None _), ((HR1.out.2.trans h1.2 (fun _ e _ => e)).trans h2.2 (fun _ e _ => e)).andDrew⟩
  go_cut [6] (fun s6 wx => s6 = .pointer (some ⟨gA, q * 2, none⟩) ∧ RowM wx base R n (upd (upd N k (N ee)) ee k) ((A ++ [p]) ++ [⟨ee, -1⟩]) gN gA cap ∧ Keeps (fun i => base ≤ i) w wx)
  case first =>
    go_region
    go_wp2_with fail
    go_meet
    exact ⟨rfl, HI.out _ rfl⟩
  case rest =>
  obtain ⟨rfl, hR2, hk2⟩ := hcut
  obtain ⟨w2, hw2⟩ : ∃ w2, w2 = wc := ⟨_, rfl⟩
  rw [← hw2] at hR2 hk2 ⊢
  clear hw2 HI HR1 r0 nb nk g0 g1 u0 u1 nb2 nb3 g2 g3
  obtain ⟨⟨u0, u1⟩, hf, _⟩ := hR2.top
  rw [← HQ.out] at u0 u1
  have f0 := hf (q * 2)
  have hR3 := hR2.putK k
  rw [← HQ.out] at hR3
  clear hf
  go_upto_region 5 with fail
  obtain ⟨w3, hw3⟩ : ∃ w3, w3 = w2.setCell ⟨gA, q * 2, none⟩ (.int .i64 k) := ⟨_, rfl⟩
  rw [← hw3] at hR3
  rw [← hw3]
  clear hw3 u0 u1 f0
  have hlA : ((A ++ [p]) ++ [(⟨(k : Int), -1⟩ : Dd)]) = A ++ [p, ⟨k, -1⟩] := by simp
  rw [hlA] at hR3
  have HC : Hid _ := returned_ok w3 base R n gN gA cap k _ A p ⟨k, -1⟩ hR3.1 (by have := HQ.out; simp at this; omega)
  have HK : Hid _ := hk2.trans hR3.2 (fun _ e _ => e)
  clear hR2 hk2 hR3 hlA
  go_wp2_with (go_at_call 54; refine Calls.mono HC.out ?_; rintro _ w4 ⟨rfl, hR4, hk4⟩)
  go_end0
  exact ⟨rfl, ⟨_, _, hR4⟩, HK.out.trans hk4 (fun _ e _ => e)⟩
set_option maxHeartbeats 4000000 in
theorem add_1n (w : World) (base R n gN gA cap k l : Nat)   (N : Nat → Int) (A : List Dd) (p : Dd) (h : RowM w base R n N ((A ++ [p]) ++ [⟨l, endO none⟩]) gN gA cap) (hA : (A ++ [p]).length ≤ 4999) (hk : k < n) (hn : n ≤ 4096) (hl : l ≤ n) (hb : base ≤ w.heap.size) :
    Calls Try.prog 43 #[.pointer (some ⟨R, 0, none⟩), .int .i64 k, .int .i64 1] w fun e w' => e = .returned (.tuple #[]) ∧ (∃ gA' cap', RowM w' base R n (upd (upd N k (N l)) l k) (A ++ [⟨p.k, endE p k⟩]) gN gA' cap') ∧ Keeps (fun i => base ≤ i) w w' := by
  have HM : Hid (RowM w base R n N ((A ++ [p]) ++ [⟨l, endO none⟩]) gN gA cap) := h
  obtain ⟨q, hq⟩ : ∃ q, q = (A ++ [p]).length := ⟨_, rfl⟩
  have HQ : Hid (q = (A ++ [p]).length) := hq
  obtain ⟨⟨u0, u1⟩, hf, hc⟩ := h.top
  rw [← hq] at u0 u1 hc hA
  have b1 := h.blk
  have hlen : ((A ++ [p]) ++ [(⟨l, endO none⟩ : Dd)]).length = q + 1 := by simp [hq]
  rw [hlen] at b1
  have r0 : w.cell? ⟨R, 0, none⟩ = some (.slice (some ⟨gN, 0, none⟩) (n + 1) (n + 1)) := cell_of_heap b1 0
  have r1 : w.cell? ⟨R, 1, none⟩ = some (.slice (some ⟨gA, 0, none⟩) (q + 1) cap) := cell_of_heap b1 1
  have hw1 : IntKind.i64.wrap (q : Int) = (q : Int) := by rw [IntWalk.i64_left]; unfold wrap64; omega
  have hw2 : IntKind.i64.wrap (((q + 1 : Nat) : Int) - 1) = (q : Int) := by rw [IntWalk.i64_left]; unfold wrap64; omega
  have q1 : (q : Int) < ((q + 1 : Nat) : Int) := by omega
  clear h b1 hlen hq
  go_enter Try.func43, Try.ntmps43
  go_wp2_with fail
  go_cut [6] (fun s6 wx => s6 = .pointer (some ⟨gA, q * 2, none⟩) ∧ wx = w.drew)
  case first =>
    go_region
    go_wp2_with fail
    go_meet
    exact ⟨rfl, rfl⟩
  case rest =>
  obtain ⟨rfl, hwc⟩ := hcut
  have hwc' := hwc.symm
  subst hwc'
  have v0 : w.drew.cell? ⟨gA, q * 2, none⟩ = some (.int .i64 l) := u0
  have v1 : w.drew.cell? ⟨gA, q * 2 + 1, none⟩ = some (.int .i64 (-1)) := u1
  have f0 : w.drew.frozen? ⟨gA, q * 2, none⟩ = false := hf _
  have f1 : w.drew.frozen? ⟨gA, q * 2 + 1, none⟩ = false := hf _
  clear r0 r1 u0 u1 hf
  go_upto_region 3 with fail
  have hR : RowM w base R n N ((A ++ [p]) ++ [⟨l, -1⟩]) gN gA cap ∧ Keeps (fun i => base ≤ i) w w := ⟨HM.out, Keeps.refl _ _⟩
  obtain ⟨w1, hw⟩ : ∃ w1, w1 = w.drew := ⟨_, rfl⟩
  have hR1 : RowM w1 base R n N ((A ++ [p]) ++ [⟨l, -1⟩]) gN gA cap ∧ Keeps (fun i => base ≤ i) w w1 := by rw [hw]; exact ⟨hR.1.more (Keeps.drew None _), hR.2.andDrew⟩
  rw [← hw]
  obtain ⟨⟨u0, u1⟩, hf, _⟩ := hR1.1.top
  rw [← HQ.out] at u0 u1
  have r0 : w1.cell? ⟨R, 0, none⟩ = some (.slice (some ⟨gN, 0, none⟩) (n + 1) (n + 1)) := cell_of_heap hR1.1.blk 0
  have nb : w1.cell? ⟨gN, l, none⟩ = some (.int .i64 (N l)) := (cell_of_heap hR1.1.nums _).trans (nums_at _ _ (by omega))
  have nk : w1.cell? ⟨gN, k, none⟩ = some (.int .i64 (N k)) := (cell_of_heap hR1.1.nums _).trans (nums_at _ _ (by omega))
  have g0 := blk_free hR1.1.nums k
  have g1 := blk_free hR1.1.nums l
  have i0 : (k : Int) < ((n + 1 : Nat) : Int) := by omega
  have i1 : (l : Int) < ((n + 1 : Nat) : Int) := by omega
  have i2 : k < n + 1 := by omega
  have i3 : l < n + 1 := by omega
  have hP := (hR1.1.putN k (N l)).1
  have nb2 : (w1.setCell ⟨gN, k, none⟩ (.int .i64 (N l))).cell? ⟨gN, l, none⟩ = some (.int .i64 (N l)) := (cell_of_heap hP.nums _).trans ((nums_at _ _ (by omega)).trans (by unfold upd; split <;> rfl))
  have g2 := blk_free hP.nums l
  have nb3 : (w1.setCell ⟨gN, k, none⟩ (.int .i64 (N l))).drew.cell? ⟨gN, l, none⟩ = some (.int .i64 (N l)) := nb2
  have g3 : (w1.setCell ⟨gN, k, none⟩ (.int .i64 (N l))).drew.frozen? ⟨gN, l, none⟩ = false := g2
  have HR1 : Hid _ := hR1
  clear hR hR1 hw v0 v1 f0 f1 HM hf hP
  have HI : Hid (∀ w2 : World, w2 = ((w1.setCell ⟨gN, k, none⟩ (.int .i64 (N l))).setCell ⟨gN, l, none⟩ (.int .i64 k)) → RowM w2.drew base R n (upd (upd N k (N l)) l k) ((A ++ [p]) ++ [⟨l, -1⟩]) gN gA cap ∧ Keeps (fun i => base ≤ i) w w2.drew) := by
    intro w2 e
    have h1 := HR1.out.1.putN k (N l)
    have h2 := h1.1.putN l k
    rw [e]
    exact ⟨h2.1.more (Keeps.drew None _), ((HR1.out.2.trans h1.2 (fun _ e _ => e)).trans h2.2 (fun _ e _ => e)).andDrew⟩
  go_cut [6] (fun s6 wx => s6 = .pointer (some ⟨gA, q * 2, none⟩) ∧ RowM wx base R n (upd (upd N k (N l)) l k) ((A ++ [p]) ++ [⟨l, -1⟩]) gN gA cap ∧ Keeps (fun i => base ≤ i) w wx)
  case first =>
    go_region
    go_wp2_with fail
    go_meet
    exact ⟨rfl, HI.out _ rfl⟩
  case rest =>
  obtain ⟨rfl, hR2, hk2⟩ := hcut
  obtain ⟨w2, hw2⟩ : ∃ w2, w2 = wc := ⟨_, rfl⟩
  rw [← hw2] at hR2 hk2 ⊢
  clear hw2 HI HR1 r0 nb nk g0 g1 u0 u1 nb2 nb3 g2 g3
  obtain ⟨⟨u0, u1⟩, hf, _⟩ := hR2.top
  rw [← HQ.out] at u0 u1
  have f0 := hf (q * 2)
  have hR3 := hR2.putK k
  rw [← HQ.out] at hR3
  clear hf
  go_upto_region 5 with fail
  obtain ⟨w3, hw3⟩ : ∃ w3, w3 = w2.setCell ⟨gA, q * 2, none⟩ (.int .i64 k) := ⟨_, rfl⟩
  rw [← hw3] at hR3
  rw [← hw3]
  clear hw3 u0 u1 f0
  have hlA : ((A ++ [p]) ++ [(⟨(k : Int), -1⟩ : Dd)]) = A ++ [p, ⟨k, -1⟩] := by simp
  rw [hlA] at hR3
  have HC : Hid _ := returned_ok w3 base R n gN gA cap k _ A p ⟨k, -1⟩ hR3.1 (by have := HQ.out; simp at this; omega)
  have HK : Hid _ := hk2.trans hR3.2 (fun _ e _ => e)
  clear hR2 hk2 hR3 hlA
  go_wp2_with (go_at_call 54; refine Calls.mono HC.out ?_; rintro _ w4 ⟨rfl, hR4, hk4⟩)
  go_end0
  exact ⟨rfl, ⟨_, _, hR4⟩, HK.out.trans hk4 (fun _ e _ => e)⟩
end Go.Proofs.Ytolhojagbiaamab
namespace Go.Proofs.Ytolhojagbiaamab
set_option linter.unusedVariables false
set_option maxRecDepth 20000
set_option linter.unusedSimpArgs false
open Go.RowKit Go.HeapKit
set_option maxHeartbeats 4000000 in
theorem add_0 (w : World) (base R n gN gA cap k l : Nat) (o : Option Nat)  (N : Nat → Int) (A : List Dd)  (h : RowM w base R n N (A ++ [⟨l, endO o⟩]) gN gA cap) (hA : A.length ≤ 4999) (hk : k < n) (hn : n ≤ 4096) (hl : l ≤ n) (hb : base ≤ w.heap.size) :
    Calls Try.prog 43 #[.pointer (some ⟨R, 0, none⟩), .int .i64 k, .int .i64 0] w fun e w' => e = .returned (.tuple #[]) ∧ (∃ gA' cap', RowM w' base R n (upd (upd N k (N l)) l k) (A ++ [⟨k, endO o⟩, ⟨k, -1⟩]) gN gA' cap') ∧ Keeps (fun i => base ≤ i) w w' := by
  have HM : Hid (RowM w base R n N (A ++ [⟨l, endO o⟩]) gN gA cap) := h
  obtain ⟨q, hq⟩ : ∃ q, q = A.length := ⟨_, rfl⟩
  have HQ : Hid (q = A.length) := hq
  obtain ⟨⟨u0, u1⟩, hf, hc⟩ := h.top
  rw [← hq] at u0 u1 hc hA
  have b1 := h.blk
  have hlen : (A ++ [(⟨l, endO o⟩ : Dd)]).length = q + 1 := by simp [hq]
  rw [hlen] at b1
  have r0 : w.cell? ⟨R, 0, none⟩ = some (.slice (some ⟨gN, 0, none⟩) (n + 1) (n + 1)) := cell_of_heap b1 0
  have r1 : w.cell? ⟨R, 1, none⟩ = some (.slice (some ⟨gA, 0, none⟩) (q + 1) cap) := cell_of_heap b1 1
  have hw1 : IntKind.i64.wrap (q : Int) = (q : Int) := by rw [IntWalk.i64_left]; unfold wrap64; omega
  have hw2 : IntKind.i64.wrap (((q + 1 : Nat) : Int) - 1) = (q : Int) := by rw [IntWalk.i64_left]; unfold wrap64; omega
  have q1 : (q : Int) < ((q + 1 : Nat) : Int) := by omega
  clear h b1 hlen hq
  go_enter Try.func43, Try.ntmps43
  go_wp2_with fail
  go_cut [6] (fun s6 wx => s6 = .pointer (some ⟨gA, q * 2, none⟩) ∧ wx = w.drew)
  case first =>
    go_region
    go_wp2_with fail
    go_meet
    exact ⟨rfl, rfl⟩
  case rest =>
  obtain ⟨rfl, hwc⟩ := hcut
  have hwc' := hwc.symm
  subst hwc'
  have v0 : w.drew.cell? ⟨gA, q * 2, none⟩ = some (.int .i64 l) := u0
  have v1 : w.drew.cell? ⟨gA, q * 2 + 1, none⟩ = some (.int .i64 (endO o)) := u1
  have f0 : w.drew.frozen? ⟨gA, q * 2, none⟩ = false := hf _
  have f1 : w.drew.frozen? ⟨gA, q * 2 + 1, none⟩ = false := hf _
  clear r0 r1 u0 u1 hf
  go_upto_region 3 with fail
  have hR : RowM w base R n N (A ++ [⟨l, endO o⟩]) gN gA cap ∧ Keeps (fun i => base ≤ i) w w := ⟨HM.out, Keeps.refl _ _⟩
  obtain ⟨w1, hw⟩ : ∃ w1, w1 = w.drew := ⟨_, rfl⟩
  have hR1 : RowM w1 base R n N (A ++ [⟨l, endO o⟩]) gN gA cap ∧ Keeps (fun i => base ≤ i) w w1 := by rw [hw]; exact ⟨hR.1.more (Keeps.drew None _), hR.2.andDrew⟩
  rw [← hw]
  obtain ⟨⟨u0, u1⟩, hf, _⟩ := hR1.1.top
  rw [← HQ.out] at u0 u1
  have r0 : w1.cell? ⟨R, 0, none⟩ = some (.slice (some ⟨gN, 0, none⟩) (n + 1) (n + 1)) := cell_of_heap hR1.1.blk 0
  have nb : w1.cell? ⟨gN, l, none⟩ = some (.int .i64 (N l)) := (cell_of_heap hR1.1.nums _).trans (nums_at _ _ (by omega))
  have nk : w1.cell? ⟨gN, k, none⟩ = some (.int .i64 (N k)) := (cell_of_heap hR1.1.nums _).trans (nums_at _ _ (by omega))
  have g0 := blk_free hR1.1.nums k
  have g1 := blk_free hR1.1.nums l
  have i0 : (k : Int) < ((n + 1 : Nat) : Int) := by omega
  have i1 : (l : Int) < ((n + 1 : Nat) : Int) := by omega
  have i2 : k < n + 1 := by omega
  have i3 : l < n + 1 := by omega
  have hP := (hR1.1.putN k (N l)).1
  have nb2 : (w1.setCell ⟨gN, k, none⟩ (.int .i64 (N l))).cell? ⟨gN, l, none⟩ = some (.int .i64 (N l)) := (cell_of_heap hP.nums _).trans ((nums_at _ _ (by omega)).trans (by unfold upd; split <;> rfl))
  have g2 := blk_free hP.nums l
  have nb3 : (w1.setCell ⟨gN, k, none⟩ (.int .i64 (N l))).drew.cell? ⟨gN, l, none⟩ = some (.int .i64 (N l)) := nb2
  have g3 : (w1.setCell ⟨gN, k, none⟩ (.int .i64 (N l))).drew.frozen? ⟨gN, l, none⟩ = false := g2
  have HR1 : Hid _ := hR1
  clear hR hR1 hw v0 v1 f0 f1 HM hf hP
  have HI : Hid (∀ w2 : World, w2 = ((w1.setCell ⟨gN, k, none⟩ (.int .i64 (N l))).setCell ⟨gN, l, none⟩ (.int .i64 k)) → RowM w2.drew base R n (upd (upd N k (N l)) l k) (A ++ [⟨l, endO o⟩]) gN gA cap ∧ Keeps (fun i => base ≤ i) w w2.drew) := by
    intro w2 e
    have h1 := HR1.out.1.putN k (N l)
    have h2 := h1.1.putN l k
    rw [e]
    exact ⟨h2.1.more (Keeps.drew None _), ((HR1.out.2.trans h1.2 (fun _ e _ => e)).trans h2.2 (fun _ e _ => e)).andDrew⟩
  go_cut [6] (fun s6 wx => s6 = .pointer (some ⟨gA, q * 2, none⟩) ∧ RowM wx base R n (upd (upd N k (N l)) l k) (A ++ [⟨l, endO o⟩]) gN gA cap ∧ Keeps (fun i => base ≤ i) w wx)
  case first =>
    go_region
    go_wp2_with fail
    go_meet
    exact ⟨rfl, HI.out _ rfl⟩
  case rest =>
  obtain ⟨rfl, hR2, hk2⟩ := hcut
  obtain ⟨w2, hw2⟩ : ∃ w2, w2 = wc := ⟨_, rfl⟩
  rw [← hw2] at hR2 hk2 ⊢
  clear hw2 HI HR1 r0 nb nk g0 g1 u0 u1 nb2 nb3 g2 g3
  obtain ⟨⟨u0, u1⟩, hf, _⟩ := hR2.top
  rw [← HQ.out] at u0 u1
  have f0 := hf (q * 2)
  have hR3 := hR2.putK k
  rw [← HQ.out] at hR3
  clear hf
  go_upto_region 5 with fail
  obtain ⟨w3, hw3⟩ : ∃ w3, w3 = w2.setCell ⟨gA, q * 2, none⟩ (.int .i64 k) := ⟨_, rfl⟩
  rw [← hw3] at hR3
  rw [← hw3]
  clear hw3 u0 u1 f0
  obtain ⟨hR3, hk3⟩ := hR3
  have hk3 := hk2.trans hk3 (fun _ e _ => e)
  have hs3 := hk3.size
  have b3 := hR3.blk
  rw [show (A ++ [(⟨(k : Int), endO o⟩ : Dd)]).length = q + 1 by simp [HQ.out]] at b3
  have r1 : w3.cell? ⟨R, 1, none⟩ = some (.slice (some ⟨gA, 0, none⟩) (q + 1) cap) := cell_of_heap b3 1
  have hlow := hR3.lowA
  have hbn : (w3.alloc (.cells #[.int .i64 k, .int .i64 (-1)] 99)).heap[w3.heap.size]? = some (.cells #[.int .i64 k, .int .i64 (-1)] 99 (0, 0)) := blk_new _ _ _ rfl
  have hact := hR3.act.alloc (.cells #[.int .i64 k, .int .i64 (-1)] 99)
  rw [show (A ++ [(⟨(k : Int), endO o⟩ : Dd)]).length = q + 1 by simp [HQ.out]] at hact
  obtain ⟨g4, c4, w4, hr4, ho4, hk4, hm4⟩ := wh_more base (.slice (some ⟨gA, 0, none⟩) (q + 1) cap) (A ++ [⟨k, endO o⟩]) ⟨k, -1⟩ (q + 1) 95 _ (by simp [HQ.out]) hact (by simp; omega) (by omega) hbn
  have hR4 := hR3.more (Keeps.alloc None w3 (.cells #[.int .i64 k, .int .i64 (-1)] 99))
  have nR : R ≠ gA := hR3.ne2
  have nN : gN ≠ gA := hR3.ne3
  have hkR := blk_kept hR4.blk hk4 (fun e => by simp [Value.ownBlock] at e; exact nR e.symm)
  have hkN := blk_kept hR4.nums hk4 (fun e => by simp [Value.ownBlock] at e; exact nN e.symm)
  have r5 : w4.cell? ⟨R, 1, none⟩ = some (.slice (some ⟨gA, 0, none⟩) (q + 1) cap) := (cell_of_heap hkR 1).trans (by rw [show (A ++ [(⟨(k : Int), endO o⟩ : Dd)]).length = q + 1 by simp [HQ.out]]; rfl)
  have f5 := blk_free hkR 1
  have hne : g4 ≠ R := by
    intro e
    obtain ⟨cur, hc⟩ := own_block ho4 rfl
    rw [e, hkR] at hc
    injection hc with hc
    injection hc with _ hc
    revert hc
    decide
  have HN : Hid (RowM (w4.setCell ⟨R, 1, none⟩ (.slice (some ⟨g4, 0, none⟩) (q + 2) c4)) base R n (upd (upd N k (N l)) l k) (A ++ [⟨k, endO o⟩, ⟨k, -1⟩]) gN g4 c4 ∧ Keeps (fun i => base ≤ i) w (w4.setCell ⟨R, 1, none⟩ (.slice (some ⟨g4, 0, none⟩) (q + 2) c4))) := by
    have hk5 : Keeps (· = R) w4 (w4.setCell ⟨R, 1, none⟩ (.slice (some ⟨g4, 0, none⟩) (q + 2) c4)) := keeps_one (Keeps.refl _ _) _
    have b5 := blk_set (i := 1) hkR (.slice (some ⟨g4, 0, none⟩) (q + 2) c4)
    have hl5 : ((A ++ [⟨k, endO o⟩, ⟨k, -1⟩]) : List Dd).length = q + 2 := by simp [HQ.out]
    refine ⟨⟨by rw [b5, hl5]; simp, blk_kept hkN hk5 (fun e => hR3.ne1 e.symm), ?_, hR3.lowR, hR3.lowN⟩, ((hk3.andAlloc _).trans hk4 (fun i e _ => by simp [Value.ownBlock] at e; omega)).trans hk5 (fun i e _ => by have := hR3.lowR; omega)⟩
    rw [hl5]
    have := row_kept ho4 hk5 (fun g e => by simp [Value.ownBlock] at e; subst e; exact hne)
    rwa [List.append_assoc] at this
  clear hR3 hk3 b3 hbn hact ho4 hk4 hm4 hR4 hkR hkN hR2 hk2
  clear hlow nR nN hne hs3 hw2 hw1 q1
  go_wp2_with (at_builtin; refine wpList_append_run rfl (.tmp 78) (.tmp 81) 95 95 rfl rfl rfl hr4 ?_)
  go_end0
  exact ⟨rfl, ⟨_, _, HN.out.1⟩, HN.out.2⟩
set_option maxHeartbeats 4000000 in
theorem add_3 (w : World) (base R n gN gA cap k l : Nat) (o : Option Nat) (kd : Int) (N : Nat → Int) (A : List Dd)  (h : RowM w base R n N (A ++ [⟨l, endO o⟩]) gN gA cap) (hA : A.length ≤ 4999) (hk : k < n) (hn : n ≤ 4096) (hl : l ≤ n) (h0 : ¬ kd = 0) (h1 : ¬ kd = 1) (h2 : ¬ kd = 2) (hb : base ≤ w.heap.size) :
    Calls Try.prog 43 #[.pointer (some ⟨R, 0, none⟩), .int .i64 k, .int .i64 kd] w fun e w' => e = .returned (.tuple #[]) ∧ (∃ gA' cap', RowM w' base R n (upd (upd N k (N l)) l k) (A ++ [⟨k, endO o⟩]) gN gA' cap') ∧ Keeps (fun i => base ≤ i) w w' := by
  have HM : Hid (RowM w base R n N (A ++ [⟨l, endO o⟩]) gN gA cap) := h
  obtain ⟨q, hq⟩ : ∃ q, q = A.length := ⟨_, rfl⟩
  have HQ : Hid (q = A.length) := hq
  obtain ⟨⟨u0, u1⟩, hf, hc⟩ := h.top
  rw [← hq] at u0 u1 hc hA
  have b1 := h.blk
  have hlen : (A ++ [(⟨l, endO o⟩ : Dd)]).length = q + 1 := by simp [hq]
  rw [hlen] at b1
  have r0 : w.cell? ⟨R, 0, none⟩ = some (.slice (some ⟨gN, 0, none⟩) (n + 1) (n + 1)) := cell_of_heap b1 0
  have r1 : w.cell? ⟨R, 1, none⟩ = some (.slice (some ⟨gA, 0, none⟩) (q + 1) cap) := cell_of_heap b1 1
  have hw1 : IntKind.i64.wrap (q : Int) = (q : Int) := by rw [IntWalk.i64_left]; unfold wrap64; omega
  have hw2 : IntKind.i64.wrap (((q + 1 : Nat) : Int) - 1) = (q : Int) := by rw [IntWalk.i64_left]; unfold wrap64; omega
  have q1 : (q : Int) < ((q + 1 : Nat) : Int) := by omega
  clear h b1 hlen hq
  go_enter Try.func43, Try.ntmps43
  go_wp2_with fail
  go_cut [6] (fun s6 wx => s6 = .pointer (some ⟨gA, q * 2, none⟩) ∧ wx = w.drew)
  case first =>
    go_region
    go_wp2_with fail
    go_meet
    exact ⟨rfl, rfl⟩
  case rest =>
  obtain ⟨rfl, hwc⟩ := hcut
  have hwc' := hwc.symm
  subst hwc'
  have v0 : w.drew.cell? ⟨gA, q * 2, none⟩ = some (.int .i64 l) := u0
  have v1 : w.drew.cell? ⟨gA, q * 2 + 1, none⟩ = some (.int .i64 (endO o)) := u1
  have f0 : w.drew.frozen? ⟨gA, q * 2, none⟩ = false := hf _
  have f1 : w.drew.frozen? ⟨gA, q * 2 + 1, none⟩ = false := hf _
  clear r0 r1 u0 u1 hf
  go_upto_region 3 with fail
  have hR : RowM w base R n N (A ++ [⟨l, endO o⟩]) gN gA cap ∧ Keeps (fun i => base ≤ i) w w := ⟨HM.out, Keeps.refl _ _⟩
  obtain ⟨w1, hw⟩ : ∃ w1, w1 = w.drew := ⟨_, rfl⟩
  have hR1 : RowM w1 base R n N (A ++ [⟨l, endO o⟩]) gN gA cap ∧ Keeps (fun i => base ≤ i) w w1 := by rw [hw]; exact ⟨hR.1.more (Keeps.drew None _), hR.2.andDrew⟩
  rw [← hw]
  obtain ⟨⟨u0, u1⟩, hf, _⟩ := hR1.1.top
  rw [← HQ.out] at u0 u1
  have r0 : w1.cell? ⟨R, 0, none⟩ = some (.slice (some ⟨gN, 0, none⟩) (n + 1) (n + 1)) := cell_of_heap hR1.1.blk 0
  have nb : w1.cell? ⟨gN, l, none⟩ = some (.int .i64 (N l)) := (cell_of_heap hR1.1.nums _).trans (nums_at _ _ (by omega))
  have nk : w1.cell? ⟨gN, k, none⟩ = some (.int .i64 (N k)) := (cell_of_heap hR1.1.nums _).trans (nums_at _ _ (by omega))
  have g0 := blk_free hR1.1.nums k
  have g1 := blk_free hR1.1.nums l
  have i0 : (k : Int) < ((n + 1 : Nat) : Int) := by omega
  have i1 : (l : Int) < ((n + 1 : Nat) : Int) := by omega
  have i2 : k < n + 1 := by omega
  have i3 : l < n + 1 := by omega
  have hP := (hR1.1.putN k (N l)).1
  have nb2 : (w1.setCell ⟨gN, k, none⟩ (.int .i64 (N l))).cell? ⟨gN, l, none⟩ = some (.int .i64 (N l)) := (cell_of_heap hP.nums _).trans ((nums_at _ _ (by omega)).trans (by unfold upd; split <;> rfl))
  have g2 := blk_free hP.nums l
  have nb3 : (w1.setCell ⟨gN, k, none⟩ (.int .i64 (N l))).drew.cell? ⟨gN, l, none⟩ = some (.int .i64 (N l)) := nb2
  have g3 : (w1.setCell ⟨gN, k, none⟩ (.int .i64 (N l))).drew.frozen? ⟨gN, l, none⟩ = false := g2
  have HR1 : Hid _ := hR1
  clear hR hR1 hw v0 v1 f0 f1 HM hf hP
  have HI : Hid (∀ w2 : World, w2 = ((w1.setCell ⟨gN, k, none⟩ (.int .i64 (N l))).setCell ⟨gN, l, none⟩ (.int .i64 k)) → RowM w2.drew base R n (upd (upd N k (N l)) l k) (A ++ [⟨l, endO o⟩]) gN gA cap ∧ Keeps (fun i => base ≤ i) w w2.drew) := by
    intro w2 e
    have h1 := HR1.out.1.putN k (N l)
    have h2 := h1.1.putN l k
    rw [e]
    exact ⟨h2.1.more (Keeps.drew None _), ((HR1.out.2.trans h1.2 (fun _ e _ => e)).trans h2.2 (fun _ e _ => e)).andDrew⟩
  go_cut [6] (fun s6 wx => s6 = .pointer (some ⟨gA, q * 2, none⟩) ∧ RowM wx base R n (upd (upd N k (N l)) l k) (A ++ [⟨l, endO o⟩]) gN gA cap ∧ Keeps (fun i => base ≤ i) w wx)
  case first =>
    go_region
    go_wp2_with fail
    go_meet
    exact ⟨rfl, HI.out _ rfl⟩
  case rest =>
  obtain ⟨rfl, hR2, hk2⟩ := hcut
  obtain ⟨w2, hw2⟩ : ∃ w2, w2 = wc := ⟨_, rfl⟩
  rw [← hw2] at hR2 hk2 ⊢
  clear hw2 HI HR1 r0 nb nk g0 g1 u0 u1 nb2 nb3 g2 g3
  obtain ⟨⟨u0, u1⟩, hf, _⟩ := hR2.top
  rw [← HQ.out] at u0 u1
  have f0 := hf (q * 2)
  have hR3 := hR2.putK k
  rw [← HQ.out] at hR3
  clear hf
  go_upto_region 5 with fail
  obtain ⟨w3, hw3⟩ : ∃ w3, w3 = w2.setCell ⟨gA, q * 2, none⟩ (.int .i64 k) := ⟨_, rfl⟩
  rw [← hw3] at hR3
  rw [← hw3]
  clear hw3 u0 u1 f0
  have HN : Hid _ := hR3
  have HK : Hid _ := hk2.trans hR3.2 (fun _ e _ => e)
  clear hR2 hk2 hR3
  go_wp2
  go_end0
  exact ⟨rfl, ⟨_, _, HN.out.1⟩, HK.out⟩
end Go.Proofs.Ytolhojagbiaamab
/-! The whole row. -/
namespace Go.Proofs.Ytolhojagbiaamab
set_option linter.unusedVariables false
set_option maxRecDepth 20000
set_option linter.unusedSimpArgs false
open Go.RowKit Go.HeapKit

/-- The row behind the first k deeds. -/
def RowK (w : World) (base R n : Nat) (ds : List Dd) (k : Nat) : Prop := ∃ N gN gA cap, RowM w base R n N (actL n (stN ds k)) gN gA cap ∧ Lnk N (n :: Lof (stN ds k))
theorem RowK.more {w w' : World} {base R n k : Nat} {ds : List Dd} (h : RowK w base R n ds k) (hk : Keeps None w w') : RowK w' base R n ds k := by
  obtain ⟨N, gN, gA, cap, h1, h2⟩ := h
  exact ⟨N, gN, gA, cap, h1.more hk, h2⟩
theorem endE_loc (p : Dd) (k : Nat) (v : Int) : endE ⟨v, p.loc⟩ k = endE p k := rfl
theorem add_any (w : World) (base R n k : Nat) (ds : List Dd) (x : Dd) (hx : ds[k]? = some x) (hf : Fine ds) (hn : n = ds.length) (hn2 : n ≤ 4096) (h : RowK w base R n ds k) (hb : base ≤ w.heap.size) :
    Calls Try.prog 43 #[.pointer (some ⟨R, 0, none⟩), .int .i64 k, .int .i64 x.k] w fun e w' => e = .returned (.tuple #[]) ∧ RowK w' base R n ds (k + 1) ∧ Keeps (fun i => base ≤ i) w w' := by
  have hk : k < n := by rw [hn]; exact (List.getElem?_eq_some_iff.1 hx).1
  obtain ⟨d, hd1, hd2, hI⟩ := hf.at k (by omega)
  obtain ⟨N, gN, gA, cap, hR, hL⟩ := h
  rw [chkL_step hx] at hd2
  have hbad : badK x.k d = false := by
    cases hb : badK x.k d with
    | false => rfl
    | true => rw [if_pos hb] at hd2; cases hd2
  have hle := st_le ds k
  have hs' : stN ds (k + 1) = stepT k x.k (stN ds k) := by show stepT k ((ds.getD k ⟨3, 0⟩).k) (stN ds k) = _; rw [getD_of hx]
  have hnd : (n :: Lof (stN ds k)).Nodup := List.nodup_cons.2 ⟨fun h => by have := (hI.all n).1 h; omega, hI.nd⟩
  have hkn : k ∉ n :: Lof (stN ds k) := fun h => by
    rcases List.mem_cons.1 h with h | h
    · omega
    · have := (hI.all k).1 h; omega
  cases hs : stN ds k with
  | nil => rw [hs] at hd1; simp at hd1
  | cons t r =>
    rw [hs] at hR hL hs' hd1 hle hnd hkn
    have hall : ∀ a, a ∈ Cof (t :: r) ++ Oof (t :: r) → a < k := fun a ha => (hI.all a).1 (by rw [hs]; exact ha)
    have hlast : lastN n (t :: r) ≤ n := by
      unfold lastN
      cases hl : (Cof (t :: r)).getLast? with
      | none => exact Nat.le_refl _
      | some b => have := hall b (List.mem_append.2 (.inl (List.mem_of_getLast? hl))); simp; omega
    have hlO : ∀ b, t.O.getLast? = some b → b ≤ n := fun b hb => by
      have := hall b (List.mem_append.2 (.inr (List.mem_append.2 (.inl (List.mem_of_getLast? hb))))); omega
    have hAl : (actL n r).length ≤ 4098 := by rw [act_len]; simp at hle; omega
    have fin : ∀ N' acts, (Lnk N' (n :: Lof (stepT k x.k (t :: r))) ∧ acts = actL n (stepT k x.k (t :: r))) → ∀ (e : Ending) (w' : World), (e = .returned (.tuple #[]) ∧ (∃ gA' cap', RowM w' base R n N' acts gN gA' cap') ∧ Keeps (fun i => base ≤ i) w w') → (e = .returned (.tuple #[]) ∧ RowK w' base R n ds (k + 1) ∧ Keeps (fun i => base ≤ i) w w') := by
      rintro N' acts ⟨h1, rfl⟩ e w' ⟨h2, ⟨gA', cap', h3⟩, h4⟩
      exact ⟨h2, ⟨N', gN, gA', cap', by rw [hs']; exact h3, by rw [hs']; exact h1⟩, h4⟩
    by_cases k0 : x.k = 0
    · rw [k0] at fin ⊢
      refine (add_0 w base R n gN gA cap k (lastN n (t :: r)) t.O.getLast? N (actL n r) hR (by omega) hk hn2 hlast hb).mono (fin _ _ ⟨?_, ?_⟩)
      · rw [st0]
        have := lnk_behind (X := Cof (t :: r)) (Y := Oof (t :: r)) hnd hkn hL
        have e : Lof (⟨[], [], []⟩ :: ⟨t.P ++ [k], t.O, t.Out⟩ :: r) = Cof (t :: r) ++ k :: Oof (t :: r) := by simp [Lof, Cof, Oof]
        rw [e]; exact this
      · rw [st0]
        simp [actL, lastN, Cof, endO]
    · by_cases k1 : x.k = 1
      · rw [k1] at fin hbad ⊢
        have hd0 : d ≠ 0 := fun e => by subst e; revert hbad; decide
        obtain ⟨u, r', rfl⟩ : ∃ u r', r = u :: r' := by
          cases r with
          | nil => simp at hd1; omega
          | cons u r' => exact ⟨u, r', rfl⟩
        have hX := last_two (Cof (t :: u :: r')) t.O n
        have hlk := lnk_behind (X := Cof (t :: u :: r') ++ t.O) (Y := Oof (u :: r')) (N := N) (n := n) (k := k) (by simpa [Lof, Oof] using hnd) (by simpa [Lof, Oof] using hkn) (by simpa [Lof, Oof] using hL)
        have e : Lof (⟨u.P, (t.P ++ t.O ++ [k]) ++ u.O, u.Out ++ [k]⟩ :: r') = (Cof (t :: u :: r') ++ t.O) ++ k :: Oof (u :: r') := by simp [Lof, Cof, Oof]
        have ea : actL n r' ++ [⟨lastN n (u :: r'), endE ⟨lastN n (u :: r'), endO u.O.getLast?⟩ k⟩] = actL n (⟨u.P, (t.P ++ t.O ++ [k]) ++ u.O, u.Out ++ [k]⟩ :: r') := by
          have := end_ret t u k
          rw [show endE ⟨((lastN n (u :: r') : Nat) : Int), endO u.O.getLast?⟩ k = endE ⟨0, endO u.O.getLast?⟩ k from rfl, this]
          rfl
        have hA2 : (actL n r' ++ [(⟨lastN n (u :: r'), endO u.O.getLast?⟩ : Dd)]).length ≤ 4999 := by
          have : (actL n (u :: r')).length ≤ 4098 := hAl
          exact Nat.le_trans this (by omega)
        cases ho : t.O.getLast? with
        | none =>
          have hR' : RowM w base R n N ((actL n r' ++ [⟨lastN n (u :: r'), endO u.O.getLast?⟩]) ++ [⟨lastN n (t :: u :: r'), endO none⟩]) gN gA cap := by rw [← ho]; exact hR
          refine (add_1n w base R n gN gA cap k (lastN n (t :: u :: r')) N (actL n r') ⟨lastN n (u :: r'), endO u.O.getLast?⟩ hR' hA2 hk hn2 hlast hb).mono (fin _ _ ⟨?_, ?_⟩)
          · rw [st1, e]
            rw [ho] at hX
            have e2 : (Cof (t :: u :: r') ++ t.O).getLast?.getD n = lastN n (t :: u :: r') := hX.symm
            rw [e2] at hlk
            exact hlk
          · rw [st1]; exact ea
        | some q =>
          have hR' : RowM w base R n N ((actL n r' ++ [⟨lastN n (u :: r'), endO u.O.getLast?⟩]) ++ [⟨lastN n (t :: u :: r'), endO (some q)⟩]) gN gA cap := by rw [← ho]; exact hR
          refine (add_1s w base R n gN gA cap k (lastN n (t :: u :: r')) q N (actL n r') ⟨lastN n (u :: r'), endO u.O.getLast?⟩ hR' hA2 hk hn2 hlast (hlO q ho) hb).mono (fin _ _ ⟨?_, ?_⟩)
          · rw [st1, e]
            rw [ho] at hX
            have e2 : (Cof (t :: u :: r') ++ t.O).getLast?.getD n = q := hX.symm
            rw [e2] at hlk
            exact hlk
          · rw [st1]; exact ea
      · by_cases k2 : x.k = 2
        · rw [k2] at fin ⊢
          have hX := last_two (Cof (t :: r)) t.O n
          have hlk := lnk_behind (X := Cof (t :: r) ++ t.O) (Y := Oof r) (N := N) (n := n) (k := k) (by simpa [Lof, Oof] using hnd) (by simpa [Lof, Oof] using hkn) (by simpa [Lof, Oof] using hL)
          have e : Lof (⟨t.P ++ t.O ++ [k], [], []⟩ :: r) = (Cof (t :: r) ++ t.O) ++ k :: Oof r := by simp [Lof, Cof, Oof]
          have ea : actL n r ++ [⟨(k : Int), -1⟩] = actL n (⟨t.P ++ t.O ++ [k], [], []⟩ :: r) := by simp [actL, lastN, Cof, endO]
          cases ho : t.O.getLast? with
          | none =>
            have hR' : RowM w base R n N (actL n r ++ [⟨lastN n (t :: r), endO none⟩]) gN gA cap := by rw [← ho]; exact hR
            refine (add_2n w base R n gN gA cap k (lastN n (t :: r)) N (actL n r) hR' (by omega) hk hn2 hlast hb).mono (fin _ _ ⟨?_, ?_⟩)
            · rw [st2, e]
              rw [ho] at hX
              have e2 : (Cof (t :: r) ++ t.O).getLast?.getD n = lastN n (t :: r) := hX.symm
              rw [e2] at hlk
              exact hlk
            · rw [st2]; exact ea
          | some q =>
            have hR' : RowM w base R n N (actL n r ++ [⟨lastN n (t :: r), endO (some q)⟩]) gN gA cap := by rw [← ho]; exact hR
            refine (add_2s w base R n gN gA cap k (lastN n (t :: r)) q N (actL n r) hR' (by omega) hk hn2 hlast (hlO q ho) hb).mono (fin _ _ ⟨?_, ?_⟩)
            · rw [st2, e]
              rw [ho] at hX
              have e2 : (Cof (t :: r) ++ t.O).getLast?.getD n = q := hX.symm
              rw [e2] at hlk
              exact hlk
            · rw [st2]; exact ea
        · refine (add_3 w base R n gN gA cap k (lastN n (t :: r)) t.O.getLast? x.k N (actL n r) hR (by omega) hk hn2 hlast k0 k1 k2 hb).mono (fin _ _ ⟨?_, ?_⟩)
          · rw [st3 _ _ _ _ k0 k1 k2]
            have := lnk_behind (X := Cof (t :: r)) (Y := Oof (t :: r)) hnd hkn hL
            have e : Lof (⟨t.P ++ [k], t.O, t.Out⟩ :: r) = Cof (t :: r) ++ k :: Oof (t :: r) := by simp [Lof, Cof, Oof]
            rw [e]; exact this
          · rw [st3 _ _ _ _ k0 k1 k2]
            simp [actL, lastN, Cof, endO]
end Go.Proofs.Ytolhojagbiaamab
/-! A new row; its order; parentsFirst, swapped. -/
namespace Go.Proofs.Ytolhojagbiaamab
set_option linter.unusedVariables false
set_option maxRecDepth 20000
set_option linter.unusedSimpArgs false
open Go.RowKit Go.HeapKit

def ivN (l : List Nat) : List Value := l.map (fun a : Nat => Value.int .i64 (a : Int))
theorem ivN_len (l : List Nat) : (ivN l).length = l.length := by simp [ivN]
theorem Try.infoIntR : (Try.prog.info? 3).map (fun i => (i.zero, i.size, i.bytes)) = some (some (.int .i64 0), 1, 8) := by kernel_rfl
/-- 'append(l, x)' of a number. -/
theorem int_more (base : Nat) (s : Value) (l : List Nat) (x : Nat) (n ty : Nat) (w : World) (hn : n = l.length) (h : w.ownsRow base 3 1 s n (ivN l)) (hb : base ≤ w.heap.size) (hlen : (n + 1) * 8 ≤ 140737488355328) {g0 : Nat}
    (hg0 : w.heap[g0]? = some (.cells #[.int .i64 x] 3 (0, 0))) :
    ∃ g cap w', (Builtin.append_ #[35, 35] ty #[s, .slice (some ⟨g0, 0, none⟩) 1 1]).run Try.prog w = .ok (.slice (some ⟨g, 0, none⟩) (n + 1) cap) w' ∧
      w'.ownsRow base 3 1 (.slice (some ⟨g, 0, none⟩) (n + 1) cap) (n + 1) (ivN (l ++ [x])) ∧ Keeps (fun k => s.ownBlock = some k) w w' ∧ (s.ownBlock = some g ∨ w.heap.size ≤ g) := by
  obtain ⟨i0, hi, hz0, hz1, hz2⟩ := info_parts Try.infoIntR
  obtain ⟨v', w1, hr, ho, hgr, hm, -⟩ := run_append_moved (P := Try.prog) w base 35 ty 3 i0 _ 1 8 Try.underlying35 hi hz0 hz1 hz2 rfl (by decide) s n _ h
    ⟨g0, 0, none⟩ 1 1 [.int .i64 x] rfl (by
      intro j u hu
      rw [show (⟨g0, 0, none⟩ : Addr).add j = ⟨g0, j, none⟩ by unfold Addr.add; split <;> simp_all, blk_cell hg0]
      simpa using hu) (by
      intro u hu
      simp at hu
      subst hu; rfl) (by unfold maxLen; omega) hlen hb
  obtain ⟨g, cap, rfl⟩ : ∃ g cap, v' = .slice (some ⟨g, 0, none⟩) (n + 1) cap := by
    rcases ho.2 with ⟨_, h0⟩ | ⟨b, cap, cur, rfl, _⟩
    · omega
    · exact ⟨b, cap, rfl⟩
  refine ⟨g, cap, w1, hr, by simpa [ivN] using ho, (Keeps.refl _ w).andGrown hgr (fun k e => .inl e), ?_⟩
  rcases hm with hm | ⟨g', e, hg⟩
  · exact .inl (hm.symm.trans rfl)
  · simp [Value.ownBlock] at e; exact .inr (by omega)
theorem made_nums (n : Nat) : madeCells (Value.int .i64 0).cells n = numsA n (fun _ => 0) := by
  have hz : (Value.int .i64 0).cells = #[.int .i64 0] := by kernel_rfl
  rw [hz]
  apply Array.ext
  · simp [madeCells, numsA]
  · intro i h1 h2
    simp [madeCells, Nat.mod_one, numsA]
theorem make_nums (n c : Nat) (hnc : n ≤ c) (w : World) (hn : c ≤ 4097) : (Instr.makeSlice 35 (.int .i64 n) (.int .i64 c)).run Try.prog w = .ok (.slice (some ⟨w.heap.size, 0, none⟩) n c) (w.alloc (.cells (numsA c (fun _ => 0)) 3)) := by
  obtain ⟨i0, hi, hz0, hz1, hz2⟩ := info_parts Try.infoIntR
  have h := run_make (P := Try.prog) w 35 3 i0 _ Try.underlying35 hi hz0 .i64 .i64 n c (by omega) (by omega) (by rw [hz2]; omega) (by omega)
  rw [h, hz1]
  simp [made_nums]
set_option maxHeartbeats 1600000 in
theorem newRow_ok (n : Nat) (ds : List Dd) (w : World) (hn : n ≤ 4096) :
    Calls Try.prog 42 #[.int .i64 n] w fun e w' => ∃ R, e = .returned (.pointer (some ⟨R, 0, none⟩)) ∧ RowK w' w.heap.size R n ds 0 ∧ Keeps None w w' := by
  have hmk := make_nums (n + 1) (n + 1) (Nat.le_refl _) w (by omega)
  have hw1 : wrap64 ((n : Int) + 1) = ((n + 1 : Nat) : Int) := by unfold wrap64; omega
  obtain ⟨w1, hw1e⟩ : ∃ w1, w1 = w.alloc (.cells (numsA (n + 1) (fun _ => 0)) 3) := ⟨_, rfl⟩
  rw [← hw1e] at hmk
  have b1 : w1.heap[w.heap.size]? = some (.cells (numsA (n + 1) (fun _ => 0)) 3 (0, 0)) := by rw [hw1e]; exact heap_alloc_new _ _
  have s1 : w1.heap.size = w.heap.size + 1 := by rw [hw1e]; simp
  have k1 : Keeps None w w1 := by rw [hw1e]; exact Keeps.alloc None w _
  clear hw1e
  have HB1 : Hid (w1.heap[w.heap.size]? = some (.cells (numsA (n + 1) (fun _ => 0)) 3 (0, 0)) ∧ Keeps None w w1) := ⟨b1, k1⟩
  clear b1 k1
  go_enter Try.func42, Try.ntmps42
  go_upto_region 2 with (at_make; refine wpList_make_run rfl (.tmp 5) (.tmp 5) 35 rfl rfl rfl hmk ?_)
  obtain ⟨w2, hw2⟩ : ∃ w2, w2 = w1.alloc (.cells #[.slice (some ⟨w.heap.size, 0, none⟩) (n + 1) (n + 1), .slice none 0 0] 97) := ⟨_, rfl⟩
  rw [← hw2]
  have b2 : w2.heap[w1.heap.size]? = some (.cells #[.slice (some ⟨w.heap.size, 0, none⟩) (n + 1) (n + 1), .slice none 0 0] 97 (0, 0)) := by rw [hw2]; exact heap_alloc_new _ _
  have k2 : Keeps None w1 w2 := by rw [hw2]; exact Keeps.alloc None w1 _
  have n2 := blk_kept HB1.out.1 k2 (fun f => f)
  have kk2 := HB1.out.2.trans k2 (fun _ f _ => f)
  rw [s1] at b2
  obtain ⟨R, hR⟩ : ∃ R, R = w.heap.size + 1 := ⟨_, rfl⟩
  obtain ⟨G, hG⟩ : ∃ G, G = w.heap.size := ⟨_, rfl⟩
  rw [← hR] at b2 ⊢
  rw [← hG] at b2 n2 ⊢
  have HG : Hid (G = w.heap.size) := hG
  have hGR : G < R := by omega
  have r0 : w2.cell? ⟨R, 0, none⟩ = some (.slice (some ⟨G, 0, none⟩) (n + 1) (n + 1)) := cell_of_heap b2 0
  have g0 : w2.cell? ⟨G, n, none⟩ = some (.int .i64 0) := (cell_of_heap n2 n).trans (nums_at _ _ (by omega))
  have f0 := blk_free n2 n
  have i0 : (n : Int) < ((n + 1 : Nat) : Int) := by omega
  have i1 : n < n + 1 := by omega
  have hk3 : Keeps (· = G) w2 (w2.setCell ⟨G, n, none⟩ (.int .i64 (-1))) := keeps_one (Keeps.refl _ _) _
  have n3 := blk_set (i := n) n2 (.int .i64 (-1))
  rw [nums_set] at n3
  have b3 := blk_kept b2 hk3 (by omega)
  have kk3 : Keeps None w (w2.setCell ⟨G, n, none⟩ (.int .i64 (-1))) := kk2.trans hk3 (fun i e hi => by omega)
  have s3 : G ≤ w2.heap.size := by have := kk2.size; omega
  clear hw2 b2 n2 k2 kk2 hk3 HB1 hmk s1 hG hR hw1
  go_upto_region 3 with fail
  obtain ⟨w3, hw3⟩ : ∃ w3, w3 = w2.setCell ⟨G, n, none⟩ (.int .i64 (-1)) := ⟨_, rfl⟩
  rw [← hw3] at n3 b3 kk3
  rw [← hw3]
  have s4 : G ≤ w3.heap.size := by have := kk3.size; have := blk_lt n3; omega
  clear hw3 r0 g0 f0 s3
  have r1 : w3.cell? ⟨R, 1, none⟩ = some (.slice none 0 0) := cell_of_heap b3 1
  have hbn : (w3.alloc (.cells #[.int .i64 n, .int .i64 (-1)] 99)).heap[w3.heap.size]? = some (.cells #[.int .i64 n, .int .i64 (-1)] 99 (0, 0)) := blk_new _ _ _ rfl
  obtain ⟨g4, c4, w4, hr4, ho4, hk4, hm4⟩ := wh_more G (.slice none 0 0) [] ⟨n, -1⟩ 0 95 _ rfl (row_nil (w3.alloc (.cells #[.int .i64 n, .int .i64 (-1)] 99)) G 99 2) (by simp; omega) (by omega) hbn
  have kA := Keeps.alloc None w3 (.cells #[.int .i64 n, .int .i64 (-1)] 99)
  have k4 : Keeps None w3 w4 := kA.trans hk4 (fun i e _ => by simp [Value.ownBlock] at e)
  have b4 := blk_kept b3 k4 (fun f => f)
  have n4 := blk_kept n3 k4 (fun f => f)
  have r5 : w4.cell? ⟨R, 1, none⟩ = some (.slice none 0 0) := cell_of_heap b4 1
  have f5 := blk_free b4 1
  have hne : g4 ≠ R := by
    intro e
    obtain ⟨cur, hc⟩ := own_block ho4 rfl
    rw [e, b4] at hc
    injection hc with hc
    injection hc with _ hc
    revert hc
    decide
  have HN : Hid (RowK (w4.setCell ⟨R, 1, none⟩ (.slice (some ⟨g4, 0, none⟩) 1 c4)) G R n ds 0 ∧ Keeps None w (w4.setCell ⟨R, 1, none⟩ (.slice (some ⟨g4, 0, none⟩) 1 c4))) := by
    have hk5 : Keeps (· = R) w4 (w4.setCell ⟨R, 1, none⟩ (.slice (some ⟨g4, 0, none⟩) 1 c4)) := keeps_one (Keeps.refl _ _) _
    have b5 := blk_set (i := 1) b4 (.slice (some ⟨g4, 0, none⟩) 1 c4)
    refine ⟨⟨upd (fun _ => 0) n (-1), G, g4, c4, ⟨?_, blk_kept n4 hk5 (by omega), row_kept ho4 hk5 (fun g e => by simp [Value.ownBlock] at e; subst e; exact hne), by omega, Nat.le_refl _⟩, ?_⟩, (kk3.trans k4 (fun _ f _ => f)).trans hk5 (fun i e hi => by have := HG.out; omega)⟩
    · rw [b5]; rfl
    · show upd (fun _ => 0) n (-1) n = -1
      exact upd_eq _ _ _
  clear hm4 hk4 ho4 hbn n3 b3 kk3 kA k4 b4 n4 hne
  go_wp2_with (at_builtin; refine wpList_append_run rfl (.tmp 19) (.tmp 22) 95 95 rfl rfl rfl hr4 ?_)
  go_ret
  rw [← HG.out]
  exact ⟨_, rfl, HN.out⟩
/-- The j-th link. -/
theorem lnk_at {N : Nat → Int} : ∀ {M : List Nat} {j a : Nat}, Lnk N M → M[j]? = some a → N a = match M[j + 1]? with | some b => (b : Int) | none => -1
  | [], j, a, _, h => by simp at h
  | [x], j, a, hl, h => by
    cases j with
    | zero => simp at h; subst h; exact hl
    | succ j => simp at h
  | x :: y :: r, j, a, hl, h => by
    cases j with
    | zero => simp at h; subst h; simpa using hl.1
    | succ j => exact lnk_at (M := y :: r) (j := j) hl.2 (by simpa using h)
def lenOf : Value → Nat
  | .slice _ n _ => n
  | _ => 0
set_option maxHeartbeats 1600000 in
theorem order_ok (w : World) (base R n gN gA cap : Nat) (N : Nat → Int) (acts : List Dd) (L : List Nat) (h : RowM w base R n N acts gN gA cap) (hL : Lnk N (n :: L)) (hl : L.length = n) (hall : ∀ a ∈ L, a < n) (hn : n ≤ 4096) :
    Calls Try.prog 44 #[.pointer (some ⟨R, 0, none⟩)] w fun e w' => ∃ g c, e = .returned (.slice (some ⟨g, 0, none⟩) n c) ∧ w'.ownsRow w.heap.size 3 1 (.slice (some ⟨g, 0, none⟩) n c) n (ivN L) ∧ Keeps None w w' := by
  have HM : Hid (RowM w base R n N acts gN gA cap) := h
  have HL : Hid (Lnk N (n :: L) ∧ L.length = n ∧ ∀ a ∈ L, a < n) := ⟨hL, hl, hall⟩
  have hmk := make_nums 0 n (Nat.zero_le _) w (by omega)
  have r0 : w.cell? ⟨R, 0, none⟩ = some (.slice (some ⟨gN, 0, none⟩) (n + 1) (n + 1)) := cell_of_heap h.blk 0
  have hw1 : wrap64 (((n + 1 : Nat) : Int) - 1) = (n : Int) := by unfold wrap64; omega
  have hk1 := Keeps.alloc None w (.cells (numsA n (fun _ => 0)) 3)
  have hr1 : (w.alloc (.cells (numsA n (fun _ => 0)) 3)).ownsRow w.heap.size 3 1 (.slice (some ⟨w.heap.size, 0, none⟩) 0 n) 0 (ivN []) :=
    ⟨rfl, .inr ⟨_, _, _, rfl, Nat.le_refl _, blk_new _ _ _ rfl, Nat.zero_le _, by unfold maxLen; omega, by simp [numsA], by simp [ivN]⟩⟩
  obtain ⟨w1, hw1e⟩ : ∃ w1, w1 = w.alloc (.cells (numsA n (fun _ => 0)) 3) := ⟨_, rfl⟩
  rw [← hw1e] at hmk hk1 hr1
  have r1 := hk1.cell r0 (fun f => f)
  have nb : w1.cell? ⟨gN, n, none⟩ = some (.int .i64 (N n)) := (cell_of_heap (h.more hk1).nums _).trans (nums_at _ _ (by omega))
  have i0 : (n : Int) < ((n + 1 : Nat) : Int) := by omega
  have i1 : n < n + 1 := by omega
  have H1 : Hid (w1.ownsRow w.heap.size 3 1 (.slice (some ⟨w.heap.size, 0, none⟩) 0 n) 0 (ivN []) ∧ Keeps None w w1) := ⟨hr1, hk1⟩
  clear h hL hl hall hw1e hk1 hr1
  have hmk' : (Instr.makeSlice 35 (.int .i64 0) (.int .i64 n)).run Try.prog w = .ok (.slice (some ⟨w.heap.size, 0, none⟩) 0 n) w1 := hmk
  clear hmk
  go_enter Try.func44, Try.ntmps44
  go_wp2_with (at_make; refine wpList_make_run rfl (.const (.int .i64 0)) (.tmp 12) 35 rfl rfl rfl hmk' ?_)
  clear hmk' nb r1
  go_loopw [4, 5] (fun s4 s5 wr => ∃ (j a : Nat), j ≤ n ∧ (n :: L)[j]? = some a ∧ s5 = .int .i64 (N a) ∧ wr.ownsRow w.heap.size 3 1 s4 j (ivN (L.take j)) ∧ Keeps None w wr ∧ ∃ g c, s4 = .slice (some ⟨g, 0, none⟩) j c) (fun s4 _ _ => n - lenOf s4)
  case atStart => exact ⟨0, n, Nat.zero_le _, rfl, rfl, H1.out.1, H1.out.2, _, _, rfl⟩
  case round =>
    clear H1
    obtain ⟨j, a, hj, ha, rfl, hrow, hkp, g, c, rfl⟩ := hrel
    obtain ⟨hL, hl, hall⟩ := HL.out
    have hat := lnk_at hL ha
    by_cases hjn : j < n
    · obtain ⟨b, hb⟩ : ∃ b, L[j]? = some b := ⟨L[j]'(by omega), by simp⟩
      have hb2 : (n :: L)[j + 1]? = some b := by simpa using hb
      rw [hb2] at hat
      simp only at hat
      have hbn : b < n := hall b (List.mem_of_getElem? hb)
      rw [hat]
      have hM := HM.out.more hkp
      have r2 := hkp.cell r0 (fun f => f)
      have hbk : (wr.alloc (.cells #[.int .i64 b] 3)).heap[wr.heap.size]? = some (.cells #[.int .i64 b] 3 (0, 0)) := blk_new _ _ _ rfl
      obtain ⟨g2, c2, w2, hr2, ho2, hk2, hm2⟩ := int_more w.heap.size (.slice (some ⟨g, 0, none⟩) j c) (L.take j) b j 35 _ (by simp; omega) (hrow.alloc _) (by have := hkp.size; simp; omega) (by omega) hbk
      have k2 : Keeps None w w2 := (hkp.andAlloc _).trans hk2 (fun i e hi => by have := row_low hrow e; omega)
      rw [show L.take j ++ [b] = L.take (j + 1) by rw [List.take_add_one, hb]; rfl] at ho2
      have r3 := k2.cell r0 (fun f => f)
      have nb : w2.cell? ⟨gN, b, none⟩ = some (.int .i64 (N b)) := (cell_of_heap (HM.out.more k2).nums _).trans (nums_at _ _ (by omega))
      have i2 : (b : Int) < ((n + 1 : Nat) : Int) := by omega
      have i3 : b < n + 1 := by omega
      have i4 : ¬ (b : Int) = -1 := by omega
      have HN : Hid (w2.ownsRow w.heap.size 3 1 (.slice (some ⟨g2, 0, none⟩) (j + 1) c2) (j + 1) (ivN (L.take (j + 1))) ∧ Keeps None w w2 ∧ (n :: L)[j + 1]? = some b) := ⟨ho2, k2, hb2⟩
      clear hL hl hall hat hb hb2 hM r2 hbk ho2 hk2 hm2 k2 hrow hkp ha hbn
      go_wp2_with (at_builtin; refine wpList_append_run rfl (.tmp 30) (.tmp 32) 35 35 rfl rfl rfl hr2 ?_)
      exact ⟨⟨j + 1, b, by omega, HN.out.2.2, rfl, HN.out.1, HN.out.2.1, _, _, rfl⟩, by simp [lenOf]; omega⟩
    · have hjn2 : j = n := by omega
      subst hjn2
      have hno : (j :: L)[j + 1]? = none := by simp [hl]
      rw [hno] at hat
      simp only at hat
      rw [hat]
      have HN : Hid (wr.ownsRow w.heap.size 3 1 (.slice (some ⟨g, 0, none⟩) j c) j (ivN L) ∧ Keeps None w wr) := by
        rw [List.take_of_length_le (by omega)] at hrow
        exact ⟨hrow, hkp⟩
      clear hL hl hall hat hno hrow hkp ha
      go_wp2
      go_ret
      exact ⟨_, _, rfl, HN.out⟩
end Go.Proofs.Ytolhojagbiaamab
