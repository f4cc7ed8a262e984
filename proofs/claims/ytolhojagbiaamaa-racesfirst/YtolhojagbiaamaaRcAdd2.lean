import Derived.Test.YtolhojagbiaamaaRcAdd
namespace Go.Proofs.Ytolhojagbiaamaa
set_option linter.unusedVariables false
set_option maxRecDepth 20000
set_option linter.unusedSimpArgs false
open Go.RowKit Go.HeapKit
set_option maxHeartbeats 4000000 in
theorem add_0 (w : World) (base R n gN gA cap k l : Nat) (o : Option Nat)  (N : Nat → Int) (A : List Dd)  (h : RowM w base R n N (A ++ [⟨l, endO o⟩]) gN gA cap) (hA : A.length ≤ 4999) (hk : k < n) (hn : n ≤ 4096) (hl : l ≤ n) (hb : base ≤ w.heap.size) :
    Calls Try.prog 44 #[.pointer (some ⟨R, 0, none⟩), .int .i64 k, .int .i64 0] w fun e w' => e = .returned (.tuple #[]) ∧ (∃ gA' cap', RowM w' base R n (upd (upd N k (N l)) l k) (A ++ [⟨k, endO o⟩, ⟨k, -1⟩]) gN gA' cap') ∧ Keeps (fun i => base ≤ i) w w' := by
  have HM : Hid (RowM w base R n N (A ++ [⟨l, endO o⟩]) gN gA cap) := h
  obtain ⟨q, hq⟩ : ∃ q, q = A.length := ⟨_, rfl⟩
  have HQ : Hid (q = A.length) := hq
  obtain ⟨⟨u0, u1⟩, hf, hc⟩ := h.top
  rw [← hq] at u0 u1 hc hA
  have b1 := h.blk
  have hlen : (A ++ [(⟨l, endO o⟩ : Dd)]).length = q + 1 := by simp [hq]
  rw [hlen] at b1
  have r0 : w.cell? ⟨R, 0, none⟩ = some (.slice (some ⟨gN, 0, none⟩) (n + 1) (n + 1)) := cell_of_heap b1 0
  have r1 : w.cell? ⟨R, 1, none⟩ = some (.slice (some ⟨gA, 0, none⟩) (q + 1) cap) := cell_of_heap b1 1
  have hw1 : IntKind.i64.wrap (q : Int) = (q : Int) := by rw [IntWalk.i64_left]; unfold wrap64; omega
  have hw2 : IntKind.i64.wrap (((q + 1 : Nat) : Int) - 1) = (q : Int) := by rw [IntWalk.i64_left]; unfold wrap64; omega
  have q1 : (q : Int) < ((q + 1 : Nat) : Int) := by omega
  clear h b1 hlen hq
  go_enter Try.func44, Try.ntmps44
  go_wp2_with fail
  go_cut [6] (fun s6 wx => s6 = .pointer (some ⟨gA, q * 2, none⟩) ∧ wx = w.drew)
  case first =>
    go_region
    go_wp2_with fail
    go_meet
    exact ⟨rfl, rfl⟩
  case rest =>
  obtain ⟨rfl, hwc⟩ := hcut
  have hwc' := hwc.symm
  subst hwc'
  have v0 : w.drew.cell? ⟨gA, q * 2, none⟩ = some (.int .i64 l) := u0
  have v1 : w.drew.cell? ⟨gA, q * 2 + 1, none⟩ = some (.int .i64 (endO o)) := u1
  have f0 : w.drew.frozen? ⟨gA, q * 2, none⟩ = false := hf _
  have f1 : w.drew.frozen? ⟨gA, q * 2 + 1, none⟩ = false := hf _
  clear r0 r1 u0 u1 hf
  go_upto_region 3 with fail
  have hR : RowM w base R n N (A ++ [⟨l, endO o⟩]) gN gA cap ∧ Keeps (fun i => base ≤ i) w w := ⟨HM.out, Keeps.refl _ _⟩
  obtain ⟨w1, hw⟩ : ∃ w1, w1 = w.drew := ⟨_, rfl⟩
  have hR1 : RowM w1 base R n N (A ++ [⟨l, endO o⟩]) gN gA cap ∧ Keeps (fun i => base ≤ i) w w1 := by rw [hw]; exact ⟨hR.1.more (Keeps.drew None _), hR.2.andDrew⟩
  rw [← hw]
  obtain ⟨⟨u0, u1⟩, hf, _⟩ := hR1.1.top
  rw [← HQ.out] at u0 u1
  have r0 : w1.cell? ⟨R, 0, none⟩ = some (.slice (some ⟨gN, 0, none⟩) (n + 1) (n + 1)) := cell_of_heap hR1.1.blk 0
  have nb : w1.cell? ⟨gN, l, none⟩ = some (.int .i64 (N l)) := (cell_of_heap hR1.1.nums _).trans (nums_at _ _ (by omega))
  have nk : w1.cell? ⟨gN, k, none⟩ = some (.int .i64 (N k)) := (cell_of_heap hR1.1.nums _).trans (nums_at _ _ (by omega))
  have g0 := blk_free hR1.1.nums k
  have g1 := blk_free hR1.1.nums l
  have i0 : (k : Int) < ((n + 1 : Nat) : Int) := by omega
  have i1 : (l : Int) < ((n + 1 : Nat) : Int) := by omega
  have i2 : k < n + 1 := by omega
  have i3 : l < n + 1 := by omega
  have hP := (hR1.1.putN k (N l)).1
  have nb2 : (w1.setCell ⟨gN, k, none⟩ (.int .i64 (N l))).cell? ⟨gN, l, none⟩ = some (.int .i64 (N l)) := (cell_of_heap hP.nums _).trans ((nums_at _ _ (by omega)).trans (by unfold upd; split <;> rfl))
  have g2 := blk_free hP.nums l
  have nb3 : (w1.setCell ⟨gN, k, none⟩ (.int .i64 (N l))).drew.cell? ⟨gN, l, none⟩ = some (.int .i64 (N l)) := nb2
  have g3 : (w1.setCell ⟨gN, k, none⟩ (.int .i64 (N l))).drew.frozen? ⟨gN, l, none⟩ = false := g2
  have HR1 : Hid _ := hR1
  clear hR hR1 hw v0 v1 f0 f1 HM hf hP
  have HI : Hid (∀ w2 : World, w2 = ((w1.setCell ⟨gN, k, none⟩ (.int .i64 (N l))).setCell ⟨gN, l, none⟩ (.int .i64 k)) → RowM w2.drew base R n (upd (upd N k (N l)) l k) (A ++ [⟨l, endO o⟩]) gN gA cap ∧ Keeps (fun i => base ≤ i) w w2.drew) := by
    intro w2 e
    have h1 := HR1.out.1.putN k (N l)
    have h2 := h1.1.putN l k
    rw [e]
    exact ⟨h2.1.more (Keeps.drew None _), ((HR1.out.2.trans h1.2 (fun _ e _ => e)).trans h2.2 (fun _ e _ => e)).andDrew⟩
  go_cut [6] (fun s6 wx => s6 = .pointer (some ⟨gA, q * 2, none⟩) ∧ RowM wx base R n (upd (upd N k (N l)) l k) (A ++ [⟨l, endO o⟩]) gN gA cap ∧ Keeps (fun i => base ≤ i) w wx)
  case first =>
    go_region
    go_wp2_with fail
    go_meet
    exact ⟨rfl, HI.out _ rfl⟩
  case rest =>
  obtain ⟨rfl, hR2, hk2⟩ := hcut
  obtain ⟨w2, hw2⟩ : ∃ w2, w2 = wc := ⟨_, rfl⟩
  rw [← hw2] at hR2 hk2 ⊢
  clear hw2 HI HR1 r0 nb nk g0 g1 u0 u1 nb2 nb3 g2 g3
  obtain ⟨⟨u0, u1⟩, hf, _⟩ := hR2.top
  rw [← HQ.out] at u0 u1
  have f0 := hf (q * 2)
  have hR3 := hR2.putK k
  rw [← HQ.out] at hR3
  clear hf
  go_upto_region 5 with fail
  obtain ⟨w3, hw3⟩ : ∃ w3, w3 = w2.setCell ⟨gA, q * 2, none⟩ (.int .i64 k) := ⟨_, rfl⟩
  rw [← hw3] at hR3
  rw [← hw3]
  clear hw3 u0 u1 f0
  obtain ⟨hR3, hk3⟩ := hR3
  have hk3 := hk2.trans hk3 (fun _ e _ => e)
  have hs3 := hk3.size
  have b3 := hR3.blk
  rw [show (A ++ [(⟨(k : Int), endO o⟩ : Dd)]).length = q + 1 by simp [HQ.out]] at b3
  have r1 : w3.cell? ⟨R, 1, none⟩ = some (.slice (some ⟨gA, 0, none⟩) (q + 1) cap) := cell_of_heap b3 1
  have hlow := hR3.lowA
  have hbn : (w3.alloc (.cells #[.int .i64 k, .int .i64 (-1)] 88)).heap[w3.heap.size]? = some (.cells #[.int .i64 k, .int .i64 (-1)] 88 (0, 0)) := blk_new _ _ _ rfl
  have hact := hR3.act.alloc (.cells #[.int .i64 k, .int .i64 (-1)] 88)
  rw [show (A ++ [(⟨(k : Int), endO o⟩ : Dd)]).length = q + 1 by simp [HQ.out]] at hact
  obtain ⟨g4, c4, w4, hr4, ho4, hk4, hm4⟩ := wh_more base (.slice (some ⟨gA, 0, none⟩) (q + 1) cap) (A ++ [⟨k, endO o⟩]) ⟨k, -1⟩ (q + 1) 84 _ (by simp [HQ.out]) hact (by simp; omega) (by omega) hbn
  have hR4 := hR3.more (Keeps.alloc None w3 (.cells #[.int .i64 k, .int .i64 (-1)] 88))
  have nR : R ≠ gA := hR3.ne2
  have nN : gN ≠ gA := hR3.ne3
  have hkR := blk_kept hR4.blk hk4 (fun e => by simp [Value.ownBlock] at e; exact nR e.symm)
  have hkN := blk_kept hR4.nums hk4 (fun e => by simp [Value.ownBlock] at e; exact nN e.symm)
  have r5 : w4.cell? ⟨R, 1, none⟩ = some (.slice (some ⟨gA, 0, none⟩) (q + 1) cap) := (cell_of_heap hkR 1).trans (by rw [show (A ++ [(⟨(k : Int), endO o⟩ : Dd)]).length = q + 1 by simp [HQ.out]]; rfl)
  have f5 := blk_free hkR 1
  have hne : g4 ≠ R := by
    intro e
    obtain ⟨cur, hc⟩ := own_block ho4 rfl
    rw [e, hkR] at hc
    injection hc with hc
    injection hc with _ hc
    revert hc
    decide
  have HN : Hid (RowM (w4.setCell ⟨R, 1, none⟩ (.slice (some ⟨g4, 0, none⟩) (q + 2) c4)) base R n (upd (upd N k (N l)) l k) (A ++ [⟨k, endO o⟩, ⟨k, -1⟩]) gN g4 c4 ∧ Keeps (fun i => base ≤ i) w (w4.setCell ⟨R, 1, none⟩ (.slice (some ⟨g4, 0, none⟩) (q + 2) c4))) := by
    have hk5 : Keeps (· = R) w4 (w4.setCell ⟨R, 1, none⟩ (.slice (some ⟨g4, 0, none⟩) (q + 2) c4)) := keeps_one (Keeps.refl _ _) _
    have b5 := blk_set (i := 1) hkR (.slice (some ⟨g4, 0, none⟩) (q + 2) c4)
    have hl5 : ((A ++ [⟨k, endO o⟩, ⟨k, -1⟩]) : List Dd).length = q + 2 := by simp [HQ.out]
    refine ⟨⟨by rw [b5, hl5]; simp, blk_kept hkN hk5 (fun e => hR3.ne1 e.symm), ?_, hR3.lowR, hR3.lowN⟩, ((hk3.andAlloc _).trans hk4 (fun i e _ => by simp [Value.ownBlock] at e; omega)).trans hk5 (fun i e _ => by have := hR3.lowR; omega)⟩
    rw [hl5]
    have := row_kept ho4 hk5 (fun g e => by simp [Value.ownBlock] at e; subst e; exact hne)
    rwa [List.append_assoc] at this
  clear hR3 hk3 b3 hbn hact ho4 hk4 hm4 hR4 hkR hkN hR2 hk2
  clear hlow nR nN hne hs3 hw2 hw1 q1
  go_wp2_with (at_builtin; refine wpList_append_run rfl (.tmp 78) (.tmp 81) 84 84 rfl rfl rfl hr4 ?_)
  go_end0
  exact ⟨rfl, ⟨_, _, HN.out.1⟩, HN.out.2⟩
set_option maxHeartbeats 4000000 in
theorem add_3 (w : World) (base R n gN gA cap k l : Nat) (o : Option Nat) (kd : Int) (N : Nat → Int) (A : List Dd)  (h : RowM w base R n N (A ++ [⟨l, endO o⟩]) gN gA cap) (hA : A.length ≤ 4999) (hk : k < n) (hn : n ≤ 4096) (hl : l ≤ n) (h0 : ¬ kd = 0) (h1 : ¬ kd = 1) (h2 : ¬ kd = 2) (hb : base ≤ w.heap.size) :
    Calls Try.prog 44 #[.pointer (some ⟨R, 0, none⟩), .int .i64 k, .int .i64 kd] w fun e w' => e = .returned (.tuple #[]) ∧ (∃ gA' cap', RowM w' base R n (upd (upd N k (N l)) l k) (A ++ [⟨k, endO o⟩]) gN gA' cap') ∧ Keeps (fun i => base ≤ i) w w' := by
  have HM : Hid (RowM w base R n N (A ++ [⟨l, endO o⟩]) gN gA cap) := h
  obtain ⟨q, hq⟩ : ∃ q, q = A.length := ⟨_, rfl⟩
  have HQ : Hid (q = A.length) := hq
  obtain ⟨⟨u0, u1⟩, hf, hc⟩ := h.top
  rw [← hq] at u0 u1 hc hA
  have b1 := h.blk
  have hlen : (A ++ [(⟨l, endO o⟩ : Dd)]).length = q + 1 := by simp [hq]
  rw [hlen] at b1
  have r0 : w.cell? ⟨R, 0, none⟩ = some (.slice (some ⟨gN, 0, none⟩) (n + 1) (n + 1)) := cell_of_heap b1 0
  have r1 : w.cell? ⟨R, 1, none⟩ = some (.slice (some ⟨gA, 0, none⟩) (q + 1) cap) := cell_of_heap b1 1
  have hw1 : IntKind.i64.wrap (q : Int) = (q : Int) := by rw [IntWalk.i64_left]; unfold wrap64; omega
  have hw2 : IntKind.i64.wrap (((q + 1 : Nat) : Int) - 1) = (q : Int) := by rw [IntWalk.i64_left]; unfold wrap64; omega
  have q1 : (q : Int) < ((q + 1 : Nat) : Int) := by omega
  clear h b1 hlen hq
  go_enter Try.func44, Try.ntmps44
  go_wp2_with fail
  go_cut [6] (fun s6 wx => s6 = .pointer (some ⟨gA, q * 2, none⟩) ∧ wx = w.drew)
  case first =>
    go_region
    go_wp2_with fail
    go_meet
    exact ⟨rfl, rfl⟩
  case rest =>
  obtain ⟨rfl, hwc⟩ := hcut
  have hwc' := hwc.symm
  subst hwc'
  have v0 : w.drew.cell? ⟨gA, q * 2, none⟩ = some (.int .i64 l) := u0
  have v1 : w.drew.cell? ⟨gA, q * 2 + 1, none⟩ = some (.int .i64 (endO o)) := u1
  have f0 : w.drew.frozen? ⟨gA, q * 2, none⟩ = false := hf _
  have f1 : w.drew.frozen? ⟨gA, q * 2 + 1, none⟩ = false := hf _
  clear r0 r1 u0 u1 hf
  go_upto_region 3 with fail
  have hR : RowM w base R n N (A ++ [⟨l, endO o⟩]) gN gA cap ∧ Keeps (fun i => base ≤ i) w w := ⟨HM.out, Keeps.refl _ _⟩
  obtain ⟨w1, hw⟩ : ∃ w1, w1 = w.drew := ⟨_, rfl⟩
  have hR1 : RowM w1 base R n N (A ++ [⟨l, endO o⟩]) gN gA cap ∧ Keeps (fun i => base ≤ i) w w1 := by rw [hw]; exact ⟨hR.1.more (Keeps.drew None _), hR.2.andDrew⟩
  rw [← hw]
  obtain ⟨⟨u0, u1⟩, hf, _⟩ := hR1.1.top
  rw [← HQ.out] at u0 u1
  have r0 : w1.cell? ⟨R, 0, none⟩ = some (.slice (some ⟨gN, 0, none⟩) (n + 1) (n + 1)) := cell_of_heap hR1.1.blk 0
  have nb : w1.cell? ⟨gN, l, none⟩ = some (.int .i64 (N l)) := (cell_of_heap hR1.1.nums _).trans (nums_at _ _ (by omega))
  have nk : w1.cell? ⟨gN, k, none⟩ = some (.int .i64 (N k)) := (cell_of_heap hR1.1.nums _).trans (nums_at _ _ (by omega))
  have g0 := blk_free hR1.1.nums k
  have g1 := blk_free hR1.1.nums l
  have i0 : (k : Int) < ((n + 1 : Nat) : Int) := by omega
  have i1 : (l : Int) < ((n + 1 : Nat) : Int) := by omega
  have i2 : k < n + 1 := by omega
  have i3 : l < n + 1 := by omega
  have hP := (hR1.1.putN k (N l)).1
  have nb2 : (w1.setCell ⟨gN, k, none⟩ (.int .i64 (N l))).cell? ⟨gN, l, none⟩ = some (.int .i64 (N l)) := (cell_of_heap hP.nums _).trans ((nums_at _ _ (by omega)).trans (by unfold upd; split <;> rfl))
  have g2 := blk_free hP.nums l
  have nb3 : (w1.setCell ⟨gN, k, none⟩ (.int .i64 (N l))).drew.cell? ⟨gN, l, none⟩ = some (.int .i64 (N l)) := nb2
  have g3 : (w1.setCell ⟨gN, k, none⟩ (.int .i64 (N l))).drew.frozen? ⟨gN, l, none⟩ = false := g2
  have HR1 : Hid _ := hR1
  clear hR hR1 hw v0 v1 f0 f1 HM hf hP
  have HI : Hid (∀ w2 : World, w2 = ((w1.setCell ⟨gN, k, none⟩ (.int .i64 (N l))).setCell ⟨gN, l, none⟩ (.int .i64 k)) → RowM w2.drew base R n (upd (upd N k (N l)) l k) (A ++ [⟨l, endO o⟩]) gN gA cap ∧ Keeps (fun i => base ≤ i) w w2.drew) := by
    intro w2 e
    have h1 := HR1.out.1.putN k (N l)
    have h2 := h1.1.putN l k
    rw [e]
    exact ⟨h2.1.more (Keeps.drew None _), ((HR1.out.2.trans h1.2 (fun _ e _ => e)).trans h2.2 (fun _ e _ => e)).andDrew⟩
  go_cut [6] (fun s6 wx => s6 = .pointer (some ⟨gA, q * 2, none⟩) ∧ RowM wx base R n (upd (upd N k (N l)) l k) (A ++ [⟨l, endO o⟩]) gN gA cap ∧ Keeps (fun i => base ≤ i) w wx)
  case first =>
    go_region
    go_wp2_with fail
    go_meet
    exact ⟨rfl, HI.out _ rfl⟩
  case rest =>
  obtain ⟨rfl, hR2, hk2⟩ := hcut
  obtain ⟨w2, hw2⟩ : ∃ w2, w2 = wc := ⟨_, rfl⟩
  rw [← hw2] at hR2 hk2 ⊢
  clear hw2 HI HR1 r0 nb nk g0 g1 u0 u1 nb2 nb3 g2 g3
  obtain ⟨⟨u0, u1⟩, hf, _⟩ := hR2.top
  rw [← HQ.out] at u0 u1
  have f0 := hf (q * 2)
  have hR3 := hR2.putK k
  rw [← HQ.out] at hR3
  clear hf
  go_upto_region 5 with fail
  obtain ⟨w3, hw3⟩ : ∃ w3, w3 = w2.setCell ⟨gA, q * 2, none⟩ (.int .i64 k) := ⟨_, rfl⟩
  rw [← hw3] at hR3
  rw [← hw3]
  clear hw3 u0 u1 f0
  have HN : Hid _ := hR3
  have HK : Hid _ := hk2.trans hR3.2 (fun _ e _ => e)
  clear hR2 hk2 hR3
  go_wp2
  go_end0
  exact ⟨rfl, ⟨_, _, HN.out.1⟩, HK.out⟩
end Go.Proofs.Ytolhojagbiaamaa
