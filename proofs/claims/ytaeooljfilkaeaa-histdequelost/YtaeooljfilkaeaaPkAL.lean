import Derived.Test.YtaeooljfilkaeaaPkAK
import Derived.Deep.RegionHeld3
import Derived.Deep.DeepCutAuto
import Derived.Deep.QuietTactic
import Derived.BigQuiet
import Derived.Deep.CutBlock
/-! begin: the owner (pop). -/
namespace Go.Proofs.Ytaeooljfilkaeaa
set_option linter.unusedVariables false
set_option maxRecDepth 20000
set_option linter.unusedSimpArgs false
open Go.RowKit Go.HeapKit Go.IntWalk

set_option maxHeartbeats 8000000 in
set_option maxRecDepth 100000 in
theorem dbegin_pop (w0 w : World) (P p : Nat) (F : Nat → Prop) (ta : Option Addr) (tc : Nat) (vc : Value) (S : Dpl) (g c n : Nat) (t : Tod) (ts : List Tod) (h : IsDp w0 w P p F ta tc (.slice (some ⟨g, 0, none⟩) S.acts.length c) vc S) (ht : S.todos = t :: ts) (hk : t.kind ≠ 0) (hwl : 0 < S.acts.length) (hm : 1 ≤ S.most ∧ S.most ≤ 4096) (hlc : S.calls.length < 10000000) :
    Calls Try.prog 47 #[.pointer (some ⟨P, 0, none⟩), .pointer (some ⟨g, 0, none⟩), .int .i64 n, .int .i64 0] w fun e w' => e = .returned (.bool true) ∧
      ∃ ta' tc' vc', IsDp w0 w' P p F ta' tc' (.slice (some ⟨g, 0, none⟩) S.acts.length c) vc' { S with todos := ts, acts := S.acts.set 0 ⟨popO S.base S.most, S.calls.length⟩, calls := S.calls ++ [⟨0, t.kind, 0, n, -1, 0, 0⟩] } := by
  have b0 : ((0 : Int) != 0) = false := by decide
  have b1 : (t.kind == 0) = false := by simpa using hk
  have hst := newPop S.base S.most hm
  simp only [OpS.value, OpS.vals] at hst
  obtain ⟨a, ha⟩ : ∃ a, S.acts[0]? = some a := ⟨S.acts[0], by simp⟩
  obtain ⟨xc, cc, hvc⟩ := own_shape h.ca
  subst hvc
  obtain ⟨b, off, rfl, hbl, hcs⟩ := h.td (by rw [ht]; simp)
  obtain ⟨e0, e1⟩ := hcs 0 t (by rw [ht]; rfl)
  rw [Nat.zero_mul, Nat.add_zero] at e0 e1
  have hfit := h.fit
  rw [ht, List.length_cons] at hfit
  obtain ⟨q, hq⟩ : ∃ q, q = ts.length := ⟨_, rfl⟩
  rw [← hq] at hfit
  have hA := h.kept (Keeps.alloc None w (.cells #[.int .i64 0, .int .i64 2, .int .i64 0, .int .i64 n, .int .i64 (-1), .int .i64 0, .int .i64 0] 45))
  have hC := new_at w (.cells #[.int .i64 0, .int .i64 2, .int .i64 0, .int .i64 n, .int .i64 (-1), .int .i64 0, .int .i64 0] 45) _ rfl
  have hN : ¬ F w.heap.size ∧ w.heap.size ≠ g ∧ w.heap.size ≠ P ∧ b < w.heap.size ∧ w0.heap.size ≤ w.heap.size := by
    refine ⟨fun f => by have := h.ar.lt f; omega, ?_, ?_, ?_, h.kp.size⟩
    · have : g < w.heap.size := own_lt h.ac rfl
      omega
    · have := h.lt; omega
    · have := h.kp.size; omega
  have e0' := hA.kp.cell e0 (fun f => f)
  have e1' := hA.kp.cell e1 (fun f => f)
  have hT := h.td
  rw [ht] at hT
  have HT : Hid (TodoAt w0 (some ⟨b, off + 2, none⟩) ts ∧ q = ts.length ∧ S.todos = t :: ts) := ⟨TodoAt.tail hT rfl, hq, ht⟩
  have HNC : Hid (¬ (Value.slice xc S.calls.length cc).ownBlock = some w.heap.size) := fun e => by have := own_lt h.ca e; omega
  have HX : Hid _ := ha
  have HWL : Hid _ := And.intro hwl hlc
  have hlP := h.lt
  have hlg : g < w.heap.size := own_lt h.ac rfl
  obtain ⟨⟨c0, c1, c2, c3, c4, c5⟩, fP⟩ := hA.cs
  have f3 := fP 3
  rw [ht, List.length_cons, ← hq] at c3
  have HA : Hid _ := And.intro hA hC
  clear h hm hA hC ha hcs e0 e1 hT hq ht hbl hwl hlc fP
  obtain ⟨d, hd⟩ : ∃ d, tc = d + 1 := ⟨tc - 1, by omega⟩
  subst hd
  go_enter Try.func47, Try.ntmps47
  go_upto_block 0 with fail
  have hsz : w.heap.size < (w.alloc (.cells #[.int .i64 0, .int .i64 2, .int .i64 0, .int .i64 n, .int .i64 (-1), .int .i64 0, .int .i64 0] 45)).heap.size := by simp
  generalize (w.alloc (.cells #[.int .i64 0, .int .i64 2, .int .i64 0, .int .i64 n, .int .i64 (-1), .int .i64 0, .int .i64 0] 45)) = wA at HA hsz c0 c1 c2 c3 c4 c5 f3 e0' e1' ⊢
  generalize w.heap.size = C at HA hN HNC hlP hlg hsz ⊢
  have hlen : (S.calls.length : Int) = S.calls.length := rfl
  obtain ⟨o2, ho2, HTA⟩ : ∃ o2 : Nat, (d = 0 ∧ o2 = off ∨ ¬ d = 0 ∧ o2 = off + 2) ∧ Hid (TodoAt w0 (some ⟨b, o2, none⟩) ts) := by
    by_cases e : d = 0
    · have : ts = [] := List.eq_nil_of_length_eq_zero (by have := HT.out.2.1; omega)
      rw [this]
      exact ⟨off, .inl ⟨e, rfl⟩, TodoAt.none_⟩
    · exact ⟨off + 2, .inr ⟨e, rfl⟩, HT.out.1⟩
  go_cut [10] (fun s10 wx => IsDp w0 wx P p F (some ⟨b, o2, none⟩) d (.slice (some ⟨g, 0, none⟩) S.acts.length c) (.slice xc S.calls.length cc) { S with todos := ts, acts := S.acts.set 0 ⟨popO S.base S.most, a.call⟩ } ∧ wx.heap[C]? = some (.cells #[.int .i64 0, .int .i64 t.kind, .int .i64 0, .int .i64 n, .int .i64 (-1), .int .i64 0, .int .i64 0] 45))
  case first =>
    rcases ho2 with ⟨hd0, e⟩ | ⟨hd0, e⟩
    · subst e
      subst hd0
      have hq0 : q = 0 := by omega
      subst hq0
      have hPC : ¬ P = C := fun e => hN.2.2.1 e.symm
      have hPT : ¬ P = wA.heap.size := by omega
      have hCT : ¬ C = wA.heap.size := by omega
      have hgT : ¬ wA.heap.size = g := by omega
      have hTO : Keeps None wA (wA.alloc (.cells #[.int .i64 t.kind, .int .i64 t.v] 55)) := Keeps.alloc None wA _
      have HB : Hid _ := And.intro (HA.out.1.kept hTO) (And.intro (blkD HA.out.2 hTO (fun f => f)) (new_at wA (.cells #[.int .i64 t.kind, .int .i64 t.v] 55) _ rfl))
      clear hTO
      go_upto_region 3 with fail
      generalize (wA.alloc (.cells #[.int .i64 t.kind, .int .i64 t.v] 55)) = wB at HB ⊢
      generalize wA.heap.size = T at HB hPT hCT hgT ⊢
      clear c0 c1 c2 c3 c4 c5 e0' e1' f3
      obtain ⟨⟨c0, c1, c2, c3, c4, c5⟩, fP⟩ := HB.out.1.cs
      rw [HT.out.2.2, List.length_cons, ← HT.out.2.1] at c3
      have f3 := fP 3
      have t0 := cell_of_block HB.out.2.2 0
      have t1 := cell_of_block HB.out.2.2 1
      have C0 := cell_of_block HB.out.2.1 0
      have C1 := cell_of_block HB.out.2.1 1
      have C2 := cell_of_block HB.out.2.1 2
      have g1 := free_of_block HB.out.2.1 1
      have g2 := free_of_block HB.out.2.1 2
      simp only [List.size_toArray, List.length_cons, List.length_nil, Array.getElem?_eq_getElem, List.getElem_toArray, List.getElem_cons_zero, List.getElem_cons_succ, Nat.reduceLT, Nat.reduceAdd, Nat.zero_lt_succ] at t0 t1 C0 C1 C2
      clear fP
      go_upto_region 8 with fail
      have h2 := HB.out.1.todone (some ⟨b, o2, none⟩) 0 ts HTA.out (by have := HT.out.2.1; omega)
      rw [← HT.out.2.1] at h2
      have hC2 := blkD HB.out.2.1 (Keeps.setCell (S := (· = P)) wB (a := ⟨P, 3, none⟩) rfl (.slice (some ⟨b, o2, none⟩) 0 0)) (fun e => hPC e.symm)
      have h3 := h2.keptS (X := (· = C)) (Keeps.setCell (S := (· = C)) (wB.setCell ⟨P, 3, none⟩ (.slice (some ⟨b, o2, none⟩) 0 0)) (a := ⟨C, 1, none⟩) rfl (.int .i64 t.kind)) (fun k hk e => by subst e; rcases hk with hk | rfl | hk | hk; exact hN.1 hk; exact hPC rfl; (injection hk with hk; exact hN.2.1 hk.symm); exact HNC.out hk) (fun k e => by subst e; exact hN.2.2.2.2)
      have hC3 := setCell_block hC2 (i := 1) (.int .i64 t.kind)
      have H3 : Hid _ := And.intro h3 hC3
      clear h2 h3 hC2 hC3 HB c0 c1 c2 c3 c4 c5 f3 t0 t1 C0 C1 C2 g1 g2
      generalize ((wB.setCell ⟨P, 3, none⟩ (.slice (some ⟨b, o2, none⟩) 0 0)).setCell ⟨C, 1, none⟩ (.int .i64 t.kind)) = wD at H3 ⊢
      obtain ⟨⟨c0, c1, c2, c3, c4, c5⟩, -⟩ := H3.out.1.cs
      go_wp2_with fail
      refine (hst _).mono ?_
      rintro e w2 ⟨rfl, hk2⟩
      have h2 := H3.out.1.kept hk2
      have hkf := act_atD (i := 0) h2 rfl HX.out
      simp only [Nat.zero_mul, Nat.zero_add] at hkf
      obtain ⟨⟨k0, k1, k2, k3, k4, k5, k6, k7, k8, k9, k10, k11, k12, k13⟩, ⟨f0, f1, f2, f3, f4, f5, f6, f7, f8, f9, f10, f11, f12, f13⟩⟩ := hkf
      have h3 := h2.actpart (i := 0) (j := 0) rfl a HX.out (popO S.base S.most).vals.toList (show 13 ≤ 14 by omega) ⟨popO S.base S.most, a.call⟩ rfl
      have hC3 := blkD (blkD H3.out.2 hk2 (fun f => f)) (setsFrom_keeps g (popO S.base S.most).vals.toList (0 * 14 + 0) w2) (fun e => hN.2.1 e)
      have H4 : Hid _ := And.intro h3 hC3
      clear h2 h3 hC3 hk2 hst c0 c1 c2 c3 c4 c5 H3
      go_wp2_with fail
      go_meet
      exact H4.out
    · subst e
      have hPC : ¬ P = C := fun e => hN.2.2.1 e.symm
      have hPT : ¬ P = wA.heap.size := by omega
      have hCT : ¬ C = wA.heap.size := by omega
      have hgT : ¬ wA.heap.size = g := by omega
      have hTO : Keeps None wA (wA.alloc (.cells #[.int .i64 t.kind, .int .i64 t.v] 55)) := Keeps.alloc None wA _
      have HB : Hid _ := And.intro (HA.out.1.kept hTO) (And.intro (blkD HA.out.2 hTO (fun f => f)) (new_at wA (.cells #[.int .i64 t.kind, .int .i64 t.v] 55) _ rfl))
      clear hTO
      go_upto_region 3 with fail
      generalize (wA.alloc (.cells #[.int .i64 t.kind, .int .i64 t.v] 55)) = wB at HB ⊢
      generalize wA.heap.size = T at HB hPT hCT hgT ⊢
      clear c0 c1 c2 c3 c4 c5 e0' e1' f3
      obtain ⟨⟨c0, c1, c2, c3, c4, c5⟩, fP⟩ := HB.out.1.cs
      rw [HT.out.2.2, List.length_cons, ← HT.out.2.1] at c3
      have f3 := fP 3
      have t0 := cell_of_block HB.out.2.2 0
      have t1 := cell_of_block HB.out.2.2 1
      have C0 := cell_of_block HB.out.2.1 0
      have C1 := cell_of_block HB.out.2.1 1
      have C2 := cell_of_block HB.out.2.1 2
      have g1 := free_of_block HB.out.2.1 1
      have g2 := free_of_block HB.out.2.1 2
      simp only [List.size_toArray, List.length_cons, List.length_nil, Array.getElem?_eq_getElem, List.getElem_toArray, List.getElem_cons_zero, List.getElem_cons_succ, Nat.reduceLT, Nat.reduceAdd, Nat.zero_lt_succ] at t0 t1 C0 C1 C2
      clear fP
      go_upto_region 8 with fail
      have h2 := HB.out.1.todone (some ⟨b, off + 2, none⟩) d ts HTA.out (by have := HT.out.2.1; omega)
      rw [← HT.out.2.1] at h2
      have hC2 := blkD HB.out.2.1 (Keeps.setCell (S := (· = P)) wB (a := ⟨P, 3, none⟩) rfl (.slice (some ⟨b, off + 2, none⟩) q d)) (fun e => hPC e.symm)
      have h3 := h2.keptS (X := (· = C)) (Keeps.setCell (S := (· = C)) (wB.setCell ⟨P, 3, none⟩ (.slice (some ⟨b, off + 2, none⟩) q d)) (a := ⟨C, 1, none⟩) rfl (.int .i64 t.kind)) (fun k hk e => by subst e; rcases hk with hk | rfl | hk | hk; exact hN.1 hk; exact hPC rfl; (injection hk with hk; exact hN.2.1 hk.symm); exact HNC.out hk) (fun k e => by subst e; exact hN.2.2.2.2)
      have hC3 := setCell_block hC2 (i := 1) (.int .i64 t.kind)
      have H3 : Hid _ := And.intro h3 hC3
      clear h2 h3 hC2 hC3 HB c0 c1 c2 c3 c4 c5 f3 t0 t1 C0 C1 C2 g1 g2
      generalize ((wB.setCell ⟨P, 3, none⟩ (.slice (some ⟨b, off + 2, none⟩) q d)).setCell ⟨C, 1, none⟩ (.int .i64 t.kind)) = wD at H3 ⊢
      obtain ⟨⟨c0, c1, c2, c3, c4, c5⟩, -⟩ := H3.out.1.cs
      go_wp2_with fail
      refine (hst _).mono ?_
      rintro e w2 ⟨rfl, hk2⟩
      have h2 := H3.out.1.kept hk2
      have hkf := act_atD (i := 0) h2 rfl HX.out
      simp only [Nat.zero_mul, Nat.zero_add] at hkf
      obtain ⟨⟨k0, k1, k2, k3, k4, k5, k6, k7, k8, k9, k10, k11, k12, k13⟩, ⟨f0, f1, f2, f3, f4, f5, f6, f7, f8, f9, f10, f11, f12, f13⟩⟩ := hkf
      have h3 := h2.actpart (i := 0) (j := 0) rfl a HX.out (popO S.base S.most).vals.toList (show 13 ≤ 14 by omega) ⟨popO S.base S.most, a.call⟩ rfl
      have hC3 := blkD (blkD H3.out.2 hk2 (fun f => f)) (setsFrom_keeps g (popO S.base S.most).vals.toList (0 * 14 + 0) w2) (fun e => hN.2.1 e)
      have H4 : Hid _ := And.intro h3 hC3
      clear h2 h3 hC3 hk2 hst c0 c1 c2 c3 c4 c5 H3
      go_wp2_with fail
      go_meet
      exact H4.out
  case rest =>
    obtain ⟨h4, hC4⟩ := hcut
    clear c0 c1 c2 c3 c4 c5 e0' e1' f3
    obtain ⟨⟨c0, c1, c2, c3, c4, c5⟩, -⟩ := h4.cs
    have hset : ({ S with todos := ts, acts := S.acts.set 0 ⟨popO S.base S.most, a.call⟩ } : Dpl).acts[0]? = some ⟨popO S.base S.most, a.call⟩ := List.getElem?_set_self HWL.out.1
    have hkf := act_atD (i := 0) h4 (by simp) hset
    simp only [Nat.zero_mul, Nat.zero_add] at hkf
    obtain ⟨⟨k0, k1, k2, k3, k4, k5, k6, k7, k8, k9, k10, k11, k12, k13⟩, ⟨f0, f1, f2, f3, f4, f5, f6, f7, f8, f9, f10, f11, f12, f13⟩⟩ := hkf
    have h5 := h4.actpart (j := 13) (by simp) _ hset [.int .i64 (S.calls.length : Int)] (show 14 ≤ 14 by omega) ⟨popO S.base S.most, S.calls.length⟩ rfl
    have hC5 := blkD hC4 (setsFrom_keeps g [.int .i64 (S.calls.length : Int)] (0 * 14 + 13) wc) (fun e => hN.2.1 e)
    simp only [List.set_set] at h5
    have H5 : Hid _ := And.intro h5 hC5
    clear h4 h5 hC4 hC5 hset HA HX hst ho2 HTA HT c3
    go_upto_region 13 with fail
    go_cut [80] (fun s80 wx => IsDp w0 wx P p F (some ⟨b, o2, none⟩) d (.slice (some ⟨g, 0, none⟩) S.acts.length c) (.slice xc S.calls.length cc) { S with todos := ts, acts := S.acts.set 0 ⟨popO S.base S.most, S.calls.length⟩ } ∧ wx.heap[C]? = some (.cells #[.int .i64 0, .int .i64 t.kind, .int .i64 0, .int .i64 n, .int .i64 (-1), .int .i64 0, .int .i64 0] 45))
    case first =>
      go_wp2_with fail
      go_meet
      exact H5.out
    case rest =>
      obtain ⟨h6, hC6⟩ := hcut
      clear c0 c1 c2 c4 c5 k0 k1 k2 k3 k4 k5 k6 k7 k8 k9 k10 k11 k12 k13 f0 f1 f2 f3 f4 f5 f6 f7 f8 f9 f10 f11 f12 f13 H5
      have c5 := h6.cs.1.2.2.2.2.2
      have c5' := (h6.kept (Keeps.alloc None wc (.cells #[.int .i64 0, .int .i64 t.kind, .int .i64 0, .int .i64 n, .int .i64 (-1), .int .i64 0, .int .i64 0] 45))).cs.1.2.2.2.2.2
      have h7 := (h6.kept (Keeps.drew None wc)).kept (Keeps.alloc None wc.drew (.cells #[.int .i64 0, .int .i64 t.kind, .int .i64 0, .int .i64 n, .int .i64 (-1), .int .i64 0, .int .i64 0] 45))
      obtain ⟨gc, cg, w1, hr, ho, hgr, hm⟩ := cal_append (.slice xc S.calls.length cc) S.calls ⟨0, t.kind, 0, n, -1, 0, 0⟩ wc.heap.size 28 _ h7.ca HWL.out.2 (new_at wc.drew _ _ rfl)
      have hk1 := Keeps.grown (S := fun k => (Value.slice xc S.calls.length cc).ownBlock = some k) hgr (fun _ e => e)
      have hJ := h7.called hk1 hm ho
      have hP1 := (hk1.block P h7.lt h7.nP.2).trans h7.blk
      have d5 : w1.cell? ⟨P, 5, none⟩ = some (.slice xc S.calls.length cc) := (cell_of_block hP1 5).trans rfl
      have f5 := free_of_block hP1 5
      have HC0 : Hid (wc.cell? ⟨C, 0, none⟩ = some (.int .i64 0) ∧ wc.cell? ⟨C, 1, none⟩ = some (.int .i64 t.kind) ∧ wc.cell? ⟨C, 2, none⟩ = some (.int .i64 0) ∧ wc.cell? ⟨C, 3, none⟩ = some (.int .i64 n) ∧ wc.cell? ⟨C, 4, none⟩ = some (.int .i64 (-1)) ∧ wc.cell? ⟨C, 5, none⟩ = some (.int .i64 0) ∧ wc.cell? ⟨C, 6, none⟩ = some (.int .i64 0)) := cal_blk hC6
      have HC1 : Hid (w1.cell? ⟨C, 0, none⟩ = some (.int .i64 0) ∧ w1.cell? ⟨C, 1, none⟩ = some (.int .i64 t.kind) ∧ w1.cell? ⟨C, 2, none⟩ = some (.int .i64 0) ∧ w1.cell? ⟨C, 3, none⟩ = some (.int .i64 n) ∧ w1.cell? ⟨C, 4, none⟩ = some (.int .i64 (-1)) ∧ w1.cell? ⟨C, 5, none⟩ = some (.int .i64 0) ∧ w1.cell? ⟨C, 6, none⟩ = some (.int .i64 0)) := cal_blk (blkD (blkD (blkD hC6 (Keeps.drew None wc) (fun f => f)) (Keeps.alloc None wc.drew _) (fun f => f)) hk1 (fun e => HNC.out e))
      have HC2 : Hid ((w1.setCell ⟨P, 5, none⟩ (.slice (some ⟨gc, 0, none⟩) (S.calls.length + 1) cg)).cell? ⟨C, 0, none⟩ = some (.int .i64 0) ∧ (w1.setCell ⟨P, 5, none⟩ (.slice (some ⟨gc, 0, none⟩) (S.calls.length + 1) cg)).cell? ⟨C, 1, none⟩ = some (.int .i64 t.kind) ∧ (w1.setCell ⟨P, 5, none⟩ (.slice (some ⟨gc, 0, none⟩) (S.calls.length + 1) cg)).cell? ⟨C, 2, none⟩ = some (.int .i64 0) ∧ (w1.setCell ⟨P, 5, none⟩ (.slice (some ⟨gc, 0, none⟩) (S.calls.length + 1) cg)).cell? ⟨C, 3, none⟩ = some (.int .i64 n) ∧ (w1.setCell ⟨P, 5, none⟩ (.slice (some ⟨gc, 0, none⟩) (S.calls.length + 1) cg)).cell? ⟨C, 4, none⟩ = some (.int .i64 (-1)) ∧ (w1.setCell ⟨P, 5, none⟩ (.slice (some ⟨gc, 0, none⟩) (S.calls.length + 1) cg)).cell? ⟨C, 5, none⟩ = some (.int .i64 0) ∧ (w1.setCell ⟨P, 5, none⟩ (.slice (some ⟨gc, 0, none⟩) (S.calls.length + 1) cg)).cell? ⟨C, 6, none⟩ = some (.int .i64 0)) := cal_blk (blkD (blkD (blkD (blkD hC6 (Keeps.drew None wc) (fun f => f)) (Keeps.alloc None wc.drew _) (fun f => f)) hk1 (fun e => HNC.out e)) (Keeps.setCell (S := (· = P)) w1 (a := ⟨P, 5, none⟩) rfl _) (fun e => hN.2.2.1 e))
      have HC3 : Hid ((wc.alloc (.cells #[.int .i64 0, .int .i64 t.kind, .int .i64 0, .int .i64 n, .int .i64 (-1), .int .i64 0, .int .i64 0] 45)).cell? ⟨C, 0, none⟩ = some (.int .i64 0) ∧ (wc.alloc (.cells #[.int .i64 0, .int .i64 t.kind, .int .i64 0, .int .i64 n, .int .i64 (-1), .int .i64 0, .int .i64 0] 45)).cell? ⟨C, 1, none⟩ = some (.int .i64 t.kind) ∧ (wc.alloc (.cells #[.int .i64 0, .int .i64 t.kind, .int .i64 0, .int .i64 n, .int .i64 (-1), .int .i64 0, .int .i64 0] 45)).cell? ⟨C, 2, none⟩ = some (.int .i64 0) ∧ (wc.alloc (.cells #[.int .i64 0, .int .i64 t.kind, .int .i64 0, .int .i64 n, .int .i64 (-1), .int .i64 0, .int .i64 0] 45)).cell? ⟨C, 3, none⟩ = some (.int .i64 n) ∧ (wc.alloc (.cells #[.int .i64 0, .int .i64 t.kind, .int .i64 0, .int .i64 n, .int .i64 (-1), .int .i64 0, .int .i64 0] 45)).cell? ⟨C, 4, none⟩ = some (.int .i64 (-1)) ∧ (wc.alloc (.cells #[.int .i64 0, .int .i64 t.kind, .int .i64 0, .int .i64 n, .int .i64 (-1), .int .i64 0, .int .i64 0] 45)).cell? ⟨C, 5, none⟩ = some (.int .i64 0) ∧ (wc.alloc (.cells #[.int .i64 0, .int .i64 t.kind, .int .i64 0, .int .i64 n, .int .i64 (-1), .int .i64 0, .int .i64 0] 45)).cell? ⟨C, 6, none⟩ = some (.int .i64 0)) := cal_blk (blkD hC6 (Keeps.alloc None wc _) (fun f => f))
      have HJ : Hid _ := hJ
      clear h6 hC6 h7 ho hgr hm hk1 hJ hP1
      go_upto_region 14 with fail
      go_cut [90] (fun s90 wx => IsDp w0 wx P p F (some ⟨b, o2, none⟩) d (.slice (some ⟨g, 0, none⟩) S.acts.length c) (.slice (some ⟨gc, 0, none⟩) (S.calls.length + 1) cg) { S with todos := ts, acts := S.acts.set 0 ⟨popO S.base S.most, S.calls.length⟩, calls := S.calls ++ [⟨0, t.kind, 0, n, -1, 0, 0⟩] })
      case first =>
        refine wp_region_held_drew (S := (fun w' => w'.cell? ⟨C, 0, none⟩ = some (.int .i64 0) ∧ w'.cell? ⟨C, 1, none⟩ = some (.int .i64 t.kind) ∧ w'.cell? ⟨C, 2, none⟩ = some (.int .i64 0) ∧ w'.cell? ⟨C, 3, none⟩ = some (.int .i64 n) ∧ w'.cell? ⟨C, 4, none⟩ = some (.int .i64 (-1)) ∧ w'.cell? ⟨C, 5, none⟩ = some (.int .i64 0) ∧ w'.cell? ⟨C, 6, none⟩ = some (.int .i64 0))) (by kernel_rfl) ?_ (fun hHeld => ?_)
        · (try dsimp only); (first | exact HC0.out | exact HC3.out | exact HC1.out | exact HC2.out | go_keep)
        refine wpAnyH_take (i := 0) (oi := { dst := some 81, op := Op.move (Operand.tmp 0), type := 115, pos := "play.go:96", after := #[], guard := none }) (v := ?_) rfl (by kernel_rfl) (by kernel_rfl) (by kernel_rfl) (fun _ _ _ h => h) (Or.inl ⟨by rfl, ?_⟩) (by assumption) ?_
        rotate_left
        · (intro wz hSw; (try dsimp only at hSw); go_simp; try with_reducible rfl)
        simp only [Act.put, List.setIfInBounds_toArray, List.set_cons_zero, List.set_cons_succ]
        refine wpAnyH_take (i := 1) (oi := { dst := some 82, op := Op.move (Operand.tmp 0), type := 115, pos := "play.go:96", after := #[], guard := none }) (v := ?_) rfl (by kernel_rfl) (by kernel_rfl) (by kernel_rfl) (fun _ _ _ h => h) (Or.inl ⟨by rfl, ?_⟩) (by assumption) ?_
        rotate_left
        · (intro wz hSw; (try dsimp only at hSw); go_simp; try with_reducible rfl)
        simp only [Act.put, List.setIfInBounds_toArray, List.set_cons_zero, List.set_cons_succ]
        refine wpAnyH_take (i := 2) (oi := { dst := some 83, op := Op.nilCheck (Operand.tmp 82), type := 0, pos := "play.go:96", after := #[{ on := 1, ground := Ground.data }], guard := none }) (v := ?_) rfl (by kernel_rfl) (by kernel_rfl) (by kernel_rfl) (fun _ _ _ h => h) (Or.inl ⟨by rfl, ?_⟩) (by assumption) ?_
        rotate_left
        · (intro wz hSw; (try dsimp only at hSw); go_simp; try with_reducible rfl)
        simp only [Act.put, List.setIfInBounds_toArray, List.set_cons_zero, List.set_cons_succ]
        refine wpAnyH_take (i := 3) (oi := { dst := some 84, op := Op.fieldAddr 68 (Operand.tmp 83) 4, type := 0, pos := "play.go:96", after := #[{ on := 2, ground := Ground.data }], guard := none }) (v := ?_) rfl (by kernel_rfl) (by kernel_rfl) (by kernel_rfl) (fun _ _ _ h => h) (Or.inl ⟨by rfl, ?_⟩) (by assumption) ?_
        rotate_left
        · (intro wz hSw; (try dsimp only at hSw); go_simp; try with_reducible rfl)
        simp only [Act.put, List.setIfInBounds_toArray, List.set_cons_zero, List.set_cons_succ]
        refine wpAnyH_take (i := 5) (oi := { dst := some 86, op := Op.load 45 (Operand.tmp 9), type := 45, pos := "play.go:96", after := #[], guard := none }) (v := ?_) rfl (by kernel_rfl) (by kernel_rfl) (by kernel_rfl) (fun _ _ _ h => h) (Or.inl ⟨by rfl, ?_⟩) (by assumption) ?_
        rotate_left
        · (intro wz hSw; (try dsimp only at hSw); go_simp; try with_reducible rfl)
        simp only [Act.put, List.setIfInBounds_toArray, List.set_cons_zero, List.set_cons_succ]
        refine wpAnyH_ready (rs := [4, 6]) (by kernel_rfl) (by simp) ?_
        refine AllReadyH.cons (o := { dst := some 85, op := Op.load 28 (Operand.tmp 84), type := 28, pos := "play.go:96", after := #[{ on := 3, ground := Ground.data }], guard := none }) rfl (fun K hK => ?_) ?_
        · go_simp
          refine hK.out _ _ ?_ (fun hHeld2 => ?_)
          · (try dsimp only); (first | exact HC0.out | exact HC3.out | exact HC1.out | exact HC2.out | go_keep)
          clear hK K
          try simp only [Act.put, List.setIfInBounds_toArray, List.set_cons_zero, List.set_cons_succ]
          refine wpAnyH_ready (rs := [6]) (by kernel_rfl) (by simp) ?_
          refine AllReadyH.cons (o := { dst := some 87, op := Op.buildSlice 28 1 #[(0, Operand.tmp 86)], type := 28, pos := "play.go:96", after := #[{ on := 5, ground := Ground.data }], guard := none }) rfl (fun K hK => ?_) ?_
          · go_simp
            refine hK.out _ _ ?_ (fun hHeld2 => ?_)
            · (try dsimp only); (first | exact HC0.out | exact HC3.out | exact HC1.out | exact HC2.out | go_keep)
            clear hK K
            try simp only [Act.put, List.setIfInBounds_toArray, List.set_cons_zero, List.set_cons_succ]
            refine wpAnyH_ready (rs := [7]) (by kernel_rfl) (by simp) ?_
            refine AllReadyH.cons (o := { dst := some 88, op := Op.call { callee := Callee.builtin Builtin.append, args := #[Operand.tmp 85, Operand.tmp 87], argTypes := #[28, 28] }, type := 28, pos := "play.go:96", after := #[{ on := 4, ground := Ground.data }, { on := 6, ground := Ground.data }], guard := none }) rfl (fun K hK => ?_) ?_
            · refine step_append_run rfl (.tmp 85) (.tmp 87) 28 28 rfl (by simp [Act.eval]) (by simp [Act.eval]) hr ?_
              refine hK.out _ _ ?_ (fun hHeld2 => ?_)
              · (try dsimp only); (first | exact HC0.out | exact HC3.out | exact HC1.out | exact HC2.out | go_keep)
              clear hK K
              try simp only [Act.put, List.setIfInBounds_toArray, List.set_cons_zero, List.set_cons_succ]
              refine wpAnyH_take (i := 8) (oi := { dst := some 89, op := Op.nilCheck (Operand.tmp 81), type := 0, pos := "play.go:96", after := #[{ on := 0, ground := Ground.data }, { on := 0, ground := Ground.phase }, { on := 1, ground := Ground.phase }, { on := 2, ground := Ground.phase }, { on := 3, ground := Ground.phase }, { on := 4, ground := Ground.phase }, { on := 5, ground := Ground.phase }, { on := 6, ground := Ground.phase }, { on := 7, ground := Ground.phase }], guard := none }) (v := ?_) rfl (by kernel_rfl) (by kernel_rfl) (by kernel_rfl) (fun _ _ _ h => h) (Or.inl ⟨by rfl, ?_⟩) (by assumption) ?_
              rotate_left
              · (intro wz hSw; (try dsimp only at hSw); go_simp; try with_reducible rfl)
              simp only [Act.put, List.setIfInBounds_toArray, List.set_cons_zero, List.set_cons_succ]
              refine wpAnyH_take (i := 9) (oi := { dst := some 90, op := Op.fieldAddr 68 (Operand.tmp 89) 4, type := 0, pos := "play.go:96", after := #[{ on := 8, ground := Ground.data }, { on := 0, ground := Ground.phase }, { on := 1, ground := Ground.phase }, { on := 2, ground := Ground.phase }, { on := 3, ground := Ground.phase }, { on := 4, ground := Ground.phase }, { on := 5, ground := Ground.phase }, { on := 6, ground := Ground.phase }, { on := 7, ground := Ground.phase }], guard := none }) (v := ?_) rfl (by kernel_rfl) (by kernel_rfl) (by kernel_rfl) (fun _ _ _ h => h) (Or.inl ⟨by rfl, ?_⟩) (by assumption) ?_
              rotate_left
              · (intro wz hSw; (try dsimp only at hSw); go_simp; try with_reducible rfl)
              simp only [Act.put, List.setIfInBounds_toArray, List.set_cons_zero, List.set_cons_succ]
              refine wpAnyH_ready (rs := [10]) (by kernel_rfl) (by simp) ?_
              refine AllReadyH.cons (o := { dst := none, op := Op.store 28 (Operand.tmp 90) (Operand.tmp 88), type := 0, pos := "play.go:96", after := #[{ on := 9, ground := Ground.data }, { on := 7, ground := Ground.data }, { on := 7, ground := Ground.chain }, { on := 0, ground := Ground.phase }, { on := 1, ground := Ground.phase }, { on := 2, ground := Ground.phase }, { on := 3, ground := Ground.phase }, { on := 4, ground := Ground.phase }, { on := 5, ground := Ground.phase }, { on := 6, ground := Ground.phase }, { on := 7, ground := Ground.phase }], guard := none }) rfl (fun K hK => ?_) ?_
              · go_simp
                refine hK.out _ _ ?_ (fun hHeld2 => ?_)
                · (try dsimp only); (first | exact HC0.out | exact HC3.out | exact HC1.out | exact HC2.out | go_keep)
                clear hK K
                try simp only [Act.put, List.setIfInBounds_toArray, List.set_cons_zero, List.set_cons_succ]
                refine wpAnyH_done (by kernel_rfl) ?_ _
                go_wp2_with fail
                go_meet
                exact HJ.out
              exact AllReadyH.nil
            exact AllReadyH.nil
          exact AllReadyH.nil
        refine AllReadyH.cons (o := { dst := some 87, op := Op.buildSlice 28 1 #[(0, Operand.tmp 86)], type := 28, pos := "play.go:96", after := #[{ on := 5, ground := Ground.data }], guard := none }) rfl (fun K hK => ?_) ?_
        · go_simp
          refine hK.out _ _ ?_ (fun hHeld2 => ?_)
          · (try dsimp only); (first | exact HC0.out | exact HC3.out | exact HC1.out | exact HC2.out | go_keep)
          clear hK K
          try simp only [Act.put, List.setIfInBounds_toArray, List.set_cons_zero, List.set_cons_succ]
          refine wpAnyH_ready (rs := [4]) (by kernel_rfl) (by simp) ?_
          refine AllReadyH.cons (o := { dst := some 85, op := Op.load 28 (Operand.tmp 84), type := 28, pos := "play.go:96", after := #[{ on := 3, ground := Ground.data }], guard := none }) rfl (fun K hK => ?_) ?_
          · go_simp
            refine hK.out _ _ ?_ (fun hHeld2 => ?_)
            · (try dsimp only); (first | exact HC0.out | exact HC3.out | exact HC1.out | exact HC2.out | go_keep)
            clear hK K
            try simp only [Act.put, List.setIfInBounds_toArray, List.set_cons_zero, List.set_cons_succ]
            refine wpAnyH_ready (rs := [7]) (by kernel_rfl) (by simp) ?_
            refine AllReadyH.cons (o := { dst := some 88, op := Op.call { callee := Callee.builtin Builtin.append, args := #[Operand.tmp 85, Operand.tmp 87], argTypes := #[28, 28] }, type := 28, pos := "play.go:96", after := #[{ on := 4, ground := Ground.data }, { on := 6, ground := Ground.data }], guard := none }) rfl (fun K hK => ?_) ?_
            · refine step_append_run rfl (.tmp 85) (.tmp 87) 28 28 rfl (by simp [Act.eval]) (by simp [Act.eval]) hr ?_
              refine hK.out _ _ ?_ (fun hHeld2 => ?_)
              · (try dsimp only); (first | exact HC0.out | exact HC3.out | exact HC1.out | exact HC2.out | go_keep)
              clear hK K
              try simp only [Act.put, List.setIfInBounds_toArray, List.set_cons_zero, List.set_cons_succ]
              refine wpAnyH_take (i := 8) (oi := { dst := some 89, op := Op.nilCheck (Operand.tmp 81), type := 0, pos := "play.go:96", after := #[{ on := 0, ground := Ground.data }, { on := 0, ground := Ground.phase }, { on := 1, ground := Ground.phase }, { on := 2, ground := Ground.phase }, { on := 3, ground := Ground.phase }, { on := 4, ground := Ground.phase }, { on := 5, ground := Ground.phase }, { on := 6, ground := Ground.phase }, { on := 7, ground := Ground.phase }], guard := none }) (v := ?_) rfl (by kernel_rfl) (by kernel_rfl) (by kernel_rfl) (fun _ _ _ h => h) (Or.inl ⟨by rfl, ?_⟩) (by assumption) ?_
              rotate_left
              · (intro wz hSw; (try dsimp only at hSw); go_simp; try with_reducible rfl)
              simp only [Act.put, List.setIfInBounds_toArray, List.set_cons_zero, List.set_cons_succ]
              refine wpAnyH_take (i := 9) (oi := { dst := some 90, op := Op.fieldAddr 68 (Operand.tmp 89) 4, type := 0, pos := "play.go:96", after := #[{ on := 8, ground := Ground.data }, { on := 0, ground := Ground.phase }, { on := 1, ground := Ground.phase }, { on := 2, ground := Ground.phase }, { on := 3, ground := Ground.phase }, { on := 4, ground := Ground.phase }, { on := 5, ground := Ground.phase }, { on := 6, ground := Ground.phase }, { on := 7, ground := Ground.phase }], guard := none }) (v := ?_) rfl (by kernel_rfl) (by kernel_rfl) (by kernel_rfl) (fun _ _ _ h => h) (Or.inl ⟨by rfl, ?_⟩) (by assumption) ?_
              rotate_left
              · (intro wz hSw; (try dsimp only at hSw); go_simp; try with_reducible rfl)
              simp only [Act.put, List.setIfInBounds_toArray, List.set_cons_zero, List.set_cons_succ]
              refine wpAnyH_ready (rs := [10]) (by kernel_rfl) (by simp) ?_
              refine AllReadyH.cons (o := { dst := none, op := Op.store 28 (Operand.tmp 90) (Operand.tmp 88), type := 0, pos := "play.go:96", after := #[{ on := 9, ground := Ground.data }, { on := 7, ground := Ground.data }, { on := 7, ground := Ground.chain }, { on := 0, ground := Ground.phase }, { on := 1, ground := Ground.phase }, { on := 2, ground := Ground.phase }, { on := 3, ground := Ground.phase }, { on := 4, ground := Ground.phase }, { on := 5, ground := Ground.phase }, { on := 6, ground := Ground.phase }, { on := 7, ground := Ground.phase }], guard := none }) rfl (fun K hK => ?_) ?_
              · go_simp
                refine hK.out _ _ ?_ (fun hHeld2 => ?_)
                · (try dsimp only); (first | exact HC0.out | exact HC3.out | exact HC1.out | exact HC2.out | go_keep)
                clear hK K
                try simp only [Act.put, List.setIfInBounds_toArray, List.set_cons_zero, List.set_cons_succ]
                refine wpAnyH_done (by kernel_rfl) ?_ _
                go_wp2_with fail
                go_meet
                exact HJ.out
              exact AllReadyH.nil
            exact AllReadyH.nil
          exact AllReadyH.nil
        exact AllReadyH.nil
      case rest =>
        have H9 : Hid _ := hcut
        clear hcut HJ HC0 HC1 HC2 HC3 hr d5 f5 c5 c5'
        go_wp2_with fail
        go_ret
        exact ⟨rfl, _, _, _, H9.out⟩
end Go.Proofs.Ytaeooljfilkaeaa
