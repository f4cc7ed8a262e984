import Derived.Test.YtaeooljfilkaeaaPkAJ
import Derived.Deep.RegionHeld3
import Derived.Deep.DeepCutAuto
import Derived.Deep.QuietTactic
import Derived.BigQuiet
import Derived.Deep.CutBlock
/-! Parts of an element of a row are written over. -/
namespace Go.Proofs.Ytaeooljfilkaeaa
open Go.RowKit Go.HeapKit Go.IntWalk

theorem rowVals_part {α : Type} {f : α → Array Value} {s : Nat} (hs : ∀ x, (f x).size = s) (l : List α) (i : Nat) (y : α) (hy : l[i]? = some y) (j : Nat) (vs : List Value) (hj : j + vs.length ≤ s) (x : α) (hx : (f x).toList = (f y).toList.take j ++ vs ++ (f y).toList.drop (j + vs.length)) :
    (rowVals f l).take (i * s + j) ++ vs ++ (rowVals f l).drop (i * s + j + vs.length) = rowVals f (l.set i x) := by
  induction l generalizing i with
  | nil => simp at hy
  | cons z l ih =>
    have e : rowVals f (z :: l) = (f z).toList ++ rowVals f l := rfl
    have hz : (f z).toList.length = s := by simp [hs]
    cases i with
    | zero =>
      simp at hy
      subst hy
      rw [e, Nat.zero_mul, Nat.zero_add, List.take_append_of_le_length (by omega), List.drop_append_of_le_length (by omega), List.set_cons_zero]
      show _ = (f x).toList ++ rowVals f l
      rw [hx]
      simp only [List.append_assoc]
    | succ i =>
      have h2 := ih i (by simpa using hy)
      rw [e, show (i + 1) * s + j = s + (i * s + j) by rw [Nat.add_mul]; omega, show s + (i * s + j) + vs.length = s + (i * s + j + vs.length) by omega, List.set_cons_succ]
      show _ = (f z).toList ++ rowVals f (l.set i x)
      rw [← h2, List.take_append, List.drop_append, hz, List.take_of_length_le (by omega), List.drop_of_length_le (by omega)]
      simp only [Nat.add_sub_cancel_left, List.nil_append, List.append_assoc]
section
variable {w0 w wx : World} {P p : Nat} {F : Nat → Prop} {ta : Option Addr} {tc : Nat} {va vc vc' : Value} {S : Dpl}
/-- An actor is written over in part. -/
theorem IsDp.actpart {g c i j L : Nat} (h : IsDp w0 w P p F ta tc (.slice (some ⟨g, 0, none⟩) L c) vc S) (hL : S.acts.length = L) (y : Dac) (hi : S.acts[i]? = some y) (vs : List Value) (hj : j + vs.length ≤ 14) (x : Dac) (hx : x.vals.toList = y.vals.toList.take j ++ vs ++ y.vals.toList.drop (j + vs.length)) :
    IsDp w0 (setsFrom w g (i * 14 + j) vs) P p F ta tc (.slice (some ⟨g, 0, none⟩) L c) vc { S with acts := S.acts.set i x } := by
  subst hL
  have hil := (List.getElem?_eq_some_iff.1 hi).1
  have hgb : (Value.slice (some ⟨g, 0, none⟩) S.acts.length c).ownBlock = some g := rfl
  have hk := setsFrom_keeps g vs (i * 14 + j) w
  refine ⟨(hk.block P h.lt (fun e => h.nP.1 (e ▸ hgb))).trans h.blk, h.ar.kept hk (fun k f e => h.off k f (.inr (.inl (e ▸ hgb)))), ?_, hk.own h.ca (fun k e e2 => h.nac (e2 ▸ hgb) e), h.off, h.kp.trans hk (fun k e hk => by have := h.lo g (.inr (.inr (.inl hgb))); omega), h.lo, h.td, h.fit⟩
  show (setsFrom w g (i * 14 + j) vs).ownsRow 0 121 14 (.slice (some ⟨g, 0, none⟩) S.acts.length c) (S.acts.set i x).length (rowVals Dac.vals (S.acts.set i x))
  rw [List.length_set, ← rowVals_part Dac.vals_size S.acts i y hi j vs hj x hx]
  exact own_sets8 h.ac (i * 14 + j) vs (by omega)
/-- A call is written over in part. -/
theorem IsDp.calpart {g c i j L : Nat} (h : IsDp w0 w P p F ta tc va (.slice (some ⟨g, 0, none⟩) L c) S) (hL : S.calls.length = L) (y : Cal) (hi : S.calls[i]? = some y) (vs : List Value) (hj : j + vs.length ≤ 7) (x : Cal) (hx : x.vals.toList = y.vals.toList.take j ++ vs ++ y.vals.toList.drop (j + vs.length)) :
    IsDp w0 (setsFrom w g (i * 7 + j) vs) P p F ta tc va (.slice (some ⟨g, 0, none⟩) L c) { S with calls := S.calls.set i x } := by
  subst hL
  have hil := (List.getElem?_eq_some_iff.1 hi).1
  have hgb : (Value.slice (some ⟨g, 0, none⟩) S.calls.length c).ownBlock = some g := rfl
  have hk := setsFrom_keeps g vs (i * 7 + j) w
  refine ⟨(hk.block P h.lt (fun e => h.nP.2 (e ▸ hgb))).trans h.blk, h.ar.kept hk (fun k f e => h.off k f (.inr (.inr (e ▸ hgb)))), hk.own h.ac (fun k e e2 => h.nac e (e2 ▸ hgb)), ?_, h.off, h.kp.trans hk (fun k e hk => by have := h.lo g (.inr (.inr (.inr hgb))); omega), h.lo, h.td, h.fit⟩
  show (setsFrom w g (i * 7 + j) vs).ownsRow 0 45 7 (.slice (some ⟨g, 0, none⟩) S.calls.length c) (S.calls.set i x).length (rowVals Cal.vals (S.calls.set i x))
  rw [List.length_set, ← rowVals_part Cal.vals_size S.calls i y hi j vs hj x hx]
  exact own_sets8 h.ca (i * 7 + j) vs (by omega)
/-- A call more. -/
theorem IsDp.called {w1 : World} {x : Cal} (h : IsDp w0 w P p F ta tc va vc S) (hk : Keeps (fun k => vc.ownBlock = some k) w w1) (hm : Moved w vc vc') (ho : w1.ownsRow 0 45 7 vc' (S.calls.length + 1) (rowVals Cal.vals (S.calls ++ [x]))) :
    IsDp w0 (w1.setCell ⟨P, 5, none⟩ vc') P p F ta tc va vc' { S with calls := S.calls ++ [x] } := by
  have hs := h.kp.size
  have hs1 := hk.size
  obtain ⟨n1, n2⟩ := h.nP
  have hb : w1.heap[P]? = _ := (hk.block P h.lt n2).trans h.blk
  have hkp : Keeps (· = P) w1 (w1.setCell ⟨P, 5, none⟩ vc') := Keeps.setCell (S := (· = P)) w1 (a := ⟨P, 5, none⟩) rfl _
  have hall : Keeps (fun k => vc.ownBlock = some k ∨ k = P) w (w1.setCell ⟨P, 5, none⟩ vc') := (hk.mono (fun _ f _ => .inl f)).trans hkp (fun _ e _ => .inr e)
  have hlP := h.lo P (.inr (.inl rfl))
  have hnP' : vc'.ownBlock ≠ some P := fun e => absurd (own_type ho e hb) (by decide)
  have hG : ∀ k, GDp P va vc' k → GDp P va vc k ∨ w.heap.size ≤ k := by
    intro k g
    rcases g with e | e | e
    · exact .inl (.inl e)
    · exact .inl (.inr (.inl e))
    · rcases hm with e2 | ⟨g, e2, hg⟩
      · exact .inl (.inr (.inr (e2 ▸ e)))
      · rw [e2] at e
        injection e with e
        exact .inr (by omega)
  refine ⟨(setCell_block hb vc').trans rfl, h.ar.kept hall (fun k f e => by rcases e with e | e; exact h.off k f (.inr (.inr e)); exact h.off k f (.inl e)), hall.own h.ac (fun k e e2 => by rcases e2 with e2 | e2; exact h.nac e e2; exact n1 (e2 ▸ e)), ?_, fun k f g => ?_, h.kp.trans hall (fun k e hk => by rcases e with e | e; have := h.lo k (.inr (.inr (.inr e))); omega; omega), fun k f => ?_, h.td, h.fit⟩
  · have := hkp.own ho (fun k e e2 => hnP' (e2 ▸ e))
    simpa using this
  · rcases hG k g with g | g
    · exact h.off k f g
    · have := h.ar.lt f; omega
  · rcases f with f | f
    · exact h.lo k (.inl f)
    · rcases hG k f with g | g
      · exact h.lo k (.inr g)
      · omega
end
end Go.Proofs.Ytaeooljfilkaeaa
/-! begin, where the owner has nothing to do. -/
namespace Go.Proofs.Ytaeooljfilkaeaa
open Go.RowKit Go.HeapKit Go.IntWalk

set_option maxHeartbeats 4000000 in
set_option maxRecDepth 100000 in
theorem dbegin_none (w0 w : World) (P p : Nat) (F : Nat → Prop) (ta : Option Addr) (tc : Nat) (va vc : Value) (S : Dpl) (g n : Nat) (o : Nat) (h : IsDp w0 w P p F ta tc va vc S) (ht : S.todos = []) :
    Calls Try.prog 47 #[.pointer (some ⟨P, 0, none⟩), .pointer (some ⟨g, o, none⟩), .int .i64 n, .int .i64 0] w fun e w' => e = .returned (.bool false) ∧ Keeps None w w' := by
  have hA := h.kept (Keeps.alloc None w (.cells #[.int .i64 0, .int .i64 2, .int .i64 0, .int .i64 n, .int .i64 (-1), .int .i64 0, .int .i64 0] 45))
  obtain ⟨⟨-, -, -, c3, -, -⟩, -⟩ := hA.cs
  rw [ht] at c3
  have b0 : ((0 : Int) != 0) = false := by decide
  clear h hA ht
  simp only [List.length_nil] at c3
  go_enter Try.func47, Try.ntmps47
  go_wp2
  go_ret
  exact ⟨rfl, (Keeps.refl None w).andAlloc _⟩
end Go.Proofs.Ytaeooljfilkaeaa
/-! begin, walked. -/
namespace Go.Proofs.Ytaeooljfilkaeaa
open Go.RowKit Go.HeapKit Go.IntWalk

theorem blkD {S : Nat → Prop} {w w' : World} {X : Nat} {o : Obj} (h : w.heap[X]? = some o) (hk : Keeps S w w') (hS : ¬ S X) : w'.heap[X]? = some o := (hk.block X (Array.getElem?_eq_some_iff.1 h).1 hS).trans h
theorem cal_blk {w : World} {X : Nat} {t : TypeId} {x0 x1 x2 x3 x4 x5 x6 : Value} (h : w.heap[X]? = some (.cells #[x0, x1, x2, x3, x4, x5, x6] t (0, 0))) : w.cell? ⟨X, 0, none⟩ = some x0 ∧ w.cell? ⟨X, 1, none⟩ = some x1 ∧ w.cell? ⟨X, 2, none⟩ = some x2 ∧ w.cell? ⟨X, 3, none⟩ = some x3 ∧ w.cell? ⟨X, 4, none⟩ = some x4 ∧ w.cell? ⟨X, 5, none⟩ = some x5 ∧ w.cell? ⟨X, 6, none⟩ = some x6 := ⟨cell_of_block h 0, cell_of_block h 1, cell_of_block h 2, cell_of_block h 3, cell_of_block h 4, cell_of_block h 5, cell_of_block h 6⟩
set_option maxHeartbeats 4000000 in
set_option maxRecDepth 100000 in
theorem dbegin_steal (w0 w : World) (P p : Nat) (F : Nat → Prop) (ta : Option Addr) (tc : Nat) (vc : Value) (S : Dpl) (g c n who : Nat) (h : IsDp w0 w P p F ta tc (.slice (some ⟨g, 0, none⟩) S.acts.length c) vc S) (hw : 0 < who) (hwl : who < S.acts.length) (hm : 1 ≤ S.most ∧ S.most ≤ 4096) (hlc : S.calls.length < 10000000) :
    Calls Try.prog 47 #[.pointer (some ⟨P, 0, none⟩), .pointer (some ⟨g, who * 14, none⟩), .int .i64 n, .int .i64 who] w fun e w' => e = .returned (.bool true) ∧
      ∃ vc', IsDp w0 w' P p F ta tc (.slice (some ⟨g, 0, none⟩) S.acts.length c) vc' { S with acts := S.acts.set who ⟨stealO S.base S.most, S.calls.length⟩, calls := S.calls ++ [⟨who, 2, 0, n, -1, 0, 0⟩] } := by
  have b0 : ((who : Int) != 0) = true := by simp; omega
  have hst := newSteal S.base S.most hm
  simp only [OpS.value, OpS.vals] at hst
  obtain ⟨a, ha⟩ : ∃ a, S.acts[who]? = some a := ⟨S.acts[who], by simp⟩
  obtain ⟨xc, cc, hvc⟩ := own_shape h.ca
  subst hvc
  have hA := h.kept (Keeps.alloc None w (.cells #[.int .i64 who, .int .i64 2, .int .i64 0, .int .i64 n, .int .i64 (-1), .int .i64 0, .int .i64 0] 45))
  have hC := new_at w (.cells #[.int .i64 who, .int .i64 2, .int .i64 0, .int .i64 n, .int .i64 (-1), .int .i64 0, .int .i64 0] 45) _ rfl
  have hN : ¬ F w.heap.size ∧ w.heap.size ≠ g ∧ w.heap.size ≠ P := by
    refine ⟨fun f => by have := h.ar.lt f; omega, ?_, ?_⟩
    · have : g < w.heap.size := own_lt h.ac rfl
      omega
    · have := h.lt; omega
  obtain ⟨⟨c0, c1, c2, c3, c4, c5⟩, -⟩ := hA.cs
  have HA : Hid _ := And.intro hA hC
  have HN : Hid _ := hN
  have HNC : Hid (¬ (Value.slice xc S.calls.length cc).ownBlock = some w.heap.size) := fun e => by have := own_lt h.ca e; omega
  have HX : Hid _ := ha
  have HWL : Hid _ := And.intro hwl hlc
  clear h hm hA hC hN ha hwl hlc hw
  go_enter Try.func47, Try.ntmps47
  go_upto_block 0 with fail
  generalize (w.alloc (.cells #[.int .i64 who, .int .i64 2, .int .i64 0, .int .i64 n, .int .i64 (-1), .int .i64 0, .int .i64 0] 45)) = wA at HA c0 c1 c2 c3 c4 c5 ⊢
  generalize w.heap.size = C at HA HN HNC ⊢
  go_cut [65] (fun s65 wx => IsDp w0 wx P p F ta tc (.slice (some ⟨g, 0, none⟩) S.acts.length c) (.slice xc S.calls.length cc) { S with acts := S.acts.set who ⟨stealO S.base S.most, a.call⟩ } ∧ wx.heap[C]? = some (.cells #[.int .i64 who, .int .i64 2, .int .i64 0, .int .i64 n, .int .i64 (-1), .int .i64 0, .int .i64 0] 45))
  case first =>
    go_wp2_with fail
    refine (hst _).mono ?_
    rintro e w2 ⟨rfl, hk2⟩
    have h2 := HA.out.1.kept hk2
    obtain ⟨⟨k0, k1, k2, k3, k4, k5, k6, k7, k8, k9, k10, k11, k12, k13⟩, ⟨f0, f1, f2, f3, f4, f5, f6, f7, f8, f9, f10, f11, f12, f13⟩⟩ := act_atD h2 rfl HX.out
    have h3 := h2.actpart (j := 0) rfl a HX.out (stealO S.base S.most).vals.toList (show 13 ≤ 14 by omega) ⟨stealO S.base S.most, a.call⟩ rfl
    have hC3 := blkD (blkD HA.out.2 hk2 (fun f => f)) (setsFrom_keeps g (stealO S.base S.most).vals.toList (who * 14 + 0) w2) (fun e => HN.out.2.1 e)
    have H3 : Hid _ := And.intro h3 hC3
    clear h2 h3 hC3 hk2 hst c0 c1 c2 c3 c4 c5
    go_wp2_with fail
    go_meet
    exact H3.out
  case rest =>
    obtain ⟨h4, hC4⟩ := hcut
    obtain ⟨⟨c0, c1, c2, c3, c4, c5⟩, -⟩ := h4.cs
    have hset : ({ S with acts := S.acts.set who ⟨stealO S.base S.most, a.call⟩ } : Dpl).acts[who]? = some ⟨stealO S.base S.most, a.call⟩ := List.getElem?_set_self HWL.out.1
    obtain ⟨⟨k0, k1, k2, k3, k4, k5, k6, k7, k8, k9, k10, k11, k12, k13⟩, ⟨f0, f1, f2, f3, f4, f5, f6, f7, f8, f9, f10, f11, f12, f13⟩⟩ := act_atD h4 (by simp) hset
    have h5 := h4.actpart (j := 13) (by simp) _ hset [.int .i64 (S.calls.length : Int)] (show 14 ≤ 14 by omega) ⟨stealO S.base S.most, S.calls.length⟩ rfl
    have hC5 := blkD hC4 (setsFrom_keeps g [.int .i64 (S.calls.length : Int)] (who * 14 + 13) wc) (fun e => HN.out.2.1 e)
    simp only [List.set_set] at h5
    have H5 : Hid _ := And.intro h5 hC5
    clear h4 h5 hC4 hC5 hset HA HX hst
    go_upto_region 13 with fail
    go_cut [80] (fun s80 wx => IsDp w0 wx P p F ta tc (.slice (some ⟨g, 0, none⟩) S.acts.length c) (.slice xc S.calls.length cc) { S with acts := S.acts.set who ⟨stealO S.base S.most, S.calls.length⟩ } ∧ wx.heap[C]? = some (.cells #[.int .i64 who, .int .i64 2, .int .i64 0, .int .i64 n, .int .i64 (-1), .int .i64 0, .int .i64 0] 45))
    case first =>
      go_wp2_with fail
      go_meet
      exact H5.out
    case rest =>
      obtain ⟨h6, hC6⟩ := hcut
      clear c0 c1 c2 c3 c4 c5 k0 k1 k2 k3 k4 k5 k6 k7 k8 k9 k10 k11 k12 k13 f0 f1 f2 f3 f4 f5 f6 f7 f8 f9 f10 f11 f12 f13 H5
      have c5 := h6.cs.1.2.2.2.2.2
      have c5' := (h6.kept (Keeps.alloc None wc (.cells #[.int .i64 who, .int .i64 2, .int .i64 0, .int .i64 n, .int .i64 (-1), .int .i64 0, .int .i64 0] 45))).cs.1.2.2.2.2.2
      have h7 := (h6.kept (Keeps.drew None wc)).kept (Keeps.alloc None wc.drew (.cells #[.int .i64 who, .int .i64 2, .int .i64 0, .int .i64 n, .int .i64 (-1), .int .i64 0, .int .i64 0] 45))
      obtain ⟨gc, cg, w1, hr, ho, hgr, hm⟩ := cal_append (.slice xc S.calls.length cc) S.calls ⟨who, 2, 0, n, -1, 0, 0⟩ wc.heap.size 28 _ h7.ca HWL.out.2 (new_at wc.drew _ _ rfl)
      have hk1 := Keeps.grown (S := fun k => (Value.slice xc S.calls.length cc).ownBlock = some k) hgr (fun _ e => e)
      have hJ := h7.called hk1 hm ho
      have hP1 := (hk1.block P h7.lt h7.nP.2).trans h7.blk
      have d5 : w1.cell? ⟨P, 5, none⟩ = some (.slice xc S.calls.length cc) := (cell_of_block hP1 5).trans rfl
      have f5 := free_of_block hP1 5
      have HC0 : Hid (wc.cell? ⟨C, 0, none⟩ = some (.int .i64 who) ∧ wc.cell? ⟨C, 1, none⟩ = some (.int .i64 2) ∧ wc.cell? ⟨C, 2, none⟩ = some (.int .i64 0) ∧ wc.cell? ⟨C, 3, none⟩ = some (.int .i64 n) ∧ wc.cell? ⟨C, 4, none⟩ = some (.int .i64 (-1)) ∧ wc.cell? ⟨C, 5, none⟩ = some (.int .i64 0) ∧ wc.cell? ⟨C, 6, none⟩ = some (.int .i64 0)) := cal_blk hC6
      have HC1 : Hid (w1.cell? ⟨C, 0, none⟩ = some (.int .i64 who) ∧ w1.cell? ⟨C, 1, none⟩ = some (.int .i64 2) ∧ w1.cell? ⟨C, 2, none⟩ = some (.int .i64 0) ∧ w1.cell? ⟨C, 3, none⟩ = some (.int .i64 n) ∧ w1.cell? ⟨C, 4, none⟩ = some (.int .i64 (-1)) ∧ w1.cell? ⟨C, 5, none⟩ = some (.int .i64 0) ∧ w1.cell? ⟨C, 6, none⟩ = some (.int .i64 0)) := cal_blk (blkD (blkD (blkD hC6 (Keeps.drew None wc) (fun f => f)) (Keeps.alloc None wc.drew _) (fun f => f)) hk1 (fun e => HNC.out e))
      have HC2 : Hid ((w1.setCell ⟨P, 5, none⟩ (.slice (some ⟨gc, 0, none⟩) (S.calls.length + 1) cg)).cell? ⟨C, 0, none⟩ = some (.int .i64 who) ∧ (w1.setCell ⟨P, 5, none⟩ (.slice (some ⟨gc, 0, none⟩) (S.calls.length + 1) cg)).cell? ⟨C, 1, none⟩ = some (.int .i64 2) ∧ (w1.setCell ⟨P, 5, none⟩ (.slice (some ⟨gc, 0, none⟩) (S.calls.length + 1) cg)).cell? ⟨C, 2, none⟩ = some (.int .i64 0) ∧ (w1.setCell ⟨P, 5, none⟩ (.slice (some ⟨gc, 0, none⟩) (S.calls.length + 1) cg)).cell? ⟨C, 3, none⟩ = some (.int .i64 n) ∧ (w1.setCell ⟨P, 5, none⟩ (.slice (some ⟨gc, 0, none⟩) (S.calls.length + 1) cg)).cell? ⟨C, 4, none⟩ = some (.int .i64 (-1)) ∧ (w1.setCell ⟨P, 5, none⟩ (.slice (some ⟨gc, 0, none⟩) (S.calls.length + 1) cg)).cell? ⟨C, 5, none⟩ = some (.int .i64 0) ∧ (w1.setCell ⟨P, 5, none⟩ (.slice (some ⟨gc, 0, none⟩) (S.calls.length + 1) cg)).cell? ⟨C, 6, none⟩ = some (.int .i64 0)) := cal_blk (blkD (blkD (blkD (blkD hC6 (Keeps.drew None wc) (fun f => f)) (Keeps.alloc None wc.drew _) (fun f => f)) hk1 (fun e => HNC.out e)) (Keeps.setCell (S := (· = P)) w1 (a := ⟨P, 5, none⟩) rfl _) (fun e => HN.out.2.2 e))
      have HC3 : Hid ((wc.alloc (.cells #[.int .i64 who, .int .i64 2, .int .i64 0, .int .i64 n, .int .i64 (-1), .int .i64 0, .int .i64 0] 45)).cell? ⟨C, 0, none⟩ = some (.int .i64 who) ∧ (wc.alloc (.cells #[.int .i64 who, .int .i64 2, .int .i64 0, .int .i64 n, .int .i64 (-1), .int .i64 0, .int .i64 0] 45)).cell? ⟨C, 1, none⟩ = some (.int .i64 2) ∧ (wc.alloc (.cells #[.int .i64 who, .int .i64 2, .int .i64 0, .int .i64 n, .int .i64 (-1), .int .i64 0, .int .i64 0] 45)).cell? ⟨C, 2, none⟩ = some (.int .i64 0) ∧ (wc.alloc (.cells #[.int .i64 who, .int .i64 2, .int .i64 0, .int .i64 n, .int .i64 (-1), .int .i64 0, .int .i64 0] 45)).cell? ⟨C, 3, none⟩ = some (.int .i64 n) ∧ (wc.alloc (.cells #[.int .i64 who, .int .i64 2, .int .i64 0, .int .i64 n, .int .i64 (-1), .int .i64 0, .int .i64 0] 45)).cell? ⟨C, 4, none⟩ = some (.int .i64 (-1)) ∧ (wc.alloc (.cells #[.int .i64 who, .int .i64 2, .int .i64 0, .int .i64 n, .int .i64 (-1), .int .i64 0, .int .i64 0] 45)).cell? ⟨C, 5, none⟩ = some (.int .i64 0) ∧ (wc.alloc (.cells #[.int .i64 who, .int .i64 2, .int .i64 0, .int .i64 n, .int .i64 (-1), .int .i64 0, .int .i64 0] 45)).cell? ⟨C, 6, none⟩ = some (.int .i64 0)) := cal_blk (blkD hC6 (Keeps.alloc None wc _) (fun f => f))
      have HJ : Hid _ := hJ
      clear h6 hC6 h7 ho hgr hm hk1 hJ hP1
      go_upto_region 14 with fail
      go_cut [90] (fun s90 wx => IsDp w0 wx P p F ta tc (.slice (some ⟨g, 0, none⟩) S.acts.length c) (.slice (some ⟨gc, 0, none⟩) (S.calls.length + 1) cg) { S with acts := S.acts.set who ⟨stealO S.base S.most, S.calls.length⟩, calls := S.calls ++ [⟨who, 2, 0, n, -1, 0, 0⟩] })
      case first =>
        refine wp_region_held_drew (S := (fun w' => w'.cell? ⟨C, 0, none⟩ = some (.int .i64 who) ∧ w'.cell? ⟨C, 1, none⟩ = some (.int .i64 2) ∧ w'.cell? ⟨C, 2, none⟩ = some (.int .i64 0) ∧ w'.cell? ⟨C, 3, none⟩ = some (.int .i64 n) ∧ w'.cell? ⟨C, 4, none⟩ = some (.int .i64 (-1)) ∧ w'.cell? ⟨C, 5, none⟩ = some (.int .i64 0) ∧ w'.cell? ⟨C, 6, none⟩ = some (.int .i64 0))) (by kernel_rfl) ?_ (fun hHeld => ?_)
        · (try dsimp only); (first | exact HC0.out | exact HC3.out | exact HC1.out | exact HC2.out | go_keep)
        refine wpAnyH_take (i := 0) (oi := { dst := some 81, op := Op.move (Operand.tmp 0), type := 115, pos := "play.go:96", after := #[], guard := none }) (v := ?_) rfl (by kernel_rfl) (by kernel_rfl) (by kernel_rfl) (fun _ _ _ h => h) (Or.inl ⟨by rfl, ?_⟩) (by assumption) ?_
        rotate_left
        · (intro wz hSw; (try dsimp only at hSw); go_simp; try with_reducible rfl)
        simp only [Act.put, List.setIfInBounds_toArray, List.set_cons_zero, List.set_cons_succ]
        refine wpAnyH_take (i := 1) (oi := { dst := some 82, op := Op.move (Operand.tmp 0), type := 115, pos := "play.go:96", after := #[], guard := none }) (v := ?_) rfl (by kernel_rfl) (by kernel_rfl) (by kernel_rfl) (fun _ _ _ h => h) (Or.inl ⟨by rfl, ?_⟩) (by assumption) ?_
        rotate_left
        · (intro wz hSw; (try dsimp only at hSw); go_simp; try with_reducible rfl)
        simp only [Act.put, List.setIfInBounds_toArray, List.set_cons_zero, List.set_cons_succ]
        refine wpAnyH_take (i := 2) (oi := { dst := some 83, op := Op.nilCheck (Operand.tmp 82), type := 0, pos := "play.go:96", after := #[{ on := 1, ground := Ground.data }], guard := none }) (v := ?_) rfl (by kernel_rfl) (by kernel_rfl) (by kernel_rfl) (fun _ _ _ h => h) (Or.inl ⟨by rfl, ?_⟩) (by assumption) ?_
        rotate_left
        · (intro wz hSw; (try dsimp only at hSw); go_simp; try with_reducible rfl)
        simp only [Act.put, List.setIfInBounds_toArray, List.set_cons_zero, List.set_cons_succ]
        refine wpAnyH_take (i := 3) (oi := { dst := some 84, op := Op.fieldAddr 68 (Operand.tmp 83) 4, type := 0, pos := "play.go:96", after := #[{ on := 2, ground := Ground.data }], guard := none }) (v := ?_) rfl (by kernel_rfl) (by kernel_rfl) (by kernel_rfl) (fun _ _ _ h => h) (Or.inl ⟨by rfl, ?_⟩) (by assumption) ?_
        rotate_left
        · (intro wz hSw; (try dsimp only at hSw); go_simp; try with_reducible rfl)
        simp only [Act.put, List.setIfInBounds_toArray, List.set_cons_zero, List.set_cons_succ]
        refine wpAnyH_take (i := 5) (oi := { dst := some 86, op := Op.load 45 (Operand.tmp 9), type := 45, pos := "play.go:96", after := #[], guard := none }) (v := ?_) rfl (by kernel_rfl) (by kernel_rfl) (by kernel_rfl) (fun _ _ _ h => h) (Or.inl ⟨by rfl, ?_⟩) (by assumption) ?_
        rotate_left
        · (intro wz hSw; (try dsimp only at hSw); go_simp; try with_reducible rfl)
        simp only [Act.put, List.setIfInBounds_toArray, List.set_cons_zero, List.set_cons_succ]
        refine wpAnyH_ready (rs := [4, 6]) (by kernel_rfl) (by simp) ?_
        refine AllReadyH.cons (o := { dst := some 85, op := Op.load 28 (Operand.tmp 84), type := 28, pos := "play.go:96", after := #[{ on := 3, ground := Ground.data }], guard := none }) rfl (fun K hK => ?_) ?_
        · go_simp
          refine hK.out _ _ ?_ (fun hHeld2 => ?_)
          · (try dsimp only); (first | exact HC0.out | exact HC3.out | exact HC1.out | exact HC2.out | go_keep)
          clear hK K
          try simp only [Act.put, List.setIfInBounds_toArray, List.set_cons_zero, List.set_cons_succ]
          refine wpAnyH_ready (rs := [6]) (by kernel_rfl) (by simp) ?_
          refine AllReadyH.cons (o := { dst := some 87, op := Op.buildSlice 28 1 #[(0, Operand.tmp 86)], type := 28, pos := "play.go:96", after := #[{ on := 5, ground := Ground.data }], guard := none }) rfl (fun K hK => ?_) ?_
          · go_simp
            refine hK.out _ _ ?_ (fun hHeld2 => ?_)
            · (try dsimp only); (first | exact HC0.out | exact HC3.out | exact HC1.out | exact HC2.out | go_keep)
            clear hK K
            try simp only [Act.put, List.setIfInBounds_toArray, List.set_cons_zero, List.set_cons_succ]
            refine wpAnyH_ready (rs := [7]) (by kernel_rfl) (by simp) ?_
            refine AllReadyH.cons (o := { dst := some 88, op := Op.call { callee := Callee.builtin Builtin.append, args := #[Operand.tmp 85, Operand.tmp 87], argTypes := #[28, 28] }, type := 28, pos := "play.go:96", after := #[{ on := 4, ground := Ground.data }, { on := 6, ground := Ground.data }], guard := none }) rfl (fun K hK => ?_) ?_
            · refine step_append_run rfl (.tmp 85) (.tmp 87) 28 28 rfl (by simp [Act.eval]) (by simp [Act.eval]) hr ?_
              refine hK.out _ _ ?_ (fun hHeld2 => ?_)
              · (try dsimp only); (first | exact HC0.out | exact HC3.out | exact HC1.out | exact HC2.out | go_keep)
              clear hK K
              try simp only [Act.put, List.setIfInBounds_toArray, List.set_cons_zero, List.set_cons_succ]
              refine wpAnyH_take (i := 8) (oi := { dst := some 89, op := Op.nilCheck (Operand.tmp 81), type := 0, pos := "play.go:96", after := #[{ on := 0, ground := Ground.data }, { on := 0, ground := Ground.phase }, { on := 1, ground := Ground.phase }, { on := 2, ground := Ground.phase }, { on := 3, ground := Ground.phase }, { on := 4, ground := Ground.phase }, { on := 5, ground := Ground.phase }, { on := 6, ground := Ground.phase }, { on := 7, ground := Ground.phase }], guard := none }) (v := ?_) rfl (by kernel_rfl) (by kernel_rfl) (by kernel_rfl) (fun _ _ _ h => h) (Or.inl ⟨by rfl, ?_⟩) (by assumption) ?_
              rotate_left
              · (intro wz hSw; (try dsimp only at hSw); go_simp; try with_reducible rfl)
              simp only [Act.put, List.setIfInBounds_toArray, List.set_cons_zero, List.set_cons_succ]
              refine wpAnyH_take (i := 9) (oi := { dst := some 90, op := Op.fieldAddr 68 (Operand.tmp 89) 4, type := 0, pos := "play.go:96", after := #[{ on := 8, ground := Ground.data }, { on := 0, ground := Ground.phase }, { on := 1, ground := Ground.phase }, { on := 2, ground := Ground.phase }, { on := 3, ground := Ground.phase }, { on := 4, ground := Ground.phase }, { on := 5, ground := Ground.phase }, { on := 6, ground := Ground.phase }, { on := 7, ground := Ground.phase }], guard := none }) (v := ?_) rfl (by kernel_rfl) (by kernel_rfl) (by kernel_rfl) (fun _ _ _ h => h) (Or.inl ⟨by rfl, ?_⟩) (by assumption) ?_
              rotate_left
              · (intro wz hSw; (try dsimp only at hSw); go_simp; try with_reducible rfl)
              simp only [Act.put, List.setIfInBounds_toArray, List.set_cons_zero, List.set_cons_succ]
              refine wpAnyH_ready (rs := [10]) (by kernel_rfl) (by simp) ?_
              refine AllReadyH.cons (o := { dst := none, op := Op.store 28 (Operand.tmp 90) (Operand.tmp 88), type := 0, pos := "play.go:96", after := #[{ on := 9, ground := Ground.data }, { on := 7, ground := Ground.data }, { on := 7, ground := Ground.chain }, { on := 0, ground := Ground.phase }, { on := 1, ground := Ground.phase }, { on := 2, ground := Ground.phase }, { on := 3, ground := Ground.phase }, { on := 4, ground := Ground.phase }, { on := 5, ground := Ground.phase }, { on := 6, ground := Ground.phase }, { on := 7, ground := Ground.phase }], guard := none }) rfl (fun K hK => ?_) ?_
              · go_simp
                refine hK.out _ _ ?_ (fun hHeld2 => ?_)
                · (try dsimp only); (first | exact HC0.out | exact HC3.out | exact HC1.out | exact HC2.out | go_keep)
                clear hK K
                try simp only [Act.put, List.setIfInBounds_toArray, List.set_cons_zero, List.set_cons_succ]
                refine wpAnyH_done (by kernel_rfl) ?_ _
                go_wp2_with fail
                go_meet
                exact HJ.out
              exact AllReadyH.nil
            exact AllReadyH.nil
          exact AllReadyH.nil
        refine AllReadyH.cons (o := { dst := some 87, op := Op.buildSlice 28 1 #[(0, Operand.tmp 86)], type := 28, pos := "play.go:96", after := #[{ on := 5, ground := Ground.data }], guard := none }) rfl (fun K hK => ?_) ?_
        · go_simp
          refine hK.out _ _ ?_ (fun hHeld2 => ?_)
          · (try dsimp only); (first | exact HC0.out | exact HC3.out | exact HC1.out | exact HC2.out | go_keep)
          clear hK K
          try simp only [Act.put, List.setIfInBounds_toArray, List.set_cons_zero, List.set_cons_succ]
          refine wpAnyH_ready (rs := [4]) (by kernel_rfl) (by simp) ?_
          refine AllReadyH.cons (o := { dst := some 85, op := Op.load 28 (Operand.tmp 84), type := 28, pos := "play.go:96", after := #[{ on := 3, ground := Ground.data }], guard := none }) rfl (fun K hK => ?_) ?_
          · go_simp
            refine hK.out _ _ ?_ (fun hHeld2 => ?_)
            · (try dsimp only); (first | exact HC0.out | exact HC3.out | exact HC1.out | exact HC2.out | go_keep)
            clear hK K
            try simp only [Act.put, List.setIfInBounds_toArray, List.set_cons_zero, List.set_cons_succ]
            refine wpAnyH_ready (rs := [7]) (by kernel_rfl) (by simp) ?_
            refine AllReadyH.cons (o := { dst := some 88, op := Op.call { callee := Callee.builtin Builtin.append, args := #[Operand.tmp 85, Operand.tmp 87], argTypes := #[28, 28] }, type := 28, pos := "play.go:96", after := #[{ on := 4, ground := Ground.data }, { on := 6, ground := Ground.data }], guard := none }) rfl (fun K hK => ?_) ?_
            · refine step_append_run rfl (.tmp 85) (.tmp 87) 28 28 rfl (by simp [Act.eval]) (by simp [Act.eval]) hr ?_
              refine hK.out _ _ ?_ (fun hHeld2 => ?_)
              · (try dsimp only); (first | exact HC0.out | exact HC3.out | exact HC1.out | exact HC2.out | go_keep)
              clear hK K
              try simp only [Act.put, List.setIfInBounds_toArray, List.set_cons_zero, List.set_cons_succ]
              refine wpAnyH_take (i := 8) (oi := { dst := some 89, op := Op.nilCheck (Operand.tmp 81), type := 0, pos := "play.go:96", after := #[{ on := 0, ground := Ground.data }, { on := 0, ground := Ground.phase }, { on := 1, ground := Ground.phase }, { on := 2, ground := Ground.phase }, { on := 3, ground := Ground.phase }, { on := 4, ground := Ground.phase }, { on := 5, ground := Ground.phase }, { on := 6, ground := Ground.phase }, { on := 7, ground := Ground.phase }], guard := none }) (v := ?_) rfl (by kernel_rfl) (by kernel_rfl) (by kernel_rfl) (fun _ _ _ h => h) (Or.inl ⟨by rfl, ?_⟩) (by assumption) ?_
              rotate_left
              · (intro wz hSw; (try dsimp only at hSw); go_simp; try with_reducible rfl)
              simp only [Act.put, List.setIfInBounds_toArray, List.set_cons_zero, List.set_cons_succ]
              refine wpAnyH_take (i := 9) (oi := { dst := some 90, op := Op.fieldAddr 68 (Operand.tmp 89) 4, type := 0, pos := "play.go:96", after := #[{ on := 8, ground := Ground.data }, { on := 0, ground := Ground.phase }, { on := 1, ground := Ground.phase }, { on := 2, ground := Ground.phase }, { on := 3, ground := Ground.phase }, { on := 4, ground := Ground.phase }, { on := 5, ground := Ground.phase }, { on := 6, ground := Ground.phase }, { on := 7, ground := Ground.phase }], guard := none }) (v := ?_) rfl (by kernel_rfl) (by kernel_rfl) (by kernel_rfl) (fun _ _ _ h => h) (Or.inl ⟨by rfl, ?_⟩) (by assumption) ?_
              rotate_left
              · (intro wz hSw; (try dsimp only at hSw); go_simp; try with_reducible rfl)
              simp only [Act.put, List.setIfInBounds_toArray, List.set_cons_zero, List.set_cons_succ]
              refine wpAnyH_ready (rs := [10]) (by kernel_rfl) (by simp) ?_
              refine AllReadyH.cons (o := { dst := none, op := Op.store 28 (Operand.tmp 90) (Operand.tmp 88), type := 0, pos := "play.go:96", after := #[{ on := 9, ground := Ground.data }, { on := 7, ground := Ground.data }, { on := 7, ground := Ground.chain }, { on := 0, ground := Ground.phase }, { on := 1, ground := Ground.phase }, { on := 2, ground := Ground.phase }, { on := 3, ground := Ground.phase }, { on := 4, ground := Ground.phase }, { on := 5, ground := Ground.phase }, { on := 6, ground := Ground.phase }, { on := 7, ground := Ground.phase }], guard := none }) rfl (fun K hK => ?_) ?_
              · go_simp
                refine hK.out _ _ ?_ (fun hHeld2 => ?_)
                · (try dsimp only); (first | exact HC0.out | exact HC3.out | exact HC1.out | exact HC2.out | go_keep)
                clear hK K
                try simp only [Act.put, List.setIfInBounds_toArray, List.set_cons_zero, List.set_cons_succ]
                refine wpAnyH_done (by kernel_rfl) ?_ _
                go_wp2_with fail
                go_meet
                exact HJ.out
              exact AllReadyH.nil
            exact AllReadyH.nil
          exact AllReadyH.nil
        exact AllReadyH.nil
      case rest =>
        have H9 : Hid _ := hcut
        clear hcut HJ HC0 HC1 HC2 HC3 hr d5 f5 c5 c5'
        go_wp2_with fail
        go_ret
        exact ⟨rfl, _, H9.out⟩
end Go.Proofs.Ytaeooljfilkaeaa
/-! begin: the owner's todos. -/
namespace Go.Proofs.Ytaeooljfilkaeaa
open Go.RowKit Go.HeapKit Go.IntWalk

section
variable {w0 w wx : World} {P p : Nat} {F : Nat → Prop} {ta : Option Addr} {tc : Nat} {va vc vc' : Value} {S : Dpl}
theorem IsDp.todone (h : IsDp w0 w P p F ta tc va vc S) (ta' : Option Addr) (tc' : Nat) (ts : List Tod) (htd : TodoAt w0 ta' ts) (hf : ts.length ≤ tc') :
    IsDp w0 (w.setCell ⟨P, 3, none⟩ (.slice ta' ts.length tc')) P p F ta' tc' va vc { S with todos := ts } := by
  obtain ⟨n1, n2⟩ := h.nP
  have hkp : Keeps (· = P) w (w.setCell ⟨P, 3, none⟩ (.slice ta' ts.length tc')) := Keeps.setCell (S := (· = P)) w (a := ⟨P, 3, none⟩) rfl _
  have hlP := h.lo P (.inr (.inl rfl))
  exact ⟨(setCell_block h.blk _).trans rfl, h.ar.kept hkp (fun k f e => h.off k f (.inl e)), hkp.own h.ac (fun k e e2 => n1 (e2 ▸ e)), hkp.own h.ca (fun k e e2 => n2 (e2 ▸ e)), h.off, h.kp.trans hkp (fun k e hk => by omega), h.lo, htd, hf⟩
theorem TodoAt.tail {w : World} {ta : Option Addr} {t : Tod} {ts : List Tod} {b off : Nat} (h : TodoAt w ta (t :: ts)) (hta : ta = some ⟨b, off, none⟩) : TodoAt w (some ⟨b, off + 2, none⟩) ts := by
  intro h0
  obtain ⟨b', off', e, hb, hc⟩ := h (by simp)
  rw [hta] at e
  injection e with e
  injection e with e1 e2
  subst e1 e2
  refine ⟨b, off + 2, rfl, hb, fun i t' hi => ?_⟩
  have := hc (i + 1) t' (by simpa using hi)
  rw [show off + (i + 1) * 2 = off + 2 + i * 2 by omega] at this
  exact this
theorem TodoAt.none_ {w : World} {ta : Option Addr} : TodoAt w ta [] := fun h => by simp at h
end
end Go.Proofs.Ytaeooljfilkaeaa
/-! What else may be written while a play stands. -/
namespace Go.Proofs.Ytaeooljfilkaeaa
open Go.RowKit Go.HeapKit Go.IntWalk

theorem IsDp.keptS {w0 w wx : World} {P p : Nat} {F : Nat → Prop} {ta : Option Addr} {tc : Nat} {va vc : Value} {S : Dpl} {X : Nat → Prop} (h : IsDp w0 w P p F ta tc va vc S) (hk : Keeps X w wx) (hX : ∀ k, F k ∨ GDp P va vc k → ¬ X k) (hl : ∀ k, X k → w0.heap.size ≤ k) : IsDp w0 wx P p F ta tc va vc S :=
  ⟨(hk.block P h.lt (hX P (.inr (.inl rfl)))).trans h.blk, h.ar.kept hk (fun k f => hX k (.inl f)), hk.own h.ac (fun k e => hX k (.inr (.inr (.inl e)))), hk.own h.ca (fun k e => hX k (.inr (.inr (.inr e)))), h.off, h.kp.trans hk (fun k f hk => by have := hl k f; omega), h.lo, h.td, h.fit⟩
end Go.Proofs.Ytaeooljfilkaeaa
