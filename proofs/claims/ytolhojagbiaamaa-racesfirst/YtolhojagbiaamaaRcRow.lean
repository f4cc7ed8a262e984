import Derived.Test.YtolhojagbiaamaaRcPlain
import Derived.Deep.RegionHeld3
import Derived.Deep.DeepCutAuto
import Derived.Deep.Cut
/-! The row of deeds in memory. -/
namespace Go.Proofs.Ytolhojagbiaamaa
set_option linter.unusedVariables false
set_option maxRecDepth 20000
set_option linter.unusedSimpArgs false
open Go.RowKit Go.HeapKit

theorem two_elem {w : World} {base : Nat} {t : TypeId} {a : Option Addr} {n c : Nat} {l : List Dd} {k : Nat} {x : Dd} (h : w.ownsRow base t 2 (.slice a n c) n (ddVals l)) (hx : l[k]? = some x) :
    ∃ g, a = some ⟨g, 0, none⟩ ∧ base ≤ g ∧ g < w.heap.size ∧ n ≤ c ∧ C2 w g (k * 2) x ∧ ∀ i, w.frozen? ⟨g, i, none⟩ = false := by
  have hlen : l.length * 2 = n * 2 := by have := h.1; rw [ddVals_length] at this; exact this
  have hk := (List.getElem?_eq_some_iff.1 hx).1
  rcases h.2 with ⟨_, h1⟩ | ⟨g, cap, cur, hv, hbg, hg, hnc, hcm, hcs, htake⟩
  · omega
  · injection hv with e1 e2 e3
    subst e1 e3
    have hcell : ∀ j u, x.vals[j]? = some u → w.cell? ⟨g, k * 2 + j, none⟩ = some u := by
      intro j u hu
      have := ddVals_at l k x hx j u hu
      rw [blk_cell hg]
      rw [← htake, List.getElem?_take] at this
      split at this
      · simpa using this
      · cases this
    exact ⟨g, rfl, hbg, (Array.getElem?_eq_some_iff.1 hg).1, hnc, ⟨hcell 0 _ rfl, hcell 1 _ rfl⟩, fun i => blk_free hg i⟩
theorem two_take {w : World} {base : Nat} {t : TypeId} {g n c m : Nat} {l : List Dd} (h : w.ownsRow base t 2 (.slice (some ⟨g, 0, none⟩) n c) n (ddVals l)) (hm : m ≤ n) : w.ownsRow base t 2 (.slice (some ⟨g, 0, none⟩) m c) m (ddVals (l.take m)) := by
  have hl : l.length = n := by have := h.1; rw [ddVals_length] at this; omega
  have he : ddVals (l.take m) = (ddVals l).take (m * 2) := by
    have e : ddVals l = ddVals (l.take m) ++ ddVals (l.drop m) := by rw [← ddVals_append, List.take_append_drop]
    rw [e, List.take_append_of_le_length (by rw [ddVals_length, List.length_take]; omega), List.take_of_length_le (l := ddVals (l.take m)) (by rw [ddVals_length, List.length_take]; omega)]
  refine ⟨by rw [ddVals_length]; simp; omega, ?_⟩
  rcases h.2 with ⟨h0, _⟩ | ⟨g', cap', cur, hv, hbg, hg, hnc, hcm, hcs, htake⟩
  · cases h0
  · injection hv with e1 e2 e3
    injection e1 with e1
    injection e1 with e1
    subst e1 e3
    refine .inr ⟨g, c, cur, rfl, hbg, hg, by omega, hcm, hcs, ?_⟩
    rw [he, ← htake, List.take_take, Nat.min_eq_left (by omega)]
theorem Try.infoWhere : (Try.prog.info? 88).map (fun i => (i.zero, i.size, i.bytes)) = some (some (.agg #[.int .i64 0, .int .i64 0]), 2, 16) := by kernel_rfl
/-- 'append(s, x)' of a task's place. -/
theorem wh_more (base : Nat) (s : Value) (l : List Dd) (x : Dd) (n ty : Nat) (w : World) (hn : n = l.length) (h : w.ownsRow base 88 2 s n (ddVals l)) (hb : base ≤ w.heap.size) (hlen : (n + 1) * 16 ≤ 140737488355328) {g0 : Nat}
    (hg0 : w.heap[g0]? = some (.cells #[.int .i64 x.k, .int .i64 x.loc] 88 (0, 0))) :
    ∃ g cap w', (Builtin.append_ #[84, 84] ty #[s, .slice (some ⟨g0, 0, none⟩) 1 1]).run Try.prog w = .ok (.slice (some ⟨g, 0, none⟩) (n + 1) cap) w' ∧
      w'.ownsRow base 88 2 (.slice (some ⟨g, 0, none⟩) (n + 1) cap) (n + 1) (ddVals (l ++ [x])) ∧ Keeps (fun k => s.ownBlock = some k) w w' ∧ (s.ownBlock = some g ∨ w.heap.size ≤ g) := by
  obtain ⟨i0, hi, hz0, hz1, hz2⟩ := info_parts Try.infoWhere
  obtain ⟨v', w1, hr, ho, hgr, hm, -⟩ := run_append_moved (P := Try.prog) w base 84 ty 88 i0 _ 2 16 Try.underlying84 hi hz0 hz1 hz2 rfl (by decide) s n _ h
    ⟨g0, 0, none⟩ 1 1 x.vals rfl (by
      intro j u hu
      rw [show (⟨g0, 0, none⟩ : Addr).add j = ⟨g0, j, none⟩ by unfold Addr.add; split <;> simp_all, blk_cell hg0]
      simpa [Dd.vals] using hu) (by
      intro u hu
      simp [Dd.vals] at hu
      rcases hu with rfl | rfl <;> rfl) (by unfold maxLen; omega) hlen hb
  obtain ⟨g, cap, rfl⟩ : ∃ g cap, v' = .slice (some ⟨g, 0, none⟩) (n + 1) cap := by
    rcases ho.2 with ⟨_, h0⟩ | ⟨b, cap, cur, rfl, _⟩
    · omega
    · exact ⟨b, cap, rfl⟩
  refine ⟨g, cap, w1, hr, by rw [ddVals_append, ddVals_one]; exact ho, (Keeps.refl _ w).andGrown hgr (fun k e => .inl e), ?_⟩
  rcases hm with hm | ⟨g', e, hg⟩
  · exact .inl (hm.symm.trans rfl)
  · simp [Value.ownBlock] at e; exact .inr (by omega)
/-- One place of a pair is written. -/
theorem two_fst {w : World} {base : Nat} {t : TypeId} {g n c k : Nat} {l : List Dd} {x : Dd} (h : w.ownsRow base t 2 (.slice (some ⟨g, 0, none⟩) n c) n (ddVals l)) (hx : l[k]? = some x) (v : Int) : (w.setCell ⟨g, k * 2, none⟩ (.int .i64 v)).ownsRow base t 2 (.slice (some ⟨g, 0, none⟩) n c) n (ddVals (l.set k ⟨v, x.loc⟩)) := by
  have hk := (List.getElem?_eq_some_iff.1 hx).1
  have h1 := row_set h (k * 2) (.int .i64 v)
  rw [← ddVals_set l k ⟨v, x.loc⟩ hk]
  have : ((ddVals l).set (k * 2) (.int .i64 v)).set (k * 2 + 1) (.int .i64 x.loc) = (ddVals l).set (k * 2) (.int .i64 v) := by
    apply List.ext_getElem?
    intro j
    rw [List.getElem?_set]
    split
    · rename_i e
      subst e
      rw [List.getElem?_set_ne (by omega), ddVals_at l k x hx 1 _ rfl]
      simp [ddVals_length]; omega
    · rfl
  rw [this]
  exact h1
theorem two_snd {w : World} {base : Nat} {t : TypeId} {g n c k : Nat} {l : List Dd} {x : Dd} (h : w.ownsRow base t 2 (.slice (some ⟨g, 0, none⟩) n c) n (ddVals l)) (hx : l[k]? = some x) (v : Int) : (w.setCell ⟨g, k * 2 + 1, none⟩ (.int .i64 v)).ownsRow base t 2 (.slice (some ⟨g, 0, none⟩) n c) n (ddVals (l.set k ⟨x.k, v⟩)) := by
  have hk := (List.getElem?_eq_some_iff.1 hx).1
  have h1 := row_set h (k * 2 + 1) (.int .i64 v)
  rw [← ddVals_set l k ⟨x.k, v⟩ hk]
  have : (ddVals l).set (k * 2) (.int .i64 x.k) = ddVals l := by
    apply List.ext_getElem?
    intro j
    rw [List.getElem?_set]
    split
    · rename_i e
      subst e
      have := ddVals_at l k x hx 0 _ rfl
      rw [Nat.add_zero] at this
      rw [this]
      simp [ddVals_length]; omega
    · rfl
  show (w.setCell ⟨g, k * 2 + 1, none⟩ (.int .i64 v)).ownsRow base t 2 (.slice (some ⟨g, 0, none⟩) n c) n (((ddVals l).set (k * 2) (.int .i64 x.k)).set (k * 2 + 1) (.int .i64 v))
  rw [this]
  exact h1
def numsA (n : Nat) (N : Nat → Int) : Array Value := ((List.range n).map (fun j => Value.int .i64 (N j))).toArray
def upd (N : Nat → Int) (k : Nat) (v : Int) : Nat → Int := fun j => if j = k then v else N j
theorem nums_at (n : Nat) (N : Nat → Int) {k : Nat} (hk : k < n) : (numsA n N)[k]? = some (.int .i64 (N k)) := by simp [numsA, hk]
theorem nums_set (n : Nat) (N : Nat → Int) (k : Nat) (v : Int) : (numsA n N).setIfInBounds k (.int .i64 v) = numsA n (upd N k v) := by
  unfold numsA upd
  apply Array.ext
  · simp
  · intro i h1 h2
    by_cases h : k = i
    · simp [h]
    · simp [h, Ne.symm h]
/-- The row in memory: the numbers of the next ones, the tasks. -/
structure RowM (w : World) (base R n : Nat) (N : Nat → Int) (acts : List Dd) (gN gA cap : Nat) : Prop where
  blk : w.heap[R]? = some (.cells #[.slice (some ⟨gN, 0, none⟩) (n + 1) (n + 1), .slice (some ⟨gA, 0, none⟩) acts.length cap] 86 (0, 0))
  nums : w.heap[gN]? = some (.cells (numsA (n + 1) N) 3 (0, 0))
  act : w.ownsRow base 88 2 (.slice (some ⟨gA, 0, none⟩) acts.length cap) acts.length (ddVals acts)
  lowR : base ≤ R
  lowN : base ≤ gN
section
variable {w w' : World} {base R n gN gA cap : Nat} {N : Nat → Int} {acts : List Dd}
theorem RowM.ne1 (h : RowM w base R n N acts gN gA cap) : R ≠ gN := by
  intro e
  have h1 := h.blk
  rw [e, h.nums] at h1
  injection h1 with h1
  injection h1 with _ h1
  revert h1
  decide
theorem RowM.ne2 (h : RowM w base R n N acts gN gA cap) : R ≠ gA := by
  intro e
  obtain ⟨cur, hc⟩ := own_block h.act rfl
  have h1 := h.blk
  rw [e, hc] at h1
  injection h1 with h1
  injection h1 with _ h1
  revert h1
  decide
theorem RowM.ne3 (h : RowM w base R n N acts gN gA cap) : gN ≠ gA := by
  intro e
  obtain ⟨cur, hc⟩ := own_block h.act rfl
  have h1 := h.nums
  rw [e, hc] at h1
  injection h1 with h1
  injection h1 with _ h1
  revert h1
  decide
theorem RowM.lowA (h : RowM w base R n N acts gN gA cap) : base ≤ gA := row_low h.act rfl
theorem RowM.kept {S : Nat → Prop} (h : RowM w base R n N acts gN gA cap) (hk : Keeps S w w') (h1 : ¬ S R) (h2 : ¬ S gN) (h3 : ¬ S gA) : RowM w' base R n N acts gN gA cap :=
  ⟨blk_kept h.blk hk h1, blk_kept h.nums hk h2, row_kept h.act hk (fun g e => by simp [Value.ownBlock] at e; subst e; exact h3), h.lowR, h.lowN⟩
theorem RowM.more (h : RowM w base R n N acts gN gA cap) (hk : Keeps None w w') : RowM w' base R n N acts gN gA cap := h.kept hk (fun f => f) (fun f => f) (fun f => f)
end
/-- What a task has to wait for, behind a child's return. -/
def endE (p : Dd) (a : Nat) : Int := if p.loc = -1 then a else p.loc
set_option maxHeartbeats 1600000 in
theorem returned_ok (w : World) (base R n gN gA cap a : Nat) (N : Nat → Int) (A : List Dd) (p x : Dd) (h : RowM w base R n N (A ++ [p, x]) gN gA cap) (hA : A.length ≤ 5000) :
    Calls Try.prog 52 #[.pointer (some ⟨R, 0, none⟩), .int .i64 a] w fun e w' => e = .returned (.tuple #[]) ∧ RowM w' base R n N (A ++ [⟨p.k, endE p a⟩]) gN gA cap ∧ Keeps (fun i => base ≤ i) w w' := by
  have HM : Hid (RowM w base R n N (A ++ [p, x]) gN gA cap) := h
  have hlen : (A ++ [p, x]).length = A.length + 2 := by simp
  have b1 := h.blk
  rw [hlen] at b1
  have r0 := cell_of_heap b1 1
  have f0 := blk_free b1 1
  have r1 : w.cell? ⟨R, 1, none⟩ = some (.slice (some ⟨gA, 0, none⟩) (A.length + 2) cap) := r0
  have hw : wrap64 (((A.length + 2 : Nat) : Int) - 1) = ((A.length + 1 : Nat) : Int) := by unfold wrap64; omega
  have hfit : A.length + 2 ≤ cap := by
    have := h.act
    rw [hlen] at this
    obtain ⟨_, _, _, _, h5, _⟩ := two_elem (k := A.length) (x := p) this (by simp)
    exact h5
  obtain ⟨q, hq⟩ : ∃ q, q = A.length + 1 := ⟨_, rfl⟩
  have HQ : Hid (q = A.length + 1) := hq
  have r2 : w.cell? ⟨R, 1, none⟩ = some (.slice (some ⟨gA, 0, none⟩) (q + 1) cap) := by rw [hq]; exact r1
  have hw1 : IntKind.i64.wrap (q : Int) = (q : Int) := by rw [IntWalk.i64_left]; unfold wrap64; omega
  have hw2 : IntKind.i64.wrap (((q + 1 : Nat) : Int) - 1) = (q : Int) := by rw [IntWalk.i64_left]; unfold wrap64; omega
  have q1 : (q : Int) ≤ (cap : Int) := by omega
  have q2 : q ≤ cap := by omega
  clear h r0 b1 r1 hw hfit hq hlen
  go_enter Try.func52, Try.ntmps52
  go_wp2_with fail
  go_cut [2] (fun _ wx => RowM wx base R n N (A ++ [p]) gN gA cap ∧ Keeps (fun i => base ≤ i) w wx)
  case first =>
    go_region
    go_wp2_with fail
    go_meet
    have h := HM.out
    have hk : Keeps (· = R) w (w.setCell ⟨R, 1, none⟩ (.slice (some ⟨gA, 0, none⟩) q cap)) := keeps_one (Keeps.refl _ w) _
    have h1 := two_take (m := q) h.act (by rw [HQ.out]; simp)
    rw [HQ.out, show (A ++ [p, x]).take (A.length + 1) = A ++ [p] by rw [show A ++ [p, x] = (A ++ [p]) ++ [x] by simp, List.take_append_of_le_length (by simp), List.take_of_length_le (by simp)]] at h1
    refine ⟨RowM.more ⟨?_, blk_kept h.nums hk (fun e => h.ne1 e.symm), ?_, h.lowR, h.lowN⟩ (Keeps.drew None _), (hk.mono (fun i e _ => by have := h.lowR; omega)).andDrew⟩
    · have := blk_set (i := 1) h.blk (.slice (some ⟨gA, 0, none⟩) q cap)
      rw [this, HQ.out]
      simp
    · have := row_kept h1 hk (fun g e => by simp [Value.ownBlock] at e; subst e; intro e2; exact h.ne2 e2.symm)
      simpa using this
  case rest =>
  obtain ⟨hR1, hk1⟩ := hcut
  obtain ⟨w1, hw1⟩ : ∃ w1, w1 = wc := ⟨_, rfl⟩
  rw [← hw1] at hR1 hk1 ⊢
  clear hw1 HM r2
  have hl1 : (A ++ [p]).length = q := by simp [HQ.out]
  have b1 := hR1.blk
  rw [hl1] at b1
  have r1 : w1.cell? ⟨R, 1, none⟩ = some (.slice (some ⟨gA, 0, none⟩) q cap) := cell_of_heap b1 1
  have hq1 : 1 ≤ q := by have := HQ.out; omega
  have hq2 : q ≤ 5001 := by have := HQ.out; omega
  have hw3 : IntKind.i64.wrap ((q : Int) - 1) = ((q - 1 : Nat) : Int) := by rw [IntWalk.i64_left]; unfold wrap64; omega
  have hi : (A ++ [p])[q - 1]? = some p := by rw [HQ.out]; simp
  obtain ⟨g', e, _, _, _, ⟨u0, u1⟩, hf⟩ := two_elem hR1.act hi
  injection e with e
  injection e with e
  subst e
  have f1 := hf ((q - 1) * 2 + 1)
  have HM1 : Hid (RowM w1 base R n N (A ++ [p]) gN gA cap ∧ Keeps (fun i => base ≤ i) w w1 ∧ (A ++ [p])[q - 1]? = some p) := ⟨hR1, hk1, hi⟩
  have hw4 : ((q - 1 : Nat) : Int) < (q : Int) := by omega
  have hw5 : q - 1 < q := by omega
  clear hR1 hk1 b1 hi hf hl1
  go_wp2_with fail
  go_cut [4] (fun s4 wx => s4 = .pointer (some ⟨gA, (q - 1) * 2, none⟩) ∧ wx = w1.drew)
  case first =>
    go_region
    go_wp2_with fail
    go_meet
    exact ⟨rfl, rfl⟩
  case rest =>
  obtain ⟨rfl, hwc⟩ := hcut
  have hwc' := hwc.symm
  subst hwc'
  have v1 : w1.drew.cell? ⟨gA, (q - 1) * 2 + 1, none⟩ = some (.int .i64 p.loc) := u1
  have f2 : w1.drew.frozen? ⟨gA, (q - 1) * 2 + 1, none⟩ = false := f1
  by_cases hp : p.loc = -1
  · have HN : Hid (RowM (w1.drew.setCell ⟨gA, (q - 1) * 2 + 1, none⟩ (.int .i64 a)) base R n N (A ++ [⟨p.k, endE p a⟩]) gN gA cap ∧ Keeps (fun i => base ≤ i) w (w1.drew.setCell ⟨gA, (q - 1) * 2 + 1, none⟩ (.int .i64 a))) := by
      obtain ⟨h, hk, hi⟩ := HM1.out
      have h2 := h.more (Keeps.drew None w1)
      have hk2 : Keeps (· = gA) w1.drew (w1.drew.setCell ⟨gA, (q - 1) * 2 + 1, none⟩ (.int .i64 a)) := keeps_one (Keeps.refl _ _) _
      have h3 := two_snd h2.act hi a
      rw [show endE p a = a from if_pos hp]
      have e : (A ++ [p]).set (q - 1) ⟨p.k, a⟩ = A ++ [⟨p.k, a⟩] := by rw [HQ.out, List.set_append_right _ _ (by omega)]; simp
      rw [e] at h3
      have b := blk_kept h2.blk hk2 h.ne2
      refine ⟨⟨by simpa using b, blk_kept h2.nums hk2 h.ne3, by simpa using h3, h.lowR, h.lowN⟩, (hk.andDrew).trans hk2 (fun i e _ => by have := h.lowA; omega)⟩
    clear HM1
    have hp2 : (p.loc == -1) = true := by simp [hp]
    go_wp2
    go_end0
    exact ⟨rfl, HN.out⟩
  · have HN : Hid (RowM w1.drew base R n N (A ++ [⟨p.k, endE p a⟩]) gN gA cap ∧ Keeps (fun i => base ≤ i) w w1.drew) := by
      rw [show endE p a = p.loc from if_neg hp]
      exact ⟨HM1.out.1.more (Keeps.drew None w1), HM1.out.2.1.andDrew⟩
    clear HM1
    have hp2 : (p.loc == -1) = false := by simp [hp]
    go_wp2
    go_end0
    exact ⟨rfl, HN.out⟩
end Go.Proofs.Ytolhojagbiaamaa
