import Derived.Test.YtolhojagbiaamaaRcWhole
/-! A new row; its order; parentsFirst, swapped. -/
namespace Go.Proofs.Ytolhojagbiaamaa
set_option linter.unusedVariables false
set_option maxRecDepth 20000
set_option linter.unusedSimpArgs false
open Go.RowKit Go.HeapKit

def ivN (l : List Nat) : List Value := l.map (fun a : Nat => Value.int .i64 (a : Int))
theorem ivN_len (l : List Nat) : (ivN l).length = l.length := by simp [ivN]
theorem Try.infoIntR : (Try.prog.info? 3).map (fun i => (i.zero, i.size, i.bytes)) = some (some (.int .i64 0), 1, 8) := by kernel_rfl
/-- 'append(l, x)' of a number. -/
theorem int_more (base : Nat) (s : Value) (l : List Nat) (x : Nat) (n ty : Nat) (w : World) (hn : n = l.length) (h : w.ownsRow base 3 1 s n (ivN l)) (hb : base ≤ w.heap.size) (hlen : (n + 1) * 8 ≤ 140737488355328) {g0 : Nat}
    (hg0 : w.heap[g0]? = some (.cells #[.int .i64 x] 3 (0, 0))) :
    ∃ g cap w', (Builtin.append_ #[33, 33] ty #[s, .slice (some ⟨g0, 0, none⟩) 1 1]).run Try.prog w = .ok (.slice (some ⟨g, 0, none⟩) (n + 1) cap) w' ∧
      w'.ownsRow base 3 1 (.slice (some ⟨g, 0, none⟩) (n + 1) cap) (n + 1) (ivN (l ++ [x])) ∧ Keeps (fun k => s.ownBlock = some k) w w' ∧ (s.ownBlock = some g ∨ w.heap.size ≤ g) := by
  obtain ⟨i0, hi, hz0, hz1, hz2⟩ := info_parts Try.infoIntR
  obtain ⟨v', w1, hr, ho, hgr, hm, -⟩ := run_append_moved (P := Try.prog) w base 33 ty 3 i0 _ 1 8 Try.underlying33 hi hz0 hz1 hz2 rfl (by decide) s n _ h
    ⟨g0, 0, none⟩ 1 1 [.int .i64 x] rfl (by
      intro j u hu
      rw [show (⟨g0, 0, none⟩ : Addr).add j = ⟨g0, j, none⟩ by unfold Addr.add; split <;> simp_all, blk_cell hg0]
      simpa using hu) (by
      intro u hu
      simp at hu
      subst hu; rfl) (by unfold maxLen; omega) hlen hb
  obtain ⟨g, cap, rfl⟩ : ∃ g cap, v' = .slice (some ⟨g, 0, none⟩) (n + 1) cap := by
    rcases ho.2 with ⟨_, h0⟩ | ⟨b, cap, cur, rfl, _⟩
    · omega
    · exact ⟨b, cap, rfl⟩
  refine ⟨g, cap, w1, hr, by simpa [ivN] using ho, (Keeps.refl _ w).andGrown hgr (fun k e => .inl e), ?_⟩
  rcases hm with hm | ⟨g', e, hg⟩
  · exact .inl (hm.symm.trans rfl)
  · simp [Value.ownBlock] at e; exact .inr (by omega)
theorem made_nums (n : Nat) : madeCells (Value.int .i64 0).cells n = numsA n (fun _ => 0) := by
  have hz : (Value.int .i64 0).cells = #[.int .i64 0] := by kernel_rfl
  rw [hz]
  apply Array.ext
  · simp [madeCells, numsA]
  · intro i h1 h2
    simp [madeCells, Nat.mod_one, numsA]
theorem make_nums (n c : Nat) (hnc : n ≤ c) (w : World) (hn : c ≤ 4097) : (Instr.makeSlice 33 (.int .i64 n) (.int .i64 c)).run Try.prog w = .ok (.slice (some ⟨w.heap.size, 0, none⟩) n c) (w.alloc (.cells (numsA c (fun _ => 0)) 3)) := by
  obtain ⟨i0, hi, hz0, hz1, hz2⟩ := info_parts Try.infoIntR
  have h := run_make (P := Try.prog) w 33 3 i0 _ Try.underlying33 hi hz0 .i64 .i64 n c (by omega) (by omega) (by rw [hz2]; omega) (by omega)
  rw [h, hz1]
  simp [made_nums]
set_option maxHeartbeats 1600000 in
theorem newRow_ok (n : Nat) (ds : List Dd) (w : World) (hn : n ≤ 4096) :
    Calls Try.prog 43 #[.int .i64 n] w fun e w' => ∃ R, e = .returned (.pointer (some ⟨R, 0, none⟩)) ∧ RowK w' w.heap.size R n ds 0 ∧ Keeps None w w' := by
  have hmk := make_nums (n + 1) (n + 1) (Nat.le_refl _) w (by omega)
  have hw1 : wrap64 ((n : Int) + 1) = ((n + 1 : Nat) : Int) := by unfold wrap64; omega
  obtain ⟨w1, hw1e⟩ : ∃ w1, w1 = w.alloc (.cells (numsA (n + 1) (fun _ => 0)) 3) := ⟨_, rfl⟩
  rw [← hw1e] at hmk
  have b1 : w1.heap[w.heap.size]? = some (.cells (numsA (n + 1) (fun _ => 0)) 3 (0, 0)) := by rw [hw1e]; exact heap_alloc_new _ _
  have s1 : w1.heap.size = w.heap.size + 1 := by rw [hw1e]; simp
  have k1 : Keeps None w w1 := by rw [hw1e]; exact Keeps.alloc None w _
  clear hw1e
  have HB1 : Hid (w1.heap[w.heap.size]? = some (.cells (numsA (n + 1) (fun _ => 0)) 3 (0, 0)) ∧ Keeps None w w1) := ⟨b1, k1⟩
  clear b1 k1
  go_enter Try.func43, Try.ntmps43
  go_upto_region 2 with (at_make; refine wpList_make_run rfl (.tmp 5) (.tmp 5) 33 rfl rfl rfl hmk ?_)
  obtain ⟨w2, hw2⟩ : ∃ w2, w2 = w1.alloc (.cells #[.slice (some ⟨w.heap.size, 0, none⟩) (n + 1) (n + 1), .slice none 0 0] 86) := ⟨_, rfl⟩
  rw [← hw2]
  have b2 : w2.heap[w1.heap.size]? = some (.cells #[.slice (some ⟨w.heap.size, 0, none⟩) (n + 1) (n + 1), .slice none 0 0] 86 (0, 0)) := by rw [hw2]; exact heap_alloc_new _ _
  have k2 : Keeps None w1 w2 := by rw [hw2]; exact Keeps.alloc None w1 _
  have n2 := blk_kept HB1.out.1 k2 (fun f => f)
  have kk2 := HB1.out.2.trans k2 (fun _ f _ => f)
  rw [s1] at b2
  obtain ⟨R, hR⟩ : ∃ R, R = w.heap.size + 1 := ⟨_, rfl⟩
  obtain ⟨G, hG⟩ : ∃ G, G = w.heap.size := ⟨_, rfl⟩
  rw [← hR] at b2 ⊢
  rw [← hG] at b2 n2 ⊢
  have HG : Hid (G = w.heap.size) := hG
  have hGR : G < R := by omega
  have r0 : w2.cell? ⟨R, 0, none⟩ = some (.slice (some ⟨G, 0, none⟩) (n + 1) (n + 1)) := cell_of_heap b2 0
  have g0 : w2.cell? ⟨G, n, none⟩ = some (.int .i64 0) := (cell_of_heap n2 n).trans (nums_at _ _ (by omega))
  have f0 := blk_free n2 n
  have i0 : (n : Int) < ((n + 1 : Nat) : Int) := by omega
  have i1 : n < n + 1 := by omega
  have hk3 : Keeps (· = G) w2 (w2.setCell ⟨G, n, none⟩ (.int .i64 (-1))) := keeps_one (Keeps.refl _ _) _
  have n3 := blk_set (i := n) n2 (.int .i64 (-1))
  rw [nums_set] at n3
  have b3 := blk_kept b2 hk3 (by omega)
  have kk3 : Keeps None w (w2.setCell ⟨G, n, none⟩ (.int .i64 (-1))) := kk2.trans hk3 (fun i e hi => by omega)
  have s3 : G ≤ w2.heap.size := by have := kk2.size; omega
  clear hw2 b2 n2 k2 kk2 hk3 HB1 hmk s1 hG hR hw1
  go_upto_region 3 with fail
  obtain ⟨w3, hw3⟩ : ∃ w3, w3 = w2.setCell ⟨G, n, none⟩ (.int .i64 (-1)) := ⟨_, rfl⟩
  rw [← hw3] at n3 b3 kk3
  rw [← hw3]
  have s4 : G ≤ w3.heap.size := by have := kk3.size; have := blk_lt n3; omega
  clear hw3 r0 g0 f0 s3
  have r1 : w3.cell? ⟨R, 1, none⟩ = some (.slice none 0 0) := cell_of_heap b3 1
  have hbn : (w3.alloc (.cells #[.int .i64 n, .int .i64 (-1)] 88)).heap[w3.heap.size]? = some (.cells #[.int .i64 n, .int .i64 (-1)] 88 (0, 0)) := blk_new _ _ _ rfl
  obtain ⟨g4, c4, w4, hr4, ho4, hk4, hm4⟩ := wh_more G (.slice none 0 0) [] ⟨n, -1⟩ 0 84 _ rfl (row_nil (w3.alloc (.cells #[.int .i64 n, .int .i64 (-1)] 88)) G 88 2) (by simp; omega) (by omega) hbn
  have kA := Keeps.alloc None w3 (.cells #[.int .i64 n, .int .i64 (-1)] 88)
  have k4 : Keeps None w3 w4 := kA.trans hk4 (fun i e _ => by simp [Value.ownBlock] at e)
  have b4 := blk_kept b3 k4 (fun f => f)
  have n4 := blk_kept n3 k4 (fun f => f)
  have r5 : w4.cell? ⟨R, 1, none⟩ = some (.slice none 0 0) := cell_of_heap b4 1
  have f5 := blk_free b4 1
  have hne : g4 ≠ R := by
    intro e
    obtain ⟨cur, hc⟩ := own_block ho4 rfl
    rw [e, b4] at hc
    injection hc with hc
    injection hc with _ hc
    revert hc
    decide
  have HN : Hid (RowK (w4.setCell ⟨R, 1, none⟩ (.slice (some ⟨g4, 0, none⟩) 1 c4)) G R n ds 0 ∧ Keeps None w (w4.setCell ⟨R, 1, none⟩ (.slice (some ⟨g4, 0, none⟩) 1 c4))) := by
    have hk5 : Keeps (· = R) w4 (w4.setCell ⟨R, 1, none⟩ (.slice (some ⟨g4, 0, none⟩) 1 c4)) := keeps_one (Keeps.refl _ _) _
    have b5 := blk_set (i := 1) b4 (.slice (some ⟨g4, 0, none⟩) 1 c4)
    refine ⟨⟨upd (fun _ => 0) n (-1), G, g4, c4, ⟨?_, blk_kept n4 hk5 (by omega), row_kept ho4 hk5 (fun g e => by simp [Value.ownBlock] at e; subst e; exact hne), by omega, Nat.le_refl _⟩, ?_⟩, (kk3.trans k4 (fun _ f _ => f)).trans hk5 (fun i e hi => by have := HG.out; omega)⟩
    · rw [b5]; rfl
    · show upd (fun _ => 0) n (-1) n = -1
      exact upd_eq _ _ _
  clear hm4 hk4 ho4 hbn n3 b3 kk3 kA k4 b4 n4 hne
  go_wp2_with (at_builtin; refine wpList_append_run rfl (.tmp 19) (.tmp 22) 84 84 rfl rfl rfl hr4 ?_)
  go_ret
  rw [← HG.out]
  exact ⟨_, rfl, HN.out⟩
/-- The j-th link. -/
theorem lnk_at {N : Nat → Int} : ∀ {M : List Nat} {j a : Nat}, Lnk N M → M[j]? = some a → N a = match M[j + 1]? with | some b => (b : Int) | none => -1
  | [], j, a, _, h => by simp at h
  | [x], j, a, hl, h => by
    cases j with
    | zero => simp at h; subst h; exact hl
    | succ j => simp at h
  | x :: y :: r, j, a, hl, h => by
    cases j with
    | zero => simp at h; subst h; simpa using hl.1
    | succ j => exact lnk_at (M := y :: r) (j := j) hl.2 (by simpa using h)
def lenOf : Value → Nat
  | .slice _ n _ => n
  | _ => 0
set_option maxHeartbeats 1600000 in
theorem order_ok (w : World) (base R n gN gA cap : Nat) (N : Nat → Int) (acts : List Dd) (L : List Nat) (h : RowM w base R n N acts gN gA cap) (hL : Lnk N (n :: L)) (hl : L.length = n) (hall : ∀ a ∈ L, a < n) (hn : n ≤ 4096) :
    Calls Try.prog 45 #[.pointer (some ⟨R, 0, none⟩)] w fun e w' => ∃ g c, e = .returned (.slice (some ⟨g, 0, none⟩) n c) ∧ w'.ownsRow w.heap.size 3 1 (.slice (some ⟨g, 0, none⟩) n c) n (ivN L) ∧ Keeps None w w' := by
  have HM : Hid (RowM w base R n N acts gN gA cap) := h
  have HL : Hid (Lnk N (n :: L) ∧ L.length = n ∧ ∀ a ∈ L, a < n) := ⟨hL, hl, hall⟩
  have hmk := make_nums 0 n (Nat.zero_le _) w (by omega)
  have r0 : w.cell? ⟨R, 0, none⟩ = some (.slice (some ⟨gN, 0, none⟩) (n + 1) (n + 1)) := cell_of_heap h.blk 0
  have hw1 : wrap64 (((n + 1 : Nat) : Int) - 1) = (n : Int) := by unfold wrap64; omega
  have hk1 := Keeps.alloc None w (.cells (numsA n (fun _ => 0)) 3)
  have hr1 : (w.alloc (.cells (numsA n (fun _ => 0)) 3)).ownsRow w.heap.size 3 1 (.slice (some ⟨w.heap.size, 0, none⟩) 0 n) 0 (ivN []) :=
    ⟨rfl, .inr ⟨_, _, _, rfl, Nat.le_refl _, blk_new _ _ _ rfl, Nat.zero_le _, by unfold maxLen; omega, by simp [numsA], by simp [ivN]⟩⟩
  obtain ⟨w1, hw1e⟩ : ∃ w1, w1 = w.alloc (.cells (numsA n (fun _ => 0)) 3) := ⟨_, rfl⟩
  rw [← hw1e] at hmk hk1 hr1
  have r1 := hk1.cell r0 (fun f => f)
  have nb : w1.cell? ⟨gN, n, none⟩ = some (.int .i64 (N n)) := (cell_of_heap (h.more hk1).nums _).trans (nums_at _ _ (by omega))
  have i0 : (n : Int) < ((n + 1 : Nat) : Int) := by omega
  have i1 : n < n + 1 := by omega
  have H1 : Hid (w1.ownsRow w.heap.size 3 1 (.slice (some ⟨w.heap.size, 0, none⟩) 0 n) 0 (ivN []) ∧ Keeps None w w1) := ⟨hr1, hk1⟩
  clear h hL hl hall hw1e hk1 hr1
  have hmk' : (Instr.makeSlice 33 (.int .i64 0) (.int .i64 n)).run Try.prog w = .ok (.slice (some ⟨w.heap.size, 0, none⟩) 0 n) w1 := hmk
  clear hmk
  go_enter Try.func45, Try.ntmps45
  go_wp2_with (at_make; refine wpList_make_run rfl (.const (.int .i64 0)) (.tmp 12) 33 rfl rfl rfl hmk' ?_)
  clear hmk' nb r1
  go_loopw [4, 5] (fun s4 s5 wr => ∃ (j a : Nat), j ≤ n ∧ (n :: L)[j]? = some a ∧ s5 = .int .i64 (N a) ∧ wr.ownsRow w.heap.size 3 1 s4 j (ivN (L.take j)) ∧ Keeps None w wr ∧ ∃ g c, s4 = .slice (some ⟨g, 0, none⟩) j c) (fun s4 _ _ => n - lenOf s4)
  case atStart => exact ⟨0, n, Nat.zero_le _, rfl, rfl, H1.out.1, H1.out.2, _, _, rfl⟩
  case round =>
    clear H1
    obtain ⟨j, a, hj, ha, rfl, hrow, hkp, g, c, rfl⟩ := hrel
    obtain ⟨hL, hl, hall⟩ := HL.out
    have hat := lnk_at hL ha
    by_cases hjn : j < n
    · obtain ⟨b, hb⟩ : ∃ b, L[j]? = some b := ⟨L[j]'(by omega), by simp⟩
      have hb2 : (n :: L)[j + 1]? = some b := by simpa using hb
      rw [hb2] at hat
      simp only at hat
      have hbn : b < n := hall b (List.mem_of_getElem? hb)
      rw [hat]
      have hM := HM.out.more hkp
      have r2 := hkp.cell r0 (fun f => f)
      have hbk : (wr.alloc (.cells #[.int .i64 b] 3)).heap[wr.heap.size]? = some (.cells #[.int .i64 b] 3 (0, 0)) := blk_new _ _ _ rfl
      obtain ⟨g2, c2, w2, hr2, ho2, hk2, hm2⟩ := int_more w.heap.size (.slice (some ⟨g, 0, none⟩) j c) (L.take j) b j 33 _ (by simp; omega) (hrow.alloc _) (by have := hkp.size; simp; omega) (by omega) hbk
      have k2 : Keeps None w w2 := (hkp.andAlloc _).trans hk2 (fun i e hi => by have := row_low hrow e; omega)
      rw [show L.take j ++ [b] = L.take (j + 1) by rw [List.take_add_one, hb]; rfl] at ho2
      have r3 := k2.cell r0 (fun f => f)
      have nb : w2.cell? ⟨gN, b, none⟩ = some (.int .i64 (N b)) := (cell_of_heap (HM.out.more k2).nums _).trans (nums_at _ _ (by omega))
      have i2 : (b : Int) < ((n + 1 : Nat) : Int) := by omega
      have i3 : b < n + 1 := by omega
      have i4 : ¬ (b : Int) = -1 := by omega
      have HN : Hid (w2.ownsRow w.heap.size 3 1 (.slice (some ⟨g2, 0, none⟩) (j + 1) c2) (j + 1) (ivN (L.take (j + 1))) ∧ Keeps None w w2 ∧ (n :: L)[j + 1]? = some b) := ⟨ho2, k2, hb2⟩
      clear hL hl hall hat hb hb2 hM r2 hbk ho2 hk2 hm2 k2 hrow hkp ha hbn
      go_wp2_with (at_builtin; refine wpList_append_run rfl (.tmp 30) (.tmp 32) 33 33 rfl rfl rfl hr2 ?_)
      exact ⟨⟨j + 1, b, by omega, HN.out.2.2, rfl, HN.out.1, HN.out.2.1, _, _, rfl⟩, by simp [lenOf]; omega⟩
    · have hjn2 : j = n := by omega
      subst hjn2
      have hno : (j :: L)[j + 1]? = none := by simp [hl]
      rw [hno] at hat
      simp only at hat
      rw [hat]
      have HN : Hid (wr.ownsRow w.heap.size 3 1 (.slice (some ⟨g, 0, none⟩) j c) j (ivN L) ∧ Keeps None w wr) := by
        rw [List.take_of_length_le (by omega)] at hrow
        exact ⟨hrow, hkp⟩
      clear hL hl hall hat hno hrow hkp ha
      go_wp2
      go_ret
      exact ⟨_, _, rfl, HN.out⟩
end Go.Proofs.Ytolhojagbiaamaa
