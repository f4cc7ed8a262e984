import Derived.Test.YtloahjkndhcjfaaPlayWalks
/-! 'within': acts that none may refuse. -/
namespace Go.Proofs.Ytloahjkndhcjfaa
open Go.RowKit Go.HeapKit

def inRow (n : Nat) (M : Nat → Nat → Int) : Nat → Nat → Int
  | 0, 1 => 4
  | 0, 3 => n
  | 0, _ => 0
  | i + 1, 1 => M i 1 % 4
  | i + 1, 2 => M i 2 % n
  | i + 1, j => M i j
def rowVals (L : Nat → Nat → Int) (i : Nat) : List Value := [.int .i64 (L i 0), .int .i64 (L i 1), .int .i64 (L i 2), .int .i64 (L i 3), .int .i64 (L i 4)]
def gridVals (L : Nat → Nat → Int) (k : Nat) : List Value := (List.range k).flatMap (rowVals L)
theorem gridVals_succ (L : Nat → Nat → Int) (k : Nat) : gridVals L (k + 1) = gridVals L k ++ rowVals L k := by simp [gridVals, List.range_succ]
theorem gridVals_length (L : Nat → Nat → Int) (k : Nat) : (gridVals L k).length = k * 5 := by
  induction k with
  | zero => rfl
  | succ k ih => rw [gridVals_succ, List.length_append, ih]; simp [rowVals]; omega
theorem gridVals_at (L : Nat → Nat → Int) (k i : Nat) (hi : i < k) : (gridVals L k)[i * 5]? = some (.int .i64 (L i 0)) ∧ (gridVals L k)[i * 5 + 1]? = some (.int .i64 (L i 1)) ∧ (gridVals L k)[i * 5 + 2]? = some (.int .i64 (L i 2)) ∧ (gridVals L k)[i * 5 + 3]? = some (.int .i64 (L i 3)) ∧ (gridVals L k)[i * 5 + 4]? = some (.int .i64 (L i 4)) := by
  induction k with
  | zero => omega
  | succ k ih =>
    have hl := gridVals_length L k
    rw [gridVals_succ]
    by_cases hik : i < k
    · have := ih hik
      rw [List.getElem?_append_left (by omega), List.getElem?_append_left (by omega), List.getElem?_append_left (by omega), List.getElem?_append_left (by omega), List.getElem?_append_left (by omega)]
      exact this
    · obtain rfl : i = k := by omega
      rw [List.getElem?_append_right (by omega), List.getElem?_append_right (by omega), List.getElem?_append_right (by omega), List.getElem?_append_right (by omega), List.getElem?_append_right (by omega), hl]
      simp [rowVals]

theorem Try.infoAct : (Try.prog.info? 48).map (fun i => (i.zero, i.size, i.bytes)) = some (some (.agg #[.int .i64 0, .int .i64 0, .int .i64 0, .int .i64 0, .int .i64 0]), 5, 40) := by kernel_rfl

/-- One act more. -/
theorem act_append (v : Value) (L : Nat → Nat → Int) (k g : Nat) (w : World) (h : w.ownsRow 0 48 5 v k (gridVals L k)) (hk : k < 4096)
    (hg : w.heap[g]? = some (.cells #[.int .i64 (L k 0), .int .i64 (L k 1), .int .i64 (L k 2), .int .i64 (L k 3), .int .i64 (L k 4)] 48 (0, 0))) :
    ∃ b cap w', (Builtin.append_ #[38, 38] 38 #[v, .slice (some ⟨g, 0, none⟩) 1 1]).run Try.prog w = .ok (.slice (some ⟨b, 0, none⟩) (k + 1) cap) w' ∧
      w'.ownsRow 0 48 5 (.slice (some ⟨b, 0, none⟩) (k + 1) cap) (k + 1) (gridVals L (k + 1)) ∧ w.grownBy w' v.ownBlock ∧ Moved w v (.slice (some ⟨b, 0, none⟩) (k + 1) cap) := by
  obtain ⟨i0, hi, hz0, hz1, hz2⟩ := info_parts Try.infoAct
  obtain ⟨v', w', hr, ho, hgr, hm, -⟩ := run_append_moved (P := Try.prog) w 0 38 38 48 i0 _ 5 40 Try.underlying38 hi hz0 hz1 hz2 rfl (by decide) v k (gridVals L k) h
    ⟨g, 0, none⟩ 1 1 (rowVals L k) rfl (by
      intro j u hu
      rw [show (⟨g, 0, none⟩ : Addr).add j = ⟨g, j, none⟩ by unfold Addr.add; split <;> simp_all, cell_of_block hg]
      simpa [rowVals] using hu) (by
      intro u hu
      simp [rowVals] at hu
      rcases hu with rfl | rfl | rfl | rfl | rfl <;> rfl) (by unfold maxLen; omega) (by omega) (Nat.zero_le _)
  rw [← gridVals_succ] at ho
  rcases ho.2 with ⟨_, h0⟩ | ⟨b, cap, cur, rfl, _⟩
  · omega
  · exact ⟨b, cap, w', hr, ho, hgr, hm⟩

theorem mod4 (x : Int) (w : World) : Calls Try.prog 13 #[.int .i64 x, .int .i64 4] w fun e w' => e = .returned (.int .i64 (x % 4)) ∧ w' = w := mod_any x 4 (by decide) (by decide) w

set_option maxHeartbeats 4000000 in
set_option maxRecDepth 100000 in
theorem within_any (n : Nat) (hn : 0 < n) (hn2 : n ≤ 64) (ao : Option Addr) (len cap : Nat) (M : Nat → Nat → Int) (w : World) (hM : Fives w ao len M) :
    Calls Try.prog 15 #[.int .i64 n, .slice ao len cap, .int .i64 4096] w fun e w' => ∃ b c k, e = .returned (.slice (some ⟨b, 0, none⟩) (k + 1) c) ∧ k ≤ len ∧ k + 1 ≤ 4096 ∧ w.heap.size ≤ b ∧
      w'.ownsRow 0 48 5 (.slice (some ⟨b, 0, none⟩) (k + 1) c) (k + 1) (gridVals (inRow n M) (k + 1)) ∧ Below w.heap.size w w' := by
  have HM : Hid (Fives w ao len M) := hM
  clear hM
  have HS : Hid ((w.alloc (.cells #[.int .i64 0, .int .i64 4, .int .i64 0, .int .i64 n, .int .i64 0] 48)).ownsRow 0 48 5 (.slice (some ⟨w.heap.size, 0, none⟩) 1 1) 1 (gridVals (inRow n M) 1)) :=
    ⟨rfl, .inr ⟨w.heap.size, 1, _, rfl, Nat.zero_le _, new_at _ _ _ rfl, Nat.le_refl _, by unfold maxLen; omega, rfl, rfl⟩⟩
  go_enter Try.func15, Try.ntmps15
  go_wp2_with fail
  go_loopw [7, 8, 9] (fun l i _ wr => ∃ b c k : Nat, k ≤ len ∧ k + 1 ≤ 4096 ∧ l = .slice (some ⟨b, 0, none⟩) (k + 1) c ∧ i = .int .i64 k ∧ w.heap.size ≤ b ∧ wr.ownsRow 0 48 5 (.slice (some ⟨b, 0, none⟩) (k + 1) c) (k + 1) (gridVals (inRow n M) (k + 1)) ∧ Below w.heap.size w wr) (fun _ i _ _ => len - (intOf i).toNat)
  case atStart => exact ⟨w.heap.size, 1, 0, Nat.zero_le _, by decide, rfl, rfl, Nat.le_refl _, HS.out, (Below.refl _ _).alloc (Nat.le_refl _) _⟩
  case round =>
    clear HS
    obtain ⟨b, c, k, hk, hk2, rfl, rfl, hb, ho, hB⟩ := hrel
    have HR : Hid (wr.ownsRow 0 48 5 (.slice (some ⟨b, 0, none⟩) (k + 1) c) (k + 1) (gridVals (inRow n M) (k + 1)) ∧ Below w.heap.size w wr) := ⟨ho, hB⟩
    clear ho hB
    by_cases hgo : k < len ∧ k + 1 < 4096
    · obtain ⟨hkn, hk3⟩ := hgo
      obtain ⟨b0, off, rfl, hb0, hcell⟩ := HM.out (by omega)
      have m0 := (HR.out.2.cell (p := ⟨b0, off + k * 5, none⟩) hb0).trans (hcell k hkn).1
      have m1 := (HR.out.2.cell (p := ⟨b0, off + k * 5 + 1, none⟩) hb0).trans (hcell k hkn).2.1
      have m2 := (HR.out.2.cell (p := ⟨b0, off + k * 5 + 2, none⟩) hb0).trans (hcell k hkn).2.2.1
      have m3 := (HR.out.2.cell (p := ⟨b0, off + k * 5 + 3, none⟩) hb0).trans (hcell k hkn).2.2.2.1
      have m4 := (HR.out.2.cell (p := ⟨b0, off + k * 5 + 4, none⟩) hb0).trans (hcell k hkn).2.2.2.2
      have i1 : (k : Int) < (len : Int) := by omega
      have hs := HR.out.2.size
      have hO2 := (HR.out.1.alloc (.cells #[.int .i64 (M k 0), .int .i64 (M k 1 % 4), .int .i64 (M k 2 % n), .int .i64 (M k 3), .int .i64 (M k 4)] 48)).alloc (.cells #[.int .i64 (M k 0), .int .i64 (M k 1 % 4), .int .i64 (M k 2 % n), .int .i64 (M k 3), .int .i64 (M k 4)] 48)
      obtain ⟨b', c', w1, hr, ho1, hg1, hm1⟩ := act_append _ (inRow n M) (k + 1) (wr.heap.size + 1) _ hO2 hk3 (new_at _ _ _ (by simp))
      have HN : Hid (w.heap.size ≤ b' ∧ w1.ownsRow 0 48 5 (.slice (some ⟨b', 0, none⟩) (k + 1 + 1) c') (k + 1 + 1) (gridVals (inRow n M) (k + 1 + 1)) ∧ Below w.heap.size w w1) := by
        refine ⟨?_, ho1, (((HR.out.2.alloc (by omega) _).alloc (by simp; omega) _).grown hg1 (by simp; omega) (fun i e => by simp [Value.ownBlock] at e; omega))⟩
        rcases hm1 with e | ⟨g, e, hg⟩
        · simp [Value.ownBlock] at e; omega
        · simp [Value.ownBlock] at e; simp at hg; omega
      have e4 := mod4 (M k 1)
      have en := mod_any (M k 2) n hn (by omega)
      clear hcell hO2 ho1 hg1 hm1 HR
      go_wp2_with (first
        | (go_at_call_of 13 (Value.int .i64 4); refine (e4 _).mono ?_; rintro e w' ⟨rfl, rfl⟩)
        | (go_at_call 13; refine (en _).mono ?_; rintro e w' ⟨rfl, rfl⟩)
        | (at_builtin; refine wpList_append_run rfl (.tmp 38) (.tmp 40) 38 38 rfl rfl rfl hr ?_))
      exact ⟨⟨b', c', k + 1, by omega, by omega, rfl, by go_num, HN.out⟩, by simp [intOf]; omega⟩
    · by_cases hkn : k < len
      · have i1 : (k : Int) < (len : Int) := by omega
        have i2 : ¬ ((k : Int) + 1 < 4096) := by omega
        go_wp2
        go_ret
        exact ⟨b, c, k, rfl, hk, by omega, hb, HR.out⟩
      · have i1 : ¬ (k : Int) < (len : Int) := by omega
        go_wp2
        go_ret
        exact ⟨b, c, k, rfl, hk, by omega, hb, HR.out⟩
end Go.Proofs.Ytloahjkndhcjfaa
