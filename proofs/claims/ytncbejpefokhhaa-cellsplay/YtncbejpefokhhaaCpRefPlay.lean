import Derived.Test.YtncbejpefokhhaaSameWalks
import Derived.Test.YtncbejpefokhhaaPlayWalks
/-! The document's Play. -/
namespace Go.Proofs.Ytncbejpefokhhaa
set_option linter.unusedVariables false
open Go.RowKit Go.HeapKit

def Eff.vals (x : Eff) : List Value := [.int .i64 x.v, .bool x.ok, .int .i64 x.err]
def effVals (f : Nat → Eff) (k : Nat) : List Value := (List.range k).flatMap (fun i => (f i).vals)
theorem effVals_succ (f : Nat → Eff) (k : Nat) : effVals f (k + 1) = effVals f k ++ (f k).vals := by simp [effVals, List.range_succ]
theorem effVals_length (f : Nat → Eff) (k : Nat) : (effVals f k).length = k * 3 := by
  induction k with
  | zero => rfl
  | succ k ih => rw [effVals_succ, List.length_append, ih]; simp only [Eff.vals, List.length_cons, List.length_nil]; omega
theorem effVals_at (f : Nat → Eff) {n i : Nat} (hi : i < n) {j : Nat} {u : Value} (hu : (f i).vals[j]? = some u) : (effVals f n)[i * 3 + j]? = some u := by
  have hj : j < 3 := by have := (List.getElem?_eq_some_iff.1 hu).1; simpa [Eff.vals] using this
  induction n with
  | zero => omega
  | succ n ih =>
    rw [effVals_succ]
    by_cases hin : i < n
    · rw [List.getElem?_append_left (by rw [effVals_length]; omega)]
      exact ih hin
    · obtain rfl : i = n := by omega
      rw [List.getElem?_append_right (by rw [effVals_length]; omega), effVals_length, Nat.add_sub_cancel_left]
      exact hu
/-- A list of effects that can be read. -/
structure SeenE (w : World) (ao : Option Addr) (n : Nat) (f : Nat → Eff) : Prop where
  ex : 0 < n → ∃ g, ao = some ⟨g, 0, none⟩ ∧ ∀ i, i < n → w.cell? ⟨g, i * 3, none⟩ = some (.int .i64 (f i).v) ∧ w.cell? ⟨g, i * 3 + 1, none⟩ = some (.bool (f i).ok) ∧ w.cell? ⟨g, i * 3 + 2, none⟩ = some (.int .i64 (f i).err)
theorem SeenE.of_row {w : World} {base : Nat} {ao : Option Addr} {n c : Nat} {f : Nat → Eff} (h : w.ownsRow base 41 3 (.slice ao n c) n (effVals f n)) : SeenE w ao n f := by
  refine ⟨fun h0 => ?_⟩
  rcases h.2 with ⟨_, h1⟩ | ⟨g, cap, cur, hv, hbg, hg, hnc, hcm, hcs, htake⟩
  · omega
  · injection hv with e1 e2 e3
    subst e1
    have hcell : ∀ j u, (effVals f n)[j]? = some u → w.cell? ⟨g, j, none⟩ = some u := by
      intro j u this
      rw [cell_of_block hg]
      rw [← htake, List.getElem?_take] at this
      split at this
      · simpa using this
      · cases this
    exact ⟨g, rfl, fun i hi => ⟨hcell _ _ (effVals_at f hi (j := 0) rfl), hcell _ _ (effVals_at f hi (j := 1) rfl), hcell _ _ (effVals_at f hi (j := 2) rfl)⟩⟩
theorem SeenE.of_block {w : World} {g n : Nat} {E : Array Value} {f : Nat → Eff} (hb : w.heap[g]? = some (.cells E 41 (0, 0))) (h : Effs E n n f) : SeenE w (some ⟨g, 0, none⟩) n f :=
  ⟨fun _ => ⟨g, rfl, fun i hi => ⟨(cell_of_block hb _).trans (h.2 i hi).1, (cell_of_block hb _).trans (h.2 i hi).2.1, (cell_of_block hb _).trans (h.2 i hi).2.2⟩⟩⟩
theorem sameEff_ok (aa ab : Option Addr) (n ca cb : Nat) (f : Nat → Eff) (w : World) (ha : SeenE w aa n f) (hb : SeenE w ab n f) (hn : n ≤ 4096) :
    Calls Try.prog 7 #[.slice aa n ca, .slice ab n cb] w fun e w' => e = .returned (.bool true) ∧ ∃ m, w' = w.drewN m := by
  have HH : Hid (SeenE w aa n f ∧ SeenE w ab n f) := ⟨ha, hb⟩
  clear ha hb
  go_enter Try.func7, Try.ntmps7
  go_wp2_with fail
  go_loopw [5] (fun i wr => ∃ k : Nat, k ≤ n ∧ i = .int .i64 k ∧ ∃ m, wr = w.drewN m) (fun i _ => n - (intOf i).toNat)
  case atStart => exact ⟨0, Nat.zero_le _, rfl, 0, rfl⟩
  case round =>
    obtain ⟨k, hk, rfl, m, rfl⟩ := hrel
    by_cases hkn : k < n
    · obtain ⟨ga, rfl, hca⟩ := HH.out.1.ex (by omega)
      obtain ⟨gb, rfl, hcb⟩ := HH.out.2.ex (by omega)
      obtain ⟨y0, y1, y2⟩ := hca k hkn
      obtain ⟨z0, z1, z2⟩ := hcb k hkn
      have i1 : (k : Int) < (n : Int) := by omega
      clear hca hcb HH
      generalize f k = x at *
      obtain ⟨x0, x1, x2⟩ := x
      simp only [] at *
      go_wp2
      go_quiet (fail)
      go_wp2
      go_roundw
      case rel => exact ⟨k + 1, by omega, by go_num, _, rfl⟩
      case measure => simp [intOf]; omega
    · clear HH
      go_wp2
      go_ret
      exact ⟨rfl, _, rfl⟩

/-- 'append(effects, x)'. -/
theorem eff_more (base : Nat) (s : Value) (f : Nat → Eff) (n ty g0 : Nat) (w : World) (h : w.ownsRow base 41 3 s n (effVals f n)) (hb : base ≤ w.heap.size) (hn : n ≤ 8192)
    (hg0 : w.heap[g0]? = some (.cells #[.int .i64 (f n).v, .bool (f n).ok, .int .i64 (f n).err] 41 (0, 0))) :
    ∃ g cap w', (Builtin.append_ #[23, 23] ty #[s, .slice (some ⟨g0, 0, none⟩) 1 1]).run Try.prog w = .ok (.slice (some ⟨g, 0, none⟩) (n + 1) cap) w' ∧
      w'.ownsRow base 41 3 (.slice (some ⟨g, 0, none⟩) (n + 1) cap) (n + 1) (effVals f (n + 1)) ∧ Keeps (fun k => s.ownBlock = some k) w w' ∧ (s.ownBlock = some g ∨ w.heap.size ≤ g) := by
  obtain ⟨i0, hi, hz0, hz1, hz2⟩ := info_parts Try.infoEff
  obtain ⟨v', w1, hr, ho, hgr, hm, -⟩ := run_append_moved (P := Try.prog) w base 23 ty 41 i0 _ 3 24 Try.underlying23 hi hz0 hz1 hz2 rfl (by decide) s n _ h
    ⟨g0, 0, none⟩ 1 1 (f n).vals rfl (by
      intro j u hu
      rw [show (⟨g0, 0, none⟩ : Addr).add j = ⟨g0, j, none⟩ by unfold Addr.add; split <;> simp_all, cell_of_block hg0]
      simpa [Eff.vals] using hu) (by
      intro u hu
      simp [Eff.vals] at hu
      rcases hu with rfl | rfl | rfl <;> rfl) (by unfold maxLen; omega) (by omega) hb
  obtain ⟨g, cap, rfl⟩ : ∃ g cap, v' = .slice (some ⟨g, 0, none⟩) (n + 1) cap := by
    rcases ho.2 with ⟨_, h0⟩ | ⟨b, cap, cur, rfl, _⟩
    · omega
    · exact ⟨b, cap, rfl⟩
  refine ⟨g, cap, w1, hr, by rw [effVals_succ]; exact ho, (Keeps.refl _ w).andGrown hgr (fun k e => .inl e), ?_⟩
  rcases hm with hm | ⟨g', e, hg⟩
  · exact .inl (hm.symm.trans rfl)
  · simp [Value.ownBlock] at e; exact .inr (by omega)
end Go.Proofs.Ytncbejpefokhhaa
