import Derived.Test.YtolhojagbiaamaaRcCheck
/-! What the laws of deeds hand in: a copy with odd ones behind it, other deeds, deeds laid in. -/
namespace Go.Proofs.Ytolhojagbiaamaa
set_option linter.unusedVariables false
set_option maxRecDepth 20000
set_option linter.unusedSimpArgs false
open Go.RowKit Go.HeapKit

def odd1 : Dd := ⟨77, 5⟩
def odd2 : Dd := ⟨78, 6⟩
/-- A list of n deeds of the law's own, with the odd ones behind it. -/
def Spare (w : World) (base g n : Nat) (l : List Dd) : Prop := n = l.length ∧ IsD w base g (n + 2) (n + 2) (l ++ [odd1, odd2])
theorem made_two (n : Nat) : madeCells (Value.agg #[.int .i64 0, .int .i64 0]).cells (n * 2) = (ddVals (List.replicate n ⟨0, 0⟩)).toArray := by
  have hl : (ddVals (List.replicate n ⟨0, 0⟩)).length = n * 2 := by rw [ddVals_length]; simp
  have hc : (Value.agg #[.int .i64 0, .int .i64 0]).cells = #[.int .i64 0, .int .i64 0] := by kernel_rfl
  rw [hc]
  apply Array.ext
  · rw [size_madeCells]; simpa using hl.symm
  · intro i h1 h2
    have hi : i < n * 2 := by rwa [size_madeCells] at h1
    have hq : (List.replicate n (⟨0, 0⟩ : Dd))[i / 2]? = some ⟨0, 0⟩ := by rw [List.getElem?_replicate, if_pos (by omega)]
    have hv : (ddVals (List.replicate n (⟨0, 0⟩ : Dd)))[i]? = some (.int .i64 0) := by
      rcases Nat.mod_two_eq_zero_or_one i with h | h
      · have := ddVals_at _ _ _ hq 0 (.int .i64 0) rfl
        rwa [show i / 2 * 2 + 0 = i by omega] at this
      · have := ddVals_at _ _ _ hq 1 (.int .i64 0) rfl
        rwa [show i / 2 * 2 + 1 = i by omega] at this
    have hr : (ddVals (List.replicate n (⟨0, 0⟩ : Dd))).toArray[i] = .int .i64 0 := by
      have := (List.getElem?_eq_some_iff.1 hv).2
      simpa using this
    rw [hr]
    rcases Nat.mod_two_eq_zero_or_one i with h | h <;> simp [madeCells, h]
theorem make_deeds (n : Nat) (w : World) (hn : n * 16 ≤ 140737488355328) : ∃ w', (Instr.makeSlice 22 (.int .i64 n) (.int .i64 n)).run Try.prog w = .ok (.slice (some ⟨w.heap.size, 0, none⟩) n n) w' ∧ IsD w' w.heap.size w.heap.size n n (List.replicate n ⟨0, 0⟩) ∧ Keeps None w w' := by
  obtain ⟨i0, hi, hz0, hz1, hz2⟩ := info_parts Try.infoDeed
  obtain ⟨M, hM, hs, hr⟩ := run_make_block (P := Try.prog) (w := w) 22 51 i0 _ 2 16 Try.underlying22 hi hz0 hz1 hz2 n (by omega) (by omega)
  rw [made_two] at hM
  refine ⟨_, hr, ⟨by simp, by rw [ddVals_length]; simp, .inr ⟨_, _, M, rfl, Nat.le_refl _, heap_alloc_new _ _, Nat.le_refl _, ?_, ?_, ?_⟩⟩, Keeps.alloc None w _⟩
  all_goals first
    | (unfold maxLen; omega)
    | (rw [hM]; simp [ddVals_length]; done)
    | (rw [hM]; exact List.take_of_length_le (by rw [ddVals_length]; simp))
theorem wrap_small {x : Int} (h1 : -9223372036854775808 ≤ x) (h2 : x ≤ 9223372036854775807) : wrap64 x = x := by unfold wrap64; omega
theorem take_more {l : List Dd} {k : Nat} {x : Dd} (hx : l[k]? = some x) : l.take (k + 1) = l.take k ++ [x] := by
  rw [List.take_add_one, hx]
  rfl
theorem take_setD {l l2 : List Dd} {k : Nat} {x : Dd} (hx : l[k]? = some x) (hl : l.length ≤ l2.length) : (l.take k ++ l2.drop k).set k x = l.take (k + 1) ++ l2.drop (k + 1) := by
  have hk := (List.getElem?_eq_some_iff.1 hx).1
  rw [take_more hx, List.set_append_right _ _ (by simp; omega), List.append_assoc]
  congr 1
  rw [show k - (l.take k).length = 0 by simp; omega]
  rw [List.drop_eq_getElem_cons (show k < l2.length by omega)]
  rfl

set_option maxHeartbeats 1600000 in
theorem spare_ok (a : Option Addr) (n c : Nat) (l : List Dd) (w : World) (hS : Seen w a n l) (hn : (n + 2) * 16 ≤ 140737488355328) :
    Calls Try.prog 9 #[.slice a n c] w fun e w' => ∃ g, e = .returned (.slice (some ⟨g, 0, none⟩) (n + 2) (n + 2)) ∧ Spare w' w.heap.size g n l ∧ Keeps None w w' := by
  have HS : Hid (Seen w a n l) := hS
  clear hS
  obtain ⟨wm, hr, hD, hkm⟩ := make_deeds (n + 2) w hn
  have hw2 : wrap64 ((n : Int) + 2) = ((n + 2 : Nat) : Int) := wrap_small (by omega) (by omega)
  have HM : Hid (IsD wm w.heap.size w.heap.size (n + 2) (n + 2) (List.replicate (n + 2) ⟨0, 0⟩) ∧ Keeps None w wm) := ⟨hD, hkm⟩
  clear hD hkm
  go_enter Try.func9, Try.ntmps9
  go_wp2_with (at_make; refine wpList_make_run rfl (.tmp 9) (.tmp 9) 22 rfl rfl rfl hr ?_)
  clear hr
  go_loopw [5] (fun i wr => ∃ k : Nat, k ≤ n ∧ i = .int .i64 k ∧ IsD wr w.heap.size w.heap.size (n + 2) (n + 2) (l.take k ++ (List.replicate (n + 2) ⟨0, 0⟩).drop k) ∧ Keeps None w wr) (fun i _ => n - (intOf i).toNat)
  case atStart => exact ⟨0, Nat.zero_le _, rfl, by simpa using HM.out.1, HM.out.2⟩
  case round =>
    clear HM
    obtain ⟨k, hk, rfl, hD, hkp⟩ := hrel
    have hlen := HS.out.len
    by_cases hkn : k < n
    · obtain ⟨b, off, x, rfl, hb, hx, u0, u1⟩ := (HS.out.more hkp).elem hkn
      obtain ⟨y, hy⟩ : ∃ y, (l.take k ++ (List.replicate (n + 2) (⟨0, 0⟩ : Dd)).drop k)[k]? = some y := ⟨_, List.getElem?_eq_getElem (by simp; omega)⟩
      obtain ⟨v0, v1⟩ := hD.elem hy
      have f0 := hD.free (k * 2)
      have f1 := hD.free (k * 2 + 1)
      have i2 : (k : Int) < (n : Int) := by omega
      have HN : Hid (IsD (set2 wr w.heap.size (k * 2) x) w.heap.size w.heap.size (n + 2) (n + 2) (l.take (k + 1) ++ (List.replicate (n + 2) ⟨0, 0⟩).drop (k + 1)) ∧ Keeps None w (set2 wr w.heap.size (k * 2) x)) := by
        have := hD.put (k := k) (by omega) x
        rw [take_setD hx (by simp; omega)] at this
        exact ⟨this, hkp.trans (keeps_set2 wr w.heap.size (k * 2) x) (fun i e hi => by omega)⟩
      clear hD hkp hx hy hlen
      go_wp2
      go_roundw
      case rel => exact ⟨k + 1, by omega, by go_num, HN.out⟩
      case measure => simp [intOf]; omega
    · have hkn2 : k = n := by omega
      subst hkn2
      have hd2 : (l.take k ++ (List.replicate (k + 2) (⟨0, 0⟩ : Dd)).drop k) = l ++ [⟨0, 0⟩, ⟨0, 0⟩] := by
        rw [List.take_of_length_le (by omega), List.drop_replicate, show k + 2 - k = 2 by omega]
        rfl
      rw [hd2] at hD
      clear hd2
      obtain ⟨v0, v1⟩ := hD.elem (k := k) (x := ⟨0, 0⟩) (by rw [List.getElem?_append_right (by omega)]; simp [← hlen])
      obtain ⟨v2, v3⟩ := hD.elem (k := k + 1) (x := ⟨0, 0⟩) (by rw [List.getElem?_append_right (by omega)]; simp [← hlen])
      have f0 := hD.free (k * 2)
      have f1 := hD.free (k * 2 + 1)
      have f2 := hD.free ((k + 1) * 2)
      have f3 := hD.free ((k + 1) * 2 + 1)
      have hw1 : wrap64 ((k : Int) + 1) = ((k + 1 : Nat) : Int) := wrap_small (by omega) (by omega)
      have hD1 := hD.put (k := k) (by omega) odd1
      have hD2 := hD1.put (k := k + 1) (by omega) odd2
      have z2 := (hD1.elem (k := k + 1) (x := ⟨0, 0⟩) (by rw [List.getElem?_set_ne (by omega), List.getElem?_append_right (by omega)]; simp [← hlen]))
      obtain ⟨z2, z3⟩ := z2
      have z4 := hD1.free ((k + 1) * 2)
      have z5 := hD1.free ((k + 1) * 2 + 1)
      have HN : Hid (Spare (set2 (set2 wr w.heap.size (k * 2) odd1) w.heap.size ((k + 1) * 2) odd2) w.heap.size w.heap.size k l ∧ Keeps None w (set2 (set2 wr w.heap.size (k * 2) odd1) w.heap.size ((k + 1) * 2) odd2)) := by
        refine ⟨⟨hlen, ?_⟩, (hkp.trans (keeps_set2 wr w.heap.size (k * 2) odd1) (fun i e hi => by omega)).trans (keeps_set2 _ w.heap.size ((k + 1) * 2) odd2) (fun i e hi => by omega)⟩
        have e : ((l ++ [(⟨0, 0⟩ : Dd), ⟨0, 0⟩]).set k odd1).set (k + 1) odd2 = l ++ [odd1, odd2] := by
          rw [List.set_append_right _ _ (by omega), List.set_append_right _ _ (by omega), show k - l.length = 0 by omega, show k + 1 - l.length = 1 by omega]
          rfl
        rw [e] at hD2
        exact hD2
      unfold set2 odd1 odd2 at HN
      unfold set2 odd1 at z2 z3 z4 z5
      clear hD hD1 hD2 hkp hlen
      go_wp2
      go_ret
      exact ⟨_, rfl, HN.out⟩
end Go.Proofs.Ytolhojagbiaamaa
