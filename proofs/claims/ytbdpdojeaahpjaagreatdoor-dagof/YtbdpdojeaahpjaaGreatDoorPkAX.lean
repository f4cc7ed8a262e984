import Derived.Test.YtbdpdojeaahpjaaGreatDoorPkAW
import Derived.Test.YtbdpdojeaahpjaaGreatDoorPkAM
import Derived.BigQuiet
import Derived.Deep.QuietTactic
/-! The document's 'spawn', upon what the child's task comes to. -/
namespace Go.Proofs.YtbdpdojeaahpjaaGreatDoor
set_option linter.unusedVariables false
set_option maxRecDepth 20000
set_option linter.unusedSimpArgs false
open Go.RowKit Go.HeapKit Go.PlainOps

theorem Tryz.infoI64 : (Tryz.prog.info? 2).map (fun i => (i.zero, i.size, i.bytes)) = some (some (.int .i64 0), 1, 8) := by kernel_rfl
theorem i64_append (av : Value) (l : List Int) (x : Int) (g ty : Nat) (w : World) (h : w.ownsRow 0 2 1 av l.length (ints l)) (hlen : l.length ≤ 64)
    (hg : w.heap[g]? = some (.cells #[.int .i64 x] 2 (0, 0))) :
    ∃ b cap w', (Builtin.append_ #[25, 25] ty #[av, .slice (some ⟨g, 0, none⟩) 1 1]).run Tryz.prog w = .ok (.slice (some ⟨b, 0, none⟩) (l.length + 1) cap) w' ∧
      w'.ownsRow 0 2 1 (.slice (some ⟨b, 0, none⟩) (l.length + 1) cap) (l.length + 1) (ints (l ++ [x])) ∧ w.grownBy w' av.ownBlock ∧ Moved w av (.slice (some ⟨b, 0, none⟩) (l.length + 1) cap) := by
  obtain ⟨i0, hi, hz0, hz1, hz2⟩ := info_parts Tryz.infoI64
  obtain ⟨v', w', hr, ho, hgr, hm, -⟩ := run_append_moved (P := Tryz.prog) w 0 25 ty 2 i0 _ 1 8 Tryz.underlying25 hi hz0 hz1 hz2 rfl (by decide) av l.length (ints l) h
    ⟨g, 0, none⟩ 1 1 (ints [x]) rfl (by
      intro j u hu
      rw [show (⟨g, 0, none⟩ : Addr).add j = ⟨g, j, none⟩ by unfold Addr.add; split <;> simp_all, blk_cell hg]
      simpa [ints] using hu) (by
      intro u hu
      simp [ints] at hu
      rcases hu with rfl; rfl) (by unfold maxLen; omega) (by omega) (Nat.zero_le _)
  rw [ints_app]
  rcases ho.2 with ⟨_, h0⟩ | ⟨b, cap, cur, rfl, _⟩
  · omega
  · exact ⟨b, cap, w', hr, ho, hgr, hm⟩
def argL (l : List Int) (c k : Nat) : List Int := (List.range k).map fun j => l.getD (c + j) 0
theorem argL_len (l : List Int) (c k : Nat) : (argL l c k).length = k := by simp [argL]
theorem argL_step (l : List Int) (c k : Nat) : argL l c (k + 1) = argL l c k ++ [l.getD (c + k) 0] := by simp [argL, List.range_succ]
theorem argL_args (l : List Int) (c k : Nat) : argsV (argL l c k) 0 (argL l c k).length = argsV l c k := by
  unfold argsV
  apply List.map_congr_left
  intro j hj
  rw [argL_len]
  by_cases h : j < k
  · rw [if_pos h, if_pos h]
    simp [argL, h]
  · rw [if_neg h, if_neg h]
/-- A row of numbers that can be read. -/
theorem row_seenA {w : World} {av : Value} {l : List Int} (h : w.ownsRow 0 2 1 av l.length (ints l)) (hl : l.length ≤ 64) (hok : ∀ x ∈ l, okI x) : ∃ a c, av = .slice a l.length c ∧ SeenA w a l.length l := by
  rcases h.2 with ⟨rfl, h0⟩ | ⟨g, cap, cur, rfl, hb0, hg, hnc, hcm, hcs, htk⟩
  · refine ⟨none, 0, by rw [h0], ⟨rfl, by omega, hok, fun h => by omega⟩⟩
  · refine ⟨some ⟨g, 0, none⟩, cap, rfl, ⟨rfl, by omega, hok, fun _ => ⟨g, 0, rfl, blk_lt hg, fun k x hx => ?_⟩⟩⟩
    have h1 := ints_at l k x hx
    rw [← htk, List.getElem?_take] at h1
    rw [Nat.zero_add, blk_cell hg, ← Array.getElem?_toList]
    split at h1
    · exact h1
    · cases h1
set_option maxHeartbeats 1000000 in
theorem rspawn_deep (R X : Nat) (fv nv : Value) (fuel : Nat) (er depth : Int) (M : List Nd) (at_ e : Int) (t : Tk) (ik ia ib ic iK : Int) (w : World) (hr : IsRR w R fv fuel er depth M nv) (ht : IsRT w X at_ e t) (hd : 4096 ≤ t.depth) :
    Calls Tryz.prog 47 #[.pointer (some ⟨R, 0, none⟩), .pointer (some ⟨X, 0, none⟩), .agg #[.int .i64 ik, .int .i64 ia, .int .i64 ib, .int .i64 ic, .int .i64 iK]] w fun e0 w' => e0 = .returned (.tuple #[]) ∧ IsRR w' R fv fuel 63 depth M nv ∧ Keeps (· = R) w w' := by
  have hal := Keeps.alloc None w (.cells #[.int .i64 ik, .int .i64 ia, .int .i64 ib, .int .i64 ic, .int .i64 iK] 37)
  have r1 := hr.kept hal (fun _ _ f => f)
  have t1 := ht.kept hal (fun f => f)
  have c1 := t1.dep
  have c2 := (blk_cell r1.blk 2).trans rfl
  have z2 := blk_free r1.blk 2
  have HH : Hid _ := And.intro (r1.put (k := 2) (x := 63) (fuel' := fuel) (er' := 63) (depth' := depth) rfl) ((hal.mono (T := (· = R)) (fun _ f _ => f.elim)).andSet (x := ⟨R, 2, none⟩) (.inl rfl) (.int .i64 63))
  clear hal r1 t1 hr ht
  go_enter Tryz.func47, Tryz.ntmps47
  go_wp2_with fail
  refine bodyPost_ret (results_none rfl _ _ _) rfl ?_
  exact ⟨rfl, HH.out⟩
end Go.Proofs.YtbdpdojeaahpjaaGreatDoor
