import Derived.Test.YtfccnmgbdkideaaDoorSwSwap
import Derived.Test.YtfccnmgbdkideaaDoorSwAsk
import Derived.Test.YtfccnmgbdkideaaDoorSwPart
import Derived.Test.YtfccnmgbdkideaaDoorSqBase
/-! SerialPart: the function's code from a region on; a list of one number. -/
namespace Go.Proofs.YtfccnmgbdkideaaDoor
set_option linter.unusedVariables false
set_option maxRecDepth 20000
open Go.RowKit Go.HeapKit Go.PlainOps

def regFirst : Code → Option Nat
  | .region n _ _ => some n
  | .seq a _ => regFirst a
  | _ => none
def tailAt (k : Nat) : Code → Option Code
  | .seq a b => if regFirst a = some k then some (.seq a b) else tailAt k b
  | _ => none
noncomputable def partTail (k : Nat) : Code := (Tryd.f3.body.bind (tailAt k)).getD .skip
theorem Tryd.infoI64p : (Tryd.prog.info? 2).map (fun i => (i.zero, i.size, i.bytes)) = some (some (.int .i64 0), 1, 8) := by kernel_rfl
theorem word_append (v : Value) (l : List Int) (x : Int) (n g ty : Nat) (w : World) (hn : n = l.length) (h : w.ownsRow 0 2 1 v n (ints l)) (hlen : (n + 1) * 8 ≤ 140737488355328)
    (hg : w.heap[g]? = some (.cells #[.int .i64 x] 2 (0, 0))) :
    ∃ b cap w', (Builtin.append_ #[25, 25] ty #[v, .slice (some ⟨g, 0, none⟩) 1 1]).run Tryd.prog w = .ok (.slice (some ⟨b, 0, none⟩) (n + 1) cap) w' ∧
      w'.ownsRow 0 2 1 (.slice (some ⟨b, 0, none⟩) (n + 1) cap) (n + 1) (ints (l ++ [x])) ∧ Keeps (fun k => v.ownBlock = some k) w w' ∧ (v.ownBlock = some b ∨ w.heap.size ≤ b) ∧ n + 1 ≤ cap := by
  obtain ⟨i0, hi, hz0, hz1, hz2⟩ := info_parts Tryd.infoI64p
  obtain ⟨v', w', hr, ho, hgr, hm, -⟩ := run_append_moved (P := Tryd.prog) w 0 25 ty 2 i0 _ 1 8 Tryd.underlying25 hi hz0 hz1 hz2 rfl (by decide) v n (ints l) h
    ⟨g, 0, none⟩ 1 1 [.int .i64 x] rfl (by
      intro j u hu
      rw [show (⟨g, 0, none⟩ : Addr).add j = ⟨g, j, none⟩ by unfold Addr.add; split <;> simp_all, blk_cell hg]
      simpa using hu) (by
      intro u hu
      simp at hu
      subst hu
      rfl) (by unfold maxLen; omega) (by omega) (Nat.zero_le _)
  have e : ints (l ++ [x]) = ints l ++ [.int .i64 x] := by simp [ints]
  rw [e]
  rcases ho.2 with ⟨_, h0⟩ | ⟨b, cap, cur, rfl, hb', hg', hn', _⟩
  · omega
  · refine ⟨b, cap, w', hr, ho, (Keeps.refl _ w).andGrown hgr (fun k e => .inl e), ?_, hn'⟩
    rcases hm with hm | ⟨g', e, hg⟩
    · exact .inl (hm.symm.trans rfl)
    · simp [Value.ownBlock] at e; exact .inr (by omega)
theorem one_seen {w : World} {b c : Nat} {x : Int} (h : w.ownsRow 0 2 1 (.slice (some ⟨b, 0, none⟩) 1 c) 1 (ints [x])) (hx : okI x) : SeenA w (some ⟨b, 0, none⟩) 1 [x] := by
  rcases h.2 with ⟨_, h0⟩ | ⟨g, cap, cur, he, hb0, hg, hnc, hcm, hcs, htk⟩
  · omega
  · injection he with e1 e2 e3
    injection e1 with e1
    injection e1 with e1
    subst e1
    refine ⟨rfl, by omega, fun z hz => by simp at hz; rw [hz]; exact hx, fun _ => ⟨b, 0, rfl, blk_lt hg, fun k z hz => ?_⟩⟩
    have hk : k = 0 := by have := (List.getElem?_eq_some_iff.1 hz).1; simp at this; omega
    subst hk
    have h1 : (ints [x])[0]? = some (.int .i64 x) := rfl
    rw [← htk, List.getElem?_take, if_pos (by omega)] at h1
    simp at hz
    subst hz
    rw [blk_cell hg, ← Array.getElem?_toList]
    exact h1
end Go.Proofs.YtfccnmgbdkideaaDoor
