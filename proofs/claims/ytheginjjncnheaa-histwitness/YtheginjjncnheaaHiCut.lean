import Derived.Test.YtheginjjncnheaaHiBase
import Derived.Deep.DeepCutAuto
/-! What is cut of a list of calls: the program's and the document's. -/
namespace Go.Proofs.Ytheginjjncnheaa
open Go.RowKit Go.HeapKit

def Cl.shut (p : Int) (c : Cl) : Cl := if c.fin ≥ p then { c with fin := -1, code := 0, v := 0 } else c
def cutL (p : Int) : List Cl → List Cl
  | [] => []
  | c :: r => if c.beg ≥ p then cutL p r else c.shut p :: cutL p r
theorem cutL_append (p : Int) (a b : List Cl) : cutL p (a ++ b) = cutL p a ++ cutL p b := by
  induction a with
  | nil => rfl
  | cons c r ih => simp only [List.cons_append, cutL, ih]; split <;> simp
theorem cutL_length (p : Int) (l : List Cl) : (cutL p l).length ≤ l.length := by
  induction l with
  | nil => simp [cutL]
  | cons c r ih => simp only [cutL]; split <;> simp <;> omega
theorem take_more {α : Type} {l : List α} {k : Nat} {x : α} (h : l[k]? = some x) : l.take (k + 1) = l.take k ++ [x] := by
  rw [List.take_add_one, h]; rfl
theorem cutL_skip {p : Int} {l : List Cl} {k : Nat} {x : Cl} (h : l[k]? = some x) (hp : x.beg ≥ p) : cutL p (l.take (k + 1)) = cutL p (l.take k) := by
  rw [take_more h, cutL_append]; simp [cutL, hp]
theorem cutL_more {p : Int} {l : List Cl} {k : Nat} {x : Cl} (h : l[k]? = some x) (hp : ¬ x.beg ≥ p) : cutL p (l.take (k + 1)) = cutL p (l.take k) ++ [x.shut p] := by
  rw [take_more h, cutL_append]; simp [cutL, hp]

/-- What was cut is new memory; nothing else is touched. -/
def CutPost (w : World) (p : Int) (l : List Cl) (e : Ending) (w' : World) : Prop := ∃ v', e = .returned v' ∧ w'.ownsRow w.heap.size 49 7 v' (cutL p l).length (clVals (cutL p l)) ∧ Keeps None w w'

set_option maxHeartbeats 1600000 in
theorem cut_ok (a : Option Addr) (n c : Nat) (l : List Cl) (p : Int) (w : World) (hS : Seen w a n l) (hn : (n + 1) * 56 ≤ 140737488355328) :
    Calls Try.prog 10 #[.slice a n c, .int .i64 p] w (CutPost w p l) := by
  have HH : Hid (Seen w a n l) := hS
  clear hS
  go_enter Try.func10, Try.ntmps10
  go_wp2_with fail
  go_loopw [5, 7, 10] (fun s _ i wr => ∃ k : Nat, k ≤ n ∧ i = .int .i64 k ∧ wr.ownsRow w.heap.size 49 7 s (cutL p (l.take k)).length (clVals (cutL p (l.take k))) ∧ Keeps None w wr) (fun _ _ i _ => n - (intOf i).toNat)
  case atStart => exact ⟨0, Nat.zero_le _, rfl, row_nil _ _ _ _, Keeps.refl _ _⟩
  case round =>
    obtain ⟨k, hk, rfl, hrow, hkp⟩ := hrel
    obtain ⟨sa, cs, rfl⟩ := row_shape hrow
    by_cases hkn : k < n
    · have hS := HH.out.more hkp
      obtain ⟨b, off, rfl, hb, hc⟩ := hS.ex (by omega)
      obtain ⟨x, hx⟩ : ∃ x, l[k]? = some x := ⟨l[k]'(by have := HH.out.len; omega), by simp⟩
      obtain ⟨y0, y1, y2, y3, y4, y5, y6⟩ := hc k x hx
      have i1 : (k : Int) < (n : Int) := by omega
      have hle : (cutL p (l.take k)).length ≤ k := Nat.le_trans (cutL_length _ _) (by simp; omega)
      clear hc hS
      by_cases hp : x.beg ≥ p
      · have HN : Hid ((wr.alloc (.cells #[.int .i64 x.who, .int .i64 x.kind, .int .i64 x.arg, .int .i64 x.beg, .int .i64 x.fin, .int .i64 x.code, .int .i64 x.v] 49)).ownsRow w.heap.size 49 7 (.slice sa (cutL p (l.take k)).length cs) (cutL p (l.take (k + 1))).length (clVals (cutL p (l.take (k + 1)))) ∧ Keeps None w (wr.alloc (.cells #[.int .i64 x.who, .int .i64 x.kind, .int .i64 x.arg, .int .i64 x.beg, .int .i64 x.fin, .int .i64 x.code, .int .i64 x.v] 49))) := by
          rw [cutL_skip hx hp]
          exact ⟨hrow.alloc _, hkp.andAlloc _⟩
        clear hrow hkp
        generalize (cutL p (l.take k)).length = m at *
        go_wp2
        go_roundw
        case rel => exact ⟨k + 1, by omega, by go_num, HN.out⟩
        case measure => simp [intOf]; omega
      · by_cases hq : x.fin ≥ p
        ·
          obtain ⟨g, cp, w2, hr, ho, hk2, hm⟩ := call_more w.heap.size (.slice sa (cutL p (l.take k)).length cs) (cutL p (l.take k)) (x.shut p) (cutL p (l.take k)).length 27 (wr.alloc (.cells #[.int .i64 x.who, .int .i64 x.kind, .int .i64 x.arg, .int .i64 x.beg, .int .i64 (-1), .int .i64 0, .int .i64 0] 49)) rfl (hrow.alloc _) (by have := hkp.size; simp; omega) (by omega)
          have HN : Hid (w2.ownsRow w.heap.size 49 7 (.slice (some ⟨g, 0, none⟩) ((cutL p (l.take k)).length + 1) cp) (cutL p (l.take (k + 1))).length (clVals (cutL p (l.take (k + 1)))) ∧ Keeps None w w2) := by
            rw [cutL_more hx hp, List.length_append]
            exact ⟨ho, (hkp.andAlloc _).trans hk2 (fun i e hi => by have := row_low hrow e; omega)⟩
          rw [show x.shut p = ⟨x.who, x.kind, x.arg, x.beg, (-1), 0, 0⟩ by unfold Cl.shut; rw [if_pos hq]] at hr
          simp only [World.size_alloc] at hr
          clear hrow hkp ho hk2 hm
          generalize (cutL p (l.take k)).length = m at *
          go_wp2_with (at_builtin; refine wpList_append_run rfl (.tmp 25) (.tmp 27) 27 27 rfl rfl rfl hr ?_)
          exact ⟨⟨k + 1, by omega, by go_num, HN.out⟩, by simp [intOf]; omega⟩
        ·
          obtain ⟨g, cp, w2, hr, ho, hk2, hm⟩ := call_more w.heap.size (.slice sa (cutL p (l.take k)).length cs) (cutL p (l.take k)) (x.shut p) (cutL p (l.take k)).length 27 (wr.alloc (.cells #[.int .i64 x.who, .int .i64 x.kind, .int .i64 x.arg, .int .i64 x.beg, .int .i64 x.fin, .int .i64 x.code, .int .i64 x.v] 49)) rfl (hrow.alloc _) (by have := hkp.size; simp; omega) (by omega)
          have HN : Hid (w2.ownsRow w.heap.size 49 7 (.slice (some ⟨g, 0, none⟩) ((cutL p (l.take k)).length + 1) cp) (cutL p (l.take (k + 1))).length (clVals (cutL p (l.take (k + 1)))) ∧ Keeps None w w2) := by
            rw [cutL_more hx hp, List.length_append]
            exact ⟨ho, (hkp.andAlloc _).trans hk2 (fun i e hi => by have := row_low hrow e; omega)⟩
          rw [show x.shut p = ⟨x.who, x.kind, x.arg, x.beg, x.fin, x.code, x.v⟩ by unfold Cl.shut; rw [if_neg hq]] at hr
          simp only [World.size_alloc] at hr
          clear hrow hkp ho hk2 hm
          generalize (cutL p (l.take k)).length = m at *
          go_wp2_with (at_builtin; refine wpList_append_run rfl (.tmp 25) (.tmp 27) 27 27 rfl rfl rfl hr ?_)
          exact ⟨⟨k + 1, by omega, by go_num, HN.out⟩, by simp [intOf]; omega⟩
    · have hkn2 : k = n := by omega
      subst hkn2
      have HN : Hid (wr.ownsRow w.heap.size 49 7 (.slice sa (cutL p (l.take k)).length cs) (cutL p l).length (clVals (cutL p l)) ∧ Keeps None w wr) := by
        rw [List.take_of_length_le (by have := HH.out.len; omega)] at hrow ⊢
        exact ⟨hrow, hkp⟩
      clear hrow hkp
      generalize (cutL p (l.take k)).length = m at *
      go_wp2
      go_ret
      exact ⟨_, rfl, HN.out⟩
end Go.Proofs.Ytheginjjncnheaa
