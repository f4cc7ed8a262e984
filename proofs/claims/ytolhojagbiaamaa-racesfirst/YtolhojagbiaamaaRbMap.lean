import Derived.Test.YtolhojagbiaamaaRbSweep
import Derived.Maps.Own
/-! The map of the places. -/
namespace Go.Proofs.Ytolhojagbiaamaa
set_option linter.unusedVariables false
set_option maxRecDepth 20000
set_option linter.unusedSimpArgs false
open Go.RowKit Go.HeapKit

/-- What is known of a place. -/
structure Pl where
  w : Nat
  r : Nat
  racy : Bool
def plV (p : Pl) : Value := .agg #[.int .i64 p.w, .int .i64 p.r, .bool p.racy]
def plZ : Pl := ⟨0, 0, false⟩
def fnd : List (Int × Pl) → Int → Nat → Option (Nat × Pl)
  | [], _, _ => none
  | (k', v) :: M, k, i => if k = k' then some (i, v) else fnd M k (i + 1)
def lookP (M : List (Int × Pl)) (k : Int) : Pl := ((fnd M k 0).map Prod.snd).getD plZ
def EntP (M : List (Int × Pl)) (es : List MapEntry) : Prop := es.map (fun e => (e.key, e.val)) = M.map (fun p => (Value.int .i64 p.1, plV p.2))
theorem find_now (k : Int) : ∀ (M : List (Int × Pl)) (es : List MapEntry) (i : Nat), EntP M es → Instr.findNow (.int .i64) (.int .i64 k) es i = some ((fnd M k i).map (fun p => (p.1, plV p.2)))
  | [], es, i, h => by
    have : es = [] := by unfold EntP at h; simpa using h
    subst this
    rfl
  | (k', v) :: M, es, i, h => by
    cases es with
    | nil => simp [EntP] at h
    | cons e es =>
      simp [EntP] at h
      obtain ⟨⟨h1, h2⟩, h3⟩ := h
      unfold Instr.findNow
      rw [h1]
      by_cases e0 : k = k'
      · subst e0
        simp [Instr.sameNow, fnd, h2]
      · have := find_now k M es (i + 1) (by simpa [EntP] using h3)
        have hq : (k == k') = false := by simp [e0]
        simp [Instr.sameNow, fnd, e0, this, hq]
theorem Try.underK : Try.prog.underlying 2 = some (.int .i64) := by kernel_rfl
theorem Try.underPM : Try.prog.underlying 78 = some (.map 2 82) := by kernel_rfl
theorem Try.zeroP (w : World) : (zeroValue 82).run Try.prog w = .ok (plV plZ) w := by kernel_rfl
theorem find_key (k : Int) (w : World) (M : List (Int × Pl)) (es : List MapEntry) (h : EntP M es) : (Instr.findKey 2 (.int .i64 k) es).run Try.prog w = .ok ((fnd M k 0).map (fun p => (p.1, plV p.2))) w :=
  MapKept.run_findKey Try.underK (find_now k M es 0 h)
theorem check_key (k : Int) (e : Bool) (w : World) : (Instr.checkKey e 10000 2 (.int .i64 k)).run Try.prog w = .ok () w := by
  rw [show (10000 : Nat) = 9999 + 1 from rfl]
  unfold Instr.checkKey
  simp [run_underlying Try.underK]
def IsPl (w : World) (b : Nat) (M : List (Int × Pl)) : Prop := ∃ es clock, w.heap[b]? = some (.map es clock) ∧ EntP M es.toList
theorem IsPl.lt {w : World} {b : Nat} {M : List (Int × Pl)} (h : IsPl w b M) : b < w.heap.size := by
  obtain ⟨es, cl, hb, _⟩ := h
  exact (Array.getElem?_eq_some_iff.1 hb).1
theorem IsPl.kept {w w' : World} {b : Nat} {M : List (Int × Pl)} {S : Nat → Prop} (h : IsPl w b M) (hk : Keeps S w w') (hS : ¬ S b) : IsPl w' b M := by
  have hl := h.lt
  obtain ⟨es, cl, hb, he⟩ := h
  exact ⟨es, cl, (hk.block b hl hS).trans hb, he⟩
theorem IsPl.look {w : World} {b : Nat} {M : List (Int × Pl)} (h : IsPl w b M) (k : Int) : (Instr.lookup 78 (.map (some b)) (.int .i64 k) false).run Try.prog w = .ok (plV (lookP M k)) w := by
  obtain ⟨es, cl, hb, he⟩ := h
  have hr := find_key k w M es.toList he
  simp [Instr.lookup, run_underlying Try.underPM, MapKept.run_getObj_map hb, check_key, hr]
  unfold lookP
  cases fnd M k 0 with
  | none => simp [Try.zeroP]; rfl
  | some p => simp
/-- The list behind an update. -/
def putP (M : List (Int × Pl)) (k : Int) (v : Pl) : List (Int × Pl) := match fnd M k 0 with | some (i, _) => M.set i (k, v) | none => M ++ [(k, v)]
theorem fnd_le : ∀ (M : List (Int × Pl)) (k : Int) (i j : Nat) (v : Pl), fnd M k i = some (j, v) → i ≤ j ∧ j < i + M.length ∧ M[j - i]? = some (k, v)
  | [], k, i, j, v, h => by simp [fnd] at h
  | (k', v') :: M, k, i, j, v, h => by
    unfold fnd at h
    split at h
    · rename_i e
      subst e
      injection h with h
      injection h with h1 h2
      subst h1 h2
      exact ⟨Nat.le_refl _, by simp, by simp⟩
    · obtain ⟨h1, h2, h3⟩ := fnd_le M k (i + 1) j v h
      refine ⟨by omega, by simp; omega, ?_⟩
      rw [show j - i = (j - (i + 1)) + 1 by omega]
      simpa using h3
theorem fnd_keys : ∀ (M M' : List (Int × Pl)) (k : Int) (i : Nat), M.map Prod.fst = M'.map Prod.fst → (fnd M k i).map Prod.fst = (fnd M' k i).map Prod.fst
  | [], [], _, _, _ => rfl
  | [], _ :: _, _, _, h => by simp at h
  | _ :: _, [], _, _, h => by simp at h
  | (a, x) :: M, (b, y) :: M', k, i, h => by
    simp at h
    obtain ⟨rfl, h⟩ := h
    unfold fnd
    split
    · rfl
    · exact fnd_keys M M' k (i + 1) h
theorem fnd_app : ∀ (M : List (Int × Pl)) (k k' : Int) (v : Pl) (i : Nat), fnd (M ++ [(k, v)]) k' i = match fnd M k' i with | some x => some x | none => if k' = k then some (i + M.length, v) else none
  | [], k, k', v, i => by simp [fnd]
  | (a, x) :: M, k, k', v, i => by
    simp only [List.cons_append, fnd]
    split
    · rfl
    · rw [fnd_app M k k' v (i + 1)]
      simp [Nat.add_assoc, Nat.add_comm 1]
theorem look_put (M : List (Int × Pl)) (k k' : Int) (v : Pl) : lookP (putP M k v) k' = if k' = k then v else lookP M k' := by
  unfold putP
  cases hf : fnd M k 0 with
  | none =>
    simp only
    unfold lookP
    rw [fnd_app]
    by_cases e : k' = k
    · subst e; rw [hf]; simp
    · cases hf' : fnd M k' 0 with
      | none => simp [e]
      | some x => simp [e]
  | some p =>
    obtain ⟨i, v0⟩ := p
    simp only
    obtain ⟨h1, h2, h3⟩ := fnd_le M k 0 i v0 hf
    simp at h2 h3
    have hkeys : (M.set i (k, v)).map Prod.fst = M.map Prod.fst := by
      rw [List.map_set]
      apply List.ext_getElem?
      intro j
      rw [List.getElem?_set]
      split
      · rename_i e
        subst e
        simp [h2, h3]
        have := List.getElem?_eq_some_iff.1 h3
        obtain ⟨q1, q2⟩ := this
        simp [q2]
      · rfl
    unfold lookP
    by_cases e : k' = k
    · subst e
      rw [if_pos rfl]
      have h4 := fnd_keys (M.set i (k', v)) M k' 0 hkeys
      rw [hf] at h4
      cases hg : fnd (M.set i (k', v)) k' 0 with
      | none => rw [hg] at h4; simp at h4
      | some p =>
        obtain ⟨i', v'⟩ := p
        rw [hg] at h4
        simp at h4
        subst h4
        obtain ⟨_, _, g3⟩ := fnd_le _ k' 0 i' v' hg
        simp [h2] at g3
        simp [g3]
    · rw [if_neg e]
      have h4 := fnd_keys (M.set i (k, v)) M k' 0 hkeys
      cases hg : fnd (M.set i (k, v)) k' 0 with
      | none =>
        rw [hg] at h4
        cases hm : fnd M k' 0 with
        | none => rfl
        | some p => rw [hm] at h4; simp at h4
      | some p =>
        obtain ⟨i', v'⟩ := p
        rw [hg] at h4
        cases hm : fnd M k' 0 with
        | none => rw [hm] at h4; simp at h4
        | some p2 =>
          obtain ⟨i2, v2⟩ := p2
          rw [hm] at h4
          simp at h4
          subst h4
          obtain ⟨_, _, g3⟩ := fnd_le _ k' 0 i' v' hg
          obtain ⟨_, _, m3⟩ := fnd_le _ k' 0 i' v2 hm
          simp only [Nat.sub_zero] at g3 m3
          have hne : i ≠ i' := fun e2 => by
            subst e2
            rw [h3] at m3
            injection m3 with m3
            injection m3 with m3 _
            exact e m3.symm
          rw [List.getElem?_set_ne hne, m3] at g3
          injection g3 with g3
          injection g3 with _ g3
          simp [g3]
theorem ent_set {M : List (Int × Pl)} {es : List MapEntry} (h : EntP M es) (i : Nat) (k : Int) (v : Pl) : EntP (M.set i (k, v)) (es.modify i fun e => { e with key := .int .i64 k, val := plV v }) := by
  unfold EntP at h ⊢
  rw [List.map_set, ← h]
  apply List.ext_getElem?
  intro j
  rw [List.getElem?_map, List.getElem?_modify, List.getElem?_set, List.getElem?_map]
  by_cases e : i = j
  · subst e
    cases hj : es[i]? with
    | none =>
      have : es.length ≤ i := List.getElem?_eq_none_iff.1 hj
      simp [hj, this]
    | some x =>
      have := (List.getElem?_eq_some_iff.1 hj).1
      simp [hj, this]
  · simp [e]
theorem ent_push {M : List (Int × Pl)} {es : List MapEntry} (h : EntP M es) (k : Int) (v : Pl) (c : Nat) : EntP (M ++ [(k, v)]) (es ++ [{ key := .int .i64 k, val := plV v, born := c }]) := by
  unfold EntP at h ⊢
  rw [List.map_append, List.map_append, h]
  rfl
theorem ent_at {M : List (Int × Pl)} {es : List MapEntry} (h : EntP M es) {i : Nat} {k : Int} {v : Pl} (hi : M[i]? = some (k, v)) : (es[i]?).map (·.key) = some (.int .i64 k) := by
  unfold EntP at h
  have h1 := congrArg (fun l => l[i]?) h
  simp only [List.getElem?_map, hi, Option.map_some] at h1
  cases he : es[i]? with
  | none => rw [he] at h1; simp at h1
  | some x =>
    rw [he] at h1
    simp at h1
    simp [h1.1]
theorem IsPl.put {w : World} {b : Nat} {M : List (Int × Pl)} (h : IsPl w b M) (k : Int) (v : Pl) :
    ∃ w', (Instr.mapUpdate 78 (.map (some b)) (.int .i64 k) (plV v)).run Try.prog w = .ok () w' ∧ IsPl w' b (putP M k v) ∧ Keeps (· = b) w w' := by
  have hl := h.lt
  obtain ⟨es, cl, hb, he⟩ := h
  have hr := find_key k w M es.toList he
  have hkeep : ∀ o : Obj, Keeps (· = b) w { w with heap := w.heap.setIfInBounds b o } := fun o => ⟨rfl, rfl, rfl, by simp, fun i hi hne => by
    show (w.heap.setIfInBounds b _)[i]? = w.heap[i]?
    rw [Array.getElem?_setIfInBounds_ne (fun e => hne e.symm)]⟩
  unfold putP
  cases hf : fnd M k 0 with
  | none =>
    rw [hf] at hr
    simp only [Option.map_none] at hr
    refine ⟨{ w with heap := w.heap.setIfInBounds b (.map (es.push { key := .int .i64 k, val := plV v, born := cl }) (cl + 1)) }, ?_, ⟨es.push { key := .int .i64 k, val := plV v, born := cl }, cl + 1, by simp [hl], ?_⟩, hkeep _⟩
    · simp [Instr.mapUpdate, run_underlying Try.underPM, MapKept.run_getObj_map hb, check_key, hr, MapKept.run_setObj_map _ hb]
    · rw [Array.toList_push]
      exact ent_push he k v cl
  | some p =>
    obtain ⟨i, v0⟩ := p
    rw [hf] at hr
    simp only [Option.map_some] at hr
    obtain ⟨_, _, h3⟩ := fnd_le M k 0 i v0 hf
    simp only [Nat.sub_zero] at h3
    have hat := ent_at he h3
    rw [Array.getElem?_toList] at hat
    have hst : (Instr.keyThatStays (.int .i64 k) (.int .i64 k)).run Try.prog w = .ok (.int .i64 k) w := MapKept.run_keyThatStays (d := .int .i64) rfl
    refine ⟨{ w with heap := w.heap.setIfInBounds b (.map (es.modify i fun e => { e with key := .int .i64 k, val := plV v }) cl) }, ?_, ⟨es.modify i fun e => { e with key := .int .i64 k, val := plV v }, cl, by simp [hl], ?_⟩, hkeep _⟩
    · simp [Instr.mapUpdate, run_underlying Try.underPM, MapKept.run_getObj_map hb, check_key, hr, hat, hst, MapKept.run_setObj_map _ hb]
    · rw [Array.toList_modify]
      exact ent_set he i k v
end Go.Proofs.Ytolhojagbiaamaa
