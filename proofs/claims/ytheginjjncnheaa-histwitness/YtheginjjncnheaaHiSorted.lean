import Derived.Test.YtheginjjncnheaaHiReplay
/-! The program sorts the calls by actors. -/
namespace Go.Proofs.Ytheginjjncnheaa
set_option linter.unusedVariables false
set_option maxRecDepth 20000
open Go.RowKit Go.HeapKit

/-- The numbers of an actor's calls among the first k. -/
def mineL (l : List Cl) : Nat → Nat → List Int
  | 0, _ => []
  | k + 1, i => mineL l k i ++ (if (clAt l k).who = i then [(k : Int)] else [])
theorem mineL_length (l : List Cl) (k i : Nat) : (mineL l k i).length ≤ k := by
  induction k with
  | zero => exact Nat.le_refl _
  | succ k ih => simp only [mineL, List.length_append]; split <;> simp <;> omega
theorem mine_last (l : List Cl) (i : Nat) : ∀ k, (mineL l k i = [] ∧ ∀ q : Nat, q < k → (clAt l q).who ≠ i) ∨ ∃ (r : List Int) (q : Nat), mineL l k i = r ++ [(q : Int)] ∧ q < k ∧ (clAt l q).who = i ∧ ∀ q' : Nat, q' < k → (clAt l q').who = i → q' ≤ q := by
  intro k
  induction k with
  | zero => exact .inl ⟨rfl, fun q h => by omega⟩
  | succ k ih =>
    by_cases hw : (clAt l k).who = i
    · right
      refine ⟨mineL l k i, k, by simp [mineL, hw], by omega, hw, fun q' h _ => by omega⟩
    · rcases ih with ⟨h1, h2⟩ | ⟨r, q, h1, h2, h3, h4⟩
      · left
        refine ⟨by simp [mineL, hw, h1], fun q h => ?_⟩
        by_cases hq : q < k
        · exact h2 q hq
        · obtain rfl : q = k := by omega
          exact hw
      · right
        refine ⟨r, q, by simp [mineL, hw, h1], by omega, h3, fun q' h h5 => ?_⟩
        by_cases hq : q' < k
        · exact h4 q' hq h5
        · obtain rfl : q' = k := by omega
          exact absurd h5 hw
theorem take_all {l : List Cl} {k : Nat} {p : Cl → Bool} (hk : k ≤ l.length) : (l.take k).all p = true ↔ ∀ q : Nat, q < k → p (clAt l q) = true := by
  constructor
  · intro h q hq
    obtain ⟨y, hy⟩ : ∃ y, l[q]? = some y := ⟨l[q]'(by omega), by simp⟩
    rw [clAt_of hy]
    exact List.all_eq_true.1 h y (List.mem_of_getElem? (i := q) (by rw [List.getElem?_take, if_pos hq]; exact hy))
  · intro h
    refine List.all_eq_true.2 fun y hy => ?_
    obtain ⟨q, hq⟩ := List.mem_iff_getElem?.1 hy
    rw [List.getElem?_take] at hq
    split at hq
    · rename_i hlt
      have := h q hlt
      rwa [clAt_of hq] at this
    · cases hq
/-- No call of the actor yet. -/
theorem behind_none {l : List Cl} {k i : Nat} {x : Cl} (hk : k ≤ l.length) (hw : x.who = i) (h : ∀ q : Nat, q < k → (clAt l q).who ≠ i) : (l.take k).all (fun y => behind y x) = true :=
  (take_all hk).2 fun q hq => by simp [behind]; exact .inl (fun e => absurd (e.trans hw) (h q hq))
/-- The actor's last call alone decides. -/
theorem behind_last {l : List Cl} {k i q : Nat} {x y : Cl} (hk : k ≤ l.length) (hw : x.who = i) (hok : ∀ q, q < k → okB l q = true) (hq : q < k) (hy : l[q]? = some y) (hyw : y.who = i) (hl : ∀ q' : Nat, q' < k → (clAt l q').who = i → q' ≤ q) :
    (l.take k).all (fun y => behind y x) = aheadB y x := by
  have hoq := hok q hq
  rw [okB_of hy] at hoq
  simp only [Bool.and_eq_true] at hoq
  have hfy := fits_ended hoq.1
  cases ha : aheadB y x with
  | true =>
    simp only [aheadB, decide_eq_true_eq] at ha
    refine (take_all hk).2 fun q' hq' => ?_
    simp only [behind, decide_eq_true_eq]
    intro hw'
    have hle := hl q' hq' (hw'.trans hw)
    by_cases he : q' = q
    · subst he
      rw [clAt_of hy]
      exact ⟨by have := hfy.1.1 ha.1; omega, ha.2⟩
    · have h1 := (take_all (p := fun z => behind z y) (by omega)).1 hoq.2 q' (by omega)
      simp only [behind, decide_eq_true_eq] at h1
      have h2 := h1 (hw'.trans (hw.trans hyw.symm))
      have h3 := hfy.2.2.1 ha.1
      exact ⟨h2.1, by omega⟩
  | false =>
    cases hb : (l.take k).all (fun y => behind y x) with
    | false => rfl
    | true =>
      have h1 := (take_all hk).1 hb q hq
      rw [clAt_of hy] at h1
      simp only [behind, decide_eq_true_eq] at h1
      have h2 := h1 (hyw.trans hw.symm)
      simp only [aheadB, decide_eq_false_iff_not] at ha
      refine absurd ⟨?_, h2.2⟩ ha
      intro hc
      exact h2.1 (hfy.2.1 hc)

/-- The rows of the actors. -/
structure Made (w : World) (base : Nat) (vs : Nat → Value) (l : List Cl) (k : Nat) : Prop where
  own : ∀ i, i < 4 → w.ownsRow base 3 1 (vs i) (mineL l k i).length ((mineL l k i).map (Value.int .i64))
  ap : ∀ i j, i < 4 → j < 4 → i ≠ j → ∀ b, (vs i).ownBlock = some b → (vs j).ownBlock ≠ some b
def updV (vs : Nat → Value) (i : Nat) (v : Value) : Nat → Value := fun j => if j = i then v else vs j
theorem rows_set (vs : Nat → Value) {i : Nat} (hi : i < 4) (v : Value) : (#[vs 0, vs 1, vs 2, vs 3] : Array Value).setIfInBounds i v = #[updV vs i v 0, updV vs i v 1, updV vs i v 2, updV vs i v 3] := by
  rcases i with _ | _ | _ | _ | i
  · rfl
  · rfl
  · rfl
  · rfl
  · omega
theorem rows_at (vs : Nat → Value) {i : Nat} (hi : i < 4) : (#[vs 0, vs 1, vs 2, vs 3] : Array Value)[i]? = some (vs i) := by
  rcases i with _ | _ | _ | _ | i
  · rfl
  · rfl
  · rfl
  · rfl
  · omega
theorem Made.kept {w w' : World} {base : Nat} {vs : Nat → Value} {l : List Cl} {k : Nat} {S : Nat → Prop} (h : Made w base vs l k) (hk : Keeps S w w') (hS : ∀ b, base ≤ b → (∃ cur, w.heap[b]? = some (.cells cur 3 (0, 0))) → ¬ S b) : Made w' base vs l k :=
  ⟨fun i hi => row_kept (h.own i hi) hk (fun b e => hS b (row_low (h.own i hi) e) (own_block (h.own i hi) e)), h.ap⟩
theorem Made.more {w w' : World} {base : Nat} {vs : Nat → Value} {l : List Cl} {k : Nat} (h : Made w base vs l k) (hk : Keeps None w w') : Made w' base vs l k := h.kept hk (fun _ _ _ f => f)
/-- An actor's row is longer by a call. -/
theorem Made.put {w w' : World} {base i : Nat} {vs : Nat → Value} {l : List Cl} {k : Nat} {v' : Value} {x : Cl} (h : Made w base vs l k) (hi : i < 4) (hx : l[k]? = some x) (hw : x.who = i)
    (ho : w'.ownsRow base 3 1 v' ((mineL l k i).length + 1) ((mineL l k i ++ [(k : Int)]).map (Value.int .i64))) (hk : Keeps (fun b => (vs i).ownBlock = some b) w w') (hm : ∀ b, v'.ownBlock = some b → (vs i).ownBlock = some b ∨ w.heap.size ≤ b) : Made w' base (updV vs i v') l (k + 1) := by
  refine ⟨fun j hj => ?_, fun j j2 hj hj2 hne b e e2 => ?_⟩
  · by_cases hji : j = i
    · subst hji
      simp only [updV, if_true, mineL, clAt_of hx, hw]
      simpa using ho
    · have hnw : ¬ x.who = j := fun e => hji (by have := hw.symm.trans e; omega)
      simp only [updV, if_neg hji, mineL, clAt_of hx, if_neg hnw, List.append_nil]
      exact row_kept (h.own j hj) hk (fun b e e2 => h.ap j i hj hi hji b e e2)
  · unfold updV at e e2
    by_cases h1 : j = i
    · have h2 : ¬ j2 = i := fun e => hne (h1.trans e.symm)
      rw [if_pos h1] at e
      rw [if_neg h2] at e2
      rcases hm b e with e3 | e3
      · exact h.ap i j2 hi hj2 (fun e => h2 e.symm) b e3 e2
      · have := own_lt (h.own j2 hj2) e2; omega
    · rw [if_neg h1] at e
      by_cases h2 : j2 = i
      · rw [if_pos h2] at e2
        rcases hm b e2 with e3 | e3
        · exact h.ap j i hj hi h1 b e e3
        · have := own_lt (h.own j hj) e; omega
      · rw [if_neg h2] at e2
        exact h.ap j j2 hj hj2 hne b e e2
def SortPost (w : World) (l : List Cl) (most : Int) (e : Ending) (w' : World) : Prop := ∃ vs : Nat → Value, e = .returned (.tuple #[.agg #[vs 0, vs 1, vs 2, vs 3], .int .i64 (badE l most)]) ∧ Keeps None w w' ∧ (∀ i, i < 4 → ∃ a n c, vs i = .slice a n c) ∧ (badE l most = 0 → Made w' w.heap.size vs l l.length)
theorem results_cell_tmp {P : Program} {fn : Func} {q t : Tmp} {ty : TypeId} (h : fn.results = #[.cell q ty, .tmp t]) {tmps : Array Value} {w : World} {g : Nat} (ha : tmps.getD q undef = .pointer (some ⟨g, 0, none⟩)) {v : Value}
    (hl : (loadVar ty ⟨g, 0, none⟩).run P w = .ok v w) : (results fn tmps).run P w = .ok (.tuple #[v, tmps.getD t undef]) w := by
  have ha' : tmps[q]?.getD undef = .pointer (some ⟨g, 0, none⟩) := by simpa using ha
  simp [results, h, ha', asAddr, hl]
end Go.Proofs.Ytheginjjncnheaa
