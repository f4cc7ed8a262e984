import Derived.Test.YtfccnmgbdkideaaDoorPkAX
import Derived.Laws.StructEq
import Derived.Test.YtfccnmgbdkideaaDoorPkAW
/-! The statements' 'lives'. -/
namespace Go.Proofs.YtfccnmgbdkideaaDoor
set_option linter.unusedVariables false
set_option maxRecDepth 20000
open Go.RowKit Go.HeapKit Go.PlainOps

def liveF (c : Int) : Fn := ⟨0, 1, 0, [⟨0, 0, 0, 0, c⟩, ⟨9, 0, 0, 0, 0⟩]⟩
theorem live_check (c : Int) : checkV [liveF c] = (0, 0, 0) := by rfl
theorem live_eval (c : Int) : evalV [liveF c] [] 2 = (⟨c, 2, 1, 1, 2⟩, 0) := by
  have h1 : refusedV [liveF c] [] 2 = 0 := by
    unfold refusedV
    rw [live_check]
    rfl
  unfold evalV
  rw [h1]
  rfl
theorem live_tree (c : Int) : treeV [liveF c] [] 2 = [⟨-1, 0, 0, 2, 1, 0, c⟩] := by rfl
theorem live_ok (c : Int) (hc : okI c) : ∀ f ∈ [liveF c], f.Ok := by
  intro f hf
  simp at hf
  subst hf
  refine ⟨by simp [liveF, okI], by simp [liveF, okI], by simp [liveF, okI], fun i hi => ?_⟩
  simp [liveF] at hi
  rcases hi with rfl | rfl
  · exact ⟨by simp [okI], by simp [okI], by simp [okI], by simp [okI], hc⟩
  · exact ⟨by simp [okI], by simp [okI], by simp [okI], by simp [okI], by simp [okI]⟩
def liveC (c : Int) : Array Value := #[.int .i64 0, .int .i64 0, .int .i64 0, .int .i64 0, .int .i64 c, .int .i64 9, .int .i64 0, .int .i64 0, .int .i64 0, .int .i64 0]
theorem live_seen (w : World) (g h : Nat) (c : Int) (b1 : w.heap[g]? = some (.cells (liveC c) 44 (0, 0))) (b2 : w.heap[h]? = some (.cells #[.int .i64 0, .int .i64 1, .int .i64 0, .slice (some ⟨g, 0, none⟩) 2 2] 36 (0, 0))) : SeenF w (some ⟨h, 0, none⟩) 1 [liveF c] := by
  refine ⟨rfl, fun _ => ⟨_, 0, rfl, blk_lt b2, fun k f hf => ?_⟩⟩
  cases k with
  | succ k => simp at hf
  | zero =>
    simp at hf
    subst hf
    refine ⟨some ⟨g, 0, none⟩, 2, ⟨(cell_of_heap b2 0).trans rfl, (cell_of_heap b2 1).trans rfl, (cell_of_heap b2 2).trans rfl, (cell_of_heap b2 3).trans rfl, ⟨rfl, fun _ => ⟨_, 0, rfl, blk_lt b1, fun j i hi => ?_⟩⟩⟩⟩
    match j, hi with
    | 0, hi =>
      simp [liveF] at hi
      subst hi
      exact ⟨(cell_of_heap b1 0).trans rfl, (cell_of_heap b1 1).trans rfl, (cell_of_heap b1 2).trans rfl, (cell_of_heap b1 3).trans rfl, (cell_of_heap b1 4).trans rfl⟩
    | 1, hi =>
      simp [liveF] at hi
      subst hi
      exact ⟨(cell_of_heap b1 5).trans rfl, (cell_of_heap b1 6).trans rfl, (cell_of_heap b1 7).trans rfl, (cell_of_heap b1 8).trans rfl, (cell_of_heap b1 9).trans rfl⟩
    | j + 2, hi => simp [liveF] at hi
theorem seen_nil (w : World) : SeenA w none 0 [] := ⟨rfl, by omega, fun x hx => by simp at hx, fun h => by omega⟩
set_option maxHeartbeats 2000000 in
theorem lives_any (c : Int) (hc : okI c) (w : World) (hT : Tabs w) : Calls Tryd.prog 4 #[.int .i64 c] w fun e w' => e = .returned (.bool true) ∧ Keeps None w w' := by
  obtain ⟨B, hB⟩ : ∃ B, B = w.heap.size := ⟨_, rfl⟩
  obtain ⟨b1, b2, b3⟩ := three_boxes w (liveC c) #[.int .i64 0, .int .i64 1, .int .i64 0, .slice (some ⟨B, 0, none⟩) 2 2] #[.slice (some ⟨B + 1, 0, none⟩) 1 1] 44 36 24
  have hk3 : Keeps None w (((w.alloc (.cells (liveC c) 44)).alloc (.cells #[.int .i64 0, .int .i64 1, .int .i64 0, .slice (some ⟨B, 0, none⟩) 2 2] 36)).alloc (.cells #[.slice (some ⟨B + 1, 0, none⟩) 1 1] 24)) := (((Keeps.refl _ w).andAlloc _).andAlloc _).andAlloc _
  obtain ⟨W, hW⟩ : ∃ W, W = ((w.alloc (.cells (liveC c) 44)).alloc (.cells #[.int .i64 0, .int .i64 1, .int .i64 0, .slice (some ⟨B, 0, none⟩) 2 2] 36)).alloc (.cells #[.slice (some ⟨B + 1, 0, none⟩) 1 1] 24) := ⟨_, rfl⟩
  rw [← hW, ← hB] at b1 b2 b3
  rw [← hW] at hk3
  have hs := live_seen W B (B + 1) c b1 b2
  have hev := eval_any (some ⟨B + 1, 0, none⟩) 1 1 [liveF c] none 0 0 [] 2 W (hT.more hk3) hs (live_ok c hc) (seen_nil W) (by omega) (by simp [okI])
  have htr := fun wx (hx : Keeps None W wx) => tree_any (some ⟨B + 1, 0, none⟩) 1 1 [liveF c] none 0 0 [] 2 wx ((hT.more hk3).more hx) (hs.more hx) (live_ok c hc) (seen_nil wx) (by omega) (by simp [okI])
  rw [live_eval] at hev
  unfold valC at hev
  have HT : Hid (∀ wx, Keeps None W wx → Calls Tryd.prog 5 #[.agg #[.slice (some ⟨B + 1, 0, none⟩) 1 1], .slice none 0 0, .int .i64 2] wx fun e w' => ∃ g cap, e = .returned (.tuple #[.slice (some ⟨g, 0, none⟩) 1 cap, .int .i64 0]) ∧ Keeps None wx w' ∧ w'.cell? ⟨g, 0, none⟩ = some (.int .i64 (-1)) ∧ w'.cell? ⟨g, 1, none⟩ = some (.int .i64 0) ∧ w'.cell? ⟨g, 2, none⟩ = some (.int .i64 0) ∧ w'.cell? ⟨g, 3, none⟩ = some (.int .i64 2) ∧ w'.cell? ⟨g, 4, none⟩ = some (.int .i64 1) ∧ w'.cell? ⟨g, 5, none⟩ = some (.int .i64 0) ∧ w'.cell? ⟨g, 6, none⟩ = some (.int .i64 c)) := by
    intro wx hx
    refine (htr wx hx).mono ?_
    rintro e w' ⟨nv, he, hk, hg, _, hrow⟩
    have hrow := hrow (by rw [live_eval])
    rw [live_eval] at he
    rw [live_tree] at hrow
    rcases hrow.2 with ⟨_, h0⟩ | ⟨g, cap, cur, rfl, _, hb, hn, _, hcs, htk⟩
    · simp at h0
    · refine ⟨g, cap, he, hk, ?_⟩
      have hcell : ∀ j v, (ndVals [⟨-1, 0, 0, 2, 1, 0, c⟩])[j]? = some v → w'.cell? ⟨g, j, none⟩ = some v := by
        intro j v hv
        rw [blk_cell hb, ← Array.getElem?_toList]
        rw [← htk, List.getElem?_take] at hv
        split at hv
        · exact hv
        · cases hv
      exact ⟨hcell 0 _ rfl, hcell 1 _ rfl, hcell 2 _ rfl, hcell 3 _ rfl, hcell 4 _ rfl, hcell 5 _ rfl, hcell 6 _ rfl⟩
  have d0 : W.cell? ⟨B + 2, 0, none⟩ = some (.slice (some ⟨B + 1, 0, none⟩) 1 1) := (blk_cell b3 0).trans rfl
  have HX : Hid (Keeps None w W) := hk3
  unfold liveC at hW
  clear htr hs b1 b2 b3 hk3 hT hc
  go_enter Tryd.func4, Tryd.ntmps4
  rw [hB] at hW
  go_upto_region 2 with fail
  rw [← hW, ← hB]
  clear hW hB
  go_upto_region 3 with (go_at_call 7; refine hev.mono ?_; rintro _ w2 ⟨rfl, hk2⟩)
  have e0 := hk2.cell d0 (fun f => f)
  have hal := Keeps.alloc None w2 (.cells #[.int .i64 c, .int .i64 2, .int .i64 1, .int .i64 1, .int .i64 2] 38)
  have bV := heap_alloc_new w2 (.cells #[.int .i64 c, .int .i64 2, .int .i64 1, .int .i64 1, .int .i64 2] 38)
  obtain ⟨V, hV⟩ : ∃ V, V = w2.alloc (.cells #[.int .i64 c, .int .i64 2, .int .i64 1, .int .i64 1, .int .i64 2] 38) := ⟨_, rfl⟩
  obtain ⟨G, hG⟩ : ∃ G, G = w2.heap.size := ⟨_, rfl⟩
  rw [← hV] at hal bV
  rw [← hG] at bV
  rw [← hV, ← hG]
  have f0 := hal.cell e0 (fun f => f)
  have htr := HT.out V (hk2.trans hal (fun _ f _ => f))
  have HV : Hid (Keeps None w V ∧ V.heap[G]? = _) := ⟨(HX.out.trans hk2 (fun _ f _ => f)).trans hal (fun _ f _ => f), bV⟩
  clear hV hG hal bV hk2 e0 d0 hev HT
  go_upto_region 4 with (go_at_call 5; refine htr.mono ?_; rintro _ w4 ⟨g, cap, rfl, hk4, y0, y1, y2, y3, y4, y5, y6⟩)
  have b4 := blk_kept HV.out.2 hk4 (fun f => f)
  have x0 := (blk_cell b4 0).trans rfl
  have x1 := (blk_cell b4 1).trans rfl
  have x2 := (blk_cell b4 2).trans rfl
  have x3 := (blk_cell b4 3).trans rfl
  have x4 := (blk_cell b4 4).trans rfl
  have HK : Hid (Keeps None w w4) := HV.out.1.trans hk4 (fun _ f _ => f)
  clear b4 hk4 htr f0
  go_wp2_with fail
  go_ret
  exact ⟨rfl, HK.out⟩
end Go.Proofs.YtfccnmgbdkideaaDoor
/-! SerialShape: what its walk reads. -/
namespace Go.Proofs.YtfccnmgbdkideaaDoor
set_option linter.unusedVariables false
set_option maxRecDepth 20000
open Go.RowKit Go.HeapKit Go.PlainOps

/-! ### Plainly -/
theorem Grows.par_lt {fs : List Fn} {K : List Ky} {D : List Int} (h : Grows fs K D) {k q : Nat} {x : Ky} (hx : K[k]? = some x) (hp : x.parent = (q : Int)) : q < k := by
  by_cases h0 : k = 0
  · subst h0
    rw [h.first.1] at hx
    injection hx with hx
    subst hx
    have hp' : (-1 : Int) = (q : Int) := hp
    omega
  · obtain ⟨x', d, p, y, h1, h2, h3⟩ := h.at k (by omega) (List.getElem?_eq_some_iff.1 hx).1
    rw [hx] at h1
    injection h1 with h1
    have h4 := h3.par
    rw [← h1, hp] at h4
    have h5 := (List.getElem?_eq_some_iff.1 h3.at_).1
    simp at h5
    omega
theorem Anc.le {fs : List Fn} {K : List Ky} {D : List Int} (hG : Grows fs K D) {k p : Nat} (h : Anc K k p) : p ≤ k := by
  induction h with
  | refl p => exact Nat.le_refl _
  | up hx hp _ ih => have := hG.par_lt hx hp; omega
theorem Anc.step {fs : List Fn} {K : List Ky} {D : List Int} (hG : Grows fs K D) {k p : Nat} (h : Anc K k p) (hlt : p < k) : ∃ (x : Ky) (q : Nat), K[k]? = some x ∧ x.parent = (q : Int) ∧ q < k ∧ Anc K q p := by
  cases h with
  | refl => omega
  | up hx hp h2 => exact ⟨_, _, hx, hp, hG.par_lt hx hp, h2⟩
theorem Grows.dep {fs : List Fn} {K : List Ky} {D : List Int} (h : Grows fs K D) : ∀ (i : Nat) (d : Int), D[i]? = some d → 1 ≤ d ∧ d ≤ (i : Int) + 1 := by
  induction h with
  | one => intro i d hd; cases i with
    | zero => simp at hd; omega
    | succ i => simp at hd
  | @more K D x d p y hg hn ih =>
    intro i e he
    have hl := hg.len
    by_cases hi : i < D.length
    · rw [List.getElem?_append_left hi] at he
      exact ih i e he
    · rw [List.getElem?_append_right (by omega)] at he
      have hi2 : i - D.length = 0 := by
        have := (List.getElem?_eq_some_iff.1 he).1
        simp at this
        omega
      rw [hi2] at he
      simp at he
      have h1 := ih p (d - 1) hn.dep
      have h2 := (List.getElem?_eq_some_iff.1 hn.dep).1
      omega
theorem cnt_le (K : List Ky) (p : Int) : cntK K p ≤ K.length := List.length_filter_le _ _
theorem sum_take_bound {l : List Nd} (h : ∀ (j : Nat) (y : Nd), l[j]? = some y → 1 ≤ y.work) (k : Nat) : 0 ≤ sumW (l.take k) ∧ sumW (l.take k) ≤ sumW l := by
  have hp : ∀ m : List Nd, (∀ y ∈ m, 1 ≤ y.work) → 0 ≤ sumW m := by
    intro m hm
    induction m with
    | nil => exact Int.le_refl _
    | cons x m ih =>
      have h1 := hm x (by simp)
      have h2 := ih (fun y hy => hm y (by simp [hy]))
      simp only [sumW, List.map_cons, List.foldr_cons] at h2 ⊢
      omega
  have ha : ∀ y ∈ l, 1 ≤ y.work := fun y hy => by
    obtain ⟨j, hj, e⟩ := List.getElem_of_mem hy
    exact h j y (by rw [List.getElem?_eq_getElem hj, e])
  have h1 := hp (l.take k) (fun y hy => ha y (List.mem_of_mem_take hy))
  have h2 := hp (l.drop k) (fun y hy => ha y (List.mem_of_mem_drop hy))
  have h3 := sum_app (l.take k) (l.drop k)
  rw [List.take_append_drop] at h3
  omega
theorem sum_take_step {l : List Nd} {k : Nat} {x : Nd} (h : l[k]? = some x) : sumW (l.take (k + 1)) = sumW (l.take k) + x.work := by
  rw [List.take_add_one, h, sum_app]
  simp [sumW]
theorem max_take_step {D : List Int} {k : Nat} {d : Int} (h : D[k]? = some d) : maxD (D.take (k + 1)) = imax (maxD (D.take k)) d := by
  rw [List.take_add_one, h]
  exact max_app _ _
theorem max_bound {fs : List Fn} {K : List Ky} {D : List Int} (h : Grows fs K D) (k : Nat) : 0 ≤ maxD (D.take k) ∧ maxD (D.take k) ≤ (K.length : Int) := by
  induction k with
  | zero => exact ⟨Int.le_refl _, by simp [maxD]⟩
  | succ k ih =>
    have hl := h.len
    by_cases hk : k < D.length
    · obtain ⟨d, hd⟩ : ∃ d, D[k]? = some d := ⟨D[k], by simp⟩
      rw [max_take_step hd]
      have := h.dep k d hd
      unfold imax
      split <;> omega
    · rw [List.take_of_length_le (by omega)] at ih ⊢
      exact ih
/-- Tree and Eval of a run that ends. -/
structure Ends (l : List Fn) (L : List Nd) (V : Val) (D : List Int) : Prop where
  all : AllV l
  tasks : V.tasks = (L.length : Int)
  good : Grows l (keys L) D
  dep : V.depth = maxD D
  sum : sumW L = V.work
  most : V.work ≤ 4194304
  fin : ∀ (j : Nat) (y : Nd), L[j]? = some y → 1 ≤ y.work
  v : ∃ y, L[0]? = some y ∧ y.v = V.v
  len : L.length ≤ 8388608
theorem eval_tree {l : List Fn} {zs : List Int} {fuel : Int} (hok : ∀ f ∈ l, f.Ok) (hz : ∀ x ∈ zs, okI x) (he0 : (evalV l zs fuel).2 = 0) : ∃ D, Ends l (treeV l zs fuel) (evalV l zs fuel).1 D := by
  have hr0 : refusedV l zs fuel = 0 := by
    by_cases h : refusedV l zs fuel = 0
    · exact h
    · unfold evalV at he0
      rw [if_pos h] at he0
      exact absurd he0 h
  obtain ⟨hcz, hpz, hf0, hf1⟩ := refused_zero hr0
  have hA := allV_of hcz hok
  obtain ⟨F, rfl⟩ := Int.eq_ofNat_of_zero_le hf0
  have hz8 := root_le hA hpz
  have hBg := root_begins hA true hz F (by omega)
  have hbare := run_bare' l zs F
  have hev2 : evalV l zs (F : Int) = (match runV l false zs F with
    | .gave e => (zeroVal, e)
    | .done v sp s => (⟨v, (F : Int) - s.fuel, s.tasks, s.depth, sp⟩, 0)) := by
    unfold evalV
    rw [if_neg (by simpa using hr0)]
    rfl
  rw [hbare] at hev2
  cases hq : runV l true zs F with
  | gave e =>
    rw [hq] at hev2
    have : evalV l zs (F : Int) = (zeroVal, e) := hev2
    rw [this] at he0
    exact absurd he0 (gave_ne hA hBg hq)
  | done v sp s =>
    rw [hq] at hev2
    have hev3 : evalV l zs (F : Int) = (⟨v, (F : Int) - s.fuel, s.tasks, s.depth, sp⟩, 0) := hev2
    obtain ⟨D, hW⟩ := run_shape hq
    obtain ⟨_, _, _, h4, h5, _⟩ := child_done hA hBg rfl hq
    have h6 := h5.tasks
    have htv : treeV l zs (F : Int) = s.nodes := by
      unfold treeV
      rw [show (F : Int).toNat = F from rfl, hq]
    rw [hev3, htv]
    exact ⟨D, ⟨hA, by show (s.tasks : Int) = _; rw [hW.len], hW.good, hW.max, by have := hW.sum; show _ = (F : Int) - s.fuel; omega, by show (F : Int) - s.fuel ≤ _; omega, hW.fin, hW.v, by rw [hW.len]; omega⟩⟩
/-! ### In memory -/
structure SeenD (w : World) (a : Option Addr) (n : Nat) (l : List Nd) : Prop where
  len : n = l.length
  ex : 0 < n → ∃ b, a = some ⟨b, 0, none⟩ ∧ b < w.heap.size ∧ ∀ k x, l[k]? = some x → ∀ j y, x.l[j]? = some y → w.cell? ⟨b, k * 7 + j, none⟩ = some (.int .i64 y)
theorem SeenD.more {w w' : World} {a : Option Addr} {n : Nat} {l : List Nd} (h : SeenD w a n l) (hk : Keeps None w w') : SeenD w' a n l := by
  refine ⟨h.len, fun h0 => ?_⟩
  obtain ⟨b, rfl, hb, hc⟩ := h.ex h0
  exact ⟨b, rfl, Nat.lt_of_lt_of_le hb hk.size, fun k x hx j y hy => hk.cell (hc k x hx j y hy) (fun f => f)⟩
theorem row_seenD {w : World} {nv : Value} {l : List Nd} (h : w.ownsRow 0 33 7 nv l.length (ndVals l)) : ∃ a c, nv = .slice a l.length c ∧ SeenD w a l.length l := by
  rcases h.2 with ⟨rfl, h0⟩ | ⟨g, cap, cur, rfl, hb0, hg, hnc, hcm, hcs, htk⟩
  · exact ⟨none, 0, by rw [h0], ⟨rfl, fun h => by omega⟩⟩
  · refine ⟨_, cap, rfl, ⟨rfl, fun _ => ⟨g, rfl, blk_lt hg, fun k x hx j y hy => ?_⟩⟩⟩
    have h1 := ndVals_at l k x hx j y hy
    rw [← htk, List.getElem?_take] at h1
    rw [blk_cell hg, ← Array.getElem?_toList]
    split at h1
    · exact h1
    · cases h1
/-- Numbers in a block of their own. -/
def IsN (w : World) (g : Nat) (l : List Int) : Prop := w.heap[g]? = some (.cells (l.map (Value.int .i64)).toArray 3 (0, 0))
theorem IsN.kept {w w' : World} {S : Nat → Prop} {g : Nat} {l : List Int} (h : IsN w g l) (hk : Keeps S w w') (hS : ¬ S g) : IsN w' g l := blk_kept h hk hS
theorem IsN.at {w : World} {g : Nat} {l : List Int} (h : IsN w g l) {k : Nat} {x : Int} (hx : l[k]? = some x) : w.cell? ⟨g, k, none⟩ = some (.int .i64 x) := by
  rw [blk_cell h]
  simp [hx]
theorem IsN.set {w : World} {g : Nat} {l : List Int} (h : IsN w g l) (k : Nat) (x : Int) : IsN (w.setCell ⟨g, k, none⟩ (.int .i64 x)) g (l.set k x) := by
  unfold IsN at *
  rw [blk_set h, List.map_set]
  simp
theorem nums_made (w : World) (n : Nat) (hn : n * 8 ≤ 140737488355328) : ∃ w', (Instr.makeSlice 90 (.int .i64 n) (.int .i64 n)).run Tryd.prog w = .ok (.slice (some ⟨w.heap.size, 0, none⟩) n n) w' ∧ IsN w' w.heap.size (List.replicate n 0) ∧ Keeps None w w' := by
  obtain ⟨i0, hi, hz0, hz1, hz2⟩ := info_parts Tryd.infoInt
  obtain ⟨M, hM, _, hr⟩ := run_make_block (P := Tryd.prog) (w := w) 90 3 i0 _ 1 8 Tryd.underlying90 hi hz0 hz1 hz2 n (by omega) (by omega)
  refine ⟨_, hr, ?_, Keeps.alloc None w _⟩
  unfold IsN
  rw [heap_alloc_new, hM, Nat.mul_one, made_one _ rfl]
  congr 3
  apply List.ext_getElem <;> simp
end Go.Proofs.YtfccnmgbdkideaaDoor
/-! SerialPart: the function's code from a region on; a list of one number. -/
namespace Go.Proofs.YtfccnmgbdkideaaDoor
set_option linter.unusedVariables false
set_option maxRecDepth 20000
open Go.RowKit Go.HeapKit Go.PlainOps

def regFirst : Code → Option Nat
  | .region n _ _ => some n
  | .seq a _ => regFirst a
  | _ => none
def tailAt (k : Nat) : Code → Option Code
  | .seq a b => if regFirst a = some k then some (.seq a b) else tailAt k b
  | _ => none
noncomputable def partTail (k : Nat) : Code := (Tryd.f3.body.bind (tailAt k)).getD .skip
theorem Tryd.infoI64p : (Tryd.prog.info? 2).map (fun i => (i.zero, i.size, i.bytes)) = some (some (.int .i64 0), 1, 8) := by kernel_rfl
theorem word_append (v : Value) (l : List Int) (x : Int) (n g ty : Nat) (w : World) (hn : n = l.length) (h : w.ownsRow 0 2 1 v n (ints l)) (hlen : (n + 1) * 8 ≤ 140737488355328)
    (hg : w.heap[g]? = some (.cells #[.int .i64 x] 2 (0, 0))) :
    ∃ b cap w', (Builtin.append_ #[25, 25] ty #[v, .slice (some ⟨g, 0, none⟩) 1 1]).run Tryd.prog w = .ok (.slice (some ⟨b, 0, none⟩) (n + 1) cap) w' ∧
      w'.ownsRow 0 2 1 (.slice (some ⟨b, 0, none⟩) (n + 1) cap) (n + 1) (ints (l ++ [x])) ∧ Keeps (fun k => v.ownBlock = some k) w w' ∧ (v.ownBlock = some b ∨ w.heap.size ≤ b) ∧ n + 1 ≤ cap := by
  obtain ⟨i0, hi, hz0, hz1, hz2⟩ := info_parts Tryd.infoI64p
  obtain ⟨v', w', hr, ho, hgr, hm, -⟩ := run_append_moved (P := Tryd.prog) w 0 25 ty 2 i0 _ 1 8 Tryd.underlying25 hi hz0 hz1 hz2 rfl (by decide) v n (ints l) h
    ⟨g, 0, none⟩ 1 1 [.int .i64 x] rfl (by
      intro j u hu
      rw [show (⟨g, 0, none⟩ : Addr).add j = ⟨g, j, none⟩ by unfold Addr.add; split <;> simp_all, blk_cell hg]
      simpa using hu) (by
      intro u hu
      simp at hu
      subst hu
      rfl) (by unfold maxLen; omega) (by omega) (Nat.zero_le _)
  have e : ints (l ++ [x]) = ints l ++ [.int .i64 x] := by simp [ints]
  rw [e]
  rcases ho.2 with ⟨_, h0⟩ | ⟨b, cap, cur, rfl, hb', hg', hn', _⟩
  · omega
  · refine ⟨b, cap, w', hr, ho, (Keeps.refl _ w).andGrown hgr (fun k e => .inl e), ?_, hn'⟩
    rcases hm with hm | ⟨g', e, hg⟩
    · exact .inl (hm.symm.trans rfl)
    · simp [Value.ownBlock] at e; exact .inr (by omega)
theorem one_seen {w : World} {b c : Nat} {x : Int} (h : w.ownsRow 0 2 1 (.slice (some ⟨b, 0, none⟩) 1 c) 1 (ints [x])) (hx : okI x) : SeenA w (some ⟨b, 0, none⟩) 1 [x] := by
  rcases h.2 with ⟨_, h0⟩ | ⟨g, cap, cur, he, hb0, hg, hnc, hcm, hcs, htk⟩
  · omega
  · injection he with e1 e2 e3
    injection e1 with e1
    injection e1 with e1
    subst e1
    refine ⟨rfl, by omega, fun z hz => by simp at hz; rw [hz]; exact hx, fun _ => ⟨b, 0, rfl, blk_lt hg, fun k z hz => ?_⟩⟩
    have hk : k = 0 := by have := (List.getElem?_eq_some_iff.1 hz).1; simp at this; omega
    subst hk
    have h1 : (ints [x])[0]? = some (.int .i64 x) := rfl
    rw [← htk, List.getElem?_take, if_pos (by omega)] at h1
    simp at hz
    subst hz
    rw [blk_cell hg, ← Array.getElem?_toList]
    exact h1
end Go.Proofs.YtfccnmgbdkideaaDoor
/-! SerialPart: the walk, from region 20 on. -/
namespace Go.Proofs.YtfccnmgbdkideaaDoor
set_option linter.unusedVariables false
set_option maxRecDepth 20000
open Go.RowKit Go.HeapKit Go.PlainOps

set_option maxHeartbeats 8000000 in
set_option maxRecDepth 1000000 in
theorem part_C (a : Option Addr) (n c : Nat) (l : List Fn) (fuel : Int) (w w5 : World) (B lb N tc j F G : Nat) (x : Nd) (L : List Nd) (ga : Option Addr) (gn gc e : Nat) (HC : Hid (Keeps None w w5 ∧ SeenF w a n l ∧ Tabs w ∧ (∀ f ∈ l, f.Ok) ∧ okI fuel ∧ AllV l ∧ N = L.length ∧ x.func = (F : Int) ∧ F < l.length ∧ L[j]? = some x ∧ (∀ (j : Nat) (y : Nd), L[j]? = some y → 1 ≤ y.work) ∧ sumW L ≤ 4194304 ∧ (∀ f ∈ l, f.code.length ≤ 512) ∧ n ≤ 32)) (HM : Hid (w5.cell? ⟨B, 0, none⟩ = some (.slice a n c) ∧ (∀ k z, L[k]? = some z → ∀ q y, z.l[q]? = some y → w5.cell? ⟨lb, k * 7 + q, none⟩ = some (.int .i64 y)) ∧ w5.heap[G]? = some (.cells #[.int .i64 x.parent, .int .i64 x.idx, .int .i64 x.func, .int .i64 x.work, .int .i64 x.ped, .int .i64 x.arg, .int .i64 x.v] 33 (0, 0)))) (hjN : j < N) (hNb : N ≤ 8388608) (hga : SeenA w5 ga gn (argOf l x)) (hP : PartOk l L j e x fuel.toNat) (hf0 : 0 ≤ fuel) {u0 u1 u3 u5 u6 u7 u8 u10 u15 u16 u17 u18 u19 u20 u21 u22 u23 u24 u25 u26 u27 u28 u29 u30 u31 u32 u33 u34 u35 u36 u37 u38 u39 u40 u41 u42 u43 u44 u45 u46 u47 u48 u49 u50 u51 u52 u53 u54 u55 u56 u57 u58 u59 u60 u61 u62 u63 u64 u65 u66 u67 u68 u69 u70 u71 u72 u73 u74 u75 u76 u77 u78 u79 u80 u81 u82 u83 u84 u85 u86 u87 u88 u89 u90 u91 u92 u93 u94 u95 u96 u97 u98 u99 u100 u101 u102 u103 u104 u105 u106 u107 u108 u109 u110 u111 u112 u113 u114 u115 u116 u117 u118 u119 u120 u121 u122 u123 u124 u125 u126 u127 u128 u129 u130 u131 u132 u133 u134 u135 u136 u137 u138 u139 u140 u141 u142 : Value} :
    Code.wp Tryd.prog (partTail 20) (bodyPost Tryd.prog Tryd.f3 fun e w' => e = .returned (.bool true) ∧ Keeps None w w') ⟨#[u0, u1, .int .i64 fuel, u3, .pointer (some ⟨B, 0, none⟩), u5, u6, u7, u8, .slice (some ⟨lb, 0, none⟩) N tc, u10, .int .i64 (j : Int), .pointer (some ⟨G, 0, none⟩), .slice ga gn gc, .int .i64 1, u15, u16, u17, u18, u19, u20, u21, u22, u23, u24, u25, u26, u27, u28, u29, u30, u31, u32, u33, u34, u35, u36, u37, u38, u39, u40, u41, u42, u43, u44, u45, u46, u47, u48, u49, u50, u51, u52, u53, u54, u55, u56, u57, u58, u59, u60, u61, u62, u63, u64, u65, u66, u67, u68, u69, u70, u71, u72, u73, u74, u75, u76, u77, u78, u79, u80, u81, u82, u83, u84, u85, u86, u87, u88, u89, u90, u91, u92, u93, u94, u95, u96, u97, u98, u99, u100, u101, u102, u103, u104, u105, u106, u107, u108, u109, u110, u111, u112, u113, u114, u115, u116, u117, u118, u119, u120, u121, u122, u123, u124, u125, u126, u127, u128, u129, u130, u131, u132, u133, u134, u135, u136, u137, u138, u139, u140, u141, u142], []⟩ w5 := by
  obtain ⟨dp, sp, hev⟩ := hP.ev
  have hFn : x.func.toNat = F := by have := HC.out.2.2.2.2.2.2.2.1; omega
  rw [hFn, Int.toNat_of_nonneg hf0] at hev
  have HP : Hid (PartOk l L j e x fuel.toNat ∧ evalV (swapL l F) (argOf l x) fuel = (⟨x.v, sumW ((L.drop j).take (e - j)), ((e - j : Nat) : Int), dp, sp⟩, 0) ∧ SeenA w5 ga gn (argOf l x)) := ⟨hP, hev, hga⟩
  have hsb := sum_take_bound HC.out.2.2.2.2.2.2.2.2.2.2.1
  have hpart : ∀ k, j ≤ k → 0 ≤ sumW ((L.drop j).take (k - j)) ∧ sumW ((L.drop j).take (k - j)) ≤ 4194304 := fun k hk => by
    have h1 := sum_app (L.take j) ((L.drop j).take (k - j))
    have h2 : L.take j ++ (L.drop j).take (k - j) = L.take k := by
      rw [show k = j + (k - j) by omega, List.take_add, show j + (k - j) - j = k - j by omega]
    rw [h2] at h1
    have h3 := hsb k
    have h4 := hsb j
    have h5 := (sum_take_bound (l := L.drop j) (fun q y hy => HC.out.2.2.2.2.2.2.2.2.2.2.1 (j + q) y (by rw [List.getElem?_drop] at hy; exact hy)) (k - j)).1
    have h6 := HC.out.2.2.2.2.2.2.2.2.2.2.2.1
    omega
  have HB : Hid _ := hpart
  have g3 : w5.cell? ⟨G, 3, none⟩ = some (.int .i64 x.work) := (blk_cell HM.out.2.2 3).trans rfl
  have hjb : (j : Int) ≤ 8388608 := by omega
  have hNi : (N : Int) ≤ 8388608 := by omega
  clear hP hev hga hsb hpart hFn
  conv => arg 2; whnf
  go_wp2_with fail
  clear g3
  go_loopw [14, 15, 16] (fun s14 s15 s16 wr => ∃ k : Nat, j < k ∧ k ≤ e ∧ s16 = .int .i64 k ∧ s14 = .int .i64 ((k : Int) - (j : Int)) ∧ s15 = .int .i64 (sumW ((L.drop j).take (k - j))) ∧ wr = w5) (fun _ _ i _ => N - (intOf i).toNat)
  case atStart =>
    refine ⟨j + 1, by omega, HP.out.1.lt, by simp, by simp; omega, ?_, rfl⟩
    rw [show j + 1 - j = 1 by omega]
    have h1 : (L.drop j).take 1 = [x] := by
      rw [List.drop_eq_getElem_cons (by have := HC.out.2.2.2.2.2.2.1; omega)]
      have h2 := HC.out.2.2.2.2.2.2.2.2.2.1
      rw [List.getElem?_eq_getElem (by have := HC.out.2.2.2.2.2.2.1; omega)] at h2
      simp [Option.some.inj h2]
    rw [h1]
    simp [sumW]
  case round =>
    obtain ⟨k, hjk, hke, rfl, rfl, rfl, hwr⟩ := hrel
    subst hwr
    have hle := HP.out.1.le
    have hNe : Hid (N = L.length) := HC.out.2.2.2.2.2.2.1
    by_cases hk : k < e
    · obtain ⟨z, hz⟩ : ∃ z, L[k]? = some z := ⟨L[k]'(by omega), by simp⟩
      have hlow := HP.out.1.low k z hjk hk hz
      have y0 := HM.out.2.1 k z hz 0 z.parent rfl
      have y3 := HM.out.2.1 k z hz 3 z.work rfl
      simp only [Nat.add_zero] at y0
      have hb1 := HB.out k (by omega)
      have hb2 := HB.out (k + 1) (by omega)
      have hst : sumW ((L.drop j).take (k + 1 - j)) = sumW ((L.drop j).take (k - j)) + z.work := by
        rw [show k + 1 - j = (k - j) + 1 by omega]
        exact sum_take_step (by rw [List.getElem?_drop, show j + (k - j) = k by omega]; exact hz)
      have HST : Hid _ := hst
      rw [hst] at hb2
      have hw1 := HC.out.2.2.2.2.2.2.2.2.2.2.1 k z hz
      generalize sumW ((L.drop j).take (k - j)) = S at *
      have i1 : (k : Int) < (N : Int) := by have := hNe.out; omega
      have i2 : (j : Int) ≤ z.parent := hlow
      have i3 : (0 : Int) ≤ (k : Int) - (j : Int) := by omega
      clear hst hz hlow
      go_wp2_with fail
      refine ⟨⟨k + 1, by omega, by omega, by simp, by congr 1; omega, by rw [HST.out], trivial⟩, by simp [intOf]; omega⟩
    · have hke2 : k = e := by omega
      subst hke2
      have hcase : (¬ (k : Int) < (N : Int)) ∨ ∃ z, L[k]? = some z ∧ z.parent < (j : Int) ∧ (k : Int) < (N : Int) := by
        by_cases hkN : k < N
        · obtain ⟨z, hz⟩ : ∃ z, L[k]? = some z := ⟨L[k]'(by have := hNe.out; omega), by simp⟩
          exact .inr ⟨z, hz, HP.out.1.next z hz, by omega⟩
        · exact .inl (by omega)
      have hsw := swapped_any a n c l F wr (HC.out.2.1.more HC.out.1) (by have := HC.out.2.2.2.2.2.2.2.2.1; have := HC.out.2.1.len; omega) HC.out.2.2.2.2.2.2.2.2.2.2.2.2.2 HC.out.2.2.2.2.2.2.2.2.2.2.2.2.1
      unfold SwapPost at hsw
      have d0 := HM.out.1
      have g2 : wr.cell? ⟨G, 2, none⟩ = some (.int .i64 (F : Int)) := by rw [← HC.out.2.2.2.2.2.2.2.1]; exact (blk_cell HM.out.2.2 2).trans rfl
      have hev := fun (qa : Option Addr) (qc : Nat) wx (hx : Keeps None wr wx) (hs : SeenF wx qa n (swapL l F)) => eval_any qa n qc (swapL l F) ga gn gc (argOf l x) fuel wx (HC.out.2.2.1.more (HC.out.1.trans hx (fun _ f _ => f))) hs (ok_swap HC.out.2.2.2.2.2.2.2.2.1 (by have := HC.out.2.2.2.2.2.1.len; omega) HC.out.2.2.2.1) (HP.out.2.2.more hx) HP.out.2.2.most HC.out.2.2.2.2.1
      rw [HP.out.2.1] at hev
      unfold valC at hev
      simp only at hev
      have HEV : Hid _ := hev
      have eT : ((k - j : Nat) : Int) = (k : Int) - (j : Int) := by omega
      have hb1 := HB.out k (by omega)
      rw [eT] at HEV
      generalize sumW ((L.drop j).take (k - j)) = S at *
      clear hev eT hle
      rcases hcase with i1 | ⟨z, hz, hzp, i1⟩
      · go_upto_region 26 with fail
        go_wp2_with (first
          | (go_at_call 8; refine hsw.mono ?_; rintro _ w7 ⟨qa, qc, rfl, hs7, hk7⟩)
          | (go_at_call 7; refine (HEV.out qa qc _ hk7 hs7).mono ?_; rintro _ w8 ⟨rfl, hk8⟩; have k9 := (hk7.trans hk8 (fun _ f _ => f)).andAlloc (.cells #[.int .i64 x.v, .int .i64 S, .int .i64 ((k : Int) - (j : Int)), .int .i64 dp, .int .i64 sp] 38); have b9 := heap_alloc_new w8 (.cells #[.int .i64 x.v, .int .i64 S, .int .i64 ((k : Int) - (j : Int)), .int .i64 dp, .int .i64 sp] 38); have e0 := (blk_cell b9 0).trans rfl; have e1 := (blk_cell b9 1).trans rfl; have e2 := (blk_cell b9 2).trans rfl; have v6 := (blk_cell (blk_kept HM.out.2.2 k9 (fun f => f)) 6).trans rfl; have HK9 : Hid _ := k9; clear k9 b9))
        go_ret
        exact ⟨rfl, HC.out.1.trans HK9.out (fun _ f _ => f)⟩
      · have y0 := HM.out.2.1 k z hz 0 z.parent rfl
        simp only [Nat.add_zero] at y0
        have i2 : ¬ ((j : Int) ≤ z.parent) := by omega
        clear hz
        go_upto_region 26 with fail
        clear y0
        go_wp2_with (first
          | (go_at_call 8; refine hsw.mono ?_; rintro _ w7 ⟨qa, qc, rfl, hs7, hk7⟩)
          | (go_at_call 7; refine (HEV.out qa qc _ hk7 hs7).mono ?_; rintro _ w8 ⟨rfl, hk8⟩; have k9 := (hk7.trans hk8 (fun _ f _ => f)).andAlloc (.cells #[.int .i64 x.v, .int .i64 S, .int .i64 ((k : Int) - (j : Int)), .int .i64 dp, .int .i64 sp] 38); have b9 := heap_alloc_new w8 (.cells #[.int .i64 x.v, .int .i64 S, .int .i64 ((k : Int) - (j : Int)), .int .i64 dp, .int .i64 sp] 38); have e0 := (blk_cell b9 0).trans rfl; have e1 := (blk_cell b9 1).trans rfl; have e2 := (blk_cell b9 2).trans rfl; have v6 := (blk_cell (blk_kept HM.out.2.2 k9 (fun f => f)) 6).trans rfl; have HK9 : Hid _ := k9; clear k9 b9))
        go_ret
        exact ⟨rfl, HC.out.1.trans HK9.out (fun _ f _ => f)⟩
end Go.Proofs.YtfccnmgbdkideaaDoor
/-! SerialPart: the walk, from region 12 on. -/
namespace Go.Proofs.YtfccnmgbdkideaaDoor
set_option linter.unusedVariables false
set_option maxRecDepth 20000
open Go.RowKit Go.HeapKit Go.PlainOps

set_option maxHeartbeats 8000000 in
set_option maxRecDepth 1000000 in
theorem part_B (a : Option Addr) (n c : Nat) (l : List Fn) (fuel : Int) (w w5 : World) (B lb N tc j F G : Nat) (x : Nd) (L : List Nd) (HC : Hid (Keeps None w w5 ∧ SeenF w a n l ∧ Tabs w ∧ (∀ f ∈ l, f.Ok) ∧ okI fuel ∧ AllV l ∧ N = L.length ∧ x.func = (F : Int) ∧ F < l.length ∧ L[j]? = some x ∧ (∀ (j : Nat) (y : Nd), L[j]? = some y → 1 ≤ y.work) ∧ sumW L ≤ 4194304 ∧ (∀ f ∈ l, f.code.length ≤ 512) ∧ n ≤ 32)) (HM : Hid (w5.cell? ⟨B, 0, none⟩ = some (.slice a n c) ∧ (∀ k z, L[k]? = some z → ∀ q y, z.l[q]? = some y → w5.cell? ⟨lb, k * 7 + q, none⟩ = some (.int .i64 y)) ∧ w5.heap[G]? = some (.cells #[.int .i64 x.parent, .int .i64 x.idx, .int .i64 x.func, .int .i64 x.work, .int .i64 x.ped, .int .i64 x.arg, .int .i64 x.v] 33 (0, 0)))) (hjN : j < N) (hNb : N ≤ 8388608) (hxa : okI x.arg) (hpe : (parV l x.func = 0 ∨ parV l x.func = 1) → ∃ e, PartOk l L j e x fuel.toNat) (hf0 : 0 ≤ fuel) {u0 u1 u3 u5 u6 u7 u8 u10 u13 u14 u15 u16 u17 u18 u19 u20 u21 u22 u23 u24 u25 u26 u27 u28 u29 u30 u31 u32 u33 u34 u35 u36 u37 u38 u39 u40 u41 u42 u43 u44 u45 u46 u47 u48 u49 u50 u51 u52 u53 u54 u55 u56 u57 u58 u59 u60 u61 u62 u63 u64 u65 u66 u67 u68 u69 u70 u71 u72 u73 u74 u75 u76 u77 u78 u79 u80 u81 u82 u83 u84 u85 u86 u87 u88 u89 u90 u91 u92 u93 u94 u95 u96 u97 u98 u99 u100 u101 u102 u103 u104 u105 u106 u107 u108 u109 u110 u111 u112 u113 u114 u115 u116 u117 u118 u119 u120 u121 u122 u123 u124 u125 u126 u127 u128 u129 u130 u131 u132 u133 u134 u135 u136 u137 u138 u139 u140 u141 u142 : Value} :
    Code.wp Tryd.prog (partTail 12) (bodyPost Tryd.prog Tryd.f3 fun e w' => e = .returned (.bool true) ∧ Keeps None w w') ⟨#[u0, u1, .int .i64 fuel, u3, .pointer (some ⟨B, 0, none⟩), u5, u6, u7, u8, .slice (some ⟨lb, 0, none⟩) N tc, u10, .int .i64 (j : Int), .pointer (some ⟨G, 0, none⟩), u13, u14, u15, u16, u17, u18, u19, u20, u21, u22, u23, u24, u25, u26, u27, u28, u29, u30, u31, u32, u33, u34, u35, u36, u37, u38, u39, u40, u41, u42, u43, u44, u45, u46, u47, u48, u49, u50, u51, u52, u53, u54, u55, u56, u57, u58, u59, u60, u61, u62, u63, u64, u65, u66, u67, u68, u69, u70, u71, u72, u73, u74, u75, u76, u77, u78, u79, u80, u81, u82, u83, u84, u85, u86, u87, u88, u89, u90, u91, u92, u93, u94, u95, u96, u97, u98, u99, u100, u101, u102, u103, u104, u105, u106, u107, u108, u109, u110, u111, u112, u113, u114, u115, u116, u117, u118, u119, u120, u121, u122, u123, u124, u125, u126, u127, u128, u129, u130, u131, u132, u133, u134, u135, u136, u137, u138, u139, u140, u141, u142], []⟩ w5 := by
  have hnl := HC.out.2.1.len
  have hFl := HC.out.2.2.2.2.2.2.2.2.1
  have hFx := HC.out.2.2.2.2.2.2.2.1
  obtain ⟨b, off, f, ca, cc, rfl, hf, hat⟩ := (HC.out.2.1.more HC.out.1).at (k := F) (by omega)
  have hpv : parV l x.func = f.params := by
    unfold parV
    rw [hFx, show ((F : Int)).toNat = F from rfl, hf]
    rfl
  have hp0 := (valid_bounds (HC.out.2.2.2.2.2.1.all f (List.mem_of_getElem? hf))).1
  have c0 := hat.params
  have d0 := HM.out.1
  have g2 : w5.cell? ⟨G, 2, none⟩ = some (.int .i64 (F : Int)) := by rw [← hFx]; exact (blk_cell HM.out.2.2 2).trans rfl
  have g5 : w5.cell? ⟨G, 5, none⟩ = some (.int .i64 x.arg) := (blk_cell HM.out.2.2 5).trans rfl
  have i1 : ¬ ((F : Int) < 0) := by omega
  have i2 : ¬ ((n : Int) ≤ (F : Int)) := by omega
  have i3 : (F : Int) < (n : Int) := by omega
  have mk : ∀ wx, Keeps None w5 wx → (Keeps None w wx ∧ SeenF w (some ⟨b, off, none⟩) n l ∧ Tabs w ∧ (∀ f ∈ l, f.Ok) ∧ okI fuel ∧ AllV l ∧ N = L.length ∧ x.func = (F : Int) ∧ F < l.length ∧ L[j]? = some x ∧ (∀ (j : Nat) (y : Nd), L[j]? = some y → 1 ≤ y.work) ∧ sumW L ≤ 4194304 ∧ (∀ f ∈ l, f.code.length ≤ 512) ∧ n ≤ 32) ∧ (wx.cell? ⟨B, 0, none⟩ = some (.slice (some ⟨b, off, none⟩) n c) ∧ (∀ k z, L[k]? = some z → ∀ q y, z.l[q]? = some y → wx.cell? ⟨lb, k * 7 + q, none⟩ = some (.int .i64 y)) ∧ wx.heap[G]? = some (.cells #[.int .i64 x.parent, .int .i64 x.idx, .int .i64 x.func, .int .i64 x.work, .int .i64 x.ped, .int .i64 x.arg, .int .i64 x.v] 33 (0, 0))) := fun wx hx =>
    ⟨⟨HC.out.1.trans hx (fun _ f _ => f), HC.out.2⟩, ⟨hx.cell HM.out.1 (fun f => f), fun k z hz q y hy => hx.cell (HM.out.2.1 k z hz q y hy) (fun f => f), blk_kept HM.out.2.2 hx (fun f => f)⟩⟩
  have MK : Hid _ := mk
  have HPV : Hid (parV l x.func = f.params) := hpv
  have HPE : Hid _ := hpe
  clear mk hat hf hpv hnl hFl hFx hpe
  conv => arg 2; whnf
  by_cases h1 : f.params = 1
  · have q1 : (f.params == 1) = true := by simpa using h1
    have hal := Keeps.alloc None w5 (.cells #[.int .i64 x.arg] 2)
    obtain ⟨b7, c7, w7, hr7, ho7, hk7, -, -⟩ := word_append (.slice none 0 0) [] x.arg 0 w5.heap.size 25 (w5.alloc (.cells #[.int .i64 x.arg] 2)) rfl ⟨rfl, .inl ⟨rfl, rfl⟩⟩ (by omega) (heap_alloc_new _ _)
    have k7 : Keeps None w5 w7 := hal.trans hk7 (fun i e hi => by simp [Value.ownBlock] at e)
    have H7 : Hid (Keeps None w5 w7 ∧ SeenA w7 (some ⟨b7, 0, none⟩) 1 (argOf l x)) := ⟨k7, by unfold argOf; rw [HPV.out, if_pos h1]; exact one_seen ho7 hxa⟩
    obtain ⟨e, hPe⟩ := HPE.out (.inr (by rw [HPV.out]; exact h1))
    have HE : Hid _ := hPe
    clear h1 hal ho7 hk7 k7 hPe
    go_upto_region 19 with (at_builtin; refine wpList_append_run rfl (.tmp 71) (.tmp 74) 25 25 rfl rfl rfl hr7 ?_)
    go_cut [14] (fun s14 wx => s14 = .int .i64 1 ∧ wx = w7)
    case first =>
      go_wp2_with fail
      go_meet
      exact ⟨rfl, rfl⟩
    case rest =>
      obtain ⟨rfl, hwc⟩ := hcut
      rename_i h1 h2 h3 h4
      rw [hwc]
      first | apply h4 | apply h3 | apply h2 | apply h1
      exact part_C (some ⟨b, off, none⟩) n c l fuel w w7 B lb N tc j F G x L (some ⟨b7, 0, none⟩) 1 c7 e (MK.out w7 H7.out.1).1 (MK.out w7 H7.out.1).2 hjN hNb H7.out.2 HE.out hf0
  · have q1 : (f.params == 1) = false := by simpa using h1
    by_cases h2 : 1 < f.params
    · have HQ : Hid (Keeps None w w5) := HC.out.1
      have i4 : f.params > 1 := h2
      go_wp2_with fail
      go_ret
      exact ⟨rfl, HQ.out⟩
    · have h0 : f.params = 0 := by omega
      have i4 : ¬ (1 < f.params) := h2
      have hga : SeenA w5 none 0 (argOf l x) := by unfold argOf; rw [HPV.out, if_neg (by omega)]; exact seen_nil w5
      obtain ⟨e, hPe⟩ := HPE.out (.inl (by rw [HPV.out]; exact h0))
      have HE : Hid _ := And.intro hPe hga
      clear h1 h2 h0 hPe hga
      go_upto_region 19 with fail
      go_cut [14] (fun s14 wx => s14 = .int .i64 1 ∧ wx = w5)
      case first =>
        go_wp2_with fail
        go_meet
        exact ⟨rfl, rfl⟩
      case rest =>
        obtain ⟨rfl, hwc⟩ := hcut
        rename_i h1 h2 h3 h4
        rw [hwc]
        first | apply h4 | apply h3 | apply h2 | apply h1
        exact part_C (some ⟨b, off, none⟩) n c l fuel w w5 B lb N tc j F G x L none 0 0 e (MK.out w5 (Keeps.refl None w5)).1 (MK.out w5 (Keeps.refl None w5)).2 hjN hNb HE.out.2 HE.out.1 hf0
end Go.Proofs.YtfccnmgbdkideaaDoor
/-! SerialPart: the walk. -/
namespace Go.Proofs.YtfccnmgbdkideaaDoor
set_option linter.unusedVariables false
set_option maxRecDepth 20000
open Go.RowKit Go.HeapKit Go.PlainOps

set_option maxHeartbeats 8000000 in
set_option maxRecDepth 1000000 in
theorem part_walk (a : Option Addr) (n c : Nat) (l : List Fn) (aa : Option Addr) (an ac : Nat) (zs : List Int) (fuel which : Int) (w : World) (hT : Tabs w) (hS : SeenF w a n l) (hok : ∀ f ∈ l, f.Ok) (hZ : SeenA w aa an zs) (hfu : okI fuel) (hwh : okI which) :
    Calls Tryd.prog 3 #[.agg #[.slice a n c], .slice aa an ac, .int .i64 fuel, .int .i64 which] w fun e w' => e = .returned (.bool true) ∧ Keeps None w w' := by
  obtain ⟨B, hB⟩ : ∃ B, B = w.heap.size := ⟨_, rfl⟩
  have b1 := heap_alloc_new w (.cells #[.slice a n c] 24)
  have hk1 := Keeps.alloc None w (.cells #[.slice a n c] 24)
  obtain ⟨W, hW⟩ : ∃ W, W = w.alloc (.cells #[.slice a n c] 24) := ⟨_, rfl⟩
  rw [← hW, ← hB] at b1
  rw [← hW] at hk1
  have d0 : W.cell? ⟨B, 0, none⟩ = some (.slice a n c) := (blk_cell b1 0).trans rfl
  have hlv := lives_any which hwh W (hT.more hk1)
  have htr := fun wx (hx : Keeps None w wx) => tree_any a n c l aa an ac zs fuel wx (hT.more hx) (hS.more hx) hok (hZ.more hx) hZ.most hfu
  have HTR : Hid _ := htr
  have HX : Hid (Keeps None w W ∧ W.cell? ⟨B, 0, none⟩ = some (.slice a n c) ∧ SeenF w a n l ∧ Tabs w ∧ (∀ f ∈ l, f.Ok) ∧ (∀ x ∈ zs, okI x) ∧ okI fuel ∧ okI which) := ⟨hk1, d0, hS, hT, hok, hZ.ok, hfu, hwh⟩
  by_cases he0 : (evalV l zs fuel).2 = 0
  · obtain ⟨D, hE⟩ := eval_tree hok hZ.ok he0
    obtain ⟨L, hL⟩ : ∃ L, L = treeV l zs fuel := ⟨_, rfl⟩
    have HL : Hid (∀ (wx : World), Keeps None w wx → Calls Tryd.prog 5 #[.agg #[.slice a n c], .slice aa an ac, .int .i64 fuel] wx fun e w' => ∃ ta tc, e = .returned (.tuple #[.slice ta L.length tc, .int .i64 0]) ∧ Keeps None wx w' ∧ SeenD w' ta L.length L) := fun wx hx => (HTR.out wx hx).mono fun e w' h => by
      obtain ⟨nv, he, hk, _, _, h2⟩ := h
      rw [he0] at he
      have h3 := h2 he0
      rw [← hL] at h3
      obtain ⟨ta, tc, rfl, hs⟩ := row_seenD h3
      exact ⟨ta, tc, he, hk, hs⟩
    rw [← hL] at hE
    obtain ⟨N, hN⟩ : ∃ N, N = L.length := ⟨_, rfl⟩
    have hN1 : 1 ≤ N := by have := hE.good.len; simp [keys] at this; omega
    have hNb : N ≤ 8388608 := by have := hE.len; omega
    have hnl : n ≤ 32 := by have := hE.all.len; have := hS.len; omega
    have hm5 : ∀ f ∈ l, f.code.length ≤ 512 := fun f hf => (valid_bounds (hE.all.all f hf)).2.2.2.2
    have hpt := fun hp : noPed l => part_eval hok hZ.ok he0 hp
    rw [← hL] at hpt
    rw [← hN] at HL
    have HP : Hid _ := hpt
    have HF0 : Hid (0 ≤ fuel) := by
      have hr0 : refusedV l zs fuel = 0 := by
        by_cases h : refusedV l zs fuel = 0
        · exact h
        · unfold evalV at he0
          rw [if_pos h] at he0
          exact absurd he0 h
      exact (refused_zero hr0).2.2.1
    have HM : Hid (N = L.length ∧ (∀ f ∈ l, f.code.length ≤ 512)) := ⟨hN, hm5⟩
    clear hT hS hok hZ hk1 b1 htr HTR he0 hfu hL hE hN hm5 hpt hwh
    go_enter Tryd.func3, Tryd.ntmps3
    go_upto_region 1 with fail
    rw [← hW, ← hB]
    clear hW hB
    go_upto_region 3 with (go_at_call 4; refine hlv.mono ?_; rintro _ w2 ⟨rfl, hk2⟩)
    have d2 := hk2.cell d0 (fun f => f)
    have htr := HL.out w2 (HX.out.1.trans hk2 (fun _ f _ => f))
    have H2 : Hid (Keeps None w w2 ∧ Keeps None W w2) := ⟨HX.out.1.trans hk2 (fun _ f _ => f), hk2⟩
    clear hlv hk2 d0 HL
    go_upto_region 4 with (go_at_call 5; refine htr.mono ?_; rintro _ w3 ⟨ta, tc, rfl, hk3, hs3⟩)
    have d3 := hk3.cell d2 (fun f => f)
    have hask := asks_any a n c l w3 (HX.out.2.2.1.more (H2.out.1.trans hk3 (fun _ f _ => f))) hnl HM.out.2
    unfold AskPost at hask
    have H3 : Hid (Keeps None w w3 ∧ Keeps None W w3 ∧ SeenD w3 ta N L) := ⟨H2.out.1.trans hk3 (fun _ f _ => f), H2.out.2.trans hk3 (fun _ f _ => f), hs3⟩
    clear htr hk3 hs3 d2 H2
    go_cut [34] (fun s34 wx => ∃ b : Bool, s34 = .bool b ∧ (b = false → noPed l) ∧ Keeps None w3 wx)
    case first =>
      go_wp2_with (go_at_call 6; refine hask.mono ?_; rintro _ w4 ⟨b, rfl, hb, hk4⟩)
      all_goals go_meet
      all_goals exact ⟨b, by simp, hb, hk4⟩
    case rest =>
      obtain ⟨b, rfl, hb, hk4⟩ := hcut
      cases b with
      | true =>
        have HQ : Hid (Keeps None w wc) := H3.out.1.trans hk4 (fun _ f _ => f)
        clear hb hk4 hask d3
        go_wp2_with fail
        go_ret
        exact ⟨rfl, HQ.out⟩
      | false =>
        obtain ⟨hA, -, -, hfin, hsm, hall⟩ := HP.out (hb rfl)
        have hs4 := H3.out.2.2.more hk4
        obtain ⟨lb, rfl, hlb, hcl⟩ := hs4.ex (by omega)
        have d4 := hk4.cell d3 (fun f => f)
        obtain ⟨w4, hw4⟩ : ∃ w4, w4 = wc := ⟨_, rfl⟩
        rw [← hw4] at hk4 hs4 hlb hcl d4 ⊢
        have H4 : Hid (Keeps None w w4 ∧ (∀ k x, L[k]? = some x → ∀ j y, x.l[j]? = some y → w4.cell? ⟨lb, k * 7 + j, none⟩ = some (.int .i64 y)) ∧ w4.cell? ⟨B, 0, none⟩ = some (.slice a n c) ∧ lb < w4.heap.size) := ⟨H3.out.1.trans hk4 (fun _ f _ => f), hcl, d4, hlb⟩
        have H5 : Hid (AllV l ∧ (∀ (j : Nat) (y : Nd), L[j]? = some y → 1 ≤ y.work) ∧ sumW L ≤ 4194304 ∧ ∀ (j : Nat) (x : Nd), L[j]? = some x → (0 ≤ x.func ∧ x.func < l.length) ∧ okI x.arg ∧ ((parV l x.func = 0 ∨ parV l x.func = 1) → ∃ e, PartOk l L j e x fuel.toNat)) := ⟨hA, hfin, hsm, hall⟩
        have i1 : ¬ ((N : Int) = 0) := by omega
        have q1 : ((N : Int) == 0) = false := by simpa using i1
        have hnb : (N : Int) ≤ 8388608 := by omega
        clear hw4 hb hk4 hask d3 hs4 hlb hcl d4 hA hfin hsm hall HP H3
        go_upto_region 9 with fail
        obtain ⟨T, hTq⟩ : ∃ T, T = which.tmod (N : Int) := ⟨_, rfl⟩
        rw [← hTq]
        have hTb : -(N : Int) < T ∧ T < (N : Int) := by
          rw [hTq]
          have h1 := Int.tmod_lt_of_pos which (b := (N : Int)) (by omega)
          have h2 := Int.lt_tmod_of_pos which (b := (N : Int)) (by omega)
          omega
        obtain ⟨j, hj, hjN⟩ : ∃ j : Nat, (if T < 0 then T + (N : Int) else T) = (j : Int) ∧ j < N := by
          by_cases h0 : T < 0
          · exact ⟨(T + (N : Int)).toNat, by rw [if_pos h0]; omega, by omega⟩
          · exact ⟨T.toNat, by rw [if_neg h0]; omega, by omega⟩
        obtain ⟨x, hx⟩ : ∃ x, L[j]? = some x := ⟨L[j]'(by have := HM.out.1; omega), by simp⟩
        obtain ⟨F, hF⟩ := Int.eq_ofNat_of_zero_le (H5.out.2.2.2 j x hx).1.1
        have hFl : F < l.length := by have := (H5.out.2.2.2 j x hx).1.2; omega
        have y0 := H4.out.2.1 j x hx 0 x.parent rfl
        have y1 := H4.out.2.1 j x hx 1 x.idx rfl
        have y2 := H4.out.2.1 j x hx 2 x.func rfl
        have y3 := H4.out.2.1 j x hx 3 x.work rfl
        have y4 := H4.out.2.1 j x hx 4 x.ped rfl
        have y5 := H4.out.2.1 j x hx 5 x.arg rfl
        have y6 := H4.out.2.1 j x hx 6 x.v rfl
        simp only [Nat.add_zero] at y0
        have i5 : (j : Int) < (N : Int) := by omega
        have HJ : Hid (L[j]? = some x ∧ x.func = (F : Int) ∧ F < l.length) := ⟨hx, hF, hFl⟩
        clear hx hF hFl hTq
        by_cases hT0 : T < 0
        · have ej : T + (N : Int) = (j : Int) := by rw [if_pos hT0] at hj; exact hj
          clear hj
          go_upto_region 11 with fail
          try rw [ej]
          go_cut [12] (fun s12 wx => ∃ G, s12 = .pointer (some ⟨G, 0, none⟩) ∧ wx.heap[G]? = some (.cells #[.int .i64 x.parent, .int .i64 x.idx, .int .i64 x.func, .int .i64 x.work, .int .i64 x.ped, .int .i64 x.arg, .int .i64 x.v] 33 (0, 0)) ∧ Keeps None w4 wx)
          case first =>
            go_wp2_with fail
            go_meet
            exact ⟨w4.heap.size, rfl, heap_alloc_new _ _, Keeps.alloc None w4 _⟩
          case rest =>
            obtain ⟨G, rfl, hG, hk5⟩ := hcut
            rename_i h1 h2 h3 h4
            first | apply h4 | apply h3 | apply h2 | apply h1
            exact part_B a n c l fuel w wc B lb N tc j F G x L ⟨H4.out.1.trans hk5 (fun _ f _ => f), HX.out.2.2.1, HX.out.2.2.2.1, HX.out.2.2.2.2.1, HX.out.2.2.2.2.2.2.1, H5.out.1, HM.out.1, HJ.out.2.1, HJ.out.2.2, HJ.out.1, H5.out.2.1, H5.out.2.2.1, HM.out.2, hnl⟩ ⟨hk5.cell H4.out.2.2.1 (fun f => f), fun k z hz q y hy => hk5.cell (H4.out.2.1 k z hz q y hy) (fun f => f), hG⟩ hjN hNb (H5.out.2.2.2 j x HJ.out.1).2.1 (H5.out.2.2.2 j x HJ.out.1).2.2 HF0.out
        · have ej : T = (j : Int) := by rw [if_neg hT0] at hj; exact hj
          clear hj
          subst ej
          go_upto_region 11 with fail
          go_cut [12] (fun s12 wx => ∃ G, s12 = .pointer (some ⟨G, 0, none⟩) ∧ wx.heap[G]? = some (.cells #[.int .i64 x.parent, .int .i64 x.idx, .int .i64 x.func, .int .i64 x.work, .int .i64 x.ped, .int .i64 x.arg, .int .i64 x.v] 33 (0, 0)) ∧ Keeps None w4 wx)
          case first =>
            go_wp2_with fail
            go_meet
            exact ⟨w4.heap.size, rfl, heap_alloc_new _ _, Keeps.alloc None w4 _⟩
          case rest =>
            obtain ⟨G, rfl, hG, hk5⟩ := hcut
            rename_i h1 h2 h3 h4
            first | apply h4 | apply h3 | apply h2 | apply h1
            exact part_B a n c l fuel w wc B lb N tc j F G x L ⟨H4.out.1.trans hk5 (fun _ f _ => f), HX.out.2.2.1, HX.out.2.2.2.1, HX.out.2.2.2.2.1, HX.out.2.2.2.2.2.2.1, H5.out.1, HM.out.1, HJ.out.2.1, HJ.out.2.2, HJ.out.1, H5.out.2.1, H5.out.2.2.1, HM.out.2, hnl⟩ ⟨hk5.cell H4.out.2.2.1 (fun f => f), fun k z hz q y hy => hk5.cell (H4.out.2.1 k z hz q y hy) (fun f => f), hG⟩ hjN hNb (H5.out.2.2.2 j x HJ.out.1).2.1 (H5.out.2.2.2 j x HJ.out.1).2.2 HF0.out
  · have HL : Hid (∀ (wx : World), Keeps None w wx → Calls Tryd.prog 5 #[.agg #[.slice a n c], .slice aa an ac, .int .i64 fuel] wx fun e w' => e = .returned (.tuple #[.slice none 0 0, .int .i64 (evalV l zs fuel).2]) ∧ Keeps None wx w') := fun wx hx => (HTR.out wx hx).mono fun e w' h => by
      obtain ⟨nv, he, hk, _, h1, _⟩ := h
      rw [h1 he0] at he
      exact ⟨he, hk⟩
    have heb : ((evalV l zs fuel).2 != 0) = true := by simpa using he0
    generalize (evalV l zs fuel).2 = er at *
    clear hT hS hok hZ hk1 b1 htr HTR he0 hfu hwh
    go_enter Tryd.func3, Tryd.ntmps3
    go_upto_region 1 with fail
    rw [← hW, ← hB]
    clear hW hB
    go_upto_region 3 with (go_at_call 4; refine hlv.mono ?_; rintro _ w2 ⟨rfl, hk2⟩)
    have d2 := hk2.cell d0 (fun f => f)
    have htr := HL.out w2 (HX.out.1.trans hk2 (fun _ f _ => f))
    have H2 : Hid (Keeps None w w2) := HX.out.1.trans hk2 (fun _ f _ => f)
    clear hlv hk2 d0 HL
    go_upto_region 4 with (go_at_call 5; refine htr.mono ?_; rintro _ w3 ⟨rfl, hk3⟩)
    have H3 : Hid (Keeps None w w3) := H2.out.trans hk3 (fun _ f _ => f)
    clear htr hk3 d2 H2
    go_wp2_with fail
    go_ret
    exact ⟨rfl, H3.out⟩
end Go.Proofs.YtfccnmgbdkideaaDoor
