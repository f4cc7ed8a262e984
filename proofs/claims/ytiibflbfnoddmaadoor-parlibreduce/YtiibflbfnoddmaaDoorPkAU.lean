import Derived.Test.YtiibflbfnoddmaaDoorPkAT
import Derived.Test.YtiibflbfnoddmaaDoorPkAK
/-! What For and Reduce make of a base that is not refused. -/
namespace Go.Proofs.YtiibflbfnoddmaaDoor
set_option linter.unusedVariables false
set_option maxRecDepth 20000
open Go.RowKit Go.HeapKit Go.PlainOps

theorem g_ins_ok (i : Ins) (h : -1000 ≤ i.kind ∧ i.kind ≤ 1000) (ha : -1000 ≤ i.a ∧ i.a ≤ 1000) (hb : -1000 ≤ i.b ∧ i.b ≤ 1000) (hc : -1000 ≤ i.c ∧ i.c ≤ 1000) (hk : -1000 ≤ i.k ∧ i.k ≤ 1000) : i.Ok := ⟨by unfold okI; omega, by unfold okI; omega, by unfold okI; omega, by unfold okI; omega, by unfold okI; omega⟩
theorem g_forP_ok (l : List Fn) (hl : ∀ f ∈ l, f.Ok) (hs : ∀ f ∈ l, ∀ i ∈ f.code, i.kind = 5 → 0 ≤ i.b ∧ i.b ≤ 1000) (b : Int) (hb : 0 ≤ b ∧ b ≤ 100) : ∀ f ∈ forP l b, f.Ok := by
  intro f hf
  unfold forP at hf
  rcases List.mem_cons.1 hf with rfl | hf
  · refine ⟨by simp [entF, okI], by simp [entF, okI], by simp [entF, okI], fun i hi => ?_⟩
    simp [entF, entC] at hi
    rcases hi with rfl | rfl | rfl | rfl | rfl | rfl | rfl | rfl | rfl | rfl | rfl <;> exact g_ins_ok _ (by simp) (by simp) (by simp) (by simp) (by simp)
  · rcases List.mem_cons.1 hf with rfl | hf
    · refine ⟨by simp [rnF, okI], by simp [rnF, okI], by simp [rnF, okI], fun i hi => ?_⟩
      simp [rnF, rnC, choC, lfC, hvC] at hi
      rcases hi with rfl | rfl | rfl | rfl | rfl | rfl | rfl | rfl | rfl | rfl | rfl | rfl | rfl | rfl | rfl | rfl | rfl | rfl | rfl | rfl | rfl <;> exact g_ins_ok _ (by simp) (by simp) (by simp <;> omega) (by simp) (by simp)
    · obtain ⟨g, hg, rfl⟩ := List.mem_map.1 hf
      have h := hl g hg
      refine ⟨h.params, h.regs, h.slots, fun i hi => ?_⟩
      obtain ⟨j, hj, rfl⟩ := List.mem_map.1 hi
      have hj2 := h.code j hj
      unfold shI
      split
      · rename_i h5
        have := hs g hg j hj h5
        exact ⟨hj2.kind, hj2.a, by show okI (j.b + 2); unfold okI; omega, hj2.c, hj2.k⟩
      · exact hj2
theorem g_redP_ok (l : List Fn) (hl : ∀ f ∈ l, f.Ok) (hs : ∀ f ∈ l, ∀ i ∈ f.code, i.kind = 5 → 0 ≤ i.b ∧ i.b ≤ 1000) (b c u : Int) (hb : 0 ≤ b ∧ b ≤ 100) (hc : 0 ≤ c ∧ c ≤ 100) (hu : okI u) : ∀ f ∈ redP l b c u, f.Ok := by
  have hu1 : okI u := hu
  unfold okI at hu
  intro f hf
  unfold redP at hf
  rcases List.mem_cons.1 hf with rfl | hf
  · refine ⟨by simp [entF, okI], by simp [entF, okI], by simp [entF, okI], fun i hi => ?_⟩
    simp [entF, entC] at hi
    rcases hi with rfl | rfl | rfl | rfl | rfl | rfl | rfl | rfl | rfl | rfl | rfl <;> exact ⟨by simp [okI], by simp [okI], by simp [okI], by simp [okI], by first | exact hu1 | simp [okI]⟩
  · rcases List.mem_cons.1 hf with rfl | hf
    · refine ⟨by simp [rnF, okI], by simp [rnF, okI], by simp [rnF, okI], fun i hi => ?_⟩
      simp only [rnF, rnC, choC, lfC, hvC, mgC, List.mem_cons, List.not_mem_nil, or_false, List.cons_append, List.nil_append] at hi
      repeat' (rcases hi with hi | hi)
      all_goals (try subst hi)
      all_goals (exact ⟨by simp [okI], by simp [okI], by first | (simp [okI]; done) | (unfold okI; simp; omega), by simp [okI], by first | exact hu1 | (simp [okI]; done)⟩)
    · obtain ⟨g, hg, rfl⟩ := List.mem_map.1 hf
      have h := hl g hg
      refine ⟨h.params, h.regs, h.slots, fun i hi => ?_⟩
      obtain ⟨j, hj, rfl⟩ := List.mem_map.1 hi
      have hj2 := h.code j hj
      unfold shI
      split
      · rename_i h5
        have := hs g hg j hj h5
        exact ⟨hj2.kind, hj2.a, by show okI (j.b + 2); unfold okI; omega, hj2.c, hj2.k⟩
      · exact hj2

/-- What is made of a base. -/
structure Gd (l l' : List Fn) : Prop where
  len : l'.length = l.length + 2
  n28 : 1 ≤ l.length ∧ l.length ≤ 28
  ok : ∀ f ∈ l', f.Ok
  chk : checkV l' = (0, 0, 0)
  ask : askV l' = false
  f0 : ∃ f0, l'[0]? = some f0 ∧ f0.params = 2
  sh : ∀ (k : Nat) f, l[k]? = some f → f.code.length ≤ 512 ∧ l'[k + 2]? = some { f with code := f.code.map (bmI 2) }
theorem Gd.codes {l l' : List Fn} (h : Gd l l') : ∀ f ∈ l', 1 ≤ f.code.length ∧ f.code.length ≤ 512 := fun f hf => (valid_bounds ((check_valid h.chk).2.2 f hf)).2.2.2
theorem bm_sh {l : List Ins} (h : ∀ i ∈ l, i.kind = 5 → 0 ≤ i.b ∧ i.b ≤ 1000) : l.map (bmI 2) = l.map shI := by
  apply List.map_congr_left
  intro i hi
  unfold bmI shI
  split
  · rename_i h5
    have := h i hi h5
    have e : wrap64 (i.b + 2) = i.b + 2 := by unfold wrap64; omega
    rw [e]
  · rfl
theorem ask_made {l : List Fn} {e r : Fn} (h : askV l = false) (he : ∀ i ∈ e.code, i.kind ≠ 8) (hr : ∀ i ∈ r.code, i.kind ≠ 8) : askV (e :: r :: l.map shF) = false := by
  refine askV_no (fun k f hf j i hi => ?_)
  match k, hf with
  | 0, hf => simp at hf; subst hf; exact he i (List.mem_of_getElem? hi)
  | 1, hf => simp at hf; subst hf; exact hr i (List.mem_of_getElem? hi)
  | k + 2, hf =>
    simp at hf
    obtain ⟨g, hg, rfl⟩ := hf
    unfold shF at hi
    simp only [List.getElem?_map] at hi
    obtain ⟨x, hx, rfl⟩ := Option.map_eq_some_iff.1 hi
    rw [shI_kind]
    intro h8
    have := askV_at hg hx h8
    rw [h] at this
    cases this
theorem base_small {l : List Fn} (h : (checkV l).1 = 0) : ∀ f ∈ l, f.code.length ≤ 512 ∧ ∀ i ∈ f.code, i.kind = 5 → 0 ≤ i.b ∧ i.b ≤ 1000 := fun f hf => by
  obtain ⟨v1, v2, v3⟩ := check_valid (check_zero h)
  refine ⟨(valid_bounds (v3 f hf)).2.2.2.2, fun i hi h5 => ?_⟩
  obtain ⟨q, hq, e⟩ := List.getElem_of_mem hi
  have := (step_ok (v3 f hf) (at_ := q) (i := i) (by rw [← e]; simp)).fn h5
  omega
theorem sh_at {l : List Fn} {e r : Fn} (h : ∀ f ∈ l, f.code.length ≤ 512 ∧ ∀ i ∈ f.code, i.kind = 5 → 0 ≤ i.b ∧ i.b ≤ 1000) (k : Nat) (f : Fn) (hf : l[k]? = some f) : f.code.length ≤ 512 ∧ (e :: r :: l.map shF)[k + 2]? = some { f with code := f.code.map (bmI 2) } := by
  have := h f (List.mem_of_getElem? hf)
  refine ⟨this.1, ?_⟩
  simp [hf]
  unfold shF
  rw [bm_sh this.2]
theorem for_good {l : List Fn} {b : Int} (h : forE l b = 0) (hok : ∀ f ∈ l, f.Ok) : Gd l (forP l b) := by
  obtain ⟨y1, y2, y3, y4⟩ := forE_zero h
  obtain ⟨v1, v2, v3⟩ := check_valid (check_zero y1)
  have hsm := base_small y1
  unfold takesV at y3
  simp only [Bool.and_eq_true, decide_eq_true_eq] at y3
  refine ⟨by simp [forP], ⟨v1, y4⟩, g_forP_ok l hok (fun f hf => (hsm f hf).2) b (by omega), for_check (check_zero y1) y4 ⟨y3.1, y3.2.1⟩ y3.2.2, ?_, ⟨entF 0, rfl, rfl⟩, sh_at hsm⟩
  exact ask_made y2 (fun i hi => by
    simp [entF, entC] at hi
    rcases hi with rfl | rfl | rfl | rfl | rfl | rfl | rfl | rfl | rfl | rfl | rfl <;> simp) (fun i hi => by
    simp [rnF, rnC, choC, lfC, hvC] at hi
    rcases hi with rfl | rfl | rfl | rfl | rfl | rfl | rfl | rfl | rfl | rfl | rfl | rfl | rfl | rfl | rfl | rfl | rfl | rfl | rfl | rfl | rfl <;> simp)
theorem redE_parts {l : List Fn} {b c : Int} (h : redE l b c = 0) : forE l b = 0 ∧ takesV l c 2 = true := by
  rw [redE_at] at h
  rw [forE_at]
  by_cases h1 : rbE l b = 0
  · rw [if_pos h1] at h
    rw [if_pos h1]
    by_cases h2 : combE l c = 0
    · rw [if_pos h2] at h
      refine ⟨h, ?_⟩
      unfold combE at h2
      by_cases h3 : takesV l c 2 = true
      · exact h3
      · rw [if_neg h3] at h2; omega
    · rw [if_neg h2] at h
      exact absurd h h2
  · rw [if_neg h1] at h
    exact absurd h h1
theorem red_good {l : List Fn} {b c u : Int} (h : redE l b c = 0) (hok : ∀ f ∈ l, f.Ok) (hu : okI u) : Gd l (redP l b c u) := by
  obtain ⟨h, hc⟩ := redE_parts h
  obtain ⟨y1, y2, y3, y4⟩ := forE_zero h
  obtain ⟨v1, v2, v3⟩ := check_valid (check_zero y1)
  have hsm := base_small y1
  unfold takesV at y3 hc
  simp only [Bool.and_eq_true, decide_eq_true_eq] at y3 hc
  refine ⟨by simp [redP], ⟨v1, y4⟩, g_redP_ok l hok (fun f hf => (hsm f hf).2) b c u (by omega) (by omega) hu, red_check (check_zero y1) y4 ⟨y3.1, y3.2.1⟩ y3.2.2 ⟨hc.1, hc.2.1⟩ hc.2.2, ?_, ⟨entF u, rfl, rfl⟩, sh_at hsm⟩
  exact ask_made y2 (fun i hi => by
    simp [entF, entC] at hi
    rcases hi with rfl | rfl | rfl | rfl | rfl | rfl | rfl | rfl | rfl | rfl | rfl <;> simp) (fun i hi => by
    simp only [rnF, rnC, choC, lfC, hvC, mgC, List.mem_cons, List.not_mem_nil, or_false, List.cons_append, List.nil_append] at hi
    repeat' (rcases hi with hi | hi)
    all_goals (try subst hi)
    all_goals simp)
end Go.Proofs.YtiibflbfnoddmaaDoor
/-! The statements' own 'moved', 'back', 'marked' on a program with marks. -/
namespace Go.Proofs.YtiibflbfnoddmaaDoor
set_option linter.unusedVariables false
set_option maxRecDepth 20000
open Go.RowKit Go.HeapKit

def Mix (l L : List Fn) (i j : Nat) : Prop := L.length = l.length ∧ ∀ (a : Nat) (f : Fn), l[a]? = some f → ∃ g : Fn, L[a]? = some g ∧ g.params = f.params ∧ g.regs = f.regs ∧ g.slots = f.slots ∧ g.code.length = f.code.length ∧ ∀ b : Nat, (a < i ∨ (a = i ∧ b < j)) → g.code[b]? = f.code[b]?
theorem Mix.row {l L : List Fn} {i m : Nat} {f : Fn} (h : Mix l L i m) (hf : l[i]? = some f) (hm : f.code.length ≤ m) : Mix l L (i + 1) 0 := by
  refine ⟨h.1, fun a f' hf' => ?_⟩
  obtain ⟨g, h1, h2, h3, h4, h5, h6⟩ := h.2 a f' hf'
  refine ⟨g, h1, h2, h3, h4, h5, fun b hb => ?_⟩
  rcases hb with hb | hb
  · by_cases e : a = i
    · subst e
      rw [hf] at hf'
      obtain rfl := Option.some.inj hf'
      by_cases hbl : b < m
      · exact h6 b (.inr ⟨rfl, hbl⟩)
      · rw [List.getElem?_eq_none (by omega), List.getElem?_eq_none (by omega)]
    · exact h6 b (.inl (by omega))
  · omega
theorem Mix.step {l L : List Fn} {i j : Nat} {f g : Fn} {x : Ins} (h : Mix l L i j) (hf : l[i]? = some f) (hg : L[i]? = some g) (hx : f.code[j]? = some x) : Mix l (L.set i { g with code := g.code.set j x }) i (j + 1) := by
  have hi := (List.getElem?_eq_some_iff.1 hg).1
  have hj := (List.getElem?_eq_some_iff.1 hx).1
  refine ⟨by rw [List.length_set]; exact h.1, fun a f' hf' => ?_⟩
  obtain ⟨g', h1, h2, h3, h4, h5, h6⟩ := h.2 a f' hf'
  by_cases e : a = i
  · subst e
    rw [hg] at h1
    obtain rfl := Option.some.inj h1
    rw [hf] at hf'
    obtain rfl := Option.some.inj hf'
    refine ⟨_, List.getElem?_set_self hi, h2, h3, h4, by simpa using h5, fun b hb => ?_⟩
    rcases hb with hb | hb
    · omega
    · by_cases eb : b = j
      · subst eb
        simp only
        rw [List.getElem?_set_self (by omega), hx]
      · simp only
        rw [List.getElem?_set_ne (Ne.symm eb)]
        exact h6 b (.inr ⟨rfl, by omega⟩)
  · refine ⟨g', by rw [List.getElem?_set_ne (Ne.symm e)]; exact h1, h2, h3, h4, h5, fun b hb => ?_⟩
    rcases hb with hb | hb
    · exact h6 b (.inl hb)
    · omega
theorem Mix.all {l L : List Fn} (h : Mix l L l.length 0) : L = l := by
  apply List.ext_getElem?
  intro a
  by_cases ha : a < l.length
  · obtain ⟨g, h1, h2, h3, h4, h5, h6⟩ := h.2 a l[a] (by simp)
    rw [h1, List.getElem?_eq_getElem ha]
    congr 1
    obtain ⟨gp, gr, gs, gc⟩ := g
    generalize l[a] = f at *
    obtain ⟨fp, fr, fs, fc⟩ := f
    simp only at h2 h3 h4 h6
    subst h2 h3 h4
    congr 1
    apply List.ext_getElem?
    intro b
    exact h6 b (.inl ha)
  · rw [List.getElem?_eq_none (by have := h.1; omega), List.getElem?_eq_none (by omega)]
theorem Mix.refl (l : List Fn) : Mix l l 0 0 := ⟨rfl, fun a f hf => ⟨f, hf, rfl, rfl, rfl, rfl, fun b hb => by omega⟩⟩
theorem Mix.put {l L : List Fn} {i k : Nat} {g : Fn} (h : Mix l L 0 0) (hg : L[i]? = some g) (x : Ins) : Mix l (L.set i { g with code := g.code.set k x }) 0 0 := by
  have hi := (List.getElem?_eq_some_iff.1 hg).1
  refine ⟨by rw [List.length_set]; exact h.1, fun a f' hf' => ?_⟩
  obtain ⟨g', h1, h2, h3, h4, h5, h6⟩ := h.2 a f' hf'
  by_cases e : i = a
  · subst e
    rw [hg] at h1
    obtain rfl := Option.some.inj h1
    exact ⟨_, List.getElem?_set_self hi, h2, h3, h4, by simpa using h5, fun b hb => by omega⟩
  · exact ⟨g', by rw [List.getElem?_set_ne e]; exact h1, h2, h3, h4, h5, fun b hb => by omega⟩
theorem ins_put1 (l : List Ins) (k : Nat) (x x' : Ins) (o : Nat) (v : Value) (ho : o < 5) (hk : l[k]? = some x) (hx : insCells x' = (insCells x).set o v) : (insVals l).set (k * 5 + o) v = insVals (l.set k x') := by
  induction l generalizing k with
  | nil => simp at hk
  | cons z l ih =>
    have e : insVals (z :: l) = insCells z ++ insVals l := rfl
    have hz : (insCells z).length = 5 := rfl
    cases k with
    | zero =>
      simp at hk
      subst hk
      have e2 : insVals ((z :: l).set 0 x') = insCells x' ++ insVals l := rfl
      rw [e, e2, Nat.zero_mul, Nat.zero_add, List.set_append_left _ _ (by omega), hx]
    | succ k =>
      have e2 : insVals ((z :: l).set (k + 1) x') = insCells z ++ insVals (l.set k x') := rfl
      rw [e, e2, ← ih k (by simpa using hk), List.set_append_right _ _ (by omega), hz, show (k + 1) * 5 + o - 5 = k * 5 + o by omega]
/-- One cell of an instruction is written over. -/
theorem Mp.put1 {lo hi : Nat} {w : World} {l : List Fn} {a : Option Addr} {c : Nat} {tv : List At} (h : Mp lo hi w l a c tv) {i k b cc : Nat} {f : Fn} {x : Ins} (hf : l[i]? = some f) (ht : tv[i]? = some (some ⟨b, 0, none⟩, cc)) (hx : f.code[k]? = some x) (x' : Ins) (o : Nat) (v : Value) (ho : o < 5) (hx' : insCells x' = (insCells x).set o v) :
    Mp lo hi (w.setCell ⟨b, k * 5 + o, none⟩ v) (l.set i { f with code := f.code.set k x' }) a c tv := by
  have hkl := (List.getElem?_eq_some_iff.1 hx).1
  have hcd := h.rm.code i f _ hf ht
  have kS : Keeps (· = b) w (w.setCell ⟨b, k * 5 + o, none⟩ v) := Keeps.setCell (S := (· = b)) w (a := ⟨b, k * 5 + o, none⟩) rfl _
  refine h.setCode hf ht rfl (f.code.set k x') (by simp) kS ?_
  have := own_put (i := k * 5 + o) v hcd
  rw [ins_put1 (f.code ++ [markI]) k x x' o v ho (by rw [List.getElem?_append_left hkl]; exact hx) hx', List.set_append_left _ _ hkl] at this
  exact this
/-- A whole instruction is written over. -/
theorem Mp.putI {lo hi : Nat} {w : World} {l : List Fn} {a : Option Addr} {c : Nat} {tv : List At} (h : Mp lo hi w l a c tv) {i k b cc : Nat} {f : Fn} (hf : l[i]? = some f) (ht : tv[i]? = some (some ⟨b, 0, none⟩, cc)) (hk : k < f.code.length) (x : Ins) :
    Mp lo hi (set5 w b (k * 5) x) (l.set i { f with code := f.code.set k x }) a c tv := by
  have hcd := h.rm.code i f _ hf ht
  refine h.setCode hf ht rfl (f.code.set k x) (by simp) (set5_keeps w b (k * 5) x) ?_
  have := own_put (i := k * 5 + 4) (.int .i64 x.k) (own_put (i := k * 5 + 3) (.int .i64 x.c) (own_put (i := k * 5 + 2) (.int .i64 x.b) (own_put (i := k * 5 + 1) (.int .i64 x.a) (own_put (i := k * 5) (.int .i64 x.kind) hcd))))
  rw [insVals_set (f.code ++ [markI]) k x (by simp; omega), List.set_append_left _ _ hk] at this
  exact this
theorem okI_wrap (x : Int) : okI (wrap64 x) := by
  unfold okI
  unfold wrap64
  omega
theorem ok_put {L : List Fn} {i k : Nat} {g : Fn} {x : Ins} (h : ∀ f ∈ L, f.Ok) (hg : L[i]? = some g) (hx : x.Ok) : ∀ f ∈ L.set i { g with code := g.code.set k x }, f.Ok := fun f hf => by
  rcases List.mem_or_eq_of_mem_set hf with h1 | h1
  · exact h f h1
  · have hG := h g (List.mem_of_getElem? hg)
    rw [h1]
    exact ⟨hG.params, hG.regs, hG.slots, fun y hy => by
      rcases List.mem_or_eq_of_mem_set hy with h2 | h2
      · exact hG.code y h2
      · rw [h2]; exact hx⟩
set_option maxHeartbeats 2000000 in
theorem moved_any (lo hi : Nat) (a : Option Addr) (n c cq : Nat) (l : List Fn) (tv : List At) (w : World) (hM : Mp lo hi w l a c tv) (hn : n = l.length) (hhi : hi ≤ w.heap.size) (hok : ∀ f ∈ l, f.Ok) (hr : n * 48 ≤ 140737488351232) (hrc : ∀ f ∈ l, f.code.length * 40 ≤ 140737488351232) :
    Calls Tryd.prog 6 #[.agg #[.slice a n cq]] w fun e w' => e = .returned (.tuple #[]) ∧ (∃ L, Mp lo hi w' L a c tv ∧ Mix l L 0 0 ∧ ∀ f ∈ L, f.Ok) ∧ Keeps (Rg lo hi) w w' := by
  obtain ⟨B, hB⟩ : ∃ B, B = w.heap.size := ⟨_, rfl⟩
  have p1 := heap_alloc_new w (.cells #[.slice a n cq] 24)
  have hk1 := Keeps.alloc None w (.cells #[.slice a n cq] 24)
  obtain ⟨w2, hw2⟩ : ∃ w2, w2 = w.alloc (.cells #[.slice a n cq] 24) := ⟨_, rfl⟩
  rw [← hw2] at p1 hk1
  rw [← hB] at p1
  obtain ⟨g, rfl, _⟩ := hM.rm.at
  have H0 : Hid (Mp lo hi w2 l (some ⟨g, 0, none⟩) c tv ∧ w2.heap[B]? = some (.cells #[.slice (some ⟨g, 0, none⟩) n cq] 24 (0, 0)) ∧ Keeps (Rg lo hi) w w2 ∧ Mix l l 0 0 ∧ ∀ f ∈ l, f.Ok) := ⟨hM.more hk1, p1, hk1.mono (fun _ f _ => f.elim), Mix.refl l, hok⟩
  have HC : Hid (n = l.length ∧ (∀ f ∈ l, f.code.length * 40 ≤ 140737488351232) ∧ hi ≤ B) := ⟨hn, hrc, by omega⟩
  have hnb : (n : Int) ≤ 4611686018427387904 := by omega
  clear hM hn hrc hhi hok p1 hk1
  go_enter Tryd.func6, Tryd.ntmps6
  go_upto_region 1 with fail
  rw [← hw2, ← hB]
  clear hw2 hB
  go_wp2_with fail
  go_loopw [2] (fun s2 wr => ∃ (k : Nat) (L : List Fn), k ≤ n ∧ s2 = .int .i64 k ∧ Mp lo hi wr L (some ⟨g, 0, none⟩) c tv ∧ wr.heap[B]? = some (.cells #[.slice (some ⟨g, 0, none⟩) n cq] 24 (0, 0)) ∧ Keeps (Rg lo hi) w wr ∧ Mix l L 0 0 ∧ ∀ f ∈ L, f.Ok) (fun i _ => n - (intOf i).toNat)
  case atStart => exact ⟨0, l, Nat.zero_le _, rfl, H0.out⟩
  case round =>
    obtain ⟨k, L1, hk, rfl, hm1, hp1, hkw, hMx, hok1⟩ := hrel
    have d1 : wr.cell? ⟨B, 0, none⟩ = some (.slice (some ⟨g, 0, none⟩) n cq) := (cell_of_heap hp1 0).trans rfl
    by_cases hkn : k < n
    · obtain ⟨f, hf⟩ : ∃ f, l[k]? = some f := ⟨l[k]'(by have := HC.out.1; omega), by simp⟩
      have i1 : (k : Int) < (n : Int) := by omega
      obtain ⟨m, hm⟩ : ∃ m, m = f.code.length := ⟨_, rfl⟩
      have hrf := HC.out.2.1 f (List.mem_of_getElem? hf)
      rw [← hm] at hrf
      have HK : Hid (Mp lo hi wr L1 (some ⟨g, 0, none⟩) c tv ∧ wr.heap[B]? = some (.cells #[.slice (some ⟨g, 0, none⟩) n cq] 24 (0, 0)) ∧ Keeps (Rg lo hi) w wr ∧ Mix l L1 0 0 ∧ ∀ f ∈ L1, f.Ok) := ⟨hm1, hp1, hkw, hMx, hok1⟩
      have HAT : Hid (l[k]? = some f ∧ m = f.code.length) := ⟨hf, hm⟩
      have hmb : (m : Int) ≤ 4611686018427387904 := by omega
      clear hm1 hp1 hkw hMx hok1 hf hm H0
      go_wp2_with fail
      clear d1
      go_loopw [3] (fun s3 wr => ∃ (j : Nat) (L : List Fn), j ≤ m ∧ s3 = .int .i64 j ∧ Mp lo hi wr L (some ⟨g, 0, none⟩) c tv ∧ wr.heap[B]? = some (.cells #[.slice (some ⟨g, 0, none⟩) n cq] 24 (0, 0)) ∧ Keeps (Rg lo hi) w wr ∧ Mix l L 0 0 ∧ ∀ f ∈ L, f.Ok) (fun i _ => m - (intOf i).toNat)
      case atStart => exact ⟨0, L1, Nat.zero_le _, rfl, HK.out⟩
      case round =>
        obtain ⟨j, L2, hj, rfl, hm2, hp1, hkw, hMx, hok2⟩ := hrel
        have d0 : wr.cell? ⟨B, 0, none⟩ = some (.slice (some ⟨g, 0, none⟩) n cq) := (cell_of_heap hp1 0).trans rfl
        obtain ⟨f2, hf2, _, _, _, hl2, _⟩ := hMx.2 k f HAT.out.1
        obtain ⟨g', b, cc, e', hti, hfa, hRb, hRg, hcc, hfr, hown, hins⟩ := hm2.at hf2
        injection e' with e'
        injection e' with e'
        subst e'
        have y3 := hfa.code
        rw [hl2, ← HAT.out.2] at y3
        by_cases hjm : j < m
        · have i2 : (j : Int) < (m : Int) := by omega
          obtain ⟨x, hx⟩ : ∃ x, f2.code[j]? = some x := ⟨f2.code[j]'(by rw [hl2, ← HAT.out.2]; exact hjm), by simp⟩
          have hxo := (hok2 f2 (List.mem_of_getElem? hf2)).code x (List.mem_of_getElem? hx)
          have x4 := (hins j x hx).k
          have t4 := hfr (j * 5 + 4)
          have hput := hm2.put1 hf2 hti hx { x with k := wrap64 (x.k + 1) } 4 (.int .i64 (wrap64 (x.k + 1))) (by omega) rfl
          have kS : Keeps (· = b) wr (wr.setCell ⟨b, j * 5 + 4, none⟩ (.int .i64 (wrap64 (x.k + 1)))) := Keeps.setCell (S := (· = b)) wr (a := ⟨b, j * 5 + 4, none⟩) rfl _
          have hBb : ¬ B = b := by have := hRb.2; have := HC.out.2.2; omega
          have HQ : Hid (Mp lo hi (wr.setCell ⟨b, j * 5 + 4, none⟩ (.int .i64 (wrap64 (x.k + 1)))) (L2.set k { f2 with code := f2.code.set j { x with k := wrap64 (x.k + 1) } }) (some ⟨g, 0, none⟩) c tv ∧ (wr.setCell ⟨b, j * 5 + 4, none⟩ (.int .i64 (wrap64 (x.k + 1)))).heap[B]? = some (.cells #[.slice (some ⟨g, 0, none⟩) n cq] 24 (0, 0)) ∧ Keeps (Rg lo hi) w (wr.setCell ⟨b, j * 5 + 4, none⟩ (.int .i64 (wrap64 (x.k + 1)))) ∧ Mix l (L2.set k { f2 with code := f2.code.set j { x with k := wrap64 (x.k + 1) } }) 0 0 ∧ ∀ f ∈ L2.set k { f2 with code := f2.code.set j { x with k := wrap64 (x.k + 1) } }, f.Ok) :=
            ⟨hput, blk_kept hp1 kS hBb, hkw.trans kS (fun i e hi => by subst e; exact hRb), hMx.put hf2 _, ok_put hok2 hf2 ⟨hxo.kind, hxo.a, hxo.b, hxo.c, okI_wrap _⟩⟩
          clear hm2 hp1 hkw hMx hok2 hf2 hl2 hti hfa hRb hRg hcc hfr hown hins hx hxo hput kS hBb
          go_upto_region 7 with fail
          go_cut [39] (fun s39 wx => ∃ L : List Fn, Mp lo hi wx L (some ⟨g, 0, none⟩) c tv ∧ wx.heap[B]? = some (.cells #[.slice (some ⟨g, 0, none⟩) n cq] 24 (0, 0)) ∧ Keeps (Rg lo hi) w wx ∧ Mix l L 0 0 ∧ ∀ f ∈ L, f.Ok)
          case first =>
            go_region
            all_goals (go_wp2_with fail; go_meet)
            all_goals
              have hd := fun wx => Keeps.drew None wx
              exact ⟨_, HQ.out.1.more (hd _), blk_kept HQ.out.2.1 (hd _) (fun f => f), HQ.out.2.2.1.andDrew, HQ.out.2.2.2⟩
          case rest =>
            clear d0 y3 x4 t4 HQ
            obtain ⟨L3, hm3, hp3, hk3, hMx3, hok3⟩ := hcut
            have d0 : wc.cell? ⟨B, 0, none⟩ = some (.slice (some ⟨g, 0, none⟩) n cq) := (cell_of_heap hp3 0).trans rfl
            obtain ⟨f3, hf3, _, _, _, hl3, _⟩ := hMx3.2 k f HAT.out.1
            obtain ⟨g', b3, cc3, e', hti, hfa, hRb, hRg, hcc, hfr, hown, hins⟩ := hm3.at hf3
            injection e' with e'
            injection e' with e'
            subst e'
            have y3 := hfa.code
            rw [hl3, ← HAT.out.2] at y3
            obtain ⟨z, hz⟩ : ∃ x, f3.code[j]? = some x := ⟨f3.code[j]'(by rw [hl3, ← HAT.out.2]; exact hjm), by simp⟩
            have hzo := (hok3 f3 (List.mem_of_getElem? hf3)).code z (List.mem_of_getElem? hz)
            have x1 := (hins j z hz).a
            have t1 := hfr (j * 5 + 1)
            have hput := hm3.put1 hf3 hti hz { z with a := wrap64 (z.a + 1) } 1 (.int .i64 (wrap64 (z.a + 1))) (by omega) rfl
            have kS : Keeps (· = b3) wc (wc.setCell ⟨b3, j * 5 + 1, none⟩ (.int .i64 (wrap64 (z.a + 1)))) := Keeps.setCell (S := (· = b3)) wc (a := ⟨b3, j * 5 + 1, none⟩) rfl _
            have hBb : ¬ B = b3 := by have := hRb.2; have := HC.out.2.2; omega
            have HQ : Hid (Mp lo hi (wc.setCell ⟨b3, j * 5 + 1, none⟩ (.int .i64 (wrap64 (z.a + 1)))) (L3.set k { f3 with code := f3.code.set j { z with a := wrap64 (z.a + 1) } }) (some ⟨g, 0, none⟩) c tv ∧ (wc.setCell ⟨b3, j * 5 + 1, none⟩ (.int .i64 (wrap64 (z.a + 1)))).heap[B]? = some (.cells #[.slice (some ⟨g, 0, none⟩) n cq] 24 (0, 0)) ∧ Keeps (Rg lo hi) w (wc.setCell ⟨b3, j * 5 + 1, none⟩ (.int .i64 (wrap64 (z.a + 1)))) ∧ Mix l (L3.set k { f3 with code := f3.code.set j { z with a := wrap64 (z.a + 1) } }) 0 0 ∧ ∀ f ∈ L3.set k { f3 with code := f3.code.set j { z with a := wrap64 (z.a + 1) } }, f.Ok) :=
              ⟨hput, blk_kept hp3 kS hBb, hk3.trans kS (fun i e hi => by subst e; exact hRb), hMx3.put hf3 _, ok_put hok3 hf3 ⟨hzo.kind, okI_wrap _, hzo.b, hzo.c, hzo.k⟩⟩
            clear hm3 hp3 hk3 hMx3 hok3 hf3 hl3 hti hfa hRb hRg hcc hfr hown hins hz hzo hput kS hBb
            go_upto_region 8 with fail
            go_region
            all_goals go_wp2_with fail
            all_goals
              have hd := fun wx => Keeps.drew None wx
              exact ⟨⟨j + 1, _, by omega, by simp, HQ.out.1.more (hd _), blk_kept HQ.out.2.1 (hd _) (fun f => f), HQ.out.2.2.1.andDrew, HQ.out.2.2.2⟩, by simp [intOf]; omega⟩
        · have i2 : ¬ (j : Int) < (m : Int) := by omega
          have HQ : Hid (Mp lo hi wr L2 (some ⟨g, 0, none⟩) c tv ∧ wr.heap[B]? = some (.cells #[.slice (some ⟨g, 0, none⟩) n cq] 24 (0, 0)) ∧ Keeps (Rg lo hi) w wr ∧ Mix l L2 0 0 ∧ ∀ f ∈ L2, f.Ok) := ⟨hm2, hp1, hkw, hMx, hok2⟩
          clear hm2 hp1 hkw hMx hok2 hf2 hl2 hti hfa hRb hRg hcc hfr hown hins
          go_wp2_with fail
          exact ⟨⟨k + 1, L2, by omega, by simp, HQ.out⟩, by simp [intOf]; omega⟩
    · have hkn2 : k = n := by omega
      subst hkn2
      have i1 : ¬ (k : Int) < (k : Int) := by omega
      have HQ : Hid ((∃ L, Mp lo hi wr L (some ⟨g, 0, none⟩) c tv ∧ Mix l L 0 0 ∧ ∀ f ∈ L, f.Ok) ∧ Keeps (Rg lo hi) w wr) := ⟨⟨L1, hm1, hMx, hok1⟩, hkw⟩
      clear hm1 hp1 hkw hMx hok1 H0
      go_wp2_with fail
      go_end0
      exact ⟨rfl, HQ.out⟩
set_option maxHeartbeats 2000000 in
theorem back_any (lo hi : Nat) (a : Option Addr) (n c ng cq cp : Nat) (g : Nat) (l L : List Fn) (tv : List At) (w0 w : World) (hS : SeenF w0 a n l) (hk0 : Keeps (Rg lo hi) w0 w) (h0 : w0.heap.size ≤ lo) (hM : Mp lo hi w L (some ⟨g, 0, none⟩) cp tv) (hng : ng = n) (hhi : hi ≤ w.heap.size) (hMix : Mix l L 0 0) (hr : n * 48 ≤ 140737488351232) (hrc : ∀ f ∈ l, f.code.length * 40 ≤ 140737488351232) :
    Calls Tryd.prog 8 #[.agg #[.slice (some ⟨g, 0, none⟩) ng cq], .agg #[.slice a n c]] w fun e w' => e = .returned (.tuple #[]) ∧ Mp lo hi w' l (some ⟨g, 0, none⟩) cp tv ∧ Keeps (Rg lo hi) w w' := by
  subst hng
  have hn := hS.len
  obtain ⟨B, hB⟩ : ∃ B, B = w.heap.size := ⟨_, rfl⟩
  obtain ⟨p1, p2⟩ := two_boxes w #[.slice (some ⟨g, 0, none⟩) ng cq] #[.slice a ng c] 24 24
  have hk2 := keeps2 w (.cells #[.slice (some ⟨g, 0, none⟩) ng cq] 24) (.cells #[.slice a ng c] 24)
  obtain ⟨w2, hw2⟩ : ∃ w2, w2 = (w.alloc (.cells #[.slice (some ⟨g, 0, none⟩) ng cq] 24)).alloc (.cells #[.slice a ng c] 24) := ⟨_, rfl⟩
  rw [← hw2] at p1 p2 hk2
  rw [← hB] at p1 p2
  have H0 : Hid (Mp lo hi w2 L (some ⟨g, 0, none⟩) cp tv ∧ w2.heap[B]? = some (.cells #[.slice (some ⟨g, 0, none⟩) ng cq] 24 (0, 0)) ∧ w2.heap[B + 1]? = some (.cells #[.slice a ng c] 24 (0, 0)) ∧ Keeps (Rg lo hi) w w2 ∧ Mix l L 0 0) := ⟨hM.more hk2, p1, p2, hk2.mono (fun _ f _ => f.elim), hMix⟩
  have HC : Hid (SeenF w0 a ng l ∧ ng = l.length ∧ (∀ f ∈ l, f.code.length * 40 ≤ 140737488351232) ∧ Keeps (Rg lo hi) w0 w ∧ w0.heap.size ≤ lo ∧ hi ≤ B) := ⟨hS, hn, hrc, hk0, h0, by omega⟩
  have hnb : (ng : Int) ≤ 4611686018427387904 := by omega
  clear hS hn hrc hk0 h0 hM hhi p1 p2 hk2 hMix
  go_enter Tryd.func8, Tryd.ntmps8
  go_upto_region 1 with fail
  rw [← hw2, ← hB]
  clear hw2 hB
  go_wp2_with fail
  go_loopw [4] (fun s4 wr => ∃ (k : Nat) (L' : List Fn), k ≤ ng ∧ s4 = .int .i64 k ∧ Mp lo hi wr L' (some ⟨g, 0, none⟩) cp tv ∧ wr.heap[B]? = some (.cells #[.slice (some ⟨g, 0, none⟩) ng cq] 24 (0, 0)) ∧ wr.heap[B + 1]? = some (.cells #[.slice a ng c] 24 (0, 0)) ∧ Keeps (Rg lo hi) w wr ∧ Mix l L' k 0) (fun i _ => ng - (intOf i).toNat)
  case atStart => exact ⟨0, L, Nat.zero_le _, rfl, H0.out⟩
  case round =>
    obtain ⟨k, L1, hk, rfl, hg, hp1, hp2, hkw, hMx⟩ := hrel
    have d1 : wr.cell? ⟨B + 1, 0, none⟩ = some (.slice a ng c) := (cell_of_heap hp2 0).trans rfl
    by_cases hkn : k < ng
    · obtain ⟨b, off, f, ca, cc, rfl, hf, hat⟩ := HC.out.1.at hkn
      have i1 : (k : Int) < (ng : Int) := by omega
      obtain ⟨m, hm⟩ : ∃ m, m = f.code.length := ⟨_, rfl⟩
      have hrf := HC.out.2.2.1 f (List.mem_of_getElem? hf)
      rw [← hm] at hrf
      have HK : Hid (Mp lo hi wr L1 (some ⟨g, 0, none⟩) cp tv ∧ wr.heap[B]? = some (.cells #[.slice (some ⟨g, 0, none⟩) ng cq] 24 (0, 0)) ∧ wr.heap[B + 1]? = some (.cells #[.slice (some ⟨b, off, none⟩) ng c] 24 (0, 0)) ∧ Keeps (Rg lo hi) w wr ∧ Mix l L1 k 0) := ⟨hg, hp1, hp2, hkw, hMx⟩
      have HAT : Hid (FnAt w0 b (off + k * 4) f ca cc ∧ l[k]? = some f ∧ m = f.code.length) := ⟨hat, hf, hm⟩
      have hmb : (m : Int) ≤ 4611686018427387904 := by omega
      clear hg hp1 hp2 hkw hMx hat hf hm H0
      go_wp2_with fail
      clear d1
      go_loopw [5] (fun s5 wr => ∃ (j : Nat) (L' : List Fn), j ≤ m ∧ s5 = .int .i64 j ∧ Mp lo hi wr L' (some ⟨g, 0, none⟩) cp tv ∧ wr.heap[B]? = some (.cells #[.slice (some ⟨g, 0, none⟩) ng cq] 24 (0, 0)) ∧ wr.heap[B + 1]? = some (.cells #[.slice (some ⟨b, off, none⟩) ng c] 24 (0, 0)) ∧ Keeps (Rg lo hi) w wr ∧ Mix l L' k j) (fun i _ => m - (intOf i).toNat)
      case atStart => exact ⟨0, L1, Nat.zero_le _, rfl, HK.out⟩
      case round =>
        obtain ⟨j, L2, hj, rfl, hg, hp1, hp2, hkw, hMx⟩ := hrel
        have hk0 : Keeps None w0 wr := (HC.out.2.2.2.1.trans hkw (fun _ e _ => e)).mono (fun i e hi => by have := e.1; have := HC.out.2.2.2.2.1; omega)
        have d0 : wr.cell? ⟨B, 0, none⟩ = some (.slice (some ⟨g, 0, none⟩) ng cq) := (cell_of_heap hp1 0).trans rfl
        have d1 : wr.cell? ⟨B + 1, 0, none⟩ = some (.slice (some ⟨b, off, none⟩) ng c) := (cell_of_heap hp2 0).trans rfl
        have hat := HAT.out.1.more hk0
        have y3 := hat.code
        rw [← HAT.out.2.2] at y3
        by_cases hjm : j < m
        · obtain ⟨cb, co, x, rfl, hx, hins⟩ := hat.seen.at (k := j) (by rw [← HAT.out.2.2]; exact hjm)
          obtain ⟨x0, x1, x2, x3, x4⟩ := hins
          obtain ⟨f2, hgL, _, _, _, hgl, _⟩ := hMx.2 k f HAT.out.2.1
          obtain ⟨g', b2, cc2, e', hti, hfa, hRb, hRg, hcc, hfr, hown, hin2⟩ := hg.at hgL
          injection e' with e'
          injection e' with e'
          subst e'
          have g3 := hfa.code
          rw [hgl, ← HAT.out.2.2] at g3
          obtain ⟨z, hz⟩ : ∃ z, f2.code[j]? = some z := ⟨f2.code[j]'(by rw [hgl, ← HAT.out.2.2]; exact hjm), by simp⟩
          obtain ⟨u0, u1, u2, u3, u4⟩ := hin2 j z hz
          have t0 := hfr (j * 5)
          have t1 := hfr (j * 5 + 1)
          have t2 := hfr (j * 5 + 2)
          have t3 := hfr (j * 5 + 3)
          have t4 := hfr (j * 5 + 4)
          have hput := hg.putI hgL hti (k := j) (by rw [hgl, ← HAT.out.2.2]; exact hjm) x
          have hk5 := set5_keeps wr b2 (j * 5) x
          have hMx2 := hMx.step HAT.out.2.1 hgL hx
          have hne1 : ¬ B = b2 := by have := hRb.2; have := HC.out.2.2.2.2.2; omega
          have hne2 : ¬ B + 1 = b2 := by have := hRb.2; have := HC.out.2.2.2.2.2; omega
          have HQ : Hid (Mp lo hi (set5 wr b2 (j * 5) x) (L2.set k { f2 with code := f2.code.set j x }) (some ⟨g, 0, none⟩) cp tv ∧ (set5 wr b2 (j * 5) x).heap[B]? = some (.cells #[.slice (some ⟨g, 0, none⟩) ng cq] 24 (0, 0)) ∧ (set5 wr b2 (j * 5) x).heap[B + 1]? = some (.cells #[.slice (some ⟨b, off, none⟩) ng c] 24 (0, 0)) ∧ Keeps (Rg lo hi) w (set5 wr b2 (j * 5) x) ∧ Mix l (L2.set k { f2 with code := f2.code.set j x }) k (j + 1)) :=
            ⟨hput, blk_kept hp1 hk5 hne1, blk_kept hp2 hk5 hne2, hkw.trans hk5 (fun i e hi => by subst e; exact hRb), hMx2⟩
          have i2 : (j : Int) < (m : Int) := by omega
          clear hg hp1 hp2 hkw hMx hat hx hgL hgl hti hfa hRb hRg hcc hfr hown hin2 hz hput hk5 hMx2 hk0 hne1 hne2
          go_wp2_with fail
          go_region
          all_goals go_wp2_with fail
          all_goals
            have hd := fun wx => Keeps.drew None wx
            exact ⟨⟨j + 1, _, by omega, by simp, HQ.out.1.more (hd _), blk_kept HQ.out.2.1 (hd _) (fun f => f), blk_kept HQ.out.2.2.1 (hd _) (fun f => f), HQ.out.2.2.2.1.andDrew, HQ.out.2.2.2.2⟩, by simp [intOf]; omega⟩
        · have i2 : ¬ (j : Int) < (m : Int) := by omega
          have HQ : Hid (Mp lo hi wr L2 (some ⟨g, 0, none⟩) cp tv ∧ wr.heap[B]? = some (.cells #[.slice (some ⟨g, 0, none⟩) ng cq] 24 (0, 0)) ∧ wr.heap[B + 1]? = some (.cells #[.slice (some ⟨b, off, none⟩) ng c] 24 (0, 0)) ∧ Keeps (Rg lo hi) w wr ∧ Mix l L2 (k + 1) 0) := ⟨hg, hp1, hp2, hkw, hMx.row HAT.out.2.1 (by have := HAT.out.2.2; omega)⟩
          have yy : wr.cell? ⟨b, off + k * 4 + 3, none⟩ = some (.slice ca m cc) := y3
          clear hg hp1 hp2 hkw hMx hat hk0
          go_wp2_with fail
          exact ⟨⟨k + 1, L2, by omega, by simp, HQ.out⟩, by simp [intOf]; omega⟩
    · have hkn2 : k = ng := by omega
      subst hkn2
      have i1 : ¬ (k : Int) < (k : Int) := by omega
      have hL : L1 = l := (by have := HC.out.2.1; rw [this] at hMx; exact hMx.all)
      subst hL
      have HQ : Hid (Mp lo hi wr L1 (some ⟨g, 0, none⟩) cp tv ∧ Keeps (Rg lo hi) w wr) := ⟨hg, hkw⟩
      clear hg hp1 hp2 hkw hMx H0
      go_wp2_with fail
      go_end0
      exact ⟨rfl, HQ.out⟩
set_option maxHeartbeats 2000000 in
theorem marked_any (a : Option Addr) (n c : Nat) (l : List Fn) (tv : List At) (w : World) (hR : Rm w l a c tv) (hn : n = l.length) (hr : n * 48 ≤ 140737488351232) (hrc : ∀ f ∈ l, f.code.length * 40 ≤ 140737488351232) :
    Calls Tryd.prog 10 #[.agg #[.slice a n c]] w fun e w' => e = .returned (.bool true) ∧ Keeps None w w' := by
  obtain ⟨g, rfl, hg, hnc, hmk, hat⟩ := hR.at
  rw [← hn] at hnc hmk
  have HC : Hid (n = l.length ∧ (∀ f ∈ l, f.code.length * 40 ≤ 140737488351232) ∧ ∀ i f, l[i]? = some f → ∃ b cc, FnAt w g (i * 4) f (some ⟨b, 0, none⟩) cc ∧ f.code.length + 1 ≤ cc ∧ w.cell? ⟨b, f.code.length * 5, none⟩ = some (.int .i64 (-77))) := ⟨hn, hrc, hat⟩
  obtain ⟨B, hB⟩ : ∃ B, B = w.heap.size := ⟨_, rfl⟩
  have hal := Keeps.alloc None w (.cells #[.slice (some ⟨g, 0, none⟩) n c] 24)
  have p1 := heap_alloc_new w (.cells #[.slice (some ⟨g, 0, none⟩) n c] 24)
  rw [← hB] at p1
  obtain ⟨W, hW⟩ : ∃ W, W = w.alloc (.cells #[.slice (some ⟨g, 0, none⟩) n c] 24) := ⟨_, rfl⟩
  rw [← hW] at hal p1
  have HW : Hid (Keeps None w W ∧ W.heap[B]? = some (.cells #[.slice (some ⟨g, 0, none⟩) n c] 24 (0, 0))) := ⟨hal, p1⟩
  have hnb : (n : Int) ≤ 4611686018427387904 := by omega
  have HM : Hid (w.cell? ⟨g, n * 4, none⟩ = some (.int .i64 (-77)) ∧ n + 1 ≤ c) := ⟨hmk, hnc⟩
  clear hR hat hal p1 hrc hg hmk hn hnc
  go_enter Tryd.func10, Tryd.ntmps10
  go_upto_region 1 with fail
  rw [← hW, ← hB]
  clear hW hB
  go_wp2_with fail
  go_loopw [3] (fun s3 wr => ∃ k : Nat, k ≤ n ∧ s3 = .int .i64 k ∧ Keeps None w wr ∧ wr.heap[B]? = some (.cells #[.slice (some ⟨g, 0, none⟩) n c] 24 (0, 0))) (fun i _ => n - (intOf i).toNat)
  case atStart => exact ⟨0, Nat.zero_le _, rfl, HW.out.1, HW.out.2⟩
  case round =>
    obtain ⟨k, hk, rfl, hkp, hbx⟩ := hrel
    have e0 : wr.cell? ⟨B, 0, none⟩ = some (.slice (some ⟨g, 0, none⟩) n c) := (cell_of_heap hbx 0).trans rfl
    have HK : Hid (Keeps None w wr ∧ wr.heap[B]? = some (.cells #[.slice (some ⟨g, 0, none⟩) n c] 24 (0, 0))) := ⟨hkp, hbx⟩
    by_cases hkn : k < n
    · obtain ⟨f, hf⟩ : ∃ f, l[k]? = some f := ⟨l[k]'(by have := HC.out.1; omega), by simp⟩
      obtain ⟨b, cc, hfn, hcc, hmk⟩ := HC.out.2.2 k f hf
      have hrf := HC.out.2.1 f (List.mem_of_getElem? hf)
      have y3 := hkp.cell hfn.code (fun f => f)
      have ym := hkp.cell hmk (fun f => f)
      generalize f.code.length = m at y3 ym hcc hrf
      have i1 : (k : Int) < (n : Int) := by omega
      have i3 : (m : Int) + 1 ≤ (cc : Int) := by omega
      have i4 : (m : Int) < (m : Int) + 1 := by omega
      have c1 : ¬ cc = 0 := by omega
      have hmb : (m : Int) ≤ 4611686018427387904 := by omega
      clear hkp hbx hf hfn hmk
      go_wp2_with fail
      exact ⟨⟨k + 1, by omega, by simp, HK.out.1, HK.out.2⟩, by simp [intOf]; omega⟩
    · have hkn2 : k = n := by omega
      subst hkn2
      have i1 : ¬ (k : Int) < (k : Int) := by omega
      have m0 := hkp.cell HM.out.1 (fun f => f)
      have hnc := HM.out.2
      have i0 : (k : Int) + 1 ≤ (c : Int) := by omega
      have i2 : (k : Int) < (k : Int) + 1 := by omega
      have c0 : ¬ c = 0 := by omega
      clear hkp hbx hnc
      go_wp2_with fail
      go_ret
      exact ⟨rfl, HK.out.1⟩
end Go.Proofs.YtiibflbfnoddmaaDoor
