import Derived.Test.YtbdpdojeaahpjaaGreatDoorPkBK
import Derived.Test.YtbdpdojeaahpjaaGreatDoorPkAX
/-! The document's walk over a run: registers and slots as lists of their own, and 'plain'. -/
namespace Go.Proofs.YtbdpdojeaahpjaaGreatDoor
set_option linter.unusedVariables false
set_option maxRecDepth 20000
set_option linter.unusedSimpArgs false
open Go.RowKit Go.HeapKit Go.PlainOps

/-- A block of numbers. -/
def IsL (w : World) (G : Nat) (l : List Int) : Prop := w.heap[G]? = some (.cells (ints l).toArray 2 (0, 0))
section
variable {w w' : World} {G : Nat} {l : List Int}
theorem IsL.cell (h : IsL w G l) {k : Nat} {x : Int} (hx : l[k]? = some x) : w.cell? ⟨G, k, none⟩ = some (.int .i64 x) := by
  rw [blk_cell h]
  simpa using ints_at l k x hx
theorem IsL.free (h : IsL w G l) (k : Nat) : w.frozen? ⟨G, k, none⟩ = false := blk_free h k
theorem IsL.kept {S : Nat → Prop} (h : IsL w G l) (hk : Keeps S w w') (hS : ¬ S G) : IsL w' G l := blk_kept h hk hS
theorem IsL.put (h : IsL w G l) (k : Nat) (x : Int) : IsL (w.setCell ⟨G, k, none⟩ (.int .i64 x)) G (l.set k x) := by
  unfold IsL
  rw [blk_set h]
  simp [ints, List.map_set]
end
theorem take_at {l : List Int} {nr a : Nat} (h : a < nr) (hl : nr ≤ l.length) : (l.take nr)[a]? = some (l.getD a 0) := by
  rw [List.getElem?_take, if_pos h, List.getD_eq_getElem?_getD, List.getElem?_eq_getElem (by omega)]
  rfl
theorem dp0 (G nr : Nat) (l : List Int) (a : Nat) (b c k : Int) (w : World) (h : IsL w G l) (hl : l.length = nr) (ha : a < nr) :
    Calls Tryz.prog 23 #[.slice (some ⟨G, 0, none⟩) nr nr, .agg #[.int .i64 0, .int .i64 a, .int .i64 b, .int .i64 c, .int .i64 k]] w fun e0 w' => e0 = .returned (.tuple #[]) ∧ IsL w' G (l.set a k) ∧ Keeps (· = G) w w' := by
  have hal := Keeps.alloc None w (.cells #[.int .i64 0, .int .i64 a, .int .i64 b, .int .i64 c, .int .i64 k] 37)
  have h1 := h.kept hal (fun f => f)
  obtain ⟨x, hx⟩ : ∃ x, l[a]? = some x := ⟨l[a]'(by omega), by simp⟩
  have c1 := h1.cell hx
  have z1 := h1.free a
  have HH : Hid _ := And.intro (h1.put a k) ((hal.mono (T := (· = G)) (fun _ f _ => f.elim)).andSet (x := ⟨G, a, none⟩) (.inl rfl) (.int .i64 k))
  have i1 : (a : Int) < (nr : Int) := by omega
  clear h hal h1 hx hl
  go_enter Tryz.func23, Tryz.ntmps23
  go_wp2_with fail
  go_end0
  exact ⟨rfl, HH.out⟩
theorem dp1 (G nr : Nat) (l : List Int) (a b : Nat) (c k y : Int) (w : World) (h : IsL w G l) (hl : l.length = nr) (ha : a < nr) (hb : l[b]? = some y) :
    Calls Tryz.prog 23 #[.slice (some ⟨G, 0, none⟩) nr nr, .agg #[.int .i64 1, .int .i64 a, .int .i64 b, .int .i64 c, .int .i64 k]] w fun e0 w' => e0 = .returned (.tuple #[]) ∧ IsL w' G (l.set a y) ∧ Keeps (· = G) w w' := by
  have hal := Keeps.alloc None w (.cells #[.int .i64 1, .int .i64 a, .int .i64 b, .int .i64 c, .int .i64 k] 37)
  have h1 := h.kept hal (fun f => f)
  obtain ⟨x, hx⟩ : ∃ x, l[a]? = some x := ⟨l[a]'(by omega), by simp⟩
  have c1 := h1.cell hx
  have c2 := h1.cell hb
  have z1 := h1.free a
  have HH : Hid _ := And.intro ((h1.put a y).kept (Keeps.drew None _) (fun f => f)) ((hal.mono (T := (· = G)) (fun _ f _ => f.elim)).andSet (x := ⟨G, a, none⟩) (.inl rfl) (.int .i64 y)).andDrew
  have i1 : (a : Int) < (nr : Int) := by omega
  have i2 : (b : Int) < (nr : Int) := by have := (List.getElem?_eq_some_iff.1 hb).1; omega
  clear h hal h1 hx hl hb
  go_enter Tryz.func23, Tryz.ntmps23
  go_wp2_with fail
  go_region
  all_goals go_wp2_with fail
  all_goals go_end0
  all_goals exact ⟨rfl, HH.out⟩
theorem dp6 (G nr : Nat) (l : List Int) (a b c k : Int) (w : World) (h : IsL w G l) :
    Calls Tryz.prog 23 #[.slice (some ⟨G, 0, none⟩) nr nr, .agg #[.int .i64 6, .int .i64 a, .int .i64 b, .int .i64 c, .int .i64 k]] w fun e0 w' => e0 = .returned (.tuple #[]) ∧ IsL w' G l ∧ Keeps (· = G) w w' := by
  have hal := Keeps.alloc None w (.cells #[.int .i64 6, .int .i64 a, .int .i64 b, .int .i64 c, .int .i64 k] 37)
  have HH : Hid _ := And.intro (h.kept hal (fun f => f)) (hal.mono (T := (· = G)) (fun _ f _ => f.elim))
  clear h hal
  go_enter Tryz.func23, Tryz.ntmps23
  go_wp2_with fail
  go_end0
  exact ⟨rfl, HH.out⟩
set_option maxHeartbeats 2000000 in
theorem dp2 (G nr : Nat) (l : List Int) (a b c : Nat) (k y z : Int) (w : World) (h : IsL w G l) (hl : l.length = nr) (ha : a < nr) (hb : l[b]? = some y) (hc : l[c]? = some z) (hk : isOpV k = true) (o1 : okI y) (o2 : okI z) :
    Calls Tryz.prog 23 #[.slice (some ⟨G, 0, none⟩) nr nr, .agg #[.int .i64 2, .int .i64 a, .int .i64 b, .int .i64 c, .int .i64 k]] w fun e0 w' => e0 = .returned (.tuple #[]) ∧ IsL w' G (l.set a (workV k y z)) ∧ Keeps (· = G) w w' := by
  have hal := Keeps.alloc None w (.cells #[.int .i64 2, .int .i64 a, .int .i64 b, .int .i64 c, .int .i64 k] 37)
  have bI := heap_alloc_new w (.cells #[.int .i64 2, .int .i64 a, .int .i64 b, .int .i64 c, .int .i64 k] 37)
  obtain ⟨W, hW⟩ : ∃ W, W = w.alloc (.cells #[.int .i64 2, .int .i64 a, .int .i64 b, .int .i64 c, .int .i64 k] 37) := ⟨_, rfl⟩
  obtain ⟨I, hI⟩ : ∃ I, I = w.heap.size := ⟨_, rfl⟩
  rw [← hW] at hal bI
  rw [← hI] at bI
  have nI : I ≠ G := by have := blk_lt h; omega
  have nG : G ≠ I := nI.symm
  have h1 := h.kept hal (fun f => f)
  have j1 : W.cell? ⟨I, 1, none⟩ = some (.int .i64 (a : Int)) := (blk_cell bI 1).trans rfl
  have j0 : W.cell? ⟨I, 0, none⟩ = some (.int .i64 2) := (blk_cell bI 0).trans rfl
  have j2 : W.cell? ⟨I, 2, none⟩ = some (.int .i64 (b : Int)) := (blk_cell bI 2).trans rfl
  have j3 : W.cell? ⟨I, 3, none⟩ = some (.int .i64 (c : Int)) := (blk_cell bI 3).trans rfl
  have j4 : W.cell? ⟨I, 4, none⟩ = some (.int .i64 k) := (blk_cell bI 4).trans rfl
  obtain ⟨x, hx⟩ : ∃ x, l[a]? = some x := ⟨l[a]'(by omega), by simp⟩
  have c1 := h1.cell hx
  have c2 := h1.cell hb
  have c3 := h1.cell hc
  have z1 := h1.free a
  have i1 : (a : Int) < (nr : Int) := by omega
  have i2 : (b : Int) < (nr : Int) := by have := (List.getElem?_eq_some_iff.1 hb).1; omega
  have i3 : (c : Int) < (nr : Int) := by have := (List.getElem?_eq_some_iff.1 hc).1; omega
  have HH : Hid (∀ x, IsL ((W.setCell ⟨G, a, none⟩ (.int .i64 x)).drew) G (l.set a x) ∧ Keeps (· = G) w ((W.setCell ⟨G, a, none⟩ (.int .i64 x)).drew)) := fun x =>
    ⟨(h1.put a x).kept (Keeps.drew None _) (fun f => f), ((hal.mono (T := (· = G)) (fun _ f _ => f.elim)).andSet (x := ⟨G, a, none⟩) (.inl rfl) (.int .i64 x)).andDrew⟩
  have hap := fun wx => refApply_any k y z wx hk o1.1 o1.2 o2.1 o2.2
  obtain ⟨v, hv⟩ : ∃ v, v = workV k y z := ⟨_, rfl⟩
  rw [← hv] at hap ⊢
  have HAP : Hid _ := hap
  clear h hal h1 bI hx hv hap hk o1 o2 hl hb hc
  go_enter Tryz.func23, Tryz.ntmps23
  go_upto_region 1 with fail
  rw [← hW, ← hI]
  clear hW hI
  go_upto_region 7 with fail
  go_region_held3 (fun w' => w'.cell? ⟨I, 2, none⟩ = some (.int .i64 (b : Int)) ∧ w'.cell? ⟨I, 3, none⟩ = some (.int .i64 (c : Int)) ∧ w'.cell? ⟨I, 4, none⟩ = some (.int .i64 k) ∧ w'.cell? ⟨G, b, none⟩ = some (.int .i64 y) ∧ w'.cell? ⟨G, c, none⟩ = some (.int .i64 z)) (go_keep) ((go_at_call 37; refine (HAP.out _).mono ?_; rintro _ w4 ⟨rfl, hw4⟩; have hw5 := hw4.symm; subst hw5))
  all_goals go_wp2_with fail
  all_goals go_end0
  all_goals exact ⟨rfl, HH.out v⟩
theorem dplain_any (G nr : Nat) (t : Tk) (i : Ins) (w : World) (h : IsL w G (t.regs.take nr)) (hr : t.regs.length = 16) (hn : nr ≤ 16) (hok : ∀ x ∈ t.regs, okI x)
    (hk : i.kind = 0 ∨ i.kind = 1 ∨ i.kind = 2 ∨ i.kind = 6) (ha : i.kind ≠ 6 → 0 ≤ i.a ∧ i.a < nr) (hb : i.kind = 1 ∨ i.kind = 2 → 0 ≤ i.b ∧ i.b < nr) (hc : i.kind = 2 → 0 ≤ i.c ∧ i.c < nr) (ho : i.kind = 2 → 0 ≤ i.k ∧ i.k < 16) :
    Calls Tryz.prog 23 #[.slice (some ⟨G, 0, none⟩) nr nr, .agg #[.int .i64 i.kind, .int .i64 i.a, .int .i64 i.b, .int .i64 i.c, .int .i64 i.k]] w fun e' w' => e' = .returned (.tuple #[]) ∧ IsL w' G ((computeT t i).regs.take nr) ∧ Keeps (· = G) w w' := by
  have hl : (t.regs.take nr).length = nr := by simp; omega
  obtain ⟨K, A, B, C, k⟩ := i
  simp only at hk ha hb hc ho ⊢
  rcases hk with rfl | rfl | rfl | rfl
  · obtain ⟨a, rfl⟩ := Int.eq_ofNat_of_zero_le (ha (by decide)).1
    have q := dp0 G nr _ a B C k w h hl (by have := (ha (by decide)).2; omega)
    rw [← List.take_set] at q
    exact q
  · have hb := hb (.inl rfl)
    obtain ⟨a, rfl⟩ := Int.eq_ofNat_of_zero_le (ha (by decide)).1
    obtain ⟨b, rfl⟩ := Int.eq_ofNat_of_zero_le hb.1
    have q := dp1 G nr _ a b C k _ w h hl (by have := (ha (by decide)).2; omega) (take_at (by omega) (by omega))
    rw [← List.take_set] at q
    exact q
  · have hb := hb (.inr rfl)
    have hc := hc rfl
    obtain ⟨a, rfl⟩ := Int.eq_ofNat_of_zero_le (ha (by decide)).1
    obtain ⟨b, rfl⟩ := Int.eq_ofNat_of_zero_le hb.1
    obtain ⟨c, rfl⟩ := Int.eq_ofNat_of_zero_le hc.1
    have q := dp2 G nr _ a b c k _ _ w h hl (by have := (ha (by decide)).2; omega) (take_at (a := b) (by omega) (by omega)) (take_at (a := c) (by omega) (by omega)) (by have := ho rfl; simp [isOpV, this.1, this.2]) (getD_ok hok _) (getD_ok hok _)
    rw [← List.take_set] at q
    exact q
  · exact dp6 G nr _ A B C k w h
end Go.Proofs.YtbdpdojeaahpjaaGreatDoor
/-! A run traced, plainly: how far each node lies from the beginning. -/
namespace Go.Proofs.YtbdpdojeaahpjaaGreatDoor
set_option linter.unusedVariables false
set_option maxRecDepth 20000
open Go.RowKit Go.PlainOps

theorem getD_app {α : Type} {l m : List α} {k : Nat} (d : α) (h : k < l.length) : (l ++ m).getD k d = l.getD k d := by
  rw [List.getD_eq_getElem?_getD, List.getD_eq_getElem?_getD, List.getElem?_append_left h]
theorem getD_appR {α : Type} {l : List α} {x : α} (d : α) {k : Nat} (h : k = l.length) : (l ++ [x]).getD k d = x := by
  subst h
  rw [List.getD_eq_getElem?_getD, List.getElem?_append_right (Nat.le_refl _)]
  simp
theorem getD_set {α : Type} {l : List α} {k j : Nat} {x : α} (d : α) : (l.set k x).getD j d = if k = j ∧ j < l.length then x else l.getD j d := by
  rw [List.getD_eq_getElem?_getD, List.getD_eq_getElem?_getD, List.getElem?_set]
  by_cases h : k = j
  · subst h
    by_cases h2 : k < l.length
    · simp [h2]
    · simp [h2]
  · simp [h]
/-- How far a node lies, itself counted: one more than the farthest that it waits for. -/
structure Dst (T : Trc) (D : List Int) : Prop where
  len : D.length = T.n
  edge : ∀ e ∈ T.es, e.1 < e.2 ∧ e.2 < T.n
  low : ∀ e ∈ T.es, D.getD e.1 0 + 1 ≤ D.getD e.2 0
  hit : ∀ k < T.n, D.getD k 0 = 1 ∨ ∃ e ∈ T.es, e.2 = k ∧ D.getD k 0 = D.getD e.1 0 + 1
theorem mark_n (T : Trc) (m : Nat) (par : Option Nat) (i : Ins) (fr : List Nat) : (markT T m par i fr).n = T.n + 1 := by
  unfold markT; cases par <;> simp only <;> (repeat' split) <;> rfl
theorem mark_es (T : Trc) (m : Nat) (par : Option Nat) (i : Ins) (fr : List Nat) : (markT T m par i fr).es = T.es ++ fr.map (fun f => (f, T.n)) := by
  unfold markT; cases par <;> simp only <;> (repeat' split) <;> rfl
theorem mark_lasts (T : Trc) (m : Nat) (par : Option Nat) (i : Ins) (fr : List Nat) : (markT T m par i fr).lasts = T.lasts.set m T.n := by
  unfold markT; cases par <;> simp only <;> (repeat' split) <;> rfl
theorem mark_ends (T : Trc) (m : Nat) (par : Option Nat) (i : Ins) (fr : List Nat) (h9 : i.kind ≠ 9) : (markT T m par i fr).ends = T.ends := by
  unfold markT; cases par <;> simp only [if_neg h9]
theorem mark_ends9 (T : Trc) (m p : Nat) (i : Ins) (fr : List Nat) (h9 : i.kind = 9) : (markT T m (some p) i fr).ends = T.ends.set p (T.ends.getD p [] ++ [T.n]) := by
  unfold markT; simp only [if_pos h9]
theorem Dst.mark {T : Trc} {D : List Int} (h : Dst T D) (m : Nat) (par : Option Nat) (i : Ins) {fr : List Nat} {d : Int} (hf : ∀ f ∈ fr, f < T.n) (h1 : ∀ f ∈ fr, D.getD f 0 + 1 ≤ d) (h2 : d = 1 ∨ ∃ f ∈ fr, d = D.getD f 0 + 1) : Dst (markT T m par i fr) (D ++ [d]) := by
  have hl := h.len
  have hold : ∀ k, k < T.n → (D ++ [d]).getD k 0 = D.getD k 0 := fun k hk => getD_app 0 (by omega)
  have hnew : (D ++ [d]).getD T.n 0 = d := getD_appR 0 hl.symm
  refine ⟨?_, ?_, ?_, ?_⟩
  · rw [mark_n, List.length_append, hl]; rfl
  · rw [mark_es, mark_n]
    intro e he
    rcases List.mem_append.1 he with he | he
    · have := h.edge e he; omega
    · obtain ⟨f, hfm, rfl⟩ := List.mem_map.1 he
      have := hf f hfm
      exact ⟨this, Nat.lt_succ_self _⟩
  · rw [mark_es]
    intro e he
    rcases List.mem_append.1 he with he | he
    · have := h.edge e he
      rw [hold _ (by omega), hold _ (by omega)]
      exact h.low e he
    · obtain ⟨f, hfm, rfl⟩ := List.mem_map.1 he
      show (D ++ [d]).getD f 0 + 1 ≤ (D ++ [d]).getD T.n 0
      rw [hold _ (hf f hfm), hnew]
      exact h1 f hfm
  · rw [mark_es, mark_n]
    intro k hk
    by_cases hkn : k < T.n
    · rw [hold _ hkn]
      rcases h.hit k hkn with e | ⟨e, he, e1, e2⟩
      · exact .inl e
      · have := h.edge e he
        exact .inr ⟨e, List.mem_append.2 (.inl he), e1, by rw [hold _ (by omega)]; exact e2⟩
    · have hk' : k = T.n := by omega
      subst hk'
      rw [hnew]
      rcases h2 with e | ⟨f, hfm, e⟩
      · exact .inl e
      · exact .inr ⟨(f, T.n), List.mem_append.2 (.inr (List.mem_map.2 ⟨f, hfm, rfl⟩)), rfl, by show d = (D ++ [d]).getD f 0 + 1; rw [hold _ (hf f hfm)]; exact e⟩

/-- A task under way: its last node, and the ends of its children that it has not waited for. -/
structure Owes (T : Trc) (D : List Int) (m : Nat) (T0 span due : Int) (out : Prop) : Prop where
  cap : ∀ e ∈ T.ends.getD m [], e < T.n ∧ D.getD e 0 ≤ T0 + due
  hit : (∃ e ∈ T.ends.getD m [], D.getD e 0 = T0 + due) ∨ due + 1 ≤ span ∨ due = 0
  pend : T.ends.getD m [] ≠ [] → out
  nn : 0 ≤ T0 ∧ 0 ≤ span ∧ 0 ≤ due
/-- Ahead of an instruction: 'b' is what it waits for, but for children. -/
structure Ready (T : Trc) (D : List Int) (m tasks : Nat) (T0 span due : Int) (out : Prop) (b : List Nat) : Prop where
  dst : Dst T D
  lens : T.lasts.length = tasks ∧ T.ends.length = tasks
  m_lt : m < tasks
  base : (b = [] ∧ T0 + span = 0 ∧ T.ends.getD m [] = []) ∨ ∃ x, b = [x] ∧ x < T.n ∧ D.getD x 0 = T0 + span
  owes : Owes T D m T0 span due out
structure Going (T : Trc) (D : List Int) (m tasks : Nat) (T0 span due : Int) (out : Prop) : Prop where
  dst : Dst T D
  lens : T.lasts.length = tasks ∧ T.ends.length = tasks
  m_lt : m < tasks
  last : T.lasts.getD m 0 < T.n
  dist : D.getD (T.lasts.getD m 0) 0 = T0 + span
  owes : Owes T D m T0 span due out
theorem Going.ready {T : Trc} {D : List Int} {m tasks : Nat} {T0 span due : Int} {out : Prop} (h : Going T D m tasks T0 span due out) : Ready T D m tasks T0 span due out [T.lasts.getD m 0] :=
  ⟨h.dst, h.lens, h.m_lt, .inr ⟨_, rfl, h.last, h.dist⟩, h.owes⟩
def upL (T : Trc) : Option Nat → List Nat
  | some p => [T.lasts.getD p 0]
  | none => []
structure Fresh (T : Trc) (D : List Int) (m tasks : Nat) (par : Option Nat) (T0 : Int) : Prop where
  dst : Dst T D
  lens : T.lasts.length = m ∧ T.ends.length = m
  tasks : tasks = m + 1
  t0 : 0 ≤ T0
  root : par = none → T.n = 0 ∧ T0 = 0
  child : ∀ p, par = some p → p < m ∧ T.lasts.getD p 0 < T.n ∧ D.getD (T.lasts.getD p 0) 0 = T0
theorem Fresh.ready {T : Trc} {D : List Int} {m tasks : Nat} {par : Option Nat} {T0 : Int} (h : Fresh T D m tasks par T0) (out : Prop) : Ready (openT T 0) D m tasks T0 0 0 out (upL T par) := by
  have he : (openT T 0).ends.getD m [] = [] := by
    show (T.ends ++ [[]]).getD m [] = []
    exact getD_appR [] h.lens.2.symm
  refine ⟨⟨h.dst.len, h.dst.edge, h.dst.low, h.dst.hit⟩, ⟨?_, ?_⟩, ?_, ?_, ?_⟩
  · show (T.lasts ++ [0]).length = tasks
    rw [List.length_append, h.lens.1, h.tasks]; rfl
  · show (T.ends ++ [[]]).length = tasks
    rw [List.length_append, h.lens.2, h.tasks]; rfl
  · have := h.tasks; omega
  · cases par with
    | none => exact .inl ⟨rfl, by have := (h.root rfl).2; omega, he⟩
    | some p =>
      obtain ⟨h1, h2, h3⟩ := h.child p rfl
      exact .inr ⟨_, rfl, h2, by rw [h3]; omega⟩
  · refine ⟨fun e hm => ?_, .inr (.inr rfl), fun hh => absurd he hh, ⟨h.t0, Int.le_refl _, Int.le_refl _⟩⟩
    rw [he] at hm; cases hm
/-- An instruction that neither waits nor ends. -/
theorem Ready.step {T : Trc} {D : List Int} {m tasks : Nat} {T0 span due : Int} {out : Prop} {b : List Nat} (h : Ready T D m tasks T0 span due out b) (par : Option Nat) {i : Ins} (h9 : i.kind ≠ 9) :
    Going (markT T m par i b) (D ++ [T0 + span + 1]) m tasks T0 (span + 1) due out := by
  have hl := h.dst.len
  have hd : Dst (markT T m par i b) (D ++ [T0 + span + 1]) := by
    refine h.dst.mark m par i ?_ ?_ ?_
    · rcases h.base with ⟨rfl, _⟩ | ⟨x, rfl, hx, _⟩
      · intro f hf; cases hf
      · intro f hf; rw [List.mem_singleton.1 hf]; exact hx
    · rcases h.base with ⟨rfl, _⟩ | ⟨x, rfl, hx, e⟩
      · intro f hf; cases hf
      · intro f hf; rw [List.mem_singleton.1 hf, e]; exact Int.le_refl _
    · rcases h.base with ⟨rfl, e, _⟩ | ⟨x, rfl, hx, e⟩
      · left; omega
      · right; exact ⟨x, List.mem_singleton.2 rfl, by rw [e]⟩
  refine ⟨hd, ?_, h.m_lt, ?_, ?_, ?_⟩
  · rw [mark_lasts, mark_ends _ _ _ _ _ h9, List.length_set]; exact h.lens
  · rw [mark_lasts, mark_n, getD_set, if_pos ⟨rfl, by rw [h.lens.1]; exact h.m_lt⟩]; exact Nat.lt_succ_self _
  · rw [mark_lasts, getD_set, if_pos ⟨rfl, by rw [h.lens.1]; exact h.m_lt⟩, getD_appR 0 hl.symm]; omega
  · refine ⟨?_, ?_, ?_, ?_⟩
    · rw [mark_ends _ _ _ _ _ h9, mark_n]
      intro e he
      obtain ⟨h1, h2⟩ := h.owes.cap e he
      exact ⟨by omega, by rw [getD_app 0 (by omega)]; exact h2⟩
    · rw [mark_ends _ _ _ _ _ h9]
      rcases h.owes.hit with ⟨e, he, e2⟩ | e | e
      · exact .inl ⟨e, he, by rw [getD_app 0 (by have := (h.owes.cap e he).1; omega)]; exact e2⟩
      · exact .inr (.inl (by omega))
      · exact .inr (.inr e)
    · rw [mark_ends _ _ _ _ _ h9]; exact h.owes.pend
    · have := h.owes.nn; exact ⟨this.1, by omega, this.2.2⟩
theorem mem_sortN {l : List Nat} {x : Nat} : x ∈ sortN l ↔ x ∈ l := by unfold sortN; exact List.mem_mergeSort
theorem imax_l (a b : Int) : a ≤ imax a b := by unfold imax; split <;> omega
theorem imax_r (a b : Int) : b ≤ imax a b := by unfold imax; split <;> omega
theorem imax_or (a b : Int) : imax a b = a ∨ imax a b = b := by unfold imax; split; exact .inr rfl; exact .inl rfl
/-- An instruction that waits. -/
theorem Ready.wait {T : Trc} {D : List Int} {m tasks : Nat} {T0 span due : Int} {out : Prop} {b : List Nat} (h : Ready T D m tasks T0 span due out b) (par : Option Nat) {i : Ins} (h6 : i.kind = 6) (out2 : Prop) :
    Going (markT (clearT T m i) m par i (sortN (b ++ T.ends.getD m []))) (D ++ [T0 + imax (span + 1) (due + 1)]) m tasks T0 (imax (span + 1) (due + 1)) due out2 := by
  have hl := h.dst.len
  have hnn := h.owes.nn
  have ec : clearT T m i = { T with ends := T.ends.set m [] } := by unfold clearT; rw [if_pos h6]
  have hdc : Dst (clearT T m i) D := by rw [ec]; exact ⟨h.dst.len, h.dst.edge, h.dst.low, h.dst.hit⟩
  have hn : (clearT T m i).n = T.n := by rw [ec]
  have hla : (clearT T m i).lasts = T.lasts := by rw [ec]
  have hen : (clearT T m i).ends = T.ends.set m [] := by rw [ec]
  have h9 : i.kind ≠ 9 := by omega
  have L := imax_l (span + 1) (due + 1)
  have R := imax_r (span + 1) (due + 1)
  have O := imax_or (span + 1) (due + 1)
  have hd : Dst (markT (clearT T m i) m par i (sortN (b ++ T.ends.getD m []))) (D ++ [T0 + imax (span + 1) (due + 1)]) := by
    refine hdc.mark m par i ?_ ?_ ?_
    · intro f hf
      rw [mem_sortN, List.mem_append] at hf
      rw [hn]
      rcases hf with hf | hf
      · rcases h.base with ⟨rfl, _⟩ | ⟨x, rfl, hx, e⟩
        · cases hf
        · rw [List.mem_singleton.1 hf]; exact hx
      · exact (h.owes.cap f hf).1
    · intro f hf
      rw [mem_sortN, List.mem_append] at hf
      rcases hf with hf | hf
      · rcases h.base with ⟨rfl, _⟩ | ⟨x, rfl, hx, e⟩
        · cases hf
        · rw [List.mem_singleton.1 hf, e]; omega
      · have := (h.owes.cap f hf).2; omega
    · rcases h.base with ⟨rfl, e0, e1⟩ | ⟨x, rfl, hx, e⟩
      · left
        have hh := h.owes.hit
        rw [e1] at hh
        rcases hh with ⟨_, hm, _⟩ | hh | hh
        · cases hm
        · omega
        · rw [hh] at O ⊢; omega
      · right
        by_cases hle : due ≤ span
        · exact ⟨x, mem_sortN.2 (List.mem_append.2 (.inl (List.mem_singleton.2 rfl))), by rw [e]; omega⟩
        · rcases h.owes.hit with ⟨f, hf, e2⟩ | e2 | e2
          · exact ⟨f, mem_sortN.2 (List.mem_append.2 (.inr hf)), by rw [e2]; omega⟩
          · omega
          · omega
  have hem : (markT (clearT T m i) m par i (sortN (b ++ T.ends.getD m []))).ends.getD m [] = [] := by
    rw [mark_ends _ _ _ _ _ h9, hen, getD_set, if_pos ⟨rfl, by rw [h.lens.2]; exact h.m_lt⟩]
  refine ⟨hd, ?_, h.m_lt, ?_, ?_, ?_⟩
  · rw [mark_lasts, mark_ends _ _ _ _ _ h9, hla, hen, List.length_set, List.length_set]; exact h.lens
  · rw [mark_lasts, mark_n, hla, hn, getD_set, if_pos ⟨rfl, by rw [h.lens.1]; exact h.m_lt⟩]; exact Nat.lt_succ_self _
  · rw [mark_lasts, hla, hn, getD_set, if_pos ⟨rfl, by rw [h.lens.1]; exact h.m_lt⟩, getD_appR 0 hl.symm]
  · refine ⟨?_, ?_, ?_, ?_⟩
    · rw [hem]; intro e he; cases he
    · exact .inr (.inl R)
    · rw [hem]; intro hh; exact absurd rfl hh
    · exact ⟨hnn.1, by omega, hnn.2.2⟩
end Go.Proofs.YtbdpdojeaahpjaaGreatDoor
/-! A run traced, plainly: the longest way is the span, the edges are counted by work and tasks. -/
namespace Go.Proofs.YtbdpdojeaahpjaaGreatDoor
set_option linter.unusedVariables false
set_option maxRecDepth 20000
open Go.RowKit Go.PlainOps

def rootW (par : Option Nat) (w : Int) : Nat := if par = none ∧ w = 0 then 1 else 0
/-- A task before an instruction. -/
structure Stt (T : Trc) (D : List Int) (m tasks : Nat) (t : Tk) (par : Option Nat) (T0 : Int) (out : Prop) : Prop where
  up : ∀ p, par = some p → p < m
  is : (t.node.work = 0 ∧ t.span = 0 ∧ t.due = 0 ∧ Fresh T D m tasks par T0) ∨ (1 ≤ t.node.work ∧ Going T D m tasks T0 t.span t.due out)
structure Opened (T : Trc) (D : List Int) (m tasks : Nat) (t : Tk) (par : Option Nat) (T0 : Int) (out : Prop) (b : List Nat) : Prop where
  ready : Ready (openT T t.node.work) D m tasks T0 t.span t.due out b
  froms : ∀ i, fromsV (openT T t.node.work) m t.node.work par i = if i.kind = 6 then sortN (b ++ (openT T t.node.work).ends.getD m []) else b
  len : b.length + rootW par t.node.work = 1
  lasts : ∀ j, j < m → (openT T t.node.work).lasts.getD j 0 = T.lasts.getD j 0
  ends : ∀ j, j ≤ m → (openT T t.node.work).ends.getD j [] = T.ends.getD j []
  n : (openT T t.node.work).n = T.n
  es : (openT T t.node.work).es = T.es
  going : 1 ≤ t.node.work → T.lasts.getD m 0 ∈ b
  some_ : 0 < T.n → b ≠ []
theorem Stt.opened {T : Trc} {D : List Int} {m tasks : Nat} {t : Tk} {par : Option Nat} {T0 : Int} {out : Prop} (h : Stt T D m tasks t par T0 out) : ∃ b, Opened T D m tasks t par T0 out b := by
  rcases h.is with ⟨w0, s0, d0, hF⟩ | ⟨w1, hG⟩
  · refine ⟨upL T par, ?_, ?_, ?_, ?_, ?_, ?_, ?_, ?_, ?_⟩
    · rw [w0, s0, d0]; exact hF.ready out
    · intro i
      rw [w0]
      cases par with
      | none => unfold fromsV; simp only [if_true]; rfl
      | some p =>
        have e : (openT T 0).lasts.getD p 0 = T.lasts.getD p 0 := by rw [show (openT T 0).lasts = T.lasts ++ [0] from rfl, getD_app 0 (by have := hF.child p rfl; have := hF.lens; omega)]
        unfold fromsV
        simp only [if_true, e]
        rfl
    · rw [w0]; cases par <;> rfl
    · intro j hj
      rw [w0, show (openT T 0).lasts = T.lasts ++ [0] from rfl, getD_app 0 (by have := hF.lens; omega)]
    · intro j hj
      rw [w0, show (openT T 0).ends = T.ends ++ [[]] from rfl]
      by_cases hjm : j < m
      · rw [getD_app [] (by have := hF.lens; omega)]
      · have e : j = T.ends.length := by have := hF.lens; omega
        rw [getD_appR [] e, List.getD_eq_getElem?_getD, List.getElem?_eq_none (by omega)]; rfl
    · rw [w0]; rfl
    · rw [w0]; rfl
    · intro hh; omega
    · intro hh
      cases par with
      | none => have := (hF.root rfl).1; omega
      | some p => exact List.cons_ne_nil _ _
  · have e : openT T t.node.work = T := by unfold openT; rw [if_neg (by omega)]
    refine ⟨[T.lasts.getD m 0], ?_, ?_, ?_, ?_, ?_, ?_, ?_, ?_, ?_⟩
    · rw [e]; exact hG.ready
    · intro i
      rw [e]
      unfold fromsV
      simp only [if_neg (show ¬ t.node.work = 0 by omega)]
    · unfold rootW; rw [if_neg (by omega)]; rfl
    · intro j hj; rw [e]
    · intro j hj; rw [e]
    · rw [e]
    · rw [e]
    · intro _; exact List.mem_singleton.2 rfl
    · intro _; exact List.cons_ne_nil _ _
theorem clear_ne (T : Trc) (m : Nat) {i : Ins} (h : i.kind ≠ 6) : clearT T m i = T := by unfold clearT; rw [if_neg h]
/-- What lies below a task stays. -/
structure Kept (T T1 : Trc) (m : Nat) (par : Option Nat) : Prop where
  lasts : ∀ j, j < m → T1.lasts.getD j 0 = T.lasts.getD j 0
  ends : ∀ j, j < m → par ≠ some j → T1.ends.getD j [] = T.ends.getD j []
theorem Stt.step {T : Trc} {D : List Int} {m tasks : Nat} {t : Tk} {par : Option Nat} {T0 : Int} {out : Prop} (h : Stt T D m tasks t par T0 out) {i : Ins} (h6 : i.kind ≠ 6) (h9 : i.kind ≠ 9) :
    Going (addV T m t.node.work par i) (D ++ [T0 + t.span + 1]) m tasks T0 (t.span + 1) t.due out ∧ (∀ j, j < m → (addV T m t.node.work par i).lasts.getD j 0 = T.lasts.getD j 0) ∧ (∀ j, j ≤ m → (addV T m t.node.work par i).ends.getD j [] = T.ends.getD j []) ∧ (addV T m t.node.work par i).es.length + rootW par t.node.work = T.es.length + 1 := by
  obtain ⟨b, O⟩ := h.opened
  have e : addV T m t.node.work par i = markT (openT T t.node.work) m par i b := by
    unfold addV; rw [clear_ne _ _ h6, O.froms, if_neg h6]
  rw [e]
  refine ⟨O.ready.step par h9, fun j hj => ?_, fun j hj => ?_, ?_⟩
  · rw [mark_lasts, getD_set, if_neg (by omega), O.lasts j hj]
  · rw [mark_ends _ _ _ _ _ h9, O.ends j hj]
  · rw [mark_es, List.length_append, List.length_map, O.es]; have := O.len; omega
theorem Stt.wait {T : Trc} {D : List Int} {m tasks : Nat} {t : Tk} {par : Option Nat} {T0 : Int} {out : Prop} (h : Stt T D m tasks t par T0 out) {i : Ins} (h6 : i.kind = 6) (out2 : Prop) :
    Going (addV T m t.node.work par i) (D ++ [T0 + imax (t.span + 1) (t.due + 1)]) m tasks T0 (imax (t.span + 1) (t.due + 1)) t.due out2 ∧ (∀ j, j < m → (addV T m t.node.work par i).lasts.getD j 0 = T.lasts.getD j 0) ∧ (∀ j, j < m → (addV T m t.node.work par i).ends.getD j [] = T.ends.getD j []) ∧ (addV T m t.node.work par i).ends.getD m [] = [] ∧ (addV T m t.node.work par i).es.length + rootW par t.node.work = T.es.length + 1 + (T.ends.getD m []).length := by
  obtain ⟨b, O⟩ := h.opened
  have h9 : i.kind ≠ 9 := by omega
  have e : addV T m t.node.work par i = markT (clearT (openT T t.node.work) m i) m par i (sortN (b ++ (openT T t.node.work).ends.getD m [])) := by
    unfold addV; rw [O.froms, if_pos h6]
  have ec : clearT (openT T t.node.work) m i = { openT T t.node.work with ends := (openT T t.node.work).ends.set m [] } := by unfold clearT; rw [if_pos h6]
  have hR := O.ready.wait par h6 out2
  rw [e]
  refine ⟨hR, fun j hj => ?_, fun j hj => ?_, ?_, ?_⟩
  · rw [mark_lasts, getD_set, if_neg (by omega), ec]; exact O.lasts j hj
  · rw [mark_ends _ _ _ _ _ h9, ec]
    show ((openT T t.node.work).ends.set m []).getD j [] = _
    rw [getD_set, if_neg (by omega), O.ends j (by omega)]
  · rw [mark_ends _ _ _ _ _ h9, ec]
    show ((openT T t.node.work).ends.set m []).getD m [] = _
    rw [getD_set, if_pos ⟨rfl, by rw [O.ready.lens.2]; exact O.ready.m_lt⟩]
  · rw [mark_es, List.length_append, List.length_map, ec]
    show (openT T t.node.work).es.length + _ + _ = _
    rw [O.es, sortN, List.length_mergeSort, List.length_append, O.ends m (Nat.le_refl _)]
    have := O.len
    omega
theorem Stt.ret {T : Trc} {D : List Int} {m tasks : Nat} {t : Tk} {par : Option Nat} {T0 : Int} {out : Prop} (h : Stt T D m tasks t par T0 out) {i : Ins} (h9 : i.kind = 9) :
    Dst (addV T m t.node.work par i) (D ++ [T0 + t.span + 1]) ∧ (addV T m t.node.work par i).n = T.n + 1 ∧ ((addV T m t.node.work par i).lasts.length = tasks ∧ (addV T m t.node.work par i).ends.length = tasks) ∧ Kept T (addV T m t.node.work par i) m par ∧ (∀ p, par = some p → (addV T m t.node.work par i).ends.getD p [] = T.ends.getD p [] ++ [T.n]) ∧ (addV T m t.node.work par i).es.length + rootW par t.node.work = T.es.length + 1 := by
  obtain ⟨b, O⟩ := h.opened
  have h6 : i.kind ≠ 6 := by omega
  have e : addV T m t.node.work par i = markT (openT T t.node.work) m par i b := by
    unfold addV; rw [clear_ne _ _ h6, O.froms, if_neg h6]
  -- the distances do not look at what ends: as for an instruction that goes on
  have hd := (O.ready.step par (i := ⟨0, 0, 0, 0, 0⟩) (by decide)).dst
  have hd' : Dst (markT (openT T t.node.work) m par i b) (D ++ [T0 + t.span + 1]) := ⟨by rw [hd.len, mark_n, mark_n], fun x hx => by rw [mark_es] at hx; rw [mark_n]; have := hd.edge x (by rw [mark_es]; exact hx); rw [mark_n] at this; exact this, fun x hx => by rw [mark_es] at hx; exact hd.low x (by rw [mark_es]; exact hx), fun k hk => by rw [mark_n] at hk; have := hd.hit k (by rw [mark_n]; exact hk); rw [mark_es] at this ⊢; exact this⟩
  rw [e]
  have hL := O.ready.lens
  refine ⟨hd', by rw [mark_n, O.n], ⟨by rw [mark_lasts, List.length_set]; exact hL.1, ?_⟩, ⟨fun j hj => ?_, fun j hj hp => ?_⟩, fun p hp => ?_, ?_⟩
  · cases par with
    | none => exact hL.2
    | some p => rw [mark_ends9 _ _ _ _ _ h9, List.length_set]; exact hL.2
  · rw [mark_lasts, getD_set, if_neg (by omega), O.lasts j hj]
  · cases par with
    | none => exact O.ends j (by omega)
    | some p =>
      rw [mark_ends9 _ _ _ _ _ h9, getD_set, if_neg (by rintro ⟨rfl, _⟩; exact hp rfl), O.ends j (by omega)]
  · subst hp
    have := h.up p rfl
    rw [mark_ends9 _ _ _ _ _ h9, getD_set, if_pos ⟨rfl, by rw [hL.2]; have := O.ready.m_lt; omega⟩, O.ends p (by omega), O.n]
  · rw [mark_es, List.length_append, List.length_map, O.es]; have := O.len; omega
/-- What an instruction adds. -/
structure Adds (T T1 : Trc) (m : Nat) (work : Int) : Prop where
  sub : ∀ x ∈ T.es, x ∈ T1.es
  last : T1.lasts.getD m 0 = T.n
  fedL : 1 ≤ work → ∃ x ∈ T1.es, x.1 = T.lasts.getD m 0
  ins : 0 < T.n → ∃ x ∈ T1.es, x.2 = T.n
theorem Stt.adds {T : Trc} {D : List Int} {m tasks : Nat} {t : Tk} {par : Option Nat} {T0 : Int} {out : Prop} (h : Stt T D m tasks t par T0 out) (i : Ins) :
    Adds T (addV T m t.node.work par i) m t.node.work ∧ (i.kind = 6 → ∀ k ∈ T.ends.getD m [], ∃ x ∈ (addV T m t.node.work par i).es, x.1 = k) := by
  obtain ⟨b, O⟩ := h.opened
  have hcn : (clearT (openT T t.node.work) m i).n = T.n := by unfold clearT; split <;> exact O.n
  have hce : (clearT (openT T t.node.work) m i).es = T.es := by unfold clearT; split <;> exact O.es
  have hcl : (clearT (openT T t.node.work) m i).lasts.length = tasks := by unfold clearT; split <;> exact O.ready.lens.1
  have hes : (addV T m t.node.work par i).es = T.es ++ (fromsV (openT T t.node.work) m t.node.work par i).map (fun f => (f, T.n)) := by
    unfold addV; rw [mark_es, hce, hcn]
  have hfr : ∀ k, k ∈ b → k ∈ fromsV (openT T t.node.work) m t.node.work par i := fun k hk => by
    rw [O.froms]
    split
    · exact mem_sortN.2 (List.mem_append.2 (.inl hk))
    · exact hk
  refine ⟨⟨fun x hx => ?_, ?_, fun hw => ?_, fun hn => ?_⟩, fun h6 k hk => ?_⟩
  · rw [hes]; exact List.mem_append.2 (.inl hx)
  · unfold addV
    rw [mark_lasts, getD_set, if_pos ⟨rfl, by rw [hcl]; exact O.ready.m_lt⟩, hcn]
  · rw [hes]
    exact ⟨(T.lasts.getD m 0, T.n), List.mem_append.2 (.inr (List.mem_map.2 ⟨_, hfr _ (O.going hw), rfl⟩)), rfl⟩
  · rw [hes]
    obtain ⟨x, hx⟩ := List.exists_mem_of_ne_nil b (O.some_ hn)
    exact ⟨(x, T.n), List.mem_append.2 (.inr (List.mem_map.2 ⟨_, hfr _ hx, rfl⟩)), rfl⟩
  · rw [hes]
    refine ⟨(k, T.n), List.mem_append.2 (.inr (List.mem_map.2 ⟨k, ?_, rfl⟩)), rfl⟩
    rw [O.froms, if_pos h6, O.ends m (Nat.le_refl _)]
    exact mem_sortN.2 (List.mem_append.2 (.inr hk))
end Go.Proofs.YtbdpdojeaahpjaaGreatDoor
/-! A run traced, plainly: the whole walk. -/
namespace Go.Proofs.YtbdpdojeaahpjaaGreatDoor
set_option linter.unusedVariables false
set_option maxRecDepth 20000
open Go.RowKit Go.PlainOps

/-- What a task leaves behind, from an instruction on to its end. -/
structure Left (T T2 : Trc) (D more : List Int) (m : Nat) (par : Option Nat) (T0 : Int) (t : Tk) (sp : Int) (s s2 : Rn) : Prop where
  dst : Dst T2 (D ++ more)
  fuel : T2.n + s2.fuel = T.n + s.fuel
  lens : T2.lasts.length = s2.tasks ∧ T2.ends.length = s2.tasks
  kept : Kept T T2 m par
  fin : ∃ e, e + 1 = T2.n ∧ (D ++ more).getD e 0 = T0 + sp ∧ ∀ p, par = some p → T2.ends.getD p [] = T.ends.getD p [] ++ [e]
  top : ∀ x ∈ more, x ≤ T0 + sp
  span : t.span + 1 ≤ sp
  due : t.due ≤ sp
  es : T2.es.length + rootW par t.node.work + s.tasks + T.n = T.es.length + T2.n + s2.tasks + (T.ends.getD m []).length
  tasks : s.tasks ≤ s2.tasks
  sub : ∀ x ∈ T.es, x ∈ T2.es
  outs : ∀ k, T.n ≤ k → k + 1 < T2.n → ∃ x ∈ T2.es, x.1 = k
  fedE : ∀ k ∈ T.ends.getD m [], ∃ x ∈ T2.es, x.1 = k
  fedL : 1 ≤ t.node.work → ∃ x ∈ T2.es, x.1 = T.lasts.getD m 0
  ins : ∀ k, T.n ≤ k → k < T2.n → 0 < k → ∃ x ∈ T2.es, x.2 = k
  most : T.n + s2.tasks + 1 ≤ T2.n + s.tasks
theorem add_n (T : Trc) (num : Nat) (work : Int) (par : Option Nat) (i : Ins) : (addV T num work par i).n = T.n + 1 := by
  unfold addV; rw [mark_n]
  unfold clearT openT
  (repeat' split) <;> rfl
/-- One instruction that neither spawns, waits nor ends, ahead of what is left. -/
theorem Left.after {T T2 : Trc} {D more : List Int} {m : Nat} {par : Option Nat} {T0 d : Int} {t t1 : Tk} {sp : Int} {s s1 s2 : Rn} {work : Int} {i : Ins} {out : Prop} (h : Left (addV T m work par i) T2 (D ++ [d]) more m par T0 t1 sp s1 s2)
    (hf : s1.fuel + 1 = s.fuel) (ht : s1.tasks = s.tasks) (hd : d ≤ T0 + t1.span) (hsp : t.span ≤ t1.span) (hdu : t.due ≤ t1.due)
    (hl : ∀ j, j < m → (addV T m work par i).lasts.getD j 0 = T.lasts.getD j 0) (he : ∀ j, j < m → (addV T m work par i).ends.getD j [] = T.ends.getD j []) (hup : ∀ p, par = some p → p < m)
    (hw : rootW par t1.node.work = 0) (hes : (addV T m work par i).es.length + rootW par t.node.work + ((addV T m work par i).ends.getD m []).length = T.es.length + 1 + (T.ends.getD m []).length)
    (hA : Adds T (addV T m work par i) m t.node.work) (hE : ∀ k ∈ T.ends.getD m [], k ∈ (addV T m work par i).ends.getD m [] ∨ ∃ x ∈ (addV T m work par i).es, x.1 = k) (h1 : 1 ≤ t1.node.work) : Left T T2 D (d :: more) m par T0 t sp s s2 := by
  have hn := add_n T m work par i
  have hF := h.fuel
  have hS := h.span
  have hD := h.due
  refine ⟨?_, ?_, h.lens, ⟨fun j hj => (h.kept.lasts j hj).trans (hl j hj), fun j hj hp => (h.kept.ends j hj hp).trans (he j hj)⟩, ?_, ?_, ?_, ?_, ?_, ?_, fun x hx => h.sub x (hA.sub x hx), ?_, ?_, ?_, ?_, by have := h.most; omega⟩
  · have := h.dst; rwa [List.append_assoc] at this
  · omega
  · obtain ⟨e, h1, h2, h3⟩ := h.fin
    refine ⟨e, h1, by rw [List.append_assoc] at h2; exact h2, fun p hp => ?_⟩
    rw [h3 p hp, he p (hup p hp)]
  · intro x hx
    rcases List.mem_cons.1 hx with rfl | hx
    · omega
    · exact h.top x hx
  · omega
  · omega
  · have := h.es; rw [hw] at this; omega
  · have := h.tasks; omega
  · intro k hk hk2
    by_cases e : k = T.n
    · obtain ⟨x, hx, ex⟩ := h.fedL h1
      exact ⟨x, hx, by rw [ex, hA.last, e]⟩
    · exact h.outs k (by omega) hk2
  · intro k hk
    rcases hE k hk with e | ⟨x, hx, ex⟩
    · exact h.fedE k e
    · exact ⟨x, h.sub x hx, ex⟩
  · intro hw2
    obtain ⟨x, hx, ex⟩ := hA.fedL hw2
    exact ⟨x, h.sub x hx, ex⟩
  · intro k hk hk2 hk0
    by_cases e : k = T.n
    · subst e
      obtain ⟨x, hx, ex⟩ := hA.ins hk0
      exact ⟨x, h.sub x hx, ex⟩
    · exact h.ins k (by omega) hk2 hk0
theorem walk_law {fs : List Fn} (hA : AllV fs) : ∀ (g : Nat) (s : Rn) (t : Tk) (at_ : Nat) (v sp : Int) (s2 : Rn), loopV fs false g s t at_ = .done v sp s2 →
    ∀ (T : Trc) (D : List Int) (t' : Tk) (par : Option Nat) (T0 : Int) (m : Nat) (sl : List Int) (f : Fn), SameT t t' → t.number = m → (0 ≤ t.node.func ∧ t.node.func < fs.length) → fs[t.node.func.toNat]? = some f → Along f (at_ : Int) sl → Stt T D m s.tasks t par T0 (1 ∈ sl) →
    ∃ T2 more, walkV fs g s.tasks T t' par at_ = some (v, s2.tasks, T2) ∧ Left T T2 D more m par T0 t sp s s2
  | 0, s, t, at_, v, sp, s2, h, T, D, t', par, T0, m, sl, f, hS, hm, hfu, hf, hal, hst => by simp [loopV] at h
  | g + 1, s, t, at_, v, sp, s2, h, T, D, t', par, T0, m, sl, f, hS, hm, hfu, hf, hal, hst => by
    have hp : SameT (payT t) (payT t') := ⟨hS.regs, hS.slots, by simp only [payT, hS.node], hS.number, hS.spawned⟩
    obtain ⟨f', hf', hfm, hcf, hV, hok⟩ := hA.fn hfu
    rw [hf] at hf'
    cases hf'
    have hmm : t'.number.toNat = m := by rw [hS.number, hm]; rfl
    have hw0 : 0 ≤ t.node.work := by rcases hst.is with ⟨e, _⟩ | ⟨e, _⟩ <;> omega
    have hnn : 0 ≤ T0 ∧ 0 ≤ t.span ∧ 0 ≤ t.due := by
      rcases hst.is with ⟨_, e1, e2, e3⟩ | ⟨_, e3⟩
      · exact ⟨e3.t0, by omega, by omega⟩
      · exact e3.owes.nn
    have hpw : ∀ w : Int, 0 ≤ w → rootW par (w + 1) = 0 := fun w hw => by unfold rootW; rw [if_neg (by omega)]
    unfold loopV at h
    unfold walkV
    rw [hS.node, hmm]
    split at h
    · cases h
    · rename_i h0
      have hfl : (payS s).fuel + 1 = s.fuel := by simp only [payS]; omega
      cases hc : (codeOf fs t.node.func)[at_]? with
      | none => rw [hc] at h; cases h
      | some i =>
        rw [hc] at h
        simp only at h ⊢
        have hi : f.code[at_]? = some i := by rw [← hcf]; exact hc
        have hi' : f.code[((at_ : Int)).toNat]? = some i := hi
        have so := step_ok hV hi
        have hcl := along_clean hV hal hi'
        -- an instruction that goes on, with the same slots
        have plain : ∀ (t1 t1' : Tk) (b : Nat), i.kind ≠ 5 → i.kind ≠ 6 → i.kind ≠ 9 → Along f (b : Int) sl → t1.node = (payT t).node → t1.span = t.span + 1 → t1.due = t.due → t1.number = t.number → SameT t1 t1' → loopV fs false g (payS s) t1 b = .done v sp s2 →
            ∃ T2 more, walkV fs g s.tasks (addV T m t.node.work par i) t1' par b = some (v, s2.tasks, T2) ∧ Left T T2 D more m par T0 t sp s s2 := by
          intro t1 t1' b k5 k6 k9 hb en es ed em hs1 hl
          obtain ⟨q1, q2, q3, q4⟩ := hst.step k6 k9
          obtain ⟨T2, more, r1, r2⟩ := walk_law hA g (payS s) t1 b v sp s2 hl _ _ t1' par T0 m sl f hs1 (by rw [em]; exact hm) (by rw [en]; exact hfu) (by rw [en]; exact hf) hb ⟨hst.up, .inr ⟨by rw [en]; show 1 ≤ t.node.work + 1; omega, by rw [es, ed]; exact q1⟩⟩
          exact ⟨T2, _, r1, r2.after (out := 1 ∈ sl) hfl rfl (by rw [es]; omega) (by omega) (by omega) q2 (fun j hj => q3 j (by omega)) hst.up (by rw [en]; exact hpw _ hw0) (by rw [q3 m (Nat.le_refl _)]; omega) (hst.adds i).1 (fun k hk => .inl (by rw [q3 m (Nat.le_refl _)]; exact hk)) (by rw [en]; show 1 ≤ t.node.work + 1; omega)⟩
        by_cases k3 : i.kind = 3
        · rw [if_pos k3] at h ⊢
          have ha := along_step hV hal hi' false (by omega)
          rw [stepSl, if_neg (by omega), if_neg (by omega), stepAt, if_pos k3, show i.a = ((i.a.toNat : Nat) : Int) by have := so.jump k3; omega] at ha
          exact plain _ _ _ (by omega) (by omega) (by omega) ha rfl rfl rfl rfl hp h
        · rw [if_neg k3] at h ⊢
          by_cases k4 : i.kind = 4
          · rw [if_pos k4] at h ⊢
            rw [hS.regs]
            refine plain _ _ _ (by omega) (by omega) (by omega) ?_ rfl rfl rfl rfl hp h
            split
            · have ha := along_step hV hal hi' false (by omega)
              rw [stepSl, if_neg (by omega), if_neg (by omega), stepAt, if_neg k3, if_neg (by simp)] at ha
              exact ha
            · have ha := along_step hV hal hi' true (by omega)
              rw [stepSl, if_neg (by omega), if_neg (by omega), stepAt, if_neg k3, if_pos ⟨k4, rfl⟩, show i.b = ((i.b.toNat : Nat) : Int) by have := so.branch k4; omega] at ha
              exact ha
          · rw [if_neg k4] at h ⊢
            by_cases k5 : i.kind = 5
            · rw [if_pos k5] at h ⊢
              split at h
              · cases h
              · split at h
                · cases h
                · rename_i v1 sp1 s1 hr
                  have hch : SameT (enterT (payS s) (childV fs (payT t) i)) (enterT ⟨0, s.tasks, 0, []⟩ (childV fs (payT t') i)) := by
                    have e1 : (childV fs (payT t') i).regs = (childV fs (payT t) i).regs := by show argsV t'.regs _ _ = argsV t.regs _ _; rw [hS.regs]
                    have e2 : (childV fs (payT t') i).node = (childV fs (payT t) i).node := by
                      show (⟨t'.number, t'.spawned, i.b, 0, pedV (payT t').node.ped t'.spawned, 0, 0⟩ : Nd) = ⟨t.number, t.spawned, i.b, 0, pedV (payT t).node.ped t.spawned, 0, 0⟩
                      rw [hS.number, hS.spawned, hp.node]
                    exact ⟨e1, rfl, by simp only [enterT, e1, e2], rfl, rfl⟩
                  obtain ⟨q1, q2, q3, q4⟩ := hst.step (i := i) (by omega) (by omega)
                  have AD := (hst.adds i).1
                  have hb := so.fn k5
                  obtain ⟨f2, hf2, _, hcf2, hV2, _⟩ := hA.fn hb
                  have hmt := q1.m_lt
                  have hfresh : Fresh (addV T m t.node.work par i) (D ++ [T0 + t.span + 1]) s.tasks (s.tasks + 1) (some m) (T0 + t.span + 1) :=
                    ⟨q1.dst, q1.lens, rfl, by omega, (fun e => nomatch e), fun p e => by cases e; exact ⟨hmt, q1.last, by rw [q1.dist]; omega⟩⟩
                  obtain ⟨T1, more1, r1, r2⟩ := walk_law hA g _ _ 0 v1 sp1 s1 hr (addV T m t.node.work par i) (D ++ [T0 + t.span + 1]) _ (some m) (T0 + t.span + 1) s.tasks (List.replicate 8 0) f2 hch rfl hb hf2 (along_start (good_of hV2.shape hV2.code) (valid_bounds hV2).2.2.1.1) ⟨fun p e => by cases e; exact hmt, .inl ⟨rfl, rfl, rfl, hfresh⟩⟩
                  have r1' : walkV fs g (s.tasks + 1) (addV T m t.node.work par i) (enterT ⟨0, s.tasks, 0, []⟩ (childV fs (payT t') i)) (some m) 0 = some (v1, s1.tasks, T1) := r1
                  rw [r1']
                  simp only
                  have ha := along_step hV hal hi' false (by omega)
                  rw [stepSl, if_pos k5, stepAt, if_neg k3, if_neg (by omega)] at ha
                  obtain ⟨e, he1, he2, he3⟩ := r2.fin
                  have he3 := he3 m rfl
                  have hlen1 := q1.dst.len
                  have hlen2 := r2.dst.len
                  have hold : ∀ k, k < (addV T m t.node.work par i).n → (D ++ [T0 + t.span + 1] ++ more1).getD k 0 = (D ++ [T0 + t.span + 1]).getD k 0 := fun k hk => getD_app 0 (by omega)
                  have hn1 : (addV T m t.node.work par i).n ≤ T1.n := by rw [← hlen1, ← hlen2, List.length_append (bs := more1)]; omega
                  have htk : s.tasks + 1 ≤ s1.tasks := r2.tasks
                  have L := imax_l t.due (t.span + 1 + sp1)
                  have R := imax_r t.due (t.span + 1 + sp1)
                  have O := imax_or t.due (t.span + 1 + sp1)
                  have hspn : 1 ≤ sp1 := r2.span
                  have hg : Going T1 (D ++ [T0 + t.span + 1] ++ more1) m s1.tasks T0 (t.span + 1) (imax t.due (t.span + 1 + sp1)) (1 ∈ sl.set i.a.toNat 1) := by
                    have el : T1.lasts.getD m 0 = (addV T m t.node.work par i).lasts.getD m 0 := r2.kept.lasts m hmt
                    have hla := q1.last
                    refine ⟨r2.dst, r2.lens, by omega, by rw [el]; omega, by rw [el, hold _ hla]; exact q1.dist, ?_⟩
                    refine ⟨?_, ?_, ?_, ⟨hnn.1, by omega, by omega⟩⟩
                    · rw [he3]
                      intro x hx
                      rcases List.mem_append.1 hx with hx | hx
                      · obtain ⟨c1, c2⟩ := q1.owes.cap x hx
                        exact ⟨by omega, by rw [hold _ c1]; omega⟩
                      · rw [List.mem_singleton.1 hx]
                        exact ⟨by omega, by rw [he2]; omega⟩
                    · rw [he3]
                      rcases O with O | O
                      · rw [O]
                        rcases q1.owes.hit with ⟨x, hx, ex⟩ | ex | ex
                        · exact .inl ⟨x, List.mem_append.2 (.inl hx), by rw [hold _ (q1.owes.cap x hx).1]; exact ex⟩
                        · exact .inr (.inl ex)
                        · exact .inr (.inr ex)
                      · exact .inl ⟨e, List.mem_append.2 (.inr (List.mem_singleton.2 rfl)), by rw [he2]; omega⟩
                    · intro _
                      have hsl := so.slot k5
                      exact List.mem_iff_getElem.2 ⟨i.a.toNat, by rw [List.length_set, hal.len]; omega, by simp⟩
                  obtain ⟨T2, more2, u1, u2⟩ := walk_law hA g s1 _ _ v sp s2 h T1 (D ++ [T0 + t.span + 1] ++ more1) (gotT (spawnT (payT t')) i.a.toNat v1 0) par T0 m (sl.set i.a.toNat 1) f ⟨hS.regs, by show t'.slots.set _ _ = t.slots.set _ _; rw [hS.slots], hp.node, hS.number, by show t'.spawned + 1 = t.spawned + 1; rw [hS.spawned]⟩ hm hfu hf ha ⟨hst.up, .inr ⟨by show 1 ≤ t.node.work + 1; omega, hg⟩⟩
                  have u_sp : t.span + 1 + 1 ≤ sp := u2.span
                  have u_du : imax t.due (t.span + 1 + sp1) ≤ sp := u2.due
                  refine ⟨T2, (T0 + t.span + 1) :: (more1 ++ more2), u1, ?_⟩
                  have hass : D ++ (T0 + t.span + 1) :: (more1 ++ more2) = D ++ [T0 + t.span + 1] ++ more1 ++ more2 := by simp
                  have hf1 : T1.n + s1.fuel = (addV T m t.node.work par i).n + (payS s).fuel := r2.fuel
                  have hf2 := u2.fuel
                  have hn0 := add_n T m t.node.work par i
                  have hkl : ∀ j, j < m → T1.lasts.getD j 0 = T.lasts.getD j 0 := fun j hj => (r2.kept.lasts j (by omega)).trans (q2 j hj)
                  have hke : ∀ j, j < m → T1.ends.getD j [] = T.ends.getD j [] := fun j hj => (r2.kept.ends j (by omega) (by intro e; cases e; omega)).trans (q3 j (by omega))
                  refine ⟨by rw [hass]; exact u2.dst, by omega, u2.lens, ⟨fun j hj => (u2.kept.lasts j hj).trans (hkl j hj), fun j hj hpj => (u2.kept.ends j hj hpj).trans (hke j hj)⟩, ?_, ?_, by omega, by omega, ?_, by have := u2.tasks; omega, fun x hx => u2.sub x (r2.sub x (AD.sub x hx)), ?_, ?_, ?_, ?_, by have z := u2.most; have y : (addV T m t.node.work par i).n + s1.tasks + 1 ≤ T1.n + (s.tasks + 1) := r2.most; omega⟩
                  · obtain ⟨e2, w1, w2, w3⟩ := u2.fin
                    exact ⟨e2, w1, by rw [hass]; exact w2, fun p hpp => by rw [w3 p hpp, hke p (hst.up p hpp)]⟩
                  · intro x hx
                    rcases List.mem_cons.1 hx with rfl | hx
                    · omega
                    · rcases List.mem_append.1 hx with hx | hx
                      · have := r2.top x hx; omega
                      · exact u2.top x hx
                  · have z1 : T1.es.length + rootW (some m) (0 : Int) + (s.tasks + 1) + (addV T m t.node.work par i).n = (addV T m t.node.work par i).es.length + T1.n + s1.tasks + ((addV T m t.node.work par i).ends.getD s.tasks []).length := r2.es
                    have z2 : T2.es.length + rootW par (t.node.work + 1) + s1.tasks + T1.n = T1.es.length + T2.n + s2.tasks + (T1.ends.getD m []).length := u2.es
                    have z3 : rootW (some m) (0 : Int) = 0 := rfl
                    have z4 : (addV T m t.node.work par i).ends.getD s.tasks [] = [] := by rw [List.getD_eq_getElem?_getD, List.getElem?_eq_none (by rw [q1.lens.2]; omega)]; rfl
                    rw [z3, z4] at z1
                    rw [hpw _ hw0, he3, q3 m (Nat.le_refl _), List.length_append] at z2
                    simp only [List.length_nil, List.length_cons] at z1 z2
                    omega
                  · intro k hk hk2
                    by_cases c1 : k = T.n
                    · obtain ⟨x, hx, ex⟩ := u2.fedL (by show 1 ≤ t.node.work + 1; omega)
                      exact ⟨x, hx, by rw [ex, r2.kept.lasts m hmt, AD.last, c1]⟩
                    · by_cases c2 : k + 1 < T1.n
                      · obtain ⟨x, hx, ex⟩ := r2.outs k (by omega) c2
                        exact ⟨x, u2.sub x hx, ex⟩
                      · by_cases c3 : k + 1 = T1.n
                        · have : k = e := by omega
                          subst this
                          exact u2.fedE k (by rw [he3]; exact List.mem_append.2 (.inr (List.mem_singleton.2 rfl)))
                        · exact u2.outs k (by omega) hk2
                  · intro k hk
                    exact u2.fedE k (by rw [he3, q3 m (Nat.le_refl _)]; exact List.mem_append.2 (.inl hk))
                  · intro hw2
                    obtain ⟨x, hx, ex⟩ := AD.fedL hw2
                    exact ⟨x, u2.sub x (r2.sub x hx), ex⟩
                  · intro k hk hk2 hk0
                    by_cases c1 : k = T.n
                    · subst c1
                      obtain ⟨x, hx, ex⟩ := AD.ins hk0
                      exact ⟨x, u2.sub x (r2.sub x hx), ex⟩
                    · by_cases c2 : k < T1.n
                      · obtain ⟨x, hx, ex⟩ := r2.ins k (by omega) c2 hk0
                        exact ⟨x, u2.sub x hx, ex⟩
                      · exact u2.ins k (by omega) hk2 hk0
            · rw [if_neg k5] at h ⊢
              by_cases k6 : i.kind = 6
              · rw [if_pos k6] at h
                rw [if_neg (by omega)]
                have ec : computeT (payT t') i = payT t' := by
                  unfold computeT
                  rw [if_neg (by omega), if_neg (by omega), if_neg (by omega), if_neg (by omega), if_neg (by omega)]
                rw [ec]
                have ha := along_step hV hal hi' false (by omega)
                rw [stepSl, if_neg k5, if_pos k6, stepAt, if_neg k3, if_neg (by omega)] at ha
                obtain ⟨q1, q2, q3, q4, q5⟩ := hst.wait k6 (1 ∈ syncV sl)
                obtain ⟨T2, more, r1, r2⟩ := walk_law hA g (payS s) _ _ v sp s2 h (addV T m t.node.work par i) _ (payT t') par T0 m (syncV sl) f ⟨hp.regs, hp.slots, hp.node, hp.number, hp.spawned⟩ hm hfu hf ha ⟨hst.up, .inr ⟨by show 1 ≤ t.node.work + 1; omega, q1⟩⟩
                have L := imax_l (t.span + 1) (t.due + 1)
                exact ⟨T2, _, r1, r2.after (out := 1 ∈ sl) hfl rfl (Int.le_refl _) (by show t.span ≤ imax (t.span + 1) (t.due + 1); omega) (Int.le_refl _) q2 q3 hst.up (hpw _ hw0) (by rw [q4]; simp only [List.length_nil]; omega) (hst.adds i).1 (fun k hk => .inr ((hst.adds i).2 k6 k hk)) (by show 1 ≤ t.node.work + 1; omega)⟩
              · rw [if_neg k6] at h
                by_cases k9 : i.kind = 9
                · rw [if_pos k9] at h ⊢
                  injection h with e1 e2 e3
                  subst e3
                  obtain ⟨q1, q2, q3, q4, q5, q6⟩ := hst.ret k9
                  have hno : ¬ 1 ∈ sl := by
                    intro hmem
                    unfold cleanV at hcl
                    rw [if_neg (by omega), if_neg (by omega), if_pos k9, List.all_eq_true] at hcl
                    have := hcl 1 hmem
                    simp at this
                  have hen : T.ends.getD m [] = [] := by
                    rcases hst.is with ⟨_, _, _, e⟩ | ⟨_, e⟩
                    · rw [List.getD_eq_getElem?_getD, List.getElem?_eq_none (by rw [e.lens.2]; exact Nat.le_refl _)]; rfl
                    · exact Classical.byContradiction fun hh => hno (e.owes.pend hh)
                  have hdue : t.due ≤ t.span := by
                    rcases hst.is with ⟨_, e3, e4, _⟩ | ⟨_, e⟩
                    · omega
                    · have := e.owes.hit
                      rw [hen] at this
                      rcases this with ⟨_, hx, _⟩ | hx | hx
                      · cases hx
                      · omega
                      · omega
                  have hdl : D.length = T.n := by rcases hst.is with ⟨_, _, _, e⟩ | ⟨_, e⟩ <;> exact e.dst.len
                  rw [hS.regs, e1]
                  refine ⟨_, [T0 + t.span + 1], rfl, ⟨q1, ?_, q3, q4, ⟨T.n, q2.symm, by rw [getD_appR 0 hdl.symm, ← e2]; omega, q5⟩, ?_, by omega, by omega, ?_, Nat.le_refl _, (hst.adds i).1.sub, ?_, ?_, (hst.adds i).1.fedL, ?_, by rw [q2]; show T.n + s.tasks + 1 ≤ T.n + 1 + s.tasks; omega⟩⟩
                  · rw [q2]
                    show T.n + 1 + (payS s).fuel = T.n + s.fuel
                    omega
                  · intro x hx
                    rw [List.mem_singleton.1 hx]; omega
                  · rw [q2, hen]
                    show _ + _ + s.tasks + T.n = T.es.length + (T.n + 1) + s.tasks + 0
                    omega
                  · intro k hk hk2
                    rw [q2] at hk2
                    omega
                  · intro k hk
                    rw [hen] at hk
                    cases hk
                  · intro k hk hk2 hk0
                    rw [q2] at hk2
                    have : k = T.n := by omega
                    subst this
                    exact (hst.adds i).1.ins hk0
                · rw [if_neg k9] at h ⊢
                  have hcm : SameT (computeT (payT t) i) (computeT (payT t') i) := by
                    unfold computeT
                    rw [hp.regs, hp.slots, hp.node]
                    have hset : ∀ a x, SameT (setR (payT t) a x) (setR (payT t') a x) := fun a x => ⟨by show (payT t').regs.set a x = (payT t).regs.set a x; rw [hp.regs], hp.slots, hp.node, hp.number, hp.spawned⟩
                    repeat' split
                    all_goals first
                      | exact hset _ _
                      | exact hp
                  have hcn : (computeT (payT t) i).node = (payT t).node ∧ (computeT (payT t) i).span = t.span + 1 ∧ (computeT (payT t) i).due = t.due ∧ (computeT (payT t) i).number = t.number := by
                    unfold computeT
                    repeat' split
                    all_goals exact ⟨rfl, rfl, rfl, rfl⟩
                  have ha := along_step hV hal hi' false k9
                  rw [stepSl, if_neg k5, if_neg k6, stepAt, if_neg k3, if_neg (by omega)] at ha
                  exact plain _ _ _ k5 k6 k9 ha hcn.1 hcn.2.1 hcn.2.2.1 hcn.2.2.2 hcm h
end Go.Proofs.YtbdpdojeaahpjaaGreatDoor
/-! A run traced, plainly: the dag of a run. -/
namespace Go.Proofs.YtbdpdojeaahpjaaGreatDoor
set_option linter.unusedVariables false
set_option maxRecDepth 20000
open Go.RowKit Go.PlainOps

/-- A run that ends has a trace: a node for each instruction, work + tasks - 2 edges, the longest way is the span, each node but the first has an edge to it, each but the last one from it. -/
theorem run_trace {fs : List Fn} (hA : AllV fs) {zs : List Int} {F : Nat} {v sp : Int} {s2 : Rn} (h : runV fs false zs F = .done v sp s2) :
    ∃ T2 D, walkV fs (F + 1) 1 trc0 (enterT ⟨0, 0, 0, []⟩ (rootT zs)) none 0 = some (v, s2.tasks, T2) ∧ Dst T2 D ∧ T2.n + s2.fuel = F ∧ T2.es.length + 2 = T2.n + s2.tasks ∧ (∀ x ∈ D, x ≤ sp) ∧ (∃ e, e < T2.n ∧ D.getD e 0 = sp) ∧ (∀ k, k < T2.n → 0 < k → ∃ x ∈ T2.es, x.2 = k) ∧ (∀ k, k + 1 < T2.n → ∃ x ∈ T2.es, x.1 = k) ∧ s2.tasks ≤ T2.n := by
  unfold runV playV at h
  rw [if_neg (show ¬ (4096 : Int) < (rootT zs).depth by show ¬ (4096 : Int) < 1; omega)] at h
  have h0 : (0 : Int) ≤ (0 : Int) ∧ (0 : Int) < fs.length := ⟨Int.le_refl _, by have := hA.len; omega⟩
  obtain ⟨f, hf, _, hcf, hV, _⟩ := hA.fn h0
  have hd0 : Dst trc0 [] := ⟨rfl, (fun e he => by cases he), (fun e he => by cases he), fun k hk => absurd hk (Nat.not_lt_zero _)⟩
  obtain ⟨T2, more, q1, q2⟩ := walk_law hA (F + 1) _ _ 0 v sp s2 h trc0 [] (enterT ⟨0, 0, 0, []⟩ (rootT zs)) none 0 0 (List.replicate 8 0) f ⟨rfl, rfl, rfl, rfl, rfl⟩ rfl h0 hf (along_start (good_of hV.shape hV.code) (valid_bounds hV).2.2.1.1)
    ⟨(fun p e => nomatch e), .inl ⟨rfl, rfl, rfl, ⟨hd0, ⟨rfl, rfl⟩, rfl, Int.le_refl _, (fun _ => ⟨rfl, rfl⟩), (fun p e => nomatch e)⟩⟩⟩
  refine ⟨T2, more, q1, by simpa using q2.dst, ?_, ?_, fun x hx => by have := q2.top x hx; omega, ?_, fun k hk hk0 => q2.ins k (Nat.zero_le _) hk hk0, fun k hk => q2.outs k (Nat.zero_le _) hk, by have : 0 + s2.tasks + 1 ≤ T2.n + 1 := q2.most; omega⟩
  · have : T2.n + s2.fuel = 0 + F := q2.fuel
    omega
  · have : T2.es.length + 1 + 1 + 0 = 0 + T2.n + s2.tasks + 0 := q2.es
    omega
  · obtain ⟨e, e1, e2, _⟩ := q2.fin
    exact ⟨e, by omega, by simpa using e2⟩
/-- What determines the distances: two lists of distances for one dag agree. -/
theorem Dst.same {T : Trc} {D E : List Int} (h : Dst T D) (h' : Dst T E) : D = E := by
  have key : ∀ k, k < T.n → D.getD k 0 = E.getD k 0 := by
    intro k
    induction k using Nat.strongRecOn with
    | _ k ih =>
      intro hk
      have pos : ∀ {F : List Int}, Dst T F → ∀ j, j < T.n → 1 ≤ F.getD j 0 := by
        intro F hF j
        induction j using Nat.strongRecOn with
        | _ j ihj =>
          intro hj
          rcases hF.hit j hj with e | ⟨e, he, e1, e2⟩
          · omega
          · have := hF.edge e he
            have := ihj e.1 (by omega) (by omega)
            omega
      rcases h.hit k hk with a | ⟨a, ha, a1, a2⟩ <;> rcases h'.hit k hk with b | ⟨b, hb, b1, b2⟩
      · omega
      · have l := h.low b hb
        have := h.edge b hb
        have := pos h b.1 (by omega)
        rw [b1] at l
        omega
      · have l := h'.low a ha
        have := h'.edge a ha
        have := pos h' a.1 (by omega)
        rw [a1] at l
        omega
      · have l := h.low b hb
        have l' := h'.low a ha
        have ea := h.edge a ha
        have eb := h.edge b hb
        have ia := ih a.1 (by omega) (by omega)
        have ib := ih b.1 (by omega) (by omega)
        rw [b1] at l
        rw [a1] at l'
        omega
  refine List.ext_getElem? fun k => ?_
  by_cases hk : k < T.n
  · have := key k hk
    have h1 := h.len
    have h2 := h'.len
    rw [List.getD_eq_getElem?_getD, List.getD_eq_getElem?_getD, List.getElem?_eq_getElem (by omega), List.getElem?_eq_getElem (by omega)] at this
    rw [List.getElem?_eq_getElem (by omega), List.getElem?_eq_getElem (by omega)]
    exact congrArg some this
  · rw [List.getElem?_eq_none (by have := h.len; omega), List.getElem?_eq_none (by have := h'.len; omega)]
end Go.Proofs.YtbdpdojeaahpjaaGreatDoor
