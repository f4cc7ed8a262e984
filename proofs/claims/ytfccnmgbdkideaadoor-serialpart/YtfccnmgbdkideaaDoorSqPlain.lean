import Derived.Test.YtfccnmgbdkideaaDoorSrPlain
/-! The shape of the tree of tasks, plainly. -/
namespace Go.Proofs.YtfccnmgbdkideaaDoor
set_option linter.unusedVariables false
set_option maxRecDepth 20000
open Go.RowKit Go.PlainOps

/-- What of a node is fixed when it comes. -/
structure Ky where
  parent : Int
  idx : Int
  func : Int
  ped : Int
def keyN (x : Nd) : Ky := ⟨x.parent, x.idx, x.func, x.ped⟩
def keys (l : List Nd) : List Ky := l.map keyN
/-- How many children a node has. -/
def cntK (K : List Ky) (p : Int) : Nat := (K.filter fun x => x.parent == p).length
/-- From a node up to one above it. -/
inductive Anc (K : List Ky) : Nat → Nat → Prop
  | refl (p : Nat) : Anc K p p
  | up {k q p : Nat} {x : Ky} : K[k]? = some x → x.parent = (q : Int) → Anc K q p → Anc K k p
def spawnsK (fs : List Fn) (f g : Int) : Prop := ∃ i ∈ codeOf fs f, i.kind = 5 ∧ i.b = g
/-- A node that may come behind these. -/
structure NodeOk (fs : List Fn) (K : List Ky) (D : List Int) (x : Ky) (d : Int) (p : Nat) (y : Ky) : Prop where
  at_ : K[p]? = some y
  par : x.parent = (p : Int)
  anc : Anc K (K.length - 1) p
  idx : x.idx = (cntK K p : Int)
  ped : x.ped = pedV y.ped x.idx
  spw : spawnsK fs y.func x.func
  dep : D[p]? = some (d - 1)
inductive Grows (fs : List Fn) : List Ky → List Int → Prop
  | one : Grows fs [⟨-1, 0, 0, 1⟩] [1]
  | more {K : List Ky} {D : List Int} {x : Ky} {d : Int} {p : Nat} {y : Ky} : Grows fs K D → NodeOk fs K D x d p y → Grows fs (K ++ [x]) (D ++ [d])
theorem Grows.len {fs : List Fn} {K : List Ky} {D : List Int} (h : Grows fs K D) : D.length = K.length ∧ 1 ≤ K.length := by
  induction h with
  | one => exact ⟨rfl, Nat.le_refl _⟩
  | more _ _ ih => simp; omega
theorem Grows.first {fs : List Fn} {K : List Ky} {D : List Int} (h : Grows fs K D) : K[0]? = some ⟨-1, 0, 0, 1⟩ ∧ D[0]? = some 1 := by
  induction h with
  | one => exact ⟨rfl, rfl⟩
  | more hg _ ih => have := hg.len; rw [List.getElem?_append_left (by omega), List.getElem?_append_left (by omega)]; exact ih
theorem Grows.at {fs : List Fn} {K : List Ky} {D : List Int} (h : Grows fs K D) : ∀ i : Nat, 0 < i → i < K.length → ∃ x d p y, K[i]? = some x ∧ D[i]? = some d ∧ NodeOk fs (K.take i) (D.take i) x d p y := by
  induction h with
  | one => intro i h0 h1; simp at h1; omega
  | @more K D x d p y hg hn ih =>
    intro i h0 h1
    have hl := hg.len
    simp only [List.length_append, List.length_singleton] at h1
    by_cases hi : i < K.length
    · obtain ⟨x', d', p', y', h2, h3, h4⟩ := ih i h0 hi
      refine ⟨x', d', p', y', by rw [List.getElem?_append_left hi]; exact h2, by rw [List.getElem?_append_left (by omega)]; exact h3, ?_⟩
      rw [List.take_append_of_le_length (by omega), List.take_append_of_le_length (by omega)]
      exact h4
    · have hi2 : i = K.length := by omega
      subst hi2
      refine ⟨x, d, p, y, by simp, by rw [← hl.1]; simp, ?_⟩
      rw [List.take_left, ← hl.1, List.take_left]
      exact hn
theorem Anc.more {K : List Ky} {k p : Nat} (h : Anc K k p) (Z : List Ky) : Anc (K ++ Z) k p := by
  induction h with
  | refl p => exact .refl p
  | up hx hp _ ih => exact .up (by rw [List.getElem?_append_left (List.getElem?_eq_some_iff.1 hx).1]; exact hx) hp ih
theorem Anc.trans {K : List Ky} {k q p : Nat} (h : Anc K k q) (h2 : Anc K q p) : Anc K k p := by
  induction h with
  | refl p => exact h2
  | up hx hp _ ih => exact .up hx hp (ih h2)
theorem cnt_app (K Z : List Ky) (p : Int) : cntK (K ++ Z) p = cntK K p + cntK Z p := by simp [cntK]
theorem cnt_none {Z : List Ky} {p : Int} (h : ∀ z ∈ Z, p < z.parent) : cntK Z p = 0 := by
  unfold cntK
  rw [List.length_eq_zero_iff, List.filter_eq_nil_iff]
  intro z hz
  have := h z hz
  simp
  omega
def maxD (D : List Int) : Int := D.foldl imax 0
theorem max_app (D : List Int) (d : Int) : maxD (D ++ [d]) = imax (maxD D) d := by simp [maxD]
def sumW (l : List Nd) : Int := (l.map Nd.work).foldr (· + ·) 0
theorem sum_app (a b : List Nd) : sumW (a ++ b) = sumW a + sumW b := by
  induction a with
  | nil => simp [sumW]
  | cons x a ih => simp only [sumW, List.map_cons, List.foldr_cons, List.cons_append] at ih ⊢; omega

theorem Grows.dep1 {fs : List Fn} {K : List Ky} {D : List Int} (h : Grows fs K D) : ∀ (i : Nat) (d : Int), D[i]? = some d → 1 ≤ d := by
  induction h with
  | one => intro i d hd; cases i with
    | zero => simp at hd; omega
    | succ i => simp at hd
  | @more K D x d p y hg hn ih =>
    intro i e he
    by_cases hi : i < D.length
    · rw [List.getElem?_append_left hi] at he
      exact ih i e he
    · rw [List.getElem?_append_right (by omega)] at he
      have hi2 : i - D.length = 0 := by
        have := (List.getElem?_eq_some_iff.1 he).1
        simp at this
        omega
      rw [hi2] at he
      simp at he
      have h1 := ih p (d - 1) hn.dep
      omega
structure Lp (fs : List Fn) (s : Rn) (t : Tk) (m : Nat) (D : List Int) : Prop where
  good : Grows fs (keys s.nodes) D
  len : s.nodes.length = s.tasks
  num : t.number = (m : Int)
  lt : m < s.tasks
  own : (keys s.nodes)[m]? = some (keyN t.node)
  anc : Anc (keys s.nodes) (s.tasks - 1) m
  cnt : t.spawned = (cntK (keys s.nodes) m : Int)
  dep : D[m]? = some t.depth
  max : s.depth = maxD D
  wk : 0 ≤ t.node.work
  fin : ∀ (j : Nat) (y : Nd), m < j → s.nodes[j]? = some y → 1 ≤ y.work
theorem Lp.pay {fs : List Fn} {s : Rn} {t : Tk} {m : Nat} {D : List Int} (h : Lp fs s t m D) : Lp fs (payS s) (payT t) m D :=
  ⟨h.good, h.len, h.num, h.lt, h.own, h.anc, h.cnt, h.dep, h.max, by show 0 ≤ t.node.work + 1; have := h.wk; omega, h.fin⟩
theorem Lp.same {fs : List Fn} {s : Rn} {t t' : Tk} {m : Nat} {D : List Int} (h : Lp fs s t m D) (h1 : t'.number = t.number) (h2 : t'.node = t.node) (h3 : t'.spawned = t.spawned) (h4 : t'.depth = t.depth) : Lp fs s t' m D :=
  ⟨h.good, h.len, h1.trans h.num, h.lt, by rw [h2]; exact h.own, h.anc, h3.trans h.cnt, by rw [h4]; exact h.dep, h.max, by rw [h2]; exact h.wk, h.fin⟩
/-- The part of a list of nodes that a task's own run has made. -/
structure SubOk (fs : List Fn) (B : Nat) (L : List Nd) (j : Nat) (g : Nat) (s0 : Rn) (c : Tk) (v sp : Int) (s2 : Rn) : Prop where
  run : loopV fs true g (enterS true s0 c) (enterT s0 c) 0 = .done v sp s2
  tasks : s0.tasks = j
  slots : c.slots = List.replicate 8 0
  regs : ∃ R from_, c.regs = argsV R from_ (parV fs c.node.func).toNat
  dep : 1 ≤ c.depth ∧ c.depth ≤ 4096
  fuel : s0.fuel ≤ B
  lt : j < s2.tasks
  le : s2.tasks ≤ L.length
  same : ∀ q, j ≤ q → q < s2.tasks → L[q]? = s2.nodes[q]?
  next : ∀ y, L[s2.tasks]? = some y → y.parent < (j : Int)
  sum : sumW (s2.nodes.drop j) + s2.fuel = s0.fuel
  node : ∃ y, s2.nodes[j]? = some y ∧ y.v = v ∧ y.func = c.node.func ∧ y.arg = c.regs.getD 0 0
  low : ∀ q y, j < q → q < s2.tasks → L[q]? = some y → (j : Int) ≤ y.parent
  len : s2.nodes.length = s2.tasks
def Sub (fs : List Fn) (B : Nat) (L : List Nd) (j : Nat) : Prop := ∃ g s0 c v sp s2, SubOk fs B L j g s0 c v sp s2
theorem Sub.lift {fs : List Fn} {B B' : Nat} {L L' : List Nd} {j : Nat} (h : Sub fs B L j) (hs : ∀ q, j ≤ q → q < L.length → L'[q]? = L[q]?) (hl : L.length ≤ L'.length) (hn : ∀ y, L'[L.length]? = some y → y.parent < (j : Int)) (hB : B ≤ B') : Sub fs B' L' j := by
  obtain ⟨g, s0, c, v, sp, s2, h⟩ := h
  have h1 := h.le
  have h2 := h.lt
  refine ⟨g, s0, c, v, sp, s2, h.run, h.tasks, h.slots, h.regs, h.dep, Nat.le_trans h.fuel hB, h.lt, Nat.le_trans h.le hl, fun q h3 h4 => (hs q h3 (by omega)).trans (h.same q h3 h4), fun y hy => ?_, h.sum, h.node, fun q y h3 h4 h5 => h.low q y h3 h4 (by rw [← hs q (by omega) (by omega)]; exact h5), h.len⟩
  by_cases he : s2.tasks = L.length
  · rw [he] at hy; exact hn y hy
  · rw [hs _ (by omega) (by omega)] at hy; exact h.next y hy
/-- What a task has done when it is done. -/
structure Dn (fs : List Fn) (s : Rn) (t : Tk) (m : Nat) (D : List Int) (v : Int) (s' : Rn) (Z : List Ky) (E : List Int) : Prop where
  keys : keys s'.nodes = keys s.nodes ++ Z
  good : Grows fs (Go.Proofs.YtfccnmgbdkideaaDoor.keys s'.nodes) (D ++ E)
  len : s'.nodes.length = s'.tasks
  le : s.tasks ≤ s'.tasks
  anc : Anc (Go.Proofs.YtfccnmgbdkideaaDoor.keys s'.nodes) (s'.tasks - 1) m
  low : ∀ z ∈ Z, (m : Int) ≤ z.parent
  max : s'.depth = maxD (D ++ E)
  fin : ∀ (j : Nat) (y : Nd), m ≤ j → s'.nodes[j]? = some y → 1 ≤ y.work
  v : ∃ y, s'.nodes[m]? = some y ∧ y.v = v
  sum : sumW (s'.nodes.drop m) + s'.fuel = sumW (s.nodes.drop (m + 1)) + t.node.work + s.fuel
  front : s'.nodes.take m = s.nodes.take m
  mid : ∀ q, m < q → q < s.tasks → s'.nodes[q]? = s.nodes[q]?
  head : ∀ y, s'.nodes[s.tasks]? = some y → y.parent = (m : Int)
  sub : ∀ j, s.tasks ≤ j → j < s'.tasks → Sub fs s.fuel s'.nodes j
  fu : s'.fuel ≤ s.fuel
  nd : ∃ y, s'.nodes[m]? = some y ∧ y.func = t.node.func ∧ y.arg = t.node.arg
theorem Dn.pay {fs : List Fn} {s s' : Rn} {t t' : Tk} {m : Nat} {D E : List Int} {v : Int} {Z : List Ky} (h : Dn fs (payS s) t' m D v s' Z E) (h0 : s.fuel ≠ 0) (hw : t'.node = (payT t).node) : Dn fs s t m D v s' Z E :=
  ⟨h.keys, h.good, h.len, h.le, h.anc, h.low, h.max, h.fin, h.v, by
    have h1 := h.sum
    have h2 : ((payS s).fuel : Int) = s.fuel - 1 := by show ((s.fuel - 1 : Nat) : Int) = _; omega
    have h3 : (payS s).nodes = s.nodes := rfl
    rw [h2, h3, hw] at h1
    have h4 : (payT t).node.work = t.node.work + 1 := rfl
    omega, h.front, h.mid, h.head, fun j h1 h2 => (h.sub j h1 h2).lift (fun _ _ _ => rfl) (Nat.le_refl _) (fun y hy => by rw [List.getElem?_eq_none (Nat.le_refl _)] at hy; cases hy) (by show s.fuel - 1 ≤ s.fuel; omega), Nat.le_trans h.fu (by show s.fuel - 1 ≤ s.fuel; omega), by obtain ⟨y, y1, y2, y3⟩ := h.nd; exact ⟨y, y1, by rw [y2, hw]; rfl, by rw [y3, hw]; rfl⟩⟩
theorem map_set_same {l : List Nd} {m : Nat} {y : Nd} (h : (keys l)[m]? = some (keyN y)) : keys (l.set m y) = keys l := by
  unfold keys at h ⊢
  rw [List.map_set]
  apply List.ext_getElem?
  intro j
  by_cases hj : m = j
  · subst hj
    rw [List.getElem?_set_self (List.getElem?_eq_some_iff.1 h).1, h]
  · rw [List.getElem?_set_ne hj]
theorem drop_set (l : List Nd) (m : Nat) (y : Nd) (h : m < l.length) : (l.set m y).drop m = y :: l.drop (m + 1) := by
  rw [List.drop_eq_getElem_cons (by simpa using h), List.getElem_set_self, List.drop_set_of_lt (by omega)]
theorem loop_shape {fs : List Fn} : ∀ (g : Nat) (s : Rn) (t : Tk) (at_ : Nat) (m : Nat) (D : List Int) (v sp : Int) (s' : Rn), loopV fs true g s t at_ = .done v sp s' → Lp fs s t m D → ∃ Z E, Dn fs s t m D v s' Z E
  | 0, s, t, at_, m, D, v, sp, s', h, _ => by simp [loopV] at h
  | g + 1, s, t, at_, m, D, v, sp, s', h, hL => by
    unfold loopV at h
    split at h
    · cases h
    · rename_i h0
      split at h
      · cases h
      · rename_i i hi
        split at h
        · obtain ⟨Z, E, hd⟩ := loop_shape g (payS s) (payT t) _ m D v sp s' h hL.pay
          exact ⟨Z, E, hd.pay h0 rfl⟩
        · split at h
          · obtain ⟨Z, E, hd⟩ := loop_shape g (payS s) (payT t) _ m D v sp s' h hL.pay
            exact ⟨Z, E, hd.pay h0 rfl⟩
          · split at h
            · rename_i hk5
              split at h
              · cases h
              · rename_i hdp
                split at h
                · cases h
                · rename_i v1 sp1 s2 hr
                  have hn := hL.num
                  have hl := hL.len
                  have hgl := hL.good.len
                  have hkl : (keys s.nodes).length = s.tasks := by simp [keys, hl]
                  obtain ⟨cn, hcn⟩ : ∃ cn, cn = (enterT (payS s) (childV fs (payT t) i)).node := ⟨_, rfl⟩
                  have hcnk : keyN cn = ⟨m, cntK (keys s.nodes) m, i.b, pedV t.node.ped (cntK (keys s.nodes) m)⟩ := by
                    rw [hcn, ← hL.cnt, ← hn]
                    rfl
                  have hnodes : (enterS true (payS s) (childV fs (payT t) i)).nodes = s.nodes ++ [cn] := by rw [hcn]; rfl
                  have hkeys : keys (s.nodes ++ [cn]) = keys s.nodes ++ [keyN cn] := by simp [keys]
                  have hok : NodeOk fs (keys s.nodes) D (keyN cn) (t.depth + 1) m (keyN t.node) := ⟨hL.own, by rw [hcnk], by rw [hkl]; exact hL.anc, by rw [hcnk], by rw [hcnk]; rfl, ⟨i, List.mem_of_getElem? hi, hk5, by rw [hcnk]⟩, by rw [hL.dep]; congr 1; omega⟩
                  have hLc : Lp fs (enterS true (payS s) (childV fs (payT t) i)) (enterT (payS s) (childV fs (payT t) i)) s.tasks (D ++ [t.depth + 1]) := by
                    refine ⟨?_, ?_, rfl, by show s.tasks < s.tasks + 1; omega, ?_, ?_, ?_, ?_, ?_, ?_, ?_⟩
                    · rw [hnodes, hkeys]; exact hL.good.more hok
                    · rw [hnodes]; show _ = s.tasks + 1; simp [hl]
                    · rw [hnodes, hkeys, ← hkl, ← hcn]; simp
                    · exact .refl _
                    · show (0 : Int) = _
                      rw [hnodes, hkeys, cnt_app]
                      have e1 : cntK (keys s.nodes) ((s.tasks : Nat) : Int) = 0 := by
                        unfold cntK
                        rw [List.length_eq_zero_iff, List.filter_eq_nil_iff]
                        intro z hz
                        obtain ⟨j, hj, hzj⟩ := List.getElem_of_mem hz
                        simp only [beq_iff_eq]
                        intro he
                        by_cases hj0 : j = 0
                        · subst hj0
                          have h1 := hL.good.first.1
                          rw [List.getElem?_eq_getElem hj, hzj] at h1
                          injection h1 with h1
                          rw [h1] at he
                          have he2 : (-1 : Int) = (s.tasks : Int) := he
                          omega
                        · obtain ⟨x, d, p, y, h1, h2, h3⟩ := hL.good.at j (by omega) hj
                          rw [List.getElem?_eq_getElem hj, hzj] at h1
                          injection h1 with h1
                          have h4 := (List.getElem?_eq_some_iff.1 h3.at_).1
                          have h5 := h3.par
                          rw [← h1, he] at h5
                          simp at h4
                          omega
                      have e2 : cntK [keyN cn] ((s.tasks : Nat) : Int) = 0 := by
                        have := hL.lt
                        rw [hcnk]
                        simp [cntK]
                        omega
                      rw [e1, e2]
                      rfl
                    · rw [← hkl, ← hgl.1]
                      simp
                      rfl
                    · rw [max_app, ← hL.max]
                      rfl
                    · exact Int.le_refl _
                    · intro j y hj hy
                      rw [hnodes] at hy
                      have := (List.getElem?_eq_some_iff.1 hy).1
                      simp at this
                      omega
                  obtain ⟨Z1, E1, hd1⟩ := loop_shape g _ _ 0 s.tasks (D ++ [t.depth + 1]) v1 sp1 s2 hr hLc
                  have hfr : s2.nodes = s.nodes ++ s2.nodes.drop s.tasks := by
                    have h1 := hd1.front
                    rw [hnodes, ← hl, List.take_left] at h1
                    conv => lhs; rw [← List.take_append_drop s.nodes.length s2.nodes, h1]
                    rw [hl]
                  have hk2 : keys s2.nodes = keys s.nodes ++ (keyN cn :: Z1) := by rw [hd1.keys, hnodes, hkeys]; simp
                  have hle : s.tasks + 1 ≤ s2.tasks := hd1.le
                  have hLt : Lp fs s2 (gotT (spawnT (payT t)) i.a.toNat v1 sp1) m (D ++ [t.depth + 1] ++ E1) := by
                    have hlt := hL.lt
                    refine ⟨hd1.good, hd1.len, hn, by omega, ?_, ?_, ?_, ?_, hd1.max, ?_, ?_⟩
                    · rw [hk2, List.getElem?_append_left (by omega)]; exact hL.own
                    · refine hd1.anc.trans (.up (x := keyN cn) ?_ (by rw [hcnk]) (.refl m))
                      rw [hk2, List.getElem?_append_right (by omega), hkl]
                      simp
                    · show t.spawned + 1 = _
                      rw [hk2, cnt_app, show keyN cn :: Z1 = [keyN cn] ++ Z1 from rfl, cnt_app, cnt_none (Z := Z1) (fun z hz => by have := hd1.low z hz; omega), hL.cnt]
                      have e2 : cntK [keyN cn] (m : Int) = 1 := by rw [hcnk]; simp [cntK]
                      rw [e2]
                      simp
                    · show _ = some t.depth
                      rw [List.append_assoc, List.getElem?_append_left (by omega)]
                      exact hL.dep
                    · show 0 ≤ t.node.work + 1
                      have := hL.wk
                      omega
                    · intro j y hj hy
                      by_cases hjc : j < s.tasks
                      · rw [hfr, List.getElem?_append_left (by omega)] at hy
                        exact hL.fin j y hj hy
                      · exact hd1.fin j y (by omega) hy
                  obtain ⟨Z2, E2, hd2⟩ := loop_shape g s2 _ _ m (D ++ [t.depth + 1] ++ E1) v sp s' h hLt
                  have hlt := hL.lt
                  refine ⟨(keyN cn :: Z1) ++ Z2, ([t.depth + 1] ++ E1) ++ E2, ⟨by rw [hd2.keys, hk2, List.append_assoc], by have := hd2.good; simpa using this, hd2.len, by have := hd2.le; omega, hd2.anc, ?_, by have := hd2.max; simpa using this, hd2.fin, hd2.v, ?_, ?_, ?_, ?_, ?_, ?_, hd2.nd⟩⟩
                  · intro z hz
                    rcases List.mem_append.1 hz with hz | hz
                    · rcases List.mem_cons.1 hz with hz | hz
                      · subst hz; rw [hcnk]; exact Int.le_refl _
                      · have := hd1.low z hz; omega
                    · exact hd2.low z hz
                  · have h1 := hd2.sum
                    have h2 := hd1.sum
                    have h3 : sumW (s2.nodes.drop (m + 1)) = sumW (s.nodes.drop (m + 1)) + sumW (s2.nodes.drop s.tasks) := by
                      conv => lhs; rw [hfr]
                      rw [List.drop_append_of_le_length (by omega), sum_app]
                    have h4 : sumW ((enterS true (payS s) (childV fs (payT t) i)).nodes.drop (s.tasks + 1)) = 0 := by
                      rw [hnodes, List.drop_eq_nil_of_le (by simp; omega)]
                      rfl
                    have h5 : (((enterS true (payS s) (childV fs (payT t) i)).fuel : Nat) : Int) = s.fuel - 1 := by show ((s.fuel - 1 : Nat) : Int) = _; omega
                    have h6 : (enterT (payS s) (childV fs (payT t) i)).node.work = 0 := rfl
                    have h7 : (gotT (spawnT (payT t)) i.a.toNat v1 sp1).node.work = t.node.work + 1 := rfl
                    rw [h4, h5, h6] at h2
                    rw [h3, h7] at h1
                    omega
                  · rw [hd2.front, hfr, List.take_append_of_le_length (by omega)]
                  · intro q hq1 hq2
                    rw [hd2.mid q hq1 (by omega), hfr, List.getElem?_append_left (by omega)]
                  · intro y hy
                    rw [hd2.mid s.tasks hlt (by omega)] at hy
                    have h1 : (keys s2.nodes)[s.tasks]? = some (keyN y) := by simp [keys, hy]
                    rw [hk2, List.getElem?_append_right (by omega), hkl, Nat.sub_self] at h1
                    simp at h1
                    have h2 : (keyN y).parent = (m : Int) := by rw [← h1, hcnk]
                    exact h2
                  · intro j hj1 hj2
                    have hl2 := hd1.len
                    have hl3 := hd2.len
                    have hf1 : s2.fuel ≤ s.fuel := Nat.le_trans hd1.fu (by show s.fuel - 1 ≤ s.fuel; omega)
                    have up : ∀ B, Sub fs B s2.nodes j → B ≤ s.fuel → Sub fs s.fuel s'.nodes j := fun B hs hB => hs.lift (fun q h1 h2 => hd2.mid q (by omega) (by omega)) (by have := hd2.le; omega) (fun y hy => by rw [hl2] at hy; have := hd2.head y hy; omega) hB
                    by_cases hj3 : j < s2.tasks
                    · by_cases hj4 : j = s.tasks
                      · subst hj4
                        refine up _ ⟨g, payS s, childV fs (payT t) i, v1, sp1, s2, hr, rfl, rfl, ⟨_, _, rfl⟩, ⟨?_, by omega⟩, Nat.le_refl _, by omega, by omega, fun q h1 h2 => rfl, fun y hy => ?_, ?_, ?_, ?_, hd1.len⟩ (by show s.fuel - 1 ≤ s.fuel; omega)
                        · show 1 ≤ t.depth + 1
                          have := hL.good.dep1 m _ hL.dep
                          omega
                        · rw [List.getElem?_eq_none (by omega)] at hy; cases hy
                        · have h2 := hd1.sum
                          have h4 : sumW ((enterS true (payS s) (childV fs (payT t) i)).nodes.drop (s.tasks + 1)) = 0 := by
                            rw [hnodes, List.drop_eq_nil_of_le (by simp; omega)]
                            rfl
                          have h6 : (enterT (payS s) (childV fs (payT t) i)).node.work = 0 := rfl
                          have h7 : (enterS true (payS s) (childV fs (payT t) i)).fuel = (payS s).fuel := rfl
                          rw [h4, h6, h7] at h2
                          omega
                        · obtain ⟨y, y1, y2, y3⟩ := hd1.nd
                          obtain ⟨z, z1, z2⟩ := hd1.v
                          rw [y1] at z1
                          obtain rfl := Option.some.inj z1
                          exact ⟨y, y1, z2, y2, y3⟩
                        · intro q y h1 h2 hy
                          have h3 : (keys s2.nodes)[q]? = some (keyN y) := by simp [keys, hy]
                          rw [hk2, List.getElem?_append_right (by omega), hkl] at h3
                          obtain ⟨p, hp⟩ : ∃ p, q - s.tasks = p + 1 := ⟨q - s.tasks - 1, by omega⟩
                          rw [hp, List.getElem?_cons_succ] at h3
                          exact hd1.low _ (List.mem_of_getElem? h3)
                      · exact up _ (hd1.sub j (by show s.tasks + 1 ≤ j; omega) hj3) (by show s.fuel - 1 ≤ s.fuel; omega)
                    · exact (hd2.sub j (by omega) hj2).lift (fun _ _ _ => rfl) (Nat.le_refl _) (fun y hy => by rw [List.getElem?_eq_none (Nat.le_refl _)] at hy; cases hy) hf1
                  · exact Nat.le_trans hd2.fu (Nat.le_trans hd1.fu (by show s.fuel - 1 ≤ s.fuel; omega))
            · split at h
              · obtain ⟨Z, E, hd⟩ := loop_shape g (payS s) (waitT (payT t)) _ m D v sp s' h (hL.pay.same rfl rfl rfl rfl)
                exact ⟨Z, E, hd.pay h0 rfl⟩
              · split at h
                · injection h with h1 h2 h3
                  have hn := hL.num
                  have hlt := hL.lt
                  have hl := hL.len
                  obtain ⟨y, hy⟩ : ∃ y, y = (endT (payT t) (t.regs.getD i.a.toNat 0)).node := ⟨_, rfl⟩
                  have hnn : s'.nodes = s.nodes.set m y := by
                    rw [← h3, hy]
                    show s.nodes.set t.number.toNat _ = _
                    rw [hn]
                    rfl
                  have hkk : keys s'.nodes = keys s.nodes := by rw [hnn]; exact map_set_same (by rw [hL.own, hy]; rfl)
                  have htk : s'.tasks = s.tasks := by rw [← h3]; rfl
                  have hyw : y.work = t.node.work + 1 := by rw [hy]; rfl
                  refine ⟨[], [], ⟨by rw [hkk, List.append_nil], by rw [hkk, List.append_nil]; exact hL.good, by rw [hnn, htk]; simpa using hl, by omega, by rw [hkk, htk]; exact hL.anc, fun z hz => (by cases hz), by rw [List.append_nil, ← hL.max, ← h3]; rfl, ?_, ⟨y, by rw [hnn, List.getElem?_set_self (by omega)], by rw [hy, ← h1]; rfl⟩, ?_, by rw [hnn, List.take_set_of_le (Nat.le_refl _)], fun q h5 h6 => by rw [hnn, List.getElem?_set_ne (by omega)], fun y hy => (by rw [hnn, List.getElem?_eq_none (by simp; omega)] at hy; cases hy), fun j h5 h6 => (by omega), by rw [← h3]; show s.fuel - 1 ≤ s.fuel; omega, ⟨y, by rw [hnn, List.getElem?_set_self (by omega)], by rw [hy]; rfl, by rw [hy]; rfl⟩⟩⟩
                  · intro j z hj hz
                    rw [hnn] at hz
                    by_cases hjm : m = j
                    · subst hjm
                      rw [List.getElem?_set_self (by omega)] at hz
                      injection hz with hz
                      have := hL.wk
                      rw [← hz]
                      omega
                    · rw [List.getElem?_set_ne hjm] at hz
                      exact hL.fin j z (by omega) hz
                  · rw [hnn, drop_set _ _ _ (by omega)]
                    have h5 : (s'.fuel : Int) = s.fuel - 1 := by rw [← h3]; show ((s.fuel - 1 : Nat) : Int) = _; omega
                    have h6 : sumW (y :: s.nodes.drop (m + 1)) = y.work + sumW (s.nodes.drop (m + 1)) := rfl
                    rw [h5, h6, hyw]
                    omega
                · have e : (computeT (payT t) i).number = (payT t).number ∧ (computeT (payT t) i).node = (payT t).node ∧ (computeT (payT t) i).spawned = (payT t).spawned ∧ (computeT (payT t) i).depth = (payT t).depth := by
                    unfold computeT setR
                    repeat' split
                    all_goals exact ⟨rfl, rfl, rfl, rfl⟩
                  obtain ⟨Z, E, hd⟩ := loop_shape g (payS s) (computeT (payT t) i) _ m D v sp s' h (hL.pay.same e.1 e.2.1 e.2.2.1 e.2.2.2)
                  exact ⟨Z, E, hd.pay h0 e.2.1⟩
/-- The whole tree. -/
structure Whole (fs : List Fn) (F : Nat) (v : Int) (s : Rn) (D : List Int) : Prop where
  good : Grows fs (keys s.nodes) D
  len : s.nodes.length = s.tasks
  max : s.depth = maxD D
  fin : ∀ (j : Nat) (y : Nd), s.nodes[j]? = some y → 1 ≤ y.work
  v : ∃ y, s.nodes[0]? = some y ∧ y.v = v
  sum : sumW s.nodes + s.fuel = F
  sub : ∀ j, 1 ≤ j → j < s.tasks → Sub fs F s.nodes j
  low : ∀ (j : Nat) (y : Nd), 1 ≤ j → s.nodes[j]? = some y → 0 ≤ y.parent
theorem run_shape {fs : List Fn} {zs : List Int} {F : Nat} {v sp : Int} {s : Rn} (h : runV fs true zs F = .done v sp s) : ∃ D, Whole fs F v s D := by
  unfold runV playV at h
  rw [if_neg (by show ¬ (4096 : Int) < 1; decide)] at h
  have hL : Lp fs (enterS true (startS F) (rootT zs)) (enterT (startS F) (rootT zs)) 0 [1] :=
    ⟨.one, rfl, rfl, by show 0 < 1; omega, rfl, .refl _, rfl, rfl, rfl, Int.le_refl _, fun j y hj hy => by
      have := (List.getElem?_eq_some_iff.1 hy).1
      have h1 : (enterS true (startS F) (rootT zs)).nodes.length = 1 := rfl
      omega⟩
  obtain ⟨Z, E, hd⟩ := loop_shape _ _ _ 0 0 [1] v sp s h hL
  refine ⟨[1] ++ E, ⟨hd.good, hd.len, hd.max, fun j y hy => hd.fin j y (Nat.zero_le _) hy, hd.v, ?_, hd.sub, fun j y h5 h6 => ?_⟩⟩
  · have h1 := hd.sum
    have h2 : sumW ((enterS true (startS F) (rootT zs)).nodes.drop (0 + 1)) = 0 := rfl
    have h3 : (enterT (startS F) (rootT zs)).node.work = 0 := rfl
    have h4 : (enterS true (startS F) (rootT zs)).fuel = F := rfl
    rw [h2, h3, h4, List.drop_zero] at h1
    omega
  · have h7 : (keys s.nodes)[j]? = some (keyN y) := by simp [keys, h6]
    have h8 : keys (enterS true (startS F) (rootT zs)).nodes = [⟨-1, 0, 0, 1⟩] := rfl
    rw [hd.keys, h8, List.getElem?_append_right (by simpa using h5)] at h7
    exact hd.low _ (List.mem_of_getElem? h7)
theorem run_root {fs : List Fn} {zs : List Int} {F : Nat} {v sp : Int} {s : Rn} (h : runV fs true zs F = .done v sp s) : ∃ y, s.nodes[0]? = some y ∧ y.v = v ∧ y.func = 0 ∧ y.arg = (rootT zs).regs.getD 0 0 := by
  unfold runV playV at h
  rw [if_neg (by show ¬ (4096 : Int) < 1; decide)] at h
  have hL : Lp fs (enterS true (startS F) (rootT zs)) (enterT (startS F) (rootT zs)) 0 [1] :=
    ⟨.one, rfl, rfl, by show 0 < 1; omega, rfl, .refl _, rfl, rfl, rfl, Int.le_refl _, fun j y hj hy => by
      have := (List.getElem?_eq_some_iff.1 hy).1
      have h1 : (enterS true (startS F) (rootT zs)).nodes.length = 1 := rfl
      omega⟩
  obtain ⟨Z, E, hd⟩ := loop_shape _ _ _ 0 0 [1] v sp s h hL
  obtain ⟨y, y1, y2, y3⟩ := hd.nd
  obtain ⟨z, z1, z2⟩ := hd.v
  rw [y1] at z1
  obtain rfl := Option.some.inj z1
  exact ⟨y, y1, z2, y2, y3⟩
end Go.Proofs.YtfccnmgbdkideaaDoor
