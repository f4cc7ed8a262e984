import Derived.Test.YtfccnmgbdkideaaDoorPkAC
import Derived.Test.YtfccnmgbdkideaaDoorPkAV
/-! The shape of the tree of tasks, plainly. -/
namespace Go.Proofs.YtfccnmgbdkideaaDoor
set_option linter.unusedVariables false
set_option maxRecDepth 20000
open Go.RowKit Go.PlainOps

/-- What of a node is fixed when it comes. -/
structure Ky where
  parent : Int
  idx : Int
  func : Int
  ped : Int
def keyN (x : Nd) : Ky := ⟨x.parent, x.idx, x.func, x.ped⟩
def keys (l : List Nd) : List Ky := l.map keyN
/-- How many children a node has. -/
def cntK (K : List Ky) (p : Int) : Nat := (K.filter fun x => x.parent == p).length
/-- From a node up to one above it. -/
inductive Anc (K : List Ky) : Nat → Nat → Prop
  | refl (p : Nat) : Anc K p p
  | up {k q p : Nat} {x : Ky} : K[k]? = some x → x.parent = (q : Int) → Anc K q p → Anc K k p
def spawnsK (fs : List Fn) (f g : Int) : Prop := ∃ i ∈ codeOf fs f, i.kind = 5 ∧ i.b = g
/-- A node that may come behind these. -/
structure NodeOk (fs : List Fn) (K : List Ky) (D : List Int) (x : Ky) (d : Int) (p : Nat) (y : Ky) : Prop where
  at_ : K[p]? = some y
  par : x.parent = (p : Int)
  anc : Anc K (K.length - 1) p
  idx : x.idx = (cntK K p : Int)
  ped : x.ped = pedV y.ped x.idx
  spw : spawnsK fs y.func x.func
  dep : D[p]? = some (d - 1)
inductive Grows (fs : List Fn) : List Ky → List Int → Prop
  | one : Grows fs [⟨-1, 0, 0, 1⟩] [1]
  | more {K : List Ky} {D : List Int} {x : Ky} {d : Int} {p : Nat} {y : Ky} : Grows fs K D → NodeOk fs K D x d p y → Grows fs (K ++ [x]) (D ++ [d])
theorem Grows.len {fs : List Fn} {K : List Ky} {D : List Int} (h : Grows fs K D) : D.length = K.length ∧ 1 ≤ K.length := by
  induction h with
  | one => exact ⟨rfl, Nat.le_refl _⟩
  | more _ _ ih => simp; omega
theorem Grows.first {fs : List Fn} {K : List Ky} {D : List Int} (h : Grows fs K D) : K[0]? = some ⟨-1, 0, 0, 1⟩ ∧ D[0]? = some 1 := by
  induction h with
  | one => exact ⟨rfl, rfl⟩
  | more hg _ ih => have := hg.len; rw [List.getElem?_append_left (by omega), List.getElem?_append_left (by omega)]; exact ih
theorem Grows.at {fs : List Fn} {K : List Ky} {D : List Int} (h : Grows fs K D) : ∀ i : Nat, 0 < i → i < K.length → ∃ x d p y, K[i]? = some x ∧ D[i]? = some d ∧ NodeOk fs (K.take i) (D.take i) x d p y := by
  induction h with
  | one => intro i h0 h1; simp at h1; omega
  | @more K D x d p y hg hn ih =>
    intro i h0 h1
    have hl := hg.len
    simp only [List.length_append, List.length_singleton] at h1
    by_cases hi : i < K.length
    · obtain ⟨x', d', p', y', h2, h3, h4⟩ := ih i h0 hi
      refine ⟨x', d', p', y', by rw [List.getElem?_append_left hi]; exact h2, by rw [List.getElem?_append_left (by omega)]; exact h3, ?_⟩
      rw [List.take_append_of_le_length (by omega), List.take_append_of_le_length (by omega)]
      exact h4
    · have hi2 : i = K.length := by omega
      subst hi2
      refine ⟨x, d, p, y, by simp, by rw [← hl.1]; simp, ?_⟩
      rw [List.take_left, ← hl.1, List.take_left]
      exact hn
theorem Anc.more {K : List Ky} {k p : Nat} (h : Anc K k p) (Z : List Ky) : Anc (K ++ Z) k p := by
  induction h with
  | refl p => exact .refl p
  | up hx hp _ ih => exact .up (by rw [List.getElem?_append_left (List.getElem?_eq_some_iff.1 hx).1]; exact hx) hp ih
theorem Anc.trans {K : List Ky} {k q p : Nat} (h : Anc K k q) (h2 : Anc K q p) : Anc K k p := by
  induction h with
  | refl p => exact h2
  | up hx hp _ ih => exact .up hx hp (ih h2)
theorem cnt_app (K Z : List Ky) (p : Int) : cntK (K ++ Z) p = cntK K p + cntK Z p := by simp [cntK]
theorem cnt_none {Z : List Ky} {p : Int} (h : ∀ z ∈ Z, p < z.parent) : cntK Z p = 0 := by
  unfold cntK
  rw [List.length_eq_zero_iff, List.filter_eq_nil_iff]
  intro z hz
  have := h z hz
  simp
  omega
def maxD (D : List Int) : Int := D.foldl imax 0
theorem max_app (D : List Int) (d : Int) : maxD (D ++ [d]) = imax (maxD D) d := by simp [maxD]
def sumW (l : List Nd) : Int := (l.map Nd.work).foldr (· + ·) 0
theorem sum_app (a b : List Nd) : sumW (a ++ b) = sumW a + sumW b := by
  induction a with
  | nil => simp [sumW]
  | cons x a ih => simp only [sumW, List.map_cons, List.foldr_cons, List.cons_append] at ih ⊢; omega

theorem Grows.dep1 {fs : List Fn} {K : List Ky} {D : List Int} (h : Grows fs K D) : ∀ (i : Nat) (d : Int), D[i]? = some d → 1 ≤ d := by
  induction h with
  | one => intro i d hd; cases i with
    | zero => simp at hd; omega
    | succ i => simp at hd
  | @more K D x d p y hg hn ih =>
    intro i e he
    by_cases hi : i < D.length
    · rw [List.getElem?_append_left hi] at he
      exact ih i e he
    · rw [List.getElem?_append_right (by omega)] at he
      have hi2 : i - D.length = 0 := by
        have := (List.getElem?_eq_some_iff.1 he).1
        simp at this
        omega
      rw [hi2] at he
      simp at he
      have h1 := ih p (d - 1) hn.dep
      omega
structure Lp (fs : List Fn) (s : Rn) (t : Tk) (m : Nat) (D : List Int) : Prop where
  good : Grows fs (keys s.nodes) D
  len : s.nodes.length = s.tasks
  num : t.number = (m : Int)
  lt : m < s.tasks
  own : (keys s.nodes)[m]? = some (keyN t.node)
  anc : Anc (keys s.nodes) (s.tasks - 1) m
  cnt : t.spawned = (cntK (keys s.nodes) m : Int)
  dep : D[m]? = some t.depth
  max : s.depth = maxD D
  wk : 0 ≤ t.node.work
  fin : ∀ (j : Nat) (y : Nd), m < j → s.nodes[j]? = some y → 1 ≤ y.work
theorem Lp.pay {fs : List Fn} {s : Rn} {t : Tk} {m : Nat} {D : List Int} (h : Lp fs s t m D) : Lp fs (payS s) (payT t) m D :=
  ⟨h.good, h.len, h.num, h.lt, h.own, h.anc, h.cnt, h.dep, h.max, by show 0 ≤ t.node.work + 1; have := h.wk; omega, h.fin⟩
theorem Lp.same {fs : List Fn} {s : Rn} {t t' : Tk} {m : Nat} {D : List Int} (h : Lp fs s t m D) (h1 : t'.number = t.number) (h2 : t'.node = t.node) (h3 : t'.spawned = t.spawned) (h4 : t'.depth = t.depth) : Lp fs s t' m D :=
  ⟨h.good, h.len, h1.trans h.num, h.lt, by rw [h2]; exact h.own, h.anc, h3.trans h.cnt, by rw [h4]; exact h.dep, h.max, by rw [h2]; exact h.wk, h.fin⟩
/-- The part of a list of nodes that a task's own run has made. -/
structure SubOk (fs : List Fn) (B : Nat) (L : List Nd) (j : Nat) (g : Nat) (s0 : Rn) (c : Tk) (v sp : Int) (s2 : Rn) : Prop where
  run : loopV fs true g (enterS true s0 c) (enterT s0 c) 0 = .done v sp s2
  tasks : s0.tasks = j
  slots : c.slots = List.replicate 8 0
  regs : ∃ R from_, c.regs = argsV R from_ (parV fs c.node.func).toNat
  dep : 1 ≤ c.depth ∧ c.depth ≤ 4096
  fuel : s0.fuel ≤ B
  lt : j < s2.tasks
  le : s2.tasks ≤ L.length
  same : ∀ q, j ≤ q → q < s2.tasks → L[q]? = s2.nodes[q]?
  next : ∀ y, L[s2.tasks]? = some y → y.parent < (j : Int)
  sum : sumW (s2.nodes.drop j) + s2.fuel = s0.fuel
  node : ∃ y, s2.nodes[j]? = some y ∧ y.v = v ∧ y.func = c.node.func ∧ y.arg = c.regs.getD 0 0
  low : ∀ q y, j < q → q < s2.tasks → L[q]? = some y → (j : Int) ≤ y.parent
  len : s2.nodes.length = s2.tasks
def Sub (fs : List Fn) (B : Nat) (L : List Nd) (j : Nat) : Prop := ∃ g s0 c v sp s2, SubOk fs B L j g s0 c v sp s2
theorem Sub.lift {fs : List Fn} {B B' : Nat} {L L' : List Nd} {j : Nat} (h : Sub fs B L j) (hs : ∀ q, j ≤ q → q < L.length → L'[q]? = L[q]?) (hl : L.length ≤ L'.length) (hn : ∀ y, L'[L.length]? = some y → y.parent < (j : Int)) (hB : B ≤ B') : Sub fs B' L' j := by
  obtain ⟨g, s0, c, v, sp, s2, h⟩ := h
  have h1 := h.le
  have h2 := h.lt
  refine ⟨g, s0, c, v, sp, s2, h.run, h.tasks, h.slots, h.regs, h.dep, Nat.le_trans h.fuel hB, h.lt, Nat.le_trans h.le hl, fun q h3 h4 => (hs q h3 (by omega)).trans (h.same q h3 h4), fun y hy => ?_, h.sum, h.node, fun q y h3 h4 h5 => h.low q y h3 h4 (by rw [← hs q (by omega) (by omega)]; exact h5), h.len⟩
  by_cases he : s2.tasks = L.length
  · rw [he] at hy; exact hn y hy
  · rw [hs _ (by omega) (by omega)] at hy; exact h.next y hy
/-- What a task has done when it is done. -/
structure Dn (fs : List Fn) (s : Rn) (t : Tk) (m : Nat) (D : List Int) (v : Int) (s' : Rn) (Z : List Ky) (E : List Int) : Prop where
  keys : keys s'.nodes = keys s.nodes ++ Z
  good : Grows fs (Go.Proofs.YtfccnmgbdkideaaDoor.keys s'.nodes) (D ++ E)
  len : s'.nodes.length = s'.tasks
  le : s.tasks ≤ s'.tasks
  anc : Anc (Go.Proofs.YtfccnmgbdkideaaDoor.keys s'.nodes) (s'.tasks - 1) m
  low : ∀ z ∈ Z, (m : Int) ≤ z.parent
  max : s'.depth = maxD (D ++ E)
  fin : ∀ (j : Nat) (y : Nd), m ≤ j → s'.nodes[j]? = some y → 1 ≤ y.work
  v : ∃ y, s'.nodes[m]? = some y ∧ y.v = v
  sum : sumW (s'.nodes.drop m) + s'.fuel = sumW (s.nodes.drop (m + 1)) + t.node.work + s.fuel
  front : s'.nodes.take m = s.nodes.take m
  mid : ∀ q, m < q → q < s.tasks → s'.nodes[q]? = s.nodes[q]?
  head : ∀ y, s'.nodes[s.tasks]? = some y → y.parent = (m : Int)
  sub : ∀ j, s.tasks ≤ j → j < s'.tasks → Sub fs s.fuel s'.nodes j
  fu : s'.fuel ≤ s.fuel
  nd : ∃ y, s'.nodes[m]? = some y ∧ y.func = t.node.func ∧ y.arg = t.node.arg
theorem Dn.pay {fs : List Fn} {s s' : Rn} {t t' : Tk} {m : Nat} {D E : List Int} {v : Int} {Z : List Ky} (h : Dn fs (payS s) t' m D v s' Z E) (h0 : s.fuel ≠ 0) (hw : t'.node = (payT t).node) : Dn fs s t m D v s' Z E :=
  ⟨h.keys, h.good, h.len, h.le, h.anc, h.low, h.max, h.fin, h.v, by
    have h1 := h.sum
    have h2 : ((payS s).fuel : Int) = s.fuel - 1 := by show ((s.fuel - 1 : Nat) : Int) = _; omega
    have h3 : (payS s).nodes = s.nodes := rfl
    rw [h2, h3, hw] at h1
    have h4 : (payT t).node.work = t.node.work + 1 := rfl
    omega, h.front, h.mid, h.head, fun j h1 h2 => (h.sub j h1 h2).lift (fun _ _ _ => rfl) (Nat.le_refl _) (fun y hy => by rw [List.getElem?_eq_none (Nat.le_refl _)] at hy; cases hy) (by show s.fuel - 1 ≤ s.fuel; omega), Nat.le_trans h.fu (by show s.fuel - 1 ≤ s.fuel; omega), by obtain ⟨y, y1, y2, y3⟩ := h.nd; exact ⟨y, y1, by rw [y2, hw]; rfl, by rw [y3, hw]; rfl⟩⟩
theorem map_set_same {l : List Nd} {m : Nat} {y : Nd} (h : (keys l)[m]? = some (keyN y)) : keys (l.set m y) = keys l := by
  unfold keys at h ⊢
  rw [List.map_set]
  apply List.ext_getElem?
  intro j
  by_cases hj : m = j
  · subst hj
    rw [List.getElem?_set_self (List.getElem?_eq_some_iff.1 h).1, h]
  · rw [List.getElem?_set_ne hj]
theorem drop_set (l : List Nd) (m : Nat) (y : Nd) (h : m < l.length) : (l.set m y).drop m = y :: l.drop (m + 1) := by
  rw [List.drop_eq_getElem_cons (by simpa using h), List.getElem_set_self, List.drop_set_of_lt (by omega)]
theorem loop_shape {fs : List Fn} : ∀ (g : Nat) (s : Rn) (t : Tk) (at_ : Nat) (m : Nat) (D : List Int) (v sp : Int) (s' : Rn), loopV fs true g s t at_ = .done v sp s' → Lp fs s t m D → ∃ Z E, Dn fs s t m D v s' Z E
  | 0, s, t, at_, m, D, v, sp, s', h, _ => by simp [loopV] at h
  | g + 1, s, t, at_, m, D, v, sp, s', h, hL => by
    unfold loopV at h
    split at h
    · cases h
    · rename_i h0
      split at h
      · cases h
      · rename_i i hi
        split at h
        · obtain ⟨Z, E, hd⟩ := loop_shape g (payS s) (payT t) _ m D v sp s' h hL.pay
          exact ⟨Z, E, hd.pay h0 rfl⟩
        · split at h
          · obtain ⟨Z, E, hd⟩ := loop_shape g (payS s) (payT t) _ m D v sp s' h hL.pay
            exact ⟨Z, E, hd.pay h0 rfl⟩
          · split at h
            · rename_i hk5
              split at h
              · cases h
              · rename_i hdp
                split at h
                · cases h
                · rename_i v1 sp1 s2 hr
                  have hn := hL.num
                  have hl := hL.len
                  have hgl := hL.good.len
                  have hkl : (keys s.nodes).length = s.tasks := by simp [keys, hl]
                  obtain ⟨cn, hcn⟩ : ∃ cn, cn = (enterT (payS s) (childV fs (payT t) i)).node := ⟨_, rfl⟩
                  have hcnk : keyN cn = ⟨m, cntK (keys s.nodes) m, i.b, pedV t.node.ped (cntK (keys s.nodes) m)⟩ := by
                    rw [hcn, ← hL.cnt, ← hn]
                    rfl
                  have hnodes : (enterS true (payS s) (childV fs (payT t) i)).nodes = s.nodes ++ [cn] := by rw [hcn]; rfl
                  have hkeys : keys (s.nodes ++ [cn]) = keys s.nodes ++ [keyN cn] := by simp [keys]
                  have hok : NodeOk fs (keys s.nodes) D (keyN cn) (t.depth + 1) m (keyN t.node) := ⟨hL.own, by rw [hcnk], by rw [hkl]; exact hL.anc, by rw [hcnk], by rw [hcnk]; rfl, ⟨i, List.mem_of_getElem? hi, hk5, by rw [hcnk]⟩, by rw [hL.dep]; congr 1; omega⟩
                  have hLc : Lp fs (enterS true (payS s) (childV fs (payT t) i)) (enterT (payS s) (childV fs (payT t) i)) s.tasks (D ++ [t.depth + 1]) := by
                    refine ⟨?_, ?_, rfl, by show s.tasks < s.tasks + 1; omega, ?_, ?_, ?_, ?_, ?_, ?_, ?_⟩
                    · rw [hnodes, hkeys]; exact hL.good.more hok
                    · rw [hnodes]; show _ = s.tasks + 1; simp [hl]
                    · rw [hnodes, hkeys, ← hkl, ← hcn]; simp
                    · exact .refl _
                    · show (0 : Int) = _
                      rw [hnodes, hkeys, cnt_app]
                      have e1 : cntK (keys s.nodes) ((s.tasks : Nat) : Int) = 0 := by
                        unfold cntK
                        rw [List.length_eq_zero_iff, List.filter_eq_nil_iff]
                        intro z hz
                        obtain ⟨j, hj, hzj⟩ := List.getElem_of_mem hz
                        simp only [beq_iff_eq]
                        intro he
                        by_cases hj0 : j = 0
                        · subst hj0
                          have h1 := hL.good.first.1
                          rw [List.getElem?_eq_getElem hj, hzj] at h1
                          injection h1 with h1
                          rw [h1] at he
                          have he2 : (-1 : Int) = (s.tasks : Int) := he
                          omega
                        · obtain ⟨x, d, p, y, h1, h2, h3⟩ := hL.good.at j (by omega) hj
                          rw [List.getElem?_eq_getElem hj, hzj] at h1
                          injection h1 with h1
                          have h4 := (List.getElem?_eq_some_iff.1 h3.at_).1
                          have h5 := h3.par
                          rw [← h1, he] at h5
                          simp at h4
                          omega
                      have e2 : cntK [keyN cn] ((s.tasks : Nat) : Int) = 0 := by
                        have := hL.lt
                        rw [hcnk]
                        simp [cntK]
                        omega
                      rw [e1, e2]
                      rfl
                    · rw [← hkl, ← hgl.1]
                      simp
                      rfl
                    · rw [max_app, ← hL.max]
                      rfl
                    · exact Int.le_refl _
                    · intro j y hj hy
                      rw [hnodes] at hy
                      have := (List.getElem?_eq_some_iff.1 hy).1
                      simp at this
                      omega
                  obtain ⟨Z1, E1, hd1⟩ := loop_shape g _ _ 0 s.tasks (D ++ [t.depth + 1]) v1 sp1 s2 hr hLc
                  have hfr : s2.nodes = s.nodes ++ s2.nodes.drop s.tasks := by
                    have h1 := hd1.front
                    rw [hnodes, ← hl, List.take_left] at h1
                    conv => lhs; rw [← List.take_append_drop s.nodes.length s2.nodes, h1]
                    rw [hl]
                  have hk2 : keys s2.nodes = keys s.nodes ++ (keyN cn :: Z1) := by rw [hd1.keys, hnodes, hkeys]; simp
                  have hle : s.tasks + 1 ≤ s2.tasks := hd1.le
                  have hLt : Lp fs s2 (gotT (spawnT (payT t)) i.a.toNat v1 sp1) m (D ++ [t.depth + 1] ++ E1) := by
                    have hlt := hL.lt
                    refine ⟨hd1.good, hd1.len, hn, by omega, ?_, ?_, ?_, ?_, hd1.max, ?_, ?_⟩
                    · rw [hk2, List.getElem?_append_left (by omega)]; exact hL.own
                    · refine hd1.anc.trans (.up (x := keyN cn) ?_ (by rw [hcnk]) (.refl m))
                      rw [hk2, List.getElem?_append_right (by omega), hkl]
                      simp
                    · show t.spawned + 1 = _
                      rw [hk2, cnt_app, show keyN cn :: Z1 = [keyN cn] ++ Z1 from rfl, cnt_app, cnt_none (Z := Z1) (fun z hz => by have := hd1.low z hz; omega), hL.cnt]
                      have e2 : cntK [keyN cn] (m : Int) = 1 := by rw [hcnk]; simp [cntK]
                      rw [e2]
                      simp
                    · show _ = some t.depth
                      rw [List.append_assoc, List.getElem?_append_left (by omega)]
                      exact hL.dep
                    · show 0 ≤ t.node.work + 1
                      have := hL.wk
                      omega
                    · intro j y hj hy
                      by_cases hjc : j < s.tasks
                      · rw [hfr, List.getElem?_append_left (by omega)] at hy
                        exact hL.fin j y hj hy
                      · exact hd1.fin j y (by omega) hy
                  obtain ⟨Z2, E2, hd2⟩ := loop_shape g s2 _ _ m (D ++ [t.depth + 1] ++ E1) v sp s' h hLt
                  have hlt := hL.lt
                  refine ⟨(keyN cn :: Z1) ++ Z2, ([t.depth + 1] ++ E1) ++ E2, ⟨by rw [hd2.keys, hk2, List.append_assoc], by have := hd2.good; simpa using this, hd2.len, by have := hd2.le; omega, hd2.anc, ?_, by have := hd2.max; simpa using this, hd2.fin, hd2.v, ?_, ?_, ?_, ?_, ?_, ?_, hd2.nd⟩⟩
                  · intro z hz
                    rcases List.mem_append.1 hz with hz | hz
                    · rcases List.mem_cons.1 hz with hz | hz
                      · subst hz; rw [hcnk]; exact Int.le_refl _
                      · have := hd1.low z hz; omega
                    · exact hd2.low z hz
                  · have h1 := hd2.sum
                    have h2 := hd1.sum
                    have h3 : sumW (s2.nodes.drop (m + 1)) = sumW (s.nodes.drop (m + 1)) + sumW (s2.nodes.drop s.tasks) := by
                      conv => lhs; rw [hfr]
                      rw [List.drop_append_of_le_length (by omega), sum_app]
                    have h4 : sumW ((enterS true (payS s) (childV fs (payT t) i)).nodes.drop (s.tasks + 1)) = 0 := by
                      rw [hnodes, List.drop_eq_nil_of_le (by simp; omega)]
                      rfl
                    have h5 : (((enterS true (payS s) (childV fs (payT t) i)).fuel : Nat) : Int) = s.fuel - 1 := by show ((s.fuel - 1 : Nat) : Int) = _; omega
                    have h6 : (enterT (payS s) (childV fs (payT t) i)).node.work = 0 := rfl
                    have h7 : (gotT (spawnT (payT t)) i.a.toNat v1 sp1).node.work = t.node.work + 1 := rfl
                    rw [h4, h5, h6] at h2
                    rw [h3, h7] at h1
                    omega
                  · rw [hd2.front, hfr, List.take_append_of_le_length (by omega)]
                  · intro q hq1 hq2
                    rw [hd2.mid q hq1 (by omega), hfr, List.getElem?_append_left (by omega)]
                  · intro y hy
                    rw [hd2.mid s.tasks hlt (by omega)] at hy
                    have h1 : (keys s2.nodes)[s.tasks]? = some (keyN y) := by simp [keys, hy]
                    rw [hk2, List.getElem?_append_right (by omega), hkl, Nat.sub_self] at h1
                    simp at h1
                    have h2 : (keyN y).parent = (m : Int) := by rw [← h1, hcnk]
                    exact h2
                  · intro j hj1 hj2
                    have hl2 := hd1.len
                    have hl3 := hd2.len
                    have hf1 : s2.fuel ≤ s.fuel := Nat.le_trans hd1.fu (by show s.fuel - 1 ≤ s.fuel; omega)
                    have up : ∀ B, Sub fs B s2.nodes j → B ≤ s.fuel → Sub fs s.fuel s'.nodes j := fun B hs hB => hs.lift (fun q h1 h2 => hd2.mid q (by omega) (by omega)) (by have := hd2.le; omega) (fun y hy => by rw [hl2] at hy; have := hd2.head y hy; omega) hB
                    by_cases hj3 : j < s2.tasks
                    · by_cases hj4 : j = s.tasks
                      · subst hj4
                        refine up _ ⟨g, payS s, childV fs (payT t) i, v1, sp1, s2, hr, rfl, rfl, ⟨_, _, rfl⟩, ⟨?_, by omega⟩, Nat.le_refl _, by omega, by omega, fun q h1 h2 => rfl, fun y hy => ?_, ?_, ?_, ?_, hd1.len⟩ (by show s.fuel - 1 ≤ s.fuel; omega)
                        · show 1 ≤ t.depth + 1
                          have := hL.good.dep1 m _ hL.dep
                          omega
                        · rw [List.getElem?_eq_none (by omega)] at hy; cases hy
                        · have h2 := hd1.sum
                          have h4 : sumW ((enterS true (payS s) (childV fs (payT t) i)).nodes.drop (s.tasks + 1)) = 0 := by
                            rw [hnodes, List.drop_eq_nil_of_le (by simp; omega)]
                            rfl
                          have h6 : (enterT (payS s) (childV fs (payT t) i)).node.work = 0 := rfl
                          have h7 : (enterS true (payS s) (childV fs (payT t) i)).fuel = (payS s).fuel := rfl
                          rw [h4, h6, h7] at h2
                          omega
                        · obtain ⟨y, y1, y2, y3⟩ := hd1.nd
                          obtain ⟨z, z1, z2⟩ := hd1.v
                          rw [y1] at z1
                          obtain rfl := Option.some.inj z1
                          exact ⟨y, y1, z2, y2, y3⟩
                        · intro q y h1 h2 hy
                          have h3 : (keys s2.nodes)[q]? = some (keyN y) := by simp [keys, hy]
                          rw [hk2, List.getElem?_append_right (by omega), hkl] at h3
                          obtain ⟨p, hp⟩ : ∃ p, q - s.tasks = p + 1 := ⟨q - s.tasks - 1, by omega⟩
                          rw [hp, List.getElem?_cons_succ] at h3
                          exact hd1.low _ (List.mem_of_getElem? h3)
                      · exact up _ (hd1.sub j (by show s.tasks + 1 ≤ j; omega) hj3) (by show s.fuel - 1 ≤ s.fuel; omega)
                    · exact (hd2.sub j (by omega) hj2).lift (fun _ _ _ => rfl) (Nat.le_refl _) (fun y hy => by rw [List.getElem?_eq_none (Nat.le_refl _)] at hy; cases hy) hf1
                  · exact Nat.le_trans hd2.fu (Nat.le_trans hd1.fu (by show s.fuel - 1 ≤ s.fuel; omega))
            · split at h
              · obtain ⟨Z, E, hd⟩ := loop_shape g (payS s) (waitT (payT t)) _ m D v sp s' h (hL.pay.same rfl rfl rfl rfl)
                exact ⟨Z, E, hd.pay h0 rfl⟩
              · split at h
                · injection h with h1 h2 h3
                  have hn := hL.num
                  have hlt := hL.lt
                  have hl := hL.len
                  obtain ⟨y, hy⟩ : ∃ y, y = (endT (payT t) (t.regs.getD i.a.toNat 0)).node := ⟨_, rfl⟩
                  have hnn : s'.nodes = s.nodes.set m y := by
                    rw [← h3, hy]
                    show s.nodes.set t.number.toNat _ = _
                    rw [hn]
                    rfl
                  have hkk : keys s'.nodes = keys s.nodes := by rw [hnn]; exact map_set_same (by rw [hL.own, hy]; rfl)
                  have htk : s'.tasks = s.tasks := by rw [← h3]; rfl
                  have hyw : y.work = t.node.work + 1 := by rw [hy]; rfl
                  refine ⟨[], [], ⟨by rw [hkk, List.append_nil], by rw [hkk, List.append_nil]; exact hL.good, by rw [hnn, htk]; simpa using hl, by omega, by rw [hkk, htk]; exact hL.anc, fun z hz => (by cases hz), by rw [List.append_nil, ← hL.max, ← h3]; rfl, ?_, ⟨y, by rw [hnn, List.getElem?_set_self (by omega)], by rw [hy, ← h1]; rfl⟩, ?_, by rw [hnn, List.take_set_of_le (Nat.le_refl _)], fun q h5 h6 => by rw [hnn, List.getElem?_set_ne (by omega)], fun y hy => (by rw [hnn, List.getElem?_eq_none (by simp; omega)] at hy; cases hy), fun j h5 h6 => (by omega), by rw [← h3]; show s.fuel - 1 ≤ s.fuel; omega, ⟨y, by rw [hnn, List.getElem?_set_self (by omega)], by rw [hy]; rfl, by rw [hy]; rfl⟩⟩⟩
                  · intro j z hj hz
                    rw [hnn] at hz
                    by_cases hjm : m = j
                    · subst hjm
                      rw [List.getElem?_set_self (by omega)] at hz
                      injection hz with hz
                      have := hL.wk
                      rw [← hz]
                      omega
                    · rw [List.getElem?_set_ne hjm] at hz
                      exact hL.fin j z (by omega) hz
                  · rw [hnn, drop_set _ _ _ (by omega)]
                    have h5 : (s'.fuel : Int) = s.fuel - 1 := by rw [← h3]; show ((s.fuel - 1 : Nat) : Int) = _; omega
                    have h6 : sumW (y :: s.nodes.drop (m + 1)) = y.work + sumW (s.nodes.drop (m + 1)) := rfl
                    rw [h5, h6, hyw]
                    omega
                · have e : (computeT (payT t) i).number = (payT t).number ∧ (computeT (payT t) i).node = (payT t).node ∧ (computeT (payT t) i).spawned = (payT t).spawned ∧ (computeT (payT t) i).depth = (payT t).depth := by
                    unfold computeT setR
                    repeat' split
                    all_goals exact ⟨rfl, rfl, rfl, rfl⟩
                  obtain ⟨Z, E, hd⟩ := loop_shape g (payS s) (computeT (payT t) i) _ m D v sp s' h (hL.pay.same e.1 e.2.1 e.2.2.1 e.2.2.2)
                  exact ⟨Z, E, hd.pay h0 e.2.1⟩
/-- The whole tree. -/
structure Whole (fs : List Fn) (F : Nat) (v : Int) (s : Rn) (D : List Int) : Prop where
  good : Grows fs (keys s.nodes) D
  len : s.nodes.length = s.tasks
  max : s.depth = maxD D
  fin : ∀ (j : Nat) (y : Nd), s.nodes[j]? = some y → 1 ≤ y.work
  v : ∃ y, s.nodes[0]? = some y ∧ y.v = v
  sum : sumW s.nodes + s.fuel = F
  sub : ∀ j, 1 ≤ j → j < s.tasks → Sub fs F s.nodes j
  low : ∀ (j : Nat) (y : Nd), 1 ≤ j → s.nodes[j]? = some y → 0 ≤ y.parent
theorem run_shape {fs : List Fn} {zs : List Int} {F : Nat} {v sp : Int} {s : Rn} (h : runV fs true zs F = .done v sp s) : ∃ D, Whole fs F v s D := by
  unfold runV playV at h
  rw [if_neg (by show ¬ (4096 : Int) < 1; decide)] at h
  have hL : Lp fs (enterS true (startS F) (rootT zs)) (enterT (startS F) (rootT zs)) 0 [1] :=
    ⟨.one, rfl, rfl, by show 0 < 1; omega, rfl, .refl _, rfl, rfl, rfl, Int.le_refl _, fun j y hj hy => by
      have := (List.getElem?_eq_some_iff.1 hy).1
      have h1 : (enterS true (startS F) (rootT zs)).nodes.length = 1 := rfl
      omega⟩
  obtain ⟨Z, E, hd⟩ := loop_shape _ _ _ 0 0 [1] v sp s h hL
  refine ⟨[1] ++ E, ⟨hd.good, hd.len, hd.max, fun j y hy => hd.fin j y (Nat.zero_le _) hy, hd.v, ?_, hd.sub, fun j y h5 h6 => ?_⟩⟩
  · have h1 := hd.sum
    have h2 : sumW ((enterS true (startS F) (rootT zs)).nodes.drop (0 + 1)) = 0 := rfl
    have h3 : (enterT (startS F) (rootT zs)).node.work = 0 := rfl
    have h4 : (enterS true (startS F) (rootT zs)).fuel = F := rfl
    rw [h2, h3, h4, List.drop_zero] at h1
    omega
  · have h7 : (keys s.nodes)[j]? = some (keyN y) := by simp [keys, h6]
    have h8 : keys (enterS true (startS F) (rootT zs)).nodes = [⟨-1, 0, 0, 1⟩] := rfl
    rw [hd.keys, h8, List.getElem?_append_right (by simpa using h5)] at h7
    exact hd.low _ (List.mem_of_getElem? h7)
theorem run_root {fs : List Fn} {zs : List Int} {F : Nat} {v sp : Int} {s : Rn} (h : runV fs true zs F = .done v sp s) : ∃ y, s.nodes[0]? = some y ∧ y.v = v ∧ y.func = 0 ∧ y.arg = (rootT zs).regs.getD 0 0 := by
  unfold runV playV at h
  rw [if_neg (by show ¬ (4096 : Int) < 1; decide)] at h
  have hL : Lp fs (enterS true (startS F) (rootT zs)) (enterT (startS F) (rootT zs)) 0 [1] :=
    ⟨.one, rfl, rfl, by show 0 < 1; omega, rfl, .refl _, rfl, rfl, rfl, Int.le_refl _, fun j y hj hy => by
      have := (List.getElem?_eq_some_iff.1 hy).1
      have h1 : (enterS true (startS F) (rootT zs)).nodes.length = 1 := rfl
      omega⟩
  obtain ⟨Z, E, hd⟩ := loop_shape _ _ _ 0 0 [1] v sp s h hL
  obtain ⟨y, y1, y2, y3⟩ := hd.nd
  obtain ⟨z, z1, z2⟩ := hd.v
  rw [y1] at z1
  obtain rfl := Option.some.inj z1
  exact ⟨y, y1, z2, y2, y3⟩
end Go.Proofs.YtfccnmgbdkideaaDoor
/-! A task's run is the run of its function as the entry of the swapped program. -/
namespace Go.Proofs.YtfccnmgbdkideaaDoor
set_option linter.unusedVariables false
set_option maxRecDepth 20000
open Go.RowKit Go.PlainOps

structure SimT (l : List Fn) (F : Nat) (t t' : Tk) : Prop where
  regs : t'.regs = t.regs
  slots : t'.slots = t.slots
  func : t'.node.func = rho F t.node.func
  fun0 : 0 ≤ t.node.func ∧ t.node.func < l.length
  dep : t'.depth ≤ t.depth
theorem SimT.pay {l : List Fn} {F : Nat} {t t' : Tk} (h : SimT l F t t') : SimT l F (payT t) (payT t') := ⟨h.regs, h.slots, h.func, h.fun0, h.dep⟩
theorem SimT.wait {l : List Fn} {F : Nat} {t t' : Tk} (h : SimT l F t t') : SimT l F (waitT t) (waitT t') := ⟨h.regs, h.slots, h.func, h.fun0, h.dep⟩
theorem SimT.got {l : List Fn} {F : Nat} {t t' : Tk} (h : SimT l F t t') (a : Nat) (v sp sp' : Int) : SimT l F (gotT (spawnT t) a v sp) (gotT (spawnT t') a v sp') :=
  ⟨h.regs, by show t'.slots.set a v = t.slots.set a v; rw [h.slots], h.func, h.fun0, h.dep⟩
theorem SimT.setR {l : List Fn} {F : Nat} {t t' : Tk} (h : SimT l F t t') (a : Nat) (x : Int) : SimT l F (setR t a x) (setR t' a x) :=
  ⟨by show t'.regs.set a x = t.regs.set a x; rw [h.regs], h.slots, h.func, h.fun0, h.dep⟩
theorem SimT.comp {l : List Fn} {F : Nat} {t t' : Tk} (h : SimT l F t t') {i : Ins} (h8 : i.kind ≠ 8) : SimT l F (computeT t i) (computeT t' i) := by
  unfold computeT
  rw [h.regs, h.slots]
  repeat' split
  all_goals first
    | exact h.setR _ _
    | (exfalso; exact h8 (by assumption))
    | exact h
theorem SimT.child {l : List Fn} {F : Nat} (hF : F < l.length) {t t' : Tk} (h : SimT l F t t') {i : Ins} (h5 : i.kind = 5) (hb : 0 ≤ i.b ∧ i.b < l.length) : SimT l F (childV l t i) (childV (swapL l F) t' (insR F i)) := by
  refine ⟨?_, rfl, ?_, hb, ?_⟩
  · show argsV t'.regs (insR F i).c.toNat (parV (swapL l F) (insR F i).b).toNat = argsV t.regs i.c.toNat (parV l i.b).toNat
    rw [h.regs, insR_c, insR_b5 h5, par_swap hF hb.1]
  · show (insR F i).b = rho F i.b
    exact insR_b5 h5
  · show t'.depth + 1 ≤ t.depth + 1
    have := h.dep
    omega
theorem SimT.enter {l : List Fn} {F : Nat} {t t' : Tk} (h : SimT l F t t') (s s' : Rn) : SimT l F (enterT s t) (enterT s' t') := ⟨h.regs, h.slots, h.func, h.fun0, h.dep⟩
def noPed (l : List Fn) : Prop := ∀ f ∈ l, ∀ i ∈ f.code, i.kind ≠ 8
theorem loop_sim {l : List Fn} {F : Nat} (hF : F < l.length) (hA : AllV l) (hp : noPed l) : ∀ (g : Nat) (s : Rn) (t : Tk) (at_ : Nat) (v sp : Int) (s2 : Rn), loopV l true g s t at_ = .done v sp s2 → ∀ (e d : Nat) (s' : Rn) (t' : Tk), s'.fuel = s.fuel + d → SimT l F t t' →
    ∃ sp' s2', loopV (swapL l F) false (g + e) s' t' at_ = .done v sp' s2' ∧ s2'.fuel = s2.fuel + d ∧ s2'.tasks + s.tasks = s2.tasks + s'.tasks
  | 0, s, t, at_, v, sp, s2, h, e, d, s', t', hf, hS => by simp [loopV] at h
  | g + 1, s, t, at_, v, sp, s2, h, e, d, s', t', hf, hS => by
    by_cases h0 : s.fuel = 0
    · rw [loop_out h0] at h; cases h
    · have h0' : s'.fuel ≠ 0 := by omega
      have hpf : (payS s').fuel = (payS s).fuel + d := by simp [payS]; omega
      obtain ⟨f, hfl, hfm, hcf, hV, hok⟩ := hA.fn hS.fun0
      have hcs : (codeOf (swapL l F) t'.node.func) = f.code.map (insR F) := by rw [hS.func, code_swap hF hS.fun0.1, hcf]
      cases hi : f.code[at_]? with
      | none =>
        have hic : (codeOf l t.node.func)[at_]? = none := by rw [hcf]; exact hi
        exfalso
        unfold loopV at h
        rw [if_neg h0, hic] at h
        cases h
      | some i =>
        have hic : (codeOf l t.node.func)[at_]? = some i := by rw [hcf]; exact hi
        have hic' : (codeOf (swapL l F) t'.node.func)[at_]? = some (insR F i) := by rw [hcs, List.getElem?_map, hi]; rfl
        have so := step_ok hV hi
        have h8 := hp f hfm i (List.mem_of_getElem? hi)
        have eg : g + 1 + e = (g + e) + 1 := by omega
        rw [eg]
        have hcases : i.kind = 3 ∨ i.kind = 4 ∨ i.kind = 5 ∨ i.kind = 6 ∨ i.kind = 9 ∨ (i.kind = 0 ∨ i.kind = 1 ∨ i.kind = 2 ∨ i.kind = 7 ∨ i.kind = 8) := by have := so.kind; omega
        rcases hcases with hk | hk | hk | hk | hk | hk
        · rw [loop_jump h0 hic hk] at h
          rw [loop_jump h0' hic' (by rw [insR_kind]; exact hk), insR_a]
          exact loop_sim hF hA hp g _ _ _ v sp s2 h e d _ _ hpf hS.pay
        · rw [loop_branch h0 hic hk] at h
          rw [loop_branch h0' hic' (by rw [insR_kind]; exact hk), insR_a, insR_b (by omega), hS.regs]
          exact loop_sim hF hA hp g _ _ _ v sp s2 h e d _ _ hpf hS.pay
        · rw [loop_spawn h0 hic hk] at h
          rw [loop_spawn h0' hic' (by rw [insR_kind]; exact hk), insR_a]
          have hc := hS.pay.child hF hk (so.fn hk)
          cases hpl : playV l true g (payS s) (childV l (payT t) i) with
          | gave x => rw [hpl] at h; cases h
          | done v1 sp1 s1 =>
            rw [hpl] at h
            simp only at h
            unfold playV at hpl ⊢
            by_cases hd : 4096 < (childV l (payT t) i).depth
            · rw [if_pos hd] at hpl; cases hpl
            · rw [if_neg hd] at hpl
              rw [if_neg (by have := hc.dep; omega)]
              obtain ⟨sp1', s1', q1, q2, q3⟩ := loop_sim hF hA hp g _ _ 0 v1 sp1 s1 hpl e d (enterS false (payS s') (childV (swapL l F) (payT t') (insR F i))) (enterT (payS s') (childV (swapL l F) (payT t') (insR F i))) hpf (hc.enter _ _)
              rw [q1]
              simp only
              obtain ⟨sp2', s2', r1, r2, r3⟩ := loop_sim hF hA hp g s1 _ _ v sp s2 h e d s1' _ q2 (hS.pay.got i.a.toNat v1 sp1 sp1')
              refine ⟨sp2', s2', r1, r2, ?_⟩
              have q4 : s1'.tasks + (s.tasks + 1) = s1.tasks + (s'.tasks + 1) := q3
              omega
        · rw [loop_sync h0 hic hk] at h
          rw [loop_sync h0' hic' (by rw [insR_kind]; exact hk)]
          exact loop_sim hF hA hp g _ _ _ v sp s2 h e d _ _ hpf hS.pay.wait
        · rw [loop_ret h0 hic hk] at h
          rw [loop_ret h0' hic' (by rw [insR_kind]; exact hk), insR_a, hS.regs]
          injection h with e1 e2 e3
          subst e3
          refine ⟨t'.span + 1, leaveS false (payS s') (endT (payT t') v), by rw [e1], hpf, ?_⟩
          show s'.tasks + s.tasks = s.tasks + s'.tasks
          omega
        · have ei : insR F i = i := by unfold insR; rw [if_neg (by omega)]
          rw [ei] at hic'
          rw [loop_comp h0 hic hk] at h
          rw [loop_comp h0' hic' hk]
          exact loop_sim hF hA hp g _ _ _ v sp s2 h e d _ _ hpf (hS.pay.comp h8)
end Go.Proofs.YtfccnmgbdkideaaDoor
/-! 'swapped'. -/
namespace Go.Proofs.YtfccnmgbdkideaaDoor
set_option linter.unusedVariables false
set_option maxRecDepth 20000
open Go.RowKit Go.HeapKit Go.PlainOps

/-- How far the calls are turned. -/
def Tr (F : Nat) (l' lq : List Fn) (i k : Nat) : Prop := lq.length = l'.length ∧ ∀ j f, l'[j]? = some f → ∃ g, lq[j]? = some g ∧ g.params = f.params ∧ g.regs = f.regs ∧ g.slots = f.slots ∧ g.code.length = f.code.length ∧ ∀ q x, f.code[q]? = some x → g.code[q]? = some (if j < i ∨ (j = i ∧ q < k) then insR F x else x)
theorem tr_start (F : Nat) (l' : List Fn) : Tr F l' l' 0 0 := ⟨rfl, fun j f hf => ⟨f, hf, rfl, rfl, rfl, rfl, fun q x hx => by rw [if_neg (by omega)]; exact hx⟩⟩
theorem Tr.next {F : Nat} {l' lq : List Fn} {i k : Nat} (h : Tr F l' lq i k) {f : Fn} (hf : l'[i]? = some f) (hk : f.code.length ≤ k) : Tr F l' lq (i + 1) 0 := by
  refine ⟨h.1, fun j f' hf' => ?_⟩
  obtain ⟨g, h1, h2, h3, h4, h5, h6⟩ := h.2 j f' hf'
  refine ⟨g, h1, h2, h3, h4, h5, fun q x hx => ?_⟩
  rw [h6 q x hx]
  have hq := (List.getElem?_eq_some_iff.1 hx).1
  by_cases ej : j = i
  · subst ej
    rw [hf] at hf'
    obtain rfl := Option.some.inj hf'
    rw [if_pos (by omega), if_pos (by omega)]
  · by_cases hji : j < i
    · rw [if_pos (by omega), if_pos (by omega)]
    · rw [if_neg (by omega), if_neg (by omega)]
theorem Tr.at {F : Nat} {l' lq : List Fn} {i k : Nat} (h : Tr F l' lq i k) {f : Fn} (hf : l'[i]? = some f) {x : Ins} (hx : f.code[k]? = some x) : ∃ g, lq[i]? = some g ∧ g.code.length = f.code.length ∧ g.code[k]? = some x := by
  obtain ⟨g, h1, _, _, _, h5, h6⟩ := h.2 i f hf
  have := h6 k x hx
  rw [if_neg (by omega)] at this
  exact ⟨g, h1, h5, this⟩
/-- An instruction that is not turned. -/
theorem Tr.same {F : Nat} {l' lq : List Fn} {i k : Nat} (h : Tr F l' lq i k) {f : Fn} (hf : l'[i]? = some f) {x : Ins} (hx : f.code[k]? = some x) (he : insR F x = x) : Tr F l' lq i (k + 1) := by
  refine ⟨h.1, fun j f' hf' => ?_⟩
  obtain ⟨g, h1, h2, h3, h4, h5, h6⟩ := h.2 j f' hf'
  refine ⟨g, h1, h2, h3, h4, h5, fun q z hz => ?_⟩
  rw [h6 q z hz]
  by_cases hjq : j = i ∧ q = k
  · obtain ⟨rfl, rfl⟩ := hjq
    rw [hf] at hf'
    obtain rfl := Option.some.inj hf'
    rw [hx] at hz
    obtain rfl := Option.some.inj hz
    rw [if_neg (by omega), if_pos (by omega), he]
  · by_cases hc : j < i ∨ (j = i ∧ q < k)
    · rw [if_pos hc, if_pos (by omega)]
    · rw [if_neg hc, if_neg (by omega)]
/-- One that is. -/
theorem Tr.turn {F : Nat} {l' lq : List Fn} {i k : Nat} (h : Tr F l' lq i k) {f : Fn} (hf : l'[i]? = some f) {x : Ins} (hx : f.code[k]? = some x) {g : Fn} (hg : lq[i]? = some g) {b : Int} (he : insR F x = { x with b := b }) : Tr F l' (lq.set i { g with code := g.code.set k { x with b := b } }) i (k + 1) := by
  have hil := (List.getElem?_eq_some_iff.1 hg).1
  refine ⟨by rw [List.length_set]; exact h.1, fun j f' hf' => ?_⟩
  obtain ⟨g', h1, h2, h3, h4, h5, h6⟩ := h.2 j f' hf'
  by_cases ej : i = j
  · subst ej
    rw [hg] at h1
    obtain rfl := Option.some.inj h1
    rw [hf] at hf'
    obtain rfl := Option.some.inj hf'
    refine ⟨_, List.getElem?_set_self hil, h2, h3, h4, by simpa using h5, fun q z hz => ?_⟩
    show (g.code.set k _)[q]? = _
    have hq := (List.getElem?_eq_some_iff.1 hz).1
    by_cases ek : k = q
    · subst ek
      rw [hx] at hz
      obtain rfl := Option.some.inj hz
      rw [List.getElem?_set_self (by omega), if_pos (by omega), he]
    · rw [List.getElem?_set_ne ek, h6 q z hz]
      by_cases hc : i < i ∨ (i = i ∧ q < k)
      · rw [if_pos hc, if_pos (by omega)]
      · rw [if_neg hc, if_neg (by omega)]
  · refine ⟨g', by rw [List.getElem?_set_ne ej]; exact h1, h2, h3, h4, h5, fun q z hz => ?_⟩
    rw [h6 q z hz]
    by_cases hc : j < i ∨ (j = i ∧ q < k)
    · rw [if_pos hc, if_pos (by omega)]
    · rw [if_neg hc, if_neg (by omega)]
theorem Tr.end {F : Nat} {l' lq : List Fn} (h : Tr F l' lq l'.length 0) : lq = l'.map (fnR F) := by
  apply List.ext_getElem?
  intro j
  rw [List.getElem?_map]
  by_cases hj : j < l'.length
  · have hf : l'[j]? = some (l'[j]'hj) := List.getElem?_eq_getElem hj
    obtain ⟨g, h1, h2, h3, h4, h5, h6⟩ := h.2 j _ hf
    rw [h1, hf]
    simp only [Option.map_some, fnR]
    congr 1
    obtain ⟨gp, gr, gs, gc⟩ := g
    simp only at h2 h3 h4 h5 h6
    subst h2 h3 h4
    congr 1
    apply List.ext_getElem?
    intro q
    rw [List.getElem?_map]
    by_cases hq : q < (l'[j]'hj).code.length
    · have hx : (l'[j]'hj).code[q]? = some ((l'[j]'hj).code[q]'hq) := List.getElem?_eq_getElem hq
      rw [h6 q _ hx, if_pos (.inl hj), hx]
      rfl
    · rw [List.getElem?_eq_none (by omega), List.getElem?_eq_none (by omega)]
      rfl
  · rw [List.getElem?_eq_none (by have := h.1; omega), List.getElem?_eq_none (by omega)]
    rfl
def SwapPost (l : List Fn) (n F : Nat) (w : World) (e : Ending) (w' : World) : Prop := ∃ a c, e = .returned (.agg #[.slice a n c]) ∧ SeenF w' a n (swapL l F) ∧ Keeps None w w'
set_option maxHeartbeats 4000000 in
theorem swapped_any (a : Option Addr) (n c : Nat) (l : List Fn) (F : Nat) (w : World) (hS : SeenF w a n l) (hF : F < n) (hn : n ≤ 32) (hm : ∀ f ∈ l, f.code.length ≤ 512) :
    Calls Tryd.prog 8 #[.agg #[.slice a n c], .int .i64 (F : Int)] w (SwapPost l n F w) := by
  obtain ⟨B, hB⟩ : ∃ B, B = w.heap.size := ⟨_, rfl⟩
  obtain ⟨p1, p2⟩ := two_boxes w #[.slice a n c] #[.slice none 0 0] 24 24
  have hk2 := keeps2 w (.cells #[.slice a n c] 24) (.cells #[.slice none 0 0] 24)
  obtain ⟨W, hW⟩ : ∃ W, W = (w.alloc (.cells #[.slice a n c] 24)).alloc (.cells #[.slice none 0 0] 24) := ⟨_, rfl⟩
  rw [← hW] at p1 p2 hk2
  rw [← hB] at p1 p2
  have d0 : W.cell? ⟨B, 0, none⟩ = some (.slice a n c) := (blk_cell p1 0).trans rfl
  have hcp := copied_own a n c l W (hS.more hk2) (by omega) (fun f hf => by have := hm f hf; omega)
  unfold CopiedOwn at hcp
  have HC : Hid (Keeps None w W ∧ W.heap[B + 1]? = some (.cells #[.slice none 0 0] 24 (0, 0)) ∧ n = l.length ∧ (∀ f ∈ l, f.code.length ≤ 512) ∧ B = w.heap.size) := ⟨hk2, p2, hS.len, hm, hB⟩
  clear p1 p2 hk2 hS hm
  go_enter Tryd.func8, Tryd.ntmps8
  go_upto_region 1 with fail
  rw [← hW, ← hB]
  clear hW hB
  go_upto_region 2 with (go_at_call 14; refine hcp.mono ?_; rintro _ w2 ⟨qa, qc, tv, rfl, hq2, hk2⟩)
  have hal := Keeps.alloc None w2 (.cells #[.slice qa n qc] 24)
  have b2 := heap_alloc_new w2 (.cells #[.slice qa n qc] 24)
  obtain ⟨V, hV⟩ : ∃ V, V = w2.alloc (.cells #[.slice qa n qc] 24) := ⟨_, rfl⟩
  obtain ⟨Q, hQ⟩ : ∃ Q, Q = w2.heap.size := ⟨_, rfl⟩
  rw [← hV] at hal b2
  rw [← hQ] at b2
  rw [← hV, ← hQ]
  have hcpV := hq2.more hal
  obtain ⟨g, C, rfl, hgC, hrow⟩ := hcpV.rows HC.out.2.2.1 (by omega)
  obtain ⟨x, hx⟩ : ∃ x, l[0]? = some x := ⟨l[0]'(by have := HC.out.2.2.1; omega), by simp⟩
  obtain ⟨y, hy⟩ : ∃ y, l[F]? = some y := ⟨l[F]'(by have := HC.out.2.2.1; omega), by simp⟩
  obtain ⟨t, ht⟩ : ∃ t, tv[0]? = some t := ⟨tv[0]'(by have := HC.out.2.2.1; have := hcpV.len; omega), by simp⟩
  obtain ⟨u, hu⟩ : ∃ u, tv[F]? = some u := ⟨tv[F]'(by have := HC.out.2.2.1; have := hcpV.len; omega), by simp⟩
  obtain ⟨x0, x1, x2, x3⟩ := hrow 0 x t hx ht
  obtain ⟨y0, y1, y2, y3⟩ := hrow F y u hy hu
  obtain ⟨hsw, hks⟩ := hcpV.swap HC.out.2.2.1 hx hy ht hu
  have q0 : V.cell? ⟨Q, 0, none⟩ = some (.slice (some ⟨g, 0, none⟩) n qc) := (blk_cell b2 0).trans rfl
  have nQg : Q ≠ g := fun e => by
    rw [e, hgC] at b2
    injection b2 with b2
    injection b2 with _ b2
    exact absurd b2 (by decide)
  have i1 : (0 : Int) < (n : Int) := by omega
  have i2 : (F : Int) < (n : Int) := by omega
  simp only [Nat.zero_mul, Nat.zero_add] at x0 x1 x2 x3
  clear d0 hV hQ
  have fz := fun j => blk_free hgC j
  have HV : Hid (Cp W.heap.size V l (.slice (some ⟨g, 0, none⟩) n qc) tv ∧ Keeps None W V ∧ V.heap[Q]? = some (.cells #[.slice (some ⟨g, 0, none⟩) n qc] 24 (0, 0)) ∧ l[0]? = some x ∧ l[F]? = some y ∧ tv[0]? = some t ∧ tv[F]? = some u) := ⟨hcpV, hk2.trans hal (fun _ f _ => f), b2, hx, hy, ht, hu⟩
  have HSW : Hid _ := And.intro hsw hks
  clear hcpV hk2 hal b2 hx hy ht hu hq2 hrow hsw hks hgC hcp
  have hgW : W.heap.size ≤ g := HV.out.1.low g rfl
  have HG : Hid (Cp W.heap.size (set4 (set4 V g 0 y u) g F x t).drew ((l.set 0 y).set F x) (.slice (some ⟨g, 0, none⟩) n qc) ((tv.set 0 u).set F t) ∧ Keeps None W (set4 (set4 V g 0 y u) g F x t).drew ∧ (set4 (set4 V g 0 y u) g F x t).drew.heap[Q]? = some (.cells #[.slice (some ⟨g, 0, none⟩) n qc] 24 (0, 0))) := ⟨HSW.out.1.more (Keeps.drew None _), (HV.out.2.1.trans HSW.out.2 (fun i e hi => by omega)).trans (Keeps.drew None _) (fun _ f _ => f), blk_kept HV.out.2.2.1 (HSW.out.2.trans (Keeps.drew None _) (fun _ f _ => f.elim)) nQg⟩
  unfold set4 at HG
  go_cut [26] (fun s26 wx => Cp W.heap.size wx ((l.set 0 y).set F x) (.slice (some ⟨g, 0, none⟩) n qc) ((tv.set 0 u).set F t) ∧ Keeps None W wx ∧ wx.heap[Q]? = some (.cells #[.slice (some ⟨g, 0, none⟩) n qc] 24 (0, 0)))
  case first =>
    have z0 := fz 0
    have z1 := fz 1
    have z2 := fz 2
    have z3 := fz 3
    by_cases hF0 : F = 0
    · subst hF0
      have e1 : y = x := by have h1 := HV.out.2.2.2.1; have h2 := HV.out.2.2.2.2.1; rw [h1] at h2; exact (Option.some.inj h2).symm
      have e2 : u = t := by have h1 := HV.out.2.2.2.2.2.1; have h2 := HV.out.2.2.2.2.2.2; rw [h1] at h2; exact (Option.some.inj h2).symm
      subst e1 e2
      clear y0 y1 y2 y3 fz i2 hF
      go_region
      all_goals (go_wp2_with fail; go_meet)
      all_goals exact HG.out
    · have zF0 := fz (F * 4)
      have zF1 := fz (F * 4 + 1)
      have zF2 := fz (F * 4 + 2)
      have zF3 := fz (F * 4 + 3)
      have n0 : ¬ F * 4 = 0 := by omega
      have n1 : ¬ F * 4 = 1 := by omega
      have n2 : ¬ F * 4 = 2 := by omega
      have n3 : ¬ F * 4 = 3 := by omega
      clear fz
      go_region
      all_goals (go_wp2_with fail; go_meet)
      all_goals exact HG.out
  case rest =>
    obtain ⟨l', hl'⟩ : ∃ l', l' = (l.set 0 y).set F x := ⟨_, rfl⟩
    obtain ⟨tv', htv'⟩ : ∃ tv', tv' = (tv.set 0 u).set F t := ⟨_, rfl⟩
    rw [← hl', ← htv'] at hcut
    have hl'n : n = l'.length := by rw [hl']; simp; exact HC.out.2.2.1
    have hl'm : ∀ f ∈ l', f.code.length ≤ 512 := fun f hf => by
      rw [hl'] at hf
      rcases List.mem_or_eq_of_mem_set hf with h1 | h1
      · rcases List.mem_or_eq_of_mem_set h1 with h2 | h2
        · exact HC.out.2.2.2.1 f h2
        · rw [h2]; exact HC.out.2.2.2.1 y (List.mem_of_getElem? HV.out.2.2.2.2.1)
      · rw [h1]; exact HC.out.2.2.2.1 x (List.mem_of_getElem? HV.out.2.2.2.1)
    have hlsw : swapL l F = l'.map (fnR F) := by
      unfold swapL swapP
      rw [HV.out.2.2.2.1, HV.out.2.2.2.2.1, hl']
    have HL : Hid (n = l'.length ∧ (∀ f ∈ l', f.code.length ≤ 512) ∧ swapL l F = l'.map (fnR F) ∧ (Cp W.heap.size wc l' (.slice (some ⟨g, 0, none⟩) n qc) tv' ∧ Keeps None W wc ∧ wc.heap[Q]? = some (.cells #[.slice (some ⟨g, 0, none⟩) n qc] 24 (0, 0)))) := ⟨hl'n, hl'm, hlsw, hcut⟩
    have hnb : (n : Int) ≤ 32 := by omega
    clear hcut hl' htv' hl'n hl'm hlsw x0 x1 x2 x3 y0 y1 y2 y3 q0 fz HG HSW hgW i1
    go_wp2_with fail
    go_loopw [6] (fun s6 wr => ∃ (i : Nat) (lq : List Fn), i ≤ n ∧ s6 = .int .i64 i ∧ Tr F l' lq i 0 ∧ Cp W.heap.size wr lq (.slice (some ⟨g, 0, none⟩) n qc) tv' ∧ Keeps None W wr ∧ wr.heap[Q]? = some (.cells #[.slice (some ⟨g, 0, none⟩) n qc] 24 (0, 0))) (fun i _ => n - (intOf i).toNat)
    case atStart => exact ⟨0, l', Nat.zero_le _, rfl, tr_start F l', HL.out.2.2.2⟩
    case round =>
      obtain ⟨i, lq, hi, rfl, hTr, hcp, hkp, hqb⟩ := hrel
      have q0 : wr.cell? ⟨Q, 0, none⟩ = some (.slice (some ⟨g, 0, none⟩) n qc) := (blk_cell hqb 0).trans rfl
      by_cases hin : i < n
      · have i1 : (i : Int) < (n : Int) := by omega
        obtain ⟨f, hf⟩ : ∃ f, l'[i]? = some f := ⟨l'[i]'(by have := HL.out.1; omega), by simp⟩
        obtain ⟨K, hK⟩ : ∃ K, K = f.code.length := ⟨_, rfl⟩
        have hKb : K ≤ 512 := by rw [hK]; exact HL.out.2.1 f (List.mem_of_getElem? hf)
        have HI : Hid (Tr F l' lq i 0 ∧ l'[i]? = some f ∧ K = f.code.length ∧ Cp W.heap.size wr lq (.slice (some ⟨g, 0, none⟩) n qc) tv' ∧ Keeps None W wr ∧ wr.heap[Q]? = some (.cells #[.slice (some ⟨g, 0, none⟩) n qc] 24 (0, 0))) := ⟨hTr, hf, hK, hcp, hkp, hqb⟩
        clear hTr hf hK hcp hkp hqb
        go_wp2_with fail
        clear q0
        go_loopw [7] (fun s7 wr => ∃ (k : Nat) (lq : List Fn), k ≤ K ∧ s7 = .int .i64 k ∧ Tr F l' lq i k ∧ Cp W.heap.size wr lq (.slice (some ⟨g, 0, none⟩) n qc) tv' ∧ Keeps None W wr ∧ wr.heap[Q]? = some (.cells #[.slice (some ⟨g, 0, none⟩) n qc] 24 (0, 0))) (fun i _ => K - (intOf i).toNat)
        case atStart => exact ⟨0, lq, Nat.zero_le _, rfl, HI.out.1, HI.out.2.2.2⟩
        case round =>
          obtain ⟨k, lq, hk, rfl, hTr, hcp, hkp, hqb⟩ := hrel
          have q0 : wr.cell? ⟨Q, 0, none⟩ = some (.slice (some ⟨g, 0, none⟩) n qc) := (blk_cell hqb 0).trans rfl
          obtain ⟨gf, hgf, _, _, _, hgl, _⟩ := hTr.2 i f HI.out.2.1
          have hlqn : n = lq.length := by have := hTr.1; have := HL.out.1; omega
          obtain ⟨t', ht'⟩ : ∃ t', tv'[i]? = some t' := ⟨tv'[i]'(by have := hcp.len; omega), by simp⟩
          obtain ⟨g2, C2, eg, hgC2, hrow2⟩ := hcp.rows hlqn (by omega)
          injection eg with eg
          injection eg with eg
          subst eg
          have c3 := (hrow2 i gf t' hgf ht').2.2.2
          rw [hgl, ← HI.out.2.2.1] at c3
          by_cases hkK : k < K
          · have i2 : (k : Int) < (K : Int) := by omega
            obtain ⟨z, hz⟩ : ∃ z, f.code[k]? = some z := ⟨f.code[k]'(by have := HI.out.2.2.1; omega), by simp⟩
            obtain ⟨gf', hgf', _, hgz⟩ := hTr.at HI.out.2.1 hz
            rw [hgf] at hgf'
            obtain rfl := Option.some.inj hgf'
            obtain ⟨cb, htc, hia, _, _, _, hbase⟩ := hcp.putB hgf hgz ht' 0
            rw [htc] at c3
            have y0 := hia.kind
            have y1 := hia.a
            have y2 := hia.b
            have y3 := hia.c
            have y4 := hia.k
            have hal := Keeps.alloc None wr (.cells #[.int .i64 z.kind, .int .i64 z.a, .int .i64 z.b, .int .i64 z.c, .int .i64 z.k] 44)
            have bG := heap_alloc_new wr (.cells #[.int .i64 z.kind, .int .i64 z.a, .int .i64 z.b, .int .i64 z.c, .int .i64 z.k] 44)
            obtain ⟨U, hU⟩ : ∃ U, U = wr.alloc (.cells #[.int .i64 z.kind, .int .i64 z.a, .int .i64 z.b, .int .i64 z.c, .int .i64 z.k] 44) := ⟨_, rfl⟩
            obtain ⟨G, hG⟩ : ∃ G, G = wr.heap.size := ⟨_, rfl⟩
            rw [← hU] at hal bG
            rw [← hG] at bG
            have hcpU := hcp.more hal
            have hput := fun b => hcpU.putB hgf hgz ht' b
            have HX : Hid (Tr F l' lq i k ∧ f.code[k]? = some z ∧ lq[i]? = some gf ∧ Cp W.heap.size U lq (.slice (some ⟨g, 0, none⟩) n qc) tv' ∧ Keeps None W U ∧ U.heap[Q]? = some (.cells #[.slice (some ⟨g, 0, none⟩) n qc] 24 (0, 0)) ∧ W.heap.size ≤ cb ∧ (∀ b, Cp W.heap.size (U.setCell ⟨cb, k * 5 + 2, none⟩ (.int .i64 b)) (lq.set i { gf with code := gf.code.set k { z with b := b } }) (.slice (some ⟨g, 0, none⟩) n qc) tv' ∧ Keeps (· = cb) U (U.setCell ⟨cb, k * 5 + 2, none⟩ (.int .i64 b)))) := by
              refine ⟨hTr, hz, hgf, hcpU, hkp.trans hal (fun _ f _ => f), blk_kept hqb hal (fun f => f), hbase, fun b => ?_⟩
              obtain ⟨cb', h1, _, _, h4, h5, _⟩ := hput b
              rw [htc] at h1
              injection h1 with h1
              injection h1 with h1
              subst h1
              exact ⟨h4, h5⟩
            obtain ⟨cb', h1, hia2, hfz2, _, _, _⟩ := hput 0
            rw [htc] at h1
            injection h1 with h1
            injection h1 with h1
            subst h1
            have w2 := hia2.b
            have wz := hfz2 (k * 5 + 2)
            have nQc : Q ≠ cb := fun e => by
              obtain ⟨C3, hC3⟩ := own_block (hcp.code i gf t' hgf ht') (by rw [htc]; rfl)
              rw [e, hC3] at hqb
              injection hqb with h1
              injection h1 with _ h1
              exact absurd h1 (by decide)
            have u0 := hal.cell q0 (fun f => f)
            have u3 := hal.cell c3 (fun f => f)
            have x0 : U.cell? ⟨G, 0, none⟩ = some (.int .i64 z.kind) := (blk_cell bG 0).trans rfl
            have x2 : U.cell? ⟨G, 2, none⟩ = some (.int .i64 z.b) := (blk_cell bG 2).trans rfl
            clear hTr hz hgf hcp hkp hqb hgl hlqn ht' hgC2 hrow2 hgz hia hbase hal bG hcpU hput hia2 hfz2 htc
            go_upto_region 10 with fail
            rw [← hU, ← hG]
            clear hU hG q0 c3 y0 y1 y2 y3 y4
            by_cases h5 : z.kind = 5
            · have p1 : (z.kind == 5) = true := by simpa using h5
              by_cases hb0 : z.b = 0
              · have p2 : (z.b == 0) = true := by simpa using hb0
                have he : Hid (insR F z = { z with b := (F : Int) }) := by
                  unfold Hid insR rho
                  rw [if_pos h5, if_pos hb0]
                clear h5 hb0
                go_wp2_with fail
                exact ⟨⟨k + 1, _, by omega, by simp, HX.out.1.turn HI.out.2.1 HX.out.2.1 HX.out.2.2.1 he.out, (HX.out.2.2.2.2.2.2.2 F).1, HX.out.2.2.2.2.1.trans (HX.out.2.2.2.2.2.2.2 F).2 (fun j e hj => by have := HX.out.2.2.2.2.2.2.1; omega), blk_kept HX.out.2.2.2.2.2.1 (HX.out.2.2.2.2.2.2.2 F).2 nQc⟩, by simp [intOf]; omega⟩
              · have p2 : (z.b == 0) = false := by simpa using hb0
                by_cases hbF : z.b = (F : Int)
                · have p3 : (z.b == (F : Int)) = true := by simpa using hbF
                  have he : Hid (insR F z = { z with b := 0 }) := by
                    unfold Hid insR rho
                    rw [if_pos h5, if_neg hb0, if_pos hbF]
                  clear h5 hb0 hbF
                  go_wp2_with fail
                  exact ⟨⟨k + 1, _, by omega, by simp, HX.out.1.turn HI.out.2.1 HX.out.2.1 HX.out.2.2.1 he.out, (HX.out.2.2.2.2.2.2.2 0).1, HX.out.2.2.2.2.1.trans (HX.out.2.2.2.2.2.2.2 0).2 (fun j e hj => by have := HX.out.2.2.2.2.2.2.1; omega), blk_kept HX.out.2.2.2.2.2.1 (HX.out.2.2.2.2.2.2.2 0).2 nQc⟩, by simp [intOf]; omega⟩
                · have p3 : (z.b == (F : Int)) = false := by simpa using hbF
                  have he : Hid (insR F z = z) := by
                    unfold Hid insR rho
                    rw [if_pos h5, if_neg hb0, if_neg hbF]
                  clear h5 hb0 hbF
                  go_wp2_with fail
                  exact ⟨⟨k + 1, lq, by omega, by simp, HX.out.1.same HI.out.2.1 HX.out.2.1 he.out, HX.out.2.2.2.1, HX.out.2.2.2.2.1, HX.out.2.2.2.2.2.1⟩, by simp [intOf]; omega⟩
            · have p1 : (z.kind == 5) = false := by simpa using h5
              have he : Hid (insR F z = z) := by
                unfold Hid insR
                rw [if_neg h5]
              clear h5
              go_wp2_with fail
              exact ⟨⟨k + 1, lq, by omega, by simp, HX.out.1.same HI.out.2.1 HX.out.2.1 he.out, HX.out.2.2.2.1, HX.out.2.2.2.2.1, HX.out.2.2.2.2.2.1⟩, by simp [intOf]; omega⟩
          · have i2 : ¬ ((K : Int) < (K : Int)) := by omega
            have hkK2 : K = k := by omega
            subst hkK2
            have HX : Hid (Tr F l' lq i K ∧ Cp W.heap.size wr lq (.slice (some ⟨g, 0, none⟩) n qc) tv' ∧ Keeps None W wr ∧ wr.heap[Q]? = some (.cells #[.slice (some ⟨g, 0, none⟩) n qc] 24 (0, 0))) := ⟨hTr, hcp, hkp, hqb⟩
            clear hTr hcp hkp hqb hgf hgl hlqn ht' hgC2 hrow2
            go_wp2_with fail
            exact ⟨⟨i + 1, lq, by omega, by simp, HX.out.1.next HI.out.2.1 (by have := HI.out.2.2.1; omega), HX.out.2⟩, by simp [intOf]; omega⟩
      · have i1 : ¬ ((n : Int) < (n : Int)) := by omega
        have hin2 : n = i := by omega
        subst hin2
        have hlq : lq = swapL l F := by rw [HL.out.2.2.1]; exact Tr.end (by rw [← HL.out.1]; exact hTr)
        have r0 : wr.cell? ⟨B + 1, 0, none⟩ = some (.slice none 0 0) := (blk_cell (blk_kept HC.out.2.1 hkp (fun f => f)) 0).trans rfl
        have z0 := blk_free (blk_kept HC.out.2.1 hkp (fun f => f)) 0
        have kS : Keeps (· = B + 1) wr (wr.setCell ⟨B + 1, 0, none⟩ (.slice (some ⟨g, 0, none⟩) n qc)) := Keeps.setCell (S := (· = B + 1)) wr rfl _
        have rs := blk_set (i := 0) (blk_kept HC.out.2.1 hkp (fun f => f)) (.slice (some ⟨g, 0, none⟩) n qc)
        have hblt := blk_lt HC.out.2.1
        have hcpS : Cp W.heap.size (wr.setCell ⟨B + 1, 0, none⟩ (.slice (some ⟨g, 0, none⟩) n qc)) lq (.slice (some ⟨g, 0, none⟩) n qc) tv' := hcp.kept kS (fun q e hq => by have := hcp.low q e; omega) (fun i t q ht e hq => by have := hcp.cl i t q ht e; omega)
        have HQ : Hid ((wr.setCell ⟨B + 1, 0, none⟩ (.slice (some ⟨g, 0, none⟩) n qc)).heap[B + 1]? = some (.cells #[.slice (some ⟨g, 0, none⟩) n qc] 24 (0, 0)) ∧ SwapPost l n F w (.returned (.agg #[.slice (some ⟨g, 0, none⟩) n qc])) (wr.setCell ⟨B + 1, 0, none⟩ (.slice (some ⟨g, 0, none⟩) n qc))) := by
          refine ⟨rs, ⟨_, _, rfl, ?_, (HC.out.1.trans hkp (fun _ f _ => f)).trans kS (fun i e hi => by have := HC.out.2.2.2.2; omega)⟩⟩
          obtain ⟨x1, x2, e, hs⟩ := hcpS.seen
          injection e with e1 e2 e3
          have e2' : n = lq.length := e2
          rw [← e1, ← e2'] at hs
          rw [← hlq]
          exact hs
        clear hTr hcp hkp hqb hlq kS rs hcpS
        go_wp2_with fail
        exact bodyPost_ret (results_one (q := 4) (ty := 24) rfl rfl (load_prog _ _ _ (.slice (some ⟨g, 0, none⟩) n qc) HQ.out.1)) rfl HQ.out.2
end Go.Proofs.YtfccnmgbdkideaaDoor
