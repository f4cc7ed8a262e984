import Derived.Test.YtiphikoaohhpeaaDoorPkAM
import Derived.Test.YtiphikoaohhpeaaDoorPkAB
import Derived.Test.YtiphikoaohhpeaaDoorPkAC
import Derived.Deep.RegionHeld3
import Derived.Deep.RegionLaw
import Derived.Deep.Cut
/-! Root, of package tasks. -/
namespace Go.Proofs.YtiphikoaohhpeaaDoor
set_option linter.unusedVariables false
set_option maxRecDepth 20000
open Go.RowKit Go.HeapKit Go.PlainOps

/-- Arguments that can be read. -/
structure SeenA (w : World) (a : Option Addr) (n : Nat) (zs : List Int) : Prop where
  len : n = zs.length
  most : n ≤ 9223372036854775807
  ok : ∀ x ∈ zs, okI x
  ex : 0 < n → ∃ b off, a = some ⟨b, off, none⟩ ∧ b < w.heap.size ∧ ∀ k x, zs[k]? = some x → w.cell? ⟨b, off + k, none⟩ = some (.int .i64 x)
theorem SeenA.more {w w' : World} {a : Option Addr} {n : Nat} {zs : List Int} (h : SeenA w a n zs) (hk : Keeps None w w') : SeenA w' a n zs := by
  refine ⟨h.len, h.most, h.ok, fun h0 => ?_⟩
  obtain ⟨b, off, rfl, hb, hc⟩ := h.ex h0
  exact ⟨b, off, rfl, Nat.lt_of_lt_of_le hb hk.size, fun k x hx => hk.cell (hc k x hx) (fun f => f)⟩
def rootK (args : List Int) : Tsk := ⟨0, 0, argsV args 0 args.length, 1, 0⟩
theorem args_all (zs : List Int) (h : zs.length ≤ 16) : argsV zs 0 zs.length = zs ++ List.replicate (16 - zs.length) 0 := by
  apply List.ext_getElem?
  intro j
  by_cases hj : j < 16
  · simp only [argsV, List.getElem?_map, List.getElem?_range hj, Option.map_some, Nat.zero_add]
    by_cases h1 : j < zs.length
    · rw [List.getElem?_append_left h1]
      simp [h1]
    · rw [List.getElem?_append_right (by omega), List.getElem?_replicate]
      simp [h1, show j - zs.length < 16 - zs.length by omega]
  · rw [List.getElem?_eq_none (by simp [argsV]; omega), List.getElem?_eq_none (by simp; omega)]
theorem root_row (zs : List Int) (h : zs.length ≤ 16) : ((ints (blankK 0 1).l).toArray.toList.take 2 ++ ints zs ++ (ints (blankK 0 1).l).toArray.toList.drop (2 + (ints zs).length)).toArray = (ints (rootK zs).l).toArray := by
  have e1 : (rootK zs).l = (blankK 0 1).l.take 2 ++ zs ++ (blankK 0 1).l.drop (2 + zs.length) := by
    have hr : (blankK 0 1).l.drop (2 + zs.length) = List.replicate (16 - zs.length) 0 ++ [1, 0] := by
      unfold Tsk.l
      rw [show 2 + zs.length = zs.length + 2 by omega]
      simp only [List.drop_succ_cons]
      rw [List.drop_append_of_le_length (by simp [blankK]; omega)]
      show (List.replicate 16 (0 : Int)).drop zs.length ++ _ = _
      rw [List.drop_replicate]
      rfl
    rw [hr]
    unfold Tsk.l
    show _ :: _ :: (argsV zs 0 zs.length ++ _) = _
    rw [args_all zs h, List.append_assoc]
    simp [blankK, rootK]
  rw [e1]
  simp [ints]
theorem Tryd.infoI64' : (Tryd.prog.info? 2).map (·.size) = some 1 := by kernel_rfl
set_option maxHeartbeats 2000000 in
theorem troot_any (a : Option Addr) (n c : Nat) (zs : List Int) (w : World) (hS : SeenA w a n zs) (hn : n ≤ 16) :
    Calls Tryd.prog 23 #[.slice a n c] w fun e w' => e = .returned (.agg (ints (rootK zs).l).toArray) ∧ Keeps None w w' := by
  have hln := hS.len
  have bR := heap_alloc_new w (.cells (ints (blankK 0 0).l).toArray 49)
  have hal := Keeps.alloc None w (.cells (ints (blankK 0 0).l).toArray 49)
  obtain ⟨W, hW⟩ : ∃ W, W = w.alloc (.cells (ints (blankK 0 0).l).toArray 49) := ⟨_, rfl⟩
  obtain ⟨B, hB⟩ : ∃ B, B = w.heap.size := ⟨_, rfl⟩
  have s1 : W.heap.size = B + 1 := by rw [hW, hB]; simp
  rw [← hW] at bR hal
  rw [← hB] at bR
  have hst := heap_alloc_new W (.cells (ints (blankK 0 0).l).toArray 49)
  rw [s1] at hst
  have HX : Hid (W.heap.size = B + 1 ∧ B = w.heap.size ∧ Keeps None w W ∧ W.heap[B]? = some (.cells (ints (blankK 0 0).l).toArray 49 (0, 0)) ∧ SeenA w a n zs) := ⟨s1, hB, hal, bR, hS⟩
  have HS2 : Hid _ := s1
  go_enter Tryd.func23, Tryd.ntmps23
  go_upto_region 1 with fail
  change Code.wp _ _ _ _ (w.alloc (.cells (ints (blankK 0 0).l).toArray 49))
  rw [← hW, ← hB]
  clear hS bR hal hW hB s1
  go_cut [3] (fun s3 wx => s3 = .pointer (some ⟨B + 1, 0, none⟩) ∧ wx.heap[B + 1]? = some (.cells (ints (blankK 0 1).l).toArray 49 (0, 0)) ∧ Keeps None W wx)
  case first =>
    iterate 8 go_step
    refine wp_store_row 49 (.tmp 3) (.tmp 4) rfl (B + 1) (ints (blankK 0 1).l).toArray (by simp [Act.eval, HS2.out]) rfl 49 (ints (blankK 0 0).l).toArray hst Tryd.infoTsk rfl (ints_one _) ?_
    go_wp2_with fail
    go_meet
    rw [HS2.out]
    exact ⟨rfl, setRow_heap hst, (Keeps.alloc None W _).trans (setRow_keeps _ _ _) (fun i e hi => by have := HS2.out; omega)⟩
  case rest =>
    obtain ⟨rfl, hY, hkW⟩ := hcut
    have bR := blk_kept HX.out.2.2.2.1 hkW (fun f => f)
    have hkw := HX.out.2.2.1.trans hkW (fun _ f _ => f)
    have hSc := HX.out.2.2.2.2.more hkw
    obtain ⟨wd, hcp, hYd, bRd, hkd⟩ : ∃ wd, (Builtin.copy_ #[25, 25] 3 #[.slice (some ⟨B + 1, 2, none⟩) 16 16, .slice a n c]).run Tryd.prog wc = .ok (goInt n) wd ∧ wd.heap[B + 1]? = some (.cells (ints (rootK zs).l).toArray 49 (0, 0)) ∧ wd.heap[B]? = some (.cells (ints (blankK 0 0).l).toArray 49 (0, 0)) ∧ Keeps None w wd := by
      by_cases h0 : n = 0
      · subst h0
        have hz : zs = [] := List.eq_nil_of_length_eq_zero hln.symm
        subst hz
        refine ⟨wc, ?_, hY, bR, hkw⟩
        exact run_copy_none wc 25 25 3 2 _ a 16 16 0 c Tryd.underlying25 Tryd.infoI64' (by simp)
      · obtain ⟨b, off, rfl, hb, hc⟩ := hSc.ex (by omega)
        have hr := run_copy_row (P := Tryd.prog) wc 25 25 3 2 (B + 1) 2 16 16 ⟨b, off, none⟩ n c (ints (blankK 0 1).l).toArray 49 (ints zs) Tryd.underlying25 Tryd.infoI64' hY (by simp only [ints, List.length_map]; rw [← hln]; exact (Nat.min_eq_left hn).symm)
          (fun j v hv => by
            simp only [ints, List.getElem?_map, Option.map_eq_some_iff] at hv
            obtain ⟨x, hx, rfl⟩ := hv
            rw [show (⟨b, off, none⟩ : Addr).add j = ⟨b, off + j, none⟩ by unfold Addr.add; split <;> simp_all]
            exact hc j x hx)
          (by have : (ints (blankK 0 1).l).toArray.size = 20 := rfl; rw [this]; simp [ints]; omega)
          (fun v hv => by
            simp only [ints, List.mem_map] at hv
            obtain ⟨x, _, rfl⟩ := hv
            rfl)
        rw [root_row zs (by omega)] at hr
        have el : (ints zs).length = n := by simp [ints, hln]
        rw [el] at hr
        exact ⟨_, hr, setRow_heap hY, blk_kept bR (setRow_keeps _ _ _) (by omega), hkw.trans (setRow_keeps _ _ _) (fun i e hi => by have := HX.out.2.1; omega)⟩
    have HD : Hid _ := And.intro bRd hkd
    have hsz : (ints (rootK zs).l).toArray.size = 20 := tsk_len (args_len _ _ _)
    have HYD : Hid _ := hYd
    clear hY hkW bR hkw hSc hst hYd bRd hkd hln
    go_upto_region 3 with (at_builtin; refine wpList_copy_run rfl (.tmp 6) (.tmp 7) 25 25 rfl rfl rfl hcp ?_)
    iterate 2 go_step
    refine wp_load_row 49 (.tmp 3) rfl (B + 1) rfl 49 (ints (rootK zs).l).toArray (0, 0) _ HYD.out Tryd.underlying49 rfl (by rw [hsz]; exact Tryd.infoTsk) ?_
    iterate 2 go_step
    refine wp_store_row 49 (.tmp 2) (.tmp 9) rfl B (ints (rootK zs).l).toArray rfl rfl 49 (ints (blankK 0 0).l).toArray HD.out.1 (by rw [hsz]; exact Tryd.infoTsk) (by rw [hsz]; rfl) (ints_one _) ?_
    go_wp2_with fail
    exact bodyPost_ret (results_one (q := 2) (ty := 49) rfl rfl (run_loadVar_row _ B _ 49 _ _ _ (setRow_heap HD.out.1) Tryd.underlying49 rfl (by rw [hsz]; exact Tryd.infoTsk))) rfl ⟨rfl, HD.out.2.trans (setRow_keeps _ _ _) (fun i e hi => by have := HX.out.2.1; omega)⟩
end Go.Proofs.YtiphikoaohhpeaaDoor
/-! A slice of numbers of 64 bits among the arguments. -/
namespace Go.Proofs.YtiphikoaohhpeaaDoor
set_option linter.unusedVariables false
set_option maxRecDepth 20000
open Go.ChangeShapes Go.WideShapes Go.ChangeAt Go.RowKit Go.HeapKit Go.Deep

section
variable {H : Type} {enc : TypeId × Value → H} {w : World} {base : Nat} {held : Bool}
theorem open_words {r : Reach} {b0 : Nat} {v : Value} {d : DataW H} {ps : List MemPlace} (hval : Value.okWide Tryd.prog w r b0 25 v) (hd : DataW.Trod enc Tryd.prog w base (fun _ => true) held 25 v d ps) :
    ∃ a n c l, v = .slice a n c ∧ SeenA w a n l := by
  obtain ⟨a, n, c, rfl⟩ := okWide_slice Tryd.underlying25 hval
  obtain ⟨fuel, h⟩ := hd
  rcases open_slice Tryd.underlying25 h with ⟨hcs, _⟩ | ⟨a', len, cap, m, n', D, Pl, hcs, _, hl, hm, hmm, _, hall⟩
  · simp [Value.cells] at hcs
    obtain ⟨rfl, rfl, rfl⟩ := hcs
    exact ⟨none, 0, 0, [], rfl, ⟨rfl, by omega, fun x hx => by simp at hx, fun h => by omega⟩⟩
  · simp [Value.cells] at hcs
    obtain ⟨rfl, rfl, rfl⟩ := hcs
    simp at hmm
    subst hmm
    have hc : Tryd.prog.cellsOf 2 = 1 := by kernel_rfl
    rw [hc] at hall
    have hex : ∀ i, i < n → ∃ x : Int, okI x ∧ w.cell? (a'.add i) = some (.int .i64 x) := by
      intro i hi
      obtain ⟨cs', h1, h2⟩ := hall i (by omega)
      obtain ⟨_, hlen, hcell⟩ := World.cells?_some h1
      obtain ⟨x, rfl, _, hwf⟩ := DataW.trod_int Tryd.underlying2 h2
      have := hcell 0 (by omega)
      refine ⟨x, okI_of_wf hwf, ?_⟩
      rw [Nat.mul_one] at this
      rw [show (a'.add i).add 0 = a'.add i by unfold Addr.add; split <;> simp_all] at this
      exact this
    obtain ⟨l, hll, hp⟩ := choose_list _ n hex
    refine ⟨some a', n, m, l, rfl, ⟨hll.symm, by unfold maxLen at hm; omega, fun x hx => by obtain ⟨k, hk, rfl⟩ := List.mem_iff_getElem.1 hx; exact (hp k _ (List.getElem?_eq_getElem hk)).1, fun h0 => ?_⟩⟩
    obtain ⟨b, off, sp⟩ := a'
    have hsp : sp = none := by
      obtain ⟨x, _, hx⟩ := hex 0 h0
      have := spot_none hx
      unfold Addr.add at this
      split at this <;> simp_all
    subst hsp
    refine ⟨b, off, rfl, ?_, fun k x hx => ?_⟩
    · obtain ⟨x, _, hx⟩ := hex 0 h0
      rw [add_at] at hx
      cases hb : w.heap[b]? with
      | none => simp [World.cell?, hb] at hx
      | some o => exact (Array.getElem?_eq_some_iff.1 hb).1
    · have := (hp k x hx).2
      rwa [add_at] at this
end
end Go.Proofs.YtiphikoaohhpeaaDoor
/-! The shape of the tree of tasks, plainly. -/
namespace Go.Proofs.YtiphikoaohhpeaaDoor
set_option linter.unusedVariables false
set_option maxRecDepth 20000
open Go.RowKit Go.PlainOps

/-- What of a node is fixed when it comes. -/
structure Ky where
  parent : Int
  idx : Int
  func : Int
  ped : Int
def keyN (x : Nd) : Ky := ⟨x.parent, x.idx, x.func, x.ped⟩
def keys (l : List Nd) : List Ky := l.map keyN
/-- How many children a node has. -/
def cntK (K : List Ky) (p : Int) : Nat := (K.filter fun x => x.parent == p).length
/-- From a node up to one above it. -/
inductive Anc (K : List Ky) : Nat → Nat → Prop
  | refl (p : Nat) : Anc K p p
  | up {k q p : Nat} {x : Ky} : K[k]? = some x → x.parent = (q : Int) → Anc K q p → Anc K k p
def spawnsK (fs : List Fn) (f g : Int) : Prop := ∃ i ∈ codeOf fs f, i.kind = 5 ∧ i.b = g
/-- A node that may come behind these. -/
structure NodeOk (fs : List Fn) (K : List Ky) (D : List Int) (x : Ky) (d : Int) (p : Nat) (y : Ky) : Prop where
  at_ : K[p]? = some y
  par : x.parent = (p : Int)
  anc : Anc K (K.length - 1) p
  idx : x.idx = (cntK K p : Int)
  ped : x.ped = pedV y.ped x.idx
  spw : spawnsK fs y.func x.func
  dep : D[p]? = some (d - 1)
inductive Grows (fs : List Fn) : List Ky → List Int → Prop
  | one : Grows fs [⟨-1, 0, 0, 1⟩] [1]
  | more {K : List Ky} {D : List Int} {x : Ky} {d : Int} {p : Nat} {y : Ky} : Grows fs K D → NodeOk fs K D x d p y → Grows fs (K ++ [x]) (D ++ [d])
theorem Grows.len {fs : List Fn} {K : List Ky} {D : List Int} (h : Grows fs K D) : D.length = K.length ∧ 1 ≤ K.length := by
  induction h with
  | one => exact ⟨rfl, Nat.le_refl _⟩
  | more _ _ ih => simp; omega
theorem Grows.first {fs : List Fn} {K : List Ky} {D : List Int} (h : Grows fs K D) : K[0]? = some ⟨-1, 0, 0, 1⟩ ∧ D[0]? = some 1 := by
  induction h with
  | one => exact ⟨rfl, rfl⟩
  | more hg _ ih => have := hg.len; rw [List.getElem?_append_left (by omega), List.getElem?_append_left (by omega)]; exact ih
theorem Grows.at {fs : List Fn} {K : List Ky} {D : List Int} (h : Grows fs K D) : ∀ i : Nat, 0 < i → i < K.length → ∃ x d p y, K[i]? = some x ∧ D[i]? = some d ∧ NodeOk fs (K.take i) (D.take i) x d p y := by
  induction h with
  | one => intro i h0 h1; simp at h1; omega
  | @more K D x d p y hg hn ih =>
    intro i h0 h1
    have hl := hg.len
    simp only [List.length_append, List.length_singleton] at h1
    by_cases hi : i < K.length
    · obtain ⟨x', d', p', y', h2, h3, h4⟩ := ih i h0 hi
      refine ⟨x', d', p', y', by rw [List.getElem?_append_left hi]; exact h2, by rw [List.getElem?_append_left (by omega)]; exact h3, ?_⟩
      rw [List.take_append_of_le_length (by omega), List.take_append_of_le_length (by omega)]
      exact h4
    · have hi2 : i = K.length := by omega
      subst hi2
      refine ⟨x, d, p, y, by simp, by rw [← hl.1]; simp, ?_⟩
      rw [List.take_left, ← hl.1, List.take_left]
      exact hn
theorem Anc.more {K : List Ky} {k p : Nat} (h : Anc K k p) (Z : List Ky) : Anc (K ++ Z) k p := by
  induction h with
  | refl p => exact .refl p
  | up hx hp _ ih => exact .up (by rw [List.getElem?_append_left (List.getElem?_eq_some_iff.1 hx).1]; exact hx) hp ih
theorem Anc.trans {K : List Ky} {k q p : Nat} (h : Anc K k q) (h2 : Anc K q p) : Anc K k p := by
  induction h with
  | refl p => exact h2
  | up hx hp _ ih => exact .up hx hp (ih h2)
theorem cnt_app (K Z : List Ky) (p : Int) : cntK (K ++ Z) p = cntK K p + cntK Z p := by simp [cntK]
theorem cnt_none {Z : List Ky} {p : Int} (h : ∀ z ∈ Z, p < z.parent) : cntK Z p = 0 := by
  unfold cntK
  rw [List.length_eq_zero_iff, List.filter_eq_nil_iff]
  intro z hz
  have := h z hz
  simp
  omega
def maxD (D : List Int) : Int := D.foldl imax 0
theorem max_app (D : List Int) (d : Int) : maxD (D ++ [d]) = imax (maxD D) d := by simp [maxD]
def sumW (l : List Nd) : Int := (l.map Nd.work).foldr (· + ·) 0
theorem sum_app (a b : List Nd) : sumW (a ++ b) = sumW a + sumW b := by
  induction a with
  | nil => simp [sumW]
  | cons x a ih => simp only [sumW, List.map_cons, List.foldr_cons, List.cons_append] at ih ⊢; omega

structure Lp (fs : List Fn) (s : Rn) (t : Tk) (m : Nat) (D : List Int) : Prop where
  good : Grows fs (keys s.nodes) D
  len : s.nodes.length = s.tasks
  num : t.number = (m : Int)
  lt : m < s.tasks
  own : (keys s.nodes)[m]? = some (keyN t.node)
  anc : Anc (keys s.nodes) (s.tasks - 1) m
  cnt : t.spawned = (cntK (keys s.nodes) m : Int)
  dep : D[m]? = some t.depth
  max : s.depth = maxD D
  wk : 0 ≤ t.node.work
  fin : ∀ (j : Nat) (y : Nd), m < j → s.nodes[j]? = some y → 1 ≤ y.work
theorem Lp.pay {fs : List Fn} {s : Rn} {t : Tk} {m : Nat} {D : List Int} (h : Lp fs s t m D) : Lp fs (payS s) (payT t) m D :=
  ⟨h.good, h.len, h.num, h.lt, h.own, h.anc, h.cnt, h.dep, h.max, by show 0 ≤ t.node.work + 1; have := h.wk; omega, h.fin⟩
theorem Lp.same {fs : List Fn} {s : Rn} {t t' : Tk} {m : Nat} {D : List Int} (h : Lp fs s t m D) (h1 : t'.number = t.number) (h2 : t'.node = t.node) (h3 : t'.spawned = t.spawned) (h4 : t'.depth = t.depth) : Lp fs s t' m D :=
  ⟨h.good, h.len, h1.trans h.num, h.lt, by rw [h2]; exact h.own, h.anc, h3.trans h.cnt, by rw [h4]; exact h.dep, h.max, by rw [h2]; exact h.wk, h.fin⟩
/-- What a task has done when it is done. -/
structure Dn (fs : List Fn) (s : Rn) (t : Tk) (m : Nat) (D : List Int) (v : Int) (s' : Rn) (Z : List Ky) (E : List Int) : Prop where
  keys : keys s'.nodes = keys s.nodes ++ Z
  good : Grows fs (Go.Proofs.YtiphikoaohhpeaaDoor.keys s'.nodes) (D ++ E)
  len : s'.nodes.length = s'.tasks
  le : s.tasks ≤ s'.tasks
  anc : Anc (Go.Proofs.YtiphikoaohhpeaaDoor.keys s'.nodes) (s'.tasks - 1) m
  low : ∀ z ∈ Z, (m : Int) ≤ z.parent
  max : s'.depth = maxD (D ++ E)
  fin : ∀ (j : Nat) (y : Nd), m ≤ j → s'.nodes[j]? = some y → 1 ≤ y.work
  v : ∃ y, s'.nodes[m]? = some y ∧ y.v = v
  sum : sumW (s'.nodes.drop m) + s'.fuel = sumW (s.nodes.drop (m + 1)) + t.node.work + s.fuel
  front : s'.nodes.take m = s.nodes.take m
theorem Dn.pay {fs : List Fn} {s s' : Rn} {t t' : Tk} {m : Nat} {D E : List Int} {v : Int} {Z : List Ky} (h : Dn fs (payS s) t' m D v s' Z E) (h0 : s.fuel ≠ 0) (hw : t'.node.work = t.node.work + 1) : Dn fs s t m D v s' Z E :=
  ⟨h.keys, h.good, h.len, h.le, h.anc, h.low, h.max, h.fin, h.v, by
    have h1 := h.sum
    have h2 : ((payS s).fuel : Int) = s.fuel - 1 := by show ((s.fuel - 1 : Nat) : Int) = _; omega
    have h3 : (payS s).nodes = s.nodes := rfl
    rw [h2, h3, hw] at h1
    omega, h.front⟩
theorem map_set_same {l : List Nd} {m : Nat} {y : Nd} (h : (keys l)[m]? = some (keyN y)) : keys (l.set m y) = keys l := by
  unfold keys at h ⊢
  rw [List.map_set]
  apply List.ext_getElem?
  intro j
  by_cases hj : m = j
  · subst hj
    rw [List.getElem?_set_self (List.getElem?_eq_some_iff.1 h).1, h]
  · rw [List.getElem?_set_ne hj]
theorem drop_set (l : List Nd) (m : Nat) (y : Nd) (h : m < l.length) : (l.set m y).drop m = y :: l.drop (m + 1) := by
  rw [List.drop_eq_getElem_cons (by simpa using h), List.getElem_set_self, List.drop_set_of_lt (by omega)]
theorem loop_shape {fs : List Fn} : ∀ (g : Nat) (s : Rn) (t : Tk) (at_ : Nat) (m : Nat) (D : List Int) (v sp : Int) (s' : Rn), loopV fs true g s t at_ = .done v sp s' → Lp fs s t m D → ∃ Z E, Dn fs s t m D v s' Z E
  | 0, s, t, at_, m, D, v, sp, s', h, _ => by simp [loopV] at h
  | g + 1, s, t, at_, m, D, v, sp, s', h, hL => by
    unfold loopV at h
    split at h
    · cases h
    · rename_i h0
      split at h
      · cases h
      · rename_i i hi
        split at h
        · obtain ⟨Z, E, hd⟩ := loop_shape g (payS s) (payT t) _ m D v sp s' h hL.pay
          exact ⟨Z, E, hd.pay h0 rfl⟩
        · split at h
          · obtain ⟨Z, E, hd⟩ := loop_shape g (payS s) (payT t) _ m D v sp s' h hL.pay
            exact ⟨Z, E, hd.pay h0 rfl⟩
          · split at h
            · rename_i hk5
              split at h
              · cases h
              · split at h
                · cases h
                · rename_i v1 sp1 s2 hr
                  have hn := hL.num
                  have hl := hL.len
                  have hgl := hL.good.len
                  have hkl : (keys s.nodes).length = s.tasks := by simp [keys, hl]
                  obtain ⟨cn, hcn⟩ : ∃ cn, cn = (enterT (payS s) (childV fs (payT t) i)).node := ⟨_, rfl⟩
                  have hcnk : keyN cn = ⟨m, cntK (keys s.nodes) m, i.b, pedV t.node.ped (cntK (keys s.nodes) m)⟩ := by
                    rw [hcn, ← hL.cnt, ← hn]
                    rfl
                  have hnodes : (enterS true (payS s) (childV fs (payT t) i)).nodes = s.nodes ++ [cn] := by rw [hcn]; rfl
                  have hkeys : keys (s.nodes ++ [cn]) = keys s.nodes ++ [keyN cn] := by simp [keys]
                  have hok : NodeOk fs (keys s.nodes) D (keyN cn) (t.depth + 1) m (keyN t.node) := ⟨hL.own, by rw [hcnk], by rw [hkl]; exact hL.anc, by rw [hcnk], by rw [hcnk]; rfl, ⟨i, List.mem_of_getElem? hi, hk5, by rw [hcnk]⟩, by rw [hL.dep]; congr 1; omega⟩
                  have hLc : Lp fs (enterS true (payS s) (childV fs (payT t) i)) (enterT (payS s) (childV fs (payT t) i)) s.tasks (D ++ [t.depth + 1]) := by
                    refine ⟨?_, ?_, rfl, by show s.tasks < s.tasks + 1; omega, ?_, ?_, ?_, ?_, ?_, ?_, ?_⟩
                    · rw [hnodes, hkeys]; exact hL.good.more hok
                    · rw [hnodes]; show _ = s.tasks + 1; simp [hl]
                    · rw [hnodes, hkeys, ← hkl, ← hcn]; simp
                    · exact .refl _
                    · show (0 : Int) = _
                      rw [hnodes, hkeys, cnt_app]
                      have e1 : cntK (keys s.nodes) ((s.tasks : Nat) : Int) = 0 := by
                        unfold cntK
                        rw [List.length_eq_zero_iff, List.filter_eq_nil_iff]
                        intro z hz
                        obtain ⟨j, hj, hzj⟩ := List.getElem_of_mem hz
                        simp only [beq_iff_eq]
                        intro he
                        by_cases hj0 : j = 0
                        · subst hj0
                          have h1 := hL.good.first.1
                          rw [List.getElem?_eq_getElem hj, hzj] at h1
                          injection h1 with h1
                          rw [h1] at he
                          have he2 : (-1 : Int) = (s.tasks : Int) := he
                          omega
                        · obtain ⟨x, d, p, y, h1, h2, h3⟩ := hL.good.at j (by omega) hj
                          rw [List.getElem?_eq_getElem hj, hzj] at h1
                          injection h1 with h1
                          have h4 := (List.getElem?_eq_some_iff.1 h3.at_).1
                          have h5 := h3.par
                          rw [← h1, he] at h5
                          simp at h4
                          omega
                      have e2 : cntK [keyN cn] ((s.tasks : Nat) : Int) = 0 := by
                        have := hL.lt
                        rw [hcnk]
                        simp [cntK]
                        omega
                      rw [e1, e2]
                      rfl
                    · rw [← hkl, ← hgl.1]
                      simp
                      rfl
                    · rw [max_app, ← hL.max]
                      rfl
                    · exact Int.le_refl _
                    · intro j y hj hy
                      rw [hnodes] at hy
                      have := (List.getElem?_eq_some_iff.1 hy).1
                      simp at this
                      omega
                  obtain ⟨Z1, E1, hd1⟩ := loop_shape g _ _ 0 s.tasks (D ++ [t.depth + 1]) v1 sp1 s2 hr hLc
                  have hfr : s2.nodes = s.nodes ++ s2.nodes.drop s.tasks := by
                    have h1 := hd1.front
                    rw [hnodes, ← hl, List.take_left] at h1
                    conv => lhs; rw [← List.take_append_drop s.nodes.length s2.nodes, h1]
                    rw [hl]
                  have hk2 : keys s2.nodes = keys s.nodes ++ (keyN cn :: Z1) := by rw [hd1.keys, hnodes, hkeys]; simp
                  have hle : s.tasks + 1 ≤ s2.tasks := hd1.le
                  have hLt : Lp fs s2 (gotT (spawnT (payT t)) i.a.toNat v1 sp1) m (D ++ [t.depth + 1] ++ E1) := by
                    have hlt := hL.lt
                    refine ⟨hd1.good, hd1.len, hn, by omega, ?_, ?_, ?_, ?_, hd1.max, ?_, ?_⟩
                    · rw [hk2, List.getElem?_append_left (by omega)]; exact hL.own
                    · refine hd1.anc.trans (.up (x := keyN cn) ?_ (by rw [hcnk]) (.refl m))
                      rw [hk2, List.getElem?_append_right (by omega), hkl]
                      simp
                    · show t.spawned + 1 = _
                      rw [hk2, cnt_app, show keyN cn :: Z1 = [keyN cn] ++ Z1 from rfl, cnt_app, cnt_none (Z := Z1) (fun z hz => by have := hd1.low z hz; omega), hL.cnt]
                      have e2 : cntK [keyN cn] (m : Int) = 1 := by rw [hcnk]; simp [cntK]
                      rw [e2]
                      simp
                    · show _ = some t.depth
                      rw [List.append_assoc, List.getElem?_append_left (by omega)]
                      exact hL.dep
                    · show 0 ≤ t.node.work + 1
                      have := hL.wk
                      omega
                    · intro j y hj hy
                      by_cases hjc : j < s.tasks
                      · rw [hfr, List.getElem?_append_left (by omega)] at hy
                        exact hL.fin j y hj hy
                      · exact hd1.fin j y (by omega) hy
                  obtain ⟨Z2, E2, hd2⟩ := loop_shape g s2 _ _ m (D ++ [t.depth + 1] ++ E1) v sp s' h hLt
                  have hlt := hL.lt
                  refine ⟨(keyN cn :: Z1) ++ Z2, ([t.depth + 1] ++ E1) ++ E2, ⟨by rw [hd2.keys, hk2, List.append_assoc], by have := hd2.good; simpa using this, hd2.len, by have := hd2.le; omega, hd2.anc, ?_, by have := hd2.max; simpa using this, hd2.fin, hd2.v, ?_, ?_⟩⟩
                  · intro z hz
                    rcases List.mem_append.1 hz with hz | hz
                    · rcases List.mem_cons.1 hz with hz | hz
                      · subst hz; rw [hcnk]; exact Int.le_refl _
                      · have := hd1.low z hz; omega
                    · exact hd2.low z hz
                  · have h1 := hd2.sum
                    have h2 := hd1.sum
                    have h3 : sumW (s2.nodes.drop (m + 1)) = sumW (s.nodes.drop (m + 1)) + sumW (s2.nodes.drop s.tasks) := by
                      conv => lhs; rw [hfr]
                      rw [List.drop_append_of_le_length (by omega), sum_app]
                    have h4 : sumW ((enterS true (payS s) (childV fs (payT t) i)).nodes.drop (s.tasks + 1)) = 0 := by
                      rw [hnodes, List.drop_eq_nil_of_le (by simp; omega)]
                      rfl
                    have h5 : (((enterS true (payS s) (childV fs (payT t) i)).fuel : Nat) : Int) = s.fuel - 1 := by show ((s.fuel - 1 : Nat) : Int) = _; omega
                    have h6 : (enterT (payS s) (childV fs (payT t) i)).node.work = 0 := rfl
                    have h7 : (gotT (spawnT (payT t)) i.a.toNat v1 sp1).node.work = t.node.work + 1 := rfl
                    rw [h4, h5, h6] at h2
                    rw [h3, h7] at h1
                    omega
                  · rw [hd2.front, hfr, List.take_append_of_le_length (by omega)]
            · split at h
              · obtain ⟨Z, E, hd⟩ := loop_shape g (payS s) (waitT (payT t)) _ m D v sp s' h (hL.pay.same rfl rfl rfl rfl)
                exact ⟨Z, E, hd.pay h0 rfl⟩
              · split at h
                · injection h with h1 h2 h3
                  have hn := hL.num
                  have hlt := hL.lt
                  have hl := hL.len
                  obtain ⟨y, hy⟩ : ∃ y, y = (endT (payT t) (t.regs.getD i.a.toNat 0)).node := ⟨_, rfl⟩
                  have hnn : s'.nodes = s.nodes.set m y := by
                    rw [← h3, hy]
                    show s.nodes.set t.number.toNat _ = _
                    rw [hn]
                    rfl
                  have hkk : keys s'.nodes = keys s.nodes := by rw [hnn]; exact map_set_same (by rw [hL.own, hy]; rfl)
                  have htk : s'.tasks = s.tasks := by rw [← h3]; rfl
                  have hyw : y.work = t.node.work + 1 := by rw [hy]; rfl
                  refine ⟨[], [], ⟨by rw [hkk, List.append_nil], by rw [hkk, List.append_nil]; exact hL.good, by rw [hnn, htk]; simpa using hl, by omega, by rw [hkk, htk]; exact hL.anc, fun z hz => (by cases hz), by rw [List.append_nil, ← hL.max, ← h3]; rfl, ?_, ⟨y, by rw [hnn, List.getElem?_set_self (by omega)], by rw [hy, ← h1]; rfl⟩, ?_, by rw [hnn, List.take_set_of_le (Nat.le_refl _)]⟩⟩
                  · intro j z hj hz
                    rw [hnn] at hz
                    by_cases hjm : m = j
                    · subst hjm
                      rw [List.getElem?_set_self (by omega)] at hz
                      injection hz with hz
                      have := hL.wk
                      rw [← hz]
                      omega
                    · rw [List.getElem?_set_ne hjm] at hz
                      exact hL.fin j z (by omega) hz
                  · rw [hnn, drop_set _ _ _ (by omega)]
                    have h5 : (s'.fuel : Int) = s.fuel - 1 := by rw [← h3]; show ((s.fuel - 1 : Nat) : Int) = _; omega
                    have h6 : sumW (y :: s.nodes.drop (m + 1)) = y.work + sumW (s.nodes.drop (m + 1)) := rfl
                    rw [h5, h6, hyw]
                    omega
                · have e : (computeT (payT t) i).number = (payT t).number ∧ (computeT (payT t) i).node = (payT t).node ∧ (computeT (payT t) i).spawned = (payT t).spawned ∧ (computeT (payT t) i).depth = (payT t).depth := by
                    unfold computeT setR
                    repeat' split
                    all_goals exact ⟨rfl, rfl, rfl, rfl⟩
                  obtain ⟨Z, E, hd⟩ := loop_shape g (payS s) (computeT (payT t) i) _ m D v sp s' h (hL.pay.same e.1 e.2.1 e.2.2.1 e.2.2.2)
                  exact ⟨Z, E, hd.pay h0 (by rw [e.2.1]; rfl)⟩
/-- The whole tree. -/
structure Whole (fs : List Fn) (F : Nat) (v : Int) (s : Rn) (D : List Int) : Prop where
  good : Grows fs (keys s.nodes) D
  len : s.nodes.length = s.tasks
  max : s.depth = maxD D
  fin : ∀ (j : Nat) (y : Nd), s.nodes[j]? = some y → 1 ≤ y.work
  v : ∃ y, s.nodes[0]? = some y ∧ y.v = v
  sum : sumW s.nodes + s.fuel = F
theorem run_shape {fs : List Fn} {zs : List Int} {F : Nat} {v sp : Int} {s : Rn} (h : runV fs true zs F = .done v sp s) : ∃ D, Whole fs F v s D := by
  unfold runV playV at h
  rw [if_neg (by show ¬ (4096 : Int) < 1; decide)] at h
  have hL : Lp fs (enterS true (startS F) (rootT zs)) (enterT (startS F) (rootT zs)) 0 [1] :=
    ⟨.one, rfl, rfl, by show 0 < 1; omega, rfl, .refl _, rfl, rfl, rfl, Int.le_refl _, fun j y hj hy => by
      have := (List.getElem?_eq_some_iff.1 hy).1
      have h1 : (enterS true (startS F) (rootT zs)).nodes.length = 1 := rfl
      omega⟩
  obtain ⟨Z, E, hd⟩ := loop_shape _ _ _ 0 0 [1] v sp s h hL
  refine ⟨[1] ++ E, ⟨hd.good, hd.len, hd.max, fun j y hy => hd.fin j y (Nat.zero_le _) hy, hd.v, ?_⟩⟩
  have h1 := hd.sum
  have h2 : sumW ((enterS true (startS F) (rootT zs)).nodes.drop (0 + 1)) = 0 := rfl
  have h3 : (enterT (startS F) (rootT zs)).node.work = 0 := rfl
  have h4 : (enterS true (startS F) (rootT zs)).fuel = F := rfl
  rw [h2, h3, h4, List.drop_zero] at h1
  omega
end Go.Proofs.YtiphikoaohhpeaaDoor
/-! pay, wait, leave. -/
namespace Go.Proofs.YtiphikoaohhpeaaDoor
set_option linter.unusedVariables false
set_option maxRecDepth 20000
open Go.RowKit Go.HeapKit Go.PlainOps

theorem pay_out (R X : Nat) (fv nv : Value) (L : Bool) (s : Rn) (w : World) (h : IsRn w R fv L s nv) (h0 : s.fuel = 0) :
    Calls Tryd.prog 18 #[.pointer (some ⟨R, 0, none⟩), .pointer (some ⟨X, 0, none⟩)] w fun e w' => e = .panicked (thrownE 62) ∧ w' = w := by
  have c1 : w.cell? ⟨R, 1, none⟩ = some (.int .i64 0) := by rw [blk_cell h.blk]; simp [h0]
  clear h h0
  go_enter Tryd.func18, Tryd.ntmps18
  go_wp2_with (go_at_call 16; refine (sgiveUp_any _ _).mono ?_; rintro _ w' ⟨rfl, rfl⟩)
  exact ⟨rfl, rfl, rfl⟩
theorem pay_any (R X : Nat) (fv nv : Value) (L : Bool) (s : Rn) (at_ : Int) (t : Tk) (w : World) (h : IsRn w R fv L s nv) (ht : IsTk w X at_ t) (h0 : s.fuel ≠ 0) (hs : s.fuel ≤ 8388608) (b1 : 0 ≤ t.node.work ∧ t.node.work ≤ 8388608) (b2 : 0 ≤ t.span ∧ t.span ≤ 8388608) :
    Calls Tryd.prog 18 #[.pointer (some ⟨R, 0, none⟩), .pointer (some ⟨X, 0, none⟩)] w fun e w' => e = .returned (.tuple #[]) ∧ IsRn w' R fv L (payS s) nv ∧ IsTk w' X at_ (payT t) ∧ Keeps (fun k => k = R ∨ k = X) w w' := by
  obtain ⟨m, hm⟩ : ∃ m, s.fuel = m + 1 := ⟨s.fuel - 1, by omega⟩
  obtain ⟨F, hF⟩ : ∃ F : Int, F = (m : Int) + 1 := ⟨_, rfl⟩
  have c1 : w.cell? ⟨R, 1, none⟩ = some (.int .i64 F) := by rw [blk_cell h.blk]; simp [hm, hF]
  have c2 := ht.tail 3 rfl
  have c3 := ht.tail 9 rfl
  have z1 := blk_free h.blk 1
  have z2 := ht.free 31
  have z3 := ht.free 37
  have n1 := h.ne ht
  have n2 := n1.symm
  have f1 : (F == 0) = false := by simp; omega
  have f2 : F ≤ 8388609 := by omega
  have f3 : 1 ≤ F := by omega
  have k1 : Keeps (· = R) w (w.setCell ⟨R, 1, none⟩ (.int .i64 (F - 1))) := Keeps.setCell (S := (· = R)) w (a := ⟨R, 1, none⟩) rfl _
  have r1 : IsRn (w.setCell ⟨R, 1, none⟩ (.int .i64 (F - 1))) R fv L (payS s) nv := h.put rfl (by simp [payS, hm, hF])
  have t1 := ht.kept k1 n2
  have t2 := t1.putTail (nf' := t.node.func) (np' := t.node.ped) (t' := { t with node := { t.node with work := t.node.work + 1 } }) (j := 3) (x := t.node.work + 1) rfl rfl rfl
  have t3 := t2.putTail (nf' := t.node.func) (np' := t.node.ped) (t' := payT t) (j := 9) (x := t.span + 1) rfl rfl rfl
  have k2 : Keeps (· = X) (w.setCell ⟨R, 1, none⟩ (.int .i64 (F - 1))) _ := ((Keeps.refl (· = X) _).andSet (x := ⟨X, 31, none⟩) (.inl rfl) (.int .i64 (t.node.work + 1))).andSet (x := ⟨X, 37, none⟩) (.inl rfl) (.int .i64 (t.span + 1))
  have HH : Hid _ := And.intro (r1.kept k2 (fun k hk e => by subst e; rcases hk with hk | hk; exact n2 hk; exact r1.nX t1 hk)) (And.intro t3 ((k1.mono (fun _ e _ => Or.inl e)).trans k2 (fun _ e _ => Or.inr e)))
  clear h ht k1 r1 t1 t2 t3 k2 hF hm h0 hs
  obtain ⟨W, hW⟩ : ∃ W, W = t.node.work := ⟨_, rfl⟩
  obtain ⟨P, hP⟩ : ∃ P, P = t.span := ⟨_, rfl⟩
  go_enter Tryd.func18, Tryd.ntmps18
  go_wp2_with fail
  go_end0
  exact ⟨rfl, HH.out⟩
end Go.Proofs.YtiphikoaohhpeaaDoor
/-! wait, leave, enter. -/
namespace Go.Proofs.YtiphikoaohhpeaaDoor
set_option linter.unusedVariables false
set_option maxRecDepth 20000
open Go.RowKit Go.HeapKit Go.PlainOps

theorem wrap_small {x : Int} (h : -9223372036854775808 ≤ x ∧ x ≤ 9223372036854775807) : IntKind.i64.wrap x = x := by
  simp [IntKind.wrap, IntKind.bits, IntKind.signed]; omega
theorem wait_any (X : Nat) (at_ : Int) (t : Tk) (w : World) (ht : IsTk w X at_ t) (b1 : 0 ≤ t.due ∧ t.due ≤ 8388608) (b2 : 0 ≤ t.span ∧ t.span ≤ 8388608) :
    Calls Tryd.prog 20 #[.pointer (some ⟨X, 0, none⟩)] w fun e w' => e = .returned (.tuple #[]) ∧ IsTk w' X at_ (waitT t) ∧ Keeps (· = X) w w' := by
  have c1 := ht.tail 9 rfl
  have c2 := ht.tail 10 rfl
  have z1 := ht.free 37
  have t1 := ht.putTail (nf' := t.node.func) (np' := t.node.ped) (t' := waitT t) (j := 9) (x := imax t.span (t.due + 1)) rfl rfl rfl
  have k1 : Keeps (· = X) w _ := (Keeps.refl (· = X) w).andSet (x := ⟨X, 37, none⟩) (.inl rfl) (.int .i64 (imax t.span (t.due + 1)))
  have HH : Hid _ := And.intro (t1.kept (Keeps.drew None _) (fun f => f)) k1.andDrew
  clear ht t1 k1
  go_enter Tryd.func20, Tryd.ntmps20
  go_wp2_with fail
  go_region
  all_goals go_end0
  all_goals exact ⟨rfl, HH.out⟩
theorem leave_off (R X : Nat) (fv nv : Value) (s : Rn) (at_ : Int) (t : Tk) (w : World) (h : IsRn w R fv false s nv) :
    Calls Tryd.prog 21 #[.pointer (some ⟨R, 0, none⟩), .pointer (some ⟨X, 0, none⟩)] w fun e w' => e = .returned (.tuple #[]) ∧ w' = w := by
  have c1 : w.cell? ⟨R, 4, none⟩ = some (.bool false) := (blk_cell h.blk 4).trans rfl
  clear h
  go_enter Tryd.func21, Tryd.ntmps21
  go_wp2_with fail
  go_end0
  exact ⟨rfl, rfl⟩
theorem leave_on (R X : Nat) (fv nv : Value) (s : Rn) (at_ : Int) (t : Tk) (w : World) (h : IsRn w R fv true s nv) (ht : IsTk w X at_ t) (hn : 0 ≤ t.number ∧ t.number < s.nodes.length) :
    Calls Tryd.prog 21 #[.pointer (some ⟨R, 0, none⟩), .pointer (some ⟨X, 0, none⟩)] w fun e w' => e = .returned (.tuple #[]) ∧ IsRn w' R fv true (leaveS true s t) nv ∧ IsTk w' X at_ t ∧ Keeps (RFoot R nv) w w' := by
  have hL := ndVals_length s.nodes
  have nX := h.nX ht
  have nR := h.nR
  rcases h.row.2 with ⟨_, h0⟩ | ⟨g, cap, cur, rfl, hb, hg, hnc, hcm, hcs, htk⟩
  · omega
  · obtain ⟨k, hk⟩ := Int.eq_ofNat_of_zero_le hn.1
    have hk2 : k < s.nodes.length := by omega
    have c1 : w.cell? ⟨R, 4, none⟩ = some (.bool true) := (blk_cell h.blk 4).trans rfl
    have c2 : w.cell? ⟨R, 5, none⟩ = some (.slice (some ⟨g, 0, none⟩) s.nodes.length cap) := (blk_cell h.blk 5).trans rfl
    have d0 := ht.tail 0 rfl
    have d1 := ht.tail 1 rfl
    have d2 := ht.tail 2 rfl
    have d3 := ht.tail 3 rfl
    have d4 := ht.tail 4 rfl
    have d5 := ht.tail 5 rfl
    have d6 := ht.tail 6 rfl
    have d7 : w.cell? ⟨X, 35, none⟩ = some (.int .i64 (k : Int)) := by rw [← hk]; exact ht.tail 7 rfl
    have z : ∀ j, w.frozen? ⟨g, j, none⟩ = false := fun j => blk_free hg j
    have z0 := z (k * 7)
    have z1 := z (k * 7 + 1)
    have z2 := z (k * 7 + 2)
    have z3 := z (k * 7 + 3)
    have z4 := z (k * 7 + 4)
    have z5 := z (k * 7 + 5)
    have z6 := z (k * 7 + 6)
    have hsz : s.nodes.length * 7 ≤ cur.size := by rw [hcs]; exact Nat.mul_le_mul_right _ hnc
    have at_ : ∀ j, j < 7 → ∃ v, w.cell? ⟨g, k * 7 + j, none⟩ = some v := fun j hj => ⟨cur[k * 7 + j]'(by omega), by rw [blk_cell hg]; simp⟩
    obtain ⟨v0, y0⟩ := at_ 0 (by omega)
    obtain ⟨v1, y1⟩ := at_ 1 (by omega)
    obtain ⟨v2, y2⟩ := at_ 2 (by omega)
    obtain ⟨v3, y3⟩ := at_ 3 (by omega)
    obtain ⟨v4, y4⟩ := at_ 4 (by omega)
    obtain ⟨v5, y5⟩ := at_ 5 (by omega)
    obtain ⟨v6, y6⟩ := at_ 6 (by omega)
    simp only [Nat.add_zero] at y0
    have i1 : (k : Int) < (s.nodes.length : Int) := by omega
    obtain ⟨w2, hw2⟩ : ∃ w2, w2 = ((((((w.setCell ⟨g, k * 7, none⟩ (.int .i64 t.node.parent)).setCell ⟨g, k * 7 + 1, none⟩ (.int .i64 t.node.idx)).setCell ⟨g, k * 7 + 2, none⟩ (.int .i64 t.node.func)).setCell ⟨g, k * 7 + 3, none⟩ (.int .i64 t.node.work)).setCell ⟨g, k * 7 + 4, none⟩ (.int .i64 t.node.ped)).setCell ⟨g, k * 7 + 5, none⟩ (.int .i64 t.node.arg)).setCell ⟨g, k * 7 + 6, none⟩ (.int .i64 t.node.v) := ⟨_, rfl⟩
    have hk1 : Keeps (· = g) w w2 := by
      rw [hw2]
      exact (((((((Keeps.refl (· = g) w).andSet (x := ⟨g, k * 7, none⟩) (.inl rfl) _).andSet (x := ⟨g, k * 7 + 1, none⟩) (.inl rfl) _).andSet (x := ⟨g, k * 7 + 2, none⟩) (.inl rfl) _).andSet (x := ⟨g, k * 7 + 3, none⟩) (.inl rfl) _).andSet (x := ⟨g, k * 7 + 4, none⟩) (.inl rfl) _).andSet (x := ⟨g, k * 7 + 5, none⟩) (.inl rfl) _).andSet (x := ⟨g, k * 7 + 6, none⟩) (.inl rfl) _
    have ngX : g ≠ X := fun e => nX (by rw [← e]; rfl)
    have ngR : g ≠ R := fun e => nR (by rw [← e]; rfl)
    have hrn : IsRn w2 R fv true (leaveS true s t) (.slice (some ⟨g, 0, none⟩) s.nodes.length cap) := by
      refine ⟨blk_kept h.blk hk1 (fun e => ngR e.symm), ?_⟩
      have hlen : (leaveS true s t).nodes.length = s.nodes.length := by simp [leaveS]
      rw [hlen]
      refine ⟨by rw [ndVals_length, hlen], .inr ⟨g, cap, _, rfl, hb, by rw [hw2]; exact blk_set (blk_set (blk_set (blk_set (blk_set (blk_set (blk_set hg _) _) _) _) _) _) _, hnc, hcm, by simpa using hcs, ?_⟩⟩
      have e : (leaveS true s t).nodes = s.nodes.set k t.node := by simp [leaveS, hk]
      rw [e, ← ndVals_set s.nodes k t.node hk2]
      simp only [Array.toList_setIfInBounds]
      have hall : ∀ (l : List Value) (q : Nat) (v : Value), (l.set q v).take (s.nodes.length * 7) = (l.take (s.nodes.length * 7)).set q v := fun l q v => by rw [List.take_set]
      rw [hall, hall, hall, hall, hall, hall, hall, htk]
    have HH : Hid _ := And.intro (hrn.kept (Keeps.drew None _) (fun _ _ f => f)) (And.intro ((ht.kept hk1 (fun e => ngX e.symm)).kept (Keeps.drew None _) (fun f => f)) (hk1.andDrew.mono (fun i e _ => (Or.inr (by subst e; rfl) : RFoot R (.slice (some ⟨g, 0, none⟩) s.nodes.length cap) i))))
    rw [hw2] at HH
    clear h ht hrn hk1 hw2 at_ z
    go_enter Tryd.func21, Tryd.ntmps21
    go_wp2_with fail
    go_region
    all_goals go_end0
    all_goals exact ⟨rfl, HH.out⟩
end Go.Proofs.YtiphikoaohhpeaaDoor
/-! enter. -/
namespace Go.Proofs.YtiphikoaohhpeaaDoor
set_option linter.unusedVariables false
set_option maxRecDepth 20000
set_option linter.unusedSimpArgs false
open Go.RowKit Go.HeapKit Go.PlainOps

theorem enter_deep (R X : Nat) (t : Tk) (w : World) (ht : IsTkN w X 0 0 0 t) (hd : 4096 < t.depth) :
    Calls Tryd.prog 17 #[.pointer (some ⟨R, 0, none⟩), .pointer (some ⟨X, 0, none⟩)] w fun e w' => e = .panicked (thrownE 63) ∧ w' = w := by
  have c1 := ht.tail 8 rfl
  clear ht
  go_enter Tryd.func17, Tryd.ntmps17
  go_wp2_with (go_at_call 16; refine (sgiveUp_any _ _).mono ?_; rintro _ w' ⟨rfl, rfl⟩)
  exact ⟨rfl, rfl, rfl⟩
/-- What 'enter' does ahead of the node's own cells. -/
def entW (w : World) (R X : Nat) (T0 M : Int) : World := (((w.setCell ⟨X, 35, none⟩ (.int .i64 T0)).setCell ⟨R, 2, none⟩ (.int .i64 (T0 + 1))).setCell ⟨R, 3, none⟩ (.int .i64 M)).drew
theorem entered {R X : Nat} {fv nv : Value} {L : Bool} {s : Rn} {t : Tk} {w : World} (h : IsRn w R fv L s nv) (ht : IsTkN w X 0 0 0 t) :
    IsRn (entW w R X s.tasks (imax s.depth t.depth)) R fv L { s with tasks := s.tasks + 1, depth := imax s.depth t.depth } nv ∧
    IsTkN (entW w R X s.tasks (imax s.depth t.depth)) X 0 0 0 { t with number := s.tasks } ∧
    Keeps (fun k => k = R ∨ k = X) w (entW w R X s.tasks (imax s.depth t.depth)) := by
  have n1 := h.ne ht
  have ka : Keeps (· = X) w (w.setCell ⟨X, 35, none⟩ (.int .i64 s.tasks)) := Keeps.setCell (S := (· = X)) w (a := ⟨X, 35, none⟩) rfl _
  have ta := ht.putTail (nf' := 0) (np' := 0) (t' := { t with number := s.tasks }) (j := 7) (x := s.tasks) rfl rfl rfl
  have ra := h.kept ka (fun k hk e => by subst e; rcases hk with hk | hk; exact n1 hk.symm; exact h.nX ht hk)
  have rb := ra.put (k := 2) (x := (s.tasks : Int) + 1) (s' := { s with tasks := s.tasks + 1 }) rfl (by simp)
  have kb : Keeps (· = R) _ _ := Keeps.setCell (S := (· = R)) (w.setCell ⟨X, 35, none⟩ (.int .i64 s.tasks)) (a := ⟨R, 2, none⟩) rfl (.int .i64 ((s.tasks : Int) + 1))
  have tb := ta.kept kb n1.symm
  have rc := rb.put (k := 3) (x := imax s.depth t.depth) (s' := { s with tasks := s.tasks + 1, depth := imax s.depth t.depth }) rfl (by simp)
  have kc : Keeps (· = R) _ _ := Keeps.setCell (S := (· = R)) ((w.setCell ⟨X, 35, none⟩ (.int .i64 s.tasks)).setCell ⟨R, 2, none⟩ (.int .i64 ((s.tasks : Int) + 1))) (a := ⟨R, 3, none⟩) rfl (.int .i64 (imax s.depth t.depth))
  have tc := tb.kept kc n1.symm
  have kd := Keeps.drew None (((w.setCell ⟨X, 35, none⟩ (.int .i64 s.tasks)).setCell ⟨R, 2, none⟩ (.int .i64 ((s.tasks : Int) + 1))).setCell ⟨R, 3, none⟩ (.int .i64 (imax s.depth t.depth)))
  refine ⟨rc.kept kd (fun _ _ f => f), tc.kept kd (fun f => f), ?_⟩
  exact (((ka.mono (fun _ e _ => Or.inr e)).trans kb (fun _ e _ => Or.inl e)).trans kc (fun _ e _ => Or.inl e)).trans kd (fun _ f _ => f.elim)
/-- The node's own cells. -/
def entN (W : World) (X : Nat) (F P A0 : Int) : World := (((W.setCell ⟨X, 30, none⟩ (.int .i64 F)).setCell ⟨X, 32, none⟩ (.int .i64 P)).setCell ⟨X, 33, none⟩ (.int .i64 A0)).drew
theorem entered2 {R X : Nat} {fv nv : Value} {L : Bool} {s s' : Rn} {t : Tk} {W : World} (h : IsRn W R fv L s nv) (ht : IsTkN W X 0 0 0 { t with number := s'.tasks }) :
    IsRn (entN W X t.node.func t.node.ped (t.regs.getD 0 0)) R fv L s nv ∧ IsTk (entN W X t.node.func t.node.ped (t.regs.getD 0 0)) X 0 (enterT s' t) ∧ Keeps (· = X) W (entN W X t.node.func t.node.ped (t.regs.getD 0 0)) := by
  have n1 := h.ne ht
  have ta := ht.putTail (nf' := t.node.func) (np' := 0) (t' := { t with number := s'.tasks }) (j := 2) (x := t.node.func) rfl rfl rfl
  have tb := ta.putTail (nf' := t.node.func) (np' := t.node.ped) (t' := { t with number := s'.tasks }) (j := 4) (x := t.node.ped) rfl rfl rfl
  have tc := tb.putTail (nf' := t.node.func) (np' := t.node.ped) (t' := enterT s' t) (j := 5) (x := t.regs.getD 0 0) rfl rfl rfl
  have kk : Keeps (· = X) W _ := (((Keeps.refl (· = X) W).andSet (x := ⟨X, 30, none⟩) (.inl rfl) (.int .i64 t.node.func)).andSet (x := ⟨X, 32, none⟩) (.inl rfl) (.int .i64 t.node.ped)).andSet (x := ⟨X, 33, none⟩) (.inl rfl) (.int .i64 (t.regs.getD 0 0))
  exact ⟨h.kept kk.andDrew (fun k hk e => by subst e; rcases hk with hk | hk; exact n1 hk.symm; exact h.nX ht hk), tc.kept (Keeps.drew None _) (fun f => f), kk.andDrew⟩
set_option maxHeartbeats 1000000 in
theorem enter_off (R X : Nat) (fv nv : Value) (s : Rn) (t : Tk) (w : World) (h : IsRn w R fv false s nv) (ht : IsTkN w X 0 0 0 t) (hd : ¬ 4096 < t.depth) (b1 : s.tasks ≤ 8388608) :
    Calls Tryd.prog 17 #[.pointer (some ⟨R, 0, none⟩), .pointer (some ⟨X, 0, none⟩)] w fun e w' => e = .returned (.tuple #[]) ∧ IsRn w' R fv false (enterS false s t) nv ∧ IsTk w' X 0 (enterT s t) ∧ Keeps (fun k => k = R ∨ k = X) w w' := by
  have c1 := ht.tail 8 rfl
  have c2 : w.cell? ⟨R, 2, none⟩ = some (.int .i64 s.tasks) := (blk_cell h.blk 2).trans rfl
  have c3 : w.cell? ⟨R, 3, none⟩ = some (.int .i64 s.depth) := (blk_cell h.blk 3).trans rfl
  have c4 : w.cell? ⟨R, 4, none⟩ = some (.bool false) := (blk_cell h.blk 4).trans rfl
  have c7 := ht.tail 7 rfl
  have z1 := ht.free 35
  have z3 := blk_free h.blk 2
  have z4 := blk_free h.blk 3
  have n1 := h.ne ht
  have n2 := n1.symm
  obtain ⟨h2, t2, k2⟩ := entered h ht
  obtain ⟨h3, t3, k3⟩ := entered2 (s' := s) h2 t2
  have HH : Hid (IsRn (entN (entW w R X s.tasks (imax s.depth t.depth)) X t.node.func t.node.ped (t.regs.getD 0 0)) R fv false (enterS false s t) nv ∧ IsTk (entN (entW w R X s.tasks (imax s.depth t.depth)) X t.node.func t.node.ped (t.regs.getD 0 0)) X 0 (enterT s t) ∧ Keeps (fun k => k = R ∨ k = X) w (entN (entW w R X s.tasks (imax s.depth t.depth)) X t.node.func t.node.ped (t.regs.getD 0 0))) := ⟨h3, t3, k2.trans k3 (fun _ e _ => .inr e)⟩
  have d1 := t2.tsk.func
  have d2 := t2.tsk.ped
  have d3 := t2.reg (k := 0) (by omega)
  have d4 : (entW w R X s.tasks (imax s.depth t.depth)).cell? ⟨R, 4, none⟩ = some (.bool false) := (blk_cell h2.blk 4).trans rfl
  have e1 := t2.tail 2 rfl
  have e2 := t2.tail 4 rfl
  have e3 := t2.tail 5 rfl
  have f1 := t2.free 30
  have f2 := t2.free 32
  have f3 := t2.free 33
  clear h ht h2 t2 k2 h3 t3 k3
  obtain ⟨T0, hT0⟩ : ∃ T0 : Int, T0 = s.tasks := ⟨_, rfl⟩
  rw [← hT0] at c2 HH d1 d2 d3 d4 e1 e2 e3 f1 f2 f3
  have b2 : 0 ≤ T0 ∧ T0 ≤ 8388608 := by omega
  obtain ⟨W, hW⟩ : ∃ W, W = entW w R X T0 (imax s.depth t.depth) := ⟨_, rfl⟩
  rw [← hW] at HH d1 d2 d3 d4 e1 e2 e3 f1 f2 f3
  unfold entN at HH
  clear hT0
  have dd1 : W.cell? ⟨X, 0, none⟩ = some (.int .i64 t.node.func) := d1
  have dd2 : W.cell? ⟨X, 18, none⟩ = some (.int .i64 t.node.ped) := d2
  have dd3 : W.cell? ⟨X, 2, none⟩ = some (.int .i64 (t.regs.getD 0 0)) := d3
  clear d1 d2 d3
  unfold entW at hW
  have HW : Hid _ := hW
  clear hW
  generalize t.regs.getD 0 0 = A0 at *
  go_enter Tryd.func17, Tryd.ntmps17
  by_cases hlt : s.depth < t.depth
  · have e : imax s.depth t.depth = t.depth := if_pos hlt
    rw [e] at HW
    clear e
    go_wp2_with fail
    go_region
    all_goals go_upto_region 5 with fail
    all_goals rw [← HW.out]
    all_goals clear c1 c2 c3 c4 c7 z1 z3 z4 HW
    all_goals go_region
    all_goals go_wp2_with fail
    all_goals go_end0
    all_goals exact ⟨rfl, HH.out⟩
  · have e : imax s.depth t.depth = s.depth := if_neg hlt
    rw [e] at HW
    clear e
    go_wp2_with fail
    go_region
    all_goals go_upto_region 5 with fail
    all_goals rw [← HW.out]
    all_goals clear c1 c2 c3 c4 c7 z1 z3 z4 HW
    all_goals go_region
    all_goals go_wp2_with fail
    all_goals go_end0
    all_goals exact ⟨rfl, HH.out⟩
end Go.Proofs.YtiphikoaohhpeaaDoor
