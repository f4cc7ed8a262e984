import Derived.Test.YthignlailbekmaaDoorRdSpawn2
import Derived.Test.YthignlailbekmaaDoorSrPlay
/-! What the document's 'task' stands on. -/
namespace Go.Proofs.YthignlailbekmaaDoor
set_option linter.unusedVariables false
set_option maxRecDepth 20000
set_option linter.unusedSimpArgs false
open Go.RowKit Go.HeapKit Go.PlainOps

/-- What a task of the document's comes to; 'k0': its number, 'M': the nodes as it began. -/
def RTo (R : Nat) (fv nv : Value) (w : World) (k0 : Nat) (M : List Nd) (r : Res) (e0 : Ending) (w' : World) : Prop :=
  match r with
  | .gave er => ∃ fuel' depth' M' nv', e0 = .returned (.tuple #[.int .i64 0, .int .i64 0]) ∧ IsRR w' R fv fuel' er depth' M' nv' ∧ Keeps (RFoot R nv) w w' ∧ Moved w nv nv'
  | .done v sp s' => ∃ M' nv', e0 = .returned (.tuple #[.int .i64 v, .int .i64 sp]) ∧ IsRR w' R fv s'.fuel 0 s'.depth M' nv' ∧ Keeps (RFoot R nv) w w' ∧ Moved w nv nv' ∧ M'.length = s'.nodes.length ∧ (∀ j, k0 ≤ j → M'[j]? = s'.nodes[j]?) ∧ ∀ j, j < k0 → M'[j]? = M[j]?
/-- A task that is about to begin, with these arguments. -/
structure NewT (t : Tk) (zs : List Int) : Prop where
  regs : t.regs = argsV zs 0 zs.length
  len : zs.length ≤ 8
  slots : t.slots = List.replicate 8 0
  spawned : t.spawned = 0
  span : t.span = 0
  due : t.due = 0
  work : t.node.work = 0
  arg : t.node.arg = 0
  v : t.node.v = 0
theorem child_new (t : Tk) (ib ic : Int) (n : Nat) (hn : n ≤ 8) : NewT (childP t ib ic n) (argL t.regs ic.toNat n) :=
  ⟨(argL_args t.regs ic.toNat n).symm, by rw [argL_len]; exact hn, rfl, rfl, rfl, rfl, rfl, rfl, rfl⟩
theorem root_new (zs : List Int) (h : zs.length ≤ 8) : NewT (rootT zs) zs := ⟨rfl, h, rfl, rfl, rfl, rfl, rfl, rfl, rfl⟩
theorem IsRR.slice {w : World} {R : Nat} {fv nv : Value} {fuel : Nat} {er depth : Int} {M : List Nd} (h : IsRR w R fv fuel er depth M nv) : ∃ na nc, nv = .slice na M.length nc := by
  rcases h.row.2 with ⟨rfl, h0⟩ | ⟨g, cap, cur, rfl, _⟩
  · exact ⟨none, 0, by rw [h0]⟩
  · exact ⟨_, cap, rfl⟩
/-- The node of a task that begins is appended. -/
theorem rnoded {R X : Nat} {fv nv : Value} {fuel : Nat} {er depth : Int} {M : List Nd} {at_ e : Int} {t : Tk} {x : Nd} {w : World} (h : IsRR w R fv fuel er depth M nv) (ht : IsRT w X at_ e t) (hl : M.length ≤ 8388608) :
    ∃ b cap w1, (Builtin.append_ #[35, 35] 35 #[nv, .slice (some ⟨w.heap.size, 0, none⟩) 1 1]).run Tryd.prog (w.alloc (.cells #[.int .i64 x.parent, .int .i64 x.idx, .int .i64 x.func, .int .i64 x.work, .int .i64 x.ped, .int .i64 x.arg, .int .i64 x.v] 41)) = .ok (.slice (some ⟨b, 0, none⟩) (M.length + 1) cap) w1 ∧
      w1.cell? ⟨R, 3, none⟩ = some nv ∧ w1.frozen? ⟨R, 3, none⟩ = false ∧
      IsRR (w1.setCell ⟨R, 3, none⟩ (.slice (some ⟨b, 0, none⟩) (M.length + 1) cap)) R fv fuel er depth (M ++ [x]) (.slice (some ⟨b, 0, none⟩) (M.length + 1) cap) ∧
      IsRT (w1.setCell ⟨R, 3, none⟩ (.slice (some ⟨b, 0, none⟩) (M.length + 1) cap)) X at_ e t ∧
      Keeps (RFoot R nv) w (w1.setCell ⟨R, 3, none⟩ (.slice (some ⟨b, 0, none⟩) (M.length + 1) cap)) ∧ Moved w nv (.slice (some ⟨b, 0, none⟩) (M.length + 1) cap) := by
  have hal := Keeps.alloc None w (.cells #[.int .i64 x.parent, .int .i64 x.idx, .int .i64 x.func, .int .i64 x.work, .int .i64 x.ped, .int .i64 x.arg, .int .i64 x.v] 41)
  have h1 := h.kept hal (fun _ _ f => f)
  have hg := heap_alloc_new w (.cells #[.int .i64 x.parent, .int .i64 x.idx, .int .i64 x.func, .int .i64 x.work, .int .i64 x.ped, .int .i64 x.arg, .int .i64 x.v] 41)
  obtain ⟨b, cap, w1, hr, ho, hgr, hm⟩ := nd_append nv M x w.heap.size 35 _ h1.row hl hg
  have hk1 : Keeps (fun i => nv.ownBlock = some i) w w1 := ((Keeps.refl _ w).andAlloc _).andGrown hgr (fun k e => .inl e)
  have bR := blk_kept h.blk hk1 h.nR
  have tX := ht.kept hk1 (h.nX ht)
  have hkS := Keeps.setCell (S := (· = R)) w1 (a := ⟨R, 3, none⟩) rfl (.slice (some ⟨b, 0, none⟩) (M.length + 1) cap)
  refine ⟨b, cap, w1, hr, (blk_cell bR 3).trans rfl, blk_free bR 3, ⟨?_, ?_⟩, tX.kept hkS (h.ne ht).symm, ?_, ?_⟩
  · rw [blk_set bR]; rfl
  · have hne : b ≠ R := fun e => by
      have := own_type ho (g := b) rfl (e ▸ bR)
      exact absurd this (by decide)
    have := hkS.own ho (fun k e q => by simp [Value.ownBlock] at e; exact hne (e.trans q))
    simpa using this
  · exact (hk1.mono (fun _ e _ => Or.inr e)).trans hkS (fun _ e _ => Or.inl e)
  · rcases hm with hm | ⟨g', e, hg'⟩
    · exact .inl hm
    · exact .inr ⟨g', e, by simp at hg'; omega⟩
/-- The loop, at the beginning of a round. -/
structure AtR (fs : List Fn) (fv : Value) (w : World) (R X N0 : Nat) (nv : Value) (r : Res) (f0 : Int) (n : Nat) (k0 : Nat) (M0 : List Nd) (wr : World) (at_ g : Nat) (s : Rn) (t : Tk) (e : Int) (M : List Nd) (nv' : Value) : Prop where
  res : loopV fs true g s t at_ = r
  fuel : s.fuel < g
  most : s.fuel ≤ n
  run : IsRR wr R fv s.fuel 0 s.depth M nv'
  task : IsRT wr X at_ e t
  nblk : ∃ p i wk pd ag vv, wr.heap[N0]? = some (.cells #[.int .i64 p, .int .i64 i, .int .i64 f0, .int .i64 wk, .int .i64 pd, .int .i64 ag, .int .i64 vv] 41 (0, 0))
  se : SameEnd t e
  sin : s.In true
  tin : t.In fs s.fuel
  lt : at_ < (codeOf fs f0).length
  func : t.node.func = f0
  num : t.number = k0
  ltn : k0 < s.tasks
  mlen : M.length = s.nodes.length
  own : M[k0]? = some t.node
  beh : ∀ j, k0 < j → M[j]? = s.nodes[j]?
  fro : ∀ j, j < k0 → M[j]? = M0[j]?
  nn : nv'.ownBlock ≠ some N0
  kept : Keeps (RFoot R nv) w wr
  moved : Moved w nv nv'
/-- The loop is to be left: an error has come. -/
structure OutR (fv : Value) (w : World) (R : Nat) (nv : Value) (r : Res) (wr : World) : Prop where
  ex : ∃ er fuel' depth' M' nv', r = .gave er ∧ er ≠ 0 ∧ IsRR wr R fv fuel' er depth' M' nv' ∧ Keeps (RFoot R nv) w wr ∧ Moved w nv nv'
/-- How many rounds can come. -/
def muOf (wr : World) (R : Nat) : Nat := match wr.cell? ⟨R, 2, none⟩, wr.cell? ⟨R, 1, none⟩ with
  | some (.int _ 0), some (.int _ n) => n.toNat + 1
  | _, _ => 0
theorem IsRR.mu {w : World} {R : Nat} {fv nv : Value} {fuel : Nat} {depth : Int} {M : List Nd} (h : IsRR w R fv fuel 0 depth M nv) : muOf w R = fuel + 1 := by
  have c1 : w.cell? ⟨R, 1, none⟩ = some (.int .i64 fuel) := (blk_cell h.blk 1).trans rfl
  have c2 : w.cell? ⟨R, 2, none⟩ = some (.int .i64 0) := (blk_cell h.blk 2).trans rfl
  simp [muOf, c1, c2]
theorem IsRR.mu0 {w : World} {R : Nat} {fv nv : Value} {fuel : Nat} {er depth : Int} {M : List Nd} (h : IsRR w R fv fuel er depth M nv) (he : er ≠ 0) : muOf w R = 0 := by
  have c1 : w.cell? ⟨R, 1, none⟩ = some (.int .i64 fuel) := (blk_cell h.blk 1).trans rfl
  have c2 : w.cell? ⟨R, 2, none⟩ = some (.int .i64 er) := (blk_cell h.blk 2).trans rfl
  unfold muOf
  rw [c1, c2]
  split
  · rename_i h1 h2
    injection h1 with h1
    injection h1 with _ h1
    exact absurd h1 he
  · rfl
/-- The next round. -/
theorem AtR.next {fs : List Fn} {fv : Value} {w : World} {R X N0 : Nat} {nv : Value} {r : Res} {f0 : Int} {n k0 : Nat} {M0 : List Nd} {wr : World} {at_ g : Nat} {s : Rn} {t : Tk} {e : Int} {M : List Nd} {nv' : Value} (h : AtR fs fv w R X N0 nv r f0 n k0 M0 wr at_ (g + 1) s t e M nv') (hX : w.heap.size ≤ X)
    {wr' : World} {at' : Nat} {s2 : Rn} {t2 : Tk} {e2 : Int} {M2 : List Nd} {nv2 : Value} (hres : loopV fs true g s2 t2 at' = r) (hf : s2.fuel < s.fuel) (hrun : IsRR wr' R fv s2.fuel 0 s2.depth M2 nv2) (htask : IsRT wr' X at' e2 t2)
    (hnb : ∃ p i wk pd ag vv, wr'.heap[N0]? = some (.cells #[.int .i64 p, .int .i64 i, .int .i64 f0, .int .i64 wk, .int .i64 pd, .int .i64 ag, .int .i64 vv] 41 (0, 0)))
    (hse : SameEnd t2 e2) (hs : s2.In true) (ht : t2.In fs s2.fuel) (hlt : at' < (codeOf fs f0).length) (hfunc : t2.node.func = t.node.func) (hnum : t2.number = t.number) (htasks : s.tasks ≤ s2.tasks)
    (hml : M2.length = s2.nodes.length) (hown : M2[k0]? = some t2.node) (hbeh : ∀ j, k0 < j → M2[j]? = s2.nodes[j]?) (hfro : ∀ j, j < k0 → M2[j]? = M[j]?)
    (hk : Keeps (fun k => RFoot R nv' k ∨ k = X) wr wr') (hm : Moved wr nv' nv2) :
    AtR fs fv w R X N0 nv r f0 n k0 M0 wr' at' g s2 t2 e2 M2 nv2 ∧ muOf wr' R < muOf wr R := by
  refine ⟨⟨hres, by have := h.fuel; omega, by have := h.most; omega, hrun, htask, hnb, hse, hs, ht, hlt, hfunc.trans h.func, hnum.trans h.num, by have := h.ltn; omega, hml, hown, hbeh, fun j hj => (hfro j hj).trans (h.fro j hj), ?_, h.kept.trans hk (foot_back h.moved hX), h.moved.trans hm h.kept.size⟩, ?_⟩
  · rcases hm with hm | ⟨g', e', hg'⟩
    · rw [hm]; exact h.nn
    · intro e3
      rw [e'] at e3
      obtain rfl := Option.some.inj e3
      obtain ⟨_, _, _, _, _, _, hb⟩ := h.nblk
      have := blk_lt hb
      omega
  · rw [hrun.mu, h.run.mu]
    omega
/-- What a spawn learns of its child. -/
def ChildQ (r : Res) (k0 : Nat) (M : List Nd) (v sp : Int) (fuel' : Nat) (er' depth' : Int) (M' : List Nd) : Prop :=
  match r with
  | .gave er => v = 0 ∧ sp = 0 ∧ er = er'
  | .done v1 sp1 s2 => v1 = v ∧ sp1 = sp ∧ 0 = er' ∧ s2.fuel = fuel' ∧ s2.depth = depth' ∧ M'.length = s2.nodes.length ∧ (∀ j, k0 ≤ j → M'[j]? = s2.nodes[j]?) ∧ ∀ j, j < k0 → M'[j]? = M[j]?
theorem rto_got {fs : List Fn} (hA : AllV fs) {R : Nat} {fv nv : Value} {w : World} {k0 : Nat} {M : List Nd} {g : Nat} {s : Rn} {tt : Tk} {ib ic : Int} {np : Nat} (hB : Begins fs true s (childP tt ib ic np)) {e0 : Ending} {w' : World} (h : RTo R fv nv w k0 M (playV fs true g s (childP tt ib ic np)) e0 w') :
    RGot R fv nv w (ChildQ (playV fs true g s (childP tt ib ic np)) k0 M) e0 w' := by
  cases hp : playV fs true g s (childP tt ib ic np) with
  | gave er =>
    rw [hp] at h
    obtain ⟨fuel', depth', M', nv', h1, h2, h3, h4⟩ := h
    exact ⟨0, 0, fuel', er, depth', M', nv', h1, h2, h3, h4, by omega, by omega, rfl, rfl, rfl⟩
  | done v sp s' =>
    have hd := child_done hA hB rfl hp
    rw [hp] at h
    obtain ⟨M', nv', h1, h2, h3, h4, h5, h6, h7⟩ := h
    have := hB.tasks
    exact ⟨v, sp, s'.fuel, 0, s'.depth, M', nv', h1, h2, h3, h4, hd.2.1, by have := hd.2.2.1; omega, rfl, rfl, rfl, rfl, rfl, h5, h6, h7⟩
theorem play_front {fs : List Fn} {g : Nat} {s : Rn} {t : Tk} {v sp : Int} {s2 : Rn} (h : playV fs true g (payS s) t = .done v sp s2) (hs : s.In true) : ∀ j, j < s.tasks → s2.nodes[j]? = s.nodes[j]? := by
  unfold playV at h
  split at h
  · cases h
  · have hl : s.nodes.length = s.tasks := by simpa using hs.nodes
    obtain ⟨_, _, h3⟩ := loop_front g _ _ 0 v sp s2 h (by show (0 : Int) ≤ ((payS s).tasks : Int); omega) (by show (s.nodes ++ [_]).length = s.tasks + 1; simp [hl]) (by show ((s.tasks : Int)) < ((s.tasks + 1 : Nat) : Int); omega)
    intro j hj
    rw [h3 j (by show (j : Int) < (s.tasks : Int); omega)]
    show (s.nodes ++ [_])[j]? = s.nodes[j]?
    rw [List.getElem?_append_left (by omega)]
end Go.Proofs.YthignlailbekmaaDoor
