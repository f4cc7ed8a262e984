import Derived.Test.YtbdpdojeaahpjaaGreatDoorPkAY
import Derived.Test.YtbdpdojeaahpjaaGreatDoorPkAT
/-! What the document's 'task' stands on. -/
namespace Go.Proofs.YtbdpdojeaahpjaaGreatDoor
set_option linter.unusedVariables false
set_option maxRecDepth 20000
set_option linter.unusedSimpArgs false
open Go.RowKit Go.HeapKit Go.PlainOps

/-- What a task of the document's comes to; 'k0': its number, 'M': the nodes as it began. -/
def RTo (R : Nat) (fv nv : Value) (w : World) (k0 : Nat) (M : List Nd) (r : Res) (e0 : Ending) (w' : World) : Prop :=
  match r with
  | .gave er => ∃ fuel' depth' M' nv', e0 = .returned (.tuple #[.int .i64 0, .int .i64 0]) ∧ IsRR w' R fv fuel' er depth' M' nv' ∧ Keeps (RFoot R nv) w w' ∧ Moved w nv nv'
  | .done v sp s' => ∃ M' nv', e0 = .returned (.tuple #[.int .i64 v, .int .i64 sp]) ∧ IsRR w' R fv s'.fuel 0 s'.depth M' nv' ∧ Keeps (RFoot R nv) w w' ∧ Moved w nv nv' ∧ M'.length = s'.nodes.length ∧ (∀ j, k0 ≤ j → M'[j]? = s'.nodes[j]?) ∧ ∀ j, j < k0 → M'[j]? = M[j]?
/-- A task that is about to begin, with these arguments. -/
structure NewT (t : Tk) (zs : List Int) : Prop where
  regs : t.regs = argsV zs 0 zs.length
  len : zs.length ≤ 8
  slots : t.slots = List.replicate 8 0
  spawned : t.spawned = 0
  span : t.span = 0
  due : t.due = 0
  work : t.node.work = 0
  arg : t.node.arg = 0
  v : t.node.v = 0
theorem child_new (t : Tk) (ib ic : Int) (n : Nat) (hn : n ≤ 8) : NewT (childP t ib ic n) (argL t.regs ic.toNat n) :=
  ⟨(argL_args t.regs ic.toNat n).symm, by rw [argL_len]; exact hn, rfl, rfl, rfl, rfl, rfl, rfl, rfl⟩
theorem root_new (zs : List Int) (h : zs.length ≤ 8) : NewT (rootT zs) zs := ⟨rfl, h, rfl, rfl, rfl, rfl, rfl, rfl, rfl⟩
theorem IsRR.slice {w : World} {R : Nat} {fv nv : Value} {fuel : Nat} {er depth : Int} {M : List Nd} (h : IsRR w R fv fuel er depth M nv) : ∃ na nc, nv = .slice na M.length nc := by
  rcases h.row.2 with ⟨rfl, h0⟩ | ⟨g, cap, cur, rfl, _⟩
  · exact ⟨none, 0, by rw [h0]⟩
  · exact ⟨_, cap, rfl⟩
/-- The node of a task that begins is appended. -/
theorem rnoded {R X : Nat} {fv nv : Value} {fuel : Nat} {er depth : Int} {M : List Nd} {at_ e : Int} {t : Tk} {x : Nd} {w : World} (h : IsRR w R fv fuel er depth M nv) (ht : IsRT w X at_ e t) (hl : M.length ≤ 8388608) :
    ∃ b cap w1, (Builtin.append_ #[55, 55] 55 #[nv, .slice (some ⟨w.heap.size, 0, none⟩) 1 1]).run Tryz.prog (w.alloc (.cells #[.int .i64 x.parent, .int .i64 x.idx, .int .i64 x.func, .int .i64 x.work, .int .i64 x.ped, .int .i64 x.arg, .int .i64 x.v] 65)) = .ok (.slice (some ⟨b, 0, none⟩) (M.length + 1) cap) w1 ∧
      w1.cell? ⟨R, 3, none⟩ = some nv ∧ w1.frozen? ⟨R, 3, none⟩ = false ∧
      IsRR (w1.setCell ⟨R, 3, none⟩ (.slice (some ⟨b, 0, none⟩) (M.length + 1) cap)) R fv fuel er depth (M ++ [x]) (.slice (some ⟨b, 0, none⟩) (M.length + 1) cap) ∧
      IsRT (w1.setCell ⟨R, 3, none⟩ (.slice (some ⟨b, 0, none⟩) (M.length + 1) cap)) X at_ e t ∧
      Keeps (RFoot R nv) w (w1.setCell ⟨R, 3, none⟩ (.slice (some ⟨b, 0, none⟩) (M.length + 1) cap)) ∧ Moved w nv (.slice (some ⟨b, 0, none⟩) (M.length + 1) cap) := by
  have hal := Keeps.alloc None w (.cells #[.int .i64 x.parent, .int .i64 x.idx, .int .i64 x.func, .int .i64 x.work, .int .i64 x.ped, .int .i64 x.arg, .int .i64 x.v] 65)
  have h1 := h.kept hal (fun _ _ f => f)
  have hg := heap_alloc_new w (.cells #[.int .i64 x.parent, .int .i64 x.idx, .int .i64 x.func, .int .i64 x.work, .int .i64 x.ped, .int .i64 x.arg, .int .i64 x.v] 65)
  obtain ⟨b, cap, w1, hr, ho, hgr, hm⟩ := nd_append nv M x w.heap.size 55 _ h1.row hl hg
  have hk1 : Keeps (fun i => nv.ownBlock = some i) w w1 := ((Keeps.refl _ w).andAlloc _).andGrown hgr (fun k e => .inl e)
  have bR := blk_kept h.blk hk1 h.nR
  have tX := ht.kept hk1 (h.nX ht)
  have hkS := Keeps.setCell (S := (· = R)) w1 (a := ⟨R, 3, none⟩) rfl (.slice (some ⟨b, 0, none⟩) (M.length + 1) cap)
  refine ⟨b, cap, w1, hr, (blk_cell bR 3).trans rfl, blk_free bR 3, ⟨?_, ?_⟩, tX.kept hkS (h.ne ht).symm, ?_, ?_⟩
  · rw [blk_set bR]; rfl
  · have hne : b ≠ R := fun e => by
      have := own_type ho (g := b) rfl (e ▸ bR)
      exact absurd this (by decide)
    have := hkS.own ho (fun k e q => by simp [Value.ownBlock] at e; exact hne (e.trans q))
    simpa using this
  · exact (hk1.mono (fun _ e _ => Or.inr e)).trans hkS (fun _ e _ => Or.inl e)
  · rcases hm with hm | ⟨g', e, hg'⟩
    · exact .inl hm
    · exact .inr ⟨g', e, by simp at hg'; omega⟩
/-- The loop, at the beginning of a round. -/
structure AtR (fs : List Fn) (fv : Value) (w : World) (R X N0 : Nat) (nv : Value) (r : Res) (f0 : Int) (n : Nat) (k0 : Nat) (M0 : List Nd) (wr : World) (at_ g : Nat) (s : Rn) (t : Tk) (e : Int) (M : List Nd) (nv' : Value) : Prop where
  res : loopV fs true g s t at_ = r
  fuel : s.fuel < g
  most : s.fuel ≤ n
  run : IsRR wr R fv s.fuel 0 s.depth M nv'
  task : IsRT wr X at_ e t
  nblk : ∃ p i wk pd ag vv, wr.heap[N0]? = some (.cells #[.int .i64 p, .int .i64 i, .int .i64 f0, .int .i64 wk, .int .i64 pd, .int .i64 ag, .int .i64 vv] 65 (0, 0))
  se : SameEnd t e
  sin : s.In true
  tin : t.In fs s.fuel
  lt : at_ < (codeOf fs f0).length
  func : t.node.func = f0
  num : t.number = k0
  ltn : k0 < s.tasks
  mlen : M.length = s.nodes.length
  own : M[k0]? = some t.node
  beh : ∀ j, k0 < j → M[j]? = s.nodes[j]?
  fro : ∀ j, j < k0 → M[j]? = M0[j]?
  nn : nv'.ownBlock ≠ some N0
  kept : Keeps (RFoot R nv) w wr
  moved : Moved w nv nv'
/-- The loop is to be left: an error has come. -/
structure OutR (fv : Value) (w : World) (R : Nat) (nv : Value) (r : Res) (wr : World) : Prop where
  ex : ∃ er fuel' depth' M' nv', r = .gave er ∧ er ≠ 0 ∧ IsRR wr R fv fuel' er depth' M' nv' ∧ Keeps (RFoot R nv) w wr ∧ Moved w nv nv'
/-- How many rounds can come. -/
def muOf (wr : World) (R : Nat) : Nat := match wr.cell? ⟨R, 2, none⟩, wr.cell? ⟨R, 1, none⟩ with
  | some (.int _ 0), some (.int _ n) => n.toNat + 1
  | _, _ => 0
theorem IsRR.mu {w : World} {R : Nat} {fv nv : Value} {fuel : Nat} {depth : Int} {M : List Nd} (h : IsRR w R fv fuel 0 depth M nv) : muOf w R = fuel + 1 := by
  have c1 : w.cell? ⟨R, 1, none⟩ = some (.int .i64 fuel) := (blk_cell h.blk 1).trans rfl
  have c2 : w.cell? ⟨R, 2, none⟩ = some (.int .i64 0) := (blk_cell h.blk 2).trans rfl
  simp [muOf, c1, c2]
theorem IsRR.mu0 {w : World} {R : Nat} {fv nv : Value} {fuel : Nat} {er depth : Int} {M : List Nd} (h : IsRR w R fv fuel er depth M nv) (he : er ≠ 0) : muOf w R = 0 := by
  have c1 : w.cell? ⟨R, 1, none⟩ = some (.int .i64 fuel) := (blk_cell h.blk 1).trans rfl
  have c2 : w.cell? ⟨R, 2, none⟩ = some (.int .i64 er) := (blk_cell h.blk 2).trans rfl
  unfold muOf
  rw [c1, c2]
  split
  · rename_i h1 h2
    injection h1 with h1
    injection h1 with _ h1
    exact absurd h1 he
  · rfl
/-- The next round. -/
theorem AtR.next {fs : List Fn} {fv : Value} {w : World} {R X N0 : Nat} {nv : Value} {r : Res} {f0 : Int} {n k0 : Nat} {M0 : List Nd} {wr : World} {at_ g : Nat} {s : Rn} {t : Tk} {e : Int} {M : List Nd} {nv' : Value} (h : AtR fs fv w R X N0 nv r f0 n k0 M0 wr at_ (g + 1) s t e M nv') (hX : w.heap.size ≤ X)
    {wr' : World} {at' : Nat} {s2 : Rn} {t2 : Tk} {e2 : Int} {M2 : List Nd} {nv2 : Value} (hres : loopV fs true g s2 t2 at' = r) (hf : s2.fuel < s.fuel) (hrun : IsRR wr' R fv s2.fuel 0 s2.depth M2 nv2) (htask : IsRT wr' X at' e2 t2)
    (hnb : ∃ p i wk pd ag vv, wr'.heap[N0]? = some (.cells #[.int .i64 p, .int .i64 i, .int .i64 f0, .int .i64 wk, .int .i64 pd, .int .i64 ag, .int .i64 vv] 65 (0, 0)))
    (hse : SameEnd t2 e2) (hs : s2.In true) (ht : t2.In fs s2.fuel) (hlt : at' < (codeOf fs f0).length) (hfunc : t2.node.func = t.node.func) (hnum : t2.number = t.number) (htasks : s.tasks ≤ s2.tasks)
    (hml : M2.length = s2.nodes.length) (hown : M2[k0]? = some t2.node) (hbeh : ∀ j, k0 < j → M2[j]? = s2.nodes[j]?) (hfro : ∀ j, j < k0 → M2[j]? = M[j]?)
    (hk : Keeps (fun k => RFoot R nv' k ∨ k = X) wr wr') (hm : Moved wr nv' nv2) :
    AtR fs fv w R X N0 nv r f0 n k0 M0 wr' at' g s2 t2 e2 M2 nv2 ∧ muOf wr' R < muOf wr R := by
  refine ⟨⟨hres, by have := h.fuel; omega, by have := h.most; omega, hrun, htask, hnb, hse, hs, ht, hlt, hfunc.trans h.func, hnum.trans h.num, by have := h.ltn; omega, hml, hown, hbeh, fun j hj => (hfro j hj).trans (h.fro j hj), ?_, h.kept.trans hk (foot_back h.moved hX), h.moved.trans hm h.kept.size⟩, ?_⟩
  · rcases hm with hm | ⟨g', e', hg'⟩
    · rw [hm]; exact h.nn
    · intro e3
      rw [e'] at e3
      obtain rfl := Option.some.inj e3
      obtain ⟨_, _, _, _, _, _, hb⟩ := h.nblk
      have := blk_lt hb
      omega
  · rw [hrun.mu, h.run.mu]
    omega
/-- What a spawn learns of its child. -/
def ChildQ (r : Res) (k0 : Nat) (M : List Nd) (v sp : Int) (fuel' : Nat) (er' depth' : Int) (M' : List Nd) : Prop :=
  match r with
  | .gave er => v = 0 ∧ sp = 0 ∧ er = er'
  | .done v1 sp1 s2 => v1 = v ∧ sp1 = sp ∧ 0 = er' ∧ s2.fuel = fuel' ∧ s2.depth = depth' ∧ M'.length = s2.nodes.length ∧ (∀ j, k0 ≤ j → M'[j]? = s2.nodes[j]?) ∧ ∀ j, j < k0 → M'[j]? = M[j]?
theorem rto_got {fs : List Fn} (hA : AllV fs) {R : Nat} {fv nv : Value} {w : World} {k0 : Nat} {M : List Nd} {g : Nat} {s : Rn} {tt : Tk} {ib ic : Int} {np : Nat} (hB : Begins fs true s (childP tt ib ic np)) {e0 : Ending} {w' : World} (h : RTo R fv nv w k0 M (playV fs true g s (childP tt ib ic np)) e0 w') :
    RGot R fv nv w (ChildQ (playV fs true g s (childP tt ib ic np)) k0 M) e0 w' := by
  cases hp : playV fs true g s (childP tt ib ic np) with
  | gave er =>
    rw [hp] at h
    obtain ⟨fuel', depth', M', nv', h1, h2, h3, h4⟩ := h
    exact ⟨0, 0, fuel', er, depth', M', nv', h1, h2, h3, h4, by omega, by omega, rfl, rfl, rfl⟩
  | done v sp s' =>
    have hd := child_done hA hB rfl hp
    rw [hp] at h
    obtain ⟨M', nv', h1, h2, h3, h4, h5, h6, h7⟩ := h
    have := hB.tasks
    exact ⟨v, sp, s'.fuel, 0, s'.depth, M', nv', h1, h2, h3, h4, hd.2.1, by have := hd.2.2.1; omega, rfl, rfl, rfl, rfl, rfl, h5, h6, h7⟩
theorem play_front {fs : List Fn} {g : Nat} {s : Rn} {t : Tk} {v sp : Int} {s2 : Rn} (h : playV fs true g (payS s) t = .done v sp s2) (hs : s.In true) : ∀ j, j < s.tasks → s2.nodes[j]? = s.nodes[j]? := by
  unfold playV at h
  split at h
  · cases h
  · have hl : s.nodes.length = s.tasks := by simpa using hs.nodes
    obtain ⟨_, _, h3⟩ := loop_front g _ _ 0 v sp s2 h (by show (0 : Int) ≤ ((payS s).tasks : Int); omega) (by show (s.nodes ++ [_]).length = s.tasks + 1; simp [hl]) (by show ((s.tasks : Int)) < ((s.tasks + 1 : Nat) : Int); omega)
    intro j hj
    rw [h3 j (by show (j : Int) < (s.tasks : Int); omega)]
    show (s.nodes ++ [_])[j]? = s.nodes[j]?
    rw [List.getElem?_append_left (by omega)]
end Go.Proofs.YtbdpdojeaahpjaaGreatDoor
/-! What a round of the document's task comes to, kind by kind. -/
namespace Go.Proofs.YtbdpdojeaahpjaaGreatDoor
set_option linter.unusedVariables false
set_option maxRecDepth 20000
open Go.RowKit Go.HeapKit Go.PlainOps

def RTaskOk (fs : List Fn) (fa : Option Addr) (fn fc : Nat) (w0 : World) (R n : Nat) : Prop :=
  ∀ (g : Nat) (s : Rn) (t : Tk) (nv : Value) (M : List Nd) (aa : Option Addr) (an ac : Nat) (zs : List Int) (w : World), s.fuel < g → s.fuel ≤ n → IsRR w R (.slice fa fn fc) s.fuel 0 s.depth M nv → Env w0 w fa fn fs R nv → Begins fs true s t → ¬ 4096 < t.depth → M.length = s.nodes.length → NewT t zs → SeenA w aa an zs →
    Calls Tryz.prog 36 #[.pointer (some ⟨R, 0, none⟩), .agg #[.int .i64 t.node.parent, .int .i64 t.node.idx, .int .i64 t.node.func, .int .i64 0, .int .i64 t.node.ped, .int .i64 0, .int .i64 0], .slice aa an ac, .int .i64 t.depth] w (RTo R (.slice fa fn fc) nv w s.tasks M (loopV fs true g (enterS true s t) (enterT s t) 0))
/-- A round, behind what is paid. -/
structure Rnd (fs : List Fn) (b off fn fc : Nat) (w0 w : World) (R N0 : Nat) (nv : Value) (res : Res) (m n k0 : Nat) (M : List Nd) (wr : World) (at_ gg : Nat) (s' : Rn) (t' : Tk) (e : Int) (M' : List Nd) (nv' : Value) (V : World) (i : Ins) (M2 : List Nd) (N : Nat) : Prop where
  L : AtR fs (.slice (some ⟨b, off, none⟩) fn fc) w R (N0 + 1) N0 nv res m n k0 M wr at_ (gg + 1) s' t' e M' nv'
  hX : w.heap.size ≤ N0 + 1
  hw0 : w0.heap.size ≤ N0
  so : StepOk fs N at_ i
  ok : okI i.k
  code : (codeOf fs t'.node.func)[at_]? = some i
  len : (codeOf fs (m : Int)).length = N
  fuel0 : s'.fuel ≠ 0
  run : IsRR V R (.slice (some ⟨b, off, none⟩) fn fc) (payS s').fuel 0 s'.depth M2 nv'
  task : IsRT V (N0 + 1) ((at_ : Int) + 1) e (payT t')
  kept : Keeps (fun k => RFoot R nv' k ∨ k = N0 + 1) wr V
  env : Env w0 V (some ⟨b, off, none⟩) fn fs R nv'
  nblk : ∃ p i wk pd ag vv, V.heap[N0]? = some (.cells #[.int .i64 p, .int .i64 i, .int .i64 (m : Int), .int .i64 wk, .int .i64 pd, .int .i64 ag, .int .i64 vv] 65 (0, 0))
  hRN : R ≠ N0
  m1 : M2.length = s'.nodes.length
  m2 : M2[k0]? = some (payT t').node
  m3 : ∀ j, k0 < j → M2[j]? = s'.nodes[j]?
  m4 : ∀ j, j < k0 → M2[j]? = M'[j]?
  all : AllV fs
  IH : ∀ k, k < n → RTaskOk fs (some ⟨b, off, none⟩) fn fc w0 R k
section
variable {fs : List Fn} {b off fn fc : Nat} {w0 w : World} {R N0 : Nat} {nv : Value} {res : Res} {m n k0 : Nat} {M : List Nd} {wr : World} {at_ gg : Nat} {s' : Rn} {t' : Tk} {e : Int} {M' : List Nd} {nv' : Value} {V : World} {i : Ins} {M2 : List Nd} {N : Nat}
/-- What the loop goes on with. -/
def GoR (fs : List Fn) (b off fn fc : Nat) (w : World) (R N0 : Nat) (nv : Value) (res : Res) (m n k0 : Nat) (M : List Nd) (wy : World) : Prop :=
  (∃ (at_ g' : Nat) (s' : Rn) (t' : Tk) (e : Int) (M' : List Nd) (nv' : Value), AtR fs (.slice (some ⟨b, off, none⟩) fn fc) w R (N0 + 1) N0 nv res m n k0 M wy at_ g' s' t' e M' nv') ∨ OutR (.slice (some ⟨b, off, none⟩) fn fc) w R nv res wy
theorem Rnd.pf (h : Rnd fs b off fn fc w0 w R N0 nv res m n k0 M wr at_ gg s' t' e M' nv' V i M2 N) : ∃ m', s'.fuel = m' + 1 ∧ (payS s').fuel = m' ∧ t'.In fs (m' + 1) := by
  obtain ⟨m', hm'⟩ : ∃ m', s'.fuel = m' + 1 := ⟨s'.fuel - 1, by have := h.fuel0; omega⟩
  exact ⟨m', hm', by simp [payS, hm'], by have := h.L.tin; rw [hm'] at this; exact this⟩
theorem Rnd.back (h : Rnd fs b off fn fc w0 w R N0 nv res m n k0 M wr at_ gg s' t' e M' nv' V i M2 N) {wy : World} (ky : Keeps (fun k => RFoot R nv' k ∨ k = N0 + 1) V wy) : Keeps (RFoot R nv) w wy :=
  (h.L.kept.trans h.kept (foot_back h.L.moved h.hX)).trans ky (foot_back h.L.moved h.hX)
theorem Rnd.nb (h : Rnd fs b off fn fc w0 w R N0 nv res m n k0 M wr at_ gg s' t' e M' nv' V i M2 N) {wy : World} (ky : Keeps (fun k => RFoot R nv' k ∨ k = N0 + 1) V wy) : ∃ p i wk pd ag vv, wy.heap[N0]? = some (.cells #[.int .i64 p, .int .i64 i, .int .i64 (m : Int), .int .i64 wk, .int .i64 pd, .int .i64 ag, .int .i64 vv] 65 (0, 0)) := by
  obtain ⟨p, i, wk, pd, ag, vv, hb⟩ := h.nblk
  exact ⟨p, i, wk, pd, ag, vv, blk_kept hb ky (fun e => by
    rcases e with (e | e) | e
    · exact h.hRN e.symm
    · exact h.L.nn e
    · omega)⟩
theorem Rnd.deep (h : Rnd fs b off fn fc w0 w R N0 nv res m n k0 M wr at_ gg s' t' e M' nv' V i M2 N) (hk : i.kind = 5) (hdeep : 4096 ≤ (payT t').depth) {wy : World} (ry : IsRR wy R (.slice (some ⟨b, off, none⟩) fn fc) (payS s').fuel 63 s'.depth M2 nv') (ky : Keeps (· = R) V wy) :
    GoR fs b off fn fc w R N0 nv res m n k0 M wy ∧ muOf wy R < muOf wr R := by
  have hlpf := loop_spawn (L := true) (g := gg) h.fuel0 h.code hk
  rw [h.L.res] at hlpf
  have hpl : playV fs true gg (payS s') (childV fs (payT t') i) = .gave 63 := by
    unfold playV
    rw [if_pos (by show 4096 < (payT t').depth + 1; omega)]
  rw [hpl] at hlpf
  refine ⟨.inr ⟨63, _, _, _, _, hlpf, by decide, ry, h.back (ky.mono (fun _ e _ => .inl (.inl e))), h.L.moved⟩, ?_⟩
  rw [ry.mu0 (by decide), h.L.run.mu]
  omega
theorem Rnd.child (h : Rnd fs b off fn fc w0 w R N0 nv res m n k0 M wr at_ gg s' t' e M' nv' V i M2 N) (hk : i.kind = 5) {m2 np : Nat} (hm2 : i.b = m2) (hnp : parV fs i.b = np) : childV fs (payT t') i = childP (payT t') (m2 : Int) i.c np ∧ Begins fs true (payS s') (childP (payT t') (m2 : Int) i.c np) := by
  have hcv : childV fs (payT t') i = childP (payT t') (m2 : Int) i.c np := by
    unfold childV childP
    rw [hnp, hm2]
    rfl
  have hBg := child_begins h.L.sin h.L.tin h.fuel0 h.so hk
  rw [hcv] at hBg
  exact ⟨hcv, hBg⟩
theorem Rnd.plays (h : Rnd fs b off fn fc w0 w R N0 nv res m n k0 M wr at_ gg s' t' e M' nv' V i M2 N) (hk : i.kind = 5) (hdeep : ¬ 4096 ≤ (payT t').depth) {m2 np : Nat} (hm2 : i.b = m2) (hnp : parV fs i.b = np) (hnp8 : np ≤ 8) (wx : World) (aa : Option Addr) (ac : Nat) (hrx : IsRR wx R (.slice (some ⟨b, off, none⟩) fn fc) (payS s').fuel 0 s'.depth M2 nv') (hkx : Keeps None V wx) (hsx : SeenA wx aa np (argL (payT t').regs i.c.toNat np)) :
    Calls Tryz.prog 36 #[.pointer (some ⟨R, 0, none⟩), .agg #[.int .i64 (payT t').number, .int .i64 (payT t').spawned, .int .i64 m2, .int .i64 0, .int .i64 (pedV (payT t').node.ped (payT t').spawned), .int .i64 0, .int .i64 0], .slice aa np ac, .int .i64 ((payT t').depth + 1)] wx (RGot R (.slice (some ⟨b, off, none⟩) fn fc) nv' wx (ChildQ (playV fs true gg (payS s') (childP (payT t') (m2 : Int) i.c np)) s'.tasks M2)) := by
  obtain ⟨hcv, hBg⟩ := h.child hk hm2 hnp
  have hfg : (payS s').fuel < gg := by obtain ⟨m', h1, h2, _⟩ := h.pf; have := h.L.fuel; omega
  have hfn : (payS s').fuel < n := by obtain ⟨m', h1, h2, _⟩ := h.pf; have := h.L.most; omega
  have hdd : ¬ 4096 < (childP (payT t') (m2 : Int) i.c np).depth := by show ¬ 4096 < (payT t').depth + 1; omega
  have hcall := h.IH (payS s').fuel hfn gg (payS s') (childP (payT t') (m2 : Int) i.c np) nv' M2 aa np ac _ wx hfg (Nat.le_refl _) hrx (h.env.more hkx (fun _ f => f.elim) (Moved.refl _ _)) hBg hdd h.m1 (child_new (payT t') (m2 : Int) i.c np hnp8) hsx
  refine Calls.mono hcall (fun e0 w' hto => ?_)
  have hpl : playV fs true gg (payS s') (childP (payT t') (m2 : Int) i.c np) = loopV fs true gg (enterS true (payS s') (childP (payT t') (m2 : Int) i.c np)) (enterT (payS s') (childP (payT t') (m2 : Int) i.c np)) 0 := by
    unfold playV
    rw [if_neg hdd]
  rw [← hpl] at hto
  exact rto_got h.all hBg hto
theorem Rnd.got (h : Rnd fs b off fn fc w0 w R N0 nv res m n k0 M wr at_ gg s' t' e M' nv' V i M2 N) (hk : i.kind = 5) {m2 np a : Nat} (hm2 : i.b = m2) (hnp : parV fs i.b = np) (ha : i.a = a) {wy : World} {v sp : Int} {fuel' : Nat} {er' depth' : Int} {M'' : List Nd} {nv2 : Value}
    (ry : IsRR wy R (.slice (some ⟨b, off, none⟩) fn fc) fuel' er' depth' M'' nv2) (ty : IsRT wy (N0 + 1) ((at_ : Int) + 1) (imax e ((payT t').span + sp)) (gotT (spawnT (payT t')) a v sp)) (ky : Keeps (fun k => RFoot R nv' k ∨ k = N0 + 1) V wy) (my : Moved V nv' nv2) (hs0 : 0 ≤ sp)
    (hq : ChildQ (playV fs true gg (payS s') (childP (payT t') (m2 : Int) i.c np)) s'.tasks M2 v sp fuel' er' depth' M'') :
    GoR fs b off fn fc w R N0 nv res m n k0 M wy ∧ muOf wy R < muOf wr R := by
  obtain ⟨hcv, hBg⟩ := h.child hk hm2 hnp
  obtain ⟨m', hm', hpf, tin⟩ := h.pf
  have hlpf := loop_spawn (L := true) (g := gg) h.fuel0 h.code hk
  rw [h.L.res, hcv, ha] at hlpf
  cases hpl : playV fs true gg (payS s') (childP (payT t') (m2 : Int) i.c np) with
  | gave er =>
    rw [hpl] at hq hlpf
    obtain ⟨_, _, he⟩ := hq
    subst he
    have hne := gave_ne h.all hBg hpl
    refine ⟨.inr ⟨_, _, _, _, _, hlpf, hne, ry, h.back ky, h.L.moved.trans (my.back h.kept.size) h.L.kept.size⟩, ?_⟩
    rw [ry.mu0 hne, h.L.run.mu]
    omega
  | done v1 sp1 s2 =>
    rw [hpl] at hq hlpf
    obtain ⟨e1, e2, e3, e4, e5, q1, q2, q3⟩ := hq
    subst e1 e2 e3 e4 e5
    obtain ⟨d1, d2, d3, d4, d5, d6⟩ := child_done h.all hBg rfl hpl
    have hfront := play_front hpl h.L.sin
    have hspn := tin.span
    have hg := h.L.se.got a v1 sp1 hs0 hspn.1
    have hkn : k0 < s'.tasks := h.L.ltn
    have htk : s'.tasks ≤ s2.tasks := d6
    have nx := h.L.next h.hX (at' := at_ + 1) (t2 := gotT (spawnT (payT t')) a v1 sp1) (s2 := s2) (e2 := imax e ((payT t').span + sp1)) (M2 := M'') (nv2 := nv2) (wr' := wy) hlpf.symm (by omega) ry ty (h.nb ky) hg.2 d5 (tin.got d1 d2 (by omega)) (by rw [h.len]; exact h.so.next (by omega) (by omega)) rfl rfl htk q1
      (by rw [q3 k0 hkn]; exact h.m2)
      (fun j hj => by
        by_cases hj2 : s'.tasks ≤ j
        · exact q2 j hj2
        · rw [q3 j (by omega), h.m3 j hj, hfront j (by omega)])
      (fun j hj => by rw [q3 j (by omega)]; exact h.m4 j hj) (h.kept.trans ky (fun _ e _ => e)) (my.back h.kept.size)
    exact ⟨.inl ⟨_, _, _, _, _, _, _, nx.1⟩, nx.2⟩
theorem Rnd.sync (h : Rnd fs b off fn fc w0 w R N0 nv res m n k0 M wr at_ gg s' t' e M' nv' V i M2 N) (hk : i.kind = 6) {wy : World} (ry : IsRR wy R (.slice (some ⟨b, off, none⟩) fn fc) (payS s').fuel 0 s'.depth M2 nv') (ty : IsRT wy (N0 + 1) ((at_ : Int) + 1) 0 (waitT (payT t'))) (ky : Keeps (· = N0 + 1) V wy) :
    GoR fs b off fn fc w R N0 nv res m n k0 M wy ∧ muOf wy R < muOf wr R := by
  obtain ⟨m', hm', hpf, tin⟩ := h.pf
  have nx := h.L.next h.hX (at' := at_ + 1) (t2 := waitT (payT t')) (s2 := payS s') (e2 := 0) (M2 := M2) (nv2 := nv') (wr' := wy) (by rw [← h.L.res, loop_sync h.fuel0 h.code hk]) (by omega) ry ty (h.nb (ky.mono (fun _ e _ => .inr e))) h.L.se.wait.2 h.L.sin.pay (by rw [hpf]; exact tin.wait) (by rw [h.len]; exact h.so.next (by omega) (by omega)) rfl rfl (Nat.le_refl _) h.m1 h.m2 h.m3 h.m4 (h.kept.trans ky (fun _ e _ => .inr e)) (Moved.refl _ _)
  exact ⟨.inl ⟨_, _, _, _, _, _, _, nx.1⟩, nx.2⟩
theorem Rnd.plain (h : Rnd fs b off fn fc w0 w R N0 nv res m n k0 M wr at_ gg s' t' e M' nv' V i M2 N) (hk : i.kind = 0 ∨ i.kind = 1 ∨ i.kind = 2 ∨ i.kind = 3 ∨ i.kind = 4 ∨ i.kind = 7 ∨ i.kind = 8) {wy : World} (ry : IsRR wy R (.slice (some ⟨b, off, none⟩) fn fc) (payS s').fuel 0 s'.depth M2 nv') (ty : IsRT wy (N0 + 1) (nextAt ((at_ : Int) + 1) (payT t') i) e (computeT (payT t') i)) (ky : Keeps (· = N0 + 1) V wy) :
    GoR fs b off fn fc w R N0 nv res m n k0 M wy ∧ muOf wy R < muOf wr R := by
  obtain ⟨m', hm', hpf, tin⟩ := h.pf
  have hbd : 0 ≤ nextAt ((at_ : Int) + 1) (payT t') i ∧ nextAt ((at_ : Int) + 1) (payT t') i < N := by
    unfold nextAt
    by_cases k3 : i.kind = 3
    · rw [if_pos k3]; exact h.so.jump k3
    · rw [if_neg k3]
      have hnx := h.so.next k3 (by omega)
      by_cases k4 : i.kind = 4
      · rw [if_pos k4]
        have := h.so.branch k4
        split <;> omega
      · rw [if_neg k4]; omega
  have hld : loopV fs true (gg + 1) s' t' at_ = loopV fs true gg (payS s') (computeT (payT t') i) (nextAt ((at_ : Int) + 1) (payT t') i).toNat := by
    by_cases k7 : i.kind = 7
    · rw [loop_comp h.fuel0 h.code (by omega)]
      have e2 : nextAt ((at_ : Int) + 1) (payT t') i = (at_ : Int) + 1 := by unfold nextAt; rw [if_neg (by omega), if_neg (by omega)]
      rw [e2]
      rfl
    · exact loop_do h.fuel0 h.code (by omega)
  have e1 : (computeT (payT t') i).node = (payT t').node ∧ (computeT (payT t') i).number = (payT t').number := by
    unfold computeT setR
    repeat' split
    all_goals exact ⟨rfl, rfl⟩
  have nx := h.L.next h.hX (at' := (nextAt ((at_ : Int) + 1) (payT t') i).toNat) (t2 := computeT (payT t') i) (s2 := payS s') (e2 := e) (M2 := M2) (nv2 := nv') (wr' := wy) (by rw [← h.L.res, hld]) (by omega) ry (by rw [Int.toNat_of_nonneg hbd.1]; exact ty) (h.nb (ky.mono (fun _ e _ => .inr e))) (h.L.se.pay.comp i) h.L.sin.pay (by rw [hpf]; exact tin.pay.compute i h.ok) (by rw [h.len]; omega) (by rw [e1.1]; rfl) (by rw [e1.2]; rfl) (Nat.le_refl _) h.m1 (by rw [e1.1]; exact h.m2) h.m3 h.m4 (h.kept.trans ky (fun _ e _ => .inr e)) (Moved.refl _ _)
  exact ⟨.inl ⟨_, _, _, _, _, _, _, nx.1⟩, nx.2⟩
theorem Rnd.ret (h : Rnd fs b off fn fc w0 w R N0 nv res m n k0 M wr at_ gg s' t' e M' nv' V i M2 N) (hk : i.kind = 9) {a : Nat} (ha : i.a = a) {x : Int} (hx : t'.regs.getD a 0 = x) {wy : World} (ry : IsRR wy R (.slice (some ⟨b, off, none⟩) fn fc) (payS s').fuel 0 s'.depth (M2.set k0 (endT (payT t') x).node) nv') (ky : Keeps (fun k => RFoot R nv' k ∨ k = N0 + 1) V wy) :
    RTo R (.slice (some ⟨b, off, none⟩) fn fc) nv w k0 M res (.returned (.tuple #[.int .i64 x, .int .i64 (t'.span + 1)])) wy := by
  have hres : res = .done x (t'.span + 1) (leaveS true (payS s') (endT (payT t') x)) := by
    rw [← h.L.res, loop_ret h.fuel0 h.code hk, ha]
    have : (a : Int).toNat = a := rfl
    rw [this, hx]
  have hk0 : k0 < M2.length := (List.getElem?_eq_some_iff.1 h.m2).1
  have hl := h.m1
  have hnum : (endT (payT t') x).number.toNat = k0 := by
    have : (endT (payT t') x).number = t'.number := rfl
    rw [this, h.L.num]
    rfl
  have hnd : (leaveS true (payS s') (endT (payT t') x)).nodes = s'.nodes.set k0 (endT (payT t') x).node := by
    unfold leaveS
    rw [hnum]
    rfl
  rw [hres]
  refine ⟨M2.set k0 (endT (payT t') x).node, nv', rfl, ry, h.back ky, h.L.moved, ?_, fun j hj => ?_, fun j hj => ?_⟩
  · rw [hnd]; simpa using hl
  · rw [hnd]
    by_cases hjk : k0 = j
    · subst hjk
      rw [List.getElem?_set_self hk0, List.getElem?_set_self (by omega)]
    · rw [List.getElem?_set_ne hjk, List.getElem?_set_ne hjk]
      exact h.m3 j (by omega)
  · rw [List.getElem?_set_ne (by omega), h.m4 j hj]
    exact h.L.fro j hj
end
end Go.Proofs.YtbdpdojeaahpjaaGreatDoor
