import Derived.Test.YtbdpdojeaahpjaaGreatDoorPkAR
/-! What the loop of 'play' stands on. -/
namespace Go.Proofs.YtbdpdojeaahpjaaGreatDoor
set_option linter.unusedVariables false
set_option maxRecDepth 20000
open Go.RowKit Go.HeapKit Go.PlainOps

theorem enter_any (R X : Nat) (fv nv : Value) (L : Bool) (s : Rn) (t : Tk) (w : World) (h : IsRn w R fv L s nv) (ht : IsTkN w X 0 0 0 t) (hd : ¬ 4096 < t.depth) (b1 : s.tasks ≤ 8388608) (hl : s.nodes.length ≤ 8388608) :
    Calls Tryz.prog 26 #[.pointer (some ⟨R, 0, none⟩), .pointer (some ⟨X, 0, none⟩)] w fun e w' => e = .returned (.tuple #[]) ∧ ∃ nv', IsRn w' R fv L (enterS L s t) nv' ∧ IsTk w' X 0 (enterT s t) ∧ Keeps (fun k => RFoot R nv k ∨ k = X) w w' ∧ Moved w nv nv' := by
  cases L
  · refine (enter_off R X fv nv s t w h ht hd b1).mono ?_
    rintro e w' ⟨he, h1, h2, h3⟩
    exact ⟨he, nv, h1, h2, h3.mono (fun i e _ => by rcases e with e | e; exact .inl (.inl e); exact .inr e), Moved.refl _ _⟩
  · exact enter_on R X fv nv s t w h ht hd b1 hl
theorem leave_any (R X : Nat) (fv nv : Value) (L : Bool) (s : Rn) (at_ : Int) (t : Tk) (w : World) (h : IsRn w R fv L s nv) (ht : IsTk w X at_ t) (hn : L = true → 0 ≤ t.number ∧ t.number < s.nodes.length) :
    Calls Tryz.prog 30 #[.pointer (some ⟨R, 0, none⟩), .pointer (some ⟨X, 0, none⟩)] w fun e w' => e = .returned (.tuple #[]) ∧ IsRn w' R fv L (leaveS L s t) nv ∧ IsTk w' X at_ t ∧ Keeps (RFoot R nv) w w' := by
  cases L
  · refine (leave_off R X fv nv s at_ t w h).mono ?_
    rintro e w' ⟨he, hw⟩
    subst hw
    exact ⟨he, h, ht, Keeps.refl _ _⟩
  · exact leave_on R X fv nv s at_ t w h ht (hn rfl)
def nextAt (at_ : Int) (t : Tk) (i : Ins) : Int := if i.kind = 3 then i.a else if i.kind = 4 then (if t.regs.getD i.a.toNat 0 = 0 then at_ else i.b) else at_
theorem do_tk (at_ : Int) (t : Tk) (i : Ins) (h7 : i.kind ≠ 7) : doT (t.tk at_) i = (computeT t i).tk (nextAt at_ t i) ∧ (computeT t i).slots = t.slots ∧ (computeT t i).tl = t.tl ∧ (computeT t i).node = t.node := by
  unfold doT computeT nextAt
  by_cases k0 : i.kind = 0
  · simp [k0, setR, Tsk.set, Tk.tk]; rfl
  · by_cases k1 : i.kind = 1
    · simp [k1, setR, Tsk.set, Tk.tk]; rfl
    · by_cases k2 : i.kind = 2
      · simp [k2, setR, Tsk.set, Tk.tk]; rfl
      · by_cases k3 : i.kind = 3
        · simp [k3, Tk.tk]
        · by_cases k4 : i.kind = 4
          · have e : (t.tk at_).regs = t.regs := rfl
            rw [e]
            generalize t.regs.getD i.a.toNat 0 = x
            by_cases hx : x = 0
            · simp [k4, hx]
            · simp [k4, hx, Tk.tk]
          · by_cases k8 : i.kind = 8
            · simp [k8, setR, Tsk.set, Tk.tk]; rfl
            · simp [k0, k1, k2, k3, k4, k8, h7]
theorem sdo_any (X : Nat) (at_ : Int) (t : Tk) (i : Ins) (w : World) (ht : IsTk w X at_ t) (hk : i.kind = 0 ∨ i.kind = 1 ∨ i.kind = 2 ∨ i.kind = 3 ∨ i.kind = 4 ∨ i.kind = 8) (ha : i.kind ≠ 3 → 0 ≤ i.a ∧ i.a < 16) (hb : i.kind = 1 ∨ i.kind = 2 → 0 ≤ i.b ∧ i.b < 16) (hc : i.kind = 2 → 0 ≤ i.c ∧ i.c < 16) (ho : i.kind = 2 → 0 ≤ i.k ∧ i.k < 16) :
    Calls Tryz.prog 31 #[.pointer (some ⟨X, 0, none⟩), .agg #[.int .i64 i.kind, .int .i64 i.a, .int .i64 i.b, .int .i64 i.c, .int .i64 i.k]] w fun e w' => e = .returned (.tuple #[]) ∧ IsTk w' X (nextAt at_ t i) (computeT t i) ∧ Keeps (· = X) w w' := by
  refine (do_any X 67 (t.tk at_) _ i w ht.tsk hk ha hb hc ho).mono ?_
  rintro e w' ⟨he, h1, h2⟩
  obtain ⟨e1, e2, e3, e4⟩ := do_tk at_ t i (by omega)
  refine ⟨he, ⟨?_, by rw [e2]; exact ht.slots⟩, h2⟩
  rw [← e1, e2, e3, e4]
  exact h1
/-- Where a program lies while a run is on. -/
structure Env (w0 w : World) (fa : Option Addr) (fn : Nat) (fs : List Fn) (R : Nat) (nv : Value) : Prop where
  seen : SeenF w0 fa fn fs
  kept : Keeps None w0 w
  hR : w0.heap.size ≤ R
  hN : ∀ g, nv.ownBlock = some g → w0.heap.size ≤ g
theorem Env.more {w0 w w' : World} {fa : Option Addr} {fn : Nat} {fs : List Fn} {R : Nat} {nv nv' : Value} {S : Nat → Prop} (h : Env w0 w fa fn fs R nv) (hk : Keeps S w w') (hS : ∀ k, S k → w0.heap.size ≤ k) (hm : Moved w nv nv') : Env w0 w' fa fn fs R nv' := by
  refine ⟨h.seen, h.kept.trans hk (fun i e hi => by have := hS i e; omega), h.hR, fun g e => ?_⟩
  rcases hm with hm | ⟨g', e', hg⟩
  · exact h.hN g (hm ▸ e)
  · rw [e'] at e
    obtain rfl := Option.some.inj e
    have := h.kept.size
    omega
theorem Env.foot {w0 w : World} {fa : Option Addr} {fn : Nat} {fs : List Fn} {R : Nat} {nv : Value} (h : Env w0 w fa fn fs R nv) : ∀ k, RFoot R nv k → w0.heap.size ≤ k := fun k e => by
  rcases e with e | e
  · rw [e]; exact h.hR
  · exact h.hN k e
/-- A function of the program, at hand. -/
theorem Env.fn {w0 w : World} {fa : Option Addr} {fn : Nat} {fs : List Fn} {R : Nat} {nv : Value} (h : Env w0 w fa fn fs R nv) {k : Nat} {f : Fn} (hf : fs[k]? = some f) :
    ∃ b off ca cc, fa = some ⟨b, off, none⟩ ∧ k < fn ∧ b < w0.heap.size ∧ FnAt w b (off + k * 4) f ca cc := by
  have hl := h.seen.len
  have hk := (List.getElem?_eq_some_iff.1 hf).1
  obtain ⟨b, off, e, hb, hc⟩ := h.seen.ex (by omega)
  obtain ⟨ca, cc, h1⟩ := hc k f hf
  exact ⟨b, off, ca, cc, e, by omega, hb, h1.more h.kept⟩
/-! ### One step of the loop -/
section
variable {fs : List Fn} {L : Bool} {g : Nat} {s : Rn} {t : Tk} {at_ : Nat} {i : Ins}
theorem loop_out (h0 : s.fuel = 0) : loopV fs L (g + 1) s t at_ = .gave 62 := by unfold loopV; simp [h0]
theorem loop_jump (h0 : s.fuel ≠ 0) (hi : (codeOf fs t.node.func)[at_]? = some i) (hk : i.kind = 3) : loopV fs L (g + 1) s t at_ = loopV fs L g (payS s) (payT t) i.a.toNat := by
  conv => lhs; unfold loopV
  simp [h0, hi, hk]
theorem loop_branch (h0 : s.fuel ≠ 0) (hi : (codeOf fs t.node.func)[at_]? = some i) (hk : i.kind = 4) : loopV fs L (g + 1) s t at_ = loopV fs L g (payS s) (payT t) (if t.regs.getD i.a.toNat 0 = 0 then at_ + 1 else i.b.toNat) := by
  conv => lhs; unfold loopV
  rw [if_neg h0, hi]
  simp only [hk]
  rfl
theorem loop_sync (h0 : s.fuel ≠ 0) (hi : (codeOf fs t.node.func)[at_]? = some i) (hk : i.kind = 6) : loopV fs L (g + 1) s t at_ = loopV fs L g (payS s) (waitT (payT t)) (at_ + 1) := by
  conv => lhs; unfold loopV
  simp [h0, hi, hk]
theorem loop_ret (h0 : s.fuel ≠ 0) (hi : (codeOf fs t.node.func)[at_]? = some i) (hk : i.kind = 9) : loopV fs L (g + 1) s t at_ = .done (t.regs.getD i.a.toNat 0) (t.span + 1) (leaveS L (payS s) (endT (payT t) (t.regs.getD i.a.toNat 0))) := by
  conv => lhs; unfold loopV
  rw [if_neg h0, hi]
  simp only [hk]
  rfl
theorem loop_comp (h0 : s.fuel ≠ 0) (hi : (codeOf fs t.node.func)[at_]? = some i) (hk : i.kind = 0 ∨ i.kind = 1 ∨ i.kind = 2 ∨ i.kind = 7 ∨ i.kind = 8) : loopV fs L (g + 1) s t at_ = loopV fs L g (payS s) (computeT (payT t) i) (at_ + 1) := by
  conv => lhs; unfold loopV
  rw [if_neg h0, hi]
  rcases hk with hk | hk | hk | hk | hk <;> simp [hk]
theorem loop_do (h0 : s.fuel ≠ 0) (hi : (codeOf fs t.node.func)[at_]? = some i) (hk : i.kind = 0 ∨ i.kind = 1 ∨ i.kind = 2 ∨ i.kind = 3 ∨ i.kind = 4 ∨ i.kind = 8) : loopV fs L (g + 1) s t at_ = loopV fs L g (payS s) (computeT (payT t) i) (nextAt ((at_ : Int) + 1) (payT t) i).toNat := by
  by_cases k3 : i.kind = 3
  · rw [loop_jump h0 hi k3]
    have e1 : computeT (payT t) i = payT t := by unfold computeT; simp [k3]
    have e2 : nextAt ((at_ : Int) + 1) (payT t) i = i.a := by unfold nextAt; rw [if_pos k3]
    rw [e1, e2]
  · by_cases k4 : i.kind = 4
    · rw [loop_branch h0 hi k4]
      have e1 : computeT (payT t) i = payT t := by unfold computeT; simp [k4]
      have e2 : (nextAt ((at_ : Int) + 1) (payT t) i).toNat = (if t.regs.getD i.a.toNat 0 = 0 then at_ + 1 else i.b.toNat) := by
        unfold nextAt
        rw [if_neg k3, if_pos k4]
        have e3 : (payT t).regs = t.regs := rfl
        rw [e3]
        split
        · omega
        · rfl
      rw [e1, e2]
    · rw [loop_comp h0 hi (by omega)]
      have e2 : nextAt ((at_ : Int) + 1) (payT t) i = (at_ : Int) + 1 := by unfold nextAt; rw [if_neg k3, if_neg k4]
      rw [e2]
      rfl
theorem loop_spawn (h0 : s.fuel ≠ 0) (hi : (codeOf fs t.node.func)[at_]? = some i) (hk : i.kind = 5) : loopV fs L (g + 1) s t at_ = (match playV fs L g (payS s) (childV fs (payT t) i) with
    | .gave e => .gave e
    | .done v sp s2 => loopV fs L g s2 (gotT (spawnT (payT t)) i.a.toNat v sp) (at_ + 1)) := by
  conv => lhs; unfold loopV
  rw [if_neg h0, hi]
  simp only [hk, playV]
  by_cases hd : 4096 < (childV fs (payT t) i).depth
  · simp [hd]
  · simp only [hd, if_false]
    generalize loopV fs L g (enterS L (payS s) (childV fs (payT t) i)) (enterT (payS s) (childV fs (payT t) i)) 0 = q
    cases q <;> rfl
end
/-- The loop, at the beginning of a round. -/
structure AtLoop (fs : List Fn) (L : Bool) (fv : Value) (w : World) (R X : Nat) (nv : Value) (r : Res) (f0 : Int) (n : Nat) (wr : World) (at_ g : Nat) (s : Rn) (t : Tk) (nv' : Value) : Prop where
  res : loopV fs L g s t at_ = r
  fuel : s.fuel < g
  most : s.fuel ≤ n
  run : IsRn wr R fv L s nv'
  task : IsTk wr X at_ t
  sin : s.In L
  tin : t.In fs s.fuel
  lt : at_ < (codeOf fs f0).length
  func : t.node.func = f0
  num : t.number < s.tasks
  kept : Keeps (RFoot R nv) w wr
  moved : Moved w nv nv'
/-- The fuel that is left, as memory has it. -/
def fuelOf (wr : World) (R : Nat) : Nat := match wr.cell? ⟨R, 1, none⟩ with
  | some (.int _ n) => n.toNat
  | _ => 0
theorem IsRn.fuelOf {w : World} {R : Nat} {fv : Value} {L : Bool} {s : Rn} {nv : Value} (h : IsRn w R fv L s nv) : fuelOf w R = s.fuel := by
  have c : w.cell? ⟨R, 1, none⟩ = some (.int .i64 s.fuel) := (blk_cell h.blk 1).trans rfl
  simp [Go.Proofs.YtbdpdojeaahpjaaGreatDoor.fuelOf, c]
theorem foot_back {w : World} {R X : Nat} {nv nv' : Value} (hm : Moved w nv nv') (hX : w.heap.size ≤ X) : ∀ i, (RFoot R nv' i ∨ i = X) → i < w.heap.size → RFoot R nv i := by
  intro i e hi
  rcases e with (e | e) | e
  · exact .inl e
  · rcases hm with hm | ⟨g, e', hg⟩
    · exact .inr (hm ▸ e)
    · rw [e'] at e
      obtain rfl := Option.some.inj e
      omega
  · omega
/-- The next round. -/
theorem AtLoop.next {fs : List Fn} {L : Bool} {fv : Value} {w : World} {R X : Nat} {nv : Value} {r : Res} {f0 : Int} {n : Nat} {wr : World} {at_ g : Nat} {s : Rn} {t : Tk} {nv' : Value} (h : AtLoop fs L fv w R X nv r f0 n wr at_ (g + 1) s t nv') (hX : w.heap.size ≤ X)
    {wr' : World} {at' : Nat} {s2 : Rn} {t2 : Tk} {nv2 : Value} (hres : loopV fs L g s2 t2 at' = r) (hf : s2.fuel < s.fuel) (hrun : IsRn wr' R fv L s2 nv2) (htask : IsTk wr' X at' t2) (hs : s2.In L) (ht : t2.In fs s2.fuel) (hlt : at' < (codeOf fs f0).length)
    (hfunc : t2.node.func = t.node.func) (hnum : t2.number = t.number) (htasks : s.tasks ≤ s2.tasks) (hk : Keeps (fun k => RFoot R nv' k ∨ k = X) wr wr') (hm : Moved wr nv' nv2) :
    AtLoop fs L fv w R X nv r f0 n wr' at' g s2 t2 nv2 ∧ fuelOf wr' R < fuelOf wr R := by
  refine ⟨⟨hres, by have := h.fuel; omega, by have := h.most; omega, hrun, htask, hs, ht, hlt, hfunc.trans h.func, by have := h.num; rw [hnum]; omega, h.kept.trans hk (foot_back h.moved hX), h.moved.trans hm h.kept.size⟩, ?_⟩
  rw [hrun.fuelOf, h.run.fuelOf]
  exact hf
/-- What a child that begins is asked, and what it comes to. -/
structure Begins (fs : List Fn) (L : Bool) (s : Rn) (t : Tk) : Prop where
  regs : t.regs.length = 16
  slots : t.slots.length = 8
  tasks : s.tasks + s.fuel < 8388608
  nodes : s.nodes.length = if L then s.tasks else 0
  sdepth : 0 ≤ s.depth ∧ s.depth ≤ 4096
  tin : ¬ 4096 < t.depth → (enterT s t).In fs s.fuel
theorem Begins.sin {fs : List Fn} {L : Bool} {s : Rn} {t : Tk} (h : Begins fs L s t) (hd : ¬ 4096 < t.depth) : (enterS L s t).In L := by
  have ht := (h.tin hd).depth
  have hd2 : (enterT s t).depth = t.depth := rfl
  have h1 := h.tasks
  have h2 := h.sdepth
  refine ⟨by simp only [enterS]; omega, ?_, ?_⟩
  · simp only [enterS]
    have := le_imax s.depth t.depth
    have := imax_le (show s.depth ≤ 4096 by omega) (show t.depth ≤ 4096 by omega)
    omega
  · have h3 := h.nodes
    cases L
    · simpa [enterS] using h3
    · simp [enterS, h3]
theorem child_begins {fs : List Fn} {L : Bool} {s : Rn} {t : Tk} {n at_ : Nat} {i : Ins} (hs : s.In L) (ht : t.In fs s.fuel) (h0 : s.fuel ≠ 0) (so : StepOk fs n at_ i) (h5 : i.kind = 5) : Begins fs L (payS s) (childV fs (payT t) i) := by
  obtain ⟨m, hm⟩ : ∃ m, s.fuel = m + 1 := ⟨s.fuel - 1, by omega⟩
  have hpf : (payS s).fuel = m := by simp [payS, hm]
  have h1 := hs.tasks
  refine ⟨args_len _ _ _, by simp [childV], ?_, hs.nodes, hs.depth, fun hd => ?_⟩
  · show s.tasks + (payS s).fuel < _
    omega
  · rw [hpf]
    exact (hm ▸ ht).child so h5 hd (by omega) (by show s.tasks ≤ _; omega)
theorem child_done {fs : List Fn} (hA : AllV fs) {L : Bool} {g : Nat} {s : Rn} {t : Tk} {v sp : Int} {s2 : Rn} (hB : Begins fs L s t) (hz : imax t.span t.due = 0) (h : playV fs L g s t = .done v sp s2) : okI v ∧ 0 ≤ sp ∧ sp + s2.fuel ≤ s.fuel ∧ s2.fuel ≤ s.fuel ∧ s2.In L ∧ s.tasks ≤ s2.tasks := by
  unfold playV at h
  by_cases hd : 4096 < t.depth
  · rw [if_pos hd] at h; cases h
  · rw [if_neg hd] at h
    have hti := hB.tin hd
    obtain ⟨f, _, _, hc, hV, _⟩ := hA.fn hti.func
    have d := loop_in hA L g _ _ 0 (hB.sin hd) hti (by rw [hc]; have := (valid_bounds hV).2.2.2; omega) v sp s2 h
    have h3 := d.span
    have h4 := d.tasks
    have e1 : imax (enterT s t).span (enterT s t).due = 0 := hz
    have e2 : (enterS L s t).fuel = s.fuel := rfl
    have e3 : (enterS L s t).tasks = s.tasks + 1 := rfl
    rw [e1, e2] at h3
    rw [e3] at h4
    have h5 := d.fuel
    rw [e2] at h5
    exact ⟨d.okv, d.nonneg, by omega, h5, d.run, by omega⟩
end Go.Proofs.YtbdpdojeaahpjaaGreatDoor
