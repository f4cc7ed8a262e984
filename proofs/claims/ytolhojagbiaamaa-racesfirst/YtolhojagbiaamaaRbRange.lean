import Derived.Test.YtolhojagbiaamaaRbSecs
/-! A range over the sweep: the iterator's state lies in memory that the body changes too. -/
namespace Go.Proofs.Ytolhojagbiaamaa
set_option linter.unusedVariables false
set_option maxRecDepth 20000
set_option linter.unusedSimpArgs false
open Go.RowKit Go.HeapKit

/-- The book-keeping is kept. -/
def BkK (W W' : World) : Prop := ∀ (i : Nat) (o : Obj), W.heap[i]? = some o → bookO o = true → W'.heap[i]? = some o
theorem BkK.of_fp {W W' : World} {base : Nat} (h : Keeps (Fp W base) W W') : BkK W W' := fun i o hi ho => Fp.book h hi ho
theorem BkK.trans {X Y Z : World} (h : BkK X Y) (k : BkK Y Z) : BkK X Z := fun i o hi ho => k i o (h i o hi ho) ho
theorem BkK.refl (W : World) : BkK W W := fun _ _ h _ => h
theorem BkK.of_keeps {W W' : World} {T : Nat → Prop} (h : Keeps T W W') (hT : ∀ i, T i → ¬ Bk W i) : BkK W W' := fun i o hi ho => (h.block i (blk_lt hi) (fun t => hT i t ⟨o, hi, ho⟩)).trans hi
theorem keeps_putObj (W : World) (l : Nat) (o : Obj) : Keeps (· = l) W (W.putObj l o) := ⟨rfl, rfl, rfl, by simp [World.putObj], fun i hi hne => by
  show (W.heap.setIfInBounds l o)[i]? = W.heap[i]?
  rw [Array.getElem?_setIfInBounds_ne (fun e => hne e.symm)]⟩
section
variable {w0 W : World} {base S mb : Nat} {dv : Value} {ds : List Dd} {n m : Nat} {rc : Int → Bool} {l : Nat} {r r' : Loop}
theorem SwS.put (h : SwS w0 W base S mb dv ds n m rc) (hb : base ≤ l) (hl : W.heap[l]? = some (.loop r)) : SwS w0 (W.putObj l (.loop r')) base S mb dv ds n m rc := by
  obtain ⟨U, M, A, gu, cu, gm, cm, gl, cl, ga, ca, vd, rt, d, PM, h1, h2, h3, h4, h5, h6, h7⟩ := h.ex
  have hk := keeps_putObj W l (.loop r')
  have hne : ∀ (b : Nat) (c : Array Value) (ty : TypeId) (f : Nat × Nat), W.heap[b]? = some (.cells c ty f) → ¬ b = l := fun b c ty f hb e => by
    rw [e, hl] at hb
    cases hb
  obtain ⟨_, hu⟩ := h1.sets.ublk
  obtain ⟨_, hll⟩ := h1.sets.lblk
  obtain ⟨_, hmm⟩ := h1.sets.mblk
  obtain ⟨_, ha⟩ := own_block h1.ra (g := ga) rfl
  obtain ⟨_, _, hSb, _⟩ := h1.sets.blk
  have hS := hne S _ _ _ hSb
  have hm : ¬ mb = l := fun e => by
    obtain ⟨es, cl', hm, _⟩ := h5
    rw [e, hl] at hm
    cases hm
  refine ⟨⟨U, M, A, gu, cu, gm, cm, gl, cl, ga, ca, vd, rt, d, PM, ⟨h1.sets.kept hk hS (hne _ _ _ _ hu) (hne _ _ _ _ hmm) (hne _ _ _ _ hll), hk.cell h1.b0 hS, hk.cell h1.b4 hS, hk.cell h1.b5 hS, hk.cell h1.b6 hS, h1.ra.kept hk (fun g e => by simp [Value.ownBlock] at e; subst e; exact hne _ _ _ _ ha), h1.rd.kept hk (fun g e => by obtain ⟨_, hd⟩ := own_block h1.rd e; exact hne _ _ _ _ hd), h1.n1, h1.n2, h1.n3, h1.n4, h1.n5⟩, h2, h3, h4, h5.kept hk hm, h6, h7⟩, h.kp.trans hk (fun i e _ => by omega), h.b1, h.b2, Nat.le_trans h.b3 hk.size⟩
end
/-- How the body of a round may be left. -/
def roundQ (I J : World → Prop) (W : World) : Exit → Act → World → Prop
  | .normal, _, W' => BkK W W' ∧ I W'
  | .ret, _, W' => BkK W W' ∧ J W'
  | .exit _, _, _ => False
  | .goto _, _, _ => False
  | .panic _, _, _ => False
  | .outgrown, _, _ => False
theorem range_state {P : Program} {n : Nat} {g : Operand} {p0 : Tmp} {assign body : Code} {Q : Exit → Act → World → Prop} {a : Act} {w : World} (h1 : 1 ≤ n) {gf : Nat} {rv : Value} (hg : a.eval g = .func (.func gf) #[rv] #[]) (eg : ∀ args w, (callFunc gf args).run P w = .ok (.enter gf args) w)
    (Y I J : Nat → World → Prop) (Fin : World → Prop) (base : Nat)
    (pY : ∀ x W l r r', w.heap.size ≤ l → W.heap[l]? = some (.loop r) → Y x W → Y x (W.putObj l (.loop r'))) (pI : ∀ x W l r r', w.heap.size ≤ l → W.heap[l]? = some (.loop r) → I x W → I x (W.putObj l (.loop r'))) (pJ : ∀ x W l r r', w.heap.size ≤ l → W.heap[l]? = some (.loop r) → J x W → J x (W.putObj l (.loop r'))) (pF : ∀ W l r r', w.heap.size ≤ l → W.heap[l]? = some (.loop r) → Fin W → Fin (W.putObj l (.loop r')))
    (hit : ∀ (l : Nat) (B : World → Prop) (Jz : Nat → World → Prop) (W : World), Keeps None w W → (∀ W W', Keeps (Fp W base) W W' → B W → B W') → (∀ x W, Y x W → B W → YieldAt Fence.wide (n - 1 - 1) P l #[.int .i64 x] W fun e W' => (e = .returned (.bool true) ∧ I x W' ∧ B W') ∨ (e = .returned (.bool false) ∧ Jz x W')) → B W →
      CallsIn Fence.wide (n - 1) P gf #[rv, .func (.yield l) #[] #[]] W fun e W' => (∃ v, e = .returned v) ∧ ((Fin W' ∧ B W') ∨ ∃ x, Jz x W'))
    (a₁ : Nat → Act)
    (hassign : ∀ (l x : Nat) (W : World) (K : Act → World → Prop), K (a₁ x) W → assign.wpIn (Fence.wide.inRound l) (n - 1 - 1) P (Exit.then K (fun _ _ _ => False)) { tmps := a.tmps.setIfInBounds p0 (.int .i64 x), defers := [] } W)
    (hbody : ∀ (l x : Nat) (W : World), Y x W → body.wpIn (Fence.wide.inRound l) (n - 1 - 1) P (roundQ (I x) (J x) W) (a₁ x) W)
    (hdone : ∀ (D : Nat) (W : World), w.heap.size ≤ D → Fin W → W.heap[D]? = some (.deferred (some [])) → Q .normal { a with defers := { target := .collected D, args := #[] } :: a.defers } W)
    (hstop : ∀ (D x : Nat) (W : World), w.heap.size ≤ D → J x W → W.heap[D]? = some (.deferred (some [])) → Code.ret.wpIn Fence.wide n P Q { a with defers := { target := .collected D, args := #[] } :: a.defers } W) :
    (Code.rangeFunc g #[p0] assign body).wpIn Fence.wide n P Q a w := by
  refine wpIn_rangeFunc ?_
  intro fn hfn
  obtain ⟨rec, hrec⟩ : ∃ rec : LoopState → Option Code → Loop, rec = fun st pe => { state := st, pending := pe, fn, tmps := a.tmps, params := #[p0], assign, body, defers := w.heap.size } := ⟨_, rfl⟩
  obtain ⟨W1, hW1⟩ : ∃ W1, (w.alloc (.deferred (some []))).alloc (.loop (rec .ready none)) = W1 := ⟨_, rfl⟩
  have hL1 : W1.heap[w.heap.size + 1]? = some (.loop (rec .ready none)) := by
    rw [← hW1]; have := World.alloc_heap_new (w.alloc (.deferred (some []))) (.loop (rec .ready none)); rwa [World.size_alloc] at this
  have hK1 : W1.heap[w.heap.size]? = some (.deferred (some [])) := by
    rw [← hW1]; exact (Below.heap_alloc _ _ _ (by simp)).trans (World.alloc_heap_new w _)
  have hk1 : Keeps None w W1 := by rw [← hW1]; exact (Keeps.alloc None w _).trans (Keeps.alloc None _ _) (fun _ f _ => f)
  refine ⟨w.heap.size + 1, [{ target := .collected w.heap.size, args := #[] }], W1, { target := .fn (.func gf) #[], args := #[rv, .func (.yield (w.heap.size + 1)) #[] #[]] }, W1, gf,
    #[rv, .func (.yield (w.heap.size + 1)) #[] #[]], W1, ?_, ?_, ?_, ?_, fun _ => h1, ?_⟩
  · rw [← hW1, hrec]; exact run_enterLoop_outer _ _ _ _ _
  · simp only [resolve, hg]
    simp [go_sem]
  · intro f' hf'; trivial
  · simp [invoke, go_sem, eg]
  · refine (hit (w.heap.size + 1)
      (fun W => W.heap[w.heap.size + 1]? = some (.loop (rec .ready none)) ∧ W.heap[w.heap.size]? = some (.deferred (some [])))
      (fun x W => J x W ∧ W.heap[w.heap.size + 1]? = some (.loop (rec .done (some .ret))) ∧ W.heap[w.heap.size]? = some (.deferred (some [])))
      W1 hk1 (fun W W' hk hB => ⟨Fp.book hk hB.1 rfl, Fp.book hk hB.2 rfl⟩) ?_ ⟨hL1, hK1⟩).mono ?_
    · rintro x W hi ⟨hl, hk⟩
      have hlt : w.heap.size + 1 < W.heap.size := (Array.getElem?_eq_some_iff.1 hl).1
      have hy := run_yield (P := P) (args := #[.int .i64 x]) hl (by rw [hrec]; rfl)
      rw [hrec] at hy
      refine ⟨fn, _, assign, body, hy, roundIn_of_wpIn hfn ?_⟩
      have ez : (#[p0].zip #[Value.int .i64 (x : Int)]).foldl (fun t (p, v) => t.setIfInBounds p v) a.tmps = a.tmps.setIfInBounds p0 (.int .i64 x) := by simp
      simp only [ez]
      refine hassign _ x W _ ?_
      refine ⟨_, run_beginRound hl (by rw [hrec]), ?_⟩
      have hl2 : (W.putObj (w.heap.size + 1) (.loop { rec .ready none with state := .busy })).heap[w.heap.size + 1]? = some (.loop { rec .ready none with state := .busy }) := World.putObj_heap_same hlt
      have hk2 : (W.putObj (w.heap.size + 1) (.loop { rec .ready none with state := .busy })).heap[w.heap.size]? = some (.deferred (some [])) := (World.putObj_heap_other (by omega)).trans hk
      refine wpIn_mono (hbody _ x _ (pY x W _ _ _ (by omega) hl hi)) ?_
      have fin : ∀ (jump : Option Code) (W3 : World), BkK (W.putObj (w.heap.size + 1) (.loop { rec .ready none with state := .busy })) W3 →
          (Instr.endRound (w.heap.size + 1) jump).run P W3 = .ok (.bool jump.isNone) (W3.putObj (w.heap.size + 1) (.loop (rec (if jump.isNone then .ready else .done) jump))) ∧
          W3.heap[w.heap.size + 1]? = some (.loop { rec .ready none with state := .busy }) ∧
          (W3.putObj (w.heap.size + 1) (.loop (rec (if jump.isNone then .ready else .done) jump))).heap[w.heap.size + 1]? = some (.loop (rec (if jump.isNone then .ready else .done) jump)) ∧
          (W3.putObj (w.heap.size + 1) (.loop (rec (if jump.isNone then .ready else .done) jump))).heap[w.heap.size]? = some (.deferred (some [])) := fun jump W3 hk3 => by
        have hl3 := hk3 _ _ hl2 rfl
        have := run_endRound (P := P) jump hl3
        rw [hrec] at this ⊢
        exact ⟨this, by rw [hrec] at hl3; exact hl3, World.putObj_heap_same (Array.getElem?_eq_some_iff.1 hl3).1, (World.putObj_heap_other (by omega)).trans (hk3 _ _ hk2 rfl)⟩
      rintro e a3 W3 hp
      cases e with
      | normal =>
        obtain ⟨hk3, hi3⟩ := hp
        obtain ⟨hr, hl3, hl4, hk4⟩ := fin none W3 hk3
        exact ⟨_, _, hr, .inl ⟨rfl, pI x W3 _ _ _ (by omega) hl3 hi3, hl4, hk4⟩⟩
      | ret =>
        obtain ⟨hk3, hi3⟩ := hp
        obtain ⟨hr, hl3, hl4, hk4⟩ := fin (some .ret) W3 hk3
        exact ⟨_, _, hr, .inr ⟨rfl, pJ x W3 _ _ _ (by omega) hl3 hi3, hl4, hk4⟩⟩
      | exit id => exact hp.elim
      | goto t => exact hp.elim
      | panic ch => exact hp.elim
      | outgrown => exact hp.elim
    · rintro e W2 ⟨⟨v, rfl⟩, (⟨hi, hl, hk⟩ | ⟨x, hi, hl, hk⟩)⟩
      · exact ⟨none, _, by have := run_endLoop (P := P) hl (by rw [hrec]; simp); rw [hrec] at this; exact this, hdone _ _ (Nat.le_refl _) (pF _ _ _ _ (by omega) hl hi) ((World.putObj_heap_other (by omega)).trans hk)⟩
      · exact ⟨some .ret, _, by have := run_endLoop (P := P) hl (by rw [hrec]; simp); rw [hrec] at this; exact this, hstop _ x _ (Nat.le_refl _) (pJ _ _ _ _ _ (by omega) hl hi) ((World.putObj_heap_other (by omega)).trans hk)⟩
end Go.Proofs.Ytolhojagbiaamaa
