import Derived.Test.YtemmkgnbngeiaaaDqDoStore
import Derived.Test.YtemmkgnbngeiaaaDqCells
/-! The document's New. -/
namespace Go.Proofs.Ytemmkgnbngeiaaa
open Go.RowKit Go.HeapKit Go.IntWalk

theorem results_row3 {P : Program} {fn : Func} {q : Tmp} {ty : TypeId} (h : fn.results = #[.cell q ty]) {tmps : Array Value} {w : World} {g : Nat} (ha : tmps.getD q undef = .pointer (some ⟨g, 0, none⟩)) {v : Value}
    (hl : (loadVar ty ⟨g, 0, none⟩).run P w = .ok v w) : (results fn tmps).run P w = .ok v w := by
  have ha' : tmps[q]?.getD undef = .pointer (some ⟨g, 0, none⟩) := by simpa using ha
  simp [results, h, ha', asAddr, hl]

theorem rdeq_ret {Q : Ending → World → Prop} {a : Act} {w1 : World} {g : Nat} {t : TypeId} {fn : Func} {v0 v1 : Value} (hfn : fn.results = #[.cell 6 36, .tmp 7]) (hb : w1.heap[g]? = some (.cells #[v0, v1] t (0, 0)))
    (ha : a.tmps.getD 6 undef = .pointer (some ⟨g, 0, none⟩)) (hd : a.defers = [])
    (hQ : Q (.returned (.tuple #[.agg #[v0, v1], a.tmps.getD 7 undef])) w1) :
    bodyPost Try.prog fn Q .ret a w1 := by
  have hl := run_loadVar_row (P := Try.prog) _ g t 36 _ _ _ hb Try.underlying36 rfl (by kernel_rfl)
  have ha' : a.tmps[6]?.getD undef = .pointer (some ⟨g, 0, none⟩) := by simpa using ha
  refine bodyPost_ret (v := .tuple #[.agg #[v0, v1], a.tmps.getD 7 undef]) ?_ hd hQ
  rw [results_cell_tmp hfn]
  simp [asAddr, ha', hl, Result.andThen]
theorem rdeq_end {Q : Ending → World → Prop} {a : Act} {w1 : World} {g : Nat} {c : Array Value} {t : TypeId} {fn : Func} (hfn : fn.results = #[.cell 6 36, .tmp 7]) (hc : c.size = 2) (hb : w1.heap[g]? = some (.cells c t (0, 0)))
    (ha : a.tmps.getD 6 undef = .pointer (some ⟨g, 0, none⟩)) (hd : a.defers = []) (v0 v1 : Value)
    (hQ : ∀ w', Keeps (· = g) w1 w' → Q (.returned (.tuple #[.agg #[v0, v1], a.tmps.getD 7 undef])) w') :
    bodyPost Try.prog fn Q .ret a ((w1.setCell ⟨g, 0, none⟩ v0).setCell ⟨g, 1, none⟩ v1) := by
  have hb2 := setCell_block (i := 1) (setCell_block (i := 0) hb v0) v1
  have hc3 : (c.setIfInBounds 0 v0).setIfInBounds 1 v1 = #[v0, v1] := by
    obtain ⟨l⟩ := c
    match l, hc with
    | [_, _], _ => rfl
  rw [hc3] at hb2
  exact rdeq_ret hfn hb2 ha hd (hQ _ ((Keeps.setCell (S := (· = g)) w1 (a := ⟨g, 0, none⟩) rfl _).andSet (x := ⟨g, 1, none⟩) (.inl rfl) _))
theorem store_want (x v : Int) (w : World) : Calls Try.prog 42 #[.int .i64 x, .int .i64 v] w fun e w' => e = .returned (.agg #[.int .i64 1, .int .i64 x, .int .i64 v, .int .i64 0, .int .i64 0, .int .i64 0]) ∧ Keeps None w w' := by
  go_enter Try.func42, Try.ntmps42
  go_wp2
  refine bodyPost_ret (results_row3 (q := 4) (ty := 93) rfl rfl (run_loadVar_row _ w.heap.size 93 93 _ _ _ (new_at _ _ _ rfl) Try.underlying93 rfl (by kernel_rfl))) rfl ?_
  exact ⟨rfl, (Keeps.refl _ _).andAlloc _⟩

def MmF (w : World) (p : Nat) (F : Nat → Prop) (A : Ar) : Prop := ∃ vc vl, IsMem w p vc vl A ∧ F = Foot p vc vl
def MM (w w' : World) (p : Nat) (F : Nat → Prop) (A : Ar) : Prop := ∃ F', MmF w' p F' A ∧ Keeps F w w' ∧ ∀ k, F' k → F k ∨ w.heap.size ≤ k
theorem MmF.lt {w : World} {p : Nat} {F : Nat → Prop} {A : Ar} (h : MmF w p F A) {k : Nat} (hk : F k) : k < w.heap.size := by
  obtain ⟨vc, vl, h, rfl⟩ := h
  exact h.foot_lt hk
theorem MmF.kept {w w' : World} {p : Nat} {F S : Nat → Prop} {A : Ar} (h : MmF w p F A) (hk : Keeps S w w') (hS : ∀ k, F k → ¬ S k) : MmF w' p F A := by
  obtain ⟨vc, vl, h, rfl⟩ := h
  exact ⟨vc, vl, h.kept hk hS, rfl⟩
theorem MM.of {w w' : World} {p : Nat} {vc vl : Value} {A : Ar} (h : MAfter w w' p vc vl A) : MM w w' p (Foot p vc vl) A := by
  obtain ⟨vc', vl', h', hk, mc, ml⟩ := h
  refine ⟨_, ⟨vc', vl', h', rfl⟩, hk, ?_⟩
  intro k hk
  rcases hk with rfl | hk | hk
  · exact .inl (.inl rfl)
  · rcases mc with e | ⟨g, e, hg⟩
    · exact .inl (.inr (.inl (e ▸ hk)))
    · rw [e] at hk; injection hk with hk; exact .inr (by omega)
  · rcases ml with e | ⟨g, e, hg⟩
    · exact .inl (.inr (.inr (e ▸ hk)))
    · rw [e] at hk; injection hk with hk; exact .inr (by omega)
theorem MM.trans {w w1 w2 : World} {p : Nat} {F F1 : Nat → Prop} {B : Ar} (hk : Keeps F w w1) (hf : ∀ k, F1 k → F k ∨ w.heap.size ≤ k) (h2 : MM w1 w2 p F1 B) : MM w w2 p F B := by
  obtain ⟨F2, g, k, m⟩ := h2
  have := hk.size
  exact ⟨F2, g, hk.trans k (fun i f hi => by rcases hf i f with f | f; exact f; omega), fun k f => by
    rcases m k f with f | f
    · exact hf k f
    · exact .inr (by omega)⟩
theorem MM.out {w w1 w4 w' : World} {p g : Nat} {F : Nat → Prop} {B : Ar} (h : MM w1 w4 p F B) (h01 : Keeps None w w1) (hg : w.heap.size ≤ g) (hg1 : g < w1.heap.size) (hF : ¬ F g) (hk : Keeps (· = g) w4 w') : MM w w' p F B := by
  obtain ⟨F', h1, h2, h3⟩ := h
  have := h01.size
  refine ⟨F', h1.kept hk (fun k f e => ?_), ((h01.mono (fun _ f _ => f.elim)).trans h2 (fun _ f _ => f)).trans hk (fun i e hi => by omega), fun k f => ?_⟩
  · subst e
    rcases h3 _ f with f | f
    · exact hF f
    · omega
  · rcases h3 k f with f | f
    · exact .inl f
    · exact .inr (by omega)
theorem mm_fits (p : Nat) (F : Nat → Prop) (A : Ar) (x : Int) (n : Nat) (w : World) (hx : x = n) (h : MmF w p F A) (hn : 0 < n) (hm : A.cells.length + n ≤ A.size) (hlog : A.log.length < 1000000000000) :
    Calls Try.prog 41 #[.pointer (some ⟨p, 0, none⟩), .agg #[.int .i64 4, .int .i64 0, .int .i64 x, .int .i64 0, .int .i64 0, .int .i64 0]] w fun e w' => e = .returned (.tuple #[.int .i64 A.cells.length, .bool true]) ∧ MM w w' p F ((A.more n).noted ⟨0, 4, A.cells.length, n, 0, true⟩) := by
  subst hx
  obtain ⟨vc, vl, h, rfl⟩ := h
  refine (mdo_fits p vc vl A n w h hn hm hlog).mono ?_
  rintro e w' ⟨rfl, hA⟩
  exact ⟨rfl, MM.of hA⟩
theorem mm_many (p : Nat) (F : Nat → Prop) (A : Ar) (x : Int) (n : Nat) (w : World) (hx : x = n) (h : MmF w p F A) (hn : 0 < n) (hm : A.size < A.cells.length + n) (hn2 : n ≤ 1048576) :
    Calls Try.prog 41 #[.pointer (some ⟨p, 0, none⟩), .agg #[.int .i64 4, .int .i64 0, .int .i64 x, .int .i64 0, .int .i64 0, .int .i64 0]] w fun e w' => e = .returned (.tuple #[.int .i64 0, .bool false]) ∧ Keeps None w w' := by
  subst hx
  obtain ⟨vc, vl, h, rfl⟩ := h
  exact mdo_many p vc vl A n w h hn hm hn2
theorem mm_store (p : Nat) (F : Nat → Prop) (A : Ar) (x : Int) (j : Nat) (v : Int) (w : World) (hx : x = j) (h : MmF w p F A) (hj : j < A.cells.length) (hlog : A.log.length < 1000000000000) :
    Calls Try.prog 41 #[.pointer (some ⟨p, 0, none⟩), .agg #[.int .i64 1, .int .i64 x, .int .i64 v, .int .i64 0, .int .i64 0, .int .i64 0]] w fun e w' => e = .returned (.tuple #[.int .i64 0, .bool true]) ∧ MM w w' p F ((A.put j v).noted ⟨0, 1, j, v, 0, true⟩) := by
  subst hx
  obtain ⟨vc, vl, h, rfl⟩ := h
  refine (mdo_store p vc vl A j v w h hj hlog).mono ?_
  rintro e w' ⟨rfl, hA⟩
  exact ⟨rfl, MM.of hA⟩
theorem rnew3_bad (p : Nat) (f m : Int) (w : World) (h : ¬ CapOK f m) : Calls Try.prog 12 #[.pointer (some ⟨p, 0, none⟩), .int .i64 f, .int .i64 m] w fun e w' => e = .returned (.tuple #[.agg #[.int .i64 0, .int .i64 0], .int .i64 30]) ∧ Keeps None w w' := by
  have hc := fun w => capOK_bad f m w h
  go_enter Try.func12, Try.ntmps12
  go_wp2_with fail
  refine (hc _).mono ?_
  rintro e w' ⟨rfl, hw⟩
  have hw2 := hw.symm
  subst hw2
  clear hw
  go_wp2
  refine rdeq_ret rfl (new_at w _ _ rfl) rfl rfl ⟨rfl, Keeps.alloc None w _⟩
theorem rnew3_room (p : Nat) (F : Nat → Prop) (A : Ar) (f m : Nat) (w : World) (h : CapOK f m) (hA : MmF w p F A) (hfit : A.size < A.cells.length + (4 + f)) :
    Calls Try.prog 12 #[.pointer (some ⟨p, 0, none⟩), .int .i64 f, .int .i64 m] w fun e w' => e = .returned (.tuple #[.agg #[.int .i64 0, .int .i64 0], .int .i64 22]) ∧ Keeps None w w' := by
  have hc := fun w => capOK_ok f m w h
  have hf4 : f ≤ 4096 := by have := h; unfold CapOK at this; omega
  have hr := mm_many p F A (4 + (f : Int)) (4 + f) _ (by omega) (hA.kept (Keeps.alloc None w (.cells #[.int .i64 0, .int .i64 0] 36)) (fun _ _ f => f)) (by omega) hfit (by omega)
  clear h hA
  go_enter Try.func12, Try.ntmps12
  go_wp2_with fail
  refine (hc _).mono ?_
  rintro e w' ⟨rfl, hw⟩
  have hw2 := hw.symm
  subst hw2
  clear hw
  go_wp2_with fail
  refine hr.mono ?_
  rintro e w1 ⟨rfl, hk⟩
  have hb := (hk.block w.heap.size (by simp) (fun f => f)).trans (new_at w _ _ rfl)
  have r0 := (cell_of_block hb 0).trans rfl
  have r1 := (cell_of_block hb 1).trans rfl
  have q0 := free_of_block hb 0
  have q1 := free_of_block hb 1
  clear hr hc
  go_wp2
  refine rdeq_end rfl rfl hb rfl rfl _ _ (fun w' hk2 => ⟨rfl, ((Keeps.alloc None w _).trans hk (fun _ f _ => f)).trans hk2 (fun i e hi => by omega)⟩)
set_option maxHeartbeats 4000000 in
set_option maxRecDepth 100000 in
theorem rnew3_ok (p : Nat) (F : Nat → Prop) (A : Ar) (f m : Nat) (w : World) (h : CapOK f m) (hA : MmF w p F A) (hfit : A.cells.length + (4 + f) ≤ A.size) (hsz : A.size ≤ 1048576) (hlog : A.log.length < 1000000) :
    Calls Try.prog 12 #[.pointer (some ⟨p, 0, none⟩), .int .i64 f, .int .i64 m] w fun e w' => e = .returned (.tuple #[.agg #[.int .i64 A.cells.length, .int .i64 m], .int .i64 0]) ∧ MM w w' p F (A.laid f) := by
  have hc := fun w => capOK_ok f m w h
  have hf4 : f ≤ 4096 := by have := h; unfold CapOK at this; omega
  have hr := mm_fits p F A (4 + (f : Int)) (4 + f) _ (by omega) (hA.kept (Keeps.alloc None w (.cells #[.int .i64 0, .int .i64 0] 36)) (fun _ _ f => f)) (by omega) hfit (by omega)
  have HF : Hid (∀ k, F k → k < w.heap.size) := fun k f => hA.lt f
  clear h hA
  go_enter Try.func12, Try.ntmps12
  go_wp2_with fail
  refine (hc _).mono ?_
  rintro e w' ⟨rfl, hw⟩
  have hw2 := hw.symm
  subst hw2
  clear hw
  go_wp2_with fail
  refine hr.mono ?_
  rintro e w1 ⟨rfl, F1, hF1, hk1, hf1⟩
  have hl1 : ((A.more (4 + f)).noted ⟨0, 4, A.cells.length, (4 + f : Nat), 0, true⟩).cells.length = A.cells.length + (4 + f) := by rw [noted_len, more_len]
  have hg1 : ((A.more (4 + f)).noted ⟨0, 4, A.cells.length, (4 + f : Nat), 0, true⟩).log.length ≤ A.log.length + 1 := noted_log _ _
  have H1 : Hid _ := And.intro hF1 (And.intro hk1 hf1)
  clear hF1 hk1 hf1 hr hc
  generalize hA1e : (A.more (4 + f)).noted ⟨0, 4, A.cells.length, (4 + f : Nat), 0, true⟩ = A1 at H1 hl1 hg1
  have HA1e : Hid _ := hA1e
  clear hA1e
  have hw := store_want ((A.cells.length : Int) + 2) ((A.cells.length : Int) + 3) w1
  go_wp2_with fail
  refine hw.mono ?_
  rintro e w2 ⟨rfl, hk2⟩
  have hst := mm_store p F1 A1 ((A.cells.length : Int) + 2) (A.cells.length + 2) ((A.cells.length : Int) + 3) w2 (by omega) (H1.out.1.kept hk2 (fun _ _ f => f)) (by omega) (by omega)
  have HK2 : Hid _ := hk2
  clear hw hk2
  go_wp2_with fail
  refine hst.mono ?_
  rintro e w3 ⟨rfl, F3, hF3, hk3, hf3⟩
  have hl3 : ((A1.put (A.cells.length + 2) ((A.cells.length : Int) + 3)).noted ⟨0, 1, (A.cells.length + 2 : Nat), (A.cells.length : Int) + 3, 0, true⟩).cells.length = A.cells.length + (4 + f) := by rw [noted_len, put_len, hl1]
  have hg3 : ((A1.put (A.cells.length + 2) ((A.cells.length : Int) + 3)).noted ⟨0, 1, (A.cells.length + 2 : Nat), (A.cells.length : Int) + 3, 0, true⟩).log.length ≤ A.log.length + 2 := by
    have := noted_log (A1.put (A.cells.length + 2) ((A.cells.length : Int) + 3)) ⟨0, 1, (A.cells.length + 2 : Nat), (A.cells.length : Int) + 3, 0, true⟩
    rw [put_log] at this
    omega
  have H3 : Hid _ := And.intro hF3 (And.intro hk3 hf3)
  clear hF3 hk3 hf3 hst
  have hw := store_want ((A.cells.length : Int) + 3) f w3
  go_wp2_with fail
  refine hw.mono ?_
  rintro e w4 ⟨rfl, hk4⟩
  have hst := mm_store p F3 _ ((A.cells.length : Int) + 3) (A.cells.length + 3) f w4 (by omega) (H3.out.1.kept hk4 (fun _ _ f => f)) (by rw [hl3]; omega) (by omega)
  have HK4 : Hid _ := hk4
  clear hw hk4
  go_wp2_with fail
  refine hst.mono ?_
  rintro e w5 ⟨rfl, hM5⟩
  have s1 := H1.out.2.1.size
  have s2 := HK2.out.size
  have s3 := H3.out.2.1.size
  have s4 := HK4.out.size
  have k13 : Keeps F1 w1 w3 := (HK2.out.mono (fun _ f _ => f.elim)).trans H3.out.2.1 (fun _ f _ => f)
  have k34 : Keeps F3 w3 w4 := HK4.out.mono (fun _ f _ => f.elim)
  have hE0 : MM w1 w5 p F1 ((((A1.put (A.cells.length + 2) ((A.cells.length : Int) + 3)).noted ⟨0, 1, (A.cells.length + 2 : Nat), (A.cells.length : Int) + 3, 0, true⟩).put (A.cells.length + 3) f).noted ⟨0, 1, (A.cells.length + 3 : Nat), f, 0, true⟩) :=
    MM.trans k13 (fun k f => by
      rcases H3.out.2.2 k f with f | f
      · exact .inl f
      · exact .inr (by omega)) (MM.trans k34 (fun _ f => .inl f) hM5)
  have hE : MM (w.alloc (.cells #[.int .i64 0, .int .i64 0] 36)) w5 p F (A.laid f) := by
    have := MM.trans H1.out.2.1 H1.out.2.2 hE0
    rw [← HA1e.out] at this
    exact this
  have hno : ¬ F w.heap.size := fun f => by have := HF.out _ f; omega
  have hb := (hE.choose_spec.2.1.block w.heap.size (by simp) hno).trans (new_at w _ _ rfl)
  have r0 := (cell_of_block hb 0).trans rfl
  have r1 := (cell_of_block hb 1).trans rfl
  have q0 := free_of_block hb 0
  have q1 := free_of_block hb 1
  have HE : Hid _ := hE
  clear hE hE0 hM5 k13 k34 s1 s2 s3 s4 hst
  go_wp2
  refine rdeq_end rfl rfl hb rfl rfl _ _ (fun w' hk => ⟨rfl, MM.out HE.out (Keeps.alloc None w _) (Nat.le_refl _) (by simp) hno hk⟩)
end Go.Proofs.Ytemmkgnbngeiaaa
