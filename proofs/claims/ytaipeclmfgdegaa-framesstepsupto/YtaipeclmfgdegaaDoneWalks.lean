import Derived.Test.YtaipeclmfgdegaaTellWalks
/-! One move on an arena, as an effect. -/
namespace Go.Proofs.Ytaipeclmfgdegaa
open Go.RowKit Go.HeapKit

structure Eff where
  v : Int
  ok : Bool
  err : Int
def Eff.value (e : Eff) : Value := .agg #[.int .i64 e.v, .bool e.ok, .int .i64 e.err]
def bad (n : Int) : Eff := ⟨0, false, n⟩

/-- An access, plainly: what is answered, and what comes of the arena. (A count from A.) -/
def Ar.did (A : Ar) (kind addr a b : Int) : Eff × Ar :=
  if kind = 0 then if A.has addr then (⟨A.val addr.toNat, true, 0⟩, A.noted ⟨0, 0, addr, A.val addr.toNat, 0, true⟩) else (bad 20, A)
  else if kind = 1 then if A.has addr then (⟨0, true, 0⟩, (A.put addr.toNat a).noted ⟨0, 1, addr, a, 0, true⟩) else (bad 20, A)
  else if kind = 2 then
    if A.has addr then
      if A.val addr.toNat = a then (⟨0, true, 0⟩, (A.put addr.toNat b).noted ⟨0, 2, addr, a, b, true⟩) else (⟨0, false, 0⟩, A.noted ⟨0, 2, addr, a, b, false⟩)
    else (bad 20, A)
  else if kind = 3 then
    if A.has addr then (⟨wrap64 (A.val addr.toNat + a), true, 0⟩, (A.put addr.toNat (wrap64 (A.val addr.toNat + a))).noted ⟨0, 3, addr, a, wrap64 (A.val addr.toNat + a), true⟩)
    else (bad 20, A)
  else if a < 1 then (bad 21, A)
  else if (A.size : Int) - A.cells.length < a then (bad 22, A)
  else (⟨A.cells.length, true, 0⟩, (A.more a.toNat).noted ⟨0, 4, A.cells.length, a, 0, true⟩)

theorem Ar.has_nat {A : Ar} {x : Int} (h : A.has x = true) : ∃ k : Nat, x = k ∧ k < A.cells.length := by
  simp [Ar.has] at h
  exact ⟨x.toNat, by omega, by omega⟩

/-- The cell for the result, behind the accesses. -/
theorem res_block {w w1 : World} {p : Nat} {vc vl : Value} {A : Ar} {o1 o2 : Obj} (h : IsArena w p vc vl A) (hk : Keeps (Foot p vc vl) ((w.alloc o1).alloc o2) w1) :
    w1.heap[w.heap.size + 1]? = some o2 :=
  (hk.block _ (by simp) (fun f => by have := h.foot_lt f; omega)).trans (new_at _ _ _ (by simp))

theorem After.drop {w w1 w2 : World} {p : Nat} {vc vl : Value} {A B : Ar} {o1 o2 : Obj} (h : IsArena w p vc vl A) (hA : After ((w.alloc o1).alloc o2) w1 p vc vl B) (hk : Keeps (· = w.heap.size + 1) w1 w2) : After w w2 p vc vl B := by
  obtain ⟨vc', vl', hB, hk1, mc, ml⟩ := hA
  have hd : ∀ {v v'}, (∀ k, v.ownBlock = some k → k < w.heap.size) → Moved ((w.alloc o1).alloc o2) v v' → ∀ k, v'.ownBlock = some k → k ≠ w.heap.size + 1 := by
    intro v v' hv hm k e
    rcases hm with hm | ⟨g, hm, hg⟩
    · have := hv k (hm ▸ e); omega
    · rw [e] at hm; injection hm with hm; simp at hg; omega
  have hm2 : ∀ {v v'}, Moved ((w.alloc o1).alloc o2) v v' → Moved w v v' := by
    intro v v' hm
    rcases hm with hm | ⟨g, hm, hg⟩
    · exact .inl hm
    · exact .inr ⟨g, hm, by simp at hg; omega⟩
  refine ⟨vc', vl', hB.kept hk ?_, (((Keeps.refl _ w).andAlloc o1).andAlloc o2 |>.trans hk1 (fun _ f _ => f)).trans hk (fun i e hi => by omega), hm2 mc, hm2 ml⟩
  rintro k (rfl | hk | hk)
  · have := h.lt; omega
  · exact hd (fun k e => own_lt h.cells e) mc k hk
  · exact hd (fun k e => own_lt h.log e) ml k hk

/-- A result that lives in a block of its own. -/
theorem results_row {P : Program} {fn : Func} {q : Tmp} {ty : TypeId} (h : fn.results = #[.cell q ty]) {tmps : Array Value} {w : World} {g : Nat} (ha : tmps.getD q undef = .pointer (some ⟨g, 0, none⟩)) {v : Value}
    (hl : (loadVar ty ⟨g, 0, none⟩).run P w = .ok v w) : (results fn tmps).run P w = .ok v w := by
  have ha' : tmps[q]?.getD undef = .pointer (some ⟨g, 0, none⟩) := by simpa using ha
  simp [results, h, ha', asAddr, hl]

/-- The end of a function whose result is an effect in the block g. -/
theorem eff_end {Q : Ending → World → Prop} {a : Act} {w1 : World} {g : Nat} {c : Array Value} {t : TypeId} {fn : Func} (q : Tmp) (hfn : fn.results = #[.cell q 51]) (hc : c.size = 3) (hb : w1.heap[g]? = some (.cells c t (0, 0)))
    (ha : a.tmps.getD q undef = .pointer (some ⟨g, 0, none⟩)) (hd : a.defers = []) (v0 v1 v2 : Value)
    (hQ : ∀ w', Keeps (· = g) w1 w' → Q (.returned (.agg #[v0, v1, v2])) w') :
    bodyPost Try.prog fn Q .ret a (((w1.setCell ⟨g, 0, none⟩ v0).setCell ⟨g, 1, none⟩ v1).setCell ⟨g, 2, none⟩ v2) := by
  have hb2 := setCell_block (i := 2) (setCell_block (i := 1) (setCell_block (i := 0) hb v0) v1) v2
  have hc3 : ((c.setIfInBounds 0 v0).setIfInBounds 1 v1).setIfInBounds 2 v2 = #[v0, v1, v2] := by
    obtain ⟨l⟩ := c
    match l, hc with
    | [_, _, _], _ => rfl
  rw [hc3] at hb2
  refine bodyPost_ret (results_row (q := q) (ty := 51) hfn ha (run_loadVar_row _ g t 51 _ _ _ hb2 Try.underlying51 rfl (by kernel_rfl))) hd ?_
  exact hQ _ (((Keeps.setCell (S := (· = g)) w1 (a := ⟨g, 0, none⟩) rfl _).andSet (x := ⟨g, 1, none⟩) (.inl rfl) _).andSet (x := ⟨g, 2, none⟩) (.inl rfl) _)

theorem load_did (p : Nat) (vc vl : Value) (A : Ar) (x a b : Int) (w : World) (h : IsArena w p vc vl A) (hlog : A.log.length < 1000000000000) :
    Calls Try.prog 83 #[.pointer (some ⟨p, 0, none⟩), .int .i64 x] w fun e w' => e = .returned (.tuple #[.int .i64 (A.did 0 x a b).1.v, .int .i64 (A.did 0 x a b).1.err]) ∧ After w w' p vc vl (A.did 0 x a b).2 := by
  cases hx : A.has x with
  | false =>
    refine (load_out p vc vl A x w h hx).mono ?_
    rintro e w' ⟨rfl, rfl⟩
    simpa [Ar.did, hx, bad] using After.same h
  | true =>
    obtain ⟨k, rfl, hk⟩ := Ar.has_nat hx
    refine (load_in p vc vl A k w h hk hlog).mono ?_
    rintro e w' ⟨rfl, hA⟩
    simpa [Ar.did, hx] using hA
theorem store_did (p : Nat) (vc vl : Value) (A : Ar) (x a b : Int) (w : World) (h : IsArena w p vc vl A) (hlog : A.log.length < 1000000000000) :
    Calls Try.prog 85 #[.pointer (some ⟨p, 0, none⟩), .int .i64 x, .int .i64 a] w fun e w' => e = .returned (.int .i64 (A.did 1 x a b).1.err) ∧ After w w' p vc vl (A.did 1 x a b).2 := by
  cases hx : A.has x with
  | false =>
    refine (store_out p vc vl A x a w h hx).mono ?_
    rintro e w' ⟨rfl, rfl⟩
    simpa [Ar.did, hx, bad] using After.same h
  | true =>
    obtain ⟨k, rfl, hk⟩ := Ar.has_nat hx
    refine (store_in p vc vl A k a w h hk hlog).mono ?_
    rintro e w' ⟨rfl, hA⟩
    simpa [Ar.did, hx] using hA
theorem add_did (p : Nat) (vc vl : Value) (A : Ar) (x a b : Int) (w : World) (h : IsArena w p vc vl A) (hlog : A.log.length < 1000000000000) :
    Calls Try.prog 82 #[.pointer (some ⟨p, 0, none⟩), .int .i64 x, .int .i64 a] w fun e w' => e = .returned (.tuple #[.int .i64 (A.did 3 x a b).1.v, .int .i64 (A.did 3 x a b).1.err]) ∧ After w w' p vc vl (A.did 3 x a b).2 := by
  cases hx : A.has x with
  | false =>
    refine (add_out p vc vl A x a w h hx).mono ?_
    rintro e w' ⟨rfl, rfl⟩
    simpa [Ar.did, hx, bad] using After.same h
  | true =>
    obtain ⟨k, rfl, hk⟩ := Ar.has_nat hx
    refine (add_in p vc vl A k a w h hk hlog).mono ?_
    rintro e w' ⟨rfl, hA⟩
    simpa [Ar.did, hx] using hA
/-- Of whatever kind is none of the four: Reserve. -/
def Other (kind : Int) : Prop := ¬ kind = 0 ∧ ¬ kind = 1 ∧ ¬ kind = 2 ∧ ¬ kind = 3
theorem reserve_did (p : Nat) (vc vl : Value) (A : Ar) (kind x a b : Int) (hk : Other kind) (w : World) (h : IsArena w p vc vl A) (hlog : A.log.length < 1000000000000) :
    Calls Try.prog 20 #[.pointer (some ⟨p, 0, none⟩), .int .i64 a] w fun e w' => e = .returned (.tuple #[.int .i64 (A.did kind x a b).1.v, .int .i64 (A.did kind x a b).1.err]) ∧ After w w' p vc vl (A.did kind x a b).2 := by
  obtain ⟨k0, k1, k2, k3⟩ := hk
  by_cases h1 : a < 1
  · refine (reserve_few p vc vl A a w h h1).mono ?_
    rintro e w' ⟨rfl, rfl⟩
    simpa [Ar.did, k0, k1, k2, k3, h1, bad] using After.same h
  by_cases h2 : (A.size : Int) - A.cells.length < a
  · refine (reserve_many p vc vl A a w h h1 h2).mono ?_
    rintro e w' ⟨rfl, rfl⟩
    simpa [Ar.did, k0, k1, k2, k3, h1, h2, bad] using After.same h
  · obtain ⟨n, rfl⟩ : ∃ n : Nat, a = n := ⟨a.toNat, by omega⟩
    refine (reserve_fits p vc vl A n w h (by omega) (by have := h.fit; omega) hlog).mono ?_
    rintro e w' ⟨rfl, hA⟩
    simpa [Ar.did, k0, k1, k2, k3, h1, h2] using hA

/-- But for a CAS what is not refused is 'OK'. -/
theorem Ar.did_ok (A : Ar) (kind x a b : Int) (hk : ¬ kind = 2) : (A.did kind x a b).1.ok = ((A.did kind x a b).1.err == 0) := by
  unfold Ar.did
  simp only [hk, if_false]
  split
  · split <;> rfl
  split
  · split <;> rfl
  split
  · split <;> rfl
  split
  · rfl
  split <;> rfl
theorem Ar.did_v1 (A : Ar) (x a b : Int) : (A.did 1 x a b).1.v = 0 := by unfold Ar.did; simp; split <;> rfl
theorem Ar.did_v2 (A : Ar) (x a b : Int) : (A.did 2 x a b).1.v = 0 := by unfold Ar.did; simp; split; split <;> rfl; rfl

end Go.Proofs.Ytaipeclmfgdegaa
