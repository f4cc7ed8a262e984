import Derived.Test.YtlligclkoecknaaFrPick
/-! A new actor comes to be. -/
namespace Go.Proofs.Ytlligclkoecknaa
open Go.RowKit Go.HeapKit Go.IntWalk

theorem Try.infoActr : (Try.prog.info? 100).map (fun i => (i.zero, i.size, i.bytes)) = some (some (.agg #[.int .i64 0, .int .i64 0, .int .i64 0, .int .i64 0, .int .i64 0, .int .i64 0, .int .i64 0, .int .i64 0, .int .i64 0, .int .i64 0, .int .i64 0, .int .i64 0, .int .i64 0, .int .i64 0, .int .i64 0, .int .i64 0, .int .i64 0]), 17, 136) := by kernel_rfl
theorem act_append (va : Value) (l : List Actr) (a : Actr) (g ty : Nat) (w : World) (h : w.ownsRow 0 100 17 va l.length (actVals l)) (hlen : l.length < 1000000)
    (hg : w.heap[g]? = some (.cells a.vals.toArray 100 (0, 0))) :
    ∃ b cap w', (Builtin.append_ #[84, 84] ty #[va, .slice (some ⟨g, 0, none⟩) 1 1]).run Try.prog w = .ok (.slice (some ⟨b, 0, none⟩) (l.length + 1) cap) w' ∧
      w'.ownsRow 0 100 17 (.slice (some ⟨b, 0, none⟩) (l.length + 1) cap) (l.length + 1) (actVals (l ++ [a])) ∧ w.grownBy w' va.ownBlock ∧ Moved w va (.slice (some ⟨b, 0, none⟩) (l.length + 1) cap) := by
  obtain ⟨i0, hi, hz0, hz1, hz2⟩ := info_parts Try.infoActr
  obtain ⟨v', w', hr, ho, hgr, hm, -⟩ := run_append_moved (P := Try.prog) w 0 84 ty 100 i0 _ 17 136 Try.underlying84 hi hz0 hz1 hz2 rfl (by decide) va l.length (actVals l) h
    ⟨g, 0, none⟩ 1 1 a.vals rfl (by
      intro j u hu
      rw [add0, cell_of_block hg]
      simpa using hu) (by
      intro u hu
      simp [Actr.vals, OpF.vals] at hu
      rcases hu with rfl | rfl | rfl | rfl | rfl | rfl | rfl | rfl | rfl | rfl | rfl | rfl | rfl | rfl | rfl | rfl | rfl <;> rfl) (by unfold maxLen; omega) (by omega) (Nat.zero_le _)
  rw [← actVals_one a, ← actVals_app] at ho
  rcases ho.2 with ⟨_, h0⟩ | ⟨b, cap, cur, rfl, _⟩
  · omega
  · exact ⟨b, cap, w', hr, ho, hgr, hm⟩
section
variable {w0 w w1 : World} {P p : Nat} {F : Nat → Prop} {ao : Option Addr} {cap : Nat} {va vh vd : Value} {rs : List Value} {S : Pl}
/-- A row that has moved keeps off what is elsewhere. -/
theorem moved_off {v v' : Value} {k : Nat} (hm : Moved w v v') (hk : v'.ownBlock = some k) : v.ownBlock = some k ∨ w.heap.size ≤ k := by
  rcases hm with e | ⟨g, e, hg⟩
  · exact .inl (e ▸ hk)
  · rw [e] at hk; injection hk with hk; exact .inr (by omega)
/-- The living, one more: behind the append and the store of the field. -/
theorem IsPlay.joined {va' : Value} {a : Actr} (h : IsPlay w0 w P p F ao cap va vh vd rs S) (hk : Keeps (fun k => va.ownBlock = some k) w w1) (hm : Moved w va va') (ho : w1.ownsRow 0 100 17 va' (S.alive.length + 1) (actVals (S.alive ++ [a]))) :
    IsPlay w0 (w1.setCell ⟨P, 4, none⟩ va') P p F ao cap va' vh vd rs { S with alive := S.alive ++ [a] } ∧ Keeps (fun k => va.ownBlock = some k ∨ k = P) w (w1.setCell ⟨P, 4, none⟩ va') := by
  have hs := h.kp.size
  have hs1 := hk.size
  obtain ⟨n1, n2, n3, n4⟩ := h.nP
  have hb : w1.heap[P]? = _ := (hk.block P h.lt n1).trans h.blk
  have hkp : Keeps (· = P) w1 (w1.setCell ⟨P, 4, none⟩ va') := Keeps.setCell (S := (· = P)) w1 (a := ⟨P, 4, none⟩) rfl _
  have hall : Keeps (fun k => va.ownBlock = some k ∨ k = P) w (w1.setCell ⟨P, 4, none⟩ va') := (hk.mono (fun _ f _ => .inl f)).trans hkp (fun _ e _ => .inr e)
  have hlP := h.lo P (.inr (.inl rfl))
  have hnP' : va'.ownBlock ≠ some P := fun e => absurd (own_type ho e hb) (by decide)
  have hG : ∀ k, GPl P va' vh vd rs k → GPl P va vh vd rs k ∨ w.heap.size ≤ k := by
    intro k g
    rcases g with e | e | e | e | e
    · exact .inl (.inl e)
    · rcases moved_off hm e with e | e
      · exact .inl (.inr (.inl e))
      · exact .inr e
    · exact .inl (.inr (.inr (.inl e)))
    · exact .inl (.inr (.inr (.inr (.inl e))))
    · exact .inl (.inr (.inr (.inr (.inr e))))
  refine ⟨⟨(setCell_block hb va').trans rfl, h.ar.kept hall (fun k f e => by rcases e with e | e; exact h.off k f (.inr (.inl e)); exact h.off k f (.inl e)), ?_, hall.own h.ho (fun k e e2 => by rcases e2 with e2 | e2; exact own_apart h.al h.ho (by decide) e2 e; exact n2 (e2 ▸ e)), hall.own h.re (fun k e e2 => by rcases e2 with e2 | e2; exact own_apart h.al h.re (by decide) e2 e; exact n3 (e2 ▸ e)), h.rl, fun i hi => hall.own (h.row i hi) (fun k e e2 => by rcases e2 with e2 | e2; exact own_apart h.al (h.row i hi) (by decide) e2 e; exact n4 i (by rw [h.rl]; exact hi) (e2 ▸ e)), h.apart, fun k f g => ?_, h.kp.trans hall (fun k e hi => by rcases e with e | e; have := h.lo k (.inr (.inr (.inl e))); omega; omega), fun k f => ?_, h.ro⟩, hall⟩
  · have := hkp.own ho (fun k e e2 => hnP' (e2 ▸ e))
    simpa using this
  · rcases hG k g with g | g
    · exact h.off k f g
    · have := h.ar.lt f; omega
  · rcases f with f | f
    · exact h.lo k (.inl f)
    · rcases hG k f with f | f
      · exact h.lo k (.inr f)
      · omega
end
theorem join_s {w' : World} {P q : Nat} {bn m0 m1 m2 m3 m4 m5 m6 m7 f0 f1 f2 f3 f4 f5 f6 f7 : Int} {t t2 : TypeId} (h5 : w'.cell? ⟨P, 5, none⟩ = some (.int .i64 bn)) (h1 : w'.heap[q]? = some (.cells #[.int .i64 m0, .int .i64 m1, .int .i64 m2, .int .i64 m3, .int .i64 m4, .int .i64 m5, .int .i64 m6, .int .i64 m7] t (0, 0))) (h2 : w'.heap[q + 1]? = some (.cells #[.int .i64 f0, .int .i64 f1, .int .i64 f2, .int .i64 f3, .int .i64 f4, .int .i64 f5, .int .i64 f6, .int .i64 f7] t2 (0, 0))) : w'.cell? ⟨P, 5, none⟩ = some (.int .i64 bn) ∧ w'.cell? ⟨q, 0, none⟩ = some (.int .i64 m0) ∧ w'.cell? ⟨q, 1, none⟩ = some (.int .i64 m1) ∧ w'.cell? ⟨q, 2, none⟩ = some (.int .i64 m2) ∧ w'.cell? ⟨q, 3, none⟩ = some (.int .i64 m3) ∧ w'.cell? ⟨q, 4, none⟩ = some (.int .i64 m4) ∧ w'.cell? ⟨q, 5, none⟩ = some (.int .i64 m5) ∧ w'.cell? ⟨q, 6, none⟩ = some (.int .i64 m6) ∧ w'.cell? ⟨q, 7, none⟩ = some (.int .i64 m7) ∧ w'.cell? ⟨q + 1, 0, none⟩ = some (.int .i64 f0) ∧ w'.cell? ⟨q + 1, 1, none⟩ = some (.int .i64 f1) ∧ w'.cell? ⟨q + 1, 2, none⟩ = some (.int .i64 f2) ∧ w'.cell? ⟨q + 1, 3, none⟩ = some (.int .i64 f3) ∧ w'.cell? ⟨q + 1, 4, none⟩ = some (.int .i64 f4) ∧ w'.cell? ⟨q + 1, 5, none⟩ = some (.int .i64 f5) ∧ w'.cell? ⟨q + 1, 6, none⟩ = some (.int .i64 f6) ∧ w'.cell? ⟨q + 1, 7, none⟩ = some (.int .i64 f7) :=
  ⟨h5, cell_of_block h1 0, cell_of_block h1 1, cell_of_block h1 2, cell_of_block h1 3, cell_of_block h1 4, cell_of_block h1 5, cell_of_block h1 6, cell_of_block h1 7, cell_of_block h2 0, cell_of_block h2 1, cell_of_block h2 2, cell_of_block h2 3, cell_of_block h2 4, cell_of_block h2 5, cell_of_block h2 6, cell_of_block h2 7⟩
set_option maxHeartbeats 4000000 in
set_option maxRecDepth 100000 in
theorem join_any (w0 w : World) (P p : Nat) (F : Nat → Prop) (ao : Option Addr) (cap : Nat) (va vh vd : Value) (rs : List Value) (S : Pl) (o f : OpF) (h : IsPlay w0 w P p F ao cap va vh vd rs S) (hsm : S.alive.length ≤ 1000) (hbn : S.born ≤ 1000) :
    Calls Try.prog 35 #[.pointer (some ⟨P, 0, none⟩), o.value, f.value] w fun e w' => e = .returned (.tuple #[]) ∧ ∃ va', IsPlay w0 w' P p F ao cap va' vh vd rs (S.join o f) := by
  obtain ⟨m0, m1, m2, m3, m4, m5, m6, m7⟩ := o
  obtain ⟨f0, f1, f2, f3, f4, f5, f6, f7⟩ := f
  have h2 := (h.kept (Keeps.alloc None w (.cells #[.int .i64 m0, .int .i64 m1, .int .i64 m2, .int .i64 m3, .int .i64 m4, .int .i64 m5, .int .i64 m6, .int .i64 m7] 39))).kept (Keeps.alloc None _ (.cells #[.int .i64 f0, .int .i64 f1, .int .i64 f2, .int .i64 f3, .int .i64 f4, .int .i64 f5, .int .i64 f6, .int .i64 f7] 39))
  have c4 := h2.c4
  have c5 := h2.c5
  have h3 := (h2.kept (Keeps.drew None _)).kept (Keeps.alloc None _ (.cells (Actr.vals ⟨S.born, ⟨m0, m1, m2, m3, m4, m5, m6, m7⟩, ⟨f0, f1, f2, f3, f4, f5, f6, f7⟩⟩).toArray 100))
  have h3' := h2.kept (Keeps.alloc None _ (.cells (Actr.vals ⟨S.born, ⟨m0, m1, m2, m3, m4, m5, m6, m7⟩, ⟨f0, f1, f2, f3, f4, f5, f6, f7⟩⟩).toArray 100))
  have c4' := h3'.c4
  have c5' := h3'.c5
  obtain ⟨g, c, w1, hr, ho, hgr, hm⟩ := act_append va S.alive ⟨S.born, ⟨m0, m1, m2, m3, m4, m5, m6, m7⟩, ⟨f0, f1, f2, f3, f4, f5, f6, f7⟩⟩ (w.heap.size + 2) 84 _ h3.al (by omega) (new_at _ _ _ (by simp))
  have hk1 := Keeps.grown (S := fun k => va.ownBlock = some k) hgr (fun _ e => e)
  obtain ⟨hJ, -⟩ := h3.joined hk1 hm ho
  have hP1 : w1.heap[P]? = _ := (hk1.block P h3.lt h3.nP.1).trans h3.blk
  have d4 : w1.cell? ⟨P, 4, none⟩ = some va := (cell_of_block hP1 4).trans rfl
  have q4 := free_of_block hP1 4
  have d5 := hJ.c5
  have q5 := hJ.free 5
  have hE := hJ.set 5 (.int .i64 ((S.born : Int) + 1)) (S.join ⟨m0, m1, m2, m3, m4, m5, m6, m7⟩ ⟨f0, f1, f2, f3, f4, f5, f6, f7⟩) rfl rfl rfl rfl rfl rfl
  have HE : Hid _ := hE
  have b1 : (S.born : Int) ≤ 1000 := by omega
  rw [show (Actr.vals ⟨S.born, ⟨m0, m1, m2, m3, m4, m5, m6, m7⟩, ⟨f0, f1, f2, f3, f4, f5, f6, f7⟩⟩).toArray = #[.int .i64 S.born, .int .i64 m0, .int .i64 m1, .int .i64 m2, .int .i64 m3, .int .i64 m4, .int .i64 m5, .int .i64 m6, .int .i64 m7, .int .i64 f0, .int .i64 f1, .int .i64 f2, .int .i64 f3, .int .i64 f4, .int .i64 f5, .int .i64 f6, .int .i64 f7] from rfl] at c4' c5' hr
  simp only [OpF.vals, OpF.value]
  have B1 := new_at w (.cells #[.int .i64 m0, .int .i64 m1, .int .i64 m2, .int .i64 m3, .int .i64 m4, .int .i64 m5, .int .i64 m6, .int .i64 m7] 39) _ rfl
  have B2 := new_at (w.alloc (.cells #[.int .i64 m0, .int .i64 m1, .int .i64 m2, .int .i64 m3, .int .i64 m4, .int .i64 m5, .int .i64 m6, .int .i64 m7] 39)) (.cells #[.int .i64 f0, .int .i64 f1, .int .i64 f2, .int .i64 f3, .int .i64 f4, .int .i64 f5, .int .i64 f6, .int .i64 f7] 39) (w.heap.size + 1) (by simp)
  have B1' := ((Keeps.alloc None (w.alloc (.cells #[.int .i64 m0, .int .i64 m1, .int .i64 m2, .int .i64 m3, .int .i64 m4, .int .i64 m5, .int .i64 m6, .int .i64 m7] 39)) (.cells #[.int .i64 f0, .int .i64 f1, .int .i64 f2, .int .i64 f3, .int .i64 f4, .int .i64 f5, .int .i64 f6, .int .i64 f7] 39)).block w.heap.size (by simp) (fun f => f)).trans B1
  have HS0 : Hid _ := join_s (w' := ((w.alloc (.cells #[.int .i64 m0, .int .i64 m1, .int .i64 m2, .int .i64 m3, .int .i64 m4, .int .i64 m5, .int .i64 m6, .int .i64 m7] 39)).alloc (.cells #[.int .i64 f0, .int .i64 f1, .int .i64 f2, .int .i64 f3, .int .i64 f4, .int .i64 f5, .int .i64 f6, .int .i64 f7] 39)).drew) h2.c5 B1' B2
  have hkA := Keeps.alloc None ((w.alloc (.cells #[.int .i64 m0, .int .i64 m1, .int .i64 m2, .int .i64 m3, .int .i64 m4, .int .i64 m5, .int .i64 m6, .int .i64 m7] 39)).alloc (.cells #[.int .i64 f0, .int .i64 f1, .int .i64 f2, .int .i64 f3, .int .i64 f4, .int .i64 f5, .int .i64 f6, .int .i64 f7] 39)).drew (.cells #[.int .i64 S.born, .int .i64 m0, .int .i64 m1, .int .i64 m2, .int .i64 m3, .int .i64 m4, .int .i64 m5, .int .i64 m6, .int .i64 m7, .int .i64 f0, .int .i64 f1, .int .i64 f2, .int .i64 f3, .int .i64 f4, .int .i64 f5, .int .i64 f6, .int .i64 f7] 100)
  have A1 := (hkA.block w.heap.size (by first | (simp; done) | (simp; omega)) (fun f => f)).trans B1'
  have A2 := (hkA.block (w.heap.size + 1) (by simp) (fun f => f)).trans B2
  have HS1 : Hid _ := join_s (w' := (((w.alloc (.cells #[.int .i64 m0, .int .i64 m1, .int .i64 m2, .int .i64 m3, .int .i64 m4, .int .i64 m5, .int .i64 m6, .int .i64 m7] 39)).alloc (.cells #[.int .i64 f0, .int .i64 f1, .int .i64 f2, .int .i64 f3, .int .i64 f4, .int .i64 f5, .int .i64 f6, .int .i64 f7] 39)).drew).alloc (.cells #[.int .i64 S.born, .int .i64 m0, .int .i64 m1, .int .i64 m2, .int .i64 m3, .int .i64 m4, .int .i64 m5, .int .i64 m6, .int .i64 m7, .int .i64 f0, .int .i64 f1, .int .i64 f2, .int .i64 f3, .int .i64 f4, .int .i64 f5, .int .i64 f6, .int .i64 f7] 100)) h3.c5 A1 A2
  have nA : ∀ k, k = w.heap.size ∨ k = w.heap.size + 1 → ¬ va.ownBlock = some k := fun k hk e => by have := own_lt h.al e; omega
  have C1 := (hk1.block w.heap.size (by first | (simp; done) | (simp; omega)) (nA _ (.inl rfl))).trans A1
  have C2 := (hk1.block (w.heap.size + 1) (by first | (simp; done) | (simp; omega)) (nA _ (.inr rfl))).trans A2
  have HS2 : Hid _ := join_s (w' := w1) (hk1.cell h3.c5 h3.nP.1) C1 C2
  have hkS := Keeps.setCell (S := (· = P)) w1 (a := ⟨P, 4, none⟩) rfl (.slice (some ⟨g, 0, none⟩) (S.alive.length + 1) c)
  have hPl := h.lt
  have D1 := (hkS.block w.heap.size (Array.getElem?_eq_some_iff.1 C1).1 (by omega)).trans C1
  have D2 := (hkS.block (w.heap.size + 1) (Array.getElem?_eq_some_iff.1 C2).1 (by omega)).trans C2
  have HS3 : Hid _ := join_s (w' := w1.setCell ⟨P, 4, none⟩ (.slice (some ⟨g, 0, none⟩) (S.alive.length + 1) c)) hJ.c5 D1 D2
  clear B1 B2 B1' hkA A1 A2 nA C1 C2 hkS hPl D1 D2
  clear h h2 h3 h3' ho hgr hm hk1 hJ hP1 hE
  go_enter Try.func35, Try.ntmps35
  go_upto_region 1 with fail
  go_cut [6] (fun s6 wx => wx = w1.setCell ⟨P, 4, none⟩ (.slice (some ⟨g, 0, none⟩) (S.alive.length + 1) c))
  case first =>
    refine wp_region_held_drew (S := (fun w' => w'.cell? ⟨P, 5, none⟩ = some (.int .i64 S.born) ∧ w'.cell? ⟨w.heap.size, 0, none⟩ = some (.int .i64 m0) ∧ w'.cell? ⟨w.heap.size, 1, none⟩ = some (.int .i64 m1) ∧ w'.cell? ⟨w.heap.size, 2, none⟩ = some (.int .i64 m2) ∧ w'.cell? ⟨w.heap.size, 3, none⟩ = some (.int .i64 m3) ∧ w'.cell? ⟨w.heap.size, 4, none⟩ = some (.int .i64 m4) ∧ w'.cell? ⟨w.heap.size, 5, none⟩ = some (.int .i64 m5) ∧ w'.cell? ⟨w.heap.size, 6, none⟩ = some (.int .i64 m6) ∧ w'.cell? ⟨w.heap.size, 7, none⟩ = some (.int .i64 m7) ∧ w'.cell? ⟨w.heap.size + 1, 0, none⟩ = some (.int .i64 f0) ∧ w'.cell? ⟨w.heap.size + 1, 1, none⟩ = some (.int .i64 f1) ∧ w'.cell? ⟨w.heap.size + 1, 2, none⟩ = some (.int .i64 f2) ∧ w'.cell? ⟨w.heap.size + 1, 3, none⟩ = some (.int .i64 f3) ∧ w'.cell? ⟨w.heap.size + 1, 4, none⟩ = some (.int .i64 f4) ∧ w'.cell? ⟨w.heap.size + 1, 5, none⟩ = some (.int .i64 f5) ∧ w'.cell? ⟨w.heap.size + 1, 6, none⟩ = some (.int .i64 f6) ∧ w'.cell? ⟨w.heap.size + 1, 7, none⟩ = some (.int .i64 f7))) (by kernel_rfl) ?_ (fun hHeld => ?_)
    · (try dsimp only); (first | with_reducible exact HS0.out | with_reducible exact HS1.out | with_reducible exact HS2.out | with_reducible exact HS3.out | go_keep)
    refine wpAnyH_take (i := 0) (oi := { dst := some 6, op := Op.move (Operand.tmp 0), type := 98, pos := "play.go:77", after := #[], guard := none }) (v := ?_) rfl (by kernel_rfl) (by kernel_rfl) (by kernel_rfl) (fun _ _ _ h => h) (Or.inl ⟨by rfl, ?_⟩) (by assumption) ?_
    rotate_left
    · (intro wz hSw; (try dsimp only at hSw); go_simp; try with_reducible rfl)
    simp only [Act.put, List.setIfInBounds_toArray, List.set_cons_zero, List.set_cons_succ]
    refine wpAnyH_take (i := 1) (oi := { dst := some 7, op := Op.move (Operand.tmp 0), type := 98, pos := "play.go:77", after := #[], guard := none }) (v := ?_) rfl (by kernel_rfl) (by kernel_rfl) (by kernel_rfl) (fun _ _ _ h => h) (Or.inl ⟨by rfl, ?_⟩) (by assumption) ?_
    rotate_left
    · (intro wz hSw; (try dsimp only at hSw); go_simp; try with_reducible rfl)
    simp only [Act.put, List.setIfInBounds_toArray, List.set_cons_zero, List.set_cons_succ]
    refine wpAnyH_take (i := 2) (oi := { dst := some 8, op := Op.nilCheck (Operand.tmp 7), type := 0, pos := "play.go:77", after := #[{ on := 1, ground := Ground.data }], guard := none }) (v := ?_) rfl (by kernel_rfl) (by kernel_rfl) (by kernel_rfl) (fun _ _ _ h => h) (Or.inl ⟨by rfl, ?_⟩) (by assumption) ?_
    rotate_left
    · (intro wz hSw; (try dsimp only at hSw); go_simp; try with_reducible rfl)
    simp only [Act.put, List.setIfInBounds_toArray, List.set_cons_zero, List.set_cons_succ]
    refine wpAnyH_take (i := 3) (oi := { dst := some 9, op := Op.fieldAddr 86 (Operand.tmp 8) 3, type := 0, pos := "play.go:77", after := #[{ on := 2, ground := Ground.data }], guard := none }) (v := ?_) rfl (by kernel_rfl) (by kernel_rfl) (by kernel_rfl) (fun _ _ _ h => h) (Or.inl ⟨by rfl, ?_⟩) (by assumption) ?_
    rotate_left
    · (intro wz hSw; (try dsimp only at hSw); go_simp; try with_reducible rfl)
    simp only [Act.put, List.setIfInBounds_toArray, List.set_cons_zero, List.set_cons_succ]
    refine wpAnyH_take (i := 5) (oi := { dst := some 11, op := Op.move (Operand.tmp 0), type := 98, pos := "play.go:77", after := #[], guard := none }) (v := ?_) rfl (by kernel_rfl) (by kernel_rfl) (by kernel_rfl) (fun _ _ _ h => h) (Or.inl ⟨by rfl, ?_⟩) (by assumption) ?_
    rotate_left
    · (intro wz hSw; (try dsimp only at hSw); go_simp; try with_reducible rfl)
    simp only [Act.put, List.setIfInBounds_toArray, List.set_cons_zero, List.set_cons_succ]
    refine wpAnyH_take (i := 6) (oi := { dst := some 12, op := Op.nilCheck (Operand.tmp 11), type := 0, pos := "play.go:77", after := #[{ on := 5, ground := Ground.data }], guard := none }) (v := ?_) rfl (by kernel_rfl) (by kernel_rfl) (by kernel_rfl) (fun _ _ _ h => h) (Or.inl ⟨by rfl, ?_⟩) (by assumption) ?_
    rotate_left
    · (intro wz hSw; (try dsimp only at hSw); go_simp; try with_reducible rfl)
    simp only [Act.put, List.setIfInBounds_toArray, List.set_cons_zero, List.set_cons_succ]
    refine wpAnyH_take (i := 7) (oi := { dst := some 13, op := Op.fieldAddr 86 (Operand.tmp 12) 4, type := 0, pos := "play.go:77", after := #[{ on := 6, ground := Ground.data }], guard := none }) (v := ?_) rfl (by kernel_rfl) (by kernel_rfl) (by kernel_rfl) (fun _ _ _ h => h) (Or.inl ⟨by rfl, ?_⟩) (by assumption) ?_
    rotate_left
    · (intro wz hSw; (try dsimp only at hSw); go_simp; try with_reducible rfl)
    simp only [Act.put, List.setIfInBounds_toArray, List.set_cons_zero, List.set_cons_succ]
    refine wpAnyH_take (i := 8) (oi := { dst := some 14, op := Op.load 3 (Operand.tmp 13), type := 3, pos := "play.go:77", after := #[{ on := 7, ground := Ground.data }], guard := none }) (v := ?_) rfl (by kernel_rfl) (by kernel_rfl) (by kernel_rfl) (fun _ _ _ h => h) (Or.inl ⟨by rfl, ?_⟩) (by assumption) ?_
    rotate_left
    · (intro wz hSw; (try dsimp only at hSw); go_simp; try with_reducible rfl)
    simp only [Act.put, List.setIfInBounds_toArray, List.set_cons_zero, List.set_cons_succ]
    refine wpAnyH_take (i := 9) (oi := { dst := some 15, op := Op.load 39 (Operand.tmp 4), type := 39, pos := "play.go:77", after := #[], guard := none }) (v := ?_) rfl (by kernel_rfl) (by kernel_rfl) (by kernel_rfl) (fun _ _ _ h => h) (Or.inl ⟨by rfl, ?_⟩) (by assumption) ?_
    rotate_left
    · (intro wz hSw; (try dsimp only at hSw); go_simp; try with_reducible rfl)
    simp only [Act.put, List.setIfInBounds_toArray, List.set_cons_zero, List.set_cons_succ]
    refine wpAnyH_take (i := 10) (oi := { dst := some 16, op := Op.load 39 (Operand.tmp 5), type := 39, pos := "play.go:77", after := #[], guard := none }) (v := ?_) rfl (by kernel_rfl) (by kernel_rfl) (by kernel_rfl) (fun _ _ _ h => h) (Or.inl ⟨by rfl, ?_⟩) (by assumption) ?_
    rotate_left
    · (intro wz hSw; (try dsimp only at hSw); go_simp; try with_reducible rfl)
    simp only [Act.put, List.setIfInBounds_toArray, List.set_cons_zero, List.set_cons_succ]
    refine wpAnyH_take (i := 11) (oi := { dst := some 17, op := Op.build 100 #[(0, Operand.tmp 14), (1, Operand.tmp 15), (2, Operand.tmp 16)], type := 100, pos := "play.go:77", after := #[{ on := 8, ground := Ground.data }, { on := 9, ground := Ground.data }, { on := 10, ground := Ground.data }], guard := none }) (v := ?_) rfl (by kernel_rfl) (by kernel_rfl) (by kernel_rfl) (fun _ _ _ h => h) (Or.inl ⟨by rfl, ?_⟩) (by assumption) ?_
    rotate_left
    · (intro wz hSw; (try dsimp only at hSw); go_simp; try with_reducible rfl)
    simp only [Act.put, List.setIfInBounds_toArray, List.set_cons_zero, List.set_cons_succ]
    refine wpAnyH_ready (rs := [4, 12]) (by kernel_rfl) (by simp) ?_
    refine AllReadyH.cons (o := { dst := some 10, op := Op.load 84 (Operand.tmp 9), type := 84, pos := "play.go:77", after := #[{ on := 3, ground := Ground.data }], guard := none }) rfl (fun K hK => ?_) ?_
    · go_simp
      refine hK.out _ _ ?_ (fun hHeld2 => ?_)
      · (try dsimp only); (first | with_reducible exact HS0.out | with_reducible exact HS1.out | with_reducible exact HS2.out | with_reducible exact HS3.out | go_keep)
      clear hK K
      try simp only [Act.put, List.setIfInBounds_toArray, List.set_cons_zero, List.set_cons_succ]
      refine wpAnyH_ready (rs := [12]) (by kernel_rfl) (by simp) ?_
      refine AllReadyH.cons (o := { dst := some 18, op := Op.buildSlice 84 1 #[(0, Operand.tmp 17)], type := 84, pos := "play.go:77", after := #[{ on := 11, ground := Ground.data }], guard := none }) rfl (fun K hK => ?_) ?_
      · go_simp
        refine hK.out _ _ ?_ (fun hHeld2 => ?_)
        · (try dsimp only); (first | with_reducible exact HS0.out | with_reducible exact HS1.out | with_reducible exact HS2.out | with_reducible exact HS3.out | go_keep)
        clear hK K
        try simp only [Act.put, List.setIfInBounds_toArray, List.set_cons_zero, List.set_cons_succ]
        refine wpAnyH_ready (rs := [13]) (by kernel_rfl) (by simp) ?_
        refine AllReadyH.cons (o := { dst := some 19, op := Op.call { callee := Callee.builtin Builtin.append, args := #[Operand.tmp 10, Operand.tmp 18], argTypes := #[84, 84] }, type := 84, pos := "play.go:77", after := #[{ on := 4, ground := Ground.data }, { on := 12, ground := Ground.data }], guard := none }) rfl (fun K hK => ?_) ?_
        · refine step_append_run rfl (.tmp 10) (.tmp 18) 84 84 rfl (by simp [Act.eval]) (by simp [Act.eval]) hr ?_
          refine hK.out _ _ ?_ (fun hHeld2 => ?_)
          · (try dsimp only); (first | with_reducible exact HS0.out | with_reducible exact HS1.out | with_reducible exact HS2.out | with_reducible exact HS3.out | go_keep)
          clear hK K
          try simp only [Act.put, List.setIfInBounds_toArray, List.set_cons_zero, List.set_cons_succ]
          refine wpAnyH_take (i := 14) (oi := { dst := some 20, op := Op.nilCheck (Operand.tmp 6), type := 0, pos := "play.go:77", after := #[{ on := 0, ground := Ground.data }, { on := 0, ground := Ground.phase }, { on := 1, ground := Ground.phase }, { on := 2, ground := Ground.phase }, { on := 3, ground := Ground.phase }, { on := 4, ground := Ground.phase }, { on := 5, ground := Ground.phase }, { on := 6, ground := Ground.phase }, { on := 7, ground := Ground.phase }, { on := 8, ground := Ground.phase }, { on := 9, ground := Ground.phase }, { on := 10, ground := Ground.phase }, { on := 11, ground := Ground.phase }, { on := 12, ground := Ground.phase }, { on := 13, ground := Ground.phase }], guard := none }) (v := ?_) rfl (by kernel_rfl) (by kernel_rfl) (by kernel_rfl) (fun _ _ _ h => h) (Or.inl ⟨by rfl, ?_⟩) (by assumption) ?_
          rotate_left
          · (intro wz hSw; (try dsimp only at hSw); go_simp; try with_reducible rfl)
          simp only [Act.put, List.setIfInBounds_toArray, List.set_cons_zero, List.set_cons_succ]
          refine wpAnyH_take (i := 15) (oi := { dst := some 21, op := Op.fieldAddr 86 (Operand.tmp 20) 3, type := 0, pos := "play.go:77", after := #[{ on := 14, ground := Ground.data }, { on := 0, ground := Ground.phase }, { on := 1, ground := Ground.phase }, { on := 2, ground := Ground.phase }, { on := 3, ground := Ground.phase }, { on := 4, ground := Ground.phase }, { on := 5, ground := Ground.phase }, { on := 6, ground := Ground.phase }, { on := 7, ground := Ground.phase }, { on := 8, ground := Ground.phase }, { on := 9, ground := Ground.phase }, { on := 10, ground := Ground.phase }, { on := 11, ground := Ground.phase }, { on := 12, ground := Ground.phase }, { on := 13, ground := Ground.phase }], guard := none }) (v := ?_) rfl (by kernel_rfl) (by kernel_rfl) (by kernel_rfl) (fun _ _ _ h => h) (Or.inl ⟨by rfl, ?_⟩) (by assumption) ?_
          rotate_left
          · (intro wz hSw; (try dsimp only at hSw); go_simp; try with_reducible rfl)
          simp only [Act.put, List.setIfInBounds_toArray, List.set_cons_zero, List.set_cons_succ]
          refine wpAnyH_ready (rs := [16]) (by kernel_rfl) (by simp) ?_
          refine AllReadyH.cons (o := { dst := none, op := Op.store 84 (Operand.tmp 21) (Operand.tmp 19), type := 0, pos := "play.go:77", after := #[{ on := 15, ground := Ground.data }, { on := 13, ground := Ground.data }, { on := 13, ground := Ground.chain }, { on := 0, ground := Ground.phase }, { on := 1, ground := Ground.phase }, { on := 2, ground := Ground.phase }, { on := 3, ground := Ground.phase }, { on := 4, ground := Ground.phase }, { on := 5, ground := Ground.phase }, { on := 6, ground := Ground.phase }, { on := 7, ground := Ground.phase }, { on := 8, ground := Ground.phase }, { on := 9, ground := Ground.phase }, { on := 10, ground := Ground.phase }, { on := 11, ground := Ground.phase }, { on := 12, ground := Ground.phase }, { on := 13, ground := Ground.phase }], guard := none }) rfl (fun K hK => ?_) ?_
          · go_simp
            refine hK.out _ _ ?_ (fun hHeld2 => ?_)
            · (try dsimp only); (first | with_reducible exact HS0.out | with_reducible exact HS1.out | with_reducible exact HS2.out | with_reducible exact HS3.out | go_keep)
            clear hK K
            try simp only [Act.put, List.setIfInBounds_toArray, List.set_cons_zero, List.set_cons_succ]
            refine wpAnyH_done (by kernel_rfl) ?_ _
            go_wp2_with fail
            go_meet
            rfl
          exact AllReadyH.nil
        exact AllReadyH.nil
      exact AllReadyH.nil
    refine AllReadyH.cons (o := { dst := some 18, op := Op.buildSlice 84 1 #[(0, Operand.tmp 17)], type := 84, pos := "play.go:77", after := #[{ on := 11, ground := Ground.data }], guard := none }) rfl (fun K hK => ?_) ?_
    · go_simp
      refine hK.out _ _ ?_ (fun hHeld2 => ?_)
      · (try dsimp only); (first | with_reducible exact HS0.out | with_reducible exact HS1.out | with_reducible exact HS2.out | with_reducible exact HS3.out | go_keep)
      clear hK K
      try simp only [Act.put, List.setIfInBounds_toArray, List.set_cons_zero, List.set_cons_succ]
      refine wpAnyH_ready (rs := [4]) (by kernel_rfl) (by simp) ?_
      refine AllReadyH.cons (o := { dst := some 10, op := Op.load 84 (Operand.tmp 9), type := 84, pos := "play.go:77", after := #[{ on := 3, ground := Ground.data }], guard := none }) rfl (fun K hK => ?_) ?_
      · go_simp
        refine hK.out _ _ ?_ (fun hHeld2 => ?_)
        · (try dsimp only); (first | with_reducible exact HS0.out | with_reducible exact HS1.out | with_reducible exact HS2.out | with_reducible exact HS3.out | go_keep)
        clear hK K
        try simp only [Act.put, List.setIfInBounds_toArray, List.set_cons_zero, List.set_cons_succ]
        refine wpAnyH_ready (rs := [13]) (by kernel_rfl) (by simp) ?_
        refine AllReadyH.cons (o := { dst := some 19, op := Op.call { callee := Callee.builtin Builtin.append, args := #[Operand.tmp 10, Operand.tmp 18], argTypes := #[84, 84] }, type := 84, pos := "play.go:77", after := #[{ on := 4, ground := Ground.data }, { on := 12, ground := Ground.data }], guard := none }) rfl (fun K hK => ?_) ?_
        · refine step_append_run rfl (.tmp 10) (.tmp 18) 84 84 rfl (by simp [Act.eval]) (by simp [Act.eval]) hr ?_
          refine hK.out _ _ ?_ (fun hHeld2 => ?_)
          · (try dsimp only); (first | with_reducible exact HS0.out | with_reducible exact HS1.out | with_reducible exact HS2.out | with_reducible exact HS3.out | go_keep)
          clear hK K
          try simp only [Act.put, List.setIfInBounds_toArray, List.set_cons_zero, List.set_cons_succ]
          refine wpAnyH_take (i := 14) (oi := { dst := some 20, op := Op.nilCheck (Operand.tmp 6), type := 0, pos := "play.go:77", after := #[{ on := 0, ground := Ground.data }, { on := 0, ground := Ground.phase }, { on := 1, ground := Ground.phase }, { on := 2, ground := Ground.phase }, { on := 3, ground := Ground.phase }, { on := 4, ground := Ground.phase }, { on := 5, ground := Ground.phase }, { on := 6, ground := Ground.phase }, { on := 7, ground := Ground.phase }, { on := 8, ground := Ground.phase }, { on := 9, ground := Ground.phase }, { on := 10, ground := Ground.phase }, { on := 11, ground := Ground.phase }, { on := 12, ground := Ground.phase }, { on := 13, ground := Ground.phase }], guard := none }) (v := ?_) rfl (by kernel_rfl) (by kernel_rfl) (by kernel_rfl) (fun _ _ _ h => h) (Or.inl ⟨by rfl, ?_⟩) (by assumption) ?_
          rotate_left
          · (intro wz hSw; (try dsimp only at hSw); go_simp; try with_reducible rfl)
          simp only [Act.put, List.setIfInBounds_toArray, List.set_cons_zero, List.set_cons_succ]
          refine wpAnyH_take (i := 15) (oi := { dst := some 21, op := Op.fieldAddr 86 (Operand.tmp 20) 3, type := 0, pos := "play.go:77", after := #[{ on := 14, ground := Ground.data }, { on := 0, ground := Ground.phase }, { on := 1, ground := Ground.phase }, { on := 2, ground := Ground.phase }, { on := 3, ground := Ground.phase }, { on := 4, ground := Ground.phase }, { on := 5, ground := Ground.phase }, { on := 6, ground := Ground.phase }, { on := 7, ground := Ground.phase }, { on := 8, ground := Ground.phase }, { on := 9, ground := Ground.phase }, { on := 10, ground := Ground.phase }, { on := 11, ground := Ground.phase }, { on := 12, ground := Ground.phase }, { on := 13, ground := Ground.phase }], guard := none }) (v := ?_) rfl (by kernel_rfl) (by kernel_rfl) (by kernel_rfl) (fun _ _ _ h => h) (Or.inl ⟨by rfl, ?_⟩) (by assumption) ?_
          rotate_left
          · (intro wz hSw; (try dsimp only at hSw); go_simp; try with_reducible rfl)
          simp only [Act.put, List.setIfInBounds_toArray, List.set_cons_zero, List.set_cons_succ]
          refine wpAnyH_ready (rs := [16]) (by kernel_rfl) (by simp) ?_
          refine AllReadyH.cons (o := { dst := none, op := Op.store 84 (Operand.tmp 21) (Operand.tmp 19), type := 0, pos := "play.go:77", after := #[{ on := 15, ground := Ground.data }, { on := 13, ground := Ground.data }, { on := 13, ground := Ground.chain }, { on := 0, ground := Ground.phase }, { on := 1, ground := Ground.phase }, { on := 2, ground := Ground.phase }, { on := 3, ground := Ground.phase }, { on := 4, ground := Ground.phase }, { on := 5, ground := Ground.phase }, { on := 6, ground := Ground.phase }, { on := 7, ground := Ground.phase }, { on := 8, ground := Ground.phase }, { on := 9, ground := Ground.phase }, { on := 10, ground := Ground.phase }, { on := 11, ground := Ground.phase }, { on := 12, ground := Ground.phase }, { on := 13, ground := Ground.phase }], guard := none }) rfl (fun K hK => ?_) ?_
          · go_simp
            refine hK.out _ _ ?_ (fun hHeld2 => ?_)
            · (try dsimp only); (first | with_reducible exact HS0.out | with_reducible exact HS1.out | with_reducible exact HS2.out | with_reducible exact HS3.out | go_keep)
            clear hK K
            try simp only [Act.put, List.setIfInBounds_toArray, List.set_cons_zero, List.set_cons_succ]
            refine wpAnyH_done (by kernel_rfl) ?_ _
            go_wp2_with fail
            go_meet
            rfl
          exact AllReadyH.nil
        exact AllReadyH.nil
      exact AllReadyH.nil
    exact AllReadyH.nil
  case rest =>
    subst hcut
    go_wp2_with fail
    go_end0
    exact ⟨rfl, _, HE.out⟩
end Go.Proofs.Ytlligclkoecknaa
