import Derived.Test.YtaipeclmfgdegaaNoteWalks
/-! The document's arena, in memory. -/
namespace Go.Proofs.Ytaipeclmfgdegaa
open Go.RowKit Go.HeapKit

structure IsRef (w : World) (p : Nat) (vc vl : Value) (A : Ar) : Prop where
  blk : w.heap[p]? = some (.cells #[.int .i64 A.size, vc, .bool A.on, .int .i64 A.actor, vl] 34 (0, 0))
  cells : w.ownsRow 0 2 1 vc A.cells.length (A.cells.map (Value.int .i64))
  log : w.ownsRow 0 89 6 vl A.log.length (logVals A.log)
  fit : A.cells.length ≤ A.size ∧ A.size ≤ 1048576

section
variable {w : World} {p : Nat} {vc vl : Value} {A : Ar}
theorem IsRef.lt (h : IsRef w p vc vl A) : p < w.heap.size := (Array.getElem?_eq_some_iff.1 h.blk).1
theorem IsRef.foot_lt (h : IsRef w p vc vl A) {k : Nat} (hk : Foot p vc vl k) : k < w.heap.size := by
  rcases hk with rfl | hk | hk
  · exact h.lt
  · exact own_lt h.cells hk
  · exact own_lt h.log hk
theorem IsRef.ncp (h : IsRef w p vc vl A) : vc.ownBlock ≠ some p := fun e => absurd (own_type h.cells e h.blk) (by decide)
theorem IsRef.nlp (h : IsRef w p vc vl A) : vl.ownBlock ≠ some p := fun e => absurd (own_type h.log e h.blk) (by decide)
theorem IsRef.ncl (h : IsRef w p vc vl A) {g : Nat} (hg : vc.ownBlock = some g) : vl.ownBlock ≠ some g := own_apart h.cells h.log (by decide) hg
theorem IsRef.c0 (h : IsRef w p vc vl A) : w.cell? ⟨p, 0, none⟩ = some (.int .i64 A.size) := by rw [cell_of_block h.blk]; rfl
theorem IsRef.c1 (h : IsRef w p vc vl A) : w.cell? ⟨p, 1, none⟩ = some vc := by rw [cell_of_block h.blk]; rfl
theorem IsRef.c2 (h : IsRef w p vc vl A) : w.cell? ⟨p, 2, none⟩ = some (.bool A.on) := by rw [cell_of_block h.blk]; rfl
theorem IsRef.c3 (h : IsRef w p vc vl A) : w.cell? ⟨p, 3, none⟩ = some (.int .i64 A.actor) := by rw [cell_of_block h.blk]; rfl
theorem IsRef.c4 (h : IsRef w p vc vl A) : w.cell? ⟨p, 4, none⟩ = some vl := by rw [cell_of_block h.blk]; rfl
theorem IsRef.free (h : IsRef w p vc vl A) (i : Nat) : w.frozen? ⟨p, i, none⟩ = false := free_of_block h.blk i
theorem IsRef.kept {w' : World} {S : Nat → Prop} (h : IsRef w p vc vl A) (hk : Keeps S w w') (hS : ∀ k, Foot p vc vl k → ¬ S k) : IsRef w' p vc vl A :=
  ⟨(hk.block p h.lt (hS p (.inl rfl))).trans h.blk, hk.own h.cells (fun k e => hS k (.inr (.inl e))), hk.own h.log (fun k e => hS k (.inr (.inr e))), h.fit⟩
theorem IsRef.alloc (h : IsRef w p vc vl A) (o : Obj) : IsRef (w.alloc o) p vc vl A := h.kept (Keeps.alloc None w o) (fun _ _ f => f)
theorem IsRef.drew (h : IsRef w p vc vl A) : IsRef w.drew p vc vl A := h.kept (Keeps.drew None w) (fun _ _ f => f)
theorem IsRef.at (h : IsRef w p vc vl A) (k : Nat) (hk : k < A.cells.length) :
    ∃ g cap, vc = .slice (some ⟨g, 0, none⟩) A.cells.length cap ∧ A.cells.length ≤ cap ∧ g ≠ p ∧ w.cell? ⟨g, k, none⟩ = some (.int .i64 (A.cells.getD k 0)) ∧ w.frozen? ⟨g, k, none⟩ = false := by
  have hc := h.cells
  rcases hc.2 with ⟨_, h0⟩ | ⟨g, cap, cur, rfl, _, hg, hn, _, hcs, ht⟩
  · omega
  · refine ⟨g, cap, rfl, hn, fun e => h.ncp (by rw [← e]; rfl), ?_, free_of_block hg k⟩
    have hu := hc.cells (g := g) rfl k (.int .i64 (A.cells.getD k 0)) (by simp [List.getD, hk])
    rwa [show (⟨g, 0, none⟩ : Addr).add k = ⟨g, k, none⟩ by unfold Addr.add; split <;> simp_all] at hu
theorem IsRef.put (h : IsRef w p vc vl A) (k : Nat) {g cap : Nat} (hv : vc = .slice (some ⟨g, 0, none⟩) A.cells.length cap) (v : Int) :
    IsRef (w.setCell ⟨g, k, none⟩ (.int .i64 v)) p vc vl (A.put k v) := by
  have hgp : g ≠ p := fun e => h.ncp (by rw [hv, ← e]; rfl)
  have hl : vl.ownBlock ≠ some g := h.ncl (by rw [hv]; rfl)
  have hkp : Keeps (· = g) w (w.setCell ⟨g, k, none⟩ (.int .i64 v)) := Keeps.setCell (S := (· = g)) w (a := ⟨g, k, none⟩) rfl _
  refine ⟨?_, ?_, hkp.own h.log (fun i hi e => hl (e ▸ hi)), by simpa [Ar.put] using h.fit⟩
  · rw [hkp.block p h.lt (fun e => hgp e.symm), h.blk]
    simp [Ar.put]
  · have := h.cells
    subst hv
    have := own_set this k (.int .i64 v)
    simpa [Ar.put, List.map_set] using this
theorem IsRef.logged {w1 : World} {vl' : Value} {x : Acc} {S : Nat → Prop} (h : IsRef w p vc vl A) (hk : Keeps S w w1) (hS : ∀ k, S k → vl.ownBlock = some k) (ho : w1.ownsRow 0 89 6 vl' (A.log.length + 1) (logVals A.log ++ x.vals)) :
    IsRef (w1.setCell ⟨p, 4, none⟩ vl') p vc vl' { A with log := A.log ++ [x] } := by
  have hb : w1.heap[p]? = _ := (hk.block p h.lt (fun s => h.nlp (hS p s))).trans h.blk
  have hkp : Keeps (· = p) w1 (w1.setCell ⟨p, 4, none⟩ vl') := Keeps.setCell (S := (· = p)) w1 (a := ⟨p, 4, none⟩) rfl _
  have hc1 : w1.ownsRow 0 2 1 vc A.cells.length (A.cells.map (Value.int .i64)) := hk.own h.cells (fun k e s => h.ncl e (hS k s))
  have hlp : ∀ k, vl'.ownBlock = some k → k ≠ p := fun k e e2 => by
    subst e2
    exact absurd (own_type ho e hb) (by decide)
  refine ⟨(setCell_block hb vl').trans rfl, hkp.own hc1 (fun k e e2 => h.ncp (e2 ▸ e)), ?_, h.fit⟩
  have := hkp.own ho hlp
  simpa [logVals] using this
/-- The cells, one zero longer. -/
theorem IsRef.longer {w1 : World} {vc' : Value} {S : Nat → Prop} (h : IsRef w p vc vl A) (hk : Keeps S w w1) (hS : ∀ k, S k → vc.ownBlock = some k) (hfit : A.cells.length < A.size)
    (ho : w1.ownsRow 0 2 1 vc' (A.cells.length + 1) (A.cells.map (Value.int .i64) ++ [.int .i64 0])) :
    IsRef (w1.setCell ⟨p, 1, none⟩ vc') p vc' vl (A.more 1) := by
  have hb : w1.heap[p]? = _ := (hk.block p h.lt (fun s => h.ncp (hS p s))).trans h.blk
  have hkp : Keeps (· = p) w1 (w1.setCell ⟨p, 1, none⟩ vc') := Keeps.setCell (S := (· = p)) w1 (a := ⟨p, 1, none⟩) rfl _
  have hl1 := hk.own h.log (fun k e s => h.ncl (hS k s) e)
  have hlp : ∀ k, vc'.ownBlock = some k → k ≠ p := fun k e e2 => by
    subst e2
    exact absurd (own_type ho e hb) (by decide)
  refine ⟨(setCell_block hb vc').trans (by simp [Ar.more]), ?_, hkp.own hl1 (fun k e e2 => h.nlp (e2 ▸ e)), by have := h.fit; simp [Ar.more]; omega⟩
  have := hkp.own ho hlp
  simpa [Ar.more] using this
end

/-- What comes of the document's arena. -/
def RAfter (w w' : World) (p : Nat) (vc vl : Value) (A : Ar) : Prop := ∃ vc' vl', IsRef w' p vc' vl' A ∧ Keeps (Foot p vc vl) w w' ∧ Moved w vc vc' ∧ Moved w vl vl'
theorem RAfter.trans {w w1 w2 : World} {p : Nat} {vc vl vc1 vl1 : Value} {A : Ar} (hk : Keeps (Foot p vc vl) w w1) (mc : Moved w vc vc1) (ml : Moved w vl vl1) (h : RAfter w1 w2 p vc1 vl1 A) : RAfter w w2 p vc vl A := by
  obtain ⟨vc', vl', hA, hk2, mc2, ml2⟩ := h
  refine ⟨vc', vl', hA, hk.trans hk2 ?_, mc.trans mc2 hk.size, ml.trans ml2 hk.size⟩
  intro i hi hlt
  rcases hi with rfl | hi | hi
  · exact .inl rfl
  · rcases mc with mc | ⟨g, mc, hg⟩
    · exact .inr (.inl (mc ▸ hi))
    · rw [mc] at hi; injection hi with hi; omega
  · rcases ml with ml | ⟨g, ml, hg⟩
    · exact .inr (.inr (ml ▸ hi))
    · rw [ml] at hi; injection hi with hi; omega
theorem RAfter.same {w : World} {p : Nat} {vc vl : Value} {A : Ar} (h : IsRef w p vc vl A) : RAfter w w p vc vl A := ⟨vc, vl, h, Keeps.refl _ _, .refl _ _, .refl _ _⟩

theorem rnote_off (p : Nat) (vc vl : Value) (A : Ar) (u k d a b : Int) (t : Bool) (w : World) (h : IsRef w p vc vl A) (hon : A.on = false) :
    Calls Try.prog 32 #[.pointer (some ⟨p, 0, none⟩), .agg #[.int .i64 u, .int .i64 k, .int .i64 d, .int .i64 a, .int .i64 b, .bool t]] w fun e w' => e = .returned (.tuple #[]) ∧
      w' = w.alloc (.cells #[.int .i64 u, .int .i64 k, .int .i64 d, .int .i64 a, .int .i64 b, .bool t] 89) := by
  have c3 := (h.alloc (.cells #[.int .i64 u, .int .i64 k, .int .i64 d, .int .i64 a, .int .i64 b, .bool t] 89)).c2
  rw [hon] at c3
  go_enter Try.func32, Try.ntmps32
  go_wp2
  go_end0
  exact ⟨rfl, rfl⟩

/-- The append of a log, whatever arena it is of. -/
theorem row_append (vl : Value) (l : List Acc) (x : Acc) (g ty : Nat) (w : World) (h : w.ownsRow 0 89 6 vl l.length (logVals l)) (hlog : l.length < 1000000000000)
    (hg : w.heap[g]? = some (.cells #[.int .i64 x.who, .int .i64 x.kind, .int .i64 x.addr, .int .i64 x.a, .int .i64 x.b, .bool x.ok] 89 (0, 0))) :
    ∃ b cap w', (Builtin.append_ #[32, 32] ty #[vl, .slice (some ⟨g, 0, none⟩) 1 1]).run Try.prog w = .ok (.slice (some ⟨b, 0, none⟩) (l.length + 1) cap) w' ∧
      w'.ownsRow 0 89 6 (.slice (some ⟨b, 0, none⟩) (l.length + 1) cap) (l.length + 1) (logVals l ++ x.vals) ∧ w.grownBy w' vl.ownBlock ∧ Moved w vl (.slice (some ⟨b, 0, none⟩) (l.length + 1) cap) := by
  obtain ⟨i0, hi, hz0, hz1, hz2⟩ := info_parts Try.infoAcc
  obtain ⟨v', w', hr, ho, hgr, hm, -⟩ := run_append_moved (P := Try.prog) w 0 32 ty 89 i0 _ 6 48 Try.underlying32 hi hz0 hz1 hz2 rfl (by decide) vl l.length (logVals l) h
    ⟨g, 0, none⟩ 1 1 x.vals rfl (by
      intro j u hu
      rw [show (⟨g, 0, none⟩ : Addr).add j = ⟨g, j, none⟩ by unfold Addr.add; split <;> simp_all, cell_of_block hg]
      simpa [Acc.vals] using hu) (by
      intro u hu
      simp [Acc.vals] at hu
      rcases hu with rfl | rfl | rfl | rfl | rfl | rfl <;> rfl) (by unfold maxLen; omega) (by omega) (Nat.zero_le _)
  rcases ho.2 with ⟨_, h0⟩ | ⟨b, cap, cur, rfl, _⟩
  · omega
  · exact ⟨b, cap, w', hr, ho, hgr, hm⟩

set_option maxHeartbeats 1600000 in
theorem rnote_on (p : Nat) (vc vl : Value) (A : Ar) (u k d a b : Int) (t : Bool) (w : World) (h : IsRef w p vc vl A) (hon : A.on = true) (hlog : A.log.length < 1000000000000) :
    Calls Try.prog 32 #[.pointer (some ⟨p, 0, none⟩), .agg #[.int .i64 u, .int .i64 k, .int .i64 d, .int .i64 a, .int .i64 b, .bool t]] w fun e w' => e = .returned (.tuple #[]) ∧
      ∃ vl', IsRef w' p vc vl' { A with log := A.log ++ [⟨u, k, d, a, b, t⟩] } ∧ Keeps (fun i => i = p ∨ vl.ownBlock = some i) w w' ∧ Moved w vl vl' := by
  have h1 := h.alloc (.cells #[.int .i64 u, .int .i64 k, .int .i64 d, .int .i64 a, .int .i64 b, .bool t] 89)
  have c2 := h1.c2
  rw [hon] at c2
  have c5 := h1.c4
  have c6 := (h1.alloc (.cells #[.int .i64 u, .int .i64 k, .int .i64 d, .int .i64 a, .int .i64 b, .bool t] 89)).c4
  have h3 := h1.drew.alloc (.cells #[.int .i64 u, .int .i64 k, .int .i64 d, .int .i64 a, .int .i64 b, .bool t] 89)
  obtain ⟨g, cap, w1, hr, ho, hgr, hm⟩ := row_append vl A.log ⟨u, k, d, a, b, t⟩ (w.heap.size + 1) 32 _ h3.log hlog (new_at _ _ _ (by simp))
  have hk1 : Keeps (fun i => vl.ownBlock = some i) w w1 := ((((Keeps.refl _ w).andAlloc _).andDrew).andAlloc _).andGrown hgr (fun k e => .inl e)
  have hL := h.logged hk1 (fun _ h => h) ho
  have d5 : w1.cell? ⟨p, 4, none⟩ = some vl := hk1.cell h.c4 h.nlp
  have f5 : w1.frozen? ⟨p, 4, none⟩ = false := (World.frozen?_of_block (hk1.block p h.lt h.nlp)).trans (h.free 4)
  have HK : Hid (Keeps (fun i => i = p ∨ vl.ownBlock = some i) w (w1.setCell ⟨p, 4, none⟩ (.slice (some ⟨g, 0, none⟩) (A.log.length + 1) cap))) :=
    (hk1.mono (fun _ h _ => .inr h)).trans (Keeps.setCell (S := fun i => i = p ∨ vl.ownBlock = some i) w1 (a := ⟨p, 4, none⟩) (.inl rfl) _) (fun _ h _ => h)
  have HM : Hid (Moved w vl (.slice (some ⟨g, 0, none⟩) (A.log.length + 1) cap)) := by
    rcases hm with hm | ⟨g', e, hg⟩
    · exact .inl hm
    · exact .inr ⟨g', e, by simp at hg; omega⟩
  have HL : Hid (IsRef (w1.setCell ⟨p, 4, none⟩ (.slice (some ⟨g, 0, none⟩) (A.log.length + 1) cap)) p vc (.slice (some ⟨g, 0, none⟩) (A.log.length + 1) cap) { A with log := A.log ++ [⟨u, k, d, a, b, t⟩] }) := hL
  clear hk1 hL hm ho hgr h3 h1
  go_enter Try.func32, Try.ntmps32
  go_wp2
  go_region_law (refine step_append_run rfl (.tmp 12) (.tmp 14) 32 32 rfl (by simp [Act.eval]) (by simp [Act.eval]) hr ?_)
  all_goals go_end0
  all_goals exact ⟨rfl, _, HL.out, HK.out, HM.out⟩
/-- (The actor is the caller's to name.) -/
theorem rnote_any (p : Nat) (vc vl : Value) (A : Ar) (k d a b : Int) (t : Bool) (w : World) (h : IsRef w p vc vl A) (hlog : A.log.length < 1000000000000) :
    Calls Try.prog 32 #[.pointer (some ⟨p, 0, none⟩), .agg #[.int .i64 A.actor, .int .i64 k, .int .i64 d, .int .i64 a, .int .i64 b, .bool t]] w fun e w' => e = .returned (.tuple #[]) ∧
      RAfter w w' p vc vl (A.noted ⟨0, k, d, a, b, t⟩) := by
  cases hon : A.on with
  | false =>
    refine (rnote_off p vc vl A A.actor k d a b t w h hon).mono ?_
    rintro e w' ⟨rfl, rfl⟩
    refine ⟨rfl, vc, vl, ?_, (Keeps.refl _ _).andAlloc _, .refl _ _, .refl _ _⟩
    simpa [Ar.noted, hon] using h.alloc _
  | true =>
    refine (rnote_on p vc vl A A.actor k d a b t w h hon hlog).mono ?_
    rintro e w' ⟨rfl, vl', hA, hk, hm⟩
    refine ⟨rfl, vc, vl', ?_, hk.mono (fun i hi _ => ?_), .refl _ _, hm⟩
    · simpa [Ar.noted, hon] using hA
    · rcases hi with rfl | hi
      · exact .inl rfl
      · exact .inr (.inr hi)
end Go.Proofs.Ytaipeclmfgdegaa
