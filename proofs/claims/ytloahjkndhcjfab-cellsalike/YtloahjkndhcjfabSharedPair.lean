import Derived.Test.YtloahjkndhcjfabSharedHolds
/-! Two Shared beside two of the document's arenas. -/
namespace Go.Proofs.Ytloahjkndhcjfab
open Go.RowKit Go.HeapKit

theorem sh_ref_apart {w : World} {sv : Value} {F : Nat → Prop} {A A' : Ar} {q : Nat} {vh vb : Value} (h : IsSh w sv F A) (r : IsRef w q vh vb A') {k : Nat} (hk : F k) : ¬ Foot q vh vb k := by
  rcases h.ex with ⟨_, _, hn⟩ | ⟨p, vs, _, hs, hF⟩
  · exact absurd hk (hn k)
  · have hT : ∃ c, w.heap[k]? = some (.cells c 68 (0, 0)) ∨ w.heap[k]? = some (.cells c 55 (0, 0)) := by
      rcases (hF k).1 hk with rfl | e
      · exact ⟨_, .inl hs.blk⟩
      · obtain ⟨c, hc⟩ := own_block hs.row e
        exact ⟨c, .inr hc⟩
    obtain ⟨c, hT⟩ := hT
    rintro (rfl | e | e)
    · rcases hT with hT | hT <;> (rw [r.blk] at hT; simp at hT)
    · rcases hT with hT | hT <;> exact absurd (own_type r.cells e hT) (by decide)
    · rcases hT with hT | hT <;> exact absurd (own_type r.log e hT) (by decide)

def upd (f : Bool → Ar) (c : Bool) (X : Ar) : Bool → Ar := fun d => if d = c then X else f d
theorem upd_same (f : Bool → Ar) (c : Bool) (X : Ar) : upd f c X c = X := by simp [upd]
theorem upd_other (f : Bool → Ar) (c : Bool) (X : Ar) : upd f c X (!c) = f (!c) := by cases c <;> simp [upd]

structure Pair (B : Nat) (w : World) (sv : Bool → Value) (F : Bool → Nat → Prop) (q : Bool → Nat) (S R : Bool → Ar) : Prop where
  sh : ∀ c, IsSh w (sv c) (F c) (S c)
  rf : ∃ vh vb : Bool → Value, (∀ c, IsRef w (q c) (vh c) (vb c) (R c)) ∧ (∀ c k, Foot (q c) (vh c) (vb c) k → ¬ Foot (q (!c)) (vh (!c)) (vb (!c)) k) ∧ (∀ c k, Foot (q c) (vh c) (vb c) k → B ≤ k)
  apF : ∀ c k, F c k → ¬ F (!c) k
  lowF : ∀ c k, F c k → B ≤ k
  size : B ≤ w.heap.size
section
variable {B : Nat} {w w' : World} {sv : Bool → Value} {F : Bool → Nat → Prop} {q : Bool → Nat} {S R : Bool → Ar}
theorem other_of {c d : Bool} (h : d ≠ c) : d = !c := by cases c <;> cases d <;> simp_all
theorem Pair.kept {T : Nat → Prop} (h : Pair B w sv F q S R) (hk : Keeps T w w') (hT : ∀ k, T k → w.heap.size ≤ k) : Pair B w' sv F q S R ∧ Below B w w' := by
  obtain ⟨vh, vb, hr, ha, hl⟩ := h.rf
  refine ⟨⟨fun c => (h.sh c).kept hk (fun k f t => by have := (h.sh c).lt f; have := hT k t; omega), ⟨vh, vb, fun c => (hr c).kept hk (fun k f t => by have := (hr c).foot_lt f; have := hT k t; omega), ha, hl⟩, h.apF, h.lowF, Nat.le_trans h.size hk.size⟩, ?_⟩
  exact hk.below B h.size (fun k t => by have := hT k t; have := h.size; omega)
theorem Pair.alloc (h : Pair B w sv F q S R) (o : Obj) : Pair B (w.alloc o) sv F q S R ∧ Below B w (w.alloc o) := h.kept (Keeps.alloc None w o) (fun _ f => f.elim)
/-- A step of one of the Shared. -/
theorem Pair.step (h : Pair B w sv F q S R) (c : Bool) {X : Ar} (h1 : IsSh w' (sv c) (F c) X) (hk : Keeps (F c) w w') : Pair B w' sv F q (upd S c X) R ∧ Below B w w' := by
  obtain ⟨vh, vb, hr, ha, hl⟩ := h.rf
  refine ⟨⟨fun d => ?_, ⟨vh, vb, fun d => (hr d).kept hk (fun k f g => sh_ref_apart (h.sh c) (hr d) g f), ha, hl⟩, h.apF, h.lowF, Nat.le_trans h.size hk.size⟩, hk.below B h.size (h.lowF c)⟩
  by_cases hd : d = c
  · subst hd
    rw [upd_same]
    exact h1
  · rw [other_of hd, upd_other]
    exact (h.sh (!c)).kept hk (fun k f g => h.apF c k g f)
/-- A step of one of the document's. -/
theorem Pair.ref (h : Pair B w sv F q S R) (c : Bool) : ∃ vh vb, IsRef w (q c) vh vb (R c) ∧ ∀ w' X, RAfter w w' (q c) vh vb X → Pair B w' sv F q S (upd R c X) ∧ Below B w w' := by
  obtain ⟨vh, vb, hr, ha, hl⟩ := h.rf
  refine ⟨vh c, vb c, hr c, ?_⟩
  rintro w' X ⟨vc', vl', h1, hk, mc, ml⟩
  have hin : ∀ k, Foot (q c) vc' vl' k → Foot (q c) (vh c) (vb c) k ∨ w.heap.size ≤ k := by
    rintro k (rfl | e | e)
    · exact .inl (.inl rfl)
    · rcases mc with mc | ⟨g, mc, hg⟩
      · exact .inl (.inr (.inl (mc ▸ e)))
      · rw [mc] at e; injection e with e; exact .inr (by omega)
    · rcases ml with ml | ⟨g, ml, hg⟩
      · exact .inl (.inr (.inr (ml ▸ e)))
      · rw [ml] at e; injection e with e; exact .inr (by omega)
  refine ⟨⟨fun d => (h.sh d).kept hk (fun k f g => sh_ref_apart (h.sh d) (hr c) f g), ⟨fun d => if d = c then vc' else vh d, fun d => if d = c then vl' else vb d, ?_, ?_, ?_⟩, h.apF, h.lowF, Nat.le_trans h.size hk.size⟩, hk.below B h.size (hl c)⟩
  · intro d
    by_cases hd : d = c
    · subst hd
      rw [upd_same]
      simpa using h1
    · rw [other_of hd, upd_other]
      simpa using (hr (!c)).kept hk (fun k f g => ha c k g f)
  · intro d k hk1 hk2
    by_cases hd : d = c
    · subst hd
      simp only [if_true] at hk1
      simp only [show ((!d) = d) = False by simp, if_false] at hk2
      rcases hin k hk1 with h3 | h3
      · exact ha d k h3 hk2
      · have := (hr (!d)).foot_lt hk2; omega
    · have hd2 : (!d) = c := by cases d <;> cases c <;> simp_all
      simp only [hd, if_false] at hk1
      subst hd2
      simp only [if_true] at hk2
      rcases hin k hk2 with h3 | h3
      · exact ha d k hk1 h3
      · have := (hr d).foot_lt hk1; omega
  · intro d k hk1
    by_cases hd : d = c
    · subst hd
      simp only [if_true] at hk1
      rcases hin k hk1 with h3 | h3
      · exact hl d k h3
      · exact Nat.le_trans h.size h3
    · simp only [hd, if_false] at hk1
      exact hl d k hk1
end
theorem Ar.did_log {A : Ar} (h : A.on = false) (k x a b : Int) : (A.did k x a b).2.log = A.log := by
  unfold Ar.did
  repeat' split
  all_goals first | rfl | (simp only [noted_off h]; done) | (simp only [put_off h]; rfl) | (simp only [more_off h]; rfl)

theorem pair_new {w w1 w2 w3 w4 : World} {m0 m1 : Nat} {sv0 sv1 : Value} {F0 F1 : Nat → Prop} (hr0 : IsRef w1 w.heap.size (.slice none 0 0) (.slice none 0 0) (Ar.new m0)) (hk1 : Keeps None w w1)
    (hr1 : IsRef w2 w1.heap.size (.slice none 0 0) (.slice none 0 0) (Ar.new m1)) (hk2 : Keeps None w1 w2) (hs0 : IsSh w3 sv0 F0 (Ar.new m0)) (hk3 : Keeps None w2 w3) (hF0 : ∀ k, F0 k → w2.heap.size ≤ k)
    (hs1 : IsSh w4 sv1 F1 (Ar.new m1)) (hk4 : Keeps None w3 w4) (hF1 : ∀ k, F1 k → w3.heap.size ≤ k) :
    Pair w.heap.size w4 (fun c => if c then sv1 else sv0) (fun c => if c then F1 else F0) (fun c => if c then w1.heap.size else w.heap.size) (fun c => if c then Ar.new m1 else Ar.new m0) (fun c => if c then Ar.new m1 else Ar.new m0) ∧ Below w.heap.size w w4 := by
  have s1 := hk1.size
  have s2 := hk2.size
  have s3 := hk3.size
  have s4 := hk4.size
  have l0 := hr0.lt
  have foot : ∀ {p k : Nat}, Foot p (.slice none 0 0) (.slice none 0 0) k → k = p := by
    rintro p k (rfl | e | e)
    · rfl
    · simp [Value.ownBlock] at e
    · simp [Value.ownBlock] at e
  refine ⟨⟨?_, ⟨fun _ => .slice none 0 0, fun _ => .slice none 0 0, ?_, ?_, ?_⟩, ?_, ?_, by omega⟩, (((hk1.trans hk2 (fun _ f _ => f)).trans hk3 (fun _ f _ => f)).trans hk4 (fun _ f _ => f)).below _ (Nat.le_refl _) (fun _ f => f.elim)⟩
  · intro c
    cases c
    · exact hs0.kept hk4 (fun _ _ f => f)
    · exact hs1
  · intro c
    cases c
    · exact ((hr0.kept hk2 (fun _ _ f => f)).kept hk3 (fun _ _ f => f)).kept hk4 (fun _ _ f => f)
    · exact (hr1.kept hk3 (fun _ _ f => f)).kept hk4 (fun _ _ f => f)
  · intro c k h1 h2
    have e1 := foot h1
    have e2 := foot h2
    cases c <;> simp at e1 e2 <;> omega
  · intro c k h1
    have e1 := foot h1
    cases c <;> simp at e1 <;> omega
  · intro c k h1 h2
    cases c
    · have := hF1 k h2; have := hs0.lt h1; omega
    · have := hF1 k h1; have := hs0.lt h2; omega
  · intro c k h1
    cases c
    · have := hF0 k h1; omega
    · have := hF1 k h1; omega

/-- What is of another type stands. -/
theorem sh_keep {w w' : World} {sv : Value} {F : Nat → Prop} {A : Ar} {k : Nat} {cs : Array Value} {T : TypeId} {fz : Nat × Nat} (h : IsSh w sv F A) (hk : Keeps F w w') (hb : w.heap[k]? = some (.cells cs T fz))
    (h1 : T ≠ 68) (h2 : T ≠ 55) : w'.heap[k]? = some (.cells cs T fz) := by
  refine (hk.block k (Array.getElem?_eq_some_iff.1 hb).1 (fun f => ?_)).trans hb
  rcases h.ex with ⟨_, _, hn⟩ | ⟨p, vs, _, hs, hF⟩
  · exact hn k f
  · rcases (hF k).1 f with rfl | e
    · rw [hs.blk] at hb; simp at hb; exact h1 hb.2.1.symm
    · exact h2 (own_type hs.row e hb).symm
theorem rf_keep {w w' : World} {q : Nat} {vh vb : Value} {A X : Ar} {k : Nat} {cs : Array Value} {T : TypeId} {fz : Nat × Nat} (h : IsRef w q vh vb A) (hA : RAfter w w' q vh vb X) (hb : w.heap[k]? = some (.cells cs T fz))
    (h1 : T ≠ 46) (h2 : T ≠ 2) (h3 : T ≠ 114) : w'.heap[k]? = some (.cells cs T fz) := by
  obtain ⟨_, _, _, hk, _⟩ := hA
  refine (hk.block k (Array.getElem?_eq_some_iff.1 hb).1 (fun f => ?_)).trans hb
  rcases f with rfl | e | e
  · rw [h.blk] at hb; simp at hb; exact h1 hb.2.1.symm
  · exact h2 (own_type h.cells e hb).symm
  · exact h3 (own_type h.log e hb).symm
theorem none_keep {w w' : World} {k : Nat} {o : Obj} (hk : Keeps None w w') (hb : w.heap[k]? = some o) : w'.heap[k]? = some o := (hk.block k (Array.getElem?_eq_some_iff.1 hb).1 (fun f => f)).trans hb
theorem alloc_keep {w : World} {k : Nat} {o : Obj} (hb : w.heap[k]? = some o) (o2 : Obj) : (w.alloc o2).heap[k]? = some o := none_keep (Keeps.alloc None w o2) hb
end Go.Proofs.Ytloahjkndhcjfab
