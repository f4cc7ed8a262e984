import Derived.Test.YtheginjjncnheaaHiRoom
/-! The walk of HistCut. -/
namespace Go.Proofs.Ytheginjjncnheaa
open Go.RowKit Go.HeapKit

theorem keeps_drewN {w : World} (m : Nat) : Keeps None w (w.drewN m) := ⟨rfl, rfl, rfl, Nat.le_refl _, fun _ _ _ => rfl⟩
/-- The two rows that are written over and made longer, behind the world W. -/
structure TwoRows (W wr : World) (vc vo c o : Value) (m q : Nat) : Prop where
  rc : ∃ l : List Cl, l.length = m ∧ wr.ownsRow 0 49 7 c m (clVals l)
  ro : ∃ l : List Cl, l.length = q ∧ wr.ownsRow 0 49 7 o q (clVals l)
  kp : Keeps (fun k => vc.ownBlock = some k ∨ vo.ownBlock = some k) W wr
  fc : ∀ k, c.ownBlock = some k → vc.ownBlock = some k ∨ W.heap.size ≤ k
  fo : ∀ k, o.ownBlock = some k → vo.ownBlock = some k ∨ W.heap.size ≤ k
  ap : ∀ k, c.ownBlock = some k → o.ownBlock ≠ some k
theorem TwoRows.swap {W wr : World} {vc vo c o : Value} {m q : Nat} (h : TwoRows W wr vc vo c o m q) : TwoRows W wr vo vc o c q m :=
  ⟨h.ro, h.rc, h.kp.mono (fun _ e _ => e.symm), h.fo, h.fc, fun k e1 e2 => h.ap k e2 e1⟩
/-- One of them is written over. -/
theorem TwoRows.put {W wr : World} {vc vo o : Value} {g cap m q : Nat} (h : TwoRows W wr vc vo (.slice (some ⟨g, 0, none⟩) m cap) o m q) {k : Nat} (hk : k < m) (x : Cl) :
    TwoRows W (set7 wr g (k * 7) x) vc vo (.slice (some ⟨g, 0, none⟩) m cap) o m q := by
  obtain ⟨l, hl, hr⟩ := h.rc
  obtain ⟨l2, hl2, hr2⟩ := h.ro
  exact ⟨⟨l.set k x, by simpa using hl, row_set7 hr k (by omega) x⟩, ⟨l2, hl2, row_kept hr2 (keeps_set7 wr g (k * 7) x) (fun b e e2 => h.ap b (by simp [Value.ownBlock, e2]) e)⟩,
    h.kp.trans (keeps_set7 wr g (k * 7) x) (fun i e hi => by subst e; rcases h.fc i rfl with e | e; exact .inl e; omega), h.fc, h.fo, h.ap⟩
/-- One of them is made longer. -/
theorem TwoRows.more {W wr : World} {vc vo c o : Value} {m q : Nat} (h : TwoRows W wr vc vo c o m q) (x : Cl) (hlen : (m + 1) * 56 ≤ 140737488355328) :
    ∃ g cap w', (Builtin.append_ #[27, 27] 27 #[c, .slice (some ⟨wr.heap.size, 0, none⟩) 1 1]).run Try.prog (wr.alloc (.cells #[.int .i64 x.who, .int .i64 x.kind, .int .i64 x.arg, .int .i64 x.beg, .int .i64 x.fin, .int .i64 x.code, .int .i64 x.v] 49)) = .ok (.slice (some ⟨g, 0, none⟩) (m + 1) cap) w' ∧
      TwoRows W w' vc vo (.slice (some ⟨g, 0, none⟩) (m + 1) cap) o (m + 1) q := by
  obtain ⟨l, hl, hr⟩ := h.rc
  obtain ⟨l2, hl2, hr2⟩ := h.ro
  obtain ⟨g, cap, w', hrun, ho, hk, hm⟩ := call_more 0 c l x m 27 wr hl.symm hr (Nat.zero_le _) hlen
  refine ⟨g, cap, w', hrun, ⟨_, by simp [hl], ho⟩, ⟨l2, hl2, row_kept hr2 hk (fun b e e2 => h.ap b e2 e)⟩, h.kp.trans hk (fun i e hi => by rcases h.fc i e with e | e; exact .inl e; omega), ?_, h.fo, ?_⟩
  · intro k e
    simp [Value.ownBlock] at e
    subst e
    rcases hm with e | e
    · exact h.fc g e
    · exact .inr (Nat.le_trans h.kp.size e)
  · intro k e e2
    simp [Value.ownBlock] at e
    subst e
    rcases hm with e | e
    · exact h.ap g e e2
    · have := own_lt hr2 e2
      omega

end Go.Proofs.Ytheginjjncnheaa
