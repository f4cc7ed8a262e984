import Derived.Test.YtaipeclmfgdegaaRfRows
/-! FramesSteps: the law's state. -/
namespace Go.Proofs.Ytaipeclmfgdegaa
open Go.RowKit Go.HeapKit Go.IntWalk

structure Lw (w wr : World) (p q b T1 T2 : Nat) (bs nf : Int) (F G K : Nat → Prop) (B D C : Ar) (vo vr : Value) (os : List OpF) (rs : List ROp) : Prop where
  st : St3 w wr p q b F G K B D C
  t1 : wr.heap[T1]? = some (.cells #[.int .i64 bs, .int .i64 nf] 36 (0, 0))
  t2 : wr.heap[T2]? = some (.cells #[.int .i64 bs, .int .i64 nf] 39 (0, 0))
  n1 : ¬ (F T1 ∨ G T1 ∨ K T1)
  n2 : ¬ (F T2 ∨ G T2 ∨ K T2)
  ho : wr.ownsRow 0 63 8 vo os.length (rowVals OpF.vals os)
  hr : wr.ownsRow 0 68 9 vr rs.length (rowVals ROp.vals rs)
  fo : ∀ k, vo.ownBlock = some k → w.heap.size ≤ k ∧ ¬ (F k ∨ G k ∨ K k)
  fr : ∀ k, vr.ownBlock = some k → w.heap.size ≤ k ∧ ¬ (F k ∨ G k ∨ K k)
section
variable {w wr wx : World} {p q b T1 T2 : Nat} {bs nf : Int} {F G K : Nat → Prop} {B D C E : Ar} {vo vr vo' vr' : Value} {os : List OpF} {rs : List ROp}
theorem Lw.lt1 (h : Lw w wr p q b T1 T2 bs nf F G K B D C vo vr os rs) : T1 < wr.heap.size := (Array.getElem?_eq_some_iff.1 h.t1).1
theorem Lw.lt2 (h : Lw w wr p q b T1 T2 bs nf F G K B D C vo vr os rs) : T2 < wr.heap.size := (Array.getElem?_eq_some_iff.1 h.t2).1
theorem Lw.kept (h : Lw w wr p q b T1 T2 bs nf F G K B D C vo vr os rs) (hk : Keeps None wr wx) : Lw w wx p q b T1 T2 bs nf F G K B D C vo vr os rs :=
  ⟨h.st.kept hk, (hk.block _ h.lt1 (fun f => f)).trans h.t1, (hk.block _ h.lt2 (fun f => f)).trans h.t2, h.n1, h.n2, hk.own h.ho (fun _ _ f => f), hk.own h.hr (fun _ _ f => f), h.fo, h.fr⟩
theorem Lw.accA (h : Lw w wr p q b T1 T2 bs nf F G K B D C vo vr os rs) (h2 : AA wr wx p F E) : ∃ F', Lw w wx p q b T1 T2 bs nf F' G K E D C vo vr os rs := by
  obtain ⟨F', h3, hf, hk⟩ := h.st.accA h2
  have hl1 := h.lt1
  have hl2 := h.lt2
  refine ⟨F', h3, (hk.block _ hl1 (fun f => h.n1 (.inl f))).trans h.t1, (hk.block _ hl2 (fun f => h.n2 (.inl f))).trans h.t2, ?_, ?_, hk.own h.ho (fun k e f => (h.fo k e).2 (.inl f)), hk.own h.hr (fun k e f => (h.fr k e).2 (.inl f)), fun k e => ⟨(h.fo k e).1, ?_⟩, fun k e => ⟨(h.fr k e).1, ?_⟩⟩
  · rintro (f | f | f)
    · exact (by rcases hf _ f with f | f; exact h.n1 (.inl f); exact absurd hl1 (by omega))
    · exact (h.n1 (.inr (.inl f)))
    · exact (h.n1 (.inr (.inr f)))
  · rintro (f | f | f)
    · exact (by rcases hf _ f with f | f; exact h.n2 (.inl f); exact absurd hl2 (by omega))
    · exact (h.n2 (.inr (.inl f)))
    · exact (h.n2 (.inr (.inr f)))
  · have hl := own_lt h.ho e; rintro (f | f | f)
    · exact (by rcases hf _ f with f | f; exact (h.fo k e).2 (.inl f); exact absurd hl (by omega))
    · exact ((h.fo k e).2 (.inr (.inl f)))
    · exact ((h.fo k e).2 (.inr (.inr f)))
  · have hl := own_lt h.hr e; rintro (f | f | f)
    · exact (by rcases hf _ f with f | f; exact (h.fr k e).2 (.inl f); exact absurd hl (by omega))
    · exact ((h.fr k e).2 (.inr (.inl f)))
    · exact ((h.fr k e).2 (.inr (.inr f)))
theorem Lw.accB (h : Lw w wr p q b T1 T2 bs nf F G K B D C vo vr os rs) (h2 : AA wr wx b K E) : ∃ K', Lw w wx p q b T1 T2 bs nf F G K' B D E vo vr os rs := by
  obtain ⟨K', h3, hf, hk⟩ := h.st.accB h2
  have hl1 := h.lt1
  have hl2 := h.lt2
  refine ⟨K', h3, (hk.block _ hl1 (fun f => h.n1 (.inr (.inr f)))).trans h.t1, (hk.block _ hl2 (fun f => h.n2 (.inr (.inr f)))).trans h.t2, ?_, ?_, hk.own h.ho (fun k e f => (h.fo k e).2 (.inr (.inr f))), hk.own h.hr (fun k e f => (h.fr k e).2 (.inr (.inr f))), fun k e => ⟨(h.fo k e).1, ?_⟩, fun k e => ⟨(h.fr k e).1, ?_⟩⟩
  · rintro (f | f | f)
    · exact (h.n1 (.inl f))
    · exact (h.n1 (.inr (.inl f)))
    · exact (by rcases hf _ f with f | f; exact h.n1 (.inr (.inr f)); exact absurd hl1 (by omega))
  · rintro (f | f | f)
    · exact (h.n2 (.inl f))
    · exact (h.n2 (.inr (.inl f)))
    · exact (by rcases hf _ f with f | f; exact h.n2 (.inr (.inr f)); exact absurd hl2 (by omega))
  · have hl := own_lt h.ho e; rintro (f | f | f)
    · exact ((h.fo k e).2 (.inl f))
    · exact ((h.fo k e).2 (.inr (.inl f)))
    · exact (by rcases hf _ f with f | f; exact (h.fo k e).2 (.inr (.inr f)); exact absurd hl (by omega))
  · have hl := own_lt h.hr e; rintro (f | f | f)
    · exact ((h.fr k e).2 (.inl f))
    · exact ((h.fr k e).2 (.inr (.inl f)))
    · exact (by rcases hf _ f with f | f; exact (h.fr k e).2 (.inr (.inr f)); exact absurd hl (by omega))
theorem Lw.accR (h : Lw w wr p q b T1 T2 bs nf F G K B D C vo vr os rs) (h2 : RR wr wx q G E) : ∃ G', Lw w wx p q b T1 T2 bs nf F G' K B E C vo vr os rs := by
  obtain ⟨G', h3, hf, hk⟩ := h.st.accR h2
  have hl1 := h.lt1
  have hl2 := h.lt2
  refine ⟨G', h3, (hk.block _ hl1 (fun f => h.n1 (.inr (.inl f)))).trans h.t1, (hk.block _ hl2 (fun f => h.n2 (.inr (.inl f)))).trans h.t2, ?_, ?_, hk.own h.ho (fun k e f => (h.fo k e).2 (.inr (.inl f))), hk.own h.hr (fun k e f => (h.fr k e).2 (.inr (.inl f))), fun k e => ⟨(h.fo k e).1, ?_⟩, fun k e => ⟨(h.fr k e).1, ?_⟩⟩
  · rintro (f | f | f)
    · exact (h.n1 (.inl f))
    · exact (by rcases hf _ f with f | f; exact h.n1 (.inr (.inl f)); exact absurd hl1 (by omega))
    · exact (h.n1 (.inr (.inr f)))
  · rintro (f | f | f)
    · exact (h.n2 (.inl f))
    · exact (by rcases hf _ f with f | f; exact h.n2 (.inr (.inl f)); exact absurd hl2 (by omega))
    · exact (h.n2 (.inr (.inr f)))
  · have hl := own_lt h.ho e; rintro (f | f | f)
    · exact ((h.fo k e).2 (.inl f))
    · exact (by rcases hf _ f with f | f; exact (h.fo k e).2 (.inr (.inl f)); exact absurd hl (by omega))
    · exact ((h.fo k e).2 (.inr (.inr f)))
  · have hl := own_lt h.hr e; rintro (f | f | f)
    · exact ((h.fr k e).2 (.inl f))
    · exact (by rcases hf _ f with f | f; exact (h.fr k e).2 (.inr (.inl f)); exact absurd hl (by omega))
    · exact ((h.fr k e).2 (.inr (.inr f)))
/-- The ops' row, longer or written over. -/
theorem Lw.ops (h : Lw w wr p q b T1 T2 bs nf F G K B D C vo vr os rs) {os' : List OpF} (hk : Keeps (fun k => vo.ownBlock = some k) wr wx) (hm : Moved wr vo vo') (ho : wx.ownsRow 0 63 8 vo' os'.length (rowVals OpF.vals os')) : Lw w wx p q b T1 T2 bs nf F G K B D C vo' vr os' rs := by
  refine ⟨h.st.keptS hk h.fo, (hk.block _ h.lt1 (fun e => absurd (own_type h.ho e h.t1) (by decide))).trans h.t1, (hk.block _ h.lt2 (fun e => absurd (own_type h.ho e h.t2) (by decide))).trans h.t2, h.n1, h.n2, ho, hk.own h.hr (fun k e e2 => own_apart h.ho h.hr (by decide) e2 e), fun k e => ?_, h.fr⟩
  rcases hm with e2 | ⟨g, e2, hg⟩
  · exact h.fo k (e2 ▸ e)
  · rw [e2] at e
    injection e with e
    have hs := h.st.kp.size
    exact ⟨by omega, fun f => by have := h.st.lt f; omega⟩
theorem Lw.refs (h : Lw w wr p q b T1 T2 bs nf F G K B D C vo vr os rs) {rs' : List ROp} (hk : Keeps (fun k => vr.ownBlock = some k) wr wx) (hm : Moved wr vr vr') (hr : wx.ownsRow 0 68 9 vr' rs'.length (rowVals ROp.vals rs')) : Lw w wx p q b T1 T2 bs nf F G K B D C vo vr' os rs' := by
  refine ⟨h.st.keptS hk h.fr, (hk.block _ h.lt1 (fun e => absurd (own_type h.hr e h.t1) (by decide))).trans h.t1, (hk.block _ h.lt2 (fun e => absurd (own_type h.hr e h.t2) (by decide))).trans h.t2, h.n1, h.n2, hk.own h.ho (fun k e e2 => own_apart h.hr h.ho (by decide) e2 e), hr, h.fo, fun k e => ?_⟩
  rcases hm with e2 | ⟨g, e2, hg⟩
  · exact h.fr k (e2 ▸ e)
  · rw [e2] at e
    injection e with e
    have hs := h.st.kp.size
    exact ⟨by omega, fun f => by have := h.st.lt f; omega⟩
theorem opvals_size (x : OpF) : x.vals.size = 8 := rfl
theorem ropvals_size (x : ROp) : x.vals.size = 9 := rfl
/-- An op is laid into its place. -/
theorem Lw.setO (h : Lw w wr p q b T1 T2 bs nf F G K B D C vo vr os rs) {g c k : Nat} (hv : vo = .slice (some ⟨g, 0, none⟩) os.length c) (hk : k < os.length) (o : OpF) : Lw w (setsFrom wr g (k * 8) o.vals.toList) p q b T1 T2 bs nf F G K B D C vo vr (os.set k o) rs := by
  have hgb : vo.ownBlock = some g := by rw [hv]; rfl
  refine h.ops ((setsFrom_keeps g o.vals.toList (k * 8) wr).mono (fun i e _ => by rw [hgb, e])) (.inl rfl) ?_
  have h2 := h.ho
  rw [List.length_set, ← rowVals_set opvals_size os k hk o]
  rw [hv] at h2 ⊢
  exact own_sets8 h2 (k * 8) o.vals.toList (by have : o.vals.toList.length = 8 := rfl; omega)
theorem Lw.setR (h : Lw w wr p q b T1 T2 bs nf F G K B D C vo vr os rs) {g c k : Nat} (hv : vr = .slice (some ⟨g, 0, none⟩) rs.length c) (hk : k < rs.length) (o : ROp) : Lw w (setsFrom wr g (k * 9) o.vals.toList) p q b T1 T2 bs nf F G K B D C vo vr os (rs.set k o) := by
  have hgb : vr.ownBlock = some g := by rw [hv]; rfl
  refine h.refs ((setsFrom_keeps g o.vals.toList (k * 9) wr).mono (fun i e _ => by rw [hgb, e])) (.inl rfl) ?_
  have h2 := h.hr
  rw [List.length_set, ← rowVals_set ropvals_size rs k hk o]
  rw [hv] at h2 ⊢
  exact own_sets8 h2 (k * 9) o.vals.toList (by have : o.vals.toList.length = 9 := rfl; omega)
end
end Go.Proofs.Ytaipeclmfgdegaa
