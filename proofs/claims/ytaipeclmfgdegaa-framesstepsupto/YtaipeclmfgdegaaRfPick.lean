import Derived.Test.YtaipeclmfgdegaaRfLw
/-! FramesSteps: one pick. -/
namespace Go.Proofs.Ytaipeclmfgdegaa
open Go.RowKit Go.HeapKit Go.IntWalk

theorem arf_who8 (p : Nat) (F : Nat → Prop) (A : Ar) (u : Int) (w : World) (h : ArF w p F A) :
    Calls Try.prog 24 #[.pointer (some ⟨p, 0, none⟩), .int .i64 u] w fun e w' => e = .returned (.tuple #[]) ∧ AA w w' p F { A with actor := u } := by
  obtain ⟨vc, vl, h, rfl⟩ := h
  refine (who_any p vc vl A u w h).mono ?_
  rintro e w' ⟨rfl, h', hk⟩
  exact ⟨rfl, _, ⟨vc, vl, h', rfl⟩, hk, fun k f => .inl f⟩
theorem IsRef.act8 {w : World} {p : Nat} {vc vl : Value} {A : Ar} (h : IsRef w p vc vl A) (u : Int) : IsRef (w.setCell ⟨p, 3, none⟩ (.int .i64 u)) p vc vl { A with actor := u } := by
  have hkp : Keeps (· = p) w (w.setCell ⟨p, 3, none⟩ (.int .i64 u)) := Keeps.setCell (S := (· = p)) w (a := ⟨p, 3, none⟩) rfl _
  exact ⟨(setCell_block h.blk _).trans rfl, hkp.own h.cells (fun k e e2 => h.ncp (e2 ▸ e)), hkp.own h.log (fun k e e2 => h.nlp (e2 ▸ e)), h.fit⟩
theorem rf_act {wr : World} {q : Nat} {G : Nat → Prop} {C : Ar} (h : RfF wr q G C) (u : Int) : RR wr (wr.setCell ⟨q, 3, none⟩ (.int .i64 u)) q G { C with actor := u } := by
  obtain ⟨vc, vl, h, rfl⟩ := h
  exact ⟨_, ⟨vc, vl, h.act8 u, rfl⟩, (Keeps.setCell (S := (· = q)) wr (a := ⟨q, 3, none⟩) rfl _).mono (fun i e _ => .inl e), fun _ f => .inl f⟩
theorem noted_log (A : Ar) (x : Acc) : (A.noted x).log.length ≤ A.log.length + 1 := by unfold Ar.noted; split <;> simp
theorem did_log (A : Ar) (k x a b : Int) : (A.did k x a b).2.log.length ≤ A.log.length + 1 ∧ (A.did k x a b).2.size = A.size := by
  unfold Ar.did
  repeat' split
  all_goals first
    | exact ⟨Nat.le_succ _, rfl⟩
    | exact ⟨noted_log _ _, noted_size _ _⟩
theorem acc_log (o : OpF) (A : Ar) : (o.acc A).2.log.length ≤ A.log.length + 1 ∧ (o.acc A).2.size = A.size := by
  unfold OpF.acc
  repeat' split
  all_goals exact did_log _ _ _ _ _
theorem step_log (o : OpF) (A : Ar) : (o.step A).2.log.length ≤ A.log.length + 1 ∧ (o.step A).2.size = A.size := by
  unfold OpF.step
  split
  · exact ⟨Nat.le_succ _, rfl⟩
  · split
    · exact acc_log o A
    · exact acc_log o A
/-- The document's step of an op that has one beside it. -/
theorem rstep_sim (q : Nat) (G : Nat → Prop) (A : Ar) (o : OpF) (r : ROp) (w : World) (h : RfF w q G A) (hlog : A.log.length < 1000000000000) (hs : Sim o r) :
    Calls Try.prog 26 #[.pointer (some ⟨q, 0, none⟩), r.value] w fun e w' => e = .returned (r.step A).1.value ∧ RR w w' q G (r.step A).2 := by
  rcases hs with hs | hs
  · have h1 := hs.rc
    have h2 := hs.rv
    have h3 := hs.md
    have h4 := hs.m0
    have h5 := hs.m2
    obtain ⟨k, j, c, v, nx, f, m, cd, cm⟩ := r
    simp only at h1 h2 h3
    subst h1 h2 h3
    exact rstep_run q G A k j c v nx f _ w h hlog h4 h5
  · have h1 := hs.1
    have e2 : r.step A = (r, A) := by unfold ROp.step; rw [if_pos h1]
    rw [e2]
    obtain ⟨k, j, c, v, nx, f, m, cd, cm⟩ := r
    refine (rstep_ended q k j c v nx f m cd cm w h1).mono ?_
    rintro e w' ⟨rfl, hk⟩
    exact ⟨rfl, G, h.kept hk (fun _ _ f => f), hk.mono (fun _ f _ => f.elim), fun _ f => .inl f⟩
theorem St3.two {w wr : World} {p q b : Nat} {F G K : Nat → Prop} {B D C : Ar} (h : St3 w wr p q b F G K B D C) : TwoN w wr p q F G B D := ⟨h.ar, h.rf, h.fg, fun k f => h.lo k (f.elim .inl (fun g => .inr (.inl g))), h.kp⟩
theorem St3.two2 {w wr : World} {p q b : Nat} {F G K : Nat → Prop} {B D C : Ar} (h : St3 w wr p q b F G K B D C) : TwoN w wr b q K G C D := ⟨h.br, h.rf, fun k f g => h.gk k g f, fun k f => h.lo k (f.elim (fun g => .inr (.inr g)) (fun g => .inr (.inl g))), h.kp⟩
theorem Twin.act {B C : Ar} (h : Twin B C) (u : Int) : Twin { B with actor := u } C := ⟨h.cells, h.size, h.off, h.log⟩
end Go.Proofs.Ytaipeclmfgdegaa
