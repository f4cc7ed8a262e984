import Derived.Test.YtaipeclmfgdegaaRfOp3
/-! The program's op and the document's, side by side: plainly. -/
namespace Go.Proofs.Ytaipeclmfgdegaa
open Go.RowKit Go.HeapKit Go.IntWalk

theorem wrap_idem (x : Int) : wrap64 (wrap64 x) = wrap64 x := by
  have h : -9223372036854775808 ≤ wrap64 x ∧ wrap64 x ≤ 9223372036854775807 := by unfold wrap64; omega
  exact wrap_small h.1 h.2
theorem join_begin (b fr : Int) : joinAt b fr = beginAt b fr := by unfold joinAt beginAt; exact wrap_idem _
def ROp.beg (k b f fr sl v : Int) : ROp :=
  if b < 0 ∨ f < 1 ∨ 4096 < f then ⟨k, 0, 0, v, b, f, 0, 1, 0⟩
  else if k = 0 then ⟨k, 0, 0, v, b, f, 0, 0, 0⟩
  else if fr < 0 ∨ f ≤ fr then ⟨k, 0, 0, v, b, f, 0, 1, 0⟩
  else if (k = 2 ∨ k = 5) ∧ (sl < 0 ∨ 8 ≤ sl) then ⟨k, 0, 0, v, b, f, 0, 1, 0⟩
  else ⟨k, beginAt b fr, slotAt b fr sl, v, b, f, 0, 0, 0⟩
def begP (k b f fr sl v : Int) : OpF :=
  if k = 0 then OpF.beg 0 b f 0 0 0 else if k = 1 then OpF.beg 1 b f fr 0 0 else if k = 2 then OpF.beg 2 b f fr sl v
  else if k = 3 then OpF.beg 3 b f fr 0 0 else if k = 4 then OpF.beg 4 b f fr 0 0 else OpF.beg 5 b f fr sl 0
/-- A running op of the program and of the document. -/
structure SimR (o : OpF) (r : ROp) : Prop where
  fit : FitO o.base o.frames o.frame o.slot
  c0 : o.code = 0
  k0 : 0 ≤ o.kind
  k5 : o.kind ≤ 5
  m0 : 0 ≤ o.made
  m2 : o.made ≤ 2
  rc : r.code = 0
  rv : r.came = 0
  kd : r.kind = o.kind
  md : r.made = o.made
  fr : r.frames = o.frames
  nx : r.next = o.base
  jn : o.kind ≠ 0 → r.join = beginAt o.base o.frame
  cl : o.kind = 2 ∨ o.kind = 5 → r.cell = slotAt o.base o.frame o.slot
  vv : o.kind = 2 → r.v = o.v
  mb : o.kind = 2 ∨ o.made ≤ 1
def Sim (o : OpF) (r : ROp) : Prop := SimR o r ∨ (r.code ≠ 0 ∧ o.ans = (r.code, r.came) ∧ (o = OpF.zero ∨ o.code ≠ 0))
theorem SimR.ne {o : OpF} {r : ROp} (h : SimR o r) : ¬ o = OpF.zero := fun e => by have := h.fit.1.2.1; rw [e] at this; simp [OpF.zero] at this
theorem Sim.ans {o : OpF} {r : ROp} (h : Sim o r) : o.ans = (r.code, r.came) := by
  rcases h with h | h
  · unfold OpF.ans
    rw [if_neg h.ne, if_pos h.c0, h.rc, h.rv]
  · exact h.2.1
theorem sim_ended (c v : Int) (r : ROp) (hc : c ≠ 0) : Sim (OpF.ended c v) (r.fin c v) := .inr ⟨hc, by
  unfold OpF.ans
  rw [if_neg (fun e => hc (by have := congrArg OpF.code e; simpa [OpF.ended, OpF.zero] using this)), if_neg (show ¬ (OpF.ended c v).code = 0 from hc)]
  rfl, .inr hc⟩
theorem sim_broken (r : ROp) : Sim OpF.zero (r.fin 1 0) := .inr ⟨by simp [ROp.fin], by unfold OpF.ans; rw [if_pos rfl]; rfl, .inl rfl⟩
theorem SimR.acc {o : OpF} {r : ROp} (h : SimR o r) (A : Ar) : o.acc A = A.did r.want.1 r.want.2.1 r.want.2.2 0 := by
  have hj := h.jn
  have hc := h.cl
  have hv := h.vv
  have hm := h.mb
  have m0 := h.m0
  have m2 := h.m2
  have hk0 := h.k0
  have hk5 := h.k5
  unfold OpF.acc ROp.want
  rw [h.kd, h.md, h.nx]
  rcases (show o.kind = 0 ∨ o.kind = 1 ∨ o.kind = 2 ∨ o.kind = 3 ∨ o.kind = 4 ∨ o.kind = 5 by omega) with e | e | e | e | e | e
  · simp [e]
  · simp [e, hj (by omega), join_begin]
  · rcases (show o.made = 0 ∨ o.made = 1 ∨ o.made = 2 by omega) with e2 | e2 | e2
    · simp [e, e2, hc (.inl e), hv e]
    · simp [e, e2, hj (by omega), join_begin]
    · simp [e, e2, hj (by omega), join_begin]
  · rcases (show o.made = 0 ∨ o.made = 1 by omega) with e2 | e2
    · simp [e, e2, hj (by omega), join_begin]
    · simp [e, e2, hj (by omega), join_begin]
  · simp [e, hj (by omega), markAt]
  · simp [e, hc (.inr e)]
theorem SimR.more {o : OpF} {r : ROp} (h : SimR o r) (m : Int) (hm : m = o.made + 1) (h2 : m ≤ 2) (hk : o.kind = 2 ∨ m ≤ 1) : SimR { o with made := m } { r with made := m } :=
  ⟨h.fit, h.c0, h.k0, h.k5, by have := h.m0; show 0 ≤ m; omega, h2, h.rc, h.rv, h.kd, rfl, h.fr, h.nx, h.jn, h.cl, h.vv, hk⟩
theorem SimR.went {o : OpF} {r : ROp} (h : SimR o r) (n : Int) : Sim (o.went n) (r.behind n) := by
  have hm := h.mb
  have m0 := h.m0
  have m2 := h.m2
  have hk0 := h.k0
  have hk5 := h.k5
  have hmd := h.md
  have hfr := h.fr
  have hkd := h.kd
  rcases (show o.kind = 0 ∨ o.kind = 1 ∨ o.kind = 2 ∨ o.kind = 3 ∨ o.kind = 4 ∨ o.kind = 5 by omega) with e | e | e | e | e | e
  · unfold OpF.went ROp.behind
    rw [hkd, hfr]
    simp only [e]
    by_cases hn : 1 ≤ n ∧ n ≤ o.frames
    · simp only [if_pos hn]
      exact sim_ended _ _ _ (by decide)
    · simp only [if_neg hn]
      exact sim_ended _ _ _ (by decide)
  · unfold OpF.went ROp.behind
    rw [hkd]
    simp only [e]
    exact sim_ended _ _ _ (by decide)
  · rcases (show o.made = 0 ∨ o.made = 1 ∨ o.made = 2 by omega) with e2 | e2 | e2
    · have e3 : o.went n = { o with made := 1 } := by simp [OpF.went, e, e2]
      have e4 : r.behind n = { r with made := 1 } := by simp [ROp.behind, hkd, hmd, e, e2]
      rw [e3, e4]
      exact .inl (h.more 1 (by omega) (by omega) (.inl e))
    · by_cases hn : n = 0
      · have e3 : o.went n = { o with made := 2 } := by simp [OpF.went, e, e2, hn]
        have e4 : r.behind n = { r with made := 2 } := by simp [ROp.behind, hkd, hmd, e, e2, hn]
        rw [e3, e4]
        exact .inl (h.more 2 (by omega) (by omega) (.inl e))
      · have e3 : o.went n = OpF.ended 10 n := by simp [OpF.went, e, e2, hn]
        have e4 : r.behind n = ROp.fin { r with made := 2 } 10 n := by simp [ROp.behind, hkd, hmd, e, e2, hn]
        rw [e3, e4]
        exact sim_ended _ _ _ (by decide)
    · have e3 : o.went n = OpF.ended 11 0 := by simp [OpF.went, e, e2]
      have e4 : r.behind n = ROp.fin { r with made := 3 } 11 0 := by simp [ROp.behind, hkd, hmd, e, e2]
      rw [e3, e4]
      exact sim_ended _ _ _ (by decide)
  · rcases (show o.made = 0 ∨ o.made = 1 by omega) with e2 | e2
    · by_cases hn : n = 0
      · have e3 : o.went n = { o with made := 1 } := by simp [OpF.went, e, e2, hn]
        have e4 : r.behind n = { r with made := 1 } := by simp [ROp.behind, hkd, hmd, e, e2, hn]
        rw [e3, e4]
        exact .inl (h.more 1 (by omega) (by omega) (.inr (by omega)))
      · have e3 : o.went n = OpF.ended 12 n := by simp [OpF.went, e, e2, hn]
        have e4 : r.behind n = ROp.fin { r with made := 1 } 12 n := by simp [ROp.behind, hkd, hmd, e, e2, hn]
        rw [e3, e4]
        exact sim_ended _ _ _ (by decide)
    · have e3 : o.went n = OpF.ended 13 0 := by simp [OpF.went, e, e2]
      have e4 : r.behind n = ROp.fin { r with made := 2 } 13 0 := by simp [ROp.behind, hkd, hmd, e, e2]
      rw [e3, e4]
      exact sim_ended _ _ _ (by decide)
  · unfold OpF.went ROp.behind
    rw [hkd]
    simp only [e]
    exact sim_ended _ _ _ (by decide)
  · unfold OpF.went ROp.behind
    rw [hkd]
    simp only [e]
    exact sim_ended _ _ _ (by decide)
theorem Sim.step {o : OpF} {r : ROp} (h : Sim o r) (A : Ar) : Sim (o.step A).1 (r.step A).1 ∧ (o.step A).2 = (r.step A).2 := by
  rcases h with h | h
  · have e1 : o.step A = if (o.acc A).1.err = 0 then (o.went (o.acc A).1.v, (o.acc A).2) else (OpF.zero, (o.acc A).2) := by
      unfold OpF.step
      rw [if_neg (by rintro (e | e); exact h.ne e; exact e h.c0)]
    have e2 : r.step A = if (A.did r.want.1 r.want.2.1 r.want.2.2 0).1.err = 0 then (r.behind (A.did r.want.1 r.want.2.1 r.want.2.2 0).1.v, (A.did r.want.1 r.want.2.1 r.want.2.2 0).2) else (r.fin 1 0, (A.did r.want.1 r.want.2.1 r.want.2.2 0).2) := by
      unfold ROp.step
      rw [if_neg (by rw [h.rc]; simp)]
    rw [e1, e2, h.acc A]
    by_cases he : (A.did r.want.1 r.want.2.1 r.want.2.2 0).1.err = 0
    · rw [if_pos he, if_pos he]
      exact ⟨h.went _, rfl⟩
    · rw [if_neg he, if_neg he]
      exact ⟨sim_broken r, rfl⟩
  · have e1 : o.step A = (o, A) := by unfold OpF.step; rw [if_pos h.2.2]
    have e2 : r.step A = (r, A) := by unfold ROp.step; rw [if_pos h.1]
    rw [e1, e2]
    exact ⟨.inr h, rfl⟩
theorem beg_run (k b f fr sl v : Int) (h : FitO b f fr sl) : OpF.beg k b f fr sl v = ⟨b, f, 0, k, 0, fr, sl, v⟩ := if_pos h
theorem beg_none (k b f fr sl v : Int) (h : ¬ FitO b f fr sl) : OpF.beg k b f fr sl v = OpF.zero := if_neg h
theorem sim_code1 (k j c v nx f m : Int) : Sim OpF.zero ⟨k, j, c, v, nx, f, m, 1, 0⟩ := .inr ⟨by simp, by unfold OpF.ans; rw [if_pos rfl], .inl rfl⟩
/-- Two ops that are begun alike. -/
theorem sim_beg (k b f fr sl v : Int) (hk0 : 0 ≤ k) (hk5 : k ≤ 5) : Sim (begP k b f fr sl v) (ROp.beg k b f fr sl v) := by
  unfold ROp.beg
  by_cases h1 : b < 0 ∨ f < 1 ∨ 4096 < f
  · rw [if_pos h1]
    have hz : ∀ k' fr' sl' v', OpF.beg k' b f fr' sl' v' = OpF.zero := fun k' fr' sl' v' => beg_none _ _ _ _ _ _ (fun e => by have := e.1; unfold FitT at this; omega)
    have : begP k b f fr sl v = OpF.zero := by unfold begP; simp only [hz]; (repeat' split) <;> rfl
    rw [this]
    exact sim_code1 _ _ _ _ _ _ _
  rw [if_neg h1]
  have hT : FitT b f := by unfold FitT; omega
  by_cases hk : k = 0
  · subst hk
    rw [if_pos rfl]
    have : begP 0 b f fr sl v = ⟨b, f, 0, 0, 0, 0, 0, 0⟩ := by unfold begP; rw [if_pos rfl]; exact beg_run _ _ _ _ _ _ ⟨hT, by omega, by unfold FitT at hT; omega, by omega, by omega⟩
    rw [this]
    exact .inl ⟨⟨hT, by show (0 : Int) ≤ 0; omega, by show (0 : Int) < f; unfold FitT at hT; omega, by show (0 : Int) ≤ 0; omega, by show (0 : Int) < 8; omega⟩, rfl, by show (0 : Int) ≤ 0; omega, by show (0 : Int) ≤ 5; omega, by show (0 : Int) ≤ 0; omega, by show (0 : Int) ≤ 2; omega, rfl, rfl, rfl, rfl, rfl, rfl, fun e => absurd rfl e, fun e => by rcases e with e | e <;> exact absurd e (by show ¬ (0 : Int) = _; decide), fun e => absurd e (by show ¬ (0 : Int) = 2; decide), .inr (by show (0 : Int) ≤ 1; omega)⟩
  rw [if_neg hk]
  by_cases h2 : fr < 0 ∨ f ≤ fr
  · rw [if_pos h2]
    have hz : ∀ k' sl' v', OpF.beg k' b f fr sl' v' = OpF.zero := fun k' sl' v' => beg_none _ _ _ _ _ _ (fun e => by have h3 := e.2.1; have h4 := e.2.2.1; omega)
    have : begP k b f fr sl v = OpF.zero := by unfold begP; rw [if_neg hk]; simp only [hz]; (repeat' split) <;> rfl
    rw [this]
    exact sim_code1 _ _ _ _ _ _ _
  rw [if_neg h2]
  by_cases h3 : (k = 2 ∨ k = 5) ∧ (sl < 0 ∨ 8 ≤ sl)
  · rw [if_pos h3]
    have hz : ∀ k' v', OpF.beg k' b f fr sl v' = OpF.zero := fun k' v' => beg_none _ _ _ _ _ _ (fun e => by have h4 := e.2.2.2.1; have h5 := e.2.2.2.2; omega)
    have : begP k b f fr sl v = OpF.zero := by
      unfold begP
      rcases h3.1 with rfl | rfl
      · simp [hz]
      · simp [hz]
    rw [this]
    exact sim_code1 _ _ _ _ _ _ _
  rw [if_neg h3]
  have hF : ∀ sl', (0 ≤ sl' ∧ sl' < 8) → FitO b f fr sl' := fun sl' h => ⟨hT, by omega, by omega, h.1, h.2⟩
  have gen : ∀ (k sl' v' : Int), (0 ≤ k ∧ k ≤ 5) → (0 ≤ sl' ∧ sl' < 8) → k ≠ 0 → (k = 2 ∨ k = 5 → sl' = sl) → (k = 2 → v' = v) → Sim (OpF.beg k b f fr sl' v') ⟨k, beginAt b fr, slotAt b fr sl, v, b, f, 0, 0, 0⟩ := by
    intro k sl' v' h1 h2 h3 h4 h5
    rw [beg_run _ _ _ _ _ _ (hF sl' h2)]
    exact .inl ⟨hF sl' h2, rfl, h1.1, h1.2, by show (0 : Int) ≤ 0; omega, by show (0 : Int) ≤ 2; omega, rfl, rfl, rfl, rfl, rfl, rfl, fun _ => rfl, fun e => by show slotAt b fr sl = slotAt b fr sl'; rw [h4 e], fun e => (h5 e).symm, .inr (by show (0 : Int) ≤ 1; omega)⟩
  unfold begP
  rw [if_neg hk]
  rcases (show k = 1 ∨ k = 2 ∨ k = 3 ∨ k = 4 ∨ k = 5 by omega) with rfl | rfl | rfl | rfl | rfl
  · simpa using gen 1 0 0 (by omega) (by omega) (by omega) (by omega) (by omega)
  · simpa using gen 2 sl v (by omega) (by omega) (by omega) (fun _ => rfl) (fun _ => rfl)
  · simpa using gen 3 0 0 (by omega) (by omega) (by omega) (by omega) (by omega)
  · simpa using gen 4 0 0 (by omega) (by omega) (by omega) (by omega) (by omega)
  · simpa using gen 5 sl 0 (by omega) (by omega) (by omega) (fun _ => rfl) (by omega)
end Go.Proofs.Ytaipeclmfgdegaa
