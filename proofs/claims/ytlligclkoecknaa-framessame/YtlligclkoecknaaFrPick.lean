import Derived.Test.YtlligclkoecknaaFrNext2
/-! A pick: the step. -/
namespace Go.Proofs.Ytlligclkoecknaa
open Go.RowKit Go.HeapKit Go.IntWalk

theorem own_sets {w : World} {e : TypeId} {s g n cap : Nat} {xs : List Value} (h : w.ownsRow 0 e s (.slice (some ⟨g, 0, none⟩) n cap) n xs) (k : Nat) (vs : List Value) (hk : k + vs.length ≤ n * s) :
    (setsFrom w g k vs).ownsRow 0 e s (.slice (some ⟨g, 0, none⟩) n cap) n (xs.take k ++ vs ++ xs.drop (k + vs.length)) := by
  rcases h.2 with ⟨h0, _⟩ | ⟨g', cap', cur, he, hb, hg, hn, hm, hcs, ht⟩
  · cases h0
  · injection he with e1 e2 e3
    injection e1 with e1
    injection e1 with e1
    subst e1 e3
    have hle : n * s ≤ cap * s := Nat.mul_le_mul_right _ hn
    obtain ⟨c', h1, h2⟩ := setsFrom_block g e vs k w cur hg (by rw [hcs]; omega)
    have hxl : xs.length = n * s := by rw [← ht]; simp; omega
    have hcl : cur.toList.length = cap * s := by simpa using hcs
    refine ⟨by simp only [List.length_append, List.length_take, List.length_drop]; omega, .inr ⟨g, cap, c', rfl, hb, h1, hn, hm, ?_, ?_⟩⟩
    · have := congrArg List.length h2
      simp only [List.length_append, List.length_take, List.length_drop, hcl, Array.length_toList] at this
      omega
    · rw [h2, ← ht]
      apply List.ext_getElem?
      intro i
      simp only [List.getElem?_take, List.getElem?_append, List.length_append, List.length_take, List.getElem?_drop, hcl]
      have e1 : min k (min (n * s) (cap * s)) = k := by omega
      have e2 : min k (cap * s) = k := by omega
      have e3 : min (n * s) (cap * s) = n * s := by omega
      simp only [e2, e3]
      have e4 : min k (n * s) = k := by omega
      simp only [e4]
      by_cases a1 : i < n * s
      · by_cases a2 : i < k + vs.length
        · by_cases a3 : i < k
          · simp [a1, a2, a3]
          · simp [a1, a2, a3]
        · have a4 : k + vs.length + (i - (k + vs.length)) < n * s := by omega
          simp [a1, a2, a4]
      · have a2 : ¬ i < k + vs.length := by omega
        have a4 : ¬ k + vs.length + (i - (k + vs.length)) < n * s := by omega
        simp [a1, a2, a4]
theorem alive_split {S : Pl} {i : Nat} (hi : i < S.alive.length) : S.alive = S.alive.take i ++ S.alive.getD i default :: S.alive.drop (i + 1) := by
  rw [List.getD_eq_getElem?_getD, List.getElem?_eq_getElem hi]
  simp
theorem actVals_set (l : List Actr) (i : Nat) (hi : i < l.length) (o : OpF) :
    (actVals l).take (i * 17 + 1) ++ o.vals.toList ++ (actVals l).drop (i * 17 + 1 + o.vals.toList.length) = actVals (l.set i { l.getD i default with op := o }) := by
  have hs : l = l.take i ++ l.getD i default :: l.drop (i + 1) := by
    rw [List.getD_eq_getElem?_getD, List.getElem?_eq_getElem hi]
    simp
  generalize l.getD i default = a at hs ⊢
  have hl : (l.take i).length = i := by simp; omega
  generalize l.take i = l1 at hs hl
  generalize l.drop (i + 1) = l2 at hs
  subst hs
  subst hl
  have e1 : (l1 ++ a :: l2).set l1.length { a with op := o } = l1 ++ { a with op := o } :: l2 := by simp
  have e2 : (actVals l1).length = l1.length * 17 := actVals_length l1
  rw [e1, actVals_app, actVals_cons, actVals_app, actVals_cons, ← e2]
  rw [List.take_append, List.drop_append]
  have e3 : (actVals l1).take ((actVals l1).length + 1) = actVals l1 := List.take_of_length_le (by omega)
  have e4 : (actVals l1).drop ((actVals l1).length + 1 + o.vals.toList.length) = [] := List.drop_of_length_le (by omega)
  rw [e3, e4]
  have e5 : (actVals l1).length + 1 - (actVals l1).length = 1 := by omega
  have e6 : (actVals l1).length + 1 + o.vals.toList.length - (actVals l1).length = 9 := by
    have : o.vals.toList.length = 8 := rfl
    omega
  rw [e5, e6]
  obtain ⟨num, ⟨b0, b1, b2, b3, b4, b5, b6, b7⟩, ⟨f0, f1, f2, f3, f4, f5, f6, f7⟩⟩ := a
  obtain ⟨o0, o1, o2, o3, o4, o5, o6, o7⟩ := o
  simp [Actr.vals, OpF.vals]
section
variable {w0 w : World} {P p : Nat} {F : Nat → Prop} {ao : Option Addr} {cap : Nat} {va vh vd : Value} {rs : List Value} {S : Pl}
/-- An op is laid into the actor at a place. -/
theorem IsPlay.opset (h : IsPlay w0 w P p F ao cap va vh vd rs S) (i : Nat) (hi : i < S.alive.length) {g c : Nat} (hv : va = .slice (some ⟨g, 0, none⟩) S.alive.length c) (o : OpF) :
    IsPlay w0 (setsFrom w g (i * 17 + 1) o.vals.toList) P p F ao cap va vh vd rs { S with alive := S.alive.set i { S.alive.getD i default with op := o } } := by
  have hk := setsFrom_keeps g o.vals.toList (i * 17 + 1) w
  have hgb : va.ownBlock = some g := by rw [hv]; rfl
  have n1 : g ≠ P := fun e => h.nP.1 (e ▸ hgb)
  have hl := h.lo g (.inr (.inr (.inl hgb)))
  have hlen : (S.alive.set i { S.alive.getD i default with op := o }).length = S.alive.length := by simp
  refine ⟨(hk.block P h.lt (fun e => n1 e.symm)).trans h.blk, h.ar.kept hk (fun k f e => h.off k f (.inr (.inl (e ▸ hgb)))), ?_, hk.own h.ho (fun k e e2 => own_apart h.al h.ho (by decide) hgb (e2 ▸ e)), hk.own h.re (fun k e e2 => own_apart h.al h.re (by decide) hgb (e2 ▸ e)), h.rl, fun j hj => hk.own (h.row j hj) (fun k e e2 => own_apart h.al (h.row j hj) (by decide) hgb (e2 ▸ e)), h.apart, h.off, h.kp.trans hk (fun k e hi => by omega), h.lo, h.ro⟩
  show World.ownsRow _ 0 _ 17 va (List.length _) _
  rw [hlen, ← actVals_set _ _ hi]
  have h2 := h.al
  rw [hv] at h2 ⊢
  exact own_sets h2 (i * 17 + 1) o.vals.toList (by have : o.vals.toList.length = 8 := rfl; omega)
end
end Go.Proofs.Ytlligclkoecknaa
