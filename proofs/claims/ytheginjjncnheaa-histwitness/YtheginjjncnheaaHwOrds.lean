import Derived.Test.YtheginjjncnheaaHoPath
/-! Every order is one that can be come to: the converse of 'Ords.legal'. -/
namespace Go.Proofs.Ytheginjjncnheaa
set_option linter.unusedVariables false
set_option maxRecDepth 20000
set_option linter.unusedSimpArgs false
open Go.RowKit Go.HeapKit

theorem pre_at {l : List Cl} {os : List Int} {n k : Nat} {z : Int} (h : preB l os n = true) (hk : k < n) (hz : os[k]? = some z) : ∃ q : Nat, z = q ∧ q < l.length ∧ z ∉ os.take k := by
  have h1 : idxB l os k = true := range_at hk h
  unfold idxB at h1
  rw [getD_of hz, Bool.and_eq_true, decide_eq_true_iff] at h1
  refine ⟨z.toNat, by omega, by omega, ?_⟩
  simpa using h1.2
theorem time_at {l : List Cl} {os : List Int} {n k j : Nat} {z y : Int} (h : timeB l os n = true) (hk : k < n) (hz : os[k]? = some z) (hj : j < k) (hy : os[j]? = some y) : aheadB (clAt l z) (clAt l y) = false := by
  have h1 : tmB l os k = true := range_at hk h
  unfold tmB at h1
  rw [getD_of hz] at h1
  have h2 := List.all_eq_true.1 h1 y (List.mem_of_getElem? (i := j) (by rw [List.getElem?_take, if_pos hj]; exact hy))
  simpa using h2
theorem seen_at {l : List Cl} {os : List Int} {n q : Nat} (h : seenB l os n = true) (hq : q < n) (hc : (clAt l q).code ≠ 0) : (q : Int) ∈ os := by
  have h1 := List.all_eq_true.1 h q (List.mem_range.2 hq)
  rw [Bool.or_eq_true] at h1
  rcases h1 with h1 | h1
  · exact absurd (decide_eq_true_iff.1 h1) hc
  · simpa using h1
structure LegOk (l : List Cl) (m : Nat) (os : List Int) : Prop where
  pre : preB l os os.length = true
  seen : seenB l os l.length = true
  time : timeB l os os.length = true
  run : ∃ st, runD m l os = some st
theorem legal_parts {l : List Cl} {most : Int} {os : List Int} (h : legalB l most os = true) : badE l most = 0 ∧ LegOk l most.toNat os := by
  unfold legalB at h
  simp only [Bool.and_eq_true, decide_eq_true_iff] at h
  exact ⟨h.1.1.1, h.1.1.2.1, h.1.1.2.2, h.1.2, Option.isSome_iff_exists.1 h.2⟩
theorem LegOk.legal {l : List Cl} {most : Int} {os : List Int} (hb : badE l most = 0) (h : LegOk l most.toNat os) : legalB l most os = true := by
  obtain ⟨st, hs⟩ := h.run
  unfold legalB
  rw [h.pre, h.seen, h.time, hs]
  simp [hb]
/-- A call that is not done yet and has ended is not ahead of the one that comes. -/
theorem LegOk.late {l : List Cl} {m : Nat} {os : List Int} (hh : histB l = true) (h : LegOk l m os) {k q j : Nat} {y d : Cl} (hk : os[k]? = some (q : Int)) (hy : l[q]? = some y) (hj : l[j]? = some d) (hn : (j : Int) ∉ os.take k) : aheadB d y = false := by
  cases ha : aheadB d y with
  | false => rfl
  | true =>
    have ha2 := ha
    unfold aheadB at ha2
    rw [decide_eq_true_iff] at ha2
    have hjl := (List.getElem?_eq_some_iff.1 hj).1
    have hm := seen_at h.seen hjl (by rw [clAt_of hj]; exact ha2.1)
    obtain ⟨p, hp⟩ := List.mem_iff_getElem?.1 hm
    have hpl := (List.getElem?_eq_some_iff.1 hp).1
    rcases Nat.lt_trichotomy p k with e | e | e
    · exact absurd (List.mem_of_getElem? (i := p) (by rw [List.getElem?_take, if_pos e]; exact hp)) hn
    · subst e
      rw [hk] at hp
      injection hp with hp
      have : q = j := by omega
      subst this
      rw [hy] at hj
      injection hj with hj
      subst hj
      obtain ⟨_, _, f3, _⟩ := fits_ended (hist_fits hh hy)
      have := f3 ha2.1
      omega
    · have := time_at h.time hpl hp e hk
      rw [clAt_of hj, clAt_of hy, ha] at this
      cases this
theorem LegOk.step {l : List Cl} {m : Nat} {os : List Int} (hh : histB l = true) (h : LegOk l m os) : ∀ k, k ≤ os.length → ∃ x zs, Ords l m x zs (os.take k) ∧ runD m l (os.take k) = some zs
  | 0, _ => ⟨c0, [], by simpa using Ords.nil, rfl⟩
  | k + 1, hk => by
    obtain ⟨x, zs, ho, hr⟩ := LegOk.step hh h k (by omega)
    have hok := ho.ok hh
    obtain ⟨z, hz⟩ : ∃ z, os[k]? = some z := ⟨os[k], by simp⟩
    obtain ⟨q, rfl, hq, hnew⟩ := pre_at h.pre (by omega) hz
    obtain ⟨y, hy⟩ : ∃ y, l[q]? = some y := ⟨l[q], by simp⟩
    have hundone : ∀ j : Nat, dn l x j = false → (j : Int) ∉ os.take k := fun j hd hm => by
      obtain ⟨j', e, _, h2⟩ := hok.mem _ hm
      have : j' = j := by omega
      subst this
      rw [hd] at h2
      cases h2
    have hdq : dn l x q = false := by
      cases e : dn l x q with
      | false => rfl
      | true => exact absurd (hok.has q e) hnew
    obtain ⟨i, j, d, hi, hn, hd, hw⟩ := waits hh hy hdq
    have hnq : nxt l x i = some (q : Int) := by
      rcases hw with ⟨rfl, _⟩ | ⟨w1, w2⟩
      · exact hn
      · have := h.late hh hz hy hd (hundone j (dn_not hn))
        unfold aheadB at this
        rw [decide_eq_false_iff_not] at this
        exact absurd ⟨w1, w2⟩ this
    have hin : inB l x y 4 = true := List.all_eq_true.2 fun i' hi' => by
      cases hn' : nxt l x i' with
      | none => exact inI_none hn'
      | some j' =>
        obtain ⟨j', rfl, hj', _⟩ := nxt_is hn'
        obtain ⟨d', hd'⟩ : ∃ d', l[j']? = some d' := ⟨l[j'], by simp⟩
        rw [inI_some hn' hd', h.late hh hz hy hd' (hundone j' (dn_not hn'))]
        rfl
    have hrm := runD_more (most := m) (l := l) hz
    rw [hr] at hrm
    have ha : alwB m zs y = true := by
      cases ha : alwB m zs y with
      | true => rfl
      | false =>
        obtain ⟨st, hst⟩ := h.run
        have hnone : runD m l (os.take (k + 1)) = none := by
          rw [hrm]
          unfold stepD
          rw [clAt_of hy]
          simp [ha]
        rw [runD_none hnone] at hst
        cases hst
    refine ⟨x.inc i, alwZ m zs y, ?_, ?_⟩
    · rw [List.take_add_one, hz]
      exact Ords.more ho hi hnq hy hin ha
    · rw [hrm]
      unfold stepD
      rw [clAt_of hy]
      simp [ha]
/-- Every order can be come to. -/
theorem LegOk.ords {l : List Cl} {m : Nat} {os : List Int} (hh : histB l = true) (h : LegOk l m os) : ∃ x zs, Ords l m x zs os ∧ thrB l x 4 = true := by
  obtain ⟨x, zs, ho, _⟩ := h.step hh os.length (Nat.le_refl _)
  rw [List.take_length] at ho
  refine ⟨x, zs, ho, List.all_eq_true.2 fun i hi => ?_⟩
  cases hn : nxt l x i with
  | none => exact thrI_none hn
  | some j =>
    obtain ⟨j, rfl, hj, _⟩ := nxt_is hn
    obtain ⟨d, hd⟩ : ∃ d, l[j]? = some d := ⟨l[j], by simp⟩
    rw [thrI_some hn hd, decide_eq_true_iff]
    by_cases hc : d.code = 0
    · exact hc
    · have hm := seen_at h.seen hj (by rw [clAt_of hd]; exact hc)
      obtain ⟨j', e, _, h2⟩ := (ho.ok hh).mem _ hm
      have : j' = j := by omega
      subst this
      rw [dn_not hn] at h2
      cases h2
/-! ### Where all calls have ended -/
def cntO (l : List Cl) (k : Nat) : Nat := (mineL l k 0).length + (mineL l k 1).length + (mineL l k 2).length + (mineL l k 3).length
theorem cntO_all {l : List Cl} (hh : histB l = true) : ∀ k, k ≤ l.length → cntO l k = k
  | 0, _ => rfl
  | k + 1, hk => by
    have ih := cntO_all hh k (by omega)
    obtain ⟨x, hx⟩ : ∃ x, l[k]? = some x := ⟨l[k], by simp⟩
    obtain ⟨_, _, _, _, w0, w3, _⟩ := fits_ended (hist_fits hh hx)
    unfold cntO at ih ⊢
    simp only [mineL, clAt_of hx, List.length_append]
    have hc : x.who = 0 ∨ x.who = 1 ∨ x.who = 2 ∨ x.who = 3 := by omega
    rcases hc with e | e | e | e <;> simp [e] <;> omega
theorem Ords.full {l : List Cl} {m : Nat} (hh : histB l = true) (he : ∀ x ∈ l, x.code ≠ 0) {x : C4} {zs os : List Int} (h : Ords l m x zs os) (hin : InC l x) (ht : thrB l x 4 = true) (hlen : os.length = x.sum) : os.length = l.length := by
  have hat : ∀ i, i < 4 → x.at i = (mineL l l.length i).length := fun i hi => by
    have h1 := hin i hi
    unfold ownL at h1
    rcases Nat.lt_or_ge (x.at i) (mineL l l.length i).length with h2 | h2
    · exfalso
      have hn : nxt l x i = some (mineL l l.length i)[x.at i] := by unfold nxt ownL; simp
      obtain ⟨j, e, hj, _⟩ := nxt_is hn
      rw [e] at hn
      obtain ⟨d, hd⟩ : ∃ d, l[j]? = some d := ⟨l[j], by simp⟩
      have h3 : thrI l x i = true := List.all_eq_true.1 ht i (List.mem_range.2 hi)
      rw [thrI_some hn hd, decide_eq_true_iff] at h3
      exact he d (List.mem_of_getElem? hd) h3
    · omega
  have h0 := hat 0 (by omega)
  have h1 := hat 1 (by omega)
  have h2 := hat 2 (by omega)
  have h3 := hat 3 (by omega)
  have hc := cntO_all hh l.length (Nat.le_refl _)
  unfold cntO at hc
  have hs : x.sum = x.at 0 + x.at 1 + x.at 2 + x.at 3 := rfl
  omega
end Go.Proofs.Ytheginjjncnheaa
