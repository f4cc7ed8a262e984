import Derived.Test.YtheginjjncnheaaHoDet
/-! The order that is told is an order. -/
namespace Go.Proofs.Ytheginjjncnheaa
set_option linter.unusedVariables false
set_option maxRecDepth 20000
set_option linter.unusedSimpArgs false
open Go.RowKit Go.HeapKit

/-- A state come to by an order. -/
inductive Ords (l : List Cl) (most : Nat) : C4 → List Int → List Int → Prop
  | nil : Ords l most c0 [] []
  | more {x : C4} {zs os : List Int} {i q : Nat} {y : Cl} : Ords l most x zs os → i < 4 → nxt l x i = some (q : Int) → l[q]? = some y → inB l x y 4 = true → alwB most zs y = true → Ords l most (x.inc i) (alwZ most zs y) (os ++ [(q : Int)])
theorem Ords.rch {l : List Cl} {most : Nat} {x : C4} {zs os : List Int} (h : Ords l most x zs os) : Rch l most x zs := by
  induction h with
  | nil => exact .nil
  | more _ hi hn hy hin ha ih => exact .more ih hi hn hy hin ha
theorem Rch.ords {l : List Cl} {most : Nat} {x : C4} {zs : List Int} (h : Rch l most x zs) : ∃ os, Ords l most x zs os := by
  induction h with
  | nil => exact ⟨[], .nil⟩
  | more _ hi hn hy hin ha ih => obtain ⟨os, ho⟩ := ih; exact ⟨_, .more ho hi hn hy hin ha⟩
theorem C4.inc_inj {x y : C4} {i : Nat} (hi : i < 4) (h : x.inc i = y.inc i) : x = y := C4.ext4 fun j hj => by
  have h1 : (x.inc i).at j = (y.inc i).at j := by rw [h]
  rw [C4.at_inc x hi hj, C4.at_inc y hi hj] at h1
  split at h1 <;> omega
theorem Way.ords {l : List Cl} {most : Nat} {M : List (C4 × Int)} (hh : histB l = true) (hP : Path l most M) {x : C4} {os : List Int} (h : Way l M x os) : ∃ zs, Ords l most x zs os := by
  induction h with
  | nil => exact ⟨[], .nil⟩
  | @more k' i q os _ hi hw hl ih =>
    obtain ⟨zs, ho⟩ := ih
    rcases hP _ _ hl with ⟨_, e⟩ | ⟨k2, i2, q2, y, zs2, hi2, e1, e2, hn, hy, hr, hin, ha⟩
    · omega
    · have e3 : q2 = q := by omega
      subst e3
      obtain ⟨q3, e4, _, hw3⟩ := nxt_is hn
      have e5 : q3 = q2 := by omega
      subst e5
      have e6 : i2 = i := by omega
      subst e6
      have e7 := C4.inc_inj hi e1
      subst e7
      have e8 := hr.same hh ho.rch
      subst e8
      exact ⟨_, .more ho hi hn hy hin ha⟩
theorem getD_left {os : List Int} {z : Int} {k : Nat} (hk : k < os.length) : (os ++ [z]).getD k 0 = os.getD k 0 := by
  simp [List.getD, List.getElem?_append_left hk]
theorem getD_last {os : List Int} {z : Int} : (os ++ [z]).getD os.length 0 = z := by
  simp [List.getD]
theorem idx_left {l : List Cl} {os : List Int} {z : Int} {k : Nat} (hk : k < os.length) : idxB l (os ++ [z]) k = idxB l os k := by
  unfold idxB
  rw [getD_left hk, List.take_append_of_le_length (by omega)]
theorem tm_left {l : List Cl} {os : List Int} {z : Int} {k : Nat} (hk : k < os.length) : tmB l (os ++ [z]) k = tmB l os k := by
  unfold tmB
  rw [getD_left hk, List.take_append_of_le_length (by omega)]
theorem range_left {p p' : Nat → Bool} {n : Nat} (h : ∀ k, k < n → p k = p' k) (hp : (List.range n).all p' = true) : (List.range n).all p = true := List.all_eq_true.2 fun k hk => by
  rw [h k (List.mem_range.1 hk)]
  exact List.all_eq_true.1 hp k hk
structure OrdOk (l : List Cl) (most : Nat) (x : C4) (zs os : List Int) : Prop where
  mem : ∀ z ∈ os, ∃ q : Nat, z = q ∧ q < l.length ∧ dn l x q = true
  has : ∀ q : Nat, dn l x q = true → (q : Int) ∈ os
  pre : preB l os os.length = true
  time : timeB l os os.length = true
  run : runD most l os = some zs
theorem Ords.ok {l : List Cl} {most : Nat} (hh : histB l = true) {x : C4} {zs os : List Int} (h : Ords l most x zs os) : OrdOk l most x zs os := by
  induction h with
  | nil => exact ⟨fun z hz => (by cases hz), fun q hq => (by rw [dn_start] at hq; cases hq), rfl, rfl, rfl⟩
  | @more x zs os i q y ho hi hn hy hin ha ih =>
    have hql := (List.getElem?_eq_some_iff.1 hy).1
    refine ⟨fun z hz => ?_, fun q' hq' => ?_, ?_, ?_, ?_⟩
    · rcases List.mem_append.1 hz with hz | hz
      · obtain ⟨q', e, h1, h2⟩ := ih.mem z hz
        exact ⟨q', e, h1, by rw [dn_inc hi hn, h2]; rfl⟩
      · rw [List.mem_singleton] at hz
        exact ⟨q, hz, hql, by rw [dn_inc hi hn]; simp⟩
    · rw [dn_inc hi hn, Bool.or_eq_true] at hq'
      rcases hq' with h1 | h1
      · exact List.mem_append_left _ (ih.has q' h1)
      · have e : q' = q := by simpa using h1
        subst e
        simp
    · rw [List.length_append, List.length_singleton]
      unfold preB
      rw [range_more, range_left (fun k hk => idx_left hk) ih.pre]
      have hnc : ¬ (q : Int) ∈ os := fun hm => by
        obtain ⟨q', e, _, h2⟩ := ih.mem _ hm
        have e2 : q' = q := by omega
        subst e2
        rw [dn_not hn] at h2
        cases h2
      unfold idxB
      rw [getD_last, List.take_left]
      simp [hnc]
      omega
    · rw [List.length_append, List.length_singleton]
      unfold timeB
      rw [range_more, range_left (fun k hk => tm_left hk) ih.time]
      unfold tmB
      rw [getD_last, List.take_left, Bool.true_and]
      refine List.all_eq_true.2 fun z hz => ?_
      obtain ⟨p, rfl, hp, hd⟩ := ih.mem z hz
      have hpa : l[p]? = some l[p] := by simp
      rw [clAt_of hy, clAt_of hpa]
      have ht := (ho.rch.told hh).time p q l[p] y hpa hy hd (dn_not hn)
      unfold aheadB
      simp only [Bool.not_eq_true', decide_eq_false_iff_not]
      rintro ⟨h1, h2⟩
      have := ht h1
      omega
    · unfold runD
      rw [List.foldl_append]
      have hr := ih.run
      unfold runD at hr
      rw [hr]
      simp only [List.foldl_cons, List.foldl_nil]
      unfold stepD
      rw [clAt_of hy]
      simp [ha]
/-- The order that is told is an order. -/
theorem Ords.legal {l : List Cl} {most : Int} (hb : badE l most = 0) {x : C4} {zs os : List Int} (h : Ords l most.toNat x zs os) (ht : thrB l x 4 = true) : legalB l most os = true := by
  have hh := (badE_zero hb).2.2
  have hk := h.ok hh
  have hs : seenB l os l.length = true := List.all_eq_true.2 fun n hn => by
    have hlt := List.mem_range.1 hn
    cases hd : dn l x n with
    | true => simp [hk.has n hd]
    | false =>
      have := thr_ended hh ht (q := n) (c := l[n]) (by simp) hd
      rw [clAt_of (l := l) (j := n) (x := l[n]) (by simp)]
      simp [this]
  unfold legalB
  rw [hk.pre, hs, hk.time, hk.run]
  simp [hb]
end Go.Proofs.Ytheginjjncnheaa
