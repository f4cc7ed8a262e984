import Derived.Test.YtnhoedodnbifdaaDgPlan
/-! Greedy: the program's. -/
namespace Go.Proofs.Ytnhoedodnbifdaa
set_option linter.unusedVariables false
set_option maxRecDepth 20000
open Go.RowKit Go.HeapKit

/-- In a round, behind the first j nodes of Q: what the heap holds. -/
def SQ (n : Nat) (l : List Ed) (T T' : Nat → Int) (Q : List Nat) (x : Nat) : Prop := x < n ∧ x ∉ Q ∧ T x = 0 ∧ lft l T' x = 0
theorem mem_rds_lft {n : Nat} {l : List Ed} {T : Nat → Int} {x : Nat} : x ∈ rds n l T ↔ x < n ∧ T x = 0 ∧ lft l T x = 0 := by
  rw [rds, List.mem_filter, List.mem_range, rdy_lft]
theorem SQ_start (n P : Nat) (l : List Ed) (T : Nat → Int) (x : Nat) : x ∈ (rds n l T).drop P ↔ SQ n l T T ((rds n l T).take P) x := by
  have nd := rds_nodup n l T
  rw [← List.take_append_drop P (rds n l T)] at nd
  have hdis := (List.nodup_append.1 nd).2.2
  unfold SQ
  constructor
  · intro h
    have h1 := List.mem_of_mem_drop h
    rw [rds, List.mem_filter, List.mem_range, rdy_lft] at h1
    exact ⟨h1.1, fun h2 => hdis x h2 x h rfl, h1.2.1, h1.2.2⟩
  · rintro ⟨h1, h2, h3, h4⟩
    have hm : x ∈ rds n l T := by
      rw [rds, List.mem_filter, List.mem_range, rdy_lft]
      exact ⟨h1, h3, h4⟩
    rw [← List.take_append_drop P (rds n l T)] at hm
    rcases List.mem_append.1 hm with h | h
    · exact absurd h h2
    · exact h
theorem SQ_end (n P : Nat) (l : List Ed) (T : Nat → Int) (t : Int) (ht : t ≠ 0) (x : Nat) : SQ n l T (stepT n P l t T) ((rds n l T).take P) x ↔ x ∈ rds n l (stepT n P l t T) := by
  rw [mem_rds_lft]
  unfold SQ
  constructor
  · rintro ⟨h1, h2, h3, h4⟩
    exact ⟨h1, by unfold stepT; rw [if_neg h2]; exact h3, h4⟩
  · rintro ⟨h1, h2, h3⟩
    have h5 : x ∉ (rds n l T).take P := fun h => by
      unfold stepT at h2
      rw [if_pos h] at h2
      exact ht h2
    exact ⟨h1, h5, by unfold stepT at h2; rw [if_neg h5] at h2; exact h2, h3⟩
theorem mem_flw_bef {l : List Ed} {v i : Nat} (hp : ∀ e ∈ l, 0 ≤ e.f) : (i : Int) ∈ flw l v ↔ (v : Int) ∈ bef l i := by
  rw [mem_flw, mem_bef]
  constructor
  · rintro ⟨e, he, h1, h2⟩; exact ⟨e, he, h2, h1⟩
  · rintro ⟨e, he, h1, h2⟩; exact ⟨e, he, h2, h1⟩
/-- One node more of a round is done. -/
theorem SQ_step {n : Nat} {l : List Ed} (hd : Dag (n : Int) l) {T : Nat → Int} (hcl : ∀ i, T i ≠ 0 → ∀ a ∈ bef l i, T a.toNat ≠ 0) {P : Nat} {t : Int} (ht : t ≠ 0) {j q : Nat} (hq : ((rds n l T).take P)[j]? = some q) :
    q < n ∧ putT T (((rds n l T).take P).take j) t q = 0 ∧ (∀ x : Nat, (x : Int) ∈ flw l q → ¬ SQ n l T (putT T (((rds n l T).take P).take j) t) ((rds n l T).take P) x) ∧
      (∀ i, lft l (putT T (((rds n l T).take P).take (j + 1)) t) i + (flw l q).count (i : Int) = lft l (putT T (((rds n l T).take P).take j) t) i) ∧
      ∀ x, SQ n l T (putT T (((rds n l T).take P).take (j + 1)) t) ((rds n l T).take P) x ↔ SQ n l T (putT T (((rds n l T).take P).take j) t) ((rds n l T).take P) x ∨ ((x : Int) ∈ flw l q ∧ (lft l (putT T (((rds n l T).take P).take j) t) x : Int) - ((flw l q).count (x : Int) : Nat) = 0) := by
  have hp : ∀ e ∈ l, 0 ≤ e.f := fun e he => (hd.ok e he).1
  have hqm : q ∈ (rds n l T).take P := List.mem_of_getElem? hq
  have hqr := mem_rds.1 (List.mem_of_mem_take hqm)
  have nd : ((rds n l T).take P).Nodup := (List.take_sublist P _).nodup (rds_nodup n l T)
  have hnq : q ∉ ((rds n l T).take P).take j := by
    intro h
    have hjl := (List.getElem?_eq_some_iff.1 hq).1
    have hdr : q ∈ ((rds n l T).take P).drop j := by
      rw [List.drop_eq_getElem_cons hjl]
      rw [List.getElem?_eq_getElem hjl] at hq
      injection hq with hq
      rw [hq]
      exact List.mem_cons_self ..
    rw [← List.take_append_drop j ((rds n l T).take P)] at nd
    exact (List.nodup_append.1 nd).2.2 q h q hdr rfl
  have h0 : putT T (((rds n l T).take P).take j) t q = 0 := by
    unfold putT
    rw [if_neg hnq]
    exact hqr.2.1
  have hst : putT T (((rds n l T).take P).take (j + 1)) t = setT (putT T (((rds n l T).take P).take j) t) q t := by
    rw [List.take_add_one, hq]
    exact put_snoc _ _ _ _
  have hl : ∀ i, lft l (putT T (((rds n l T).take P).take (j + 1)) t) i + (flw l q).count (i : Int) = lft l (putT T (((rds n l T).take P).take j) t) i := by
    intro i
    rw [hst]
    exact lft_set l _ q i t hp h0 ht
  have hfl : ∀ x : Nat, (x : Int) ∈ flw l q → x < n ∧ x ∉ (rds n l T).take P ∧ T x = 0 := by
    intro x hx
    have hb := (mem_flw_bef hp).1 hx
    obtain ⟨e, he, h1, h2⟩ := mem_flw.1 hx
    have hok := hd.ok e he
    refine ⟨by omega, fun hm => ?_, ?_⟩
    · have := (mem_rds.1 (List.mem_of_mem_take hm)).2.2 (q : Int) hb
      rw [Int.toNat_natCast] at this
      exact this hqr.2.1
    · by_cases hz : T x = 0
      · exact hz
      · have := hcl x hz (q : Int) hb
        rw [Int.toNat_natCast] at this
        exact absurd hqr.2.1 this
  refine ⟨hqr.1, h0, fun x hx hs => ?_, hl, fun x => ?_⟩
  · have h1 := hl x
    have h2 : 0 < (flw l q).count (x : Int) := List.count_pos_iff.2 hx
    have := hs.2.2.2
    omega
  · have h1 := hl x
    unfold SQ
    constructor
    · rintro ⟨a1, a2, a3, a4⟩
      by_cases hx : (x : Int) ∈ flw l q
      · exact .inr ⟨hx, by omega⟩
      · have : (flw l q).count (x : Int) = 0 := List.count_eq_zero.2 hx
        exact .inl ⟨a1, a2, a3, by omega⟩
    · rintro (⟨a1, a2, a3, a4⟩ | ⟨hx, h2⟩)
      · exact ⟨a1, a2, a3, by omega⟩
      · obtain ⟨b1, b2, b3⟩ := hfl x hx
        exact ⟨b1, b2, b3, by omega⟩
end Go.Proofs.Ytnhoedodnbifdaa
