import Derived.WalkKit
import Derived.Test.YtlbkfehakomicaaDoorPkBC
import Derived.WalkMore
import Derived.Shelf.RegionOpenPlain
import Derived.Test.YtlbkfehakomicaaDoorPkBD
/-! A heap in a list, plainly. -/
namespace Go.Proofs.YtlbkfehakomicaaDoor.Dg
set_option linter.unusedVariables false
set_option maxRecDepth 20000

def at' (l : List Int) (i : Nat) : Int := l.getD i 0
theorem at_set (l : List Int) (i j : Nat) (x : Int) (hi : i < l.length) : at' (l.set i x) j = if j = i then x else at' l j := by
  unfold at'
  simp only [List.getD_eq_getElem?_getD, List.getElem?_set]
  by_cases e : i = j
  · subst e; simp [hi]
  · simp [e, Ne.symm e]
theorem at_get {l : List Int} {i : Nat} (hi : i < l.length) : l[i]? = some (at' l i) := by
  unfold at'; simp [hi]
theorem at_mem {l : List Int} {i : Nat} (hi : i < l.length) : at' l i ∈ l := by
  unfold at'; simp [hi]
theorem mem_at {l : List Int} {x : Int} (h : x ∈ l) : ∃ i, i < l.length ∧ at' l i = x := by
  obtain ⟨i, hi, rfl⟩ := List.mem_iff_getElem.1 h
  exact ⟨i, hi, by simp [at', hi]⟩
/-- Two elements exchanged. -/
def sw (l : List Int) (a b : Nat) : List Int := (l.set a (at' l b)).set b (at' l a)
theorem sw_len (l : List Int) (a b : Nat) : (sw l a b).length = l.length := by simp [sw]
theorem at_sw (l : List Int) (a b j : Nat) (ha : a < l.length) (hb : b < l.length) : at' (sw l a b) j = if j = b then at' l a else if j = a then at' l b else at' l j := by
  unfold sw
  rw [at_set _ _ _ _ (by simpa using hb), at_set _ _ _ _ ha]
theorem sw_perm (l : List Int) (a b : Nat) (ha : a < l.length) (hb : b < l.length) : (sw l a b).Perm l := by
  have h := Array.swap_perm (xs := l.toArray) (i := a) (j := b) (by simpa using ha) (by simpa using hb)
  have e : (l.toArray.swap a b (by simpa using ha) (by simpa using hb)).toList = sw l a b := by
    simp [Array.swap, sw, at', ha, hb]
  rw [← e]
  exact h.toList

/-- No element stands ahead of the one at half its place. -/
def Hp (l : List Int) : Prop := ∀ i, 0 < i → i < l.length → at' l ((i - 1) / 2) ≤ at' l i
/-- As 'Hp', but at one place, which may be too small there. -/
structure Up (l : List Int) (p : Nat) : Prop where
  pos : p < l.length
  rest : ∀ i, 0 < i → i < l.length → i ≠ p → at' l ((i - 1) / 2) ≤ at' l i
  skip : ∀ c, 0 < p → c < l.length → 0 < c → (c - 1) / 2 = p → at' l ((p - 1) / 2) ≤ at' l c
theorem Up.start {l : List Int} (h : Hp l) (x : Int) : Up (l ++ [x]) l.length := by
  have ha : ∀ i, i < l.length → at' (l ++ [x]) i = at' l i := fun i hi => by simp [at', List.getElem?_append_left hi]
  refine ⟨by simp, fun i h0 hi hne => ?_, fun c _ hc _ hp => ?_⟩
  · simp at hi
    rw [ha _ (by omega), ha _ (by omega)]
    exact h i h0 (by omega)
  · simp at hc; omega
theorem Up.done {l : List Int} {p : Nat} (h : Up l p) (hp : p = 0 ∨ ¬ at' l p < at' l ((p - 1) / 2)) : Hp l := by
  intro i h0 hi
  by_cases e : i = p
  · subst e; omega
  · exact h.rest i h0 hi e
theorem Up.step {l : List Int} {p : Nat} (h : Up l p) (h0 : 0 < p) (hlt : at' l p < at' l ((p - 1) / 2)) : Up (sw l p ((p - 1) / 2)) ((p - 1) / 2) := by
  have hp := h.pos
  have hu : (p - 1) / 2 < l.length := by omega
  have hs := fun j => at_sw l p ((p - 1) / 2) j hp hu
  refine ⟨by rw [sw_len]; exact hu, fun i hi0 hi hne => ?_, fun c hq hc hc0 hcp => ?_⟩
  · rw [sw_len] at hi
    rw [hs, hs]
    rw [if_neg (show ¬ i = (p - 1) / 2 from hne)]
    by_cases e1 : i = p
    · subst e1
      simp; omega
    · rw [if_neg e1]
      by_cases e2 : (i - 1) / 2 = (p - 1) / 2
      · rw [if_pos e2]
        have := h.rest i hi0 hi e1
        rw [e2] at this
        omega
      · rw [if_neg e2]
        by_cases e3 : (i - 1) / 2 = p
        · rw [if_pos e3]
          exact h.skip i h0 hi hi0 e3
        · rw [if_neg e3]
          exact h.rest i hi0 hi e1
  · rw [sw_len] at hc
    rw [hs, hs]
    have a1 : ¬ ((p - 1) / 2 - 1) / 2 = (p - 1) / 2 := by omega
    have a2 : ¬ ((p - 1) / 2 - 1) / 2 = p := by omega
    rw [if_neg a1, if_neg a2]
    have b1 : ¬ c = (p - 1) / 2 := by omega
    rw [if_neg b1]
    have hg := h.rest ((p - 1) / 2) (by omega) hu (by omega)
    by_cases e : c = p
    · rw [if_pos e]; exact hg
    · rw [if_neg e]
      have := h.rest c hc0 hc e
      rw [hcp] at this
      omega
/-- As 'Hp', but at one place, which may be too great there. -/
structure Dn (l : List Int) (p : Nat) : Prop where
  rest : ∀ i, 0 < i → i < l.length → (i - 1) / 2 ≠ p → at' l ((i - 1) / 2) ≤ at' l i
  skip : ∀ c, 0 < p → c < l.length → 0 < c → (c - 1) / 2 = p → at' l ((p - 1) / 2) ≤ at' l c
/-- The place with the lesser element; a place behind the end holds none. -/
def leastV (l : List Int) (a b : Nat) : Nat := if b < l.length ∧ at' l b < at' l a then b else a
def downV (l : List Int) (p : Nat) : Nat := leastV l p (leastV l (2 * p + 1) (2 * p + 2))
theorem down_cases (l : List Int) (p : Nat) : (downV l p = p ∧ (∀ c, c < l.length → 0 < c → (c - 1) / 2 = p → at' l p ≤ at' l c)) ∨
    (downV l p < l.length ∧ p < downV l p ∧ (downV l p - 1) / 2 = p ∧ at' l (downV l p) < at' l p ∧ ∀ c, c < l.length → 0 < c → (c - 1) / 2 = p → at' l (downV l p) ≤ at' l c) := by
  have hc : ∀ c, 0 < c → (c - 1) / 2 = p → c = 2 * p + 1 ∨ c = 2 * p + 2 := by intro c h0 h1; omega
  unfold downV
  by_cases e2 : 2 * p + 2 < l.length ∧ at' l (2 * p + 2) < at' l (2 * p + 1)
  · rw [show leastV l (2 * p + 1) (2 * p + 2) = 2 * p + 2 by unfold leastV; rw [if_pos e2]]
    unfold leastV
    by_cases e1 : 2 * p + 2 < l.length ∧ at' l (2 * p + 2) < at' l p
    · rw [if_pos e1]
      refine .inr ⟨e1.1, by omega, by omega, e1.2, fun c hl h0 h1 => ?_⟩
      rcases hc c h0 h1 with rfl | rfl <;> omega
    · rw [if_neg e1]
      refine .inl ⟨rfl, fun c hl h0 h1 => ?_⟩
      rcases hc c h0 h1 with rfl | rfl <;> omega
  · rw [show leastV l (2 * p + 1) (2 * p + 2) = 2 * p + 1 by unfold leastV; rw [if_neg e2]]
    unfold leastV
    by_cases e1 : 2 * p + 1 < l.length ∧ at' l (2 * p + 1) < at' l p
    · rw [if_pos e1]
      refine .inr ⟨e1.1, by omega, by omega, e1.2, fun c hl h0 h1 => ?_⟩
      rcases hc c h0 h1 with rfl | rfl <;> omega
    · rw [if_neg e1]
      refine .inl ⟨rfl, fun c hl h0 h1 => ?_⟩
      rcases hc c h0 h1 with rfl | rfl <;> omega
theorem Dn.done {l : List Int} {p : Nat} (h : Dn l p) (e : downV l p = p) : Hp l := by
  rcases down_cases l p with ⟨_, hc⟩ | ⟨_, h2, _⟩
  · intro i h0 hi
    by_cases hp : (i - 1) / 2 = p
    · rw [hp]; exact hc i hi h0 hp
    · exact h.rest i h0 hi hp
  · omega
theorem Dn.step {l : List Int} {p : Nat} (h : Dn l p) (hp : p < l.length) (e : downV l p ≠ p) : Dn (sw l p (downV l p)) (downV l p) := by
  rcases down_cases l p with ⟨h1, _⟩ | ⟨hl, hlt, hpar, hsm, hmin⟩
  · exact absurd h1 e
  · obtain ⟨q, hq⟩ : ∃ q, q = downV l p := ⟨_, rfl⟩
    rw [← hq] at hl hlt hpar hsm hmin ⊢
    have hs := fun j => at_sw l p q j hp hl
    refine ⟨fun i h0 hi hne => ?_, fun c hq0 hc hc0 hcp => ?_⟩
    · rw [sw_len] at hi
      rw [hs, hs]
      rw [if_neg hne]
      by_cases e1 : i = q
      · subst e1
        rw [if_pos hpar, if_pos rfl]; omega
      · rw [if_neg e1]
        by_cases e2 : i = p
        · subst e2
          rw [if_pos rfl, if_neg (by omega)]
          exact h.skip q h0 hl (by omega) hpar
        · rw [if_neg e2]
          by_cases e3 : (i - 1) / 2 = p
          · rw [if_pos e3]
            exact hmin i hi h0 e3
          · rw [if_neg e3]
            exact h.rest i h0 hi e3
    · rw [sw_len] at hc
      rw [hs, hs]
      rw [hpar, if_neg (by omega), if_pos rfl, if_neg (by omega), if_neg (by omega)]
      have := h.rest c hc0 hc (by omega)
      rw [hcp] at this
      exact this
theorem Hp.head {l : List Int} (h : Hp l) : ∀ i, i < l.length → at' l 0 ≤ at' l i := by
  intro i
  induction i using Nat.strongRecOn with
  | ind i ih =>
    intro hi
    by_cases e : i = 0
    · subst e; exact Int.le_refl _
    · have h1 := h i (by omega) hi
      have h2 := ih ((i - 1) / 2) (by omega) (by omega)
      omega
/-- Behind the exchange of the first and the last one, without the last one. -/
theorem Dn.start {l : List Int} (h : Hp l) (h0 : 0 < l.length) : Dn ((sw l 0 (l.length - 1)).take (l.length - 1)) 0 := by
  have hs := fun j => at_sw l 0 (l.length - 1) j h0 (by omega)
  have ht : ∀ j, j < l.length - 1 → at' ((sw l 0 (l.length - 1)).take (l.length - 1)) j = at' (sw l 0 (l.length - 1)) j := by
    intro j hj
    unfold at'
    simp [hj]
  have hlen : ((sw l 0 (l.length - 1)).take (l.length - 1)).length = l.length - 1 := by rw [List.length_take, sw_len]; omega
  refine ⟨fun i hi0 hi hne => ?_, fun c hq => by omega⟩
  rw [hlen] at hi
  rw [ht _ (by omega), ht _ (by omega), hs, hs]
  rw [if_neg (by omega), if_neg (by omega), if_neg (by omega), if_neg (by omega)]
  exact h i hi0 (by omega)
theorem popped_perm {l : List Int} (h0 : 0 < l.length) : ((sw l 0 (l.length - 1)).take (l.length - 1) ++ [at' l 0]).Perm l := by
  have e : (sw l 0 (l.length - 1)).take (l.length - 1) ++ [at' l 0] = sw l 0 (l.length - 1) := by
    have h1 : (sw l 0 (l.length - 1))[l.length - 1]? = some (at' l 0) := by
      rw [at_get (by rw [sw_len]; omega), at_sw l 0 _ _ h0 (by omega), if_pos rfl]
    have h2 := List.take_append_drop (l.length - 1) (sw l 0 (l.length - 1))
    have h3 : (sw l 0 (l.length - 1)).drop (l.length - 1) = [at' l 0] := by
      rw [List.drop_eq_getElem_cons (by rw [sw_len]; omega)]
      rw [List.getElem?_eq_getElem (by rw [sw_len]; omega)] at h1
      injection h1 with h1
      rw [h1, List.drop_eq_nil_of_le (by rw [sw_len]; omega)]
    rw [h3] at h2
    exact h2
  rw [e]
  exact sw_perm l 0 _ h0 (by omega)

/-- What a heap holds: a set of nodes. -/
structure Of (l : List Int) (S : Nat → Prop) : Prop where
  hp : Hp l
  nd : l.Nodup
  pos : ∀ x ∈ l, 0 ≤ x
  mem : ∀ x : Nat, (x : Int) ∈ l ↔ S x
theorem Of.push {l l' : List Int} {S : Nat → Prop} (h : Of l S) {x : Nat} (hx : ¬ S x) (hp : Hp l') (pm : l'.Perm (l ++ [(x : Int)])) : Of l' (fun y => S y ∨ y = x) := by
  have hnx : ¬ (x : Int) ∈ l := fun hm => hx ((h.mem x).1 hm)
  refine ⟨hp, pm.nodup_iff.2 ?_, fun y hy => ?_, fun y => ?_⟩
  · rw [List.nodup_append]
    exact ⟨h.nd, by simp, fun a ha b hb => by simp at hb; subst hb; exact fun e => hnx (e ▸ ha)⟩
  · have := pm.mem_iff.1 hy
    rcases List.mem_append.1 this with h1 | h1
    · exact h.pos y h1
    · simp at h1; omega
  · rw [pm.mem_iff, List.mem_append, h.mem, List.mem_singleton]
    constructor
    · rintro (h1 | h1)
      · exact .inl h1
      · exact .inr (by omega)
    · rintro (h1 | h1)
      · exact .inl h1
      · exact .inr (by omega)
theorem Of.pop {l l' : List Int} {S : Nat → Prop} (h : Of l S) {r : Int} (hp : Hp l') (pm : (l' ++ [r]).Perm l) : Of l' (fun y => S y ∧ (y : Int) ≠ r) := by
  have nd := pm.nodup_iff.2 h.nd
  rw [List.nodup_append] at nd
  obtain ⟨n1, _, n2⟩ := nd
  refine ⟨hp, n1, fun y hy => h.pos y (pm.mem_iff.1 (List.mem_append.2 (.inl hy))), fun y => ?_⟩
  rw [← h.mem, ← pm.mem_iff, List.mem_append]
  constructor
  · intro hy
    exact ⟨.inl hy, n2 _ hy r (by simp)⟩
  · rintro ⟨hy | hy, hne⟩
    · exact hy
    · simp at hy; exact absurd hy hne
theorem Of.first {l : List Int} {S : Nat → Prop} (h : Of l S) (h0 : 0 < l.length) : ∃ r : Nat, at' l 0 = r ∧ S r ∧ ∀ y, S y → r ≤ y := by
  have hm := at_mem h0
  have hp := h.pos _ hm
  refine ⟨(at' l 0).toNat, by omega, ?_, fun y hy => ?_⟩
  · rw [← h.mem, Int.toNat_of_nonneg hp]; exact hm
  · obtain ⟨i, hi, e⟩ := mem_at ((h.mem y).2 hy)
    have := h.hp.head i hi
    omega
theorem Of.congr {l : List Int} {S T : Nat → Prop} (h : Of l S) (e : ∀ x, S x ↔ T x) : Of l T := ⟨h.hp, h.nd, h.pos, fun x => (h.mem x).trans (e x)⟩
end Go.Proofs.YtlbkfehakomicaaDoor.Dg
/-! The heap in a plan. -/
namespace Go.Proofs.YtlbkfehakomicaaDoor.Dg
set_option linter.unusedVariables false
set_option maxRecDepth 20000
open Go.RowKit Go.HeapKit

def lessV : Value := .func (.func 53) #[] #[]
/-- A plan's cells, its heap's row. -/
structure HpIn (w : World) (p base : Nat) (L Lf Tm v : Value) (hl : List Int) : Prop where
  blk : w.heap[p]? = some (.cells #[L, Lf, v, lessV, Tm] 99 (0, 0))
  row : w.ownsRow base 3 1 v hl.length (iv hl)
section
variable {w w' : World} {p base : Nat} {L Lf Tm v : Value} {hl : List Int}
theorem HpIn.kept {S : Nat → Prop} (h : HpIn w p base L Lf Tm v hl) (hk : Keeps S w w') (hp : ¬ S p) (hv : ∀ g, v.ownBlock = some g → ¬ S g) : HpIn w' p base L Lf Tm v hl :=
  ⟨blk_kept h.blk hk hp, row_kept h.row hk hv⟩
theorem HpIn.more (h : HpIn w p base L Lf Tm v hl) (hk : Keeps None w w') : HpIn w' p base L Lf Tm v hl := h.kept hk (fun f => f) (fun _ _ f => f)
theorem HpIn.np (h : HpIn w p base L Lf Tm v hl) : ¬ v.ownBlock = some p := fun e => absurd (own_type h.row e h.blk) (by decide)
theorem HpIn.c0 (h : HpIn w p base L Lf Tm v hl) : w.cell? ⟨p, 0, none⟩ = some L := (blk_cell h.blk 0).trans rfl
theorem HpIn.c1 (h : HpIn w p base L Lf Tm v hl) : w.cell? ⟨p, 1, none⟩ = some Lf := (blk_cell h.blk 1).trans rfl
theorem HpIn.c2 (h : HpIn w p base L Lf Tm v hl) : w.cell? ⟨p, 2, none⟩ = some v := (blk_cell h.blk 2).trans rfl
theorem HpIn.c3 (h : HpIn w p base L Lf Tm v hl) : w.cell? ⟨p, 3, none⟩ = some lessV := (blk_cell h.blk 3).trans rfl
theorem HpIn.c4 (h : HpIn w p base L Lf Tm v hl) : w.cell? ⟨p, 4, none⟩ = some Tm := (blk_cell h.blk 4).trans rfl
theorem HpIn.free (h : HpIn w p base L Lf Tm v hl) (i : Nat) : w.frozen? ⟨p, i, none⟩ = false := blk_free h.blk i
end
theorem empty_any (p base : Nat) (L Lf Tm v : Value) (hl : List Int) (w : World) (h : HpIn w p base L Lf Tm v hl) :
    Calls Tryd.prog 36 #[.pointer (some ⟨p, 2, none⟩)] w fun e w' => e = .returned (.bool (decide (hl.length = 0))) ∧ w' = w := by
  obtain ⟨a, c, rfl⟩ := row_shape h.row
  have c2 := h.c2
  generalize hn : hl.length = n at c2 ⊢
  clear hn h
  by_cases e : n = 0
  · have e1 : ((n : Int) == 0) = true := by simpa using e
    have E : Hid (n = 0) := e
    clear e
    go_enter Tryd.func36, Tryd.ntmps36
    go_wp2_with fail
    go_ret
    exact ⟨by simp [E.out], rfl⟩
  · have e1 : ((n : Int) == 0) = false := by simpa using e
    go_enter Tryd.func36, Tryd.ntmps36
    go_wp2_with fail
    go_ret
    exact ⟨by simp [e], rfl⟩
theorem less_any (a b : Int) (w : World) : Calls Tryd.prog 53 #[.int .i64 a, .int .i64 b] w fun e w' => e = .returned (.bool (decide (a < b))) ∧ w' = w := by
  by_cases e : a < b
  · go_enter Tryd.func53, Tryd.ntmps53
    go_wp2_with fail
    go_ret
    exact ⟨by simp [e], rfl⟩
  · go_enter Tryd.func53, Tryd.ntmps53
    go_wp2_with fail
    go_ret
    exact ⟨by simp [e], rfl⟩
set_option maxHeartbeats 1600000 in
theorem swap_any (p base : Nat) (L Lf Tm v : Value) (hl : List Int) (i j : Nat) (w : World) (h : HpIn w p base L Lf Tm v hl) (hi : i < hl.length) (hj : j < hl.length) (hn : hl.length ≤ 4096) :
    Calls Tryd.prog 65 #[.pointer (some ⟨p, 2, none⟩), .int .i64 i, .int .i64 j] w fun e w' => e = .returned (.tuple #[]) ∧ HpIn w' p base L Lf Tm v (sw hl i j) ∧ Keeps (fun q => v.ownBlock = some q) w w' := by
  have mixed : Tryd.prog.follows Departure.mixedOrders = true := by kernel_rfl
  obtain ⟨a, c, rfl⟩ := row_shape h.row
  have c2 := h.c2
  obtain ⟨g, rfl, c0, z0⟩ := row_at h.row (at_get hi)
  obtain ⟨g', e', c1, z1⟩ := row_at h.row (at_get hj)
  injection e' with e'
  injection e' with e'
  subst e'
  have hq := row_set (row_set h.row i (.int .i64 (at' hl j))) j (.int .i64 (at' hl i))
  rw [iv_set, iv_set] at hq
  have hkk : Keeps (fun q => (Value.slice (some ⟨g, 0, none⟩) hl.length c).ownBlock = some q) w ((w.setCell ⟨g, i, none⟩ (.int .i64 (at' hl j))).setCell ⟨g, j, none⟩ (.int .i64 (at' hl i))) :=
    ((Keeps.refl (fun q => (Value.slice (some ⟨g, 0, none⟩) hl.length c).ownBlock = some q) w).andSet (x := ⟨g, i, none⟩) (.inl rfl) _).andSet (x := ⟨g, j, none⟩) (.inl rfl) _
  have hlen : (sw hl i j).length = hl.length := sw_len hl i j
  have HN : Hid (HpIn ((w.setCell ⟨g, i, none⟩ (.int .i64 (at' hl j))).setCell ⟨g, j, none⟩ (.int .i64 (at' hl i))) p base L Lf Tm (.slice (some ⟨g, 0, none⟩) hl.length c) (sw hl i j) ∧ Keeps (fun q => (Value.slice (some ⟨g, 0, none⟩) hl.length c).ownBlock = some q) w ((w.setCell ⟨g, i, none⟩ (.int .i64 (at' hl j))).setCell ⟨g, j, none⟩ (.int .i64 (at' hl i)))) :=
    ⟨⟨blk_kept h.blk hkk h.np, by rw [hlen]; exact hq⟩, hkk⟩
  obtain ⟨u, hu⟩ : ∃ u, u = at' hl i := ⟨_, rfl⟩
  obtain ⟨u', hu'⟩ : ∃ u', u' = at' hl j := ⟨_, rfl⟩
  obtain ⟨n, hnn⟩ : ∃ n, n = hl.length := ⟨_, rfl⟩
  rw [← hu] at c0 HN
  rw [← hu'] at c1 HN
  rw [← hnn] at c2 HN hi hj ⊢
  have i2 : (i : Int) < (n : Int) := by omega
  have i3 : (j : Int) < (n : Int) := by omega
  have i4 : ¬ n = 0 := by omega
  clear hq hkk hlen hu hu' h hnn
  by_cases e : i = j
  · subst e
    have eu : u' = u := by
      rw [c0] at c1
      simpa using c1.symm
    subst eu
    clear c1 z1
    go_enter Tryd.func65, Tryd.ntmps65
    go_wp2_with fail
    go_region_o
    all_goals go_wp2_with fail
    all_goals go_end0
    all_goals exact ⟨rfl, HN.out.1.more (Keeps.drew None _), HN.out.2.andDrew⟩
  · have i5 : ¬ i = j := e
    clear e
    go_enter Tryd.func65, Tryd.ntmps65
    go_wp2_with fail
    go_region_o
    all_goals go_wp2_with fail
    all_goals go_end0
    all_goals exact ⟨rfl, HN.out.1.more (Keeps.drew None _), HN.out.2.andDrew⟩
set_option maxHeartbeats 3200000 in
theorem least_any (p base : Nat) (L Lf Tm v : Value) (hl : List Int) (i j : Nat) (w : World) (h : HpIn w p base L Lf Tm v hl) (hij : j < hl.length → i < hl.length) (hn : hl.length ≤ 4096) (hi4 : i ≤ 9000) (hj4 : j ≤ 9000) :
    Calls Tryd.prog 76 #[.pointer (some ⟨p, 2, none⟩), .int .i64 i, .int .i64 j] w fun e w' => e = .returned (.int .i64 (leastV hl i j : Nat)) ∧ Keeps None w w' := by
  obtain ⟨a, c, rfl⟩ := row_shape h.row
  have c2 := h.c2
  have c3 := h.c3
  unfold lessV at c3
  by_cases hj : j < hl.length
  · obtain ⟨g, rfl, c0, _⟩ := row_at h.row (at_get (hij hj))
    obtain ⟨g', e', c1, _⟩ := row_at h.row (at_get hj)
    injection e' with e'
    injection e' with e'
    subst e'
    have HL : Hid (leastV hl i j = if at' hl j < at' hl i then j else i) := by
      show _ = _
      unfold leastV
      by_cases e : at' hl j < at' hl i
      · rw [if_pos ⟨hj, e⟩, if_pos e]
      · rw [if_neg (fun h => e h.2), if_neg e]
    have hi := hij hj
    obtain ⟨u, hu⟩ : ∃ u, u = at' hl i := ⟨_, rfl⟩
    obtain ⟨u', hu'⟩ : ∃ u', u' = at' hl j := ⟨_, rfl⟩
    obtain ⟨n, hnn⟩ : ∃ n, n = hl.length := ⟨_, rfl⟩
    rw [← hu] at c0 HL
    rw [← hu'] at c1 HL
    rw [← hnn] at c2 hi hj
    have i2 : (i : Int) < (n : Int) := by omega
    have i3 : (j : Int) < (n : Int) := by omega
    have i4 : ¬ n = 0 := by omega
    clear hu hu' h hnn hij
    go_enter Tryd.func76, Tryd.ntmps76
    by_cases e : u' < u
    · go_upto_region 1 with fail
      go_region_held3 (fun w' => w'.cell? ⟨p, 2, none⟩ = some (.slice (some ⟨g, 0, none⟩) n c) ∧ w'.cell? ⟨p, 3, none⟩ = some (.func (.func 53) #[] #[]) ∧ w'.cell? ⟨g, i, none⟩ = some (.int .i64 u) ∧ w'.cell? ⟨g, j, none⟩ = some (.int .i64 u')) (go_keep) (first
        | (go_at_call 53; refine (less_any _ _ _).mono ?_; rintro _ w4 ⟨rfl, hw⟩; have hw2 := hw.symm; subst hw2; clear hw))
      all_goals go_wp2_with fail
      all_goals go_ret
      all_goals exact ⟨by rw [HL.out, if_pos e]; rfl, Keeps.drew None w⟩
    · go_upto_region 1 with fail
      go_region_held3 (fun w' => w'.cell? ⟨p, 2, none⟩ = some (.slice (some ⟨g, 0, none⟩) n c) ∧ w'.cell? ⟨p, 3, none⟩ = some (.func (.func 53) #[] #[]) ∧ w'.cell? ⟨g, i, none⟩ = some (.int .i64 u) ∧ w'.cell? ⟨g, j, none⟩ = some (.int .i64 u')) (go_keep) (first
        | (go_at_call 53; refine (less_any _ _ _).mono ?_; rintro _ w4 ⟨rfl, hw⟩; have hw2 := hw.symm; subst hw2; clear hw))
      all_goals go_wp2_with fail
      all_goals go_ret
      all_goals exact ⟨by rw [HL.out, if_neg (by omega)]; rfl, Keeps.drew None w⟩
  · have HL : Hid (leastV hl i j = i) := by
      show _ = _
      unfold leastV
      rw [if_neg (fun h => hj h.1)]
    obtain ⟨n, hnn⟩ : ∃ n, n = hl.length := ⟨_, rfl⟩
    rw [← hnn] at c2 hj
    have i3 : ¬ (j : Int) < (n : Int) := by omega
    clear h hnn hij
    go_enter Tryd.func76, Tryd.ntmps76
    go_upto_region 1 with fail
    go_quiet (fail)
    all_goals go_wp2_with fail
    all_goals go_ret
    all_goals exact ⟨by rw [HL.out]; rfl, Keeps.drewN None w _⟩
end Go.Proofs.YtlbkfehakomicaaDoor.Dg
/-! The heap in a plan: down, in, out. -/
namespace Go.Proofs.YtlbkfehakomicaaDoor.Dg
set_option linter.unusedVariables false
set_option maxRecDepth 20000
open Go.RowKit Go.HeapKit

set_option maxHeartbeats 1600000 in
theorem sink_any (p base : Nat) (L Lf Tm v : Value) (hl : List Int) (w : World) (h : HpIn w p base L Lf Tm v hl) (hd : Dn hl 0) (hn : hl.length ≤ 4096) :
    Calls Tryd.prog 66 #[.pointer (some ⟨p, 2, none⟩)] w fun e w' => ∃ hl', e = .returned (.tuple #[]) ∧ HpIn w' p base L Lf Tm v hl' ∧ Hp hl' ∧ hl'.Perm hl ∧ Keeps (fun q => v.ownBlock = some q) w w' := by
  have H : Hid (HpIn w p base L Lf Tm v hl ∧ Dn hl 0) := ⟨h, hd⟩
  clear h hd
  go_enter Tryd.func66, Tryd.ntmps66
  go_wp2_with fail
  go_loopw [2, 3] (fun s2 _ wr => ∃ (i : Nat) (hl' : List Int), s2 = .int .i64 i ∧ (i = 0 ∨ i < hl.length) ∧ HpIn wr p base L Lf Tm v hl' ∧ Dn hl' i ∧ hl'.Perm hl ∧ Keeps (fun q => v.ownBlock = some q) w wr) (fun s2 _ _ => hl.length - (intOf s2).toNat)
  case atStart => exact ⟨0, hl, rfl, .inl rfl, H.out.1, H.out.2, List.Perm.refl _, Keeps.refl _ _⟩
  case round =>
    obtain ⟨i, hl', rfl, hi, hI, hD, hP, hk⟩ := hrel
    have hlen : hl'.length = hl.length := hP.length_eq
    have HI : Hid (HpIn wr p base L Lf Tm v hl' ∧ Dn hl' i ∧ hl'.Perm hl ∧ Keeps (fun q => v.ownBlock = some q) w wr ∧ hl'.length = hl.length ∧ (i = 0 ∨ i < hl.length)) := ⟨hI, hD, hP, hk, hlen, hi⟩
    have hi4 : i ≤ 4096 := by omega
    clear hI hD hP hk hlen hi
    go_wp2_with fail
    have e1 : 2 * (i : Int) + 1 = ((2 * i + 1 : Nat) : Int) := by omega
    have e2 : 2 * (i : Int) + 2 = ((2 * i + 2 : Nat) : Int) := by omega
    rw [e1, e2]
    have hl5 := HI.out.2.2.2.2.1
    refine (least_any p base L Lf Tm v hl' (2 * i + 1) (2 * i + 2) wr HI.out.1 (by omega) (by omega) (by omega) (by omega)).mono ?_
    rintro _ w2 ⟨rfl, hk2⟩
    have HI2 : Hid (HpIn w2 p base L Lf Tm v hl' ∧ Dn hl' i ∧ hl'.Perm hl ∧ Keeps (fun q => v.ownBlock = some q) w w2 ∧ hl'.length = hl.length ∧ (i = 0 ∨ i < hl.length)) :=
      ⟨HI.out.1.more hk2, HI.out.2.1, HI.out.2.2.1, HI.out.2.2.2.1.trans hk2 (fun _ f _ => f.elim), HI.out.2.2.2.2.1, HI.out.2.2.2.2.2⟩
    clear HI hk2 e1 e2 hl5
    obtain ⟨d, hd⟩ : ∃ d, d = leastV hl' (2 * i + 1) (2 * i + 2) := ⟨_, rfl⟩
    have hd2 : i < d ∧ d ≤ 9000 := by
      rw [hd]; unfold leastV; split <;> omega
    rw [← hd]
    have HDD : Hid (d = leastV hl' (2 * i + 1) (2 * i + 2)) := hd
    clear hd
    go_wp2_with fail
    have hl5 := HI2.out.2.2.2.2.1
    have hl6 := HI2.out.2.2.2.2.2
    refine (least_any p base L Lf Tm v hl' i d w2 HI2.out.1 (by omega) (by omega) (by omega) (by omega)).mono ?_
    rintro _ w3 ⟨rfl, hk3⟩
    have HI3 : Hid (HpIn w3 p base L Lf Tm v hl' ∧ Dn hl' i ∧ hl'.Perm hl ∧ Keeps (fun q => v.ownBlock = some q) w w3 ∧ hl'.length = hl.length ∧ (i = 0 ∨ i < hl.length)) :=
      ⟨HI2.out.1.more hk3, HI2.out.2.1, HI2.out.2.2.1, HI2.out.2.2.2.1.trans hk3 (fun _ f _ => f.elim), HI2.out.2.2.2.2.1, HI2.out.2.2.2.2.2⟩
    have hde : leastV hl' i d = downV hl' i := by rw [HDD.out]; rfl
    rw [hde]
    clear HI2 hk3 hl5 hl6 hde
    obtain ⟨D, hD⟩ : ∃ D, D = downV hl' i := ⟨_, rfl⟩
    have HD : Hid (D = downV hl' i) := hD
    rw [← hD]
    by_cases e : D = i
    · have eb : ((D : Int) == (i : Int)) = true := by simp [e]
      have HE : Hid (D = i) := e
      clear e hD
      go_wp2_with fail
      refine bodyPost_ret (results_none rfl _ _ _) rfl ?_
      have hfin := HI3.out.2.1.done (by rw [← HD.out]; exact HE.out)
      exact ⟨hl', rfl, HI3.out.1, hfin, HI3.out.2.2.1, HI3.out.2.2.2.1⟩
    · have eb : ((D : Int) == (i : Int)) = false := by simp; omega
      have hcs : D < hl'.length ∧ i < D := by
        rcases down_cases hl' i with ⟨h1, _⟩ | ⟨h1, h2, _⟩
        · omega
        · rw [← hD] at h1 h2; exact ⟨h1, h2⟩
      clear hD
      go_wp2_with fail
      have hl5 := HI3.out.2.2.2.2.1
      refine (swap_any p base L Lf Tm v hl' i D w3 HI3.out.1 (by omega) (by omega) (by omega)).mono ?_
      rintro _ w4 ⟨rfl, hI4, hk4⟩
      have HN : Hid (HpIn w4 p base L Lf Tm v (sw hl' i D) ∧ Dn (sw hl' i D) D ∧ (sw hl' i D).Perm hl ∧ Keeps (fun q => v.ownBlock = some q) w w4) := by
        refine ⟨hI4, ?_, (sw_perm hl' i D (by omega) (by omega)).trans HI3.out.2.2.1, HI3.out.2.2.2.1.trans hk4 (fun _ e _ => e)⟩
        have := HI3.out.2.1.step (by omega) (by rw [← HD.out]; omega)
        rw [← HD.out] at this
        exact this
      clear hI4 hk4
      go_wp2_with fail
      exact ⟨⟨D, _, rfl, .inr (by omega), HN.out⟩, by simp [intOf]; omega⟩
/-- A row cut short. -/
theorem row_cut {w : World} {base g n cap k : Nat} {l : List Int} (h : w.ownsRow base 3 1 (.slice (some ⟨g, 0, none⟩) n cap) n (iv l)) (hk : k ≤ n) : w.ownsRow base 3 1 (.slice (some ⟨g, 0, none⟩) k cap) k (iv (l.take k)) := by
  have hl : l.length = n := by have := h.1; rw [iv_len] at this; omega
  rcases h.2 with ⟨e, _⟩ | ⟨g', cap', cur, e, hb, hg, hnc, hcm, hcs, ht⟩
  · cases e
  · injection e with e1 e2 e3
    injection e1 with e1
    injection e1 with e1
    subst e1 e3
    refine ⟨by simp [iv]; omega, .inr ⟨g, cap, cur, rfl, hb, hg, by omega, hcm, hcs, ?_⟩⟩
    rw [show iv (l.take k) = (iv l).take k by simp [iv, List.map_take], ← ht, List.take_take]
    congr 1
    omega
theorem row_cap {w : World} {base g n cap : Nat} {xs : List Value} {e : TypeId} {size : Nat} (h : w.ownsRow base e size (.slice (some ⟨g, 0, none⟩) n cap) n xs) : n ≤ cap := by
  rcases h.2 with ⟨e, _⟩ | ⟨g', cap', cur, e, hb, hg, hnc, _⟩
  · cases e
  · injection e with e1 e2 e3
    omega
set_option maxHeartbeats 1600000 in
theorem pop_any (p base : Nat) (L Lf Tm v : Value) (hl : List Int) (w : World) (h : HpIn w p base L Lf Tm v hl) (hh : Hp hl) (h0 : 0 < hl.length) (hn : hl.length ≤ 4096) :
    Calls Tryd.prog 55 #[.pointer (some ⟨p, 2, none⟩)] w fun e w' => ∃ v' hl', e = .returned (.int .i64 (at' hl 0)) ∧ HpIn w' p base L Lf Tm v' hl' ∧ Hp hl' ∧ (hl' ++ [at' hl 0]).Perm hl ∧ Keeps (fun q => q = p ∨ v.ownBlock = some q) w w' ∧ v'.ownBlock = v.ownBlock := by
  obtain ⟨a, c, rfl⟩ := row_shape h.row
  obtain ⟨g, rfl, c0, _⟩ := row_at h.row (at_get h0)
  have c2 := h.c2
  have hcap := row_cap h.row
  have H : Hid (HpIn w p base L Lf Tm (.slice (some ⟨g, 0, none⟩) hl.length c) hl ∧ Hp hl) := ⟨h, hh⟩
  obtain ⟨n, hnn⟩ : ∃ n, n = hl.length := ⟨_, rfl⟩
  have HNN : Hid (n = hl.length) := hnn
  rw [← hnn] at c2 H h0 hn hcap ⊢
  obtain ⟨u, hu⟩ : ∃ u, u = at' hl 0 := ⟨_, rfl⟩
  have HU : Hid (u = at' hl 0) := hu
  rw [← hu] at c0 ⊢
  have i1 : (0 : Int) < (n : Int) := by omega
  have i2 : ¬ n = 0 := by omega
  clear h hh hu hnn
  go_enter Tryd.func55, Tryd.ntmps55
  go_wp2_with fail
  have e1 : (n : Int) - 1 = ((n - 1 : Nat) : Int) := by omega
  rw [e1]
  have hnl := HNN.out
  have hsw := swap_any p base L Lf Tm (.slice (some ⟨g, 0, none⟩) n c) hl 0 (n - 1) w H.out.1 (by omega) (by omega) (by omega)
  refine hsw.mono ?_
  rintro _ w2 ⟨rfl, hI2, hk2⟩
  clear hsw
  have hcut := row_cut (k := n - 1) (by have := hI2.row; rw [sw_len, ← hnl] at this; exact this) (by omega)
  have hkS : Keeps (· = p) w2 (w2.setCell ⟨p, 2, none⟩ (.slice (some ⟨g, 0, none⟩) (n - 1) c)) := Keeps.setCell (S := (· = p)) w2 rfl _
  have hlen2 : ((sw hl 0 (n - 1)).take (n - 1)).length = n - 1 := by rw [List.length_take, sw_len]; omega
  have HI3 : Hid (HpIn (w2.setCell ⟨p, 2, none⟩ (.slice (some ⟨g, 0, none⟩) (n - 1) c)) p base L Lf Tm (.slice (some ⟨g, 0, none⟩) (n - 1) c) ((sw hl 0 (n - 1)).take (n - 1)) ∧ Keeps (fun q => q = p ∨ (Value.slice (some ⟨g, 0, none⟩) n c).ownBlock = some q) w (w2.setCell ⟨p, 2, none⟩ (.slice (some ⟨g, 0, none⟩) (n - 1) c))) := by
    refine ⟨⟨?_, ?_⟩, (hk2.mono (fun i e _ => .inr e)).trans hkS (fun i e _ => .inl e)⟩
    · rw [blk_set hI2.blk]; rfl
    · rw [hlen2]
      exact row_kept hcut hkS (fun q e e2 => by subst e2; exact hI2.np (by simpa [Value.ownBlock] using e))
  have d2 := hI2.c2
  have f2 := hI2.free 2
  have i3 : ((n - 1 : Nat) : Int) ≤ (c : Int) := by omega
  clear hI2 hk2 hcut hkS e1 hnl c0 c2
  obtain ⟨m, hm⟩ : ∃ m, m = n - 1 := ⟨_, rfl⟩
  have HM : Hid (m = n - 1) := hm
  rw [← hm] at HI3 i3 hlen2 ⊢
  clear hm
  go_wp2_with fail
  refine (sink_any p base L Lf Tm _ _ _ HI3.out.1 (by
    have := HM.out
    have h3 := HNN.out
    have h4 := Dn.start H.out.2 (by omega)
    rw [← h3, ← this] at h4
    exact h4) (by have := HM.out; omega)).mono ?_
  rintro _ w4 ⟨hl', rfl, hI4, hp4, hperm, hk4⟩
  have HN : Hid (HpIn w4 p base L Lf Tm (.slice (some ⟨g, 0, none⟩) m c) hl' ∧ Hp hl' ∧ (hl' ++ [u]).Perm hl ∧ Keeps (fun q => q = p ∨ (Value.slice (some ⟨g, 0, none⟩) n c).ownBlock = some q) w w4) := by
    refine ⟨hI4, hp4, ?_, HI3.out.2.trans hk4 (fun i e _ => .inr (by simpa [Value.ownBlock] using e))⟩
    have h3 := HNN.out
    have h5 := popped_perm (l := hl) (by omega)
    rw [← h3, ← HM.out, ← HU.out] at h5
    exact (hperm.append_right [u]).trans h5
  clear hI4 hp4 hperm hk4
  go_wp2_with fail
  go_ret
  exact ⟨_, _, rfl, HN.out.1, HN.out.2.1, HN.out.2.2.1, HN.out.2.2.2, rfl⟩
end Go.Proofs.YtlbkfehakomicaaDoor.Dg
/-! The heap in a plan: in; the nodes of one time. -/
namespace Go.Proofs.YtlbkfehakomicaaDoor.Dg
set_option linter.unusedVariables false
set_option maxRecDepth 20000
open Go.RowKit Go.HeapKit

theorem half_up {i : Nat} (h : 0 < i) : (((i : Int) - 1).tdiv 2) = (((i - 1) / 2 : Nat) : Int) := by
  rw [Int.tdiv_eq_ediv_of_nonneg (by omega)]
  omega
theorem less_t (a b : Int) (w : World) (h : a < b) : Calls Tryd.prog 53 #[.int .i64 a, .int .i64 b] w fun e w' => e = .returned (.bool true) ∧ w' = w := by
  have := less_any a b w
  rw [decide_eq_true h] at this
  exact this
theorem less_f (a b : Int) (w : World) (h : ¬ a < b) : Calls Tryd.prog 53 #[.int .i64 a, .int .i64 b] w fun e w' => e = .returned (.bool false) ∧ w' = w := by
  have := less_any a b w
  rw [decide_eq_false h] at this
  exact this
set_option maxHeartbeats 3200000 in
theorem push_any (p base : Nat) (L Lf Tm v : Value) (hl : List Int) (x : Int) (w : World) (h : HpIn w p base L Lf Tm v hl) (hh : Hp hl) (hb : base ≤ w.heap.size) (hn : hl.length + 1 ≤ 4096) :
    Calls Tryd.prog 54 #[.pointer (some ⟨p, 2, none⟩), .int .i64 x] w fun e w' => ∃ v' hl', e = .returned (.tuple #[]) ∧ HpIn w' p base L Lf Tm v' hl' ∧ Hp hl' ∧ hl'.Perm (hl ++ [x]) ∧ Keeps (fun q => q = p ∨ v.ownBlock = some q) w w' ∧ (v'.ownBlock = v.ownBlock ∨ ∃ q, v'.ownBlock = some q ∧ w.heap.size ≤ q) := by
  obtain ⟨a, c, rfl⟩ := row_shape h.row
  have c2 := h.c2
  obtain ⟨n, hnn⟩ : ∃ n, n = hl.length := ⟨_, rfl⟩
  have hrow := h.row
  rw [← hnn] at c2 hrow
  have hk1 := Keeps.alloc None w (.cells #[.int .i64 x] 3)
  obtain ⟨g, cap, w2, hr, ho, hk2, hm⟩ := int_more base (.slice a n c) hl x n 41 w.heap.size (w.alloc (.cells #[.int .i64 x] 3)) hnn (row_kept hrow hk1 (fun _ _ f => f)) (by simp; omega) (by omega) (blk_new _ _ _ rfl)
  have hnp : ¬ (Value.slice a n c).ownBlock = some p := by rw [hnn]; exact h.np
  have hb2 := blk_kept (blk_kept h.blk hk1 (fun f => f)) hk2 hnp
  have hgp : g ≠ p := by
    intro e
    exact absurd (own_type ho (g := p) (by simp [Value.ownBlock, e]) hb2) (by decide)
  have hkS : Keeps (· = p) w2 (w2.setCell ⟨p, 2, none⟩ (.slice (some ⟨g, 0, none⟩) (n + 1) cap)) := Keeps.setCell (S := (· = p)) w2 rfl _
  have HN : Hid (HpIn (w2.setCell ⟨p, 2, none⟩ (.slice (some ⟨g, 0, none⟩) (n + 1) cap)) p base L Lf Tm (.slice (some ⟨g, 0, none⟩) (n + 1) cap) (hl ++ [x]) ∧ Up (hl ++ [x]) n ∧
      Keeps (fun q => q = p ∨ (Value.slice a n c).ownBlock = some q) w (w2.setCell ⟨p, 2, none⟩ (.slice (some ⟨g, 0, none⟩) (n + 1) cap)) ∧ ((Value.slice a n c).ownBlock = some g ∨ w.heap.size ≤ g) ∧ n = hl.length) := by
    refine ⟨⟨?_, ?_⟩, by rw [hnn]; exact Up.start hh x, ((((hk1.mono (T := fun q => (Value.slice a n c).ownBlock = some q) (fun _ f _ => f.elim)).trans hk2 (fun i e _ => e)).mono (fun i e _ => .inr e)).trans hkS (fun i e _ => .inl e)), ?_, hnn⟩
    · rw [blk_set hb2]; rfl
    · rw [show (hl ++ [x]).length = n + 1 by simp; omega]
      exact row_kept ho hkS (fun q e e2 => by subst e2; simp [Value.ownBlock] at e; exact hgp e)
    · rcases hm with hm | hm
      · exact .inl hm
      · right; simp at hm; omega
  have d2 : w2.cell? ⟨p, 2, none⟩ = some (.slice a n c) := by rw [blk_cell hb2, ← hnn]; rfl
  have f2 := blk_free hb2 2
  rw [← hnn] at hn ⊢
  clear h hh hb hrow hk1 ho hk2 hm hnp hb2 hgp hkS hnn
  go_enter Tryd.func54, Tryd.ntmps54
  go_wp2_with (at_builtin; refine wpList_append_run rfl (.tmp 10) (.tmp 12) 41 41 rfl rfl rfl hr ?_)
  obtain ⟨W, hW⟩ : ∃ W, W = w2.setCell ⟨p, 2, none⟩ (.slice (some ⟨g, 0, none⟩) (n + 1) cap) := ⟨_, rfl⟩
  rw [← hW] at HN ⊢
  clear hW hr d2 f2 c2
  go_loopw [4, 5] (fun s4 _ wr => ∃ (i : Nat) (hl' : List Int), s4 = .int .i64 i ∧ i ≤ n ∧ HpIn wr p base L Lf Tm (.slice (some ⟨g, 0, none⟩) (n + 1) cap) hl' ∧ Up hl' i ∧ hl'.Perm (hl ++ [x]) ∧ Keeps (fun q => q = g) W wr) (fun s4 _ _ => (intOf s4).toNat)
  case atStart => exact ⟨n, _, rfl, Nat.le_refl _, HN.out.1, HN.out.2.1, List.Perm.refl _, Keeps.refl _ _⟩
  case round =>
    obtain ⟨i, hl', rfl, hi, hI, hU, hP, hk⟩ := hrel
    have HI : Hid (HpIn wr p base L Lf Tm (.slice (some ⟨g, 0, none⟩) (n + 1) cap) hl' ∧ Up hl' i ∧ hl'.Perm (hl ++ [x]) ∧ Keeps (fun q => q = g) W wr ∧ hl'.length = n + 1) :=
      ⟨hI, hU, hP, hk, by rw [hP.length_eq]; simp; have := HN.out.2.2.2.2; omega⟩
    clear hI hU hP hk
    have hfin : ∀ wz hz, HpIn wz p base L Lf Tm (.slice (some ⟨g, 0, none⟩) (n + 1) cap) hz → Hp hz → hz.Perm (hl ++ [x]) → Keeps (fun q => q = g) W wz →
        ∃ v' hl', HpIn wz p base L Lf Tm v' hl' ∧ Hp hl' ∧ hl'.Perm (hl ++ [x]) ∧ Keeps (fun q => q = p ∨ (Value.slice a n c).ownBlock = some q) w wz ∧ (v'.ownBlock = (Value.slice a n c).ownBlock ∨ ∃ q, v'.ownBlock = some q ∧ w.heap.size ≤ q) := by
      intro wz hz h1 h2 h3 h4
      refine ⟨_, hz, h1, h2, h3, HN.out.2.2.1.trans h4 (fun q e hq => ?_), ?_⟩
      · subst e
        rcases HN.out.2.2.2.1 with e | e
        · exact .inr e
        · omega
      · rcases HN.out.2.2.2.1 with e | e
        · exact .inl (by rw [e]; rfl)
        · exact .inr ⟨g, rfl, e⟩
    have HF : Hid (∀ wz hz, HpIn wz p base L Lf Tm (.slice (some ⟨g, 0, none⟩) (n + 1) cap) hz → Hp hz → hz.Perm (hl ++ [x]) → Keeps (fun q => q = g) W wz →
        ∃ v' hl', HpIn wz p base L Lf Tm v' hl' ∧ Hp hl' ∧ hl'.Perm (hl ++ [x]) ∧ Keeps (fun q => q = p ∨ (Value.slice a n c).ownBlock = some q) w wz ∧ (v'.ownBlock = (Value.slice a n c).ownBlock ∨ ∃ q, v'.ownBlock = some q ∧ w.heap.size ≤ q)) := hfin
    clear hfin
    by_cases h0 : i = 0
    · subst h0
      go_wp2_with fail
      go_end0
      obtain ⟨v', hz, h1⟩ := HF.out _ _ HI.out.1 (HI.out.2.1.done (.inl rfl)) HI.out.2.2.1 HI.out.2.2.2.1
      exact ⟨v', hz, rfl, h1⟩
    · have z0 : (0 : Int) < (i : Int) := by omega
      have z1 : 0 < i := by omega
      have hlen := HI.out.2.2.2.2
      obtain ⟨j, hj⟩ : ∃ j, j = (i - 1) / 2 := ⟨_, rfl⟩
      have hji : j < i := by omega
      have hq : ((i : Int) - 1).tdiv 2 = (j : Int) := by rw [half_up z1, hj]
      have HJ : Hid (j = (i - 1) / 2) := hj
      obtain ⟨g1, e1, x1, _⟩ := row_at (by have := HI.out.1.row; rw [hlen] at this; exact this) (at_get (l := hl') (i := i) (by omega))
      obtain ⟨g2, e2, x2, _⟩ := row_at (by have := HI.out.1.row; rw [hlen] at this; exact this) (at_get (l := hl') (i := j) (by omega))
      injection e1 with e1
      injection e1 with e1
      injection e2 with e2
      injection e2 with e2
      rw [← e1] at x1
      rw [← e2] at x2
      have c2 := HI.out.1.c2
      have c3 := HI.out.1.c3
      unfold lessV at c3
      obtain ⟨u, hu⟩ : ∃ u, u = at' hl' i := ⟨_, rfl⟩
      obtain ⟨u', hu'⟩ : ∃ u', u' = at' hl' j := ⟨_, rfl⟩
      have HU : Hid (u = at' hl' i ∧ u' = at' hl' j) := ⟨hu, hu'⟩
      rw [← hu] at x1
      rw [← hu'] at x2
      have i2 : (i : Int) < ((n + 1 : Nat) : Int) := by omega
      have i3 : (j : Int) < ((n + 1 : Nat) : Int) := by omega
      have i4 : ¬ n + 1 = 0 := by omega
      have i5 : (i : Int) < (n : Int) + 1 := by omega
      have i6 : (j : Int) < (n : Int) + 1 := by omega
      clear e1 e2 hu hu' hj h0 hlen
      by_cases hlt : u < u'
      · go_upto_region 4 with fail
        go_region_held3 (fun w' => w'.cell? ⟨p, 2, none⟩ = some (.slice (some ⟨g, 0, none⟩) (n + 1) cap) ∧ w'.cell? ⟨p, 3, none⟩ = some (.func (.func 53) #[] #[]) ∧ w'.cell? ⟨g, i, none⟩ = some (.int .i64 u) ∧ w'.cell? ⟨g, j, none⟩ = some (.int .i64 u')) (go_keep) (first
          | (go_at_call 53; refine (less_t _ _ _ hlt).mono ?_; rintro _ w4 ⟨rfl, hw⟩; have hw2 := hw.symm; subst hw2; clear hw))
        all_goals go_wp2_with fail
        have hlen := HI.out.2.2.2.2
        refine (swap_any p base L Lf Tm _ hl' i j _ (HI.out.1.more (Keeps.drew None _)) (by omega) (by omega) (by omega)).mono ?_
        rintro _ w4 ⟨rfl, hI4, hk4⟩
        have HN2 : Hid (HpIn w4 p base L Lf Tm (.slice (some ⟨g, 0, none⟩) (n + 1) cap) (sw hl' i j) ∧ Up (sw hl' i j) j ∧ (sw hl' i j).Perm (hl ++ [x]) ∧ Keeps (fun q => q = g) W w4) := by
          refine ⟨hI4, ?_, (sw_perm hl' i j (by omega) (by omega)).trans HI.out.2.2.1, (HI.out.2.2.2.1.andDrew).trans hk4 (fun q e _ => by simpa [Value.ownBlock] using e.symm)⟩
          have := HI.out.2.1.step z1 (by rw [← HJ.out, ← HU.out.1, ← HU.out.2]; exact hlt)
          rw [← HJ.out] at this
          exact this
        clear hI4 hk4
        go_wp2_with fail
        exact ⟨⟨j, _, rfl, by omega, HN2.out⟩, by simp [intOf]; omega⟩
      · go_upto_region 4 with fail
        go_region_held3 (fun w' => w'.cell? ⟨p, 2, none⟩ = some (.slice (some ⟨g, 0, none⟩) (n + 1) cap) ∧ w'.cell? ⟨p, 3, none⟩ = some (.func (.func 53) #[] #[]) ∧ w'.cell? ⟨g, i, none⟩ = some (.int .i64 u) ∧ w'.cell? ⟨g, j, none⟩ = some (.int .i64 u')) (go_keep) (first
          | (go_at_call 53; refine (less_f _ _ _ (by omega)).mono ?_; rintro _ w4 ⟨rfl, hw⟩; have hw2 := hw.symm; subst hw2; clear hw))
        all_goals go_wp2_with fail
        refine bodyPost_ret (results_none rfl _ _ _) rfl ?_
        obtain ⟨v', hz, h1⟩ := HF.out _ _ (HI.out.1.more (Keeps.drew None _)) (HI.out.2.1.done (.inr (by rw [← HJ.out, ← HU.out.1, ← HU.out.2]; omega))) HI.out.2.2.1 HI.out.2.2.2.1.andDrew
        exact ⟨v', hz, rfl, h1⟩
end Go.Proofs.YtlbkfehakomicaaDoor.Dg
/-! The two ways to a round: nodes in their order, with a count; and counts of what is left ahead of each. -/
namespace Go.Proofs.YtlbkfehakomicaaDoor.Dg
set_option linter.unusedVariables false
set_option maxRecDepth 20000

def scn (l : List Ed) (T : Nat → Int) (p i : Nat) : List Nat := ((List.range i).filter (rdy l T)).take p
def scanT (l : List Ed) (T : Nat → Int) (p : Nat) (t : Int) (i j : Nat) : Int := if j ∈ scn l T p i then t else T j
theorem scn_lt {l : List Ed} {T : Nat → Int} {p i j : Nat} (h : j ∈ scn l T p i) : j < i ∧ rdy l T j = true := by
  have := List.mem_filter.1 (List.mem_of_mem_take h)
  exact ⟨List.mem_range.1 this.1, this.2⟩
theorem scn_len (l : List Ed) (T : Nat → Int) (p i : Nat) : (scn l T p i).length ≤ p := by
  unfold scn
  rw [List.length_take]
  omega
theorem scn_le (l : List Ed) (T : Nat → Int) (p i : Nat) : (scn l T p i).length ≤ i := by
  unfold scn
  rw [List.length_take]
  have := List.length_filter_le (rdy l T) (List.range i)
  simp only [List.length_range] at this
  omega
theorem scn_step (l : List Ed) (T : Nat → Int) (p i : Nat) (h : (scn l T p i).length < p) : scn l T p (i + 1) = if rdy l T i = true then scn l T p i ++ [i] else scn l T p i := by
  have hl : ((List.range i).filter (rdy l T)).length < p := by
    unfold scn at h
    rw [List.length_take] at h
    omega
  unfold scn
  rw [List.range_succ, List.filter_append]
  split
  · rename_i hr
    rw [List.filter_cons, if_pos hr, List.filter_nil, List.take_of_length_le (by simp; omega), List.take_of_length_le (by omega)]
  · rename_i hr
    rw [List.filter_cons, if_neg hr, List.filter_nil, List.append_nil]
theorem scn_all (l : List Ed) (T : Nat → Int) (p n : Nat) : scn l T p n = (rds n l T).take p := rfl
theorem scn_full (l : List Ed) (T : Nat → Int) (p i : Nat) (h : (scn l T p i).length = p) : ∀ n, i ≤ n → scn l T p n = scn l T p i := by
  have hl : p ≤ ((List.range i).filter (rdy l T)).length := by
    unfold scn at h
    rw [List.length_take] at h
    omega
  intro n hn
  obtain ⟨d, rfl⟩ := Nat.exists_eq_add_of_le hn
  unfold scn
  rw [List.range_add, List.filter_append, List.take_append_of_le_length hl]
theorem scan_zero (l : List Ed) (T : Nat → Int) (p : Nat) (t : Int) : scanT l T p t 0 = T := by funext j; simp [scanT, scn]
theorem scan_step (l : List Ed) (T : Nat → Int) (p i : Nat) (t : Int) (h : (scn l T p i).length < p) (j : Nat) :
    scanT l T p t (i + 1) j = if rdy l T i = true ∧ j = i then t else scanT l T p t i j := by
  unfold scanT
  rw [scn_step l T p i h]
  by_cases hr : rdy l T i = true
  · rw [if_pos hr]
    by_cases e : j = i
    · subst e; simp [hr]
    · simp [hr, e]
  · rw [if_neg hr]
    simp [hr]
theorem scan_end {l : List Ed} {T : Nat → Int} {p n : Nat} {t : Int} {i : Nat} (hi : i ≤ n) (h : i = n ∨ (scn l T p i).length = p) : scanT l T p t i = stepT n p l t T ∧ (scn l T p i).length = ((rds n l T).take p).length := by
  have e : scn l T p i = (rds n l T).take p := by
    rcases h with rfl | h
    · rfl
    · exact (scn_full l T p i h n hi).symm
  refine ⟨?_, by rw [e]⟩
  funext j
  unfold scanT stepT
  rw [e]
/-- The document's question: are all of these done at times below t? -/
def readyV (T : Nat → Int) (t : Int) (bs : List Int) : Bool := bs.all (fun a => decide (T a.toNat ≠ 0) && decide (T a.toNat < t))
theorem ready_scan {l : List Ed} {T : Nat → Int} {p : Nat} {t : Int} {i : Nat} (hT : ∀ a, 0 ≤ T a ∧ T a < t) : (decide (scanT l T p t i i = 0) && readyV (scanT l T p t i) t (bef l i)) = rdy l T i := by
  have h0 : scanT l T p t i i = T i := by
    unfold scanT
    rw [if_neg (fun h => by have := (scn_lt h).1; omega)]
  rw [h0]
  unfold rdy readyV
  congr 1
  rw [Bool.eq_iff_iff, List.all_eq_true, List.all_eq_true]
  have key : ∀ a : Int, ((decide (scanT l T p t i a.toNat ≠ 0) && decide (scanT l T p t i a.toNat < t)) = true ↔ decide (T a.toNat ≠ 0) = true) := by
    intro a
    have := hT a.toNat
    unfold scanT
    split
    · rename_i h
      have := (rdy_iff.1 (scn_lt h).2).1
      simp [this]
    · simp
      intro _
      omega
  constructor
  · intro h a ha
    exact (key a).1 (h a ha)
  · intro h a ha
    exact (key a).2 (h a ha)

/-- How many edges to a node come from nodes that are not done. -/
def lft (l : List Ed) (T : Nat → Int) (i : Nat) : Nat := ((bef l i).filter (fun a => decide (T a.toNat = 0))).length
theorem rdy_lft {l : List Ed} {T : Nat → Int} {i : Nat} : rdy l T i = true ↔ T i = 0 ∧ lft l T i = 0 := by
  rw [rdy_iff]
  unfold lft
  rw [List.length_eq_zero_iff, List.filter_eq_nil_iff]
  simp
theorem lft_le (l : List Ed) (T : Nat → Int) (i : Nat) : lft l T i ≤ l.length := Nat.le_trans (List.length_filter_le _ _) (bef_len l i)
def setT (T : Nat → Int) (v : Nat) (t : Int) (j : Nat) : Int := if j = v then t else T j
theorem lft_set (l : List Ed) (T : Nat → Int) (v i : Nat) (t : Int) (hp : ∀ e ∈ l, 0 ≤ e.f) (h0 : T v = 0) (ht : t ≠ 0) : lft l (setT T v t) i + (flw l v).count (i : Int) = lft l T i := by
  induction l with
  | nil => rfl
  | cons e l ih =>
    have ih := ih (fun e he => hp e (List.mem_cons_of_mem _ he))
    have he := hp e (List.mem_cons_self ..)
    have b1 : ∀ U : Nat → Int, lft (e :: l) U i = (if e.t = i ∧ U e.f.toNat = 0 then 1 else 0) + lft l U i := by
      intro U
      unfold lft bef
      by_cases a : e.t = (i : Int)
      · by_cases b : U e.f.toNat = 0
        · simp [a, b]; omega
        · simp [a, b]
      · simp [a]
    have b2 : (flw (e :: l) v).count (i : Int) = (if e.f = v ∧ e.t = i then 1 else 0) + (flw l v).count (i : Int) := by
      unfold flw
      by_cases a : e.f = (v : Int)
      · by_cases b : e.t = (i : Int)
        · simp [a, b]; omega
        · simp [a, b]
      · simp [a]
    rw [b1, b1, b2]
    by_cases a : e.f = (v : Int)
    · have a' : e.f.toNat = v := by omega
      have s1 : setT T v t e.f.toNat = t := by simp [setT, a']
      by_cases b : e.t = (i : Int)
      · rw [if_neg (by rw [s1]; intro h; exact ht h.2), if_pos ⟨a, b⟩, if_pos ⟨b, by rw [a']; exact h0⟩]
        omega
      · rw [if_neg (fun h => b h.1), if_neg (fun h => b h.2), if_neg (fun h => b h.1)]
        omega
    · have a' : ¬ e.f.toNat = v := by omega
      have s1 : setT T v t e.f.toNat = T e.f.toNat := by simp [setT, a']
      rw [s1, if_neg (show ¬ (e.f = (v : Int) ∧ e.t = (i : Int)) from fun h => a h.1)]
      omega
/-- Some of the nodes of a round are done. -/
def putT (T : Nat → Int) (Q : List Nat) (t : Int) (j : Nat) : Int := if j ∈ Q then t else T j
theorem put_nil (T : Nat → Int) (t : Int) : putT T [] t = T := by funext j; simp [putT]
theorem put_snoc (T : Nat → Int) (Q : List Nat) (v : Nat) (t : Int) : putT T (Q ++ [v]) t = setT (putT T Q t) v t := by
  funext j
  unfold putT setT
  by_cases e : j = v
  · simp [e]
  · simp [e]
theorem put_all (n p : Nat) (l : List Ed) (T : Nat → Int) (t : Int) : putT T ((rds n l T).take p) t = stepT n p l t T := rfl
end Go.Proofs.YtlbkfehakomicaaDoor.Dg
/-! A plan: the nodes of one time; what a node frees. -/
namespace Go.Proofs.YtlbkfehakomicaaDoor.Dg
set_option linter.unusedVariables false
set_option maxRecDepth 20000
open Go.RowKit Go.HeapKit

theorem nodup_le : ∀ (n : Nat) (l : List Int), l.Nodup → (∀ x ∈ l, 0 ≤ x ∧ x < (n : Int)) → l.length ≤ n := by
  intro n
  induction n with
  | zero =>
    intro l _ h
    cases l with
    | nil => simp
    | cons x l => have := h x (List.mem_cons_self ..); omega
  | succ n ih =>
    intro l nd h
    by_cases hm : (n : Int) ∈ l
    · have h1 := ih (l.erase (n : Int)) (nd.erase _) (fun x hx => by
        have h2 := (nd.mem_erase_iff).1 hx
        have := h x h2.2
        have := h2.1
        omega)
      rw [List.length_erase_of_mem hm] at h1
      omega
    · have h1 := ih l nd (fun x hx => by
        have := h x hx
        have : x ≠ n := fun e => hm (e ▸ hx)
        omega)
      omega
theorem Of.len {l : List Int} {S : Nat → Prop} (h : Of l S) {n : Nat} (hS : ∀ x, S x → x < n) : l.length ≤ n := by
  refine nodup_le n l h.nd (fun x hx => ?_)
  have h0 := h.pos x hx
  have := hS x.toNat ((h.mem x.toNat).1 (by rw [Int.toNat_of_nonneg h0]; exact hx))
  omega
theorem Of.len1 {l : List Int} {S : Nat → Prop} (h : Of l S) {n : Nat} (hS : ∀ x, S x → x < n) {x : Nat} (hx : ¬ S x) (hn : x < n) : l.length + 1 ≤ n := by
  have := nodup_le n ((x : Int) :: l) (List.nodup_cons.2 ⟨fun hm => hx ((h.mem x).1 hm), h.nd⟩) (fun y hy => by
    rcases List.mem_cons.1 hy with rfl | hy
    · omega
    · have h0 := h.pos y hy
      have := hS y.toNat ((h.mem y.toNat).1 (by rw [Int.toNat_of_nonneg h0]; exact hy))
      omega)
  simpa using this
theorem Of.empty {l : List Int} {S : Nat → Prop} (h : Of l S) : l.length = 0 ↔ ∀ x, ¬ S x := by
  constructor
  · intro h0 x hx
    have := (h.mem x).2 hx
    rw [List.eq_nil_of_length_eq_zero h0] at this
    cases this
  · intro h0
    cases l with
    | nil => rfl
    | cons y l =>
      have hp := h.pos y (List.mem_cons_self ..)
      exact absurd ((h.mem y.toNat).1 (by rw [Int.toNat_of_nonneg hp]; exact List.mem_cons_self ..)) (h0 _)
theorem drop_head {rs : List Nat} (hs : rs.Pairwise (· < ·)) {k : Nat} (hk : k < rs.length) : ∃ y, rs[k]? = some y ∧ rs.drop k = y :: rs.drop (k + 1) ∧ (∀ z ∈ rs.drop (k + 1), y < z) := by
  refine ⟨rs[k], List.getElem?_eq_getElem hk, List.drop_eq_getElem_cons hk, ?_⟩
  have h1 : (rs.drop k).Pairwise (· < ·) := List.Pairwise.drop hs
  rw [List.drop_eq_getElem_cons hk] at h1
  exact (List.pairwise_cons.1 h1).1
def nI (l : List Nat) : List Int := l.map (fun (x : Nat) => (x : Int))
theorem nI_take (rs : List Nat) (k : Nat) {y : Nat} (h : rs[k]? = some y) : nI (rs.take (k + 1)) = nI (rs.take k) ++ [(y : Int)] := by
  unfold nI
  rw [List.take_add_one, h]
  simp
set_option maxHeartbeats 3200000 in
theorem take_any (p base : Nat) (L Lf Tm v : Value) (hl : List Int) (rs : List Nat) (P n : Nat) (w : World) (h : HpIn w p base L Lf Tm v hl) (hO : Of hl (fun x => x ∈ rs)) (hs : rs.Pairwise (· < ·)) (hlt : ∀ x ∈ rs, x < n) (hn : n ≤ 4096) (hP : P ≤ 64) :
    Calls Tryd.prog 37 #[.pointer (some ⟨p, 0, none⟩), .int .i64 P] w fun e w' => ∃ s v' hl', e = .returned s ∧ w'.ownsRow w.heap.size 3 1 s (rs.take P).length (iv (nI (rs.take P))) ∧ HpIn w' p base L Lf Tm v' hl' ∧ Of hl' (fun x => x ∈ rs.drop P) ∧ Keeps (fun q => q = p ∨ v.ownBlock = some q) w w' ∧ v'.ownBlock = v.ownBlock := by
  have H : Hid (HpIn w p base L Lf Tm v hl ∧ Of hl (fun x => x ∈ rs) ∧ rs.Pairwise (· < ·) ∧ ∀ x ∈ rs, x < n) := ⟨h, hO, hs, hlt⟩
  clear h hO hs hlt
  go_enter Tryd.func37, Tryd.ntmps37
  go_wp2_with fail
  go_loopw [5, 7] (fun s5 s7 wr => ∃ (k : Nat) (v' : Value) (hl' : List Int) (sa : Option Addr) (sc : Nat), s7 = .int .i64 k ∧ s5 = .slice sa k sc ∧ k ≤ P ∧ k ≤ rs.length ∧ wr.ownsRow w.heap.size 3 1 (.slice sa k sc) k (iv (nI (rs.take k))) ∧ HpIn wr p base L Lf Tm v' hl' ∧ Of hl' (fun x => x ∈ rs.drop k) ∧ Keeps (fun q => q = p ∨ v.ownBlock = some q) w wr ∧ v'.ownBlock = v.ownBlock) (fun _ s7 _ => P - (intOf s7).toNat)
  case atStart => exact ⟨0, v, hl, none, 0, rfl, rfl, Nat.zero_le _, Nat.zero_le _, by simpa [nI, iv] using row_nil _ _ _ _, H.out.1, by simpa using H.out.2.1, Keeps.refl _ _, rfl⟩
  case round =>
    obtain ⟨k, v', hl', sa, sc, rfl, rfl, hk, hkr, hrow, hI, hOf, hkp, hv⟩ := hrel
    have HI : Hid (wr.ownsRow w.heap.size 3 1 (.slice sa k sc) k (iv (nI (rs.take k))) ∧ HpIn wr p base L Lf Tm v' hl' ∧ Of hl' (fun x => x ∈ rs.drop k) ∧ Keeps (fun q => q = p ∨ v.ownBlock = some q) w wr ∧ v'.ownBlock = v.ownBlock) := ⟨hrow, hI, hOf, hkp, hv⟩
    clear hrow hI hOf hkp hv
    by_cases hkP : k < P
    · have k1 : (k : Int) < (P : Int) := by omega
      by_cases hke : k < rs.length
      · have hne : ¬ hl'.length = 0 := by
          intro e
          obtain ⟨y, hy, hd, _⟩ := drop_head H.out.2.2.1 hke
          exact (HI.out.2.2.1.empty.1 e) y (by rw [hd]; exact List.mem_cons_self ..)
        have hl4 : hl'.length ≤ 4096 := Nat.le_trans (HI.out.2.2.1.len (n := n) (fun x hx => H.out.2.2.2 x (List.mem_of_mem_drop hx))) hn
        go_wp2_with fail
        refine (empty_any p base L Lf Tm v' hl' _ HI.out.2.1).mono ?_
        rintro _ wz ⟨rfl, hw⟩
        have hw2 := hw.symm
        subst hw2
        clear hw
        rw [decide_eq_false hne]
        go_wp2_with fail
        refine (pop_any p base L Lf Tm v' hl' wr HI.out.2.1 HI.out.2.2.1.hp (by omega) hl4).mono ?_
        rintro _ w3 ⟨v2, hl2, rfl, hI3, hp3, hperm, hk3, hv3⟩
        obtain ⟨y, hy, hd, hmin⟩ := drop_head H.out.2.2.1 hke
        obtain ⟨r, hr1, hr2, hr3⟩ := HI.out.2.2.1.first (by omega)
        have hry : r = y := by
          have h1 := hr3 y (by rw [hd]; exact List.mem_cons_self ..)
          rw [hd] at hr2
          rcases List.mem_cons.1 hr2 with h2 | h2
          · exact h2
          · have := hmin r h2; omega
        have hO3 : Of hl2 (fun x => x ∈ rs.drop (k + 1)) := by
          refine (HI.out.2.2.1.pop hp3 hperm).congr (fun x => ?_)
          rw [hd, hr1, hry]
          constructor
          · rintro ⟨h1, h2⟩
            rcases List.mem_cons.1 h1 with h3 | h3
            · exact absurd (by rw [h3]) h2
            · exact h3
          · intro h1
            have := hmin x h1
            exact ⟨List.mem_cons_of_mem _ h1, by omega⟩
        rw [hr1, hry]
        have hpn : ¬ (Value.slice sa k sc).ownBlock = some p := fun e => by
          have := row_low HI.out.1 e
          have := blk_lt H.out.1.blk
          omega
        have hvn : ∀ q, v'.ownBlock = some q → (Value.slice sa k sc).ownBlock ≠ some q := fun q e e2 => by
          have h1 := row_low HI.out.1 e2
          rw [HI.out.2.2.2.2] at e
          have := own_lt H.out.1.row e
          omega
        have hrow3 : w3.ownsRow w.heap.size 3 1 (.slice sa k sc) k (iv (nI (rs.take k))) := row_kept HI.out.1 hk3 (fun q e e2 => by
          rcases e2 with rfl | e2
          · exact hpn e
          · exact hvn q e2 e)
        have hlenk : k = (nI (rs.take k)).length := by simp [nI]; omega
        have hsz := HI.out.2.2.2.1.size
        have hsz3 := hk3.size
        obtain ⟨g, cp, w4, hap, ho, hk4, hm⟩ := int_more w.heap.size (.slice sa k sc) (nI (rs.take k)) y k 41 w3.heap.size (w3.alloc (.cells #[.int .i64 y] 3)) hlenk (row_kept hrow3 (Keeps.alloc None w3 _) (fun _ _ f => f)) (by simp; omega) (by omega) (blk_new _ _ _ rfl)
        rw [← nI_take rs k hy] at ho
        have HN : Hid (w4.ownsRow w.heap.size 3 1 (.slice (some ⟨g, 0, none⟩) (k + 1) cp) (k + 1) (iv (nI (rs.take (k + 1)))) ∧ HpIn w4 p base L Lf Tm v2 hl2 ∧ Of hl2 (fun x => x ∈ rs.drop (k + 1)) ∧ Keeps (fun q => q = p ∨ v.ownBlock = some q) w w4 ∧ v2.ownBlock = v.ownBlock) := by
          refine ⟨ho, (hI3.more (Keeps.alloc None w3 _)).kept hk4 hpn (fun q e e2 => hvn q (by rw [← hv3]; exact e) e2), hO3, ?_, hv3.trans HI.out.2.2.2.2⟩
          refine (((HI.out.2.2.2.1.trans hk3 (fun q e _ => ?_)).andAlloc _).trans hk4 (fun q e hq => ?_))
          · rw [HI.out.2.2.2.2] at e; exact e
          · have := row_low HI.out.1 e; omega
        clear hI3 hp3 hperm hk3 hv3 hy hd hmin hr1 hr2 hr3 hry hO3 hrow3 hlenk ho hk4 hm hpn hvn hsz hsz3 hne
        go_wp2_with (at_builtin; refine wpList_append_run rfl (.tmp 13) (.tmp 18) 41 41 rfl rfl rfl hap ?_)
        exact ⟨⟨k + 1, v2, hl2, _, _, by go_num, rfl, by omega, by omega, HN.out⟩, by simp [intOf]; omega⟩
      · have he : hl'.length = 0 := HI.out.2.2.1.empty.2 (fun x hx => by
          rw [List.drop_eq_nil_of_le (by omega)] at hx
          cases hx)
        have HE : Hid (rs.take P = rs.take k ∧ rs.drop P = rs.drop k ∧ (rs.take k).length = k) := by
          refine ⟨?_, ?_, ?_⟩
          · rw [List.take_of_length_le (by omega), List.take_of_length_le (by omega)]
          · rw [List.drop_eq_nil_of_le (by omega), List.drop_eq_nil_of_le (by omega)]
          · simp; omega
        go_wp2_with fail
        refine (empty_any p base L Lf Tm v' hl' _ HI.out.2.1).mono ?_
        rintro _ wz ⟨rfl, hw⟩
        have hw2 := hw.symm
        subst hw2
        clear hw
        rw [decide_eq_true he]
        go_wp2_with fail
        go_ret
        refine ⟨_, v', hl', rfl, ?_, HI.out.2.1, ?_, HI.out.2.2.2.1, HI.out.2.2.2.2⟩
        · rw [HE.out.1, HE.out.2.2]; exact HI.out.1
        · rw [HE.out.2.1]; exact HI.out.2.2.1
    · have k1 : ¬ (k : Int) < (P : Int) := by omega
      obtain rfl : P = k := by omega
      have HE : Hid ((rs.take P).length = P) := by show _ = _; simp; omega
      go_wp2_with fail
      go_ret
      refine ⟨_, rfl, by first | exact HI.out.1 | (rw [HE.out]; exact HI.out.1), v', hl', HI.out.2.1, HI.out.2.2.1, HI.out.2.2.2.1, HI.out.2.2.2.2⟩
end Go.Proofs.YtlbkfehakomicaaDoor.Dg
