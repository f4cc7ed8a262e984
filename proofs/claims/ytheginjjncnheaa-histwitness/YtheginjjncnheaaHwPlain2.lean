import Derived.Test.YtheginjjncnheaaHwPlain
/-! The order of a plain run is the run's own; calls that are drawn apart. -/
namespace Go.Proofs.Ytheginjjncnheaa
set_option linter.unusedVariables false
set_option maxRecDepth 20000
set_option linter.unusedSimpArgs false
open Go.RowKit Go.HeapKit

def idL (n : Nat) : List Int := (List.range n).map (fun (k : Nat) => (k : Int))
theorem idL_len (n : Nat) : (idL n).length = n := by simp [idL]
theorem idL_at {n k : Nat} (h : k < n) : (idL n)[k]? = some (k : Int) := by simp [idL, h]
theorem fin_bound (l : List Cl) : ∃ p : Int, ∀ x ∈ l, x.fin < p := by
  induction l with
  | nil => exact ⟨0, fun x hx => by cases hx⟩
  | cons y l ih =>
    obtain ⟨p, hp⟩ := ih
    refine ⟨max p (y.fin + 1), fun x hx => ?_⟩
    rcases List.mem_cons.1 hx with rfl | hx
    · omega
    · have := hp x hx
      omega
theorem cutO_id {p : Int} {l : List Cl} (h : ∀ x ∈ l, x.fin < p) : ∀ k, k ≤ l.length → cutO p l k = idL k
  | 0, _ => rfl
  | k + 1, hk => by
    have hx : l[k]? = some l[k] := by simp
    have := h _ (List.mem_of_getElem? hx)
    simp only [cutO]
    rw [cutO_id h k (by omega), clAt_of hx]
    have hs : stays p l[k] = true := by
      unfold stays
      rw [decide_eq_false (fun h => by omega)]
      rfl
    rw [hs, if_pos rfl]
    unfold idL
    rw [List.range_succ, List.map_append]
    rfl
section
variable {most : Nat} {ts : List (Int × Int)} {mom : Nat → Int} {l : List Cl}
theorem Wd.own (h : Wd most ts mom l) (ht : ts.all todoOk = true) (hm : ∀ i j, i < j → mom i < mom j) : LegOk l most (idL l.length) := by
  obtain ⟨p, hp⟩ := fin_bound l
  obtain ⟨os, h1, h2⟩ := h.cut ht hm p
  obtain ⟨e1, e2⟩ := h2 hp
  rw [e1, e2, cutO_id hp _ (Nat.le_refl _)] at h1
  exact h1
end
theorem serS_at (most : Nat) (ts : List (Int × Int)) : ∀ (n k : Nat) (t : Int × Int), k < n → ts[k]? = some t → (serS most ts n).1[k]? = some (clS most k (serS most ts k).2 t)
  | 0, k, t, h, _ => absurd h (by omega)
  | n + 1, k, t, h, ht => by
    have hl := (serS_length most ts n).1
    simp only [serS]
    by_cases e : k = n
    · subst e
      rw [List.getElem?_append_right (by omega), hl, Nat.sub_self]
      have : ts.getD k (0, 0) = t := by simp [List.getD, ht]
      rw [this]
      rfl
    · rw [List.getElem?_append_left (by omega)]
      exact serS_at most ts n k t (by omega) ht
theorem serial_wd (most : Nat) (ts : List (Int × Int)) : Wd most ts (fun k => (k : Int)) (serS most ts ts.length).1 := by
  have hl := (serS_length most ts ts.length).1
  refine ⟨hl, fun k x t hx ht => ?_, ?_⟩
  · have hk := (List.getElem?_eq_some_iff.1 ht).1
    rw [serS_at most ts _ k t hk ht] at hx
    injection hx with hx
    subst hx
    unfold clS
    refine ⟨rfl, rfl, rfl, rfl, by simp only; omega, Int.le_refl _, Int.le_refl _, fun e => ?_, fun e => ?_⟩
    · simp only [if_pos e]; omega
    · simp only [if_neg e]
  · refine List.pairwise_iff_getElem.2 fun i j hi hj hij _ => ?_
    have h1 := serS_at most ts ts.length i _ (by omega) (List.getElem?_eq_getElem (l := ts) (by omega))
    have h2 := serS_at most ts ts.length j _ (by omega) (List.getElem?_eq_getElem (l := ts) (by omega))
    obtain ⟨_, e1⟩ := List.getElem?_eq_some_iff.1 h1
    obtain ⟨_, e2⟩ := List.getElem?_eq_some_iff.1 h2
    rw [e1, e2]
    show (i : Int) < (j : Int)
    omega
/-- Of a run in which call k begins and ends at k the only order is its own. -/
theorem own_only {l : List Cl} {m : Nat} {os : List Int} (he : ∀ (k : Nat) (x : Cl), l[k]? = some x → x.code ≠ 0 ∧ x.beg = k ∧ x.fin = k) (h : LegOk l m os) (hlen : os.length = l.length) : ∀ k : Nat, k < os.length → os[k]? = some (k : Int) := by
  have hup : ∀ (i j : Nat) (a b : Int), i < j → os[i]? = some a → os[j]? = some b → a < b := fun i j a b hij ha hb => by
    have hjl := (List.getElem?_eq_some_iff.1 hb).1
    obtain ⟨qa, rfl, hqa, _⟩ := pre_at h.pre (by omega) ha
    obtain ⟨qb, rfl, hqb, hnew⟩ := pre_at h.pre hjl hb
    have ht := time_at h.time hjl hb hij ha
    have hxa : l[qa]? = some l[qa] := by simp
    have hxb : l[qb]? = some l[qb] := by simp
    rw [clAt_of hxa, clAt_of hxb] at ht
    unfold aheadB at ht
    rw [decide_eq_false_iff_not] at ht
    obtain ⟨a1, a2, a3⟩ := he qa _ hxa
    obtain ⟨b1, b2, b3⟩ := he qb _ hxb
    rw [a2, b3] at ht
    have h1 : ¬ (qb : Int) < (qa : Int) := fun e => ht ⟨b1, e⟩
    have h2 : (qa : Int) ≠ (qb : Int) := fun e => hnew (by rw [← e]; exact List.mem_of_getElem? (i := i) (by rw [List.getElem?_take, if_pos hij]; exact ha))
    omega
  intro k
  induction k using Nat.strongRecOn with
  | ind k ih =>
    intro hk
    obtain ⟨z, hz⟩ : ∃ z, os[k]? = some z := ⟨os[k], by simp⟩
    obtain ⟨q, rfl, hq, _⟩ := pre_at h.pre hk hz
    have hkx : l[k]? = some (l[k]'(by omega)) := by simp
    have hmem := seen_at h.seen (q := k) (by omega) (by rw [clAt_of hkx]; exact (he k _ hkx).1)
    obtain ⟨p, hp⟩ := List.mem_iff_getElem?.1 hmem
    have hpl := (List.getElem?_eq_some_iff.1 hp).1
    have hge : ∀ j, j < k → (j : Int) < (q : Int) := fun j hj => hup j k j q hj (ih j hj (by omega)) hz
    rcases Nat.lt_trichotomy p k with e | e | e
    · have := ih p e hpl
      rw [hp] at this
      injection this with this
      omega
    · subst e
      exact hp
    · have h1 := hup k p _ _ e hz hp
      exfalso
      have : q < k := by omega
      have := hge q this
      omega
theorem ext_id {os : List Int} {n : Nat} (hl : os.length = n) (h : ∀ k : Nat, k < os.length → os[k]? = some (k : Int)) : os = idL n := by
  refine List.ext_getElem? fun k => ?_
  by_cases hk : k < n
  · rw [idL_at hk, h k (by omega)]
  · rw [List.getElem?_eq_none (by omega), List.getElem?_eq_none (by rw [idL_len]; omega)]
/-! ### Calls that are drawn apart -/
structure WS (cs : List Cl) (k : Nat) (L : Nat → Int) (r : List Cl) : Prop where
  len : r.length = k
  ok : ∀ (j : Nat) (x y : Cl), cs[j]? = some x → r[j]? = some y → y.kind = x.kind ∧ y.arg = x.arg ∧ y.code = x.code ∧ y.v = x.v ∧ (x.who = 0 → y.who = 0) ∧ (x.who ≠ 0 → 1 ≤ y.who ∧ y.who < 4) ∧ 0 ≤ y.beg ∧ y.beg ≤ 100 * (j : Int) + 50 ∧ 100 * (j : Int) + 50 ≤ y.fin
  apart : r.Pairwise (fun y x => y.who = x.who → y.fin < x.beg)
  low : ∀ i, i < 4 → 0 ≤ L i ∧ L i ≤ 10000
  past : ∀ i y, i < 4 → y ∈ r → y.who = (i : Nat) → y.fin < L i
  room : ∀ (i j : Nat) (x : Cl), i < 4 → k ≤ j → cs[j]? = some x → (i = 0 ↔ x.who = 0) → L i ≤ 100 * (j : Int) + 50
theorem WS.nil (cs : List Cl) : WS cs 0 (fun _ => 0) [] := ⟨rfl, fun j x y _ h => by simp at h, List.Pairwise.nil, fun i _ => by omega, (fun i y _ h => by cases h), fun i j x _ _ _ _ => by omega⟩
theorem WS.step {cs : List Cl} {k : Nat} {L : Nat → Int} {r : List Cl} (h : WS cs k L r) {x : Cl} (hx : cs[k]? = some x) (hk : k ≤ 40) (hw : ∀ y ∈ cs, y.who = 0 ∨ y.who = 1) {i : Nat} (hi : i < 4) (hiw : i = 0 ↔ x.who = 0) {u fin : Int} (hu : 0 ≤ u) (hf : 100 * (k : Int) + 50 ≤ fin) (hf2 : fin ≤ 100 * (k : Int) + 50 + 999) (hf3 : ∀ (j : Nat) (y : Cl), k < j → cs[j]? = some y → y.who = x.who → fin ≤ 100 * (j : Int) + 49) :
    WS cs (k + 1) (fun a => if a = i then fin + 1 else L a) (r ++ [⟨i, x.kind, x.arg, max (L i) (100 * (k : Int) + 50 - u), fin, x.code, x.v⟩]) := by
  have hroom := h.room i k x hi (Nat.le_refl _) hx hiw
  have hlow := h.low i hi
  have hwx := hw x (List.mem_of_getElem? hx)
  refine ⟨by simp [h.len], fun j x' y hx' hy => ?_, ?_, fun a ha => ?_, fun a y ha hy hya => ?_, fun a j x' ha hj hx' hax => ?_⟩
  · by_cases e : j < k
    · rw [List.getElem?_append_left (by have := h.len; omega)] at hy
      exact h.ok j x' y hx' hy
    · have hjl := (List.getElem?_eq_some_iff.1 hy).1
      have e2 : j = k := by have := h.len; simp at hjl; omega
      subst e2
      rw [List.getElem?_append_right (by have := h.len; omega), h.len, Nat.sub_self] at hy
      rw [hx] at hx'
      injection hx' with hx'
      subst hx'
      injection hy with hy
      subst hy
      refine ⟨rfl, rfl, rfl, rfl, fun e => ?_, fun e => ?_, ?_, ?_, hf⟩
      · have := hiw.2 e
        simp only
        omega
      · have : i ≠ 0 := fun e0 => e (hiw.1 e0)
        simp only
        omega
      · simp only; omega
      · simp only; omega
  · refine List.pairwise_append.2 ⟨h.apart, List.pairwise_singleton _ _, fun y hy z hz e => ?_⟩
    rw [List.mem_singleton] at hz
    subst hz
    simp only at e ⊢
    have := h.past i y hi hy e
    omega
  · split
    · omega
    · exact h.low a ha
  · rcases List.mem_append.1 hy with hy2 | hy
    · split
      · rename_i e
        subst e
        have h1 := h.past a y hi hy2 hya
        omega
      · exact h.past a y ha hy2 hya
    · rw [List.mem_singleton] at hy
      subst hy
      simp only at hya ⊢
      rw [if_pos (by omega)]
      omega
  · split
    · rename_i e
      subst e
      have hwx' := hw x' (List.mem_of_getElem? hx')
      have he : x'.who = x.who := by
        rcases hwx with e1 | e1 <;> rcases hwx' with e2 | e2
        · omega
        · have := hax.1 (hiw.2 e1); omega
        · have := hiw.1 (hax.2 e2); omega
        · omega
      have := hf3 j x' (by omega) hx' he
      omega
    · exact h.room a j x' ha (by omega) hx' hax
theorem WS.wd {most : Nat} {ts : List (Int × Int)} {mom : Nat → Int} {cs : List Cl} (hc : Wd most ts mom cs) {L : Nat → Int} {r : List Cl} (h : WS cs cs.length L r) (hs : ∀ (k : Nat) (x : Cl) (t : Int × Int), cs[k]? = some x → ts[k]? = some t → (t.1 = 2 ↔ x.who ≠ 0)) : Wd most ts (fun k => 100 * (k : Int) + 50) r := by
  refine ⟨h.len.trans hc.len, fun k y t hy ht => ?_, h.apart⟩
  obtain ⟨x, hx⟩ : ∃ x, cs[k]? = some x := ⟨cs[k]'(by have := (List.getElem?_eq_some_iff.1 hy).1; have := h.len; omega), by simp⟩
  obtain ⟨e1, e2, e3, e4, w0, w1, b0, b1, b2⟩ := h.ok k x y hx hy
  obtain ⟨f1, f2, f3, f4, _⟩ := hc.ok k x t hx ht
  have hw := hs k x t hx ht
  refine ⟨e1.trans f1, e2.trans f2, e3.trans f3, e4.trans f4, b0, b1, b2, fun e => w1 (hw.1 e), fun e => w0 ?_⟩
  by_cases e0 : x.who = 0
  · exact e0
  · exact absurd (hw.2 e0) e
end Go.Proofs.Ytheginjjncnheaa
