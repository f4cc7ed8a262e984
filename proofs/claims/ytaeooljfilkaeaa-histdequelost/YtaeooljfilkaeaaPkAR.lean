import Derived.Test.YtaeooljfilkaeaaPkAP
import Derived.Test.YtaeooljfilkaeaaPkAQ
import Derived.Test.YtaeooljfilkaeaaPkAN
/-! A game, fit and played. -/
namespace Go.Proofs.Ytaeooljfilkaeaa
set_option linter.unusedVariables false
set_option maxRecDepth 20000
set_option linter.unusedSimpArgs false
open Go.RowKit Go.HeapKit Go.IntWalk Go.PlainOps

theorem todo_of_row {w : World} {ta : Option Addr} {c : Nat} {T : List Tod} (h : w.ownsRow 0 55 2 (.slice ta T.length c) T.length (rowVals Tod.vals T)) : TodoAt w ta T ∧ T.length ≤ c := by
  refine ⟨fun h0 => ?_, ?_⟩
  · obtain ⟨g, rfl, hc⟩ := rowAtD h h0
    exact ⟨g, 0, rfl, own_lt h rfl, fun i t hi => ⟨by rw [Nat.zero_add]; exact hc _ _ (rowVals_at Tod.vals_size _ i _ hi 0 _ rfl), by rw [Nat.zero_add]; exact hc _ _ (rowVals_at Tod.vals_size _ i _ hi 1 _ rfl)⟩⟩
  · rcases h.2 with ⟨e, h0⟩ | ⟨g, cap, cur, e, _, _, hn, _⟩
    · omega
    · injection e with e1 e2 e3; omega
theorem ints_of_row {w : World} {pa : Option Addr} {c : Nat} {L : List Int} (h : w.ownsRow 0 3 1 (.slice pa L.length c) L.length (L.map (Value.int .i64))) : Ints w pa L ∧ L.length ≤ c := by
  refine ⟨fun h0 => ?_, ?_⟩
  · obtain ⟨g, rfl, hc⟩ := rowAtD h h0
    exact ⟨g, 0, rfl, own_lt h rfl, fun i hi => by rw [Nat.zero_add]; exact hc i _ (by simp [List.getD_eq_getElem?_getD, hi])⟩
  · rcases h.2 with ⟨e, h0⟩ | ⟨g, cap, cur, e, _, _, hn, _⟩
    · omega
    · injection e with e1 e2 e3; omega
theorem Ints.take {w : World} {pa : Option Addr} {L : List Int} (h : Ints w pa L) (n : Nat) : Ints w pa (L.take n) := by
  intro h0
  rw [List.length_take] at h0
  obtain ⟨b, off, e, hb, hc⟩ := h (by omega)
  refine ⟨b, off, e, hb, fun i hi => ?_⟩
  rw [List.length_take] at hi
  rw [hc i (by omega)]
  simp [List.getD_eq_getElem?_getD, List.getElem?_take, show i < n by omega]
theorem whoS_fit {th : Nat} {L : List Nat} (h : ∀ x ∈ L, x < 1 + th) : whoS th (L.map (fun x : Nat => (x : Int))) = L := by
  induction L with
  | nil => rfl
  | cons x L ih =>
    have hx := h x (by simp)
    show ((x : Int) % ((1 + th : Nat) : Int)).toNat :: whoS th (L.map (fun x : Nat => (x : Int))) = x :: L
    rw [ih (fun y hy => h y (by simp [hy])), Int.emod_eq_of_lt (by omega) (by omega), Int.toNat_natCast]
theorem kinds_fit (l : List Tod) : TKinds (fitT l) := by
  intro x hx
  obtain ⟨y, -, rfl⟩ := List.mem_map.1 hx
  have := mdN_lt y.kind (n := 2) (by omega)
  show ((mdN y.kind 2 : Nat) : Int) = 0 ∨ ((mdN y.kind 2 : Nat) : Int) = 1
  omega
theorem picks_fit (t : Int) (z : List Int) : ∀ x ∈ fitP t z, x < 1 + mdN t 4 := by
  intro x hx
  obtain ⟨y, -, rfl⟩ := List.mem_map.1 hx
  exact mdN_lt y (by omega)
theorem caps_fit (f m : Int) : CapOK (fitF f : Nat) (fitM f m : Nat) := by
  have h1 := mdN_lt f (n := 8) (by omega)
  have h2 := mdN_lt m (n := 8) (by omega)
  unfold CapOK fitM fitF
  omega
theorem cutL_cl (p : Int) (l : List Cal) : cutL p (l.map Cal.cl) = (cutC p l).map Cal.cl := by
  induction l with
  | nil => rfl
  | cons c l ih =>
    simp only [List.map_cons, cutL, cutC]
    show (if c.bg ≥ p then _ else _) = _
    split
    · exact ih
    · rw [List.map_cons, ih]
      congr 1
      unfold Cl.shut Cal.shut
      show (if c.en ≥ p then _ else _) = _
      split <;> rfl
end Go.Proofs.Ytaeooljfilkaeaa
/-! Nobody loses for nothing, plainly. -/
namespace Go.Proofs.Ytaeooljfilkaeaa
set_option linter.unusedVariables false
set_option maxRecDepth 20000
set_option linter.unusedSimpArgs false
open Go.RowKit Go.HeapKit Go.IntWalk Go.PlainOps

/-- The call j has taken one, not ahead of fr, or is about to. -/
def Wit (S : Dpl) (j : Nat) (fr : Int) : Prop := ∃ x, S.calls[j]? = some x ∧ x.kind ≠ 0 ∧ ((x.code = 4 ∧ fr ≤ x.en) ∨ ∃ a : Dac, S.acts[0]? = some a ∧ a.op.at_ = 21 ∧ a.op.code = 4 ∧ a.call = (j : Int))
structure LI (S : Dpl) (g : Gh) : Prop where
  kd : ∀ (a : Dac) (k : Nat) (c : Cal), S.acts[0]? = some a → Rn a.op → 13 ≤ a.op.at_ → a.call = k → S.calls[k]? = some c → c.kind ≠ 0
  th : ∀ (i : Nat) (a : Dac) (k : Nat) (c : Cal), 0 < i → S.acts[i]? = some a → Rn a.op → a.call = k → S.calls[k]? = some c → c.kind ≠ 0 ∧ (23 ≤ a.op.at_ → a.op.t < g.top → ∃ j, j ≠ k ∧ Wit S j c.bg)
  lost : ∀ (k : Nat) (c : Cal), S.calls[k]? = some c → c.code = 6 → ∃ j x, j ≠ k ∧ Wit S j c.bg ∧ S.calls[j]? = some x ∧ x.bg ≤ c.en
theorem rn_at {o : OpS} {q : Int} (h : o.at_ = q) (h0 : q ≠ 0) (h1 : q ≠ 1) : Rn o := ⟨fun e => h0 (by rw [← h, e]; rfl), by omega⟩
/-- What is told of the running calls behind a begin. -/
theorem run_mid {most size th : Nat} {S S1 : Dpl} {g : Gh} {n who : Nat} {a : Dac} (h : TC th S n) (hp : PS most size th S g n) (ha : S.acts[who]? = some a) (hS1 : Rn a.op ∧ S1 = S ∨ ¬ Rn a.op ∧ S.begin n who = some S1) :
    (∀ (i : Nat) (x : Dac) (j : Nat) (c : Cal), S1.acts[i]? = some x → Rn x.op → x.call = j → S1.calls[j]? = some c → c.who = i ∧ c.en = -1 ∧ c.code = 0 ∧ c.v = 0) ∧ ∀ c ∈ S1.calls, c.bg ≤ n := by
  rcases hS1 with ⟨-, rfl⟩ | ⟨hn, hbg⟩
  · exact ⟨h.run, fun c hc => by have := h.bg c hc; omega⟩
  · obtain ⟨x, e1, e2, e3, e4, e5, e6⟩ := begin_cal hbg
    obtain ⟨-, -, -, o', e7, e8, e9⟩ := Dpl.begin_keep hbg
    have hwl := (List.getElem?_eq_some_iff.1 ha).1
    refine ⟨fun i y j c hy hr hj hc => ?_, fun c hc => ?_⟩
    · rw [e7] at hy
      by_cases e : i = who
      · subst e
        rw [List.getElem?_set_self hwl] at hy
        injection hy with hy
        subst hy
        have hj' : j = S.calls.length := by have : (S.calls.length : Int) = j := hj; omega
        rw [e1, hj', List.getElem?_append_right (Nat.le_refl _), Nat.sub_self] at hc
        simp at hc
        subst hc
        exact ⟨e2, e4, e5, e6⟩
      · rw [List.getElem?_set_ne (fun e2 => e e2.symm)] at hy
        obtain ⟨k2, q1, q2⟩ := hp.call i y hy hr
        have : j = k2 := by omega
        subst this
        rw [e1, List.getElem?_append_left q2] at hc
        exact h.run i y j c hy hr hj hc
    · rw [e1] at hc
      rcases List.mem_append.1 hc with hc | hc
      · have := h.bg c hc; omega
      · rw [List.mem_singleton] at hc; subst hc; omega
theorem LI.begin {most size th : Nat} {S S1 : Dpl} {g : Gh} {n who : Nat} {a : Dac} (h : LI S g) (ht : TC th S n) (hp : PS most size th S g n) (ha : S.acts[who]? = some a) (hn : ¬ Rn a.op) (hb : S.begin n who = some S1) : LI S1 g := by
  obtain ⟨x, e1, e2, e3, e4, e5, e6⟩ := begin_cal hb
  obtain ⟨-, -, -, o', e7, e8, e9⟩ := Dpl.begin_keep hb
  have hwl := (List.getElem?_eq_some_iff.1 ha).1
  have hold : ∀ (j : Nat) (c : Cal), S.calls[j]? = some c → S1.calls[j]? = some c := fun j c hc => by
    rw [e1, List.getElem?_append_left (List.getElem?_eq_some_iff.1 hc).1]; exact hc
  have hact : ∀ (i : Nat) (y : Dac), S1.acts[i]? = some y → i = who ∧ y = ⟨o', S.calls.length⟩ ∨ i ≠ who ∧ S.acts[i]? = some y := fun i y hy => by
    rw [e7] at hy
    by_cases e : i = who
    · subst e
      rw [List.getElem?_set_self hwl] at hy
      injection hy with hy
      exact .inl ⟨rfl, hy.symm⟩
    · rw [List.getElem?_set_ne (fun e2 => e e2.symm)] at hy
      exact .inr ⟨e, hy⟩
  have hwit : ∀ j fr, Wit S j fr → Wit S1 j fr := fun j fr hw => by
    obtain ⟨y, y1, y2, y3⟩ := hw
    refine ⟨y, hold j y y1, y2, ?_⟩
    rcases y3 with y3 | ⟨b, b1, b2, b3, b4⟩
    · exact .inl y3
    · refine .inr ⟨b, ?_, b2, b3, b4⟩
      have hne : 0 ≠ who := fun e => by
        subst e
        rw [ha] at b1
        injection b1 with b1
        subst b1
        exact hn (rn_at b2 (by omega) (by omega))
      rw [e7, List.getElem?_set_ne (fun e => hne e.symm)]
      exact b1
  have hnew : S1.calls[S.calls.length]? = some x := by rw [e1, List.getElem?_append_right (Nat.le_refl _), Nat.sub_self]; rfl
  have hcl : ∀ (j : Nat) (c : Cal), S1.calls[j]? = some c → j = S.calls.length ∧ c = x ∨ S.calls[j]? = some c := fun j c hc => by
    rw [e1] at hc
    by_cases e : j < S.calls.length
    · rw [List.getElem?_append_left e] at hc; exact .inr hc
    · rw [List.getElem?_append_right (by omega)] at hc
      have hj : j - S.calls.length = 0 := by
        have := (List.getElem?_eq_some_iff.1 hc).1
        simp at this
        omega
      rw [hj] at hc
      simp at hc
      exact .inl ⟨by omega, hc.symm⟩
  refine ⟨fun b k c hb1 hr h13 hk hc => ?_, fun i b k c hi hb1 hr hk hc => ?_, fun k c hc h6 => ?_⟩
  · rcases hact 0 b hb1 with ⟨e, rfl⟩ | ⟨e, hb1⟩
    · have hk' : k = S.calls.length := by have : (S.calls.length : Int) = k := hk; omega
      rw [hk', hnew] at hc
      injection hc with hc
      subst hc
      -- a pop's kind is not 0
      have h13 : 13 ≤ o'.at_ := h13
      subst e
      unfold Dpl.begin at hb
      rw [if_neg (fun e => e rfl)] at hb
      cases htd : S.todos with
      | nil => rw [htd] at hb; simp at hb
      | cons t ts =>
        rw [htd] at hb
        simp only at hb
        split at hb
        · injection hb with hb
          subst hb
          exfalso
          have e7' : S.acts.set 0 ⟨pushO S.base S.most t.v, S.calls.length⟩ = S.acts.set 0 ⟨o', S.calls.length⟩ := e7
          have e10 := congrArg (fun l => l[0]?) e7'
          simp only [List.getElem?_set_self hwl] at e10
          injection e10 with e10
          injection e10 with e10
          rw [← e10] at h13
          simp [pushO] at h13
        · rename_i hk0
          injection hb with hb
          subst hb
          have e1' : S.calls ++ [⟨(0 : Nat), t.kind, 0, n, -1, 0, 0⟩] = S.calls ++ [x] := e1
          have e10 := List.append_cancel_left e1'
          injection e10 with e10
          rw [← e10]
          exact hk0
    · rcases hcl k c hc with ⟨e10, -⟩ | hc
      · obtain ⟨k2, q1, q2⟩ := hp.call 0 b hb1 hr
        omega
      · exact h.kd b k c hb1 hr h13 hk hc
  · rcases hact i b hb1 with ⟨e, rfl⟩ | ⟨e, hb1⟩
    · have hk' : k = S.calls.length := by have : (S.calls.length : Int) = k := hk; omega
      rw [hk', hnew] at hc
      injection hc with hc
      subst hc
      subst e
      unfold Dpl.begin at hb
      rw [if_pos (by omega)] at hb
      injection hb with hb
      subst hb
      have e1' : S.calls ++ [⟨(i : Int), 2, 0, n, -1, 0, 0⟩] = S.calls ++ [x] := e1
      have e10 := List.append_cancel_left e1'
      injection e10 with e10
      have e7' : S.acts.set i ⟨stealO S.base S.most, S.calls.length⟩ = S.acts.set i ⟨o', S.calls.length⟩ := e7
      have e11 := congrArg (fun l => l[i]?) e7'
      simp only [List.getElem?_set_self hwl] at e11
      injection e11 with e11
      injection e11 with e11
      refine ⟨by rw [← e10]; show (2 : Int) ≠ 0; omega, fun h23 => ?_⟩
      have h23 : 23 ≤ o'.at_ := h23
      rw [← e11] at h23
      simp [stealO] at h23
    · rcases hcl k c hc with ⟨e10, -⟩ | hc
      · obtain ⟨k2, q1, q2⟩ := hp.call i b hb1 hr
        omega
      · obtain ⟨q1, q2⟩ := h.th i b k c hi hb1 hr hk hc
        exact ⟨q1, fun a1 a2 => by obtain ⟨j, j1, j2⟩ := q2 a1 a2; exact ⟨j, j1, hwit j _ j2⟩⟩
  · rcases hcl k c hc with ⟨-, rfl⟩ | hc
    · omega
    · obtain ⟨j, y, j1, j2, j3, j4⟩ := h.lost k c hc h6
      exact ⟨j, y, j1, hwit j _ j2, hold j y j3, j4⟩
theorem own_went {o : OpS} (hc : CodeOk o) (h2 : 2 ≤ o.at_) (h21 : o.at_ ≤ 21) (x : Int) (ok : Bool) : ((o.went x ok).at_ = 1 → (o.went x ok).code ≠ 6) ∧ (o.at_ ≤ 12 → (o.went x ok).at_ ≤ 12) ∧ (o.at_ = 20 → (o.went x ok).at_ = 21) := by
  rcases (show o.at_ = 2 ∨ o.at_ = 3 ∨ o.at_ = 4 ∨ o.at_ = 5 ∨ o.at_ = 6 ∨ o.at_ = 7 ∨ o.at_ = 8 ∨ o.at_ = 9 ∨ o.at_ = 10 ∨ o.at_ = 11 ∨ o.at_ = 12 ∨ o.at_ = 13 ∨ o.at_ = 14 ∨ o.at_ = 15 ∨ o.at_ = 16 ∨ o.at_ = 17 ∨ o.at_ = 18 ∨ o.at_ = 19 ∨ o.at_ = 20 ∨ o.at_ = 21 by omega) with h | h | h | h | h | h | h | h | h | h | h | h | h | h | h | h | h | h | h | h
  · have e : (o.went x ok).at_ = 3 := by unfold OpS.went; simp [h]
    exact ⟨fun a => by omega, fun a => by omega, fun a => by omega⟩
  · have e : (o.went x ok).at_ = 4 := by unfold OpS.went; simp [h]
    exact ⟨fun a => by omega, fun a => by omega, fun a => by omega⟩
  · have e : (o.went x ok).at_ = 5 := by unfold OpS.went; simp [h]
    exact ⟨fun a => by omega, fun a => by omega, fun a => by omega⟩
  · rw [show o.went x ok = measuredS { o with c := x } by unfold OpS.went; simp [h]]
    refine ⟨fun a => ?_, fun _ => ?_, fun a => by omega⟩
    · unfold measuredS at a ⊢
      split at a
      · simp [OpS.zero] at a
      · split at a
        · simp at a
        · split at a
          · rename_i h1 h2 h3; rw [if_neg h1, if_neg h2, if_pos h3]; show (3 : Int) ≠ 6; decide
          · simp at a
    · unfold measuredS
      split
      · show (0 : Int) ≤ 12; decide
      · split
        · show (6 : Int) ≤ 12; decide
        · split
          · show (1 : Int) ≤ 12; decide
          · show (8 : Int) ≤ 12; decide
  · have e : (o.went x ok).at_ = 7 := by unfold OpS.went; simp [h]
    exact ⟨fun a => by omega, fun a => by omega, fun a => by omega⟩
  · rw [show o.went x ok = OpS.ended 2 0 by unfold OpS.went; simp [h]]
    exact ⟨fun _ => by show (2 : Int) ≠ 6; decide, fun _ => by show (1 : Int) ≤ 12; decide, fun a => by omega⟩
  · have e : (o.went x ok).at_ = 9 := by unfold OpS.went; simp [h]
    exact ⟨fun a => by omega, fun a => by omega, fun a => by omega⟩
  · have e : (o.went x ok).at_ = 10 := by unfold OpS.went; simp [h]
    exact ⟨fun a => by omega, fun a => by omega, fun a => by omega⟩
  · have e : (o.went x ok).at_ = 11 := by unfold OpS.went; simp [h]
    exact ⟨fun a => by omega, fun a => by omega, fun a => by omega⟩
  · rw [went_11 o h]
    split
    · exact ⟨fun a => absurd (show (12 : Int) = 1 from a) (by decide), fun _ => by show (12 : Int) ≤ 12; decide, fun a => by omega⟩
    · exact ⟨fun a => absurd (show (10 : Int) = 1 from a) (by decide), fun _ => by show (10 : Int) ≤ 12; decide, fun a => by omega⟩
  · have e : (o.went x ok).at_ = 6 := by unfold OpS.went; simp [h]
    exact ⟨fun a => by omega, fun a => by omega, fun a => by omega⟩
  · have e : (o.went x ok).at_ = 14 := by unfold OpS.went; simp [h]
    exact ⟨fun a => by omega, fun a => by omega, fun a => by omega⟩
  · have e : (o.went x ok).at_ = 15 := by unfold OpS.went; simp [h]
    exact ⟨fun a => by omega, fun a => by omega, fun a => by omega⟩
  · have e : (o.went x ok).at_ = 16 := by unfold OpS.went; simp [h]
    exact ⟨fun a => by omega, fun a => by omega, fun a => by omega⟩
  · rw [show o.went x ok = if o.b < x then { o with t := x, at_ := 17 } else { o with t := x, at_ := 18 } by unfold OpS.went; simp [h]]
    split
    · exact ⟨fun a => absurd (show (17 : Int) = 1 from a) (by decide), fun a => by omega, fun a => by omega⟩
    · exact ⟨fun a => absurd (show (18 : Int) = 1 from a) (by decide), fun a => by omega, fun a => by omega⟩
  · rw [show o.went x ok = OpS.ended 5 0 by unfold OpS.went; simp [h]]
    exact ⟨fun _ => by show (5 : Int) ≠ 6; decide, fun a => by omega, fun a => by omega⟩
  · rw [show o.went x ok = flatS { o with c := x } 19 by unfold OpS.went; simp [h]]
    refine ⟨fun a => ?_, fun a => by omega, fun a => by omega⟩
    unfold flatS at a
    split at a
    · simp [OpS.zero] at a
    · simp at a
  · rw [show o.went x ok = if o.t < o.b then OpS.ended 4 x else { o with v := x, at_ := 20 } by unfold OpS.went; simp [h]]
    split
    · exact ⟨fun _ => by show (4 : Int) ≠ 6; decide, fun a => by omega, fun a => by omega⟩
    · exact ⟨fun a => absurd (show (20 : Int) = 1 from a) (by decide), fun a => by omega, fun a => by omega⟩
  · rw [show o.went x ok = { decidedS o ok 5 with at_ := 21 } by unfold OpS.went; simp [h]]
    exact ⟨fun a => absurd (show (21 : Int) = 1 from a) (by decide), fun a => by omega, fun _ => rfl⟩
  · rw [show o.went x ok = OpS.ended o.code o.v by unfold OpS.went; simp [h]]
    exact ⟨fun _ => by show o.code ≠ 6; rcases hc.2 h with e | e <;> omega, fun a => by omega, fun a => by omega⟩
theorem own_at {m : Nat → Int} {len most size : Nat} {V : List Int} {top : Nat} {bot : Int} {bs : List Bf} {cur : Bf} {hand : Int} {o : OpS} (h : Own m len most size V top bot bs cur hand o) (hr : Rn o) : 2 ≤ o.at_ ∧ o.at_ ≤ 21 ∧ o.base = 0 := by
  cases h with
  | idle h1 h2 h3 h4 => rcases h1 with e | e; exact absurd e hr.1; exact absurd e hr.2
  | _ => exact ⟨by simp, by simp, rfl⟩
theorem own_end {o : OpS} {A : Ar} (hc : CodeOk o) (hr : Rn o) (h : 2 ≤ o.at_ ∧ o.at_ ≤ 21) : ((o.step A).1.ans.1 ≠ 6) ∧ (o.at_ ≤ 12 → (o.step A).1.at_ ≤ 12) ∧ (o.at_ = 20 → (o.step A).1.code = 4 → (o.step A).1.at_ = 21) := by
  have zz : OpS.zero.ans.1 ≠ 6 ∧ (o.at_ ≤ 12 → OpS.zero.at_ ≤ 12) ∧ (o.at_ = 20 → OpS.zero.code = 4 → OpS.zero.at_ = 21) := by
    refine ⟨?_, fun _ => by simp [OpS.zero], fun _ e => by simp [OpS.zero] at e⟩
    rw [show OpS.zero.ans = (1, 0) from if_pos rfl]
    decide
  unfold OpS.step
  rw [if_neg (fun e => e.elim hr.1 hr.2)]
  split
  · obtain ⟨w1, w2, w3⟩ := own_went hc h.1 h.2 (o.acc A).1.v (o.acc A).1.ok
    refine ⟨?_, w2, fun a _ => w3 a⟩
    show (o.went _ _).ans.1 ≠ 6
    unfold OpS.ans
    split
    · decide
    · split
      · exact w1 ‹_›
      · decide
  · exact zz
/-- The owner's last step of a pop that needed a CAS. -/
theorem own_last {o : OpS} {A : Ar} {most size : Nat} {V : List Int} {top : Nat} {bot : Int} {bs : List Bf} {cur : Bf} (hM : Mm A.val A.cells.length most V top bot bs cur) (hb : o.base = 0) (h : o.at_ = 21) : (o.step A).1 = OpS.ended o.code o.v := by
  have l3 := hM.l3
  have hs := stStore (o := o) (A := A) (k := 1) (v := wrap64 (o.t + 1)) (y := wrap64 (o.base + 1)) (by omega) (by omega) (by unfold OpS.want; simp [h]) (by rw [hb]; exact wr1) (by omega)
  rw [hs]
  show o.went 0 true = _
  unfold OpS.went; simp [h]
/-- What a thief's step leaves. -/
theorem thief_left {V : List Int} {top : Nat} {bot : Int} {bs : List Bf} {cur : Bf} {most : Nat} {o : OpS} {A : Ar} (hM : Mm A.val A.cells.length most V top bot bs cur) (h : Thf o V top bs) (hr : Rn o) :
    ((o.step A).1.at_ = 23 ∧ (o.step A).1.t = top) ∨ ((o.step A).1.at_ = o.at_ + 1 ∧ (o.step A).1.t = o.t ∧ 23 ≤ o.at_) ∨ ((o.step A).1.at_ = 0) ∨ ((o.step A).1.at_ = 1 ∧ ((o.step A).1.code = 6 → o.at_ = 27 ∧ o.t < top)) := by
  have l3 := hM.l3
  obtain ⟨hz, h1⟩ := hr
  rcases h with h | h | ⟨h, hb⟩ | ⟨h, tt, ht⟩ | ⟨h, tt, ht, h2⟩ | ⟨h, tt, ht, x, hx, e1, h2⟩ | ⟨h, tt, ht, x, hx, e1, e2, h2⟩ | ⟨h, tt, ht, h2⟩
  · exact absurd h hz
  · exact absurd h h1
  · have hs := stLoad (o := o) (A := A) (k := 0) (y := wrap64 o.base) (at_pt h (by omega) (by omega)).1 h1 (by unfold OpS.want; simp [h]) (by rw [hb]; exact wr0) (by omega) hM.t
    left
    rw [hs]
    have hw : o.went (top : Int) true = { o with t := (top : Int), at_ := 23 } := by unfold OpS.went; simp [h]
    rw [hw]
    exact ⟨rfl, rfl⟩
  · have hs := stLoad (o := o) (A := A) (k := 1) (y := wrap64 (o.base + 1)) (at_pt h (by omega) (by omega)).1 h1 (by unfold OpS.want; simp [h]) (by rw [ht.base]; exact wr1) (by omega) hM.b
    rw [hs]
    have hw : o.went bot true = if bot ≤ o.t then OpS.ended 5 0 else { o with b := bot, at_ := 24 } := by unfold OpS.went; simp [h]
    rw [hw]
    split
    · exact .inr (.inr (.inr ⟨rfl, fun e => absurd (show (5 : Int) = 6 from e) (by decide)⟩))
    · exact .inr (.inl ⟨by show (24 : Int) = _; omega, rfl, by omega⟩)
  · have hs := stLoad (o := o) (A := A) (k := 2) (y := wrap64 (o.base + 2)) (at_pt h (by omega) (by omega)).1 h1 (by unfold OpS.want; simp [h]) (by rw [ht.base]; exact wr2) (by omega) hM.u
    rw [hs]
    have hw : o.went (cur.a : Int) true = { o with a := (cur.a : Int), at_ := 25 } := by unfold OpS.went; simp [h]
    rw [hw]
    exact .inr (.inl ⟨by show (25 : Int) = _; omega, rfl, by omega⟩)
  · have hx' := hM.all x hx
    have hs := stLoad (o := o) (A := A) (k := x.a) (y := o.a) (at_pt h (by omega) (by omega)).1 h1 (by unfold OpS.want; simp [h]) e1 (by have := hx'.fit; omega) hx'.cap
    rw [hs]
    have hw : o.went (x.c : Int) true = flatS { o with c := (x.c : Int) } 26 := by unfold OpS.went; simp [h]
    rw [hw]
    unfold flatS
    split
    · exact .inr (.inr (.inl rfl))
    · exact .inr (.inl ⟨by show (26 : Int) = _; omega, rfl, by omega⟩)
  · have hx' := hM.all x hx
    have hsz := hM.sz
    have hfit := hx'.fit
    have hp : placeV o.a o.c o.t = ((x.a + 1 + tt % x.c : Nat) : Int) := by rw [e1, e2, ht.t]; exact place_nat x.a x.c tt (by omega) hx'.c1
    have hml := Nat.mod_lt tt (show 0 < x.c by have := hx'.c1; omega)
    have hs := stLoad (o := o) (A := A) (k := x.a + 1 + tt % x.c) (y := placeV o.a o.c o.t) (at_pt h (by omega) (by omega)).1 h1 (by unfold OpS.want; simp [h]) hp (by omega) rfl
    rw [hs]
    have hw : ∀ z, o.went z true = { o with v := z, at_ := 27 } := fun z => by unfold OpS.went; simp [h]
    rw [hw]
    exact .inr (.inl ⟨by show (27 : Int) = _; omega, rfl, by omega⟩)
  · have hT := thief_step hM (.inr (.inr (.inr (.inr (.inr (.inr (.inr ⟨h, tt, ht, h2⟩))))))) hz h1
    by_cases e : tt = top
    · refine .inr (.inr (.inr ?_))
      cases hT with
      | take _ _ e2 => rw [e2]; exact ⟨rfl, fun e3 => absurd (show (4 : Int) = 6 from e3) (by decide)⟩
      | read x e2 e3 =>
        exfalso
        -- at TOP the CAS succeeds
        obtain ⟨h3, h4⟩ := h2 e
        have w0 : wrap64 (0 : Int) = ((0 : Nat) : Int) := wr0
        have hs : o.step A = (o.went 0 true, (A.put 0 (wrap64 (o.t + 1))).noted ⟨0, 2, 0, tt, wrap64 (o.t + 1), true⟩) := by
          refine step_by (at_pt h (by omega) (by omega)).1 h1 (k := 2) (y := ((0 : Nat) : Int)) (z := (tt : Int)) (u := wrap64 (o.t + 1)) ?_ (did_casG (by omega) (by rw [hM.t, e]))
          unfold OpS.want
          simp only [h, ht.base, w0]
          rw [ht.t]
          simp
        rw [hs] at e2
        have e4 : ((A.put 0 (wrap64 (o.t + 1))).noted ⟨0, 2, 0, tt, wrap64 (o.t + 1), true⟩).val 0 = (A.noted x).val 0 := congrArg (fun B : Ar => B.val 0) e2
        rw [notedV, notedV, put_val (by omega), if_pos rfl, hM.t, ht.t, e, wrap64_in _ (by have := hM.big; omega)] at e4
        omega
    · have hle := ht.le
      have htt := ht.t
      refine .inr (.inr (.inr ⟨?_, fun _ => ⟨h, by rw [htt]; omega⟩⟩))
      have hw : ∀ z ok, (o.went z ok).at_ = 1 := fun z ok => by
        have : o.went z ok = OpS.ended (decidedS o ok 6).code (decidedS o ok 6).v := by unfold OpS.went; simp [h]
        rw [this]; rfl
      have hs : o.step A = (o.went 0 false, A.noted ⟨0, 2, 0, tt, wrap64 ((tt : Int) + 1), false⟩) := by
        have w0 : wrap64 (0 : Int) = ((0 : Nat) : Int) := wr0
        refine step_by (at_pt h (by omega) (by omega)).1 h1 (k := 2) (y := ((0 : Nat) : Int)) (z := (tt : Int)) (u := wrap64 ((tt : Int) + 1)) ?_ (did_casN (by omega) (by rw [hM.t]; omega))
        unfold OpS.want
        simp only [h, ht.t, ht.base]
        rw [w0]
        simp
      rw [hs]
      exact hw _ _
theorem LI.goes {most size n who k : Nat} {S1 : Dpl} {g g' : Gh} {b : Dac} {o : OpS} {B : Ar} {y : Cal} (h : LI S1 g) (hrun : ∀ (i : Nat) (x : Dac) (j : Nat) (c : Cal), S1.acts[i]? = some x → Rn x.op → x.call = j → S1.calls[j]? = some c → c.who = i ∧ c.en = -1 ∧ c.code = 0 ∧ c.v = 0) (hbg : ∀ c ∈ S1.calls, c.bg ≤ n) (hd : DI most size S1 g) (hb : S1.acts[who]? = some b) (hrb : Rn b.op) (hco : CodeOk b.op) (hst : b.op.step (Acs S1.A who) = (o, B)) (hk : b.call = k) (hy : S1.calls[k]? = some y) (hev : PEv who g g' b.op o) :
    LI (S1.goes n who) g' := by
  have hc := goes_cal (n := n) hb hst hk hy
  have hgb : S1.acts.getD who Dac.zero = b := by rw [List.getD_eq_getElem?_getD, hb]; rfl
  obtain ⟨-, -, -, -, k5⟩ := Dpl.goes_keep S1 n who
  rw [hgb, hst] at k5
  have hwl := (List.getElem?_eq_some_iff.1 hb).1
  have hkl := (List.getElem?_eq_some_iff.1 hy).1
  obtain ⟨y1, y2, y3, y4⟩ := hrun who b k y hb hrb hk hy
  have hst1 : (b.op.step (Acs S1.A who)).1 = o := by rw [hst]
  have hact : ∀ (i : Nat) (x : Dac), (S1.goes n who).acts[i]? = some x → i = who ∧ x = ⟨o, b.call⟩ ∨ i ≠ who ∧ S1.acts[i]? = some x := fun i x hx => by
    rw [k5] at hx
    by_cases e : i = who
    · subst e
      rw [List.getElem?_set_self hwl] at hx
      injection hx with hx
      exact .inl ⟨rfl, hx.symm⟩
    · rw [List.getElem?_set_ne (fun e2 => e e2.symm)] at hx
      exact .inr ⟨e, hx⟩
  have hact' : ∀ (i : Nat) (x : Dac), i ≠ who → S1.acts[i]? = some x → (S1.goes n who).acts[i]? = some x := fun i x e hx => by
    rw [k5, List.getElem?_set_ne (fun e2 => e e2.symm)]; exact hx
  -- a call behind the step
  have hcal : ∀ (j : Nat) (c : Cal), (S1.goes n who).calls[j]? = some c → S1.calls[j]? = some c ∨ (j = k ∧ o.ans.1 ≠ 0 ∧ c = { y with en := n, code := o.ans.1, v := o.ans.2 }) := fun j c hj => by
    rw [hc] at hj
    split at hj
    · exact .inl hj
    · rename_i hz
      by_cases e : k = j
      · subst e
        rw [List.getElem?_set_self hkl] at hj
        injection hj with hj
        exact .inr ⟨rfl, hz, hj.symm⟩
      · rw [List.getElem?_set_ne e] at hj
        exact .inl hj
  have hcal' : ∀ (j : Nat) (c : Cal), j ≠ k → S1.calls[j]? = some c → (S1.goes n who).calls[j]? = some c := fun j c e hj => by
    rw [hc]
    split
    · exact hj
    · rw [List.getElem?_set_ne (fun e2 => e e2.symm)]; exact hj
  have hsame : ∀ (i : Nat) (x : Dac) (j : Nat), i ≠ who → S1.acts[i]? = some x → Rn x.op → x.call = j → j < S1.calls.length → j ≠ k := fun i x j hne hx hr hj hjl e => by
    subst e
    have := (hrun i x j y hx hr hj hy).1
    omega
  have hbgk : ∀ (j : Nat) (c : Cal), S1.calls[j]? = some c → c.bg ≤ n := fun j c hj => hbg c (List.mem_of_getElem? hj)
  -- what the owner's machine was
  have hown : who = 0 → (2 ≤ b.op.at_ ∧ b.op.at_ ≤ 21 ∧ b.op.base = 0) := fun e => by subst e; exact own_at (hd.own b hb) hrb
  have hownE : who = 0 → (o.ans.1 ≠ 6 ∧ (b.op.at_ ≤ 12 → o.at_ ≤ 12) ∧ (b.op.at_ = 20 → o.code = 4 → o.at_ = 21)) := fun e => by
    have h1 := hown e
    have := own_end (A := Acs S1.A who) hco hrb ⟨h1.1, h1.2.1⟩
    rw [hst1] at this
    exact this
  have hown21 : who = 0 → b.op.at_ = 21 → o = OpS.ended b.op.code b.op.v := fun e e2 => by
    have := own_last (A := Acs S1.A who) (most := most) (size := size) hd.mm (hown e).2.2 e2
    rw [hst1] at this
    exact this
  -- what took one goes on having
  have hwit : ∀ (j : Nat) (fr : Int), fr ≤ n → Wit S1 j fr → Wit (S1.goes n who) j fr := fun j fr hfr hw => by
    obtain ⟨x, x1, x2, x3⟩ := hw
    rcases x3 with ⟨x3, x4⟩ | ⟨a, a1, a2, a3, a4⟩
    · have hjk : j ≠ k := fun e => by subst e; rw [hy] at x1; injection x1 with x1; subst x1; omega
      exact ⟨x, hcal' j x hjk x1, x2, .inl ⟨x3, x4⟩⟩
    · by_cases hw0 : who = 0
      · subst hw0
        rw [hb] at a1
        injection a1 with a1
        subst a1
        have hjk : j = k := by omega
        subst hjk
        rw [hy] at x1
        injection x1 with x1
        subst x1
        have ho := hown21 rfl a2
        have hans : o.ans = (4, b.op.v) := by
          rw [ho, a3]
          unfold OpS.ans
          rw [if_neg (by intro e; have := congrArg OpS.at_ e; simp [OpS.ended, OpS.zero] at this), if_pos (by simp [OpS.ended])]
          rfl
        refine ⟨{ y with en := n, code := o.ans.1, v := o.ans.2 }, ?_, x2, .inl ⟨by show o.ans.1 = 4; rw [hans], hfr⟩⟩
        rw [hc, if_neg (by rw [hans]; show ¬ (4 : Int) = 0; decide), List.getElem?_set_self hkl]
      · have hjl := (List.getElem?_eq_some_iff.1 x1).1
        have hjk := hsame 0 a j (fun e => hw0 e.symm) a1 (rn_at a2 (by omega) (by omega)) a4 hjl
        exact ⟨x, hcal' j x hjk x1, x2, .inr ⟨a, hact' 0 a (fun e => hw0 e.symm) a1, a2, a3, a4⟩⟩
  -- who raises TOP is at it
  have hraise : g'.top ≠ g.top → ∃ x, (S1.goes n who).calls[k]? = some x ∧ x.kind ≠ 0 ∧ x.bg = y.bg ∧ ((x.code = 4 ∧ (n : Int) ≤ x.en) ∨ ∃ a : Dac, (S1.goes n who).acts[0]? = some a ∧ a.op.at_ = 21 ∧ a.op.code = 4 ∧ a.call = (k : Int)) := fun hne => by
    cases hev with
    | read _ e _ => exact absurd (by rw [e]) hne
    | take hw e0 _ _ e2 =>
      have hans : o.ans = (4, g.V.getD g.top 0) := by
        rw [e2]
        unfold OpS.ans
        rw [if_neg (by intro e; have := congrArg OpS.at_ e; simp [OpS.ended, OpS.zero] at this), if_pos (by simp [OpS.ended])]
        rfl
      refine ⟨{ y with en := n, code := o.ans.1, v := o.ans.2 }, ?_, (h.th who b k y (by omega) hb hrb hk hy).1, rfl, .inl ⟨by show o.ans.1 = 4; rw [hans], Int.le_refl _⟩⟩
      rw [hc, if_neg (by rw [hans]; show ¬ (4 : Int) = 0; decide), List.getElem?_set_self hkl]
    | owner hw e =>
      cases e with
      | none _ e1 _ => exact absurd e1 hne
      | push _ _ e1 _ => exact absurd e1 hne
      | pop _ _ _ _ _ e1 _ => exact absurd e1 hne
      | last a1 _ _ _ a4 _ =>
        subst hw
        have h21 := (hownE rfl).2.2 a1 a4
        have hz : o.ans.1 = 0 := by rw [ans_go (fun e => by rw [e] at h21; simp [OpS.zero] at h21) (by omega)]
        refine ⟨y, by rw [hc, if_pos hz]; exact hy, h.kd b k y hb hrb (by omega) hk hy, rfl, .inr ⟨⟨o, b.call⟩, ?_, h21, a4, hk⟩⟩
        rw [k5, List.getElem?_set_self hwl]
  have htop : g.top ≤ g'.top := by
    cases hev with
    | read _ e _ => rw [e]; exact Nat.le_refl _
    | take _ _ _ e _ => rw [e]; exact Nat.le_succ _
    | owner _ e =>
      cases e with
      | none _ e1 _ => omega
      | push _ _ e1 _ => omega
      | pop _ _ _ _ _ e1 _ => omega
      | last _ _ _ e1 _ _ => omega
  refine ⟨fun a j c ha hr h13 hj hcj => ?_, fun i a j c hi ha hr hj hcj => ?_, fun j c hcj h6 => ?_⟩
  · rcases hact 0 a ha with ⟨e, rfl⟩ | ⟨e, ha⟩
    · have hjk : j = k := by have : b.call = j := hj; omega
      subst hjk
      have hb13 : 13 ≤ b.op.at_ := by
        have := (hownE e.symm).2.1
        have h13 : 13 ≤ o.at_ := h13
        omega
      subst e
      have hkk := h.kd b j y hb hrb hb13 hk hy
      rcases hcal j c hcj with hcj | ⟨-, -, rfl⟩
      · rw [hy] at hcj; injection hcj with hcj; subst hcj; exact hkk
      · exact hkk
    · rcases hcal j c hcj with hcj | ⟨rfl, -, rfl⟩
      · exact h.kd a j c ha hr h13 hj hcj
      · exact absurd rfl (hsame 0 a j e ha hr hj hkl)
  · rcases hact i a ha with ⟨e, rfl⟩ | ⟨e, ha⟩
    · subst e
      have hjk : j = k := by have : b.call = j := hj; omega
      subst hjk
      have hro : Rn o := hr
      have hz : o.ans.1 = 0 := by rw [ans_go hro.1 hro.2]
      rcases hcal j c hcj with hcj | ⟨-, hz2, -⟩
      · rw [hy] at hcj
        injection hcj with hcj
        subst hcj
        obtain ⟨q1, q2⟩ := h.th i b j y hi hb hrb hk hy
        refine ⟨q1, fun a1 a2 => ?_⟩
        have a1 : 23 ≤ o.at_ := a1
        have a2 : o.t < g'.top := a2
        -- the thief read: TOP is as it was
        have hg : g' = g := by
          cases hev with
          | read _ e _ => exact e
          | take _ _ _ _ e2 => rw [e2] at hro; exact absurd rfl hro.2
          | owner e _ => omega
        rw [hg] at a2
        have hl := thief_left (A := Acs S1.A i) hd.mm (hd.thf i b hi hb).1 hrb
        rw [hst1] at hl
        rcases hl with ⟨-, l2⟩ | ⟨l1, l2, l3⟩ | l1 | ⟨l1, -⟩
        · omega
        · obtain ⟨j2, j3, j4⟩ := q2 l3 (by omega)
          exact ⟨j2, j3, hwit j2 _ (hbgk j y hy) j4⟩
        · omega
        · omega
      · exact absurd hz hz2
    · rcases hcal j c hcj with hcj | ⟨rfl, -, rfl⟩
      · obtain ⟨q1, q2⟩ := h.th i a j c hi ha hr hj hcj
        refine ⟨q1, fun a1 a2 => ?_⟩
        have hjl := (List.getElem?_eq_some_iff.1 hcj).1
        by_cases hlt : a.op.t < g.top
        · obtain ⟨j2, j3, j4⟩ := q2 a1 hlt
          exact ⟨j2, j3, hwit j2 _ (hbgk j c hcj) j4⟩
        · obtain ⟨x, x1, x2, x3, x4⟩ := hraise (by omega)
          refine ⟨k, fun e2 => hsame i a j e ha hr hj hjl e2.symm, x, x1, x2, ?_⟩
          rcases x4 with ⟨x4, x5⟩ | x4
          · exact .inl ⟨x4, by have := hbgk j c hcj; omega⟩
          · exact .inr x4
      · exact absurd rfl (hsame i a j e ha hr hj hkl)
  · rcases hcal j c hcj with hcj | ⟨rfl, hz, rfl⟩
    · obtain ⟨j2, x, x1, x2, x3, x4⟩ := h.lost j c hcj h6
      have hw := hwit j2 _ (hbgk j c hcj) x2
      by_cases e : j2 = k
      · subst e
        rw [hy] at x3
        injection x3 with x3
        subst x3
        obtain ⟨z, z1, -⟩ := hw
        refine ⟨j2, z, x1, hwit j2 _ (hbgk j c hcj) x2, z1, ?_⟩
        rcases hcal j2 z z1 with z1 | ⟨-, -, rfl⟩
        · rw [hy] at z1; injection z1 with z1; subst z1; exact x4
        · exact x4
      · exact ⟨j2, x, x1, hw, hcal' j2 x e x3, x4⟩
    · -- the call that is told now has lost
      have h6 : o.ans.1 = 6 := h6
      have hw0 : who ≠ 0 := fun e => (hownE e).1 h6
      have hg : g' = g := by
        cases hev with
        | read _ e _ => exact e
        | take _ _ _ _ e2 =>
          rw [e2] at h6
          unfold OpS.ans at h6
          rw [if_neg (by intro e; have := congrArg OpS.at_ e; simp [OpS.ended, OpS.zero] at this), if_pos (by simp [OpS.ended])] at h6
          exact absurd (show (4 : Int) = 6 from h6) (by decide)
        | owner e _ => exact absurd e hw0
      have hl := thief_left (A := Acs S1.A who) hd.mm (hd.thf who b (by omega) hb).1 hrb
      rw [hst1] at hl
      have hat : o.at_ = 1 ∧ o.code = 6 := by
        unfold OpS.ans at h6
        split at h6
        · exact absurd h6 (by decide)
        · split at h6
          · exact ⟨‹_›, h6⟩
          · exact absurd h6 (by decide)
      rcases hl with ⟨l1, -⟩ | ⟨l1, -, l3⟩ | l1 | ⟨-, l2⟩
      · omega
      · omega
      · omega
      · obtain ⟨l3, l4⟩ := l2 hat.2
        obtain ⟨j2, j3, j4⟩ := (h.th who b j y (by omega) hb hrb hk hy).2 (by omega) l4
        have hw := hwit j2 _ (hbgk j y hy) j4
        obtain ⟨z, z1, -⟩ := j4
        exact ⟨j2, z, j3, hw, hcal' j2 z j3 z1, hbgk j2 z z1⟩
theorem LI.pick {most size th : Nat} {S S' : Dpl} {g g' : Gh} {n who : Nat} (h : LI S g) (ht : TC th S n) (hp : PS most size th S g n) (hs : PStep most size n who S S' g g') : LI S' g' := by
  cases hs with
  | idle e1 e2 e3 e4 e5 => subst e4 e5; exact h
  | go S1 a b k o B ha hS1 hd hb hrb hst hk hkl hlen hA hS' hev =>
    obtain ⟨r1, r2⟩ := run_mid ht hp ha hS1
    have hco : CodeOk b.op := by
      rcases hS1 with ⟨-, rfl⟩ | ⟨hn, hbg⟩
      · exact hp.code who b hb
      · obtain ⟨-, -, -, o', e7, e8, e9⟩ := Dpl.begin_keep hbg
        rw [e7, List.getElem?_set_self (List.getElem?_eq_some_iff.1 ha).1] at hb
        injection hb with hb
        subst hb
        exact at_code (by show o'.at_ ≠ 1; omega) (by show o'.at_ ≠ 21; omega)
    have h1 : LI S1 g := by
      rcases hS1 with ⟨-, rfl⟩ | ⟨hn, hbg⟩
      · exact h
      · exact h.begin ht hp ha hn hbg
    rw [hS']
    exact h1.goes r1 r2 hd hb hrb hco hst hk (List.getElem?_eq_getElem hkl) hev
theorem LI.picks {most size th : Nat} {S : Dpl} {g : Gh} {n : Nat} (h : LI S g) (ht : TC th S n) (hp : PS most size th S g n) (ks : List Nat) (hk : ∀ k ∈ ks, k < 1 + th) (hn : n + ks.length ≤ 1048576) : ∃ g' n', LI (S.picks n ks) g' ∧ TC th (S.picks n ks) n' := by
  induction ks generalizing S g n with
  | nil => exact ⟨g, n, h, ht⟩
  | cons k ks ih =>
    rw [List.length_cons] at hn
    obtain ⟨g', hp', hs⟩ := hp.pick (hk k (by simp)) (by omega)
    exact ih (h.pick ht hp hs) (ht.pick hp (hk k (by simp)) hs).1 hp' (fun x hx => hk x (by simp [hx])) (by omega)
theorem li_start (size f most th : Nat) (ts : List Tod) (g : Gh) : LI (startS size f most th ts) g :=
  ⟨fun a k c ha hr h13 hk hc => by simp [startS] at hc, fun i a k c hi ha hr hk hc => by simp [startS] at hc, fun k c hc => by simp [startS] at hc⟩
/-- Has it taken one, or is it about to, between y and z? -/
def tookB (x : Cal) (y z : Int) : Bool := !(x.kind == 0) && !(decide (z < x.bg)) && !(decide (0 ≤ x.en) && decide (x.en < y)) && (x.code == 4 || x.code == 0)
theorem lost_picks {f most th : Nat} {ts : List Tod} (hf : 1 ≤ f) (hm : f ≤ most) (hm2 : most ≤ 4096) (ks : List Nat) (hk : ∀ k ∈ ks, k < 1 + th) (hn : ks.length ≤ 1048576) (k : Nat) (c : Cal) (hc : ((startS (cellsFrom most f (4 + f)) f most th ts).picks 0 ks).calls[k]? = some c) (h6 : c.code = 6) :
    ∃ (j : Nat) (x : Cal), j ≠ k ∧ ((startS (cellsFrom most f (4 + f)) f most th ts).picks 0 ks).calls[j]? = some x ∧ tookB x c.bg c.en = true := by
  obtain ⟨g', n', hl, ht⟩ := (li_start (cellsFrom most f (4 + f)) f most th ts (startG f)).picks (tc_start _ _ _ _ _) (ps_start f most th ts hf hm hm2) ks hk (by omega)
  obtain ⟨j, x, h1, ⟨y, y1, y2, y3⟩, h3, h4⟩ := hl.lost k c hc h6
  rw [h3] at y1
  injection y1 with y1
  subst y1
  refine ⟨j, x, h1, h3, ?_⟩
  rcases y3 with ⟨e1, e2⟩ | ⟨a, a1, a2, a3, a4⟩
  · simp [tookB, y2, e1]; omega
  · obtain ⟨r1, r2, r3, r4⟩ := ht.run 0 a j x a1 (rn_at a2 (by omega) (by omega)) a4 h3
    simp [tookB, y2, r2, r3]; omega
end Go.Proofs.Ytaeooljfilkaeaa
/-! HistDequeLost. -/
namespace Go.Proofs.Ytaeooljfilkaeaa
set_option linter.unusedVariables false
set_option maxRecDepth 20000
set_option linter.unusedSimpArgs false
open Go.RowKit Go.HeapKit Go.IntWalk Go.PlainOps

def tookI (x1 x3 x4 x5 y z : Int) : Bool := !(x1 == 0) && !(decide (z < x3)) && !(decide (0 ≤ x4) && decide (x4 < y)) && (x5 == 4 || x5 == 0)
set_option maxHeartbeats 4000000 in
set_option maxRecDepth 100000 in
theorem took_ok (x0 x1 x2 x3 x4 x5 x6 y z : Int) (w : World) :
    Calls Try.prog 17 #[.agg #[.int .i64 x0, .int .i64 x1, .int .i64 x2, .int .i64 x3, .int .i64 x4, .int .i64 x5, .int .i64 x6], .int .i64 y, .int .i64 z] w fun e w' => e = .returned (.bool (tookI x1 x3 x4 x5 y z)) ∧ Keeps None w w' := by
  have HK : Hid _ := Keeps.alloc None w (.cells #[.int .i64 x0, .int .i64 x1, .int .i64 x2, .int .i64 x3, .int .i64 x4, .int .i64 x5, .int .i64 x6] 45)
  have hbX := new_at w (.cells #[.int .i64 x0, .int .i64 x1, .int .i64 x2, .int .i64 x3, .int .i64 x4, .int .i64 x5, .int .i64 x6] 45) _ rfl
  have c1 := (cell_of_block hbX 1).trans rfl
  have c3 := (cell_of_block hbX 3).trans rfl
  have c4 := (cell_of_block hbX 4).trans rfl
  have c5 := (cell_of_block hbX 5).trans rfl
  clear hbX
  obtain ⟨tb, htb⟩ : ∃ tb, tb = tookI x1 x3 x4 x5 y z := ⟨_, rfl⟩
  rw [← htb]
  go_enter Try.func17, Try.ntmps17
  by_cases h1 : x1 = 0
  · have : tb = false := by rw [htb]; simp [tookI, h1]
    subst this
    clear htb
    subst h1
    go_wp2_with fail
    go_ret
    exact ⟨rfl, HK.out⟩
  have b1 : (x1 == 0) = false := by simpa using h1
  by_cases h3 : z < x3
  · have : tb = false := by rw [htb]; simp [tookI, h3]
    subst this
    clear htb h1
    have j3 : decide (x3 > z) = true := decide_eq_true h3
    go_wp2_with fail
    go_ret
    exact ⟨rfl, HK.out⟩
  have j3 : decide (x3 > z) = false := decide_eq_false h3
  by_cases h4 : 0 ≤ x4 ∧ x4 < y
  · have : tb = false := by rw [htb]; simp [tookI, h4]
    subst this
    obtain ⟨h4, h5⟩ := h4
    have j4 : decide (x4 ≥ 0) = true := decide_eq_true h4
    have j5 : decide (x4 < y) = true := decide_eq_true h5
    clear htb h1
    go_wp2_with fail
    go_ret
    exact ⟨rfl, HK.out⟩
  have hq : (decide (x4 ≥ 0) = false ∧ ¬ 0 ≤ x4) ∨ (decide (x4 ≥ 0) = true ∧ 0 ≤ x4 ∧ decide (x4 < y) = false ∧ ¬ x4 < y) := by
    by_cases e : 0 ≤ x4
    · right; exact ⟨decide_eq_true e, e, decide_eq_false (fun f => h4 ⟨e, f⟩), fun f => h4 ⟨e, f⟩⟩
    · left; exact ⟨decide_eq_false e, e⟩
  by_cases h5 : x5 = 4
  · have : tb = true := by rw [htb]; simp [tookI, h1, h5]; omega
    subst this h5
    clear htb h1 h4
    rcases hq with ⟨q1, q2⟩ | ⟨q1, q2, q3, q4⟩ <;> (go_wp2_with fail; go_ret; exact ⟨rfl, HK.out⟩)
  have b5 : (x5 == 4) = false := by simpa using h5
  by_cases h6 : x5 = 0
  · have : tb = true := by rw [htb]; simp [tookI, h1, h6]; omega
    subst this h6
    clear htb h1 h4 h5
    rcases hq with ⟨q1, q2⟩ | ⟨q1, q2, q3, q4⟩ <;> (go_wp2_with fail; go_ret; exact ⟨rfl, HK.out⟩)
  have b6 : (x5 == 0) = false := by simpa using h6
  have : tb = false := by rw [htb]; simp [tookI, h5, h6]
  subst this
  clear htb h1 h4 h5 h6
  rcases hq with ⟨q1, q2⟩ | ⟨q1, q2, q3, q4⟩ <;> (go_wp2_with fail; go_ret; exact ⟨rfl, HK.out⟩)
end Go.Proofs.Ytaeooljfilkaeaa
