import Derived.Test.YtbdpdojeaahpjaaGreatDoorPkBH
import Derived.Test.YtbdpdojeaahpjaaGreatDoorPkAC
import Derived.Test.YtbdpdojeaahpjaaGreatDoorPkAW
/-! The document's own way to tell a run's dag, plainly: a task's last node and its children's ends are carried along. -/
namespace Go.Proofs.YtbdpdojeaahpjaaGreatDoor
set_option linter.unusedVariables false
set_option maxRecDepth 20000
open Go.RowKit Go.PlainOps

/-- The nodes ahead of a sync, by rising number: the instruction ahead of it among the children's ends. -/
def joinL : Option Nat → List Nat → List Nat
  | none, es => es
  | some f, [] => [f]
  | some f, e :: es => if f < e then f :: e :: es else e :: joinL (some f) es
theorem joinL_perm (f : Nat) : ∀ es : List Nat, (joinL (some f) es).Perm (f :: es)
  | [] => List.Perm.refl _
  | e :: es => by
    unfold joinL
    split
    · exact List.Perm.refl _
    · exact ((joinL_perm f es).cons e).trans (List.Perm.swap f e es)
theorem joinL_le {f x : Nat} : ∀ {es : List Nat}, (∀ y ∈ es, x ≤ y) → x ≤ f → ∀ y ∈ joinL (some f) es, x ≤ y := fun {es} h hf y hy => by
  have := (joinL_perm f es).mem_iff.1 hy
  rcases List.mem_cons.1 this with rfl | h1
  · exact hf
  · exact h y h1
theorem joinL_sorted (f : Nat) : ∀ {es : List Nat}, es.Pairwise (· ≤ ·) → (joinL (some f) es).Pairwise (· ≤ ·)
  | [], _ => List.pairwise_singleton _ _
  | e :: es, h => by
    have h1 := List.pairwise_cons.1 h
    unfold joinL
    split
    · rename_i hlt
      exact List.pairwise_cons.2 ⟨fun y hy => by rcases List.mem_cons.1 hy with rfl | hy; omega; have := h1.1 y hy; omega, h⟩
    · rename_i hlt
      exact List.pairwise_cons.2 ⟨joinL_le h1.1 (by omega), joinL_sorted f h1.2⟩
theorem sorted_eq : ∀ {a b : List Nat}, a.Pairwise (· ≤ ·) → b.Pairwise (· ≤ ·) → a.Perm b → a = b
  | [], b, _, _, h => by have := h.length_eq; cases b with | nil => rfl | cons _ _ => simp at this
  | x :: a, b, ha, hb, h => by
    cases b with
    | nil => have := h.length_eq; simp at this
    | cons y b =>
      have ha1 := List.pairwise_cons.1 ha
      have hb1 := List.pairwise_cons.1 hb
      have e : x = y := by
        have h1 : x ∈ y :: b := h.mem_iff.1 (List.mem_cons_self)
        have h2 : y ∈ x :: a := h.mem_iff.2 (List.mem_cons_self)
        rcases List.mem_cons.1 h1 with e | h1
        · exact e
        · rcases List.mem_cons.1 h2 with e | h2
          · exact e.symm
          · have := ha1.1 y h2
            have := hb1.1 x h1
            omega
      subst e
      rw [sorted_eq ha1.2 hb1.2 ((List.perm_cons x).1 h)]
theorem sortN_sorted (l : List Nat) : (sortN l).Pairwise (· ≤ ·) := by
  have h := List.pairwise_mergeSort (le := fun a b : Nat => decide (a ≤ b)) (fun a b c h1 h2 => by simp at h1 h2 ⊢; omega) (fun a b => by simp; omega) l
  exact h.imp (fun h => by simpa using h)
theorem joinL_none (es : List Nat) : joinL none es = es := by cases es <;> simp [joinL]
theorem sortN_join (fr : Option Nat) {es : List Nat} (h : es.Pairwise (· ≤ ·)) : sortN (fr.toList ++ es) = joinL fr es := by
  refine sorted_eq (sortN_sorted _) ?_ ((List.mergeSort_perm _ _).trans ?_)
  · cases fr with
    | none => rw [joinL_none]; exact h
    | some f => exact joinL_sorted f h
  · cases fr with
    | none => rw [joinL_none]; exact List.Perm.refl _
    | some f => exact (joinL_perm f es).symm
/-- A task from instruction 'at_' on, as the document tells it: how many tasks began (a ghost), the nodes and the edges so far, the node ahead, the ends of the children since the last sync. -/
def docV (fs : List Fn) : Nat → Nat → Nat → List (Nat × Nat) → Tk → Option Nat → List Nat → Nat → Option (Nat × Int × Nat × Nat × List (Nat × Nat))
  | 0, _, _, _, _, _, _, _ => none
  | g + 1, k, n, es, t, fr, en, at_ => match (codeOf fs t.node.func)[at_]? with
    | none => none
    | some i =>
      if i.kind = 3 then docV fs g k (n + 1) (es ++ fr.toList.map (fun f => (f, n))) (payT t) (some n) en i.a.toNat
      else if i.kind = 4 then docV fs g k (n + 1) (es ++ fr.toList.map (fun f => (f, n))) (payT t) (some n) en (if t.regs.getD i.a.toNat 0 = 0 then at_ + 1 else i.b.toNat)
      else if i.kind = 5 then match docV fs g (k + 1) (n + 1) (es ++ fr.toList.map (fun f => (f, n))) (enterT ⟨0, k, 0, []⟩ (childV fs (payT t) i)) (some n) [] 0 with
        | none => none
        | some (e, v, k2, n2, es2) => docV fs g k2 n2 es2 (gotT (spawnT (payT t)) i.a.toNat v 0) (some n) (en ++ [e]) (at_ + 1)
      else if i.kind = 9 then some (n, t.regs.getD i.a.toNat 0, k, n + 1, es ++ fr.toList.map (fun f => (f, n)))
      else docV fs g k (n + 1) (es ++ (if i.kind = 6 then joinL fr en else fr.toList).map (fun f => (f, n))) (computeT (payT t) i) (some n) (if i.kind = 6 then [] else en) (at_ + 1)

/-! ### What 'add' does to the places of the trace -/
theorem getD_set_same {α : Type} (l : List α) (k : Nat) (x d : α) (h : k < l.length) : (l.set k x).getD k d = x := by simp [List.getD_eq_getElem?_getD, h]
theorem getD_set_other {α : Type} (l : List α) (k q : Nat) (x d : α) (h : q ≠ k) : (l.set k x).getD q d = l.getD q d := by
  simp [List.getD_eq_getElem?_getD, Ne.symm h]
theorem getD_app_left {α : Type} (l m : List α) (q : Nat) (d : α) (h : q < l.length) : (l ++ m).getD q d = l.getD q d := by simp [List.getD_eq_getElem?_getD, List.getElem?_append_left h]
theorem getD_app_last {α : Type} (l : List α) (x d : α) : (l ++ [x]).getD l.length d = x := by simp [List.getD_eq_getElem?_getD]
/-- Where a task stands. -/
structure Rl (T : Trc) (t : Tk) (par : Option Nat) (fr : Option Nat) (en : List Nat) : Prop where
  zero : t.node.work = 0 → fr = par.map (fun p => T.lasts.getD p 0) ∧ en = []
  pos : 0 < t.node.work → fr = some (T.lasts.getD t.number.toNat 0) ∧ en = T.ends.getD t.number.toNat []
  up : en.Pairwise (· ≤ ·)
  lt : ∀ e ∈ en, e < T.n
  par : ∀ p, par = some p → p < t.number.toNat
structure Aft (T T' : Trc) (num : Nat) (par : Option Nat) (i : Ins) (fr : Option Nat) (en : List Nat) : Prop where
  n : T'.n = T.n + 1
  es : T'.es = T.es ++ (if i.kind = 6 then joinL fr en else fr.toList).map (fun f => (f, T.n))
  own : T'.lasts.getD num 0 = T.n
  las : ∀ q, q < T.lasts.length → q ≠ num → T'.lasts.getD q 0 = T.lasts.getD q 0
  eown : i.kind ≠ 9 → T'.ends.getD num [] = if i.kind = 6 then [] else en
  eoth : ∀ q, q < T.ends.length → q ≠ num → some q ≠ par → T'.ends.getD q [] = T.ends.getD q []
  epar : ∀ p, par = some p → i.kind ≠ 9 → T'.ends.getD p [] = T.ends.getD p []
  eend : ∀ p, par = some p → i.kind = 9 → T'.ends.getD p [] = T.ends.getD p [] ++ [T.n]
theorem froms_is {U : Trc} {num : Nat} {work : Int} {par fr : Option Nat} {en : List Nat} {i : Ins} (hz : work = 0 → fr = par.map (fun p => U.lasts.getD p 0)) (hp : work ≠ 0 → fr = some (U.lasts.getD num 0)) (he : U.ends.getD num [] = en) (hs : en.Pairwise (· ≤ ·)) :
    fromsV U num work par i = if i.kind = 6 then joinL fr en else fr.toList := by
  have key : ∀ fl : List Nat, fl = fr.toList → (if i.kind = 6 then sortN (fl ++ U.ends.getD num []) else fl) = if i.kind = 6 then joinL fr en else fr.toList := by
    rintro _ rfl
    rw [he]
    split
    · exact sortN_join fr hs
    · rfl
  unfold fromsV
  refine key _ ?_
  by_cases hw : work = 0
  · rw [if_pos hw, hz hw]; cases par <;> rfl
  · rw [if_neg hw, hp hw]; rfl
theorem add_aft {T : Trc} {k : Nat} {t : Tk} {par fr : Option Nat} {en : List Nat} (hj : Jn T k t par) (h : Rl T t par fr en) (i : Ins) : Aft T (addV T t.number.toNat t.node.work par i) t.number.toNat par i fr en := by
  obtain ⟨num, hnum⟩ : ∃ num, num = t.number.toNat := ⟨_, rfl⟩
  have h2 := hj.two
  have hp1 := hj.par
  have hp2 := h.par
  rw [← hnum] at hp2 ⊢
  -- what the trace is once the task has its place
  obtain ⟨U, hU⟩ : ∃ U, U = openT T t.node.work := ⟨_, rfl⟩
  have hUn : U.n = T.n ∧ U.es = T.es := by rw [hU]; unfold openT; split <;> exact ⟨rfl, rfl⟩
  have hU2 : U.lasts.length = U.ends.length ∧ num < U.lasts.length ∧ (∀ q, q < T.lasts.length → U.lasts.getD q 0 = T.lasts.getD q 0) ∧ (∀ q, q < T.ends.length → U.ends.getD q [] = T.ends.getD q []) ∧ U.ends.getD num [] = en ∧ T.lasts.length ≤ U.lasts.length := by
    rcases hj.num with ⟨a, b, c⟩ | ⟨a, b, c, d⟩
    · rw [hU]
      unfold openT
      rw [if_pos a]
      have e : num = T.lasts.length := by omega
      refine ⟨by simp [h2], by simp [e], fun q hq => getD_app_left _ _ _ _ hq, fun q hq => getD_app_left _ _ _ _ hq, ?_, by simp⟩
      rw [(h.zero a).2, e, h2]
      exact getD_app_last _ _ _
    · rw [hU]
      unfold openT
      rw [if_neg (by omega)]
      refine ⟨h2, by omega, fun _ _ => rfl, fun _ _ => rfl, ?_, Nat.le_refl _⟩
      rw [(h.pos a).2, hnum]
  obtain ⟨u1, u2, u3, u4, u5, u6⟩ := hU2
  have hfr : (fromsV U num t.node.work par i) = if i.kind = 6 then joinL fr en else fr.toList := by
    refine froms_is (fun a => ?_) (fun a => ?_) u5 h.up
    · rw [(h.zero a).1]
      cases hp : par with
      | none => rfl
      | some p => show some (T.lasts.getD p 0) = some (U.lasts.getD p 0); rw [u3 p (hp1 p hp)]
    · have a' : 0 < t.node.work := by have := hj.work; omega
      rw [(h.pos a').1, ← hnum]
      rcases hj.num with ⟨x, _⟩ | ⟨_, b, c, d⟩
      · exact absurd x a
      · rw [u3 num (by omega)]
  unfold addV
  rw [← hU, hfr]
  obtain ⟨C, hC⟩ : ∃ C, C = clearT U num i := ⟨_, rfl⟩
  have hC2 : C.n = T.n ∧ C.es = T.es ∧ C.lasts = U.lasts ∧ C.ends.length = U.ends.length ∧ (∀ q, q ≠ num → C.ends.getD q [] = U.ends.getD q []) ∧ C.ends.getD num [] = if i.kind = 6 then [] else en := by
    rw [hC]
    unfold clearT
    split
    · refine ⟨hUn.1, hUn.2, rfl, by simp, fun q hq => getD_set_other _ _ _ _ _ hq, getD_set_same _ _ _ _ (by omega)⟩
    · exact ⟨hUn.1, hUn.2, rfl, rfl, fun _ _ => rfl, u5⟩
  obtain ⟨c1, c2, c3, c4, c5, c6⟩ := hC2
  rw [← hC]
  have hl : ∀ q, q < T.lasts.length → q ≠ num → (C.lasts.set num C.n).getD q 0 = T.lasts.getD q 0 := fun q hq hn => by rw [getD_set_other _ _ _ _ _ hn, c3, u3 q hq]
  have ho : (C.lasts.set num C.n).getD num 0 = T.n := by rw [getD_set_same _ _ _ _ (by rw [c3]; exact u2), c1]
  have hq' : ∀ q, q < T.ends.length → q ≠ num → C.ends.getD q [] = T.ends.getD q [] := fun q hq hn => by rw [c5 q hn, u4 q hq]
  unfold markT
  cases hpar : par with
  | none =>
    simp only
    refine ⟨by simp [c1], by simp [c1, c2], ho, hl, fun _ => c6, fun q hq hn _ => hq' q hq hn, fun p e => (by cases e), fun p e => (by cases e)⟩
  | some p =>
    have hpl : p < T.ends.length := by rw [← h2]; exact hp1 p hpar
    have hpn : p ≠ num := by have := hp2 p hpar; omega
    simp only
    split
    · rename_i k9
      refine ⟨by simp [c1], by simp [c1, c2], ho, hl, fun e => absurd k9 e, fun q hq hn hqp => ?_, fun q e e9 => absurd k9 e9, fun q e _ => ?_⟩
      · show (C.ends.set p _).getD q [] = _
        rw [getD_set_other _ _ _ _ _ (fun e => hqp (by rw [e])), hq' q hq hn]
      · injection e with e
        subst e
        show (C.ends.set p _).getD p [] = _
        rw [getD_set_same _ _ _ _ (by omega)]
        show C.ends.getD p [] ++ [C.n] = _
        rw [hq' p hpl hpn, c1]
    · rename_i k9
      exact ⟨by simp [c1], by simp [c1, c2], ho, hl, fun _ => c6, fun q hq hn _ => hq' q hq hn, fun q e _ => by injection e with e; subst e; exact hq' p hpl hpn, fun q _ e9 => absurd e9 k9⟩
/-- What a task leaves of the other tasks' places: its parent has its end. -/
structure Beh (T T2 : Trc) (num : Nat) (par : Option Nat) : Prop where
  las : ∀ q, q < T.lasts.length → q ≠ num → T2.lasts.getD q 0 = T.lasts.getD q 0
  oth : ∀ q, q < T.ends.length → q ≠ num → some q ≠ par → T2.ends.getD q [] = T.ends.getD q []
  par : ∀ p, par = some p → T2.ends.getD p [] = T.ends.getD p [] ++ [T2.n - 1]
  pos : T.n < T2.n
theorem Rl.next {T T' : Trc} {t t' : Tk} {par fr : Option Nat} {en : List Nat} {i : Ins} (h : Rl T t par fr en) (A : Aft T T' t.number.toNat par i fr en) (k9 : i.kind ≠ 9) (hw : 0 < t'.node.work) (hn : t'.number = t.number) : Rl T' t' par (some T.n) (if i.kind = 6 then [] else en) := by
  refine ⟨fun e => by omega, fun _ => ⟨by rw [hn, A.own], by rw [hn, A.eown k9]⟩, ?_, fun e he => ?_, fun p hp => by rw [hn]; exact h.par p hp⟩
  · split
    · exact List.Pairwise.nil
    · exact h.up
  · rw [A.n]
    split at he
    · cases he
    · have := h.lt e he; omega
theorem Beh.step {T T' T2 : Trc} {t : Tk} {k : Nat} {par fr : Option Nat} {en : List Nat} {i : Ins} (hj : Jn T k t par) (A : Aft T T' t.number.toNat par i fr en) (hl : T.lasts.length ≤ T'.lasts.length ∧ T.ends.length ≤ T'.ends.length) (k9 : i.kind ≠ 9) (B : Beh T' T2 t.number.toNat par) : Beh T T2 t.number.toNat par :=
  ⟨fun q hq hn => by rw [B.las q (by omega) hn, A.las q hq hn], fun q hq hn hp => by rw [B.oth q (by omega) hn hp, A.eoth q hq hn hp], fun p hp => by rw [B.par p hp, A.epar p hp k9], by have := B.pos; have := A.n; omega⟩
theorem walk_doc {fs : List Fn} : ∀ (g k : Nat) (T : Trc) (t : Tk) (par : Option Nat) (at_ : Nat) (v : Int) (k2 : Nat) (T2 : Trc) (fr : Option Nat) (en : List Nat), walkV fs g k T t par at_ = some (v, k2, T2) → Jn T k t par → Rl T t par fr en →
    docV fs g k T.n T.es t fr en at_ = some (T2.n - 1, v, k2, T2.n, T2.es) ∧ Beh T T2 t.number.toNat par
  | 0, k, T, t, par, at_, v, k2, T2, fr, en, h, hj, hr => by simp [walkV] at h
  | g + 1, k, T, t, par, at_, v, k2, T2, fr, en, h, hj, hr => by
    unfold walkV at h
    unfold docV
    cases hc : (codeOf fs t.node.func)[at_]? with
    | none => rw [hc] at h; cases h
    | some i =>
      rw [hc] at h
      simp only at h ⊢
      have A := add_aft hj hr i
      have hw := hj.work
      have hl : T.lasts.length ≤ (addV T t.number.toNat t.node.work par i).lasts.length ∧ T.ends.length ≤ (addV T t.number.toNat t.node.work par i).ends.length := by
        obtain ⟨a1, a2, a3⟩ := add_len T t.number.toNat t.node.work par i
        omega
      have hgo : ∀ (t' : Tk) (at' : Nat), i.kind ≠ 9 → t'.node.work = t.node.work + 1 → t'.number = t.number → walkV fs g k (addV T t.number.toNat t.node.work par i) t' par at' = some (v, k2, T2) → docV fs g k (T.n + 1) (T.es ++ (if i.kind = 6 then joinL fr en else fr.toList).map (fun f => (f, T.n))) t' (some T.n) (if i.kind = 6 then [] else en) at' = some (T2.n - 1, v, k2, T2.n, T2.es) ∧ Beh T T2 t.number.toNat par := fun t' at' k9 hw' hn h' => by
        have q := walk_doc g k _ t' par at' v k2 T2 (some T.n) (if i.kind = 6 then [] else en) h' (hj.shown i hw' hn) (hr.next A k9 (by omega) hn)
        rw [A.n, A.es, hn] at q
        exact ⟨q.1, Beh.step hj A hl k9 q.2⟩
      by_cases k3 : i.kind = 3
      · rw [if_pos k3] at h ⊢
        have q := hgo (payT t) i.a.toNat (by omega) rfl rfl h
        rw [if_neg (by omega), if_neg (by omega)] at q
        exact q
      · rw [if_neg k3] at h ⊢
        by_cases k4 : i.kind = 4
        · rw [if_pos k4] at h ⊢
          have q := hgo (payT t) _ (by omega) rfl rfl h
          rw [if_neg (by omega), if_neg (by omega)] at q
          exact q
        · rw [if_neg k4] at h ⊢
          by_cases k5 : i.kind = 5
          · rw [if_pos k5] at h ⊢
            cases hx : walkV fs g (k + 1) (addV T t.number.toNat t.node.work par i) (enterT ⟨0, k, 0, []⟩ (childV fs (payT t) i)) (some t.number.toNat) 0 with
            | none => rw [hx] at h; cases h
            | some x =>
              obtain ⟨v1, k1, T1⟩ := x
              rw [hx] at h
              simp only at h
              have hlen := hj.len i
              have hnk : t.number.toNat < k := by rcases hj.num with ⟨a, b, c⟩ | ⟨a, b, c, d⟩ <;> omega
              have hTk : T.lasts.length ≤ k := by rcases hj.num with ⟨a, b, c⟩ | ⟨a, b, c, d⟩ <;> omega
              have hcn : (enterT ⟨0, k, 0, []⟩ (childV fs (payT t) i)).number.toNat = k := by show ((k : Nat) : Int).toNat = k; omega
              have e6 : ¬ i.kind = 6 := by omega
              have k9 : i.kind ≠ 9 := by omega
              have qc := walk_doc g (k + 1) _ _ _ 0 v1 k1 T1 (some T.n) [] hx (hj.child i) ⟨fun _ => ⟨by rw [Option.map_some, A.own], rfl⟩, fun e => absurd e (by show ¬ (0 : Int) < 0; omega), List.Pairwise.nil, (fun e he => by cases he), fun p hp => by obtain rfl := Option.some.inj hp; rw [hcn]; exact hnk⟩
              rw [A.n, A.es, if_neg e6, hcn] at qc
              obtain ⟨qc1, B1⟩ := qc
              rw [qc1]
              simp only
              obtain ⟨w1, w2, w3⟩ := walk_len g (k + 1) _ _ _ 0 v1 k1 T1 hx (hj.child i)
              have hp1 := B1.pos
              rw [A.n] at hp1
              have hR : Rl T1 (gotT (spawnT (payT t)) i.a.toNat v1 0) par (some T.n) (en ++ [T1.n - 1]) := by
                refine ⟨fun e => absurd e (by show ¬ t.node.work + 1 = 0; omega), fun _ => ⟨?_, ?_⟩, ?_, fun e he => ?_, hr.par⟩
                · show some T.n = some (T1.lasts.getD t.number.toNat 0)
                  rw [B1.las _ (by omega) (by omega), A.own]
                · show en ++ [T1.n - 1] = T1.ends.getD t.number.toNat []
                  rw [B1.par _ rfl, A.eown k9, if_neg e6]
                · refine List.pairwise_append.2 ⟨hr.up, List.pairwise_singleton _ _, fun x hx y hy => ?_⟩
                  have := hr.lt x hx
                  simp at hy
                  omega
                · rcases List.mem_append.1 he with he | he
                  · have := hr.lt e he; omega
                  · simp at he; omega
              have q2 := walk_doc g k1 T1 _ par (at_ + 1) v k2 T2 (some T.n) (en ++ [T1.n - 1]) h (hj.back (t' := gotT (spawnT (payT t)) i.a.toNat v1 0) (by show 0 < t.node.work + 1; omega) rfl w1 w2 (by omega)) hR
              refine ⟨q2.1, ?_⟩
              have B2 : Beh T1 T2 t.number.toNat par := q2.2
              have h2 := hj.two
              refine ⟨fun q hq hn => ?_, fun q hq hn hp => ?_, fun p hp => ?_, by have := B2.pos; omega⟩
              · rw [B2.las q (by omega) hn, B1.las q (by omega) (by omega), A.las q hq hn]
              · rw [B2.oth q (by omega) hn hp, B1.oth q (by omega) (by omega) (fun e => hn (Option.some.inj e)), A.eoth q hq hn hp]
              · have hpl := hj.par p hp
                have hpn := hr.par p hp
                rw [B2.par p hp, B1.oth p (by omega) (by omega) (fun e => by have := Option.some.inj e; omega), A.epar p hp k9]
          · rw [if_neg k5] at h ⊢
            by_cases k9 : i.kind = 9
            · rw [if_pos k9] at h ⊢
              injection h with h
              injection h with e1 e2
              injection e2 with e2 e3
              subst e1 e2 e3
              have hn := A.n
              refine ⟨by rw [A.n, A.es, if_neg (by omega)]; rfl, ⟨A.las, A.eoth, fun p hp => by rw [A.eend p hp k9, hn]; rfl, by omega⟩⟩
            · rw [if_neg k9] at h ⊢
              refine hgo _ _ k9 ?_ ?_ h
              · unfold computeT
                repeat' split
                all_goals rfl
              · unfold computeT
                repeat' split
                all_goals rfl
/-- A whole run. -/
theorem run_doc {fs : List Fn} {g : Nat} {zs : List Int} {v : Int} {k2 : Nat} {T2 : Trc} (h : walkV fs g 1 trc0 (enterT ⟨0, 0, 0, []⟩ (rootT zs)) none 0 = some (v, k2, T2)) : docV fs g 1 0 [] (enterT ⟨0, 0, 0, []⟩ (rootT zs)) none [] 0 = some (T2.n - 1, v, k2, T2.n, T2.es) :=
  (walk_doc g 1 trc0 _ none 0 v k2 T2 none [] h ⟨rfl, .inl ⟨rfl, rfl, rfl⟩, fun p e => by cases e⟩ ⟨fun _ => ⟨rfl, rfl⟩, fun e => absurd e (by show ¬ (0 : Int) < 0; omega), List.Pairwise.nil, (fun e he => by cases he), fun p e => by cases e⟩).1
end Go.Proofs.YtbdpdojeaahpjaaGreatDoor
/-! The document's walk over a run, plainly: what an instruction may touch of its own function's registers; how the nodes and the edges grow. -/
namespace Go.Proofs.YtbdpdojeaahpjaaGreatDoor
set_option linter.unusedVariables false
set_option maxRecDepth 20000
open Go.RowKit Go.PlainOps

structure StepIn (fs : List Fn) (f : Fn) (i : Ins) : Prop where
  reg : i.kind ≠ 3 → i.kind ≠ 5 → i.kind ≠ 6 → 0 ≤ i.a ∧ i.a < f.regs
  regb : i.kind = 1 ∨ i.kind = 2 → 0 ≤ i.b ∧ i.b < f.regs
  regc : i.kind = 2 → 0 ≤ i.c ∧ i.c < f.regs
  slot : i.kind = 5 → 0 ≤ i.a ∧ i.a < f.slots
  load : i.kind = 7 → 0 ≤ i.b ∧ i.b < f.slots
  args : i.kind = 5 → parV fs i.b = 0 ∨ (0 ≤ i.c ∧ i.c + parV fs i.b ≤ f.regs)
theorem step_in {fs : List Fn} {f : Fn} {at_ : Nat} {i : Ins} (hV : Valid fs f) (hi : f.code[at_]? = some i) : StepIn fs f i := by
  have hf := (code_parts hV.code).1 _ _ hi
  obtain ⟨w1, w2, w3⟩ := fits_ways hf
  have hk := fits_kind hf
  obtain ⟨k, a, b, c, K⟩ := i
  simp only at hk w1 w2 w3 ⊢
  rcases kinds (i := ⟨k, a, b, c, K⟩) hk.1 hk.2 with e | e | e | e | e | e | e | e | e | e
  all_goals
    simp only at e
    subst e
    simp [fA, fB, fC, allowsV, belowV, holdsV] at w1 w2 w3
    refine ⟨?_, ?_, ?_, ?_, ?_, ?_⟩ <;> simp <;> first | done | omega
/-- How a walk grows. -/
theorem doc_up {fs : List Fn} : ∀ (g k n : Nat) (es : List (Nat × Nat)) (t : Tk) (fr : Option Nat) (en : List Nat) (at_ : Nat) (e : Nat) (v : Int) (k2 n2 : Nat) (es2 : List (Nat × Nat)), docV fs g k n es t fr en at_ = some (e, v, k2, n2, es2) →
    e + 1 = n2 ∧ n < n2 ∧ es2.length + 1 ≤ es.length + en.length + 2 * (n2 - n)
  | 0, k, n, es, t, fr, en, at_, e, v, k2, n2, es2, h => by simp [docV] at h
  | g + 1, k, n, es, t, fr, en, at_, e, v, k2, n2, es2, h => by
    have hfr : fr.toList.length ≤ 1 := by cases fr <;> simp
    have hfm : (fr.toList.map (fun f => (f, n))).length ≤ 1 := by rw [List.length_map]; exact hfr
    unfold docV at h
    split at h
    · cases h
    · rename_i i hi
      split at h
      · have q := doc_up g _ _ _ _ _ _ _ _ _ _ _ _ h
        rw [List.length_append] at q
        omega
      · split at h
        · have q := doc_up g _ _ _ _ _ _ _ _ _ _ _ _ h
          rw [List.length_append] at q
          omega
        · split at h
          · split at h
            · cases h
            · rename_i e1 v1 k1 n1 es1 hx
              have q1 := doc_up g _ _ _ _ _ _ _ _ _ _ _ _ hx
              have q := doc_up g _ _ _ _ _ _ _ _ _ _ _ _ h
              rw [List.length_append] at q1
              rw [List.length_append, List.length_singleton] at q
              rw [List.length_nil] at q1
              omega
          · split at h
            · injection h with h
              injection h with h1 h
              injection h with h2 h
              injection h with h3 h
              injection h with h4 h5
              subst h1 h4 h5
              rw [List.length_append]
              omega
            · have q := doc_up g _ _ _ _ _ _ _ _ _ _ _ _ h
              rw [List.length_append, List.length_map] at q
              have hj : (joinL fr en).length ≤ en.length + 1 := by
                cases fr with
                | none => rw [joinL_none]; omega
                | some f => have := (joinL_perm f en).length_eq; simp at this; omega
              by_cases k6 : i.kind = 6
              · rw [if_pos k6, if_pos k6, List.length_nil] at q
                omega
              · rw [if_neg k6, if_neg k6] at q
                omega
end Go.Proofs.YtbdpdojeaahpjaaGreatDoor
/-! The document's walk over a run: registers and slots as lists of their own, and 'plain'. -/
namespace Go.Proofs.YtbdpdojeaahpjaaGreatDoor
set_option linter.unusedVariables false
set_option maxRecDepth 20000
set_option linter.unusedSimpArgs false
open Go.RowKit Go.HeapKit Go.PlainOps

/-- A block of numbers. -/
def IsL (w : World) (G : Nat) (l : List Int) : Prop := w.heap[G]? = some (.cells (ints l).toArray 2 (0, 0))
section
variable {w w' : World} {G : Nat} {l : List Int}
theorem IsL.cell (h : IsL w G l) {k : Nat} {x : Int} (hx : l[k]? = some x) : w.cell? ⟨G, k, none⟩ = some (.int .i64 x) := by
  rw [blk_cell h]
  simpa using ints_at l k x hx
theorem IsL.free (h : IsL w G l) (k : Nat) : w.frozen? ⟨G, k, none⟩ = false := blk_free h k
theorem IsL.kept {S : Nat → Prop} (h : IsL w G l) (hk : Keeps S w w') (hS : ¬ S G) : IsL w' G l := blk_kept h hk hS
theorem IsL.put (h : IsL w G l) (k : Nat) (x : Int) : IsL (w.setCell ⟨G, k, none⟩ (.int .i64 x)) G (l.set k x) := by
  unfold IsL
  rw [blk_set h]
  simp [ints, List.map_set]
end
theorem take_at {l : List Int} {nr a : Nat} (h : a < nr) (hl : nr ≤ l.length) : (l.take nr)[a]? = some (l.getD a 0) := by
  rw [List.getElem?_take, if_pos h, List.getD_eq_getElem?_getD, List.getElem?_eq_getElem (by omega)]
  rfl
theorem dp0 (G nr : Nat) (l : List Int) (a : Nat) (b c k : Int) (w : World) (h : IsL w G l) (hl : l.length = nr) (ha : a < nr) :
    Calls Tryz.prog 23 #[.slice (some ⟨G, 0, none⟩) nr nr, .agg #[.int .i64 0, .int .i64 a, .int .i64 b, .int .i64 c, .int .i64 k]] w fun e0 w' => e0 = .returned (.tuple #[]) ∧ IsL w' G (l.set a k) ∧ Keeps (· = G) w w' := by
  have hal := Keeps.alloc None w (.cells #[.int .i64 0, .int .i64 a, .int .i64 b, .int .i64 c, .int .i64 k] 37)
  have h1 := h.kept hal (fun f => f)
  obtain ⟨x, hx⟩ : ∃ x, l[a]? = some x := ⟨l[a]'(by omega), by simp⟩
  have c1 := h1.cell hx
  have z1 := h1.free a
  have HH : Hid _ := And.intro (h1.put a k) ((hal.mono (T := (· = G)) (fun _ f _ => f.elim)).andSet (x := ⟨G, a, none⟩) (.inl rfl) (.int .i64 k))
  have i1 : (a : Int) < (nr : Int) := by omega
  clear h hal h1 hx hl
  go_enter Tryz.func23, Tryz.ntmps23
  go_wp2_with fail
  go_end0
  exact ⟨rfl, HH.out⟩
theorem dp1 (G nr : Nat) (l : List Int) (a b : Nat) (c k y : Int) (w : World) (h : IsL w G l) (hl : l.length = nr) (ha : a < nr) (hb : l[b]? = some y) :
    Calls Tryz.prog 23 #[.slice (some ⟨G, 0, none⟩) nr nr, .agg #[.int .i64 1, .int .i64 a, .int .i64 b, .int .i64 c, .int .i64 k]] w fun e0 w' => e0 = .returned (.tuple #[]) ∧ IsL w' G (l.set a y) ∧ Keeps (· = G) w w' := by
  have hal := Keeps.alloc None w (.cells #[.int .i64 1, .int .i64 a, .int .i64 b, .int .i64 c, .int .i64 k] 37)
  have h1 := h.kept hal (fun f => f)
  obtain ⟨x, hx⟩ : ∃ x, l[a]? = some x := ⟨l[a]'(by omega), by simp⟩
  have c1 := h1.cell hx
  have c2 := h1.cell hb
  have z1 := h1.free a
  have HH : Hid _ := And.intro ((h1.put a y).kept (Keeps.drew None _) (fun f => f)) ((hal.mono (T := (· = G)) (fun _ f _ => f.elim)).andSet (x := ⟨G, a, none⟩) (.inl rfl) (.int .i64 y)).andDrew
  have i1 : (a : Int) < (nr : Int) := by omega
  have i2 : (b : Int) < (nr : Int) := by have := (List.getElem?_eq_some_iff.1 hb).1; omega
  clear h hal h1 hx hl hb
  go_enter Tryz.func23, Tryz.ntmps23
  go_wp2_with fail
  go_region
  all_goals go_wp2_with fail
  all_goals go_end0
  all_goals exact ⟨rfl, HH.out⟩
theorem dp6 (G nr : Nat) (l : List Int) (a b c k : Int) (w : World) (h : IsL w G l) :
    Calls Tryz.prog 23 #[.slice (some ⟨G, 0, none⟩) nr nr, .agg #[.int .i64 6, .int .i64 a, .int .i64 b, .int .i64 c, .int .i64 k]] w fun e0 w' => e0 = .returned (.tuple #[]) ∧ IsL w' G l ∧ Keeps (· = G) w w' := by
  have hal := Keeps.alloc None w (.cells #[.int .i64 6, .int .i64 a, .int .i64 b, .int .i64 c, .int .i64 k] 37)
  have HH : Hid _ := And.intro (h.kept hal (fun f => f)) (hal.mono (T := (· = G)) (fun _ f _ => f.elim))
  clear h hal
  go_enter Tryz.func23, Tryz.ntmps23
  go_wp2_with fail
  go_end0
  exact ⟨rfl, HH.out⟩
set_option maxHeartbeats 2000000 in
theorem dp2 (G nr : Nat) (l : List Int) (a b c : Nat) (k y z : Int) (w : World) (h : IsL w G l) (hl : l.length = nr) (ha : a < nr) (hb : l[b]? = some y) (hc : l[c]? = some z) (hk : isOpV k = true) (o1 : okI y) (o2 : okI z) :
    Calls Tryz.prog 23 #[.slice (some ⟨G, 0, none⟩) nr nr, .agg #[.int .i64 2, .int .i64 a, .int .i64 b, .int .i64 c, .int .i64 k]] w fun e0 w' => e0 = .returned (.tuple #[]) ∧ IsL w' G (l.set a (workV k y z)) ∧ Keeps (· = G) w w' := by
  have hal := Keeps.alloc None w (.cells #[.int .i64 2, .int .i64 a, .int .i64 b, .int .i64 c, .int .i64 k] 37)
  have bI := heap_alloc_new w (.cells #[.int .i64 2, .int .i64 a, .int .i64 b, .int .i64 c, .int .i64 k] 37)
  obtain ⟨W, hW⟩ : ∃ W, W = w.alloc (.cells #[.int .i64 2, .int .i64 a, .int .i64 b, .int .i64 c, .int .i64 k] 37) := ⟨_, rfl⟩
  obtain ⟨I, hI⟩ : ∃ I, I = w.heap.size := ⟨_, rfl⟩
  rw [← hW] at hal bI
  rw [← hI] at bI
  have nI : I ≠ G := by have := blk_lt h; omega
  have nG : G ≠ I := nI.symm
  have h1 := h.kept hal (fun f => f)
  have j1 : W.cell? ⟨I, 1, none⟩ = some (.int .i64 (a : Int)) := (blk_cell bI 1).trans rfl
  have j0 : W.cell? ⟨I, 0, none⟩ = some (.int .i64 2) := (blk_cell bI 0).trans rfl
  have j2 : W.cell? ⟨I, 2, none⟩ = some (.int .i64 (b : Int)) := (blk_cell bI 2).trans rfl
  have j3 : W.cell? ⟨I, 3, none⟩ = some (.int .i64 (c : Int)) := (blk_cell bI 3).trans rfl
  have j4 : W.cell? ⟨I, 4, none⟩ = some (.int .i64 k) := (blk_cell bI 4).trans rfl
  obtain ⟨x, hx⟩ : ∃ x, l[a]? = some x := ⟨l[a]'(by omega), by simp⟩
  have c1 := h1.cell hx
  have c2 := h1.cell hb
  have c3 := h1.cell hc
  have z1 := h1.free a
  have i1 : (a : Int) < (nr : Int) := by omega
  have i2 : (b : Int) < (nr : Int) := by have := (List.getElem?_eq_some_iff.1 hb).1; omega
  have i3 : (c : Int) < (nr : Int) := by have := (List.getElem?_eq_some_iff.1 hc).1; omega
  have HH : Hid (∀ x, IsL ((W.setCell ⟨G, a, none⟩ (.int .i64 x)).drew) G (l.set a x) ∧ Keeps (· = G) w ((W.setCell ⟨G, a, none⟩ (.int .i64 x)).drew)) := fun x =>
    ⟨(h1.put a x).kept (Keeps.drew None _) (fun f => f), ((hal.mono (T := (· = G)) (fun _ f _ => f.elim)).andSet (x := ⟨G, a, none⟩) (.inl rfl) (.int .i64 x)).andDrew⟩
  have hap := fun wx => refApply_any k y z wx hk o1.1 o1.2 o2.1 o2.2
  obtain ⟨v, hv⟩ : ∃ v, v = workV k y z := ⟨_, rfl⟩
  rw [← hv] at hap ⊢
  have HAP : Hid _ := hap
  clear h hal h1 bI hx hv hap hk o1 o2 hl hb hc
  go_enter Tryz.func23, Tryz.ntmps23
  go_upto_region 1 with fail
  rw [← hW, ← hI]
  clear hW hI
  go_upto_region 7 with fail
  go_region_held3 (fun w' => w'.cell? ⟨I, 2, none⟩ = some (.int .i64 (b : Int)) ∧ w'.cell? ⟨I, 3, none⟩ = some (.int .i64 (c : Int)) ∧ w'.cell? ⟨I, 4, none⟩ = some (.int .i64 k) ∧ w'.cell? ⟨G, b, none⟩ = some (.int .i64 y) ∧ w'.cell? ⟨G, c, none⟩ = some (.int .i64 z)) (go_keep) ((go_at_call 37; refine (HAP.out _).mono ?_; rintro _ w4 ⟨rfl, hw4⟩; have hw5 := hw4.symm; subst hw5))
  all_goals go_wp2_with fail
  all_goals go_end0
  all_goals exact ⟨rfl, HH.out v⟩
theorem dplain_any (G nr : Nat) (t : Tk) (i : Ins) (w : World) (h : IsL w G (t.regs.take nr)) (hr : t.regs.length = 16) (hn : nr ≤ 16) (hok : ∀ x ∈ t.regs, okI x)
    (hk : i.kind = 0 ∨ i.kind = 1 ∨ i.kind = 2 ∨ i.kind = 6) (ha : i.kind ≠ 6 → 0 ≤ i.a ∧ i.a < nr) (hb : i.kind = 1 ∨ i.kind = 2 → 0 ≤ i.b ∧ i.b < nr) (hc : i.kind = 2 → 0 ≤ i.c ∧ i.c < nr) (ho : i.kind = 2 → 0 ≤ i.k ∧ i.k < 16) :
    Calls Tryz.prog 23 #[.slice (some ⟨G, 0, none⟩) nr nr, .agg #[.int .i64 i.kind, .int .i64 i.a, .int .i64 i.b, .int .i64 i.c, .int .i64 i.k]] w fun e' w' => e' = .returned (.tuple #[]) ∧ IsL w' G ((computeT t i).regs.take nr) ∧ Keeps (· = G) w w' := by
  have hl : (t.regs.take nr).length = nr := by simp; omega
  obtain ⟨K, A, B, C, k⟩ := i
  simp only at hk ha hb hc ho ⊢
  rcases hk with rfl | rfl | rfl | rfl
  · obtain ⟨a, rfl⟩ := Int.eq_ofNat_of_zero_le (ha (by decide)).1
    have q := dp0 G nr _ a B C k w h hl (by have := (ha (by decide)).2; omega)
    rw [← List.take_set] at q
    exact q
  · have hb := hb (.inl rfl)
    obtain ⟨a, rfl⟩ := Int.eq_ofNat_of_zero_le (ha (by decide)).1
    obtain ⟨b, rfl⟩ := Int.eq_ofNat_of_zero_le hb.1
    have q := dp1 G nr _ a b C k _ w h hl (by have := (ha (by decide)).2; omega) (take_at (by omega) (by omega))
    rw [← List.take_set] at q
    exact q
  · have hb := hb (.inr rfl)
    have hc := hc rfl
    obtain ⟨a, rfl⟩ := Int.eq_ofNat_of_zero_le (ha (by decide)).1
    obtain ⟨b, rfl⟩ := Int.eq_ofNat_of_zero_le hb.1
    obtain ⟨c, rfl⟩ := Int.eq_ofNat_of_zero_le hc.1
    have q := dp2 G nr _ a b c k _ _ w h hl (by have := (ha (by decide)).2; omega) (take_at (a := b) (by omega) (by omega)) (take_at (a := c) (by omega) (by omega)) (by have := ho rfl; simp [isOpV, this.1, this.2]) (getD_ok hok _) (getD_ok hok _)
    rw [← List.take_set] at q
    exact q
  · exact dp6 G nr _ A B C k w h
end Go.Proofs.YtbdpdojeaahpjaaGreatDoor
/-! A run traced, plainly: how far each node lies from the beginning. -/
namespace Go.Proofs.YtbdpdojeaahpjaaGreatDoor
set_option linter.unusedVariables false
set_option maxRecDepth 20000
open Go.RowKit Go.PlainOps

theorem getD_app {α : Type} {l m : List α} {k : Nat} (d : α) (h : k < l.length) : (l ++ m).getD k d = l.getD k d := by
  rw [List.getD_eq_getElem?_getD, List.getD_eq_getElem?_getD, List.getElem?_append_left h]
theorem getD_appR {α : Type} {l : List α} {x : α} (d : α) {k : Nat} (h : k = l.length) : (l ++ [x]).getD k d = x := by
  subst h
  rw [List.getD_eq_getElem?_getD, List.getElem?_append_right (Nat.le_refl _)]
  simp
theorem getD_set {α : Type} {l : List α} {k j : Nat} {x : α} (d : α) : (l.set k x).getD j d = if k = j ∧ j < l.length then x else l.getD j d := by
  rw [List.getD_eq_getElem?_getD, List.getD_eq_getElem?_getD, List.getElem?_set]
  by_cases h : k = j
  · subst h
    by_cases h2 : k < l.length
    · simp [h2]
    · simp [h2]
  · simp [h]
/-- How far a node lies, itself counted: one more than the farthest that it waits for. -/
structure Dst (T : Trc) (D : List Int) : Prop where
  len : D.length = T.n
  edge : ∀ e ∈ T.es, e.1 < e.2 ∧ e.2 < T.n
  low : ∀ e ∈ T.es, D.getD e.1 0 + 1 ≤ D.getD e.2 0
  hit : ∀ k < T.n, D.getD k 0 = 1 ∨ ∃ e ∈ T.es, e.2 = k ∧ D.getD k 0 = D.getD e.1 0 + 1
theorem mark_n (T : Trc) (m : Nat) (par : Option Nat) (i : Ins) (fr : List Nat) : (markT T m par i fr).n = T.n + 1 := by
  unfold markT; cases par <;> simp only <;> (repeat' split) <;> rfl
theorem mark_es (T : Trc) (m : Nat) (par : Option Nat) (i : Ins) (fr : List Nat) : (markT T m par i fr).es = T.es ++ fr.map (fun f => (f, T.n)) := by
  unfold markT; cases par <;> simp only <;> (repeat' split) <;> rfl
theorem mark_lasts (T : Trc) (m : Nat) (par : Option Nat) (i : Ins) (fr : List Nat) : (markT T m par i fr).lasts = T.lasts.set m T.n := by
  unfold markT; cases par <;> simp only <;> (repeat' split) <;> rfl
theorem mark_ends (T : Trc) (m : Nat) (par : Option Nat) (i : Ins) (fr : List Nat) (h9 : i.kind ≠ 9) : (markT T m par i fr).ends = T.ends := by
  unfold markT; cases par <;> simp only [if_neg h9]
theorem mark_ends9 (T : Trc) (m p : Nat) (i : Ins) (fr : List Nat) (h9 : i.kind = 9) : (markT T m (some p) i fr).ends = T.ends.set p (T.ends.getD p [] ++ [T.n]) := by
  unfold markT; simp only [if_pos h9]
theorem Dst.mark {T : Trc} {D : List Int} (h : Dst T D) (m : Nat) (par : Option Nat) (i : Ins) {fr : List Nat} {d : Int} (hf : ∀ f ∈ fr, f < T.n) (h1 : ∀ f ∈ fr, D.getD f 0 + 1 ≤ d) (h2 : d = 1 ∨ ∃ f ∈ fr, d = D.getD f 0 + 1) : Dst (markT T m par i fr) (D ++ [d]) := by
  have hl := h.len
  have hold : ∀ k, k < T.n → (D ++ [d]).getD k 0 = D.getD k 0 := fun k hk => getD_app 0 (by omega)
  have hnew : (D ++ [d]).getD T.n 0 = d := getD_appR 0 hl.symm
  refine ⟨?_, ?_, ?_, ?_⟩
  · rw [mark_n, List.length_append, hl]; rfl
  · rw [mark_es, mark_n]
    intro e he
    rcases List.mem_append.1 he with he | he
    · have := h.edge e he; omega
    · obtain ⟨f, hfm, rfl⟩ := List.mem_map.1 he
      have := hf f hfm
      exact ⟨this, Nat.lt_succ_self _⟩
  · rw [mark_es]
    intro e he
    rcases List.mem_append.1 he with he | he
    · have := h.edge e he
      rw [hold _ (by omega), hold _ (by omega)]
      exact h.low e he
    · obtain ⟨f, hfm, rfl⟩ := List.mem_map.1 he
      show (D ++ [d]).getD f 0 + 1 ≤ (D ++ [d]).getD T.n 0
      rw [hold _ (hf f hfm), hnew]
      exact h1 f hfm
  · rw [mark_es, mark_n]
    intro k hk
    by_cases hkn : k < T.n
    · rw [hold _ hkn]
      rcases h.hit k hkn with e | ⟨e, he, e1, e2⟩
      · exact .inl e
      · have := h.edge e he
        exact .inr ⟨e, List.mem_append.2 (.inl he), e1, by rw [hold _ (by omega)]; exact e2⟩
    · have hk' : k = T.n := by omega
      subst hk'
      rw [hnew]
      rcases h2 with e | ⟨f, hfm, e⟩
      · exact .inl e
      · exact .inr ⟨(f, T.n), List.mem_append.2 (.inr (List.mem_map.2 ⟨f, hfm, rfl⟩)), rfl, by show d = (D ++ [d]).getD f 0 + 1; rw [hold _ (hf f hfm)]; exact e⟩

/-- A task under way: its last node, and the ends of its children that it has not waited for. -/
structure Owes (T : Trc) (D : List Int) (m : Nat) (T0 span due : Int) (out : Prop) : Prop where
  cap : ∀ e ∈ T.ends.getD m [], e < T.n ∧ D.getD e 0 ≤ T0 + due
  hit : (∃ e ∈ T.ends.getD m [], D.getD e 0 = T0 + due) ∨ due + 1 ≤ span ∨ due = 0
  pend : T.ends.getD m [] ≠ [] → out
  nn : 0 ≤ T0 ∧ 0 ≤ span ∧ 0 ≤ due
/-- Ahead of an instruction: 'b' is what it waits for, but for children. -/
structure Ready (T : Trc) (D : List Int) (m tasks : Nat) (T0 span due : Int) (out : Prop) (b : List Nat) : Prop where
  dst : Dst T D
  lens : T.lasts.length = tasks ∧ T.ends.length = tasks
  m_lt : m < tasks
  base : (b = [] ∧ T0 + span = 0 ∧ T.ends.getD m [] = []) ∨ ∃ x, b = [x] ∧ x < T.n ∧ D.getD x 0 = T0 + span
  owes : Owes T D m T0 span due out
structure Going (T : Trc) (D : List Int) (m tasks : Nat) (T0 span due : Int) (out : Prop) : Prop where
  dst : Dst T D
  lens : T.lasts.length = tasks ∧ T.ends.length = tasks
  m_lt : m < tasks
  last : T.lasts.getD m 0 < T.n
  dist : D.getD (T.lasts.getD m 0) 0 = T0 + span
  owes : Owes T D m T0 span due out
theorem Going.ready {T : Trc} {D : List Int} {m tasks : Nat} {T0 span due : Int} {out : Prop} (h : Going T D m tasks T0 span due out) : Ready T D m tasks T0 span due out [T.lasts.getD m 0] :=
  ⟨h.dst, h.lens, h.m_lt, .inr ⟨_, rfl, h.last, h.dist⟩, h.owes⟩
def upL (T : Trc) : Option Nat → List Nat
  | some p => [T.lasts.getD p 0]
  | none => []
structure Fresh (T : Trc) (D : List Int) (m tasks : Nat) (par : Option Nat) (T0 : Int) : Prop where
  dst : Dst T D
  lens : T.lasts.length = m ∧ T.ends.length = m
  tasks : tasks = m + 1
  t0 : 0 ≤ T0
  root : par = none → T.n = 0 ∧ T0 = 0
  child : ∀ p, par = some p → p < m ∧ T.lasts.getD p 0 < T.n ∧ D.getD (T.lasts.getD p 0) 0 = T0
theorem Fresh.ready {T : Trc} {D : List Int} {m tasks : Nat} {par : Option Nat} {T0 : Int} (h : Fresh T D m tasks par T0) (out : Prop) : Ready (openT T 0) D m tasks T0 0 0 out (upL T par) := by
  have he : (openT T 0).ends.getD m [] = [] := by
    show (T.ends ++ [[]]).getD m [] = []
    exact getD_appR [] h.lens.2.symm
  refine ⟨⟨h.dst.len, h.dst.edge, h.dst.low, h.dst.hit⟩, ⟨?_, ?_⟩, ?_, ?_, ?_⟩
  · show (T.lasts ++ [0]).length = tasks
    rw [List.length_append, h.lens.1, h.tasks]; rfl
  · show (T.ends ++ [[]]).length = tasks
    rw [List.length_append, h.lens.2, h.tasks]; rfl
  · have := h.tasks; omega
  · cases par with
    | none => exact .inl ⟨rfl, by have := (h.root rfl).2; omega, he⟩
    | some p =>
      obtain ⟨h1, h2, h3⟩ := h.child p rfl
      exact .inr ⟨_, rfl, h2, by rw [h3]; omega⟩
  · refine ⟨fun e hm => ?_, .inr (.inr rfl), fun hh => absurd he hh, ⟨h.t0, Int.le_refl _, Int.le_refl _⟩⟩
    rw [he] at hm; cases hm
/-- An instruction that neither waits nor ends. -/
theorem Ready.step {T : Trc} {D : List Int} {m tasks : Nat} {T0 span due : Int} {out : Prop} {b : List Nat} (h : Ready T D m tasks T0 span due out b) (par : Option Nat) {i : Ins} (h9 : i.kind ≠ 9) :
    Going (markT T m par i b) (D ++ [T0 + span + 1]) m tasks T0 (span + 1) due out := by
  have hl := h.dst.len
  have hd : Dst (markT T m par i b) (D ++ [T0 + span + 1]) := by
    refine h.dst.mark m par i ?_ ?_ ?_
    · rcases h.base with ⟨rfl, _⟩ | ⟨x, rfl, hx, _⟩
      · intro f hf; cases hf
      · intro f hf; rw [List.mem_singleton.1 hf]; exact hx
    · rcases h.base with ⟨rfl, _⟩ | ⟨x, rfl, hx, e⟩
      · intro f hf; cases hf
      · intro f hf; rw [List.mem_singleton.1 hf, e]; exact Int.le_refl _
    · rcases h.base with ⟨rfl, e, _⟩ | ⟨x, rfl, hx, e⟩
      · left; omega
      · right; exact ⟨x, List.mem_singleton.2 rfl, by rw [e]⟩
  refine ⟨hd, ?_, h.m_lt, ?_, ?_, ?_⟩
  · rw [mark_lasts, mark_ends _ _ _ _ _ h9, List.length_set]; exact h.lens
  · rw [mark_lasts, mark_n, getD_set, if_pos ⟨rfl, by rw [h.lens.1]; exact h.m_lt⟩]; exact Nat.lt_succ_self _
  · rw [mark_lasts, getD_set, if_pos ⟨rfl, by rw [h.lens.1]; exact h.m_lt⟩, getD_appR 0 hl.symm]; omega
  · refine ⟨?_, ?_, ?_, ?_⟩
    · rw [mark_ends _ _ _ _ _ h9, mark_n]
      intro e he
      obtain ⟨h1, h2⟩ := h.owes.cap e he
      exact ⟨by omega, by rw [getD_app 0 (by omega)]; exact h2⟩
    · rw [mark_ends _ _ _ _ _ h9]
      rcases h.owes.hit with ⟨e, he, e2⟩ | e | e
      · exact .inl ⟨e, he, by rw [getD_app 0 (by have := (h.owes.cap e he).1; omega)]; exact e2⟩
      · exact .inr (.inl (by omega))
      · exact .inr (.inr e)
    · rw [mark_ends _ _ _ _ _ h9]; exact h.owes.pend
    · have := h.owes.nn; exact ⟨this.1, by omega, this.2.2⟩
theorem mem_sortN {l : List Nat} {x : Nat} : x ∈ sortN l ↔ x ∈ l := by unfold sortN; exact List.mem_mergeSort
theorem imax_l (a b : Int) : a ≤ imax a b := by unfold imax; split <;> omega
theorem imax_r (a b : Int) : b ≤ imax a b := by unfold imax; split <;> omega
theorem imax_or (a b : Int) : imax a b = a ∨ imax a b = b := by unfold imax; split; exact .inr rfl; exact .inl rfl
/-- An instruction that waits. -/
theorem Ready.wait {T : Trc} {D : List Int} {m tasks : Nat} {T0 span due : Int} {out : Prop} {b : List Nat} (h : Ready T D m tasks T0 span due out b) (par : Option Nat) {i : Ins} (h6 : i.kind = 6) (out2 : Prop) :
    Going (markT (clearT T m i) m par i (sortN (b ++ T.ends.getD m []))) (D ++ [T0 + imax (span + 1) (due + 1)]) m tasks T0 (imax (span + 1) (due + 1)) due out2 := by
  have hl := h.dst.len
  have hnn := h.owes.nn
  have ec : clearT T m i = { T with ends := T.ends.set m [] } := by unfold clearT; rw [if_pos h6]
  have hdc : Dst (clearT T m i) D := by rw [ec]; exact ⟨h.dst.len, h.dst.edge, h.dst.low, h.dst.hit⟩
  have hn : (clearT T m i).n = T.n := by rw [ec]
  have hla : (clearT T m i).lasts = T.lasts := by rw [ec]
  have hen : (clearT T m i).ends = T.ends.set m [] := by rw [ec]
  have h9 : i.kind ≠ 9 := by omega
  have L := imax_l (span + 1) (due + 1)
  have R := imax_r (span + 1) (due + 1)
  have O := imax_or (span + 1) (due + 1)
  have hd : Dst (markT (clearT T m i) m par i (sortN (b ++ T.ends.getD m []))) (D ++ [T0 + imax (span + 1) (due + 1)]) := by
    refine hdc.mark m par i ?_ ?_ ?_
    · intro f hf
      rw [mem_sortN, List.mem_append] at hf
      rw [hn]
      rcases hf with hf | hf
      · rcases h.base with ⟨rfl, _⟩ | ⟨x, rfl, hx, e⟩
        · cases hf
        · rw [List.mem_singleton.1 hf]; exact hx
      · exact (h.owes.cap f hf).1
    · intro f hf
      rw [mem_sortN, List.mem_append] at hf
      rcases hf with hf | hf
      · rcases h.base with ⟨rfl, _⟩ | ⟨x, rfl, hx, e⟩
        · cases hf
        · rw [List.mem_singleton.1 hf, e]; omega
      · have := (h.owes.cap f hf).2; omega
    · rcases h.base with ⟨rfl, e0, e1⟩ | ⟨x, rfl, hx, e⟩
      · left
        have hh := h.owes.hit
        rw [e1] at hh
        rcases hh with ⟨_, hm, _⟩ | hh | hh
        · cases hm
        · omega
        · rw [hh] at O ⊢; omega
      · right
        by_cases hle : due ≤ span
        · exact ⟨x, mem_sortN.2 (List.mem_append.2 (.inl (List.mem_singleton.2 rfl))), by rw [e]; omega⟩
        · rcases h.owes.hit with ⟨f, hf, e2⟩ | e2 | e2
          · exact ⟨f, mem_sortN.2 (List.mem_append.2 (.inr hf)), by rw [e2]; omega⟩
          · omega
          · omega
  have hem : (markT (clearT T m i) m par i (sortN (b ++ T.ends.getD m []))).ends.getD m [] = [] := by
    rw [mark_ends _ _ _ _ _ h9, hen, getD_set, if_pos ⟨rfl, by rw [h.lens.2]; exact h.m_lt⟩]
  refine ⟨hd, ?_, h.m_lt, ?_, ?_, ?_⟩
  · rw [mark_lasts, mark_ends _ _ _ _ _ h9, hla, hen, List.length_set, List.length_set]; exact h.lens
  · rw [mark_lasts, mark_n, hla, hn, getD_set, if_pos ⟨rfl, by rw [h.lens.1]; exact h.m_lt⟩]; exact Nat.lt_succ_self _
  · rw [mark_lasts, hla, hn, getD_set, if_pos ⟨rfl, by rw [h.lens.1]; exact h.m_lt⟩, getD_appR 0 hl.symm]
  · refine ⟨?_, ?_, ?_, ?_⟩
    · rw [hem]; intro e he; cases he
    · exact .inr (.inl R)
    · rw [hem]; intro hh; exact absurd rfl hh
    · exact ⟨hnn.1, by omega, hnn.2.2⟩
end Go.Proofs.YtbdpdojeaahpjaaGreatDoor
/-! A run traced, plainly: the longest way is the span, the edges are counted by work and tasks. -/
namespace Go.Proofs.YtbdpdojeaahpjaaGreatDoor
set_option linter.unusedVariables false
set_option maxRecDepth 20000
open Go.RowKit Go.PlainOps

def rootW (par : Option Nat) (w : Int) : Nat := if par = none ∧ w = 0 then 1 else 0
/-- A task before an instruction. -/
structure Stt (T : Trc) (D : List Int) (m tasks : Nat) (t : Tk) (par : Option Nat) (T0 : Int) (out : Prop) : Prop where
  up : ∀ p, par = some p → p < m
  is : (t.node.work = 0 ∧ t.span = 0 ∧ t.due = 0 ∧ Fresh T D m tasks par T0) ∨ (1 ≤ t.node.work ∧ Going T D m tasks T0 t.span t.due out)
structure Opened (T : Trc) (D : List Int) (m tasks : Nat) (t : Tk) (par : Option Nat) (T0 : Int) (out : Prop) (b : List Nat) : Prop where
  ready : Ready (openT T t.node.work) D m tasks T0 t.span t.due out b
  froms : ∀ i, fromsV (openT T t.node.work) m t.node.work par i = if i.kind = 6 then sortN (b ++ (openT T t.node.work).ends.getD m []) else b
  len : b.length + rootW par t.node.work = 1
  lasts : ∀ j, j < m → (openT T t.node.work).lasts.getD j 0 = T.lasts.getD j 0
  ends : ∀ j, j ≤ m → (openT T t.node.work).ends.getD j [] = T.ends.getD j []
  n : (openT T t.node.work).n = T.n
  es : (openT T t.node.work).es = T.es
  going : 1 ≤ t.node.work → T.lasts.getD m 0 ∈ b
  some_ : 0 < T.n → b ≠ []
theorem Stt.opened {T : Trc} {D : List Int} {m tasks : Nat} {t : Tk} {par : Option Nat} {T0 : Int} {out : Prop} (h : Stt T D m tasks t par T0 out) : ∃ b, Opened T D m tasks t par T0 out b := by
  rcases h.is with ⟨w0, s0, d0, hF⟩ | ⟨w1, hG⟩
  · refine ⟨upL T par, ?_, ?_, ?_, ?_, ?_, ?_, ?_, ?_, ?_⟩
    · rw [w0, s0, d0]; exact hF.ready out
    · intro i
      rw [w0]
      cases par with
      | none => unfold fromsV; simp only [if_true]; rfl
      | some p =>
        have e : (openT T 0).lasts.getD p 0 = T.lasts.getD p 0 := by rw [show (openT T 0).lasts = T.lasts ++ [0] from rfl, getD_app 0 (by have := hF.child p rfl; have := hF.lens; omega)]
        unfold fromsV
        simp only [if_true, e]
        rfl
    · rw [w0]; cases par <;> rfl
    · intro j hj
      rw [w0, show (openT T 0).lasts = T.lasts ++ [0] from rfl, getD_app 0 (by have := hF.lens; omega)]
    · intro j hj
      rw [w0, show (openT T 0).ends = T.ends ++ [[]] from rfl]
      by_cases hjm : j < m
      · rw [getD_app [] (by have := hF.lens; omega)]
      · have e : j = T.ends.length := by have := hF.lens; omega
        rw [getD_appR [] e, List.getD_eq_getElem?_getD, List.getElem?_eq_none (by omega)]; rfl
    · rw [w0]; rfl
    · rw [w0]; rfl
    · intro hh; omega
    · intro hh
      cases par with
      | none => have := (hF.root rfl).1; omega
      | some p => exact List.cons_ne_nil _ _
  · have e : openT T t.node.work = T := by unfold openT; rw [if_neg (by omega)]
    refine ⟨[T.lasts.getD m 0], ?_, ?_, ?_, ?_, ?_, ?_, ?_, ?_, ?_⟩
    · rw [e]; exact hG.ready
    · intro i
      rw [e]
      unfold fromsV
      simp only [if_neg (show ¬ t.node.work = 0 by omega)]
    · unfold rootW; rw [if_neg (by omega)]; rfl
    · intro j hj; rw [e]
    · intro j hj; rw [e]
    · rw [e]
    · rw [e]
    · intro _; exact List.mem_singleton.2 rfl
    · intro _; exact List.cons_ne_nil _ _
theorem clear_ne (T : Trc) (m : Nat) {i : Ins} (h : i.kind ≠ 6) : clearT T m i = T := by unfold clearT; rw [if_neg h]
/-- What lies below a task stays. -/
structure Kept (T T1 : Trc) (m : Nat) (par : Option Nat) : Prop where
  lasts : ∀ j, j < m → T1.lasts.getD j 0 = T.lasts.getD j 0
  ends : ∀ j, j < m → par ≠ some j → T1.ends.getD j [] = T.ends.getD j []
theorem Stt.step {T : Trc} {D : List Int} {m tasks : Nat} {t : Tk} {par : Option Nat} {T0 : Int} {out : Prop} (h : Stt T D m tasks t par T0 out) {i : Ins} (h6 : i.kind ≠ 6) (h9 : i.kind ≠ 9) :
    Going (addV T m t.node.work par i) (D ++ [T0 + t.span + 1]) m tasks T0 (t.span + 1) t.due out ∧ (∀ j, j < m → (addV T m t.node.work par i).lasts.getD j 0 = T.lasts.getD j 0) ∧ (∀ j, j ≤ m → (addV T m t.node.work par i).ends.getD j [] = T.ends.getD j []) ∧ (addV T m t.node.work par i).es.length + rootW par t.node.work = T.es.length + 1 := by
  obtain ⟨b, O⟩ := h.opened
  have e : addV T m t.node.work par i = markT (openT T t.node.work) m par i b := by
    unfold addV; rw [clear_ne _ _ h6, O.froms, if_neg h6]
  rw [e]
  refine ⟨O.ready.step par h9, fun j hj => ?_, fun j hj => ?_, ?_⟩
  · rw [mark_lasts, getD_set, if_neg (by omega), O.lasts j hj]
  · rw [mark_ends _ _ _ _ _ h9, O.ends j hj]
  · rw [mark_es, List.length_append, List.length_map, O.es]; have := O.len; omega
theorem Stt.wait {T : Trc} {D : List Int} {m tasks : Nat} {t : Tk} {par : Option Nat} {T0 : Int} {out : Prop} (h : Stt T D m tasks t par T0 out) {i : Ins} (h6 : i.kind = 6) (out2 : Prop) :
    Going (addV T m t.node.work par i) (D ++ [T0 + imax (t.span + 1) (t.due + 1)]) m tasks T0 (imax (t.span + 1) (t.due + 1)) t.due out2 ∧ (∀ j, j < m → (addV T m t.node.work par i).lasts.getD j 0 = T.lasts.getD j 0) ∧ (∀ j, j < m → (addV T m t.node.work par i).ends.getD j [] = T.ends.getD j []) ∧ (addV T m t.node.work par i).ends.getD m [] = [] ∧ (addV T m t.node.work par i).es.length + rootW par t.node.work = T.es.length + 1 + (T.ends.getD m []).length := by
  obtain ⟨b, O⟩ := h.opened
  have h9 : i.kind ≠ 9 := by omega
  have e : addV T m t.node.work par i = markT (clearT (openT T t.node.work) m i) m par i (sortN (b ++ (openT T t.node.work).ends.getD m [])) := by
    unfold addV; rw [O.froms, if_pos h6]
  have ec : clearT (openT T t.node.work) m i = { openT T t.node.work with ends := (openT T t.node.work).ends.set m [] } := by unfold clearT; rw [if_pos h6]
  have hR := O.ready.wait par h6 out2
  rw [e]
  refine ⟨hR, fun j hj => ?_, fun j hj => ?_, ?_, ?_⟩
  · rw [mark_lasts, getD_set, if_neg (by omega), ec]; exact O.lasts j hj
  · rw [mark_ends _ _ _ _ _ h9, ec]
    show ((openT T t.node.work).ends.set m []).getD j [] = _
    rw [getD_set, if_neg (by omega), O.ends j (by omega)]
  · rw [mark_ends _ _ _ _ _ h9, ec]
    show ((openT T t.node.work).ends.set m []).getD m [] = _
    rw [getD_set, if_pos ⟨rfl, by rw [O.ready.lens.2]; exact O.ready.m_lt⟩]
  · rw [mark_es, List.length_append, List.length_map, ec]
    show (openT T t.node.work).es.length + _ + _ = _
    rw [O.es, sortN, List.length_mergeSort, List.length_append, O.ends m (Nat.le_refl _)]
    have := O.len
    omega
theorem Stt.ret {T : Trc} {D : List Int} {m tasks : Nat} {t : Tk} {par : Option Nat} {T0 : Int} {out : Prop} (h : Stt T D m tasks t par T0 out) {i : Ins} (h9 : i.kind = 9) :
    Dst (addV T m t.node.work par i) (D ++ [T0 + t.span + 1]) ∧ (addV T m t.node.work par i).n = T.n + 1 ∧ ((addV T m t.node.work par i).lasts.length = tasks ∧ (addV T m t.node.work par i).ends.length = tasks) ∧ Kept T (addV T m t.node.work par i) m par ∧ (∀ p, par = some p → (addV T m t.node.work par i).ends.getD p [] = T.ends.getD p [] ++ [T.n]) ∧ (addV T m t.node.work par i).es.length + rootW par t.node.work = T.es.length + 1 := by
  obtain ⟨b, O⟩ := h.opened
  have h6 : i.kind ≠ 6 := by omega
  have e : addV T m t.node.work par i = markT (openT T t.node.work) m par i b := by
    unfold addV; rw [clear_ne _ _ h6, O.froms, if_neg h6]
  -- the distances do not look at what ends: as for an instruction that goes on
  have hd := (O.ready.step par (i := ⟨0, 0, 0, 0, 0⟩) (by decide)).dst
  have hd' : Dst (markT (openT T t.node.work) m par i b) (D ++ [T0 + t.span + 1]) := ⟨by rw [hd.len, mark_n, mark_n], fun x hx => by rw [mark_es] at hx; rw [mark_n]; have := hd.edge x (by rw [mark_es]; exact hx); rw [mark_n] at this; exact this, fun x hx => by rw [mark_es] at hx; exact hd.low x (by rw [mark_es]; exact hx), fun k hk => by rw [mark_n] at hk; have := hd.hit k (by rw [mark_n]; exact hk); rw [mark_es] at this ⊢; exact this⟩
  rw [e]
  have hL := O.ready.lens
  refine ⟨hd', by rw [mark_n, O.n], ⟨by rw [mark_lasts, List.length_set]; exact hL.1, ?_⟩, ⟨fun j hj => ?_, fun j hj hp => ?_⟩, fun p hp => ?_, ?_⟩
  · cases par with
    | none => exact hL.2
    | some p => rw [mark_ends9 _ _ _ _ _ h9, List.length_set]; exact hL.2
  · rw [mark_lasts, getD_set, if_neg (by omega), O.lasts j hj]
  · cases par with
    | none => exact O.ends j (by omega)
    | some p =>
      rw [mark_ends9 _ _ _ _ _ h9, getD_set, if_neg (by rintro ⟨rfl, _⟩; exact hp rfl), O.ends j (by omega)]
  · subst hp
    have := h.up p rfl
    rw [mark_ends9 _ _ _ _ _ h9, getD_set, if_pos ⟨rfl, by rw [hL.2]; have := O.ready.m_lt; omega⟩, O.ends p (by omega), O.n]
  · rw [mark_es, List.length_append, List.length_map, O.es]; have := O.len; omega
/-- What an instruction adds. -/
structure Adds (T T1 : Trc) (m : Nat) (work : Int) : Prop where
  sub : ∀ x ∈ T.es, x ∈ T1.es
  last : T1.lasts.getD m 0 = T.n
  fedL : 1 ≤ work → ∃ x ∈ T1.es, x.1 = T.lasts.getD m 0
  ins : 0 < T.n → ∃ x ∈ T1.es, x.2 = T.n
theorem Stt.adds {T : Trc} {D : List Int} {m tasks : Nat} {t : Tk} {par : Option Nat} {T0 : Int} {out : Prop} (h : Stt T D m tasks t par T0 out) (i : Ins) :
    Adds T (addV T m t.node.work par i) m t.node.work ∧ (i.kind = 6 → ∀ k ∈ T.ends.getD m [], ∃ x ∈ (addV T m t.node.work par i).es, x.1 = k) := by
  obtain ⟨b, O⟩ := h.opened
  have hcn : (clearT (openT T t.node.work) m i).n = T.n := by unfold clearT; split <;> exact O.n
  have hce : (clearT (openT T t.node.work) m i).es = T.es := by unfold clearT; split <;> exact O.es
  have hcl : (clearT (openT T t.node.work) m i).lasts.length = tasks := by unfold clearT; split <;> exact O.ready.lens.1
  have hes : (addV T m t.node.work par i).es = T.es ++ (fromsV (openT T t.node.work) m t.node.work par i).map (fun f => (f, T.n)) := by
    unfold addV; rw [mark_es, hce, hcn]
  have hfr : ∀ k, k ∈ b → k ∈ fromsV (openT T t.node.work) m t.node.work par i := fun k hk => by
    rw [O.froms]
    split
    · exact mem_sortN.2 (List.mem_append.2 (.inl hk))
    · exact hk
  refine ⟨⟨fun x hx => ?_, ?_, fun hw => ?_, fun hn => ?_⟩, fun h6 k hk => ?_⟩
  · rw [hes]; exact List.mem_append.2 (.inl hx)
  · unfold addV
    rw [mark_lasts, getD_set, if_pos ⟨rfl, by rw [hcl]; exact O.ready.m_lt⟩, hcn]
  · rw [hes]
    exact ⟨(T.lasts.getD m 0, T.n), List.mem_append.2 (.inr (List.mem_map.2 ⟨_, hfr _ (O.going hw), rfl⟩)), rfl⟩
  · rw [hes]
    obtain ⟨x, hx⟩ := List.exists_mem_of_ne_nil b (O.some_ hn)
    exact ⟨(x, T.n), List.mem_append.2 (.inr (List.mem_map.2 ⟨_, hfr _ hx, rfl⟩)), rfl⟩
  · rw [hes]
    refine ⟨(k, T.n), List.mem_append.2 (.inr (List.mem_map.2 ⟨k, ?_, rfl⟩)), rfl⟩
    rw [O.froms, if_pos h6, O.ends m (Nat.le_refl _)]
    exact mem_sortN.2 (List.mem_append.2 (.inr hk))
end Go.Proofs.YtbdpdojeaahpjaaGreatDoor
