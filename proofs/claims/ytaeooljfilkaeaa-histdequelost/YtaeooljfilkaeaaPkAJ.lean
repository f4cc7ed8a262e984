import Derived.Test.YtaeooljfilkaeaaPkAI
/-! The deque behind New; a call on it, whole. -/
namespace Go.Proofs.Ytaeooljfilkaeaa
open Go.RowKit Go.HeapKit Go.IntWalk Go.PlainOps

theorem cellsFrom_le (m c n : Nat) (hc : 0 < c) (hm : c ≤ m) : cellsFrom m c n ≤ n + 1 + m + 4 * (m - c) := by
  by_cases h : c < m
  · rw [cellsFrom_step h hc]
    by_cases h2 : 2 * c ≤ m
    · have := cellsFrom_le m (min (2 * c) m) (n + 1 + min (2 * c) m) (by omega) (by omega)
      rw [Nat.min_eq_left h2] at this ⊢
      omega
    · rw [Nat.min_eq_right (by omega), cellsFrom_end (by omega)]
      omega
  · rw [cellsFrom_end h]
    omega
termination_by m - c
decreasing_by omega
theorem dq_start (f most : Nat) (hf : 1 ≤ f) (hm : f ≤ most) (hm2 : most ≤ 4096) : Dq ((Ar.new (cellsFrom most f (4 + f))).laid f) most [] 0 3 f := by
  have hsz := cellsFrom_le most f (4 + f) (by omega) hm
  have hle : cellsFrom most f (4 + f) ≤ 1048576 := by omega
  have e : (Ar.new (cellsFrom most f (4 + f))).laid f = (((Ar.new (cellsFrom most f (4 + f))).more (4 + f)).put 2 3).put 3 f := rfl
  have hl : ((Ar.new (cellsFrom most f (4 + f))).more (4 + f)).cells.length = 4 + f := by rw [more_len]; exact Nat.zero_add _
  rw [e]
  clear hsz e
  generalize hB : (Ar.new (cellsFrom most f (4 + f))).more (4 + f) = B at hl
  have hon : B.on = false := by rw [← hB]; rfl
  have hlog : B.log = [] := by rw [← hB]; rfl
  have hBs : B.size = cellsFrom most f (4 + f) := by rw [← hB]; rfl
  have hv0 : ∀ j, B.val j = 0 := fun j => by rw [← hB, more_val]; simp [Ar.new, Ar.val]
  have hv : ∀ j, ((B.put 2 3).put 3 f).val j = if j = 3 then (f : Int) else if j = 2 then 3 else 0 := fun j => by
    rw [put_val (by rw [put_cells, hl]; exact Nat.lt_of_lt_of_le (show 3 < 4 by decide) (Nat.le_add_right 4 f)), put_val (by rw [hl]; exact Nat.lt_of_lt_of_le (show 2 < 4 by decide) (Nat.le_add_right 4 f)), hv0]
  exact ⟨hon, hlog, hm2, by rw [hv]; rfl, by rw [hv]; rfl, by rw [hv]; rfl, by rw [hv, if_pos rfl], Nat.le_refl _, by rw [put_cells, put_cells, hl]; exact Nat.add_lt_add_right (by decide) f, hf, hm, Nat.zero_le _, fun i hi => absurd hi (Nat.not_lt_zero i),
    by rw [put_cells, put_cells, hl]; exact hBs.symm, Nat.le_trans (Nat.le_of_eq hBs) hle, by decide⟩
/-- What a call comes to on the list: its code, its value, the list behind it. -/
def seqAns (most : Nat) (l : List Int) (kind v : Int) : Int × Int × List Int :=
  if kind = 0 then if l.length = most then (3, 0, l) else (2, 0, l ++ [v])
  else if kind = 1 then match l.getLast? with | none => (5, 0, l) | some x => (4, x, l.dropLast)
  else if kind = 2 then match l with | [] => (5, 0, l) | x :: l => (4, x, l)
  else if l = [] then (8, 0, l) else (7, 0, l)
def seqOp (most : Nat) (kind v : Int) : OpS :=
  if kind = 0 then OpS.mk 0 most 2 0 v 0 0 0 0 0 0 0 0 else if kind = 1 then OpS.mk 0 most 13 0 0 0 0 0 0 0 0 0 0 else if kind = 2 then OpS.mk 0 most 22 0 0 0 0 0 0 0 0 0 0 else OpS.mk 0 most 28 0 0 0 0 0 0 0 0 0 0
theorem seq_any {A : Ar} {most t a c : Nat} {l : List Int} (kind v : Int) (h : Dq A most l t a c) (hs : A.cells.length ≤ A.size) (hb : t + l.length < 1125899906842624) :
    ∃ A' t' a' c' n, n ≤ 9 + 2 * l.length ∧ Goes (seqOp most kind v) A n (OpS.ended (seqAns most l kind v).1 (seqAns most l kind v).2.1) A' ∧ Dq A' most (seqAns most l kind v).2.2 t' a' c' ∧ A'.cells.length ≤ A'.size ∧ t' + (seqAns most l kind v).2.2.length ≤ t + l.length + 1 := by
  unfold seqOp seqAns
  by_cases h0 : kind = 0
  · simp only [if_pos h0]
    by_cases hf : l.length = most
    · simp only [if_pos hf]
      exact ⟨A, t, a, c, 4, by omega, push_full h hf hs, h, hs, Nat.le_succ _⟩
    · simp only [if_neg hf]
      by_cases hl : l.length < c
      · obtain ⟨A', hg, hd, h1, h2⟩ := push_plain (v := v) h hl hb hs
        exact ⟨A', t, a, c, 6, by omega, hg, hd, by rw [h1, h2]; exact hs, by simp; omega⟩
      · have hlc : l.length = c := Nat.le_antisymm h.len (Nat.le_of_not_lt hl)
        have hcm : c < most := Nat.lt_of_le_of_ne h.cm (fun e => hf (hlc.trans e))
        obtain ⟨A', a', c', hg, hd, h1, h2⟩ := push_grow (v := v) h hlc hcm hb hs
        exact ⟨A', t, a', c', _, Nat.le_refl _, hg, hd, h1, by simp; omega⟩
  · simp only [if_neg h0]
    by_cases h1 : kind = 1
    · simp only [if_pos h1]
      match hl : l.getLast? with
      | none =>
        obtain rfl : l = [] := by simpa using hl
        obtain ⟨A', hg, hd, e1, e2⟩ := pop_none h hs
        exact ⟨A', t, a, c, 5, by simp, hg, hd, by rw [e1, e2]; exact hs, Nat.le_succ _⟩
      | some x =>
        obtain ⟨l', rfl⟩ : ∃ l', l = l' ++ [x] := List.getLast?_eq_some_iff.1 hl
        simp only [List.dropLast_concat]
        match l' with
        | [] =>
          obtain ⟨A', hg, hd, e1, e2⟩ := pop_one h hs
          exact ⟨A', t + 1, a, c, 8, by simp, hg, hd, by rw [e1, e2]; exact hs, by simp⟩
        | y :: l' =>
          obtain ⟨A', hg, hd, e1, e2⟩ := pop_more h (by simp) hs
          exact ⟨A', t, a, c, 6, by simp; omega, hg, hd, by rw [e1, e2]; exact hs, by simp; omega⟩
    · simp only [if_neg h1]
      by_cases h2 : kind = 2
      · simp only [if_pos h2]
        match l with
        | [] => exact ⟨A, t, a, c, 2, by simp, steal_none h, h, hs, Nat.le_succ _⟩
        | x :: l =>
          obtain ⟨A', hg, hd, e1, e2⟩ := steal_seq h hs
          exact ⟨A', t + 1, a, c, 6, by simp; omega, hg, hd, by rw [e1, e2]; exact hs, by simp; omega⟩
      · simp only [if_neg h2]
        refine ⟨A, t, a, c, 2, by omega, ?_, ?_, hs, ?_⟩
        · have := look_seq h
          by_cases he : l = []
          · rw [if_pos he] at this ⊢; exact this
          · rw [if_neg he] at this ⊢; exact this
        · by_cases he : l = []
          · rw [if_pos he]; exact h
          · rw [if_neg he]; exact h
        · by_cases he : l = []
          · rw [if_pos he]; exact Nat.le_succ _
          · rw [if_neg he]; exact Nat.le_succ _
end Go.Proofs.Ytaeooljfilkaeaa
/-! Plays of the deque, plainly: what holds behind each pick. -/
namespace Go.Proofs.Ytaeooljfilkaeaa
set_option linter.unusedVariables false
set_option maxRecDepth 20000
set_option linter.unusedSimpArgs false
open Go.RowKit Go.HeapKit Go.IntWalk Go.PlainOps

theorem noted_on (A : Ar) (x : Acc) : (A.noted x).on = A.on := by unfold Ar.noted; split <;> rfl
theorem noted_le (A : Ar) (x : Acc) : (A.noted x).log.length ≤ A.log.length + 1 := by
  unfold Ar.noted; split
  · simp
  · omega
theorem noted_ac (A : Ar) (x : Acc) : (A.noted x).actor = A.actor := by unfold Ar.noted; split <;> rfl
theorem did_on (A : Ar) (k x y z : Int) : (A.did k x y z).2.on = A.on ∧ (A.did k x y z).2.log.length ≤ A.log.length + 1 ∧ (A.did k x y z).2.size = A.size ∧ (A.did k x y z).2.actor = A.actor := by
  have key : ∀ (B : Ar) (c : Acc), B.on = A.on → B.log = A.log → B.size = A.size → B.actor = A.actor → (B.noted c).on = A.on ∧ (B.noted c).log.length ≤ A.log.length + 1 ∧ (B.noted c).size = A.size ∧ (B.noted c).actor = A.actor := fun B c h1 h2 h3 h4 => ⟨(noted_on _ _).trans h1, h2 ▸ noted_le B c, (notedS _ _).trans h3, (noted_ac _ _).trans h4⟩
  have same : A.on = A.on ∧ A.log.length ≤ A.log.length + 1 ∧ A.size = A.size ∧ A.actor = A.actor := ⟨rfl, by omega, rfl, rfl⟩
  unfold Ar.did
  split
  · split
    · exact key A _ rfl rfl rfl rfl
    · exact same
  · split
    · split
      · exact key (A.put _ _) _ rfl rfl rfl rfl
      · exact same
    · split
      · split
        · split
          · exact key (A.put _ _) _ rfl rfl rfl rfl
          · exact key A _ rfl rfl rfl rfl
        · exact same
      · split
        · split
          · exact key (A.put _ _) _ rfl rfl rfl rfl
          · exact same
        · split
          · exact same
          · split
            · exact same
            · exact key (A.more _) _ rfl rfl rfl rfl
theorem step_on (o : OpS) (A : Ar) : (o.step A).2.on = A.on ∧ (o.step A).2.log.length ≤ A.log.length + 1 ∧ (o.step A).2.size = A.size ∧ (o.step A).2.actor = A.actor := by
  unfold OpS.step
  split
  · exact ⟨rfl, Nat.le_succ _, rfl, rfl⟩
  · split
    · exact did_on _ _ _ _ _
    · exact did_on _ _ _ _ _
/-- What the cells say of the play. -/
structure Gh where
  V : List Int
  top : Nat
  bot : Int
  bs : List Bf
  cur : Bf
  hand : Int
structure DI (most size : Nat) (S : Dpl) (g : Gh) : Prop where
  base0 : S.base = 0
  most0 : S.most = most
  size0 : S.A.size = size
  on : S.A.on = true
  mm : Mm S.A.val S.A.cells.length most g.V g.top g.bot g.bs g.cur
  own : ∀ a, S.acts[0]? = some a → Own S.A.val S.A.cells.length most size g.V g.top g.bot g.bs g.cur g.hand a.op
  thf : ∀ i a, 0 < i → S.acts[i]? = some a → Thf a.op g.V g.top g.bs ∧ a.op.Fit
theorem own_fit {m : Nat → Int} {len most size : Nat} {V : List Int} {top : Nat} {bot : Int} {bs : List Bf} {cur : Bf} {hand : Int} {o : OpS} (h : Own m len most size V top bot bs cur hand o) (hM : Mm m len most V top bot bs cur) : o.Fit := by
  have hm := hM.m1
  have hc := (hM.all cur hM.cin).cm
  cases h with
  | idle h1 h2 h3 h4 => exact h2
  | p6 h1 h2 h3 h4 h5 => exact ⟨.inr (by constructor <;> (show _ ≤ _; simp)), (by show (cur.c : Int) ≤ _; omega), (by show ((_ : Nat) : Int) ≤ _; omega)⟩
  | p7 h1 h2 h3 h4 h5 => exact ⟨.inr (by constructor <;> (show _ ≤ _; simp)), (by show (cur.c : Int) ≤ _; omega), (by show ((_ : Nat) : Int) ≤ _; omega)⟩
  | p8 h1 h2 h3 h4 h5 h6 => exact ⟨.inr (by constructor <;> (show _ ≤ _; simp)), (by show (cur.c : Int) ≤ _; omega), (by show ((_ : Nat) : Int) ≤ _; omega)⟩
  | p9 h1 h2 h3 h4 h5 h6 h7 => exact ⟨.inr (by constructor <;> (show _ ≤ _; simp)), (by show (cur.c : Int) ≤ _; omega), (by show ((_ : Nat) : Int) ≤ _; omega)⟩
  | p10 h1 h2 h3 h4 h5 h6 h7 h8 h9 h10 h11 => exact ⟨.inr (by constructor <;> (show _ ≤ _; simp)), (by show (cur.c : Int) ≤ _; omega), (by show ((_ : Nat) : Int) ≤ _; omega)⟩
  | p11 h1 h2 h3 h4 h5 h6 h7 h8 h9 h10 h11 h12 => exact ⟨.inr (by constructor <;> (show _ ≤ _; simp)), (by show (cur.c : Int) ≤ _; omega), (by show ((_ : Nat) : Int) ≤ _; omega)⟩
  | p12 h1 h2 h3 h4 h5 h6 h7 h8 h9 => exact ⟨.inr (by constructor <;> (show _ ≤ _; simp)), (by show (cur.c : Int) ≤ _; omega), (by show ((_ : Nat) : Int) ≤ _; omega)⟩
  | _ => exact ⟨.inr (by constructor <;> (show _ ≤ _; simp)), (by first | (show (0 : Int) ≤ _; omega) | (show (cur.c : Int) ≤ _; omega)), (by show (0 : Int) ≤ _; omega)⟩
theorem own_stop {m : Nat → Int} {len most size : Nat} {V : List Int} {top : Nat} {bot : Int} {bs : List Bf} {cur : Bf} {hand : Int} {o : OpS} (h : Own m len most size V top bot bs cur hand o) (ho : o = OpS.zero ∨ o.at_ = 1) : bot = V.length ∧ RoomD most cur.c len size := by
  cases h with
  | idle h1 h2 h3 h4 => exact ⟨h3, h4⟩
  | _ => rcases ho with e | e <;> first | (simp at e; done) | (have := congrArg OpS.at_ e; simp [OpS.zero] at this)
theorem thief_fit {V : List Int} {top : Nat} {bot : Int} {bs : List Bf} {cur : Bf} {most : Nat} {o : OpS} {A : Ar} (hM : Mm A.val A.cells.length most V top bot bs cur) (h : Thf o V top bs) (hf : o.Fit) (hz : ¬ o = OpS.zero) (h1 : ¬ o.at_ = 1) : (o.step A).1.Fit := by
  have hm1 := hM.m1
  have key : ∀ x ok, (o.at_ ≠ 25 ∨ x ≤ 4096) → (o.went x ok).Fit := by
    intro x ok hx
    have hat : o.at_ = 22 ∨ o.at_ = 23 ∨ o.at_ = 24 ∨ o.at_ = 25 ∨ o.at_ = 26 ∨ o.at_ = 27 := by
      rcases h with h | h | h | ⟨h, _⟩ | ⟨h, _⟩ | ⟨h, _⟩ | ⟨h, _⟩ | ⟨h, _⟩
      · exact absurd h hz
      · exact absurd h h1
      · exact .inl h.1
      · exact .inr (.inl h)
      · exact .inr (.inr (.inl h))
      · exact .inr (.inr (.inr (.inl h)))
      · exact .inr (.inr (.inr (.inr (.inl h))))
      · exact .inr (.inr (.inr (.inr (.inr h))))
    have pt : ∀ (o' : OpS), 1 ≤ o'.at_ → o'.at_ ≤ 29 → o'.c ≤ 9223372036854775807 → o'.nc ≤ 9223372036854775807 → o'.Fit := fun o' a b c d => ⟨.inr ⟨a, b⟩, c, d⟩
    have zf : OpS.zero.Fit := ⟨.inl rfl, by simp [OpS.zero], by simp [OpS.zero]⟩
    have ef := ended_fit
    have c := hf.hc
    have d := hf.hnc
    rcases hat with h | h | h | h | h | h
    · have : o.went x ok = { o with t := x, at_ := 23 } := by unfold OpS.went; simp [h]
      rw [this]; exact pt _ (by simp) (by simp) c d
    · have : o.went x ok = if x ≤ o.t then OpS.ended 5 0 else { o with b := x, at_ := 24 } := by unfold OpS.went; simp [h]
      rw [this]; split
      · exact ef _ _
      · exact pt _ (by simp) (by simp) c d
    · have : o.went x ok = { o with a := x, at_ := 25 } := by unfold OpS.went; simp [h]
      rw [this]; exact pt _ (by simp) (by simp) c d
    · have hx' : x ≤ 4096 := by rcases hx with e | e; exact absurd h e; exact e
      have : o.went x ok = flatS { o with c := x } 26 := by unfold OpS.went; simp [h]
      rw [this]; unfold flatS; split
      · exact zf
      · exact pt _ (by simp) (by simp) (by show x ≤ _; omega) d
    · have : o.went x ok = { o with v := x, at_ := 27 } := by unfold OpS.went; simp [h]
      rw [this]; exact pt _ (by simp) (by simp) c d
    · have : o.went x ok = OpS.ended (decidedS o ok 6).code (decidedS o ok 6).v := by unfold OpS.went; simp [h]
      rw [this]; exact ef _ _
  rcases h with h | h | h | ⟨h, _⟩ | ⟨h, _⟩ | ⟨h, tt, ht, x, hx, e1, _⟩ | ⟨h, _⟩ | ⟨h, _⟩
  case inr.inr.inr.inr.inr.inl =>
    have hx' := hM.all x hx
    have hs := stLoad (o := o) (A := A) (k := x.a) (y := o.a) (at_pt h (by omega) (by omega)).1 h1 (by unfold OpS.want; simp [h]) e1 (by have := hx'.fit; omega) hx'.cap
    rw [hs]
    exact key _ _ (.inr (by have := hx'.cm; omega))
  case inl => exact absurd h hz
  case inr.inl => exact absurd h h1
  all_goals
    unfold OpS.step
    split
    · exact hf
    · split
      · exact key _ _ (.inl (by omega))
      · exact ⟨.inl rfl, by simp [OpS.zero], by simp [OpS.zero]⟩
/-- What a pick's step does. -/
inductive PEv (who : Nat) (g g' : Gh) (o o' : OpS) : Prop
  | owner : who = 0 → Ev g.V g'.V g.top g'.top g.hand g'.hand o o' → PEv who g g' o o'
  | read : who ≠ 0 → g' = g → Thf o' g.V g.top g.bs → PEv who g g' o o'
  | take : who ≠ 0 → o.at_ = 27 → g.top < g.V.length → g' = { g with top := g.top + 1 } → o' = OpS.ended 4 (g.V.getD g.top 0) → PEv who g g' o o'
def Acs (A : Ar) (who : Nat) : Ar := { A with actor := who }
theorem Dpl.goes_keep (S : Dpl) (n who : Nat) : (S.goes n who).base = S.base ∧ (S.goes n who).most = S.most ∧ (S.goes n who).todos = S.todos ∧ (S.goes n who).A = ((S.acts.getD who Dac.zero).op.step (Acs S.A who)).2 ∧ (S.goes n who).acts = S.acts.set who ⟨((S.acts.getD who Dac.zero).op.step (Acs S.A who)).1, (S.acts.getD who Dac.zero).call⟩ := by
  unfold Dpl.goes Acs
  simp only
  split
  · exact ⟨rfl, rfl, rfl, rfl, rfl⟩
  · exact ⟨rfl, rfl, rfl, rfl, rfl⟩
theorem DI.goes {most size : Nat} {S : Dpl} {g : Gh} {n who : Nat} {a : Dac} (h : DI most size S g) (ha : S.acts[who]? = some a) (hz : ¬ a.op = OpS.zero) (h1 : ¬ a.op.at_ = 1) (hs : size ≤ 1048576) (hb : g.V.length + 1 ≤ 1125899906842624) :
    ∃ g', DI most size (S.goes n who) g' ∧ PEv who g g' a.op (a.op.step (Acs S.A who)).1 := by
  have hgd : S.acts.getD who Dac.zero = a := by rw [List.getD_eq_getElem?_getD, ha]; rfl
  obtain ⟨k1, k2, k3, k4, k5⟩ := Dpl.goes_keep S n who
  rw [hgd] at k4 k5
  have hwl := (List.getElem?_eq_some_iff.1 ha).1
  obtain ⟨s1, s2, s3, s4⟩ := step_on a.op (Acs S.A who)
  have hsz : (Acs S.A who).size = size := h.size0
  have hat : ∀ i b, (S.goes n who).acts[i]? = some b → i ≠ who → S.acts[i]? = some b := fun i b e hne => by
    rw [k5, List.getElem?_set_ne (fun e => hne e.symm)] at e; exact e
  have hme : ∀ b, (S.goes n who).acts[who]? = some b → b.op = (a.op.step (Acs S.A who)).1 := fun b e => by
    rw [k5, List.getElem?_set_self hwl] at e
    injection e with e
    rw [← e]
  by_cases hw : who = 0
  · subst hw
    obtain ⟨V', top', bot', bs', cur', hand', m1, m2, m3, m4, m5⟩ := own_step (A := Acs S.A 0) h.mm (h.own a ha) hz h1 hsz.symm (by rw [hsz]; exact hs) hb
    refine ⟨⟨V', top', bot', bs', cur', hand'⟩, ⟨k1.trans h.base0, k2.trans h.most0, by rw [k4]; exact m5.trans hsz, by rw [k4]; exact s1.trans h.on, by rw [k4]; exact m1, fun b hb => ?_, fun i b hi hb => ?_⟩, .owner rfl m4⟩
    · rw [hme b hb, k4]; exact m2
    · have := h.thf i b hi (hat i b hb (by omega))
      exact ⟨this.1.frame m3, this.2⟩
  · obtain ⟨t1, t2⟩ := h.thf who a (by omega) ha
    have hfit := thief_fit (A := Acs S.A who) h.mm t1 t2 hz h1
    cases thief_step (A := Acs S.A who) h.mm t1 hz h1 with
    | read x e1 e2 =>
      have ev : ((Acs S.A who).noted x).val = S.A.val := funext (notedV _ x)
      refine ⟨g, ⟨k1.trans h.base0, k2.trans h.most0, by rw [k4]; exact s3.trans hsz, by rw [k4]; exact s1.trans h.on, ?_, fun b hb => ?_, fun i b hi hb => ?_⟩, .read hw rfl e2⟩
      · rw [k4, e1, ev, notedL]; exact h.mm
      · rw [k4, e1, ev, notedL]; exact h.own b (hat 0 b hb (by omega))
      · by_cases hiw : i = who
        · subst hiw
          rw [hme b hb]
          exact ⟨e2, hfit⟩
        · exact h.thf i b hi (hat i b hb hiw)
    | take e0 e1 e2 =>
      have l3 := h.mm.l3
      have ev : (((Acs S.A who).put 0 ((g.top + 1 : Nat) : Int)).noted ⟨0, 2, 0, g.top, ((g.top + 1 : Nat) : Int), true⟩).val = fun k => if k = 0 then ((g.top + 1 : Nat) : Int) else S.A.val k := funext (fun j => (notedV _ _ j).trans (put_val (A := Acs S.A who) (by show 0 < S.A.cells.length; omega)))
      have el : (((Acs S.A who).put 0 ((g.top + 1 : Nat) : Int)).noted ⟨0, 2, 0, g.top, ((g.top + 1 : Nat) : Int), true⟩).cells.length = S.A.cells.length := by rw [notedL, put_cells]; rfl
      refine ⟨{ g with top := g.top + 1 }, ⟨k1.trans h.base0, k2.trans h.most0, by rw [k4]; exact s3.trans hsz, by rw [k4]; exact s1.trans h.on, ?_, fun b hb => ?_, fun i b hi hb => ?_⟩, .take hw e0 e1 rfl (by rw [e2])⟩
      · rw [k4, e2]; show Mm (Ar.noted _ _).val (Ar.noted _ _).cells.length _ _ _ _ _ _
        rw [ev, el]; exact h.mm.cas e1
      · rw [k4, e2]; show Own (Ar.noted _ _).val (Ar.noted _ _).cells.length _ _ _ _ _ _ _ _ _
        rw [ev, el]; exact (h.own b (hat 0 b hb (by omega))).cas h.mm e1
      · by_cases hiw : i = who
        · subst hiw
          rw [hme b hb, e2]
          exact ⟨.inr (.inl rfl), ended_fit _ _⟩
        · have := h.thf i b hi (hat i b hb hiw)
          exact ⟨this.1.frame (Fr.cas _ _ _), this.2⟩
theorem ans_run {o : OpS} (h : o.ans.1 = 0) (hc : o.at_ = 1 → o.code ≠ 0) : ¬ o = OpS.zero ∧ ¬ o.at_ = 1 := by
  unfold OpS.ans at h
  split at h
  · simp at h
  · split at h
    · exact absurd h (hc ‹_›)
    · exact ⟨‹_›, ‹_›⟩
theorem ans_go {o : OpS} (hz : ¬ o = OpS.zero) (h1 : ¬ o.at_ = 1) : o.ans = (0, 0) := by unfold OpS.ans; rw [if_neg hz, if_neg h1]
/-- A play begins. -/
theorem DI.begin {most size : Nat} {S S1 : Dpl} {g : Gh} {n who : Nat} {a : Dac} (h : DI most size S g) (ha : S.acts[who]? = some a) (hst : a.op = OpS.zero ∨ a.op.at_ = 1) (hb : S.begin n who = some S1) :
    DI most size S1 g ∧ ∃ b, S1.acts[who]? = some b ∧ ¬ b.op = OpS.zero ∧ ¬ b.op.at_ = 1 ∧ b.call = S.calls.length ∧ (who = 0 → b.op.at_ = 2 ∨ b.op.at_ = 13) ∧ (who ≠ 0 → b.op.at_ = 22) := by
  have hwl := (List.getElem?_eq_some_iff.1 ha).1
  have hset : ∀ (x : Dac) i b, (S.acts.set who x)[i]? = some b → i ≠ who → S.acts[i]? = some b := fun x i b e hne => by
    rw [List.getElem?_set_ne (fun e => hne e.symm)] at e; exact e
  have hself : ∀ (x : Dac), (S.acts.set who x)[who]? = some x := fun x => List.getElem?_set_self hwl
  have nz : ∀ (o : OpS), o.at_ ≠ 0 → ¬ o = OpS.zero := fun o ho e => ho (by rw [e]; rfl)
  unfold Dpl.begin at hb
  by_cases hw : who = 0
  · subst hw
    obtain ⟨b1, b2⟩ := own_stop (h.own a ha) hst
    rw [if_neg (fun e => e rfl)] at hb
    have key : ∀ (x : OpS) (ts : List Tod) (cs : List Cal), Own S.A.val S.A.cells.length most size g.V g.top g.bot g.bs g.cur g.hand x → DI most size { S with todos := ts, acts := S.acts.set 0 ⟨x, S.calls.length⟩, calls := cs } g := fun x ts cs hx => by
      refine ⟨h.base0, h.most0, h.size0, h.on, h.mm, fun b hb => ?_, fun i b hi hb => h.thf i b hi (hset _ i b hb (by omega))⟩
      have e := (hself ⟨x, S.calls.length⟩).symm.trans hb
      injection e with e
      rw [← e]; exact hx
    cases ht : S.todos with
    | nil => rw [ht] at hb; simp at hb
    | cons t ts =>
      rw [ht] at hb
      simp only at hb
      split at hb
      · injection hb with hb
        rw [← hb]
        exact ⟨key _ _ _ (by rw [h.base0, h.most0]; exact .p2 b1 b2), _, hself _, nz _ (by simp [pushO]), by simp [pushO], rfl, fun _ => .inl rfl, fun e => absurd rfl e⟩
      · injection hb with hb
        rw [← hb]
        exact ⟨key _ _ _ (by rw [h.base0, h.most0]; exact .q13 b1 b2), _, hself _, nz _ (by simp [popO]), by simp [popO], rfl, fun _ => .inr rfl, fun e => absurd rfl e⟩
  · rw [if_pos hw] at hb
    injection hb with hb
    rw [← hb]
    have hm1 := h.mm.m1
    refine ⟨⟨h.base0, h.most0, h.size0, h.on, h.mm, fun b hb => h.own b (hset _ 0 b hb (fun e => hw e.symm)), fun i b hi hb => ?_⟩, _, hself _, nz _ (by simp [stealO]), by simp [stealO], rfl, fun e => absurd e hw, fun _ => rfl⟩
    by_cases hiw : i = who
    · subst hiw
      have e := (hself ⟨stealO S.base S.most, S.calls.length⟩).symm.trans hb
      injection e with e
      rw [← e]
      exact ⟨.inr (.inr (.inl ⟨rfl, h.base0⟩)), ⟨.inr (by simp [stealO]), by simp [stealO], by simp [stealO]⟩⟩
    · exact h.thf i b hi (hset _ i b hb hiw)
theorem DI.fit {most size : Nat} {S : Dpl} {g : Gh} (h : DI most size S g) {i : Nat} {a : Dac} (ha : S.acts[i]? = some a) : a.op.Fit := by
  by_cases hi : i = 0
  · subst hi; exact own_fit (h.own a ha) h.mm
  · exact (h.thf i a (by omega) ha).2
end Go.Proofs.Ytaeooljfilkaeaa
/-! Plays of the deque, plainly: pick by pick. -/
namespace Go.Proofs.Ytaeooljfilkaeaa
set_option linter.unusedVariables false
set_option maxRecDepth 20000
set_option linter.unusedSimpArgs false
open Go.RowKit Go.HeapKit Go.IntWalk Go.PlainOps

/-- The code of a machine that has ended, or is about to. -/
def CodeOk (o : OpS) : Prop := (o.at_ = 1 → o.code ≠ 0) ∧ (o.at_ = 21 → o.code = 4 ∨ o.code = 5)
theorem ended_code (c v : Int) (h : c ≠ 0) : CodeOk (OpS.ended c v) := ⟨fun _ => h, fun e => by simp [OpS.ended] at e⟩
theorem zero_code : CodeOk OpS.zero := ⟨fun e => by simp [OpS.zero] at e, fun e => by simp [OpS.zero] at e⟩
theorem at_code {o : OpS} (h1 : o.at_ ≠ 1) (h2 : o.at_ ≠ 21) : CodeOk o := ⟨fun e => absurd e h1, fun e => absurd e h2⟩
theorem went_code {o : OpS} (hc : CodeOk o) (h2 : 2 ≤ o.at_) (h29 : o.at_ ≤ 29) (x : Int) (ok : Bool) : CodeOk (o.went x ok) := by
  have fl : ∀ (o : OpS) (q : Int), q ≠ 1 → q ≠ 21 → CodeOk (flatS o q) := fun o q h1 h2 => by
    unfold flatS; split
    · exact zero_code
    · exact at_code h1 h2
  have me : ∀ (o : OpS), CodeOk (measuredS o) := fun o => by
    unfold measuredS; split
    · exact zero_code
    · split
      · exact at_code (by show (6 : Int) ≠ 1; decide) (by show (6 : Int) ≠ 21; decide)
      · split
        · exact ended_code _ _ (by decide)
        · exact at_code (by show (8 : Int) ≠ 1; decide) (by show (8 : Int) ≠ 21; decide)
  have de : ∀ (o : OpS) (ok : Bool) (c : Int), (decidedS o ok c).code = 4 ∨ (decidedS o ok c).code = c := fun o ok c => by
    unfold decidedS; cases ok <;> simp
  rcases (show o.at_ = 2 ∨ o.at_ = 3 ∨ o.at_ = 4 ∨ o.at_ = 5 ∨ o.at_ = 6 ∨ o.at_ = 7 ∨ o.at_ = 8 ∨ o.at_ = 9 ∨ o.at_ = 10 ∨ o.at_ = 11 ∨ o.at_ = 12 ∨ o.at_ = 13 ∨ o.at_ = 14 ∨ o.at_ = 15 ∨ o.at_ = 16 ∨ o.at_ = 17 ∨ o.at_ = 18 ∨ o.at_ = 19 ∨ o.at_ = 20 ∨ o.at_ = 21 ∨ o.at_ = 22 ∨ o.at_ = 23 ∨ o.at_ = 24 ∨ o.at_ = 25 ∨ o.at_ = 26 ∨ o.at_ = 27 ∨ o.at_ = 28 ∨ o.at_ = 29 by omega) with h | h | h | h | h | h | h | h | h | h | h | h | h | h | h | h | h | h | h | h | h | h | h | h | h | h | h | h
  · have e : (o.went x ok).at_ = 3 := by unfold OpS.went; simp [h]
    exact at_code (by rw [e]; decide) (by rw [e]; decide)
  · have e : (o.went x ok).at_ = 4 := by unfold OpS.went; simp [h]
    exact at_code (by rw [e]; decide) (by rw [e]; decide)
  · have e : (o.went x ok).at_ = 5 := by unfold OpS.went; simp [h]
    exact at_code (by rw [e]; decide) (by rw [e]; decide)
  · rw [show o.went x ok = measuredS { o with c := x } by unfold OpS.went; simp [h]]
    exact me _
  · have e : (o.went x ok).at_ = 7 := by unfold OpS.went; simp [h]
    exact at_code (by rw [e]; decide) (by rw [e]; decide)
  · rw [show o.went x ok = OpS.ended 2 0 by unfold OpS.went; simp [h]]
    exact ended_code _ _ (by decide)
  · have e : (o.went x ok).at_ = 9 := by unfold OpS.went; simp [h]
    exact at_code (by rw [e]; decide) (by rw [e]; decide)
  · have e : (o.went x ok).at_ = 10 := by unfold OpS.went; simp [h]
    exact at_code (by rw [e]; decide) (by rw [e]; decide)
  · have e : (o.went x ok).at_ = 11 := by unfold OpS.went; simp [h]
    exact at_code (by rw [e]; decide) (by rw [e]; decide)
  · rw [went_11 o h]
    split
    · exact at_code (by show (12 : Int) ≠ 1; decide) (by show (12 : Int) ≠ 21; decide)
    · exact at_code (by show (10 : Int) ≠ 1; decide) (by show (10 : Int) ≠ 21; decide)
  · have e : (o.went x ok).at_ = 6 := by unfold OpS.went; simp [h]
    exact at_code (by rw [e]; decide) (by rw [e]; decide)
  · have e : (o.went x ok).at_ = 14 := by unfold OpS.went; simp [h]
    exact at_code (by rw [e]; decide) (by rw [e]; decide)
  · have e : (o.went x ok).at_ = 15 := by unfold OpS.went; simp [h]
    exact at_code (by rw [e]; decide) (by rw [e]; decide)
  · have e : (o.went x ok).at_ = 16 := by unfold OpS.went; simp [h]
    exact at_code (by rw [e]; decide) (by rw [e]; decide)
  · rw [show o.went x ok = if o.b < x then { o with t := x, at_ := 17 } else { o with t := x, at_ := 18 } by unfold OpS.went; simp [h]]
    split
    · exact at_code (by show (17 : Int) ≠ 1; decide) (by show (17 : Int) ≠ 21; decide)
    · exact at_code (by show (18 : Int) ≠ 1; decide) (by show (18 : Int) ≠ 21; decide)
  · rw [show o.went x ok = OpS.ended 5 0 by unfold OpS.went; simp [h]]
    exact ended_code _ _ (by decide)
  · rw [show o.went x ok = flatS { o with c := x } 19 by unfold OpS.went; simp [h]]
    exact fl _ _ (by decide) (by decide)
  · rw [show o.went x ok = if o.t < o.b then OpS.ended 4 x else { o with v := x, at_ := 20 } by unfold OpS.went; simp [h]]
    split
    · exact ended_code _ _ (by decide)
    · exact at_code (by show (20 : Int) ≠ 1; decide) (by show (20 : Int) ≠ 21; decide)
  · rw [show o.went x ok = { decidedS o ok 5 with at_ := 21 } by unfold OpS.went; simp [h]]
    exact ⟨fun e => absurd (show (21 : Int) = 1 from e) (by decide), fun _ => de o ok 5⟩
  · rw [show o.went x ok = OpS.ended o.code o.v by unfold OpS.went; simp [h]]
    exact ended_code _ _ (by rcases hc.2 h with e | e <;> omega)
  · have e : (o.went x ok).at_ = 23 := by unfold OpS.went; simp [h]
    exact at_code (by rw [e]; decide) (by rw [e]; decide)
  · rw [show o.went x ok = if x ≤ o.t then OpS.ended 5 0 else { o with b := x, at_ := 24 } by unfold OpS.went; simp [h]]
    split
    · exact ended_code _ _ (by decide)
    · exact at_code (by show (24 : Int) ≠ 1; decide) (by show (24 : Int) ≠ 21; decide)
  · have e : (o.went x ok).at_ = 25 := by unfold OpS.went; simp [h]
    exact at_code (by rw [e]; decide) (by rw [e]; decide)
  · rw [show o.went x ok = flatS { o with c := x } 26 by unfold OpS.went; simp [h]]
    exact fl _ _ (by decide) (by decide)
  · have e : (o.went x ok).at_ = 27 := by unfold OpS.went; simp [h]
    exact at_code (by rw [e]; decide) (by rw [e]; decide)
  · rw [show o.went x ok = OpS.ended (decidedS o ok 6).code (decidedS o ok 6).v by unfold OpS.went; simp [h]]
    exact ended_code _ _ (by rcases de o ok 6 with e | e <;> omega)
  · have e : (o.went x ok).at_ = 29 := by unfold OpS.went; simp [h]
    exact at_code (by rw [e]; decide) (by rw [e]; decide)
  · rw [show o.went x ok = if o.t < x then OpS.ended 7 0 else OpS.ended 8 0 by unfold OpS.went; simp [h]]
    split <;> exact ended_code _ _ (by decide)
theorem step_code {o : OpS} (hc : CodeOk o) (hf : o.Fit) (A : Ar) : CodeOk (o.step A).1 := by
  unfold OpS.step
  split
  · exact hc
  · split
    · rename_i h _
      rcases hf.pt with e | ⟨e1, e2⟩
      · exact absurd (.inl e) h
      · have : ¬ o.at_ = 1 := fun e => h (.inr e)
        exact went_code hc (by omega) e2 _ _
    · exact zero_code
def Rn (o : OpS) : Prop := ¬ o = OpS.zero ∧ ¬ o.at_ = 1
theorem rn_iff {o : OpS} (hc : CodeOk o) : o.ans.1 = 0 ↔ Rn o :=
  ⟨fun h => ans_run h hc.1, fun h => by rw [ans_go h.1 h.2]⟩
/-- A play stands behind n picks. -/
structure PS (most size th : Nat) (S : Dpl) (g : Gh) (n : Nat) : Prop where
  di : DI most size S g
  len : S.acts.length = 1 + th
  code : ∀ (i : Nat) (a : Dac), S.acts[i]? = some a → CodeOk a.op
  call : ∀ (i : Nat) (a : Dac), S.acts[i]? = some a → Rn a.op → ∃ k : Nat, a.call = k ∧ k < S.calls.length
  cn : S.calls.length ≤ n
  ln : S.A.log.length ≤ n
  vn : g.V.length ≤ n
  m1 : 1 ≤ most
  m2 : most ≤ 4096
  sz : size ≤ 1048576
/-- What a pick does. -/
inductive PStep (most size n who : Nat) (S S' : Dpl) (g g' : Gh) : Prop
  | idle : who = 0 → S.todos = [] → (∀ a, S.acts[0]? = some a → ¬ Rn a.op) → S' = S → g' = g → PStep most size n who S S' g g'
  | go (S1 : Dpl) (a b : Dac) (k : Nat) (o : OpS) (B : Ar) : S.acts[who]? = some a → (Rn a.op ∧ S1 = S ∨ ¬ Rn a.op ∧ S.begin n who = some S1) → DI most size S1 g → S1.acts[who]? = some b → Rn b.op → b.op.step (Acs S1.A who) = (o, B) → b.call = k → k < S1.calls.length → S1.acts.length = S.acts.length → S1.A = S.A → S' = S1.goes n who → PEv who g g' b.op o → PStep most size n who S S' g g'
theorem Dpl.begin_keep {S S1 : Dpl} {n who : Nat} (h : S.begin n who = some S1) : S1.A = S.A ∧ S1.acts.length = S.acts.length ∧ S1.calls.length = S.calls.length + 1 ∧ ∃ o, S1.acts = S.acts.set who ⟨o, S.calls.length⟩ ∧ o.code = 0 ∧ (o.at_ = 2 ∨ o.at_ = 13 ∨ o.at_ = 22) := by
  unfold Dpl.begin at h
  split at h
  · injection h with h; subst h
    exact ⟨rfl, by simp, by simp, _, rfl, rfl, .inr (.inr rfl)⟩
  · rename_i hw
    have hw : who = 0 := by omega
    subst hw
    split at h
    · simp at h
    · split at h
      · injection h with h; subst h
        exact ⟨rfl, by simp, by simp, _, rfl, rfl, .inl rfl⟩
      · injection h with h; subst h
        exact ⟨rfl, by simp, by simp, _, rfl, rfl, .inr (.inl rfl)⟩
theorem Dpl.begin_none {S : Dpl} {n who : Nat} (h : S.begin n who = none) : who = 0 ∧ S.todos = [] := by
  unfold Dpl.begin at h
  split at h
  · simp at h
  · rename_i hw
    refine ⟨by omega, ?_⟩
    split at h
    · assumption
    · split at h <;> simp at h
theorem Dpl.goes_calls (S : Dpl) (n who : Nat) : (S.goes n who).calls.length = S.calls.length := by
  unfold Dpl.goes
  simp only
  split <;> simp
theorem PS.pick {most size th : Nat} {S : Dpl} {g : Gh} {n who : Nat} (h : PS most size th S g n) (hw : who < 1 + th) (hn : n < 1048576) : ∃ g', PS most size th (S.pick n who) g' (n + 1) ∧ PStep most size n who S (S.pick n who) g g' := by
  obtain ⟨a, ha⟩ : ∃ a, S.acts[who]? = some a := ⟨_, List.getElem?_eq_getElem (by rw [h.len]; exact hw)⟩
  have hgd : S.acts.getD who Dac.zero = a := by rw [List.getD_eq_getElem?_getD, ha]; rfl
  have hco := h.code who a ha
  have main : ∀ (S1 : Dpl) (b : Dac) (k : Nat), (Rn a.op ∧ S1 = S ∨ ¬ Rn a.op ∧ S.begin n who = some S1) → DI most size S1 g → S1.acts[who]? = some b → Rn b.op → b.call = k → k < S1.calls.length → S1.acts.length = S.acts.length → S1.A = S.A → S1.calls.length ≤ n + 1 → (∀ (i : Nat) (x : Dac), S1.acts[i]? = some x → CodeOk x.op) → (∀ (i : Nat) (x : Dac), S1.acts[i]? = some x → Rn x.op → ∃ k : Nat, x.call = k ∧ k < S1.calls.length) → ∃ g', PS most size th (S1.goes n who) g' (n + 1) ∧ PStep most size n who S (S1.goes n who) g g' := by
    intro S1 b k hS1 hd hb hrb hk hkl hl hA hcl hcode hcall
    obtain ⟨g', d1, d2⟩ := hd.goes (n := n) hb hrb.1 hrb.2 h.sz (by have := h.vn; omega)
    have hgb : S1.acts.getD who Dac.zero = b := by rw [List.getD_eq_getElem?_getD, hb]; rfl
    obtain ⟨k1, k2, k3, k4, k5⟩ := Dpl.goes_keep S1 n who
    rw [hgb] at k4 k5
    have hwl := (List.getElem?_eq_some_iff.1 hb).1
    have hV : g'.V.length ≤ g.V.length + 1 := by
      cases d2 with
      | owner _ e =>
        cases e with
        | none e1 _ _ => rw [e1]; omega
        | push _ e1 _ _ => rw [e1]; simp
        | pop m _ _ e1 _ _ _ => rw [e1, List.length_take]; omega
        | last _ e1 _ _ _ _ => rw [e1]; omega
      | read _ e1 _ => rw [e1]; omega
      | take _ _ _ e1 _ => rw [e1]; show g.V.length ≤ _; omega
    refine ⟨g', ⟨d1, by rw [k5, List.length_set, hl]; exact h.len, fun i x hx => ?_, fun i x hx hr => ?_, by rw [Dpl.goes_calls]; exact hcl, ?_, by have := h.vn; omega, h.m1, h.m2, h.sz⟩, .go S1 a b k _ _ ha hS1 hd hb hrb rfl hk hkl hl hA rfl d2⟩
    · rw [k5] at hx
      by_cases e : i = who
      · subst e
        rw [List.getElem?_set_self hwl] at hx
        injection hx with hx
        rw [← hx]
        exact step_code (hcode i b hb) (hd.fit hb) _
      · rw [List.getElem?_set_ne (fun e2 => e e2.symm)] at hx
        exact hcode i x hx
    · rw [Dpl.goes_calls]
      rw [k5] at hx
      by_cases e : i = who
      · subst e
        rw [List.getElem?_set_self hwl] at hx
        injection hx with hx
        rw [← hx]
        exact ⟨k, hk, hkl⟩
      · rw [List.getElem?_set_ne (fun e2 => e e2.symm)] at hx
        exact hcall i x hx hr
    · rw [k4]
      have := (step_on b.op (Acs S1.A who)).2.1
      have e2 : (Acs S1.A who).log.length = S.A.log.length := by rw [← hA]; rfl
      have := h.ln
      omega
  unfold Dpl.pick
  rw [hgd]
  by_cases hr : a.op.ans.1 = 0
  · rw [if_pos hr]
    have hrn := (rn_iff hco).1 hr
    obtain ⟨k, hk, hkl⟩ := h.call who a ha hrn
    exact main S a k (.inl ⟨hrn, rfl⟩) h.di ha hrn hk hkl rfl rfl (by have := h.cn; omega) h.code h.call
  · rw [if_neg hr]
    have hnr : ¬ Rn a.op := fun e => hr ((rn_iff hco).2 e)
    have hst : a.op = OpS.zero ∨ a.op.at_ = 1 := by
      by_cases e : a.op = OpS.zero
      · exact .inl e
      · exact .inr (Classical.not_not.1 (fun e2 => hnr ⟨e, e2⟩))
    cases hb : S.begin n who with
    | none =>
      show ∃ g', PS most size th S g' (n + 1) ∧ PStep most size n who S S g g'
      obtain ⟨e1, e2⟩ := Dpl.begin_none hb
      exact ⟨g, ⟨h.di, h.len, h.code, h.call, by have := h.cn; omega, by have := h.ln; omega, by have := h.vn; omega, h.m1, h.m2, h.sz⟩, .idle e1 e2 (fun x hx => by subst e1; rw [ha] at hx; injection hx with hx; rw [← hx]; exact hnr) rfl rfl⟩
    | some S1 =>
      show ∃ g', PS most size th (S1.goes n who) g' (n + 1) ∧ PStep most size n who S (S1.goes n who) g g'
      obtain ⟨d1, b, hb1, hb2, hb3, hb4, -, -⟩ := h.di.begin ha hst hb
      obtain ⟨k1, k2, k3, o, k4, k5, k6⟩ := Dpl.begin_keep hb
      have hwl := (List.getElem?_eq_some_iff.1 ha).1
      refine main S1 b S.calls.length (.inr ⟨hnr, hb⟩) d1 hb1 ⟨hb2, hb3⟩ hb4 (by omega) k2 k1 (by have := h.cn; omega) (fun i x hx => ?_) (fun i x hx hr => ?_)
      · rw [k4] at hx
        by_cases e : i = who
        · subst e
          rw [List.getElem?_set_self hwl] at hx
          injection hx with hx
          rw [← hx]
          exact at_code (by show o.at_ ≠ 1; omega) (by show o.at_ ≠ 21; omega)
        · rw [List.getElem?_set_ne (fun e2 => e e2.symm)] at hx
          exact h.code i x hx
      · rw [k4] at hx
        by_cases e : i = who
        · subst e
          rw [List.getElem?_set_self hwl] at hx
          injection hx with hx
          rw [← hx]
          exact ⟨S.calls.length, rfl, by omega⟩
        · rw [List.getElem?_set_ne (fun e2 => e e2.symm)] at hx
          obtain ⟨k, q1, q2⟩ := h.call i x hx hr
          exact ⟨k, q1, by omega⟩
/-- A play, pick by pick; ks: whose each pick is. -/
noncomputable def Dpl.picks (S : Dpl) (n : Nat) : List Nat → Dpl
  | [] => S
  | k :: ks => (S.pick n k).picks (n + 1) ks
theorem Dpl.picks_app (S : Dpl) (n : Nat) (l1 l2 : List Nat) : S.picks n (l1 ++ l2) = (S.picks n l1).picks (n + l1.length) l2 := by
  induction l1 generalizing S n with
  | nil => rfl
  | cons k l1 ih => show (S.pick n k).picks (n + 1) (l1 ++ l2) = _; rw [ih]; show _ = ((S.pick n k).picks (n + 1) l1).picks (n + (l1.length + 1)) l2; rw [show n + 1 + l1.length = n + (l1.length + 1) by omega]
theorem PS.picks {most size th : Nat} {S : Dpl} {g : Gh} {n : Nat} (h : PS most size th S g n) (ks : List Nat) (hk : ∀ k ∈ ks, k < 1 + th) (hn : n + ks.length ≤ 1048576) : ∃ g', PS most size th (S.picks n ks) g' (n + ks.length) := by
  induction ks generalizing S g n with
  | nil => exact ⟨g, h⟩
  | cons k ks ih =>
    rw [List.length_cons] at hn ⊢
    obtain ⟨g', h', -⟩ := h.pick (hk k (by simp)) (by omega)
    have := ih h' (fun x hx => hk x (by simp [hx])) (by omega)
    rw [show n + 1 + ks.length = n + (ks.length + 1) by omega] at this
    exact this
end Go.Proofs.Ytaeooljfilkaeaa
/-! What is seen of a play that stops earlier; who has begun. -/
namespace Go.Proofs.Ytaeooljfilkaeaa
set_option linter.unusedVariables false
set_option maxRecDepth 20000
set_option linter.unusedSimpArgs false
open Go.RowKit Go.HeapKit Go.IntWalk Go.PlainOps

/-- What is seen of a call ahead of the pick p. -/
def Cal.shut (p : Int) (c : Cal) : Cal := if c.en ≥ p then { c with en := -1, code := 0, v := 0 } else c
def cutC (p : Int) : List Cal → List Cal
  | [] => []
  | c :: l => if c.bg ≥ p then cutC p l else c.shut p :: cutC p l
theorem cutC_app (p : Int) (a b : List Cal) : cutC p (a ++ b) = cutC p a ++ cutC p b := by
  induction a with
  | nil => rfl
  | cons c a ih => simp only [List.cons_append, cutC]; split <;> simp [ih]
theorem cutC_set {p : Int} {l : List Cal} {k : Nat} {y x : Cal} (hy : l[k]? = some y) (h1 : x.bg = y.bg) (h2 : x.shut p = y.shut p) : cutC p (l.set k x) = cutC p l := by
  induction l generalizing k with
  | nil => simp at hy
  | cons c l ih =>
    cases k with
    | zero =>
      simp at hy
      subst hy
      simp only [List.set_cons_zero, cutC, h1, h2]
    | succ k =>
      simp only [List.set_cons_succ, cutC, ih (by simpa using hy)]
/-- A running call is told as one. -/
structure RunC (S : Dpl) : Prop where
  r : ∀ (i : Nat) (a : Dac) (k : Nat) (c : Cal), S.acts[i]? = some a → Rn a.op → a.call = k → S.calls[k]? = some c → c.who = i ∧ c.en = -1 ∧ c.code = 0 ∧ c.v = 0
/-- No two actors are at one call. -/
theorem begin_cal {S S1 : Dpl} {n who : Nat} (h : S.begin n who = some S1) : ∃ x : Cal, S1.calls = S.calls ++ [x] ∧ x.who = who ∧ x.bg = n ∧ x.en = -1 ∧ x.code = 0 ∧ x.v = 0 := by
  unfold Dpl.begin at h
  split at h
  · injection h with h; subst h
    exact ⟨_, rfl, rfl, rfl, rfl, rfl, rfl⟩
  · rename_i hw
    have hw : who = 0 := by omega
    subst hw
    split at h
    · simp at h
    · split at h
      · injection h with h; subst h
        exact ⟨_, rfl, rfl, rfl, rfl, rfl, rfl⟩
      · injection h with h; subst h
        exact ⟨_, rfl, rfl, rfl, rfl, rfl, rfl⟩
/-- A step of a machine: its call is as it was, or it is told. -/
theorem goes_cal {S1 : Dpl} {n who k : Nat} {b : Dac} {o : OpS} {B : Ar} {y : Cal} (hb : S1.acts[who]? = some b) (hst : b.op.step (Acs S1.A who) = (o, B)) (hk : b.call = k) (hy : S1.calls[k]? = some y) :
    (S1.goes n who).calls = if o.ans.1 = 0 then S1.calls else S1.calls.set k { y with en := n, code := o.ans.1, v := o.ans.2 } := by
  have hgd : S1.acts.getD who Dac.zero = b := by rw [List.getD_eq_getElem?_getD, hb]; rfl
  have hst' : b.op.step { S1.A with actor := (who : Int) } = (o, B) := hst
  unfold Dpl.goes
  simp only [hgd, hst']
  split
  · rfl
  · rw [hk, Int.toNat_natCast]
    apply List.ext_getElem?
    intro i
    rw [List.getElem?_modify, List.getElem?_set]
    by_cases e : k = i
    · subst e
      obtain ⟨h1, h2⟩ := List.getElem?_eq_some_iff.1 hy
      simp [h1, h2]
    · simp [e]
/-- What a play's calls are told as. -/
structure TC (th : Nat) (S : Dpl) (n : Nat) : Prop where
  run : ∀ (i : Nat) (a : Dac) (k : Nat) (c : Cal), S.acts[i]? = some a → Rn a.op → a.call = k → S.calls[k]? = some c → c.who = i ∧ c.en = -1 ∧ c.code = 0 ∧ c.v = 0
  who : ∀ c ∈ S.calls, 0 ≤ c.who ∧ c.who ≤ th
  bg : ∀ c ∈ S.calls, 0 ≤ c.bg ∧ c.bg < n
  en : ∀ c ∈ S.calls, -1 ≤ c.en ∧ c.en < n
theorem TC.pick {most size th : Nat} {S S' : Dpl} {g g' : Gh} {n who : Nat} (h : TC th S n) (hp : PS most size th S g n) (hw : who < 1 + th) (hs : PStep most size n who S S' g g') : TC th S' (n + 1) ∧ ∀ p : Nat, p ≤ n → cutC p S'.calls = cutC p S.calls := by
  cases hs with
  | idle e1 e2 e3 e4 e5 =>
    subst e4
    exact ⟨⟨h.run, h.who, fun c hc => by have := h.bg c hc; omega, fun c hc => by have := h.en c hc; omega⟩, fun _ _ => rfl⟩
  | go S1 a b k o B ha hS1 hd hb hrb hst hk hkl hlen hA hS' hev =>
    -- what holds of S1
    have h1 : (∀ (i : Nat) (x : Dac) (j : Nat) (c : Cal), S1.acts[i]? = some x → Rn x.op → x.call = j → S1.calls[j]? = some c → c.who = i ∧ c.en = -1 ∧ c.code = 0 ∧ c.v = 0) ∧ (∀ c ∈ S1.calls, 0 ≤ c.who ∧ c.who ≤ th) ∧ (∀ c ∈ S1.calls, 0 ≤ c.bg ∧ c.bg < (n + 1 : Nat)) ∧ (∀ c ∈ S1.calls, -1 ≤ c.en ∧ c.en < (n + 1 : Nat)) ∧ ∀ p : Nat, p ≤ n → cutC p S1.calls = cutC p S.calls := by
      rcases hS1 with ⟨-, rfl⟩ | ⟨hn, hbg⟩
      · exact ⟨h.run, h.who, fun c hc => by have := h.bg c hc; omega, fun c hc => by have := h.en c hc; omega, fun _ _ => rfl⟩
      · obtain ⟨x, e1, e2, e3, e4, e5, e6⟩ := begin_cal hbg
        obtain ⟨-, -, -, o', e7, e8, e9⟩ := Dpl.begin_keep hbg
        have hwl := (List.getElem?_eq_some_iff.1 ha).1
        refine ⟨fun i y j c hy hr hj hc => ?_, fun c hc => ?_, fun c hc => ?_, fun c hc => ?_, fun p hp => ?_⟩
        · rw [e7] at hy
          by_cases e : i = who
          · subst e
            rw [List.getElem?_set_self hwl] at hy
            injection hy with hy
            subst hy
            have hj' : j = S.calls.length := by have : (S.calls.length : Int) = j := hj; omega
            rw [e1, hj', List.getElem?_append_right (Nat.le_refl _), Nat.sub_self] at hc
            simp at hc
            subst hc
            exact ⟨e2, e4, e5, e6⟩
          · rw [List.getElem?_set_ne (fun e2 => e e2.symm)] at hy
            obtain ⟨k2, q1, q2⟩ := hp.call i y hy hr
            have : j = k2 := by omega
            subst this
            rw [e1, List.getElem?_append_left q2] at hc
            exact h.run i y j c hy hr hj hc
        · rw [e1] at hc
          rcases List.mem_append.1 hc with hc | hc
          · exact h.who c hc
          · rw [List.mem_singleton] at hc; subst hc; omega
        · rw [e1] at hc
          rcases List.mem_append.1 hc with hc | hc
          · have := h.bg c hc; omega
          · rw [List.mem_singleton] at hc; subst hc; omega
        · rw [e1] at hc
          rcases List.mem_append.1 hc with hc | hc
          · have := h.en c hc; omega
          · rw [List.mem_singleton] at hc; subst hc; omega
        · rw [e1, cutC_app]
          have : cutC (p : Int) [x] = [] := by simp only [cutC]; rw [if_pos (by omega)]
          rw [this, List.append_nil]
    obtain ⟨r1, r2, r3, r4, r5⟩ := h1
    obtain ⟨y, hy⟩ : ∃ y, S1.calls[k]? = some y := ⟨_, List.getElem?_eq_getElem hkl⟩
    have hc := goes_cal (n := n) hb hst hk hy
    have hgb : S1.acts.getD who Dac.zero = b := by rw [List.getD_eq_getElem?_getD, hb]; rfl
    obtain ⟨-, -, -, -, k5⟩ := Dpl.goes_keep S1 n who
    rw [hgb, hst] at k5
    have hwl := (List.getElem?_eq_some_iff.1 hb).1
    obtain ⟨y1, y2, y3, y4⟩ := r1 who b k y hb hrb hk hy
    have hym := List.mem_of_getElem? hy
    -- no other running machine is at this call
    have hoth : ∀ (i : Nat) (x : Dac), S1.acts[i]? = some x → Rn x.op → i ≠ who → ¬ x.call = k := fun i x hx hr hne e => by
      have := r1 i x k y hx hr e hy
      omega
    rw [hS']
    by_cases hz : o.ans.1 = 0
    · rw [if_pos hz] at hc
      refine ⟨⟨fun i x j c hx hr hj hc2 => ?_, by rw [hc]; exact r2, by rw [hc]; exact r3, by rw [hc]; exact r4⟩, fun p hp => by rw [hc]; exact r5 p hp⟩
      rw [hc] at hc2
      rw [k5] at hx
      by_cases e : i = who
      · subst e
        rw [List.getElem?_set_self hwl] at hx
        injection hx with hx
        subst hx
        exact r1 i b j c hb hrb hj hc2
      · rw [List.getElem?_set_ne (fun e2 => e e2.symm)] at hx
        exact r1 i x j c hx hr hj hc2
    · rw [if_neg hz] at hc
      have hmem : ∀ c, c ∈ S1.calls.set k { y with en := n, code := o.ans.1, v := o.ans.2 } → c ∈ S1.calls ∨ c = { y with en := n, code := o.ans.1, v := o.ans.2 } := fun c hc => List.mem_or_eq_of_mem_set hc
      refine ⟨⟨fun i x j c hx hr hj hc2 => ?_, fun c hm => ?_, fun c hm => ?_, fun c hm => ?_⟩, fun p hp => ?_⟩
      · rw [hc] at hc2
        rw [k5] at hx
        by_cases e : i = who
        · subst e
          rw [List.getElem?_set_self hwl] at hx
          injection hx with hx
          subst hx
          exact absurd (ans_go hr.1 hr.2) (fun e => hz (by rw [e]))
        · rw [List.getElem?_set_ne (fun e2 => e e2.symm)] at hx
          have hjk : ¬ k = j := fun e2 => hoth i x hx hr e (by rw [hj, e2])
          rw [List.getElem?_set_ne hjk] at hc2
          exact r1 i x j c hx hr hj hc2
      · rw [hc] at hm
        rcases hmem c hm with hm | rfl
        · exact r2 c hm
        · exact r2 y hym
      · rw [hc] at hm
        rcases hmem c hm with hm | rfl
        · exact r3 c hm
        · exact r3 y hym
      · rw [hc] at hm
        rcases hmem c hm with hm | rfl
        · exact r4 c hm
        · show (-1 : Int) ≤ (n : Int) ∧ (n : Int) < (n + 1 : Nat); omega
      · rw [hc, cutC_set (x := { y with en := n, code := o.ans.1, v := o.ans.2 }) hy rfl ?_, r5 p hp]
        unfold Cal.shut
        rw [if_pos (by show (n : Int) ≥ p; omega), if_neg (by rw [y2]; omega)]
        obtain ⟨q1, q2, q3, q4, q5, q6, q7⟩ := y
        simp only at y2 y3 y4
        rw [y2, y3, y4]
theorem TC.picks {most size th : Nat} {S : Dpl} {g : Gh} {n : Nat} (h : TC th S n) (hp : PS most size th S g n) (ks : List Nat) (hk : ∀ k ∈ ks, k < 1 + th) (hn : n + ks.length ≤ 1048576) : TC th (S.picks n ks) (n + ks.length) ∧ ∀ p : Nat, p ≤ n → cutC p (S.picks n ks).calls = cutC p S.calls := by
  induction ks generalizing S g n with
  | nil => exact ⟨h, fun _ _ => rfl⟩
  | cons k ks ih =>
    rw [List.length_cons] at hn ⊢
    obtain ⟨g', hp', hs⟩ := hp.pick (hk k (by simp)) (by omega)
    obtain ⟨h', hc⟩ := h.pick hp (hk k (by simp)) hs
    obtain ⟨r1, r2⟩ := ih h' hp' (fun x hx => hk x (by simp [hx])) (by omega)
    rw [show n + 1 + ks.length = n + (ks.length + 1) by omega] at r1
    exact ⟨r1, fun p hpn => (r2 p (by omega)).trans (hc p hpn)⟩
/-- What all picks have told is what is seen of the calls, if it is cut behind them. -/
theorem TC.whole {th : Nat} {S : Dpl} {n : Nat} (h : TC th S n) : cutC n S.calls = S.calls := by
  have : ∀ l : List Cal, (∀ c ∈ l, c.bg < n ∧ c.en < n) → cutC n l = l := by
    intro l hl
    induction l with
    | nil => rfl
    | cons c l ih =>
      have := hl c (by simp)
      simp only [cutC]
      rw [if_neg (by omega), ih (fun x hx => hl x (by simp [hx]))]
      congr 1
      unfold Cal.shut
      rw [if_neg (by omega)]
  exact this _ (fun c hc => ⟨(h.bg c hc).2, (h.en c hc).2⟩)
/-- The calls of a play that stops earlier. -/
theorem cut_picks {most size th : Nat} {S : Dpl} {g : Gh} (h : TC th S 0) (hp : PS most size th S g 0) (ks : List Nat) (hk : ∀ k ∈ ks, k < 1 + th) (hn : ks.length ≤ 1048576) (m : Nat) (hm : m ≤ ks.length) : (S.picks 0 (ks.take m)).calls = cutC m (S.picks 0 ks).calls := by
  obtain ⟨g1, hp1⟩ := hp.picks (ks.take m) (fun k hk2 => hk k (List.mem_of_mem_take hk2)) (by rw [List.length_take]; omega)
  obtain ⟨t1, -⟩ := h.picks hp (ks.take m) (fun k hk2 => hk k (List.mem_of_mem_take hk2)) (by rw [List.length_take]; omega)
  have hl : (ks.take m).length = m := by rw [List.length_take]; omega
  rw [hl, Nat.zero_add] at hp1 t1
  obtain ⟨-, t2⟩ := t1.picks hp1 (ks.drop m) (fun k hk2 => hk k (List.mem_of_mem_drop hk2)) (by rw [List.length_drop]; omega)
  have e : (S.picks 0 (ks.take m)).picks m (ks.drop m) = S.picks 0 ks := by
    have := Dpl.picks_app S 0 (ks.take m) (ks.drop m)
    rw [List.take_append_drop, hl, Nat.zero_add] at this
    exact this.symm
  rw [e] at t2
  rw [t2 m (Nat.le_refl _), t1.whole]
end Go.Proofs.Ytaeooljfilkaeaa
/-! begin: an actor's next machine. -/
namespace Go.Proofs.Ytaeooljfilkaeaa
open Go.RowKit Go.HeapKit Go.IntWalk

theorem rowAtD {w : World} {e : TypeId} {size : Nat} {ao : Option Addr} {n c : Nat} {xs : List Value} (h : w.ownsRow 0 e size (.slice ao n c) n xs) (hn : 0 < n) :
    ∃ g, ao = some ⟨g, 0, none⟩ ∧ ∀ j u, xs[j]? = some u → w.cell? ⟨g, j, none⟩ = some u := by
  rcases h.2 with ⟨_, h0⟩ | ⟨g, cap', cur, he, _, hg, _, _, hcs, ht⟩
  · omega
  · injection he with e1 e2 e3
    subst e1
    refine ⟨g, rfl, fun j u hu => ?_⟩
    rw [cell_of_block hg]
    rw [← ht, List.getElem?_take] at hu
    split at hu
    · simpa using hu
    · cases hu

theorem row_freeD {w : World} {e : TypeId} {s g n cap : Nat} {xs : List Value} (h : w.ownsRow 0 e s (.slice (some ⟨g, 0, none⟩) n cap) n xs) (i : Nat) : w.frozen? ⟨g, i, none⟩ = false := by
  rcases h.2 with ⟨h0, _⟩ | ⟨g', cap', cur, he, hb, hg, _⟩
  · cases h0
  · injection he with e1 e2 e3
    injection e1 with e1
    injection e1 with e1
    subst e1
    exact free_of_block hg i
theorem row_cellD {w : World} {e : TypeId} {s g n cap : Nat} {xs : List Value} (h : w.ownsRow 0 e s (.slice (some ⟨g, 0, none⟩) n cap) n xs) (hn : 0 < n) (i : Nat) (v : Value) (hv : xs[i]? = some v) : w.cell? ⟨g, i, none⟩ = some v := by
  obtain ⟨g', e, hc⟩ := rowAtD h hn
  injection e with e1
  injection e1 with e1
  subst e1
  exact hc _ _ hv
section
variable {w0 w wx : World} {P p : Nat} {F : Nat → Prop} {ta : Option Addr} {tc : Nat} {va vc vc' : Value} {S : Dpl}
theorem IsDp.cs (h : IsDp w0 w P p F ta tc va vc S) : (w.cell? ⟨P, 0, none⟩ = some (.pointer (some ⟨p, 0, none⟩)) ∧ w.cell? ⟨P, 1, none⟩ = some (.int .i64 S.base) ∧ w.cell? ⟨P, 2, none⟩ = some (.int .i64 S.most) ∧ w.cell? ⟨P, 3, none⟩ = some (.slice ta S.todos.length tc) ∧ w.cell? ⟨P, 4, none⟩ = some va ∧ w.cell? ⟨P, 5, none⟩ = some vc) ∧ ∀ i, w.frozen? ⟨P, i, none⟩ = false :=
  ⟨⟨cell_of_block h.blk 0, cell_of_block h.blk 1, cell_of_block h.blk 2, cell_of_block h.blk 3, cell_of_block h.blk 4, cell_of_block h.blk 5⟩, fun i => free_of_block h.blk i⟩
theorem act_atD {g c i L : Nat} {a : Dac} (h : IsDp w0 w P p F ta tc (.slice (some ⟨g, 0, none⟩) L c) vc S) (hL : S.acts.length = L) (hi : S.acts[i]? = some a) : (w.cell? ⟨g, i * 14, none⟩ = some (.int .i64 a.op.base) ∧ w.cell? ⟨g, i * 14 + 1, none⟩ = some (.int .i64 a.op.most) ∧ w.cell? ⟨g, i * 14 + 2, none⟩ = some (.int .i64 a.op.at_) ∧ w.cell? ⟨g, i * 14 + 3, none⟩ = some (.int .i64 a.op.code) ∧ w.cell? ⟨g, i * 14 + 4, none⟩ = some (.int .i64 a.op.v) ∧ w.cell? ⟨g, i * 14 + 5, none⟩ = some (.int .i64 a.op.t) ∧ w.cell? ⟨g, i * 14 + 6, none⟩ = some (.int .i64 a.op.b) ∧ w.cell? ⟨g, i * 14 + 7, none⟩ = some (.int .i64 a.op.a) ∧ w.cell? ⟨g, i * 14 + 8, none⟩ = some (.int .i64 a.op.c) ∧ w.cell? ⟨g, i * 14 + 9, none⟩ = some (.int .i64 a.op.na) ∧ w.cell? ⟨g, i * 14 + 10, none⟩ = some (.int .i64 a.op.nc) ∧ w.cell? ⟨g, i * 14 + 11, none⟩ = some (.int .i64 a.op.ix) ∧ w.cell? ⟨g, i * 14 + 12, none⟩ = some (.int .i64 a.op.mv) ∧ w.cell? ⟨g, i * 14 + 13, none⟩ = some (.int .i64 a.call)) ∧ (w.frozen? ⟨g, i * 14, none⟩ = false ∧ w.frozen? ⟨g, i * 14 + 1, none⟩ = false ∧ w.frozen? ⟨g, i * 14 + 2, none⟩ = false ∧ w.frozen? ⟨g, i * 14 + 3, none⟩ = false ∧ w.frozen? ⟨g, i * 14 + 4, none⟩ = false ∧ w.frozen? ⟨g, i * 14 + 5, none⟩ = false ∧ w.frozen? ⟨g, i * 14 + 6, none⟩ = false ∧ w.frozen? ⟨g, i * 14 + 7, none⟩ = false ∧ w.frozen? ⟨g, i * 14 + 8, none⟩ = false ∧ w.frozen? ⟨g, i * 14 + 9, none⟩ = false ∧ w.frozen? ⟨g, i * 14 + 10, none⟩ = false ∧ w.frozen? ⟨g, i * 14 + 11, none⟩ = false ∧ w.frozen? ⟨g, i * 14 + 12, none⟩ = false ∧ w.frozen? ⟨g, i * 14 + 13, none⟩ = false) := by
  subst hL
  have hn : 0 < S.acts.length := by have := (List.getElem?_eq_some_iff.1 hi).1; omega
  exact ⟨⟨row_cellD h.ac hn _ _ (rowVals_at Dac.vals_size _ i _ hi 0 _ rfl), row_cellD h.ac hn _ _ (rowVals_at Dac.vals_size _ i _ hi 1 _ rfl), row_cellD h.ac hn _ _ (rowVals_at Dac.vals_size _ i _ hi 2 _ rfl), row_cellD h.ac hn _ _ (rowVals_at Dac.vals_size _ i _ hi 3 _ rfl), row_cellD h.ac hn _ _ (rowVals_at Dac.vals_size _ i _ hi 4 _ rfl), row_cellD h.ac hn _ _ (rowVals_at Dac.vals_size _ i _ hi 5 _ rfl), row_cellD h.ac hn _ _ (rowVals_at Dac.vals_size _ i _ hi 6 _ rfl), row_cellD h.ac hn _ _ (rowVals_at Dac.vals_size _ i _ hi 7 _ rfl), row_cellD h.ac hn _ _ (rowVals_at Dac.vals_size _ i _ hi 8 _ rfl), row_cellD h.ac hn _ _ (rowVals_at Dac.vals_size _ i _ hi 9 _ rfl), row_cellD h.ac hn _ _ (rowVals_at Dac.vals_size _ i _ hi 10 _ rfl), row_cellD h.ac hn _ _ (rowVals_at Dac.vals_size _ i _ hi 11 _ rfl), row_cellD h.ac hn _ _ (rowVals_at Dac.vals_size _ i _ hi 12 _ rfl), row_cellD h.ac hn _ _ (rowVals_at Dac.vals_size _ i _ hi 13 _ rfl)⟩, ⟨row_freeD h.ac _, row_freeD h.ac _, row_freeD h.ac _, row_freeD h.ac _, row_freeD h.ac _, row_freeD h.ac _, row_freeD h.ac _, row_freeD h.ac _, row_freeD h.ac _, row_freeD h.ac _, row_freeD h.ac _, row_freeD h.ac _, row_freeD h.ac _, row_freeD h.ac _⟩⟩
end
end Go.Proofs.Ytaeooljfilkaeaa
