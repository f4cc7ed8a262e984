import Derived.Test.YtklepknkdkponaaDoorPgSafe
/-! The path to a point, plainly. -/
namespace Go.Proofs.YtklepknkdkponaaDoor
set_option linter.unusedVariables false
set_option maxRecDepth 20000

/-- One step of a path, seen from one slot. -/
def Steps (f : Fn) (slot : Int) (h p : Pt) : Prop := ∃ i, f.code[h.1.toNat]? = some i ∧ p.1 ∈ exitsV h.1 i ∧ p.2 = afterV i slot h.2
/-- The points that are met, the last one first. -/
inductive Rooted (f : Fn) (slot : Int) (fr : List Pt) : List Pt → Prop
  | start : Rooted f slot fr [(0, 1)]
  | more {M : List Pt} {p h : Pt} : Rooted f slot fr M → PtOk f.code.length p → p ∉ M → h ∈ M → fr.getD (ptIx p) (0, 0) = h → Steps f slot h p → Rooted f slot fr (p :: M)
theorem Rooted.has {f : Fn} {slot : Int} {fr M : List Pt} (h : Rooted f slot fr M) : ((0, 1) : Pt) ∈ M := by
  induction h with
  | start => simp
  | more _ _ _ _ _ _ ih => exact List.mem_cons_of_mem _ ih
theorem Rooted.ok {f : Fn} {slot : Int} {fr M : List Pt} (hn : 1 ≤ f.code.length) (h : Rooted f slot fr M) : ∀ p ∈ M, PtOk f.code.length p := by
  induction h with
  | start => intro p hp; simp at hp; subst hp; exact ⟨by simp, by simp; omega, .inl rfl⟩
  | more _ ok _ _ _ _ ih =>
    intro q hq
    rcases List.mem_cons.1 hq with rfl | hq
    · exact ok
    · exact ih q hq
theorem Rooted.set {f : Fn} {slot : Int} {fr M : List Pt} (hn : 1 ≤ f.code.length) (h : Rooted f slot fr M) {p : Pt} (hp : PtOk f.code.length p) (hM : p ∉ M) (x : Pt) : Rooted f slot (fr.set (ptIx p) x) M := by
  induction h with
  | start => exact .start
  | more h0 ok hn2 hh hg hs ih =>
    rename_i M q h
    refine .more (ih (fun m => hM (List.mem_cons_of_mem _ m))) ok hn2 hh ?_ hs
    rw [← hg]
    have hne : ptIx p ≠ ptIx q := fun e => hM (by rw [ptIx_inj hp ok e]; exact List.mem_cons_self ..)
    rw [List.getD_eq_getElem?_getD, List.getElem?_set_ne hne, ← List.getD_eq_getElem?_getD]
/-- What the search knows of its points. -/
structure Known (f : Fn) (slot : Int) (fr op M : List Pt) : Prop where
  rooted : Rooted f slot fr M
  met : ∀ p, PtOk f.code.length p → (metV fr p = true ↔ p ∈ M)
  count : M.length + blanks fr = f.code.length * 5
  op : ∀ p ∈ op, p ∈ M
theorem visit_known (f : Fn) (slot : Int) (hn : 1 ≤ f.code.length) (goal here : Pt) (st : Int) (hst : st = 1 ∨ st = 2 ∨ st = 4) (hh : here.2 ≠ 0) : ∀ (L : List Int) (fr op M : List Pt), (∀ a ∈ L, 0 ≤ a ∧ a < f.code.length) → (∀ a ∈ L, Steps f slot here (a, st)) → here ∈ M → fr.length = f.code.length * 5 → Known f slot fr op M →
    ∃ M', Known f slot (visit goal here st L fr op).1 (visit goal here st L fr op).2.1 M' ∧ (visit goal here st L fr op).1.length = f.code.length * 5
  | [], fr, op, M, _, _, _, hl, h => ⟨M, h, hl⟩
  | a :: r, fr, op, M, hL, hs, hm, hl, h => by
    have ha := hL a (List.mem_cons_self ..)
    have hp : PtOk f.code.length (a, st) := ⟨ha.1, ha.2, hst⟩
    have hr : ∀ b ∈ r, 0 ≤ b ∧ b < f.code.length := fun b hb => hL b (List.mem_cons_of_mem _ hb)
    have hsr : ∀ b ∈ r, Steps f slot here (b, st) := fun b hb => hs b (List.mem_cons_of_mem _ hb)
    have hix := ptIx_lt hp
    unfold visit
    split
    · exact visit_known f slot hn goal here st hst hh r fr op M hr hsr hm hl h
    · rename_i hmet
      have hnM : (a, st) ∉ M := fun q => hmet ((h.met _ hp).2 q)
      have h0 : (fr.getD (ptIx (a, st)) (0, 0)).2 = 0 := by
        unfold metV at hmet
        simpa using hmet
      have hb := blanks_set (h := here) (by rw [hl]; exact hix) h0 hh
      have hget : (fr.set (ptIx (a, st)) here).getD (ptIx (a, st)) (0, 0) = here := by
        rw [List.getD_eq_getElem?_getD, List.getElem?_set_self (by rw [hl]; exact hix)]; rfl
      have hR : Rooted f slot (fr.set (ptIx (a, st)) here) ((a, st) :: M) := .more (h.rooted.set hn hp hnM here) hp hnM hm hget (hs a (List.mem_cons_self ..))
      have hK : ∀ op', (∀ p ∈ op', p ∈ (a, st) :: M) → Known f slot (fr.set (ptIx (a, st)) here) op' ((a, st) :: M) := fun op' ho => ⟨hR, fun p ok => by rw [met_set hp ok hl hh, h.met p ok, List.mem_cons], by have := h.count; simp only [List.length_cons]; omega, ho⟩
      split
      · exact ⟨_, hK op (fun p m => List.mem_cons_of_mem _ (h.op p m)), by simpa using hl⟩
      · exact visit_known f slot hn goal here st hst hh r _ _ ((a, st) :: M) hr hsr (List.mem_cons_of_mem _ hm) (by simpa using hl) (hK _ (fun p m => by
          rcases List.mem_append.1 m with m | m
          · exact List.mem_cons_of_mem _ (h.op p m)
          · simp at m; subst m; exact List.mem_cons_self ..))
theorem run_known (f : Fn) (slot : Int) (goal : Pt) (hG : Good f) : ∀ (k : Nat) (fr op M : List Pt), fr.length = f.code.length * 5 → Known f slot fr op M → ∃ M', Known f slot (runS f slot goal k fr op) [] M' ∧ (runS f slot goal k fr op).length = f.code.length * 5
  | 0, fr, op, M, hl, h => ⟨M, ⟨h.rooted, h.met, h.count, fun _ m => by cases m⟩, hl⟩
  | k + 1, fr, [], M, hl, h => ⟨M, h, hl⟩
  | k + 1, fr, p :: t, M, hl, h => by
    have hpM := h.op p (List.mem_cons_self ..)
    have hok := h.rooted.ok hG.n1 p hpM
    obtain ⟨i, hi⟩ : ∃ i, f.code[p.1.toNat]? = some i := ⟨f.code[p.1.toNat]'(by have := hok.a0; have := hok.a1; omega), by simp⟩
    have hst := after_st i slot p.2 hok.st
    have h0 : p.2 ≠ 0 := by have := hok.st; omega
    have hw : ∀ a ∈ exitsV p.1 i, 0 ≤ a ∧ a < f.code.length := fun a ha => hG.ways p.1.toNat i hi a (by rw [Int.toNat_of_nonneg hok.a0]; exact ha)
    obtain ⟨M', v1, v2⟩ := visit_known f slot hG.n1 goal p _ hst h0 (exitsV p.1 i) fr t M hw (fun a ha => ⟨i, hi, ha, rfl⟩) hpM hl ⟨h.rooted, h.met, h.count, fun q m => h.op q (List.mem_cons_of_mem _ m)⟩
    unfold runS
    rw [hi]
    simp only
    generalize visit goal p (afterV i slot p.2) (exitsV p.1 i) fr t = V at v1 v2
    obtain ⟨fr', op', b⟩ := V
    cases b
    · exact run_known f slot goal hG k fr' op' M' v2 v1
    · exact ⟨M', ⟨v1.rooted, v1.met, v1.count, fun _ m => by cases m⟩, v2⟩
theorem bare_blanks : ∀ (n : Nat) (fr : List Pt), fr.length = n * 5 → Bare n fr → 2 * n ≤ blanks fr
  | 0, fr, _, _ => by omega
  | n + 1, fr, hl, hB => by
    match fr, hl, hB with
    | [], hl, _ => simp at hl
    | [_], hl, _ => simp at hl; omega
    | [_, _], hl, _ => simp at hl; omega
    | [_, _, _], hl, _ => simp at hl; omega
    | [_, _, _, _], hl, _ => simp at hl; omega
    | a0 :: a1 :: a2 :: a3 :: a4 :: r, hl, hB =>
      have h0 := hB 0 0 (by omega) (.inl rfl)
      have h3 := hB 0 3 (by omega) (.inr rfl)
      simp at h0 h3
      have ih := bare_blanks n r (by simp only [List.length_cons] at hl; omega) (fun a s ha hs => by
        have := hB (a + 1) s (by omega) hs
        rwa [show (a + 1) * 5 + s = a * 5 + s + 5 by omega] at this)
      unfold blanks at ih ⊢
      simp only [List.countP_cons, h0, h3]
      simp
      omega
/-- The way back from a point to the start. -/
inductive Way (f : Fn) (slot : Int) (fr : List Pt) : Pt → List Pt → Prop
  | start : Way f slot fr (0, 1) [(0, 1)]
  | more {p h : Pt} {l : List Pt} : p ≠ (0, 1) → PtOk f.code.length p → fr.getD (ptIx p) (0, 0) = h → Steps f slot h p → Way f slot fr h l → Way f slot fr p (p :: l)
theorem Rooted.way {f : Fn} {slot : Int} {fr M : List Pt} (h : Rooted f slot fr M) : ∀ p ∈ M, ∃ l, Way f slot fr p l ∧ l.length ≤ M.length := by
  induction h with
  | start => intro p hp; simp at hp; subst hp; exact ⟨_, .start, by simp⟩
  | more h0 ok hn hh hg hs ih =>
    intro q hq
    rcases List.mem_cons.1 hq with rfl | hq
    · obtain ⟨l, hw, hle⟩ := ih _ hh
      exact ⟨_, .more (fun e => hn (by rw [e]; exact h0.has)) ok hg hs hw, by simp only [List.length_cons]; omega⟩
    · obtain ⟨l, hw, hle⟩ := ih q hq
      exact ⟨l, hw, by simp only [List.length_cons]; omega⟩
theorem fr0_blanks (n : Nat) (hn : 1 ≤ n) : 1 + blanks (fr0 n) = n * 5 := by
  have hb := blanks_set (fr := List.replicate (n * 5) (0, 0)) (k := 1) (h := (0, 1)) (by simp; omega) (by rw [List.getD_eq_getElem?_getD, List.getElem?_replicate]; split <;> rfl) (by simp)
  have e : blanks (List.replicate (n * 5) ((0, 0) : Pt)) = n * 5 := by simp [blanks, List.countP_replicate]
  unfold fr0
  omega
/-- Every point that is met has a way to it, of at most three points a place. -/
theorem search_way {f : Fn} (hG : Good f) (slot : Int) (goal : Pt) (p : Pt) (hp : PtOk f.code.length p) (hm : metV (searchV f slot goal) p = true) : ∃ l, Way f slot (searchV f slot goal) p l ∧ l.length ≤ 3 * f.code.length := by
  have n1 := hG.n1
  have h1 : PtOk f.code.length (0, 1) := ⟨by simp, by simp; omega, .inl rfl⟩
  obtain ⟨M, hK, hl⟩ := run_known f slot goal hG (f.code.length * 10 + 2) (fr0 f.code.length) [(0, 1)] [(0, 1)] (fr0_len _) ⟨.start, fun p ok => by rw [fr0_met n1 ok]; simp, by have := fr0_blanks _ n1; simpa using this, fun p m => m⟩
  have hb := bare_blanks _ _ hl (search_bare hG slot goal)
  have hc := hK.count
  obtain ⟨l, hw, hle⟩ := hK.rooted.way p ((hK.met p hp).1 hm)
  refine ⟨l, hw, ?_⟩
  unfold searchV at hb
  omega
/-- The search for a goal meets it just where the whole search does. -/
theorem visit_mono (n : Nat) (goal here : Pt) (st : Int) (hst : st = 1 ∨ st = 2 ∨ st = 4) (hh : here.2 ≠ 0) : ∀ (L : List Int) (fr op : List Pt), (∀ a ∈ L, 0 ≤ a ∧ a < n) → fr.length = n * 5 → ∀ p, PtOk n p → metV fr p = true → metV (visit goal here st L fr op).1 p = true
  | [], fr, op, _, _, p, _, h => h
  | a :: r, fr, op, hL, hl, p, ok, h => by
    have ha := hL a (List.mem_cons_self ..)
    have hp : PtOk n (a, st) := ⟨ha.1, ha.2, hst⟩
    have hr : ∀ b ∈ r, 0 ≤ b ∧ b < n := fun b hb => hL b (List.mem_cons_of_mem _ hb)
    have h2 := (met_set hp ok hl hh).2 (.inr h)
    unfold visit
    split
    · exact visit_mono n goal here st hst hh r fr op hr hl p ok h
    · split
      · exact h2
      · exact visit_mono n goal here st hst hh r _ _ hr (by simpa using hl) p ok h2
theorem visit_goal (n : Nat) (goal here : Pt) (hg : PtOk n goal) (st : Int) (hst : st = 1 ∨ st = 2 ∨ st = 4) (hh : here.2 ≠ 0) : ∀ (L : List Int) (fr op : List Pt), (∀ a ∈ L, 0 ≤ a ∧ a < n) → fr.length = n * 5 →
    ((visit goal here st L fr op).2.2 = true ∧ metV (visit goal here st L fr op).1 goal = true ∧ metV (visit (0, 0) here st L fr op).1 goal = true) ∨ visit goal here st L fr op = visit (0, 0) here st L fr op
  | [], fr, op, _, _ => .inr rfl
  | a :: r, fr, op, hL, hl => by
    have ha := hL a (List.mem_cons_self ..)
    have hp : PtOk n (a, st) := ⟨ha.1, ha.2, hst⟩
    have hr : ∀ b ∈ r, 0 ≤ b ∧ b < n := fun b hb => hL b (List.mem_cons_of_mem _ hb)
    have hne : ¬ (a, st) = ((0 : Int), (0 : Int)) := by simp; omega
    unfold visit
    by_cases hm : metV fr (a, st) = true
    · simp only [hm, if_true]
      exact visit_goal n goal here hg st hst hh r fr op hr hl
    · simp only [hm, if_neg hne]
      by_cases e : (a, st) = goal
      · have h2 := (met_set hp hp hl hh).2 (.inl rfl)
        simp only [if_pos e]
        refine .inl ⟨rfl, ?_, ?_⟩
        · rw [← e]; exact h2
        · rw [← e]
          exact visit_mono n (0, 0) here st hst hh r _ _ hr (by simpa using hl) _ hp h2
      · simp only [if_neg e]
        exact visit_goal n goal here hg st hst hh r _ _ hr (by simpa using hl)
theorem run_mono (f : Fn) (slot : Int) (goal : Pt) (hG : Good f) : ∀ (k : Nat) (fr op : List Pt), Seeks f.code.length fr op → ∀ p, PtOk f.code.length p → metV fr p = true → metV (runS f slot goal k fr op) p = true
  | 0, fr, op, hS, p, ok, h => h
  | k + 1, fr, [], hS, p, ok, h => h
  | k + 1, fr, q :: t, hS, p, ok, h => by
    have hok := hS.op q (List.mem_cons_self ..)
    obtain ⟨i, hi⟩ : ∃ i, f.code[q.1.toNat]? = some i := ⟨f.code[q.1.toNat]'(by have := hok.a0; have := hok.a1; omega), by simp⟩
    have hst := after_st i slot q.2 hok.st
    have h0 : q.2 ≠ 0 := by have := hok.st; omega
    have hw : ∀ a ∈ exitsV q.1 i, 0 ≤ a ∧ a < f.code.length := fun a ha => hG.ways q.1.toNat i hi a (by rw [Int.toNat_of_nonneg hok.a0]; exact ha)
    have v1 := visit_ok f.code.length goal q _ hst h0 (exitsV q.1 i) fr t hw ⟨hS.len, fun q hq => hS.op q (List.mem_cons_of_mem _ hq)⟩
    have v2 := visit_mono f.code.length goal q _ hst h0 (exitsV q.1 i) fr t hw hS.len p ok h
    unfold runS
    rw [hi]
    simp only
    generalize visit goal q (afterV i slot q.2) (exitsV q.1 i) fr t = V at v1 v2
    obtain ⟨fr', op', b⟩ := V
    cases b
    · exact run_mono f slot goal hG k fr' op' v1.1 p ok v2
    · exact v2
theorem run_goal (f : Fn) (slot : Int) (goal : Pt) (hG : Good f) (hg : PtOk f.code.length goal) : ∀ (k : Nat) (fr op : List Pt), Seeks f.code.length fr op → (metV (runS f slot goal k fr op) goal = true ↔ metV (runS f slot (0, 0) k fr op) goal = true)
  | 0, fr, op, hS => Iff.rfl
  | k + 1, fr, [], hS => Iff.rfl
  | k + 1, fr, q :: t, hS => by
    have hok := hS.op q (List.mem_cons_self ..)
    obtain ⟨i, hi⟩ : ∃ i, f.code[q.1.toNat]? = some i := ⟨f.code[q.1.toNat]'(by have := hok.a0; have := hok.a1; omega), by simp⟩
    have hst := after_st i slot q.2 hok.st
    have h0 : q.2 ≠ 0 := by have := hok.st; omega
    have hw : ∀ a ∈ exitsV q.1 i, 0 ≤ a ∧ a < f.code.length := fun a ha => hG.ways q.1.toNat i hi a (by rw [Int.toNat_of_nonneg hok.a0]; exact ha)
    have hS' : Seeks f.code.length fr t := ⟨hS.len, fun q hq => hS.op q (List.mem_cons_of_mem _ hq)⟩
    have v1 := visit_ok f.code.length (0, 0) q _ hst h0 (exitsV q.1 i) fr t hw hS'
    have vf := visit_free f.code.length q _ hst (exitsV q.1 i) fr t
    have vg := visit_goal f.code.length goal q hg _ hst h0 (exitsV q.1 i) fr t hw hS.len
    unfold runS
    rw [hi]
    simp only
    generalize visit goal q (afterV i slot q.2) (exitsV q.1 i) fr t = V at vg
    generalize visit (0, 0) q (afterV i slot q.2) (exitsV q.1 i) fr t = V0 at vg v1 vf
    obtain ⟨fr0', op0', b0⟩ := V0
    simp only at vf
    subst vf
    rcases vg with ⟨e1, e2, e3⟩ | e
    · obtain ⟨fr', op', b⟩ := V
      simp only at e1 e2 e3
      subst e1
      simp only
      exact ⟨fun _ => run_mono f slot (0, 0) hG k fr0' op0' v1.1 goal hg e3, fun _ => e2⟩
    · subst e
      simp only
      exact run_goal f slot goal hG hg k fr0' op0' v1.1
theorem search_goal {f : Fn} (hG : Good f) (slot : Int) (goal : Pt) (hg : PtOk f.code.length goal) : metV (searchV f slot goal) goal = metV (searchV f slot (0, 0)) goal := by
  have n1 := hG.n1
  have := run_goal f slot goal hG hg (f.code.length * 10 + 2) (fr0 f.code.length) [(0, 1)] ⟨fr0_len _, fun p hp => by simp at hp; subst hp; exact ⟨by simp, by simp; omega, .inl rfl⟩⟩
  unfold searchV
  exact Bool.eq_iff_iff.2 this

/-- Along a path: the place, and the slot's state. -/
theorem Way.ne {f : Fn} {slot : Int} {fr : List Pt} {p : Pt} {l : List Pt} (h : Way f slot fr p l) : ∃ r, l = p :: r := by
  cases h with
  | start => exact ⟨[], rfl⟩
  | more _ _ _ _ _ => exact ⟨_, rfl⟩
theorem Way.last {f : Fn} {slot : Int} {fr : List Pt} {p : Pt} {l : List Pt} (h : Way f slot fr p l) : l[l.length - 1]? = some (0, 1) := by
  induction h with
  | start => rfl
  | more _ _ _ _ hw ih =>
    obtain ⟨r, rfl⟩ := hw.ne
    simpa using ih
theorem Way.steps {f : Fn} {slot : Int} {fr : List Pt} {p : Pt} {l : List Pt} (h : Way f slot fr p l) : ∀ (k : Nat) (a b : Pt), l[k]? = some b → l[k + 1]? = some a → Steps f slot a b := by
  induction h with
  | start => intro k a b h1 h2; simp at h2
  | more _ _ _ hs hw ih =>
    intro k a b h1 h2
    cases k with
    | zero =>
      obtain ⟨r, rfl⟩ := hw.ne
      simp at h1 h2
      subst h1 h2
      exact hs
    | succ k => exact ih k a b (by simpa using h1) (by simpa using h2)
theorem Way.ok {f : Fn} {slot : Int} {fr : List Pt} {p : Pt} {l : List Pt} (hn : 1 ≤ f.code.length) (h : Way f slot fr p l) : ∀ q ∈ l, PtOk f.code.length q := by
  induction h with
  | start => intro q hq; simp at hq; subst hq; exact ⟨by simp, by simp; omega, .inl rfl⟩
  | more _ ok _ _ _ ih =>
    intro q hq
    rcases List.mem_cons.1 hq with rfl | hq
    · exact ok
    · exact ih q hq
/-- The same from its beginning. -/
structure Fore (f : Fn) (slot : Int) (goal : Pt) (Q : List Pt) : Prop where
  n1 : 1 ≤ Q.length
  n3 : Q.length ≤ 3 * f.code.length
  first : Q[0]? = some (0, 1)
  last : Q[Q.length - 1]? = some goal
  ok : ∀ q ∈ Q, PtOk f.code.length q
  step : ∀ (k : Nat) (a b : Pt), Q[k]? = some a → Q[k + 1]? = some b → Steps f slot a b
theorem Way.fore {f : Fn} {slot : Int} {fr : List Pt} {p : Pt} {l : List Pt} (hn : 1 ≤ f.code.length) (h : Way f slot fr p l) (h3 : l.length ≤ 3 * f.code.length) : Fore f slot p l.reverse := by
  obtain ⟨r, hr⟩ := h.ne
  have hlen : 1 ≤ l.length := by rw [hr]; simp
  refine ⟨by simpa using hlen, by simpa using h3, ?_, ?_, fun q hq => h.ok hn q (by simpa using hq), fun k a b h1 h2 => ?_⟩
  · rw [List.getElem?_reverse (by omega)]
    simpa using h.last
  · rw [List.length_reverse, List.getElem?_reverse (by omega), show l.length - 1 - (l.length - 1) = 0 by omega, hr]
    rfl
  · have hk : k + 1 < l.length := by
      have := (List.getElem?_eq_some_iff.1 h2).1
      simpa using this
    rw [List.getElem?_reverse (by omega)] at h1 h2
    exact h.steps (l.length - 1 - (k + 1)) a b h2 (by rwa [show l.length - 1 - (k + 1) + 1 = l.length - 1 - k by omega])

/-- What the statement's walk does on a step of a path. -/
theorem step_at {al : Bool} {fs : List Fn} {f : Fn} {i : Ins} {t b : Int} (hf : fitsV al fs f i = true) (h : b ∈ exitsV t i) : i.kind ≠ 9 ∧ stepAt i t (decide (i.kind = 4 ∧ i.b = b)) = b := by
  have hk := fits_kind hf
  unfold exitsV at h
  unfold stepAt
  rcases kinds hk.1 hk.2 with e | e | e | e | e | e | e | e | e | e
  all_goals (rw [e] at h ⊢; simp [fN, fA, fB] at h ⊢)
  all_goals first | omega | skip
/-- The slot's state along the walk. -/
structure AlongP (f : Fn) (slot : Nat) (p : Pt) (sl : List Int) : Prop where
  len : sl.length = 8
  met : bitV (sl.getD slot 0) = p.2
  is3 : ∀ x ∈ sl, x = 0 ∨ x = 1 ∨ x = 2
theorem alongP_start (f : Fn) (slot : Nat) : AlongP f slot (0, 1) (List.replicate 8 0) := by
  refine ⟨by simp, ?_, fun x hx => .inl (List.eq_of_mem_replicate hx)⟩
  have e : (List.replicate 8 (0 : Int)).getD slot 0 = 0 := by
    rw [List.getD_eq_getElem?_getD, List.getElem?_replicate]; split <;> rfl
  rw [e]; rfl
theorem alongP_step {al : Bool} {fs : List Fn} {f : Fn} {slot : Nat} {a b : Pt} {sl : List Int} {i : Ins} (h8 : slot < 8) (hf : fitsV al fs f i = true) (h : AlongP f slot a sl) (hi : f.code[a.1.toNat]? = some i) (hs : Steps f slot a b) : AlongP f slot b (stepSl i sl) := by
  obtain ⟨w1, w2, w3⟩ := fits_ways hf
  obtain ⟨j, hj, _, h2⟩ := hs
  rw [hi] at hj
  obtain rfl := Option.some.inj hj
  refine ⟨?_, ?_, fun x hx => ?_⟩
  · unfold stepSl
    split
    · simp [h.len]
    · split
      · simp [syncV, h.len]
      · exact h.len
  · rw [h2, ← h.met]
    symm
    have hslen : slot < sl.length := by rw [h.len]; omega
    unfold afterV stepSl
    by_cases h5 : i.kind = 5
    · rw [if_pos h5]
      rw [h5] at w1
      have w1' : belowV i.a f.slots = true := w1
      obtain ⟨b0, b1⟩ := (belowV_iff _ _).1 w1'
      by_cases ha : i.a = slot
      · rw [if_pos ⟨h5, ha⟩, ha]
        simp [hslen, bitV]
      · rw [if_neg (fun q => ha q.2), if_neg (by omega)]
        have : (sl.set i.a.toNat 1).getD slot 0 = sl.getD slot 0 := by rw [List.getD_eq_getElem?_getD, List.getElem?_set_ne (by omega), ← List.getD_eq_getElem?_getD]
        rw [this]
    · rw [if_neg h5, if_neg (fun q => h5 q.1)]
      by_cases h6 : i.kind = 6
      · rw [if_pos h6]
        have e1 : (syncV sl).getD slot 0 = (if sl.getD slot 0 = 1 then 2 else sl.getD slot 0) := by
          unfold syncV
          simp [List.getD_eq_getElem?_getD, List.getElem?_eq_getElem hslen]
        rw [e1]
        have hx : sl.getD slot 0 = 0 ∨ sl.getD slot 0 = 1 ∨ sl.getD slot 0 = 2 := by
          rw [List.getD_eq_getElem?_getD, List.getElem?_eq_getElem hslen]
          exact h.is3 _ (List.getElem_mem _)
        rcases hx with hx | hx | hx <;> rw [hx] <;> simp [h6, bitV]
      · rw [if_neg h6, if_neg (fun q => h6 q.1)]
  · unfold stepSl at hx
    split at hx
    · rcases List.mem_or_eq_of_mem_set hx with hx | rfl
      · exact h.is3 x hx
      · simp
    · split at hx
      · unfold syncV at hx
        obtain ⟨y, hy, rfl⟩ := List.mem_map.1 hx
        have := h.is3 y hy
        split <;> omega
      · exact h.is3 x hx
end Go.Proofs.YtklepknkdkponaaDoor
