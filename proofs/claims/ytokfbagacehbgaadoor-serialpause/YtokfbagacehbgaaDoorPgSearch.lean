import Derived.Test.YtokfbagacehbgaaDoorPgMem
/-! The search, plainly: what stays, and that it ends. -/
namespace Go.Proofs.YtokfbagacehbgaaDoor
set_option linter.unusedVariables false
set_option maxRecDepth 20000
open Go.RowKit Go.HeapKit

structure Good (f : Fn) : Prop where
  n1 : 1 ≤ f.code.length
  n2 : f.code.length ≤ 512
  kind : ∀ (j : Nat) (i : Ins), f.code[j]? = some i → 0 ≤ i.kind ∧ i.kind < 10
  ways : ∀ (j : Nat) (i : Ins), f.code[j]? = some i → ∀ a ∈ exitsV j i, 0 ≤ a ∧ a < f.code.length
/-- A point of a code of n places. -/
structure PtOk (n : Nat) (p : Pt) : Prop where
  a0 : 0 ≤ p.1
  a1 : p.1 < n
  st : p.2 = 1 ∨ p.2 = 2 ∨ p.2 = 4
theorem after_st (i : Ins) (slot st : Int) (h : st = 1 ∨ st = 2 ∨ st = 4) : afterV i slot st = 1 ∨ afterV i slot st = 2 ∨ afterV i slot st = 4 := by
  unfold afterV
  split
  · simp
  · split
    · simp
    · exact h
theorem ptIx_lt {n : Nat} {p : Pt} (h : PtOk n p) : ptIx p < n * 5 := by
  obtain ⟨h1, h2, h3⟩ := h
  unfold ptIx
  omega
/-- What the visits leave. -/
structure Seeks (n : Nat) (fr op : List Pt) : Prop where
  len : fr.length = n * 5
  op : ∀ p ∈ op, PtOk n p
theorem visit_ok (n : Nat) (goal here : Pt) (st : Int) (hst : st = 1 ∨ st = 2 ∨ st = 4) (hh : here.2 ≠ 0) : ∀ (L : List Int) (fr op : List Pt), (∀ a ∈ L, 0 ≤ a ∧ a < n) → Seeks n fr op →
    Seeks n (visit goal here st L fr op).1 (visit goal here st L fr op).2.1 ∧ 2 * blanks (visit goal here st L fr op).1 + (visit goal here st L fr op).2.1.length ≤ 2 * blanks fr + op.length
  | [], fr, op, _, h => ⟨h, Nat.le_refl _⟩
  | a :: r, fr, op, hL, h => by
    have ha := hL a (List.mem_cons_self ..)
    have hp : PtOk n (a, st) := ⟨ha.1, ha.2, hst⟩
    have hr : ∀ b ∈ r, 0 ≤ b ∧ b < n := fun b hb => hL b (List.mem_cons_of_mem _ hb)
    have hix := ptIx_lt hp
    unfold visit
    split
    · exact visit_ok n goal here st hst hh r fr op hr h
    · rename_i hm
      have h0 : (fr.getD (ptIx (a, st)) (0, 0)).2 = 0 := by
        unfold metV at hm
        simpa using hm
      have hb := blanks_set (h := here) (by rw [h.len]; exact hix) h0 hh
      split
      · exact ⟨⟨by simpa using h.len, h.op⟩, by simp only; omega⟩
      · have h2 : Seeks n (fr.set (ptIx (a, st)) here) (op ++ [(a, st)]) := ⟨by simpa using h.len, fun p hp' => by
          rcases List.mem_append.1 hp' with hq | hq
          · exact h.op p hq
          · simp at hq; subst hq; exact hp⟩
        have ih := visit_ok n goal here st hst hh r _ _ hr h2
        refine ⟨ih.1, Nat.le_trans ih.2 ?_⟩
        simp only [List.length_append, List.length_cons, List.length_nil]
        omega

/-- How many blanks a row of points has, read off its cells. -/
def blankV : List Value → Nat
  | _ :: .int _ x :: r => (if x = 0 then 1 else 0) + blankV r
  | _ :: _ :: r => blankV r
  | _ => 0
theorem blankV_pts (l : List Pt) : blankV (ptVals l) = blanks l := by
  induction l with
  | nil => rfl
  | cons p l ih =>
    have e : ptVals (p :: l) = Value.int .i64 p.1 :: .int .i64 p.2 :: ptVals l := rfl
    rw [e]
    simp only [blankV, ih, blanks, List.countP_cons]
    by_cases h : p.2 = 0 <;> simp [h] <;> omega
def blankW (w : World) (g : Nat) : Nat := match w.heap[g]? with
  | some (.cells c _ _) => blankV c.toList
  | _ => 0
theorem IsFrom.blank {w : World} {g n : Nat} {fr : List Pt} (h : IsFrom w g n fr) : blankW w g = blanks fr := by
  unfold blankW
  rw [h.blk]
  simpa using blankV_pts fr
def lenS : Value → Nat
  | .slice _ n _ => n
  | _ => 0
theorem IsQ.lenS {w : World} {base : Nat} {v : Value} {l : List Pt} (h : IsQ w base v l) : lenS v = l.length := by
  rcases h.ex with ⟨rfl, rfl⟩ | ⟨g, off, cap, cur, rfl, _⟩ <;> rfl

theorem blk_ne {w : World} {p q : Nat} {c c' : Array Value} {t t' : TypeId} {z z' : Nat × Nat} (h : w.heap[p]? = some (.cells c t z)) (h' : w.heap[q]? = some (.cells c' t' z')) (ht : t ≠ t') : p ≠ q := by
  rintro rfl
  rw [h] at h'
  injection h' with e
  injection e with _ e2 _
  exact ht e2

/-- The search's memory. -/
structure Held (w wr : World) (B n : Nat) (fv : Array Value) (goal : Pt) (fr : List Pt) (v : Value) (op : List Pt) : Prop where
  keep : Keeps None w wr
  box : wr.heap[B]? = some (.cells fv 35 (0, 0))
  gbox : wr.heap[B + 1]? = some (.cells #[.int .i64 goal.1, .int .i64 goal.2] 96 (0, 0))
  from_ : IsFrom wr (B + 2) n fr
  q : IsQ wr (B + 3) v op
  plain : Seeks n fr op
  low : w.heap.size ≤ B
theorem Held.q_ne {w wr : World} {B n : Nat} {fv : Array Value} {goal : Pt} {fr : List Pt} {v : Value} {op : List Pt} (h : Held w wr B n fv goal fr v op) {g : Nat} (hg : qBlock v = some g) : B + 3 ≤ g := (h.q.low hg).1
theorem Held.more {w wr w' : World} {B n : Nat} {fv : Array Value} {goal : Pt} {fr : List Pt} {v : Value} {op : List Pt} (h : Held w wr B n fv goal fr v op) (hk : Keeps None wr w') : Held w w' B n fv goal fr v op :=
  ⟨h.keep.trans hk (fun _ f _ => f), blk_kept h.box hk (fun f => f), blk_kept h.gbox hk (fun f => f), h.from_.kept hk (fun f => f), h.q.kept hk (fun _ _ f => f), h.plain, h.low⟩
/-- .. while a row of numbers is written. -/
theorem Held.rows {w wr w' : World} {B n : Nat} {fv : Array Value} {goal : Pt} {fr : List Pt} {v : Value} {op : List Pt} (h : Held w wr B n fv goal fr v op) {S : Nat → Prop} (hk : Keeps S wr w') (hS : ∀ g, S g → w.heap.size ≤ g ∧ ∃ c z, wr.heap[g]? = some (.cells c 3 z)) : Held w w' B n fv goal fr v op := by
  have no : ∀ {p : Nat} {c : Array Value} {t : TypeId} {z : Nat × Nat}, wr.heap[p]? = some (.cells c t z) → t ≠ 3 → ¬ S p := fun hp ht hs => by
    obtain ⟨_, c', z', hc⟩ := hS _ hs
    exact blk_ne hp hc ht rfl
  refine ⟨h.keep.trans hk (fun i hs hi => by have := (hS i hs).1; omega), blk_kept h.box hk (no h.box (by decide)), blk_kept h.gbox hk (no h.gbox (by decide)), h.from_.kept hk (no h.from_.blk (by decide)), h.q.kept hk (fun g e => ?_), h.plain, h.low⟩
  obtain ⟨_, _, cur, hc⟩ := h.q.low e
  exact no hc (by decide)
/-- A point is met. -/
theorem Held.meet {w wr : World} {B n : Nat} {fv : Array Value} {goal : Pt} {fr : List Pt} {v : Value} {op : List Pt} (h : Held w wr B n fv goal fr v op) (k : Nat) (x : Pt) (hk : k < fr.length) :
    Held w ((wr.setCell ⟨B + 2, k * 2, none⟩ (.int .i64 x.1)).setCell ⟨B + 2, k * 2 + 1, none⟩ (.int .i64 x.2)) B n fv goal (fr.set k x) v op ∧
    Keeps (· = B + 2) wr ((wr.setCell ⟨B + 2, k * 2, none⟩ (.int .i64 x.1)).setCell ⟨B + 2, k * 2 + 1, none⟩ (.int .i64 x.2)) := by
  have hk' : Keeps (· = B + 2) wr ((wr.setCell ⟨B + 2, k * 2, none⟩ (.int .i64 x.1)).setCell ⟨B + 2, k * 2 + 1, none⟩ (.int .i64 x.2)) :=
    ((Keeps.refl (· = B + 2) wr).andSet (x := ⟨B + 2, k * 2, none⟩) (.inl rfl) _).andSet (x := ⟨B + 2, k * 2 + 1, none⟩) (.inl rfl) _
  refine ⟨⟨h.keep.trans hk' (fun i e hi => by have := h.low; omega), blk_kept h.box hk' (by omega), blk_kept h.gbox hk' (by omega), h.from_.set k x hk, h.q.kept hk' (fun g e => by have := h.q_ne e; omega), ⟨by simpa using h.plain.len, h.plain.op⟩, h.low⟩, hk'⟩
/-- A point goes behind the queue. -/
theorem Held.push {w wr w' : World} {B n : Nat} {fv : Array Value} {goal : Pt} {fr : List Pt} {v v' : Value} {op : List Pt} {x : Pt} (h : Held w wr B n fv goal fr v op) (hq : IsQ w' (B + 3) v' (op ++ [x])) (hk : Keeps (fun k => qBlock v = some k) wr w') (hx : PtOk n x) :
    Held w w' B n fv goal fr v' (op ++ [x]) := by
  refine ⟨h.keep.trans hk (fun i e hi => by have := h.q_ne e; have := h.low; omega), blk_kept h.box hk (fun e => by have := h.q_ne e; omega), blk_kept h.gbox hk (fun e => by have := h.q_ne e; omega), h.from_.kept hk (fun e => by have := h.q_ne e; omega), hq, ⟨h.plain.len, fun p hp => ?_⟩, h.low⟩
  rcases List.mem_append.1 hp with h1 | h1
  · exact h.plain.op p h1
  · simp at h1; subst h1; exact hx
/-- The queue without its head. -/
theorem Held.tail {w wr : World} {B n : Nat} {fv : Array Value} {goal : Pt} {fr : List Pt} {v v' : Value} {p : Pt} {t : List Pt} (h : Held w wr B n fv goal fr v (p :: t)) (hq : IsQ wr (B + 3) v' t) : Held w wr B n fv goal fr v' t :=
  ⟨h.keep, h.box, h.gbox, h.from_, hq, ⟨h.plain.len, fun p hp => h.plain.op p (List.mem_cons_of_mem _ hp)⟩, h.low⟩
theorem own_zero {w : World} {e : TypeId} {v : Value} {m : Nat} {xs : List Value} (h : w.ownsRow 0 e 1 v m xs) : ∃ ao cap, v = .slice ao m cap ∧ w.ownsRow 0 e 1 (.slice ao 0 cap) 0 [] ∧ (Value.slice ao 0 cap).ownBlock = v.ownBlock ∧ cap ≤ maxLen ∧ m ≤ cap ∧ (ao = none → cap = 0) ∧ (∀ x, ao = some x → x.spot = none) := by
  rcases h.2 with ⟨rfl, rfl⟩ | ⟨g, cap, cur, rfl, hb, hg, hn, hm, hc, ht⟩
  · exact ⟨none, 0, rfl, ⟨by simp, .inl ⟨rfl, rfl⟩⟩, rfl, by simp [maxLen], Nat.le_refl _, fun _ => rfl, fun _ h => by cases h⟩
  · exact ⟨_, cap, rfl, ⟨by simp, .inr ⟨g, cap, cur, rfl, hb, hg, Nat.zero_le _, hm, hc, by simp⟩⟩, rfl, hm, hn, fun h => (by cases h), fun x h => (by cases h; rfl)⟩
/-- What the inner loop holds. -/
structure Inner (w wr : World) (B n H M : Nat) (fv : Array Value) (goal here : Pt) (st : Int) (L : List Int) (V : List Pt × List Pt × Bool) (s9 : Value) (j : Nat) (s8 : Value) (fr op : List Pt) : Prop where
  held : Held w wr B n fv goal fr s8 op
  vis : visit goal here st (L.drop j) fr op = V
  meas : 2 * blanks fr + op.length ≤ M
  hbox : wr.heap[H]? = some (.cells #[.int .i64 here.1, .int .i64 here.2] 96 (0, 0))
  row : wr.ownsRow 0 3 1 s9 L.length (L.map (Value.int .i64))
  rlow : ∀ g, s9.ownBlock = some g → w.heap.size ≤ g
  qne : ∀ g, qBlock s8 = some g → g ≠ H
theorem Inner.more {w wr w' : World} {B n H M : Nat} {fv : Array Value} {goal here : Pt} {st : Int} {L : List Int} {V : List Pt × List Pt × Bool} {s9 : Value} {j : Nat} {s8 : Value} {fr op : List Pt} (h : Inner w wr B n H M fv goal here st L V s9 j s8 fr op) (hk : Keeps None wr w') : Inner w w' B n H M fv goal here st L V s9 j s8 fr op :=
  ⟨h.held.more hk, h.vis, h.meas, blk_kept h.hbox hk (fun f => f), hk.own h.row (fun _ _ f => f), h.rlow, h.qne⟩
/-- A place that is met already. -/
theorem Inner.skip {w wr : World} {B n H M : Nat} {fv : Array Value} {goal here : Pt} {st : Int} {L : List Int} {V : List Pt × List Pt × Bool} {s9 : Value} {j : Nat} {s8 : Value} {fr op : List Pt} (h : Inner w wr B n H M fv goal here st L V s9 j s8 fr op) {a : Int} (ha : L[j]? = some a) (hm : metV fr (a, st) = true) : Inner w wr B n H M fv goal here st L V s9 (j + 1) s8 fr op := by
  refine ⟨h.held, ?_, h.meas, h.hbox, h.row, h.rlow, h.qne⟩
  have hv := h.vis
  rw [List.drop_eq_getElem_cons (List.getElem?_eq_some_iff.1 ha).1, (List.getElem?_eq_some_iff.1 ha).2] at hv
  unfold visit at hv
  rwa [if_pos hm] at hv
/-- A new place. -/
theorem Inner.mark {w wr : World} {B n H M : Nat} {fv : Array Value} {goal here : Pt} {st : Int} {L : List Int} {V : List Pt × List Pt × Bool} {s9 : Value} {j : Nat} {s8 : Value} {fr op : List Pt} (h : Inner w wr B n H M fv goal here st L V s9 j s8 fr op) {a : Int} (ha : L[j]? = some a) (hm : metV fr (a, st) = false)
    (ok : PtOk n (a, st)) (hh : here.2 ≠ 0) : ∃ w', w' = (wr.setCell ⟨B + 2, ptIx (a, st) * 2, none⟩ (.int .i64 here.1)).setCell ⟨B + 2, ptIx (a, st) * 2 + 1, none⟩ (.int .i64 here.2) ∧ Held w w' B n fv goal (fr.set (ptIx (a, st)) here) s8 op ∧ Keeps (· = B + 2) wr w' ∧ w'.heap[H]? = some (.cells #[.int .i64 here.1, .int .i64 here.2] 96 (0, 0)) ∧
      w'.ownsRow 0 3 1 s9 L.length (L.map (Value.int .i64)) ∧ 2 * blanks (fr.set (ptIx (a, st)) here) + op.length + 2 ≤ M ∧
      V = (if (a, st) = goal then (fr.set (ptIx (a, st)) here, op, true) else visit goal here st (L.drop (j + 1)) (fr.set (ptIx (a, st)) here) (op ++ [(a, st)])) := by
  have hlt : ptIx (a, st) < fr.length := by rw [h.held.plain.len]; exact ptIx_lt ok
  obtain ⟨h1, h2⟩ := h.held.meet (ptIx (a, st)) here hlt
  refine ⟨_, rfl, h1, h2, blk_kept h.hbox h2 (blk_ne h.hbox h.held.from_.blk (by decide)), h2.own h.row (fun g e => ?_), ?_, ?_⟩
  · obtain ⟨c, hc⟩ := own_block h.row e
    exact blk_ne hc h.held.from_.blk (by decide)
  · have h0 : (fr.getD (ptIx (a, st)) (0, 0)).2 = 0 := by
      unfold metV at hm
      simpa using hm
    have := blanks_set (h := here) hlt h0 hh
    have := h.meas
    omega
  · have hv := h.vis
    rw [List.drop_eq_getElem_cons (List.getElem?_eq_some_iff.1 ha).1, (List.getElem?_eq_some_iff.1 ha).2] at hv
    unfold visit at hv
    rw [if_neg (by rw [hm]; simp)] at hv
    exact hv.symm
theorem runS_step {f : Fn} {slot : Int} {goal : Pt} {k : Nat} {fr t : List Pt} {a : Nat} {h2 : Int} {x : Ins} {V : List Pt × List Pt × Bool} (hx : f.code[a]? = some x) (hV : V = visit goal ((a : Int), h2) (afterV x slot h2) (exitsV a x) fr t) :
    runS f slot goal (k + 1) fr (((a : Int), h2) :: t) = (match V with | (fr', _, true) => fr' | (fr', op', false) => runS f slot goal k fr' op') := by
  conv => lhs; unfold runS
  simp only [Int.toNat_natCast, hx, ← hV]
  obtain ⟨a, b, c⟩ := V
  cases c <;> rfl
theorem exits_len (a : Int) (i : Ins) : (exitsV a i).length ≤ 3 := by
  unfold exitsV
  split <;> split <;> split <;> simp
end Go.Proofs.YtokfbagacehbgaaDoor
