import Derived.Test.YtlligclkoecknaaFrInv2
/-! What holds at each pick of a play. -/
namespace Go.Proofs.Ytlligclkoecknaa
open Go.RowKit Go.HeapKit Go.IntWalk

/-- What stays. -/
structure Bs (l : List Nat) (n : Nat) (S : Pl) : Prop where
  ok : Rounds l
  fr : S.frames = (frs l : Nat)
  rd : S.rounds = l.map (fun n : Nat => (n : Int))
  lg : S.A.log.length + n = 2 + toGo l 0
  bn : 1 ≤ S.born
  bm : S.born ≤ baseR l S.round + S.forked
/-- A round that begins, its holder alone. -/
structure AtB (l : List Nat) (r : Nat) (S : Pl) : Prop where
  le : r ≤ l.length
  rd : S.round = r
  fk : S.forked = 0
  dn : S.done = false
  ho : S.holders.length = r
  re : S.reads = full l r
  mem : ∃ mk sl, MemP S.A (frs l) (baseR l r : Nat) 1 mk sl ∧ KF l r 0 [] mk sl
  sc : Sc S.holders S.A.log (-1)
/-- A round: how many are forked, the holder first (with a frame taken or not), then the children. -/
structure Wk (l : List Nat) (r k : Nat) (fk : Bool) (ks : List Kd) (u : Int) (fin : OpF) (n : Nat) (S : Pl) : Prop where
  lt : r < l.length
  rd : S.round = r
  fo : S.forked = k
  dn : S.done = false
  ho : S.holders.length = r
  re : S.reads = full l r
  hu : 0 ≤ u
  hk : k ≤ l.getD r 0
  hf : fk = true → k < l.getD r 0 ∧ S.child = ((baseR l r + k : Nat) : Int)
  al : S.alive = ⟨u, if fk then forkO (frs l) else if k < l.getD r 0 then allocO (frs l) else syncO (frs l) 0, fin⟩ :: ks.map (Kd.act l r)
  mem : ∃ mk sl, MemP S.A (frs l) ((baseR l r + k + (if fk then 1 else 0) : Nat) : Int) ((1 + ks.length : Nat) : Int) mk sl ∧ KF l r k ks mk sl
  sc : Sc S.holders S.A.log (-1)
  hn : n + (if fk then 1 else 0) = 6 * (l.getD r 0 - k) + k + 2 + rem ks + toGo l (r + 1)
  few : ks.length ≤ k
/-- The holder waits. -/
structure Qu (l : List Nat) (r : Nat) (ks : List Kd) (n : Nat) (S : Pl) : Prop where
  lt : r < l.length
  rd : S.round = r
  fo : S.forked = l.getD r 0
  dn : S.done = false
  ho : S.holders.length = r
  re : S.reads = full l r
  al : S.alive = ks.map (Kd.act l r)
  ne : 0 < ks.length
  few : ks.length ≤ l.getD r 0
  mem : ∃ mk sl, MemP S.A (frs l) ((baseR l r + l.getD r 0 : Nat) : Int) ((ks.length : Nat) : Int) mk sl ∧ KF l r (l.getD r 0) ks mk sl
  sc : Sc S.holders S.A.log (-1)
  hn : n = rem ks + l.getD r 0 + 1 + toGo l (r + 1)
/-- The counter is at 0: the 1 comes back next. -/
structure Bk (l : List Nat) (r : Nat) (a : Actr) (n : Nat) (S : Pl) : Prop where
  lt : r < l.length
  rd : S.round = r
  fo : S.forked = l.getD r 0
  dn : S.done = false
  ho : S.holders.length = r
  re : S.reads = full l r
  al : S.alive = [a]
  hu : 0 ≤ a.num
  op : a.op = syncO (frs l) 1 ∨ ∃ j v, j < 8 ∧ a.op = finO (frs l) j 2 v
  mem : ∃ mk sl, MemP S.A (frs l) ((baseR l r + l.getD r 0 : Nat) : Int) 0 mk sl ∧ KF l r (l.getD r 0) [] mk sl
  sc : Sc S.holders S.A.log a.num
  hn : n = 1 + l.getD r 0 + toGo l (r + 1)
/-- Behind the sync: j slots are fetched. -/
structure FtB (l : List Nat) (r j : Nat) (S : Pl) : Prop where
  lt : r < l.length
  rd : S.round = r
  fo : S.forked = l.getD r 0
  dn : S.done = false
  ho : S.holders.length = r + 1
  re : S.reads = full l r ++ [vals100 r j]
  hj : j ≤ l.getD r 0
  mem : ∃ mk sl, MemP S.A (frs l) ((baseR l r + l.getD r 0 : Nat) : Int) 1 mk sl ∧ KF l r (l.getD r 0) [] mk sl
  sc : Sc S.holders S.A.log (-1)
structure Ft (l : List Nat) (r j : Nat) (a : Actr) (n : Nat) (S : Pl) : Prop where
  b : FtB l r j S
  lt : j < l.getD r 0
  al : S.alive = [a]
  hu : 0 ≤ a.num
  op : a.op = fetchO (frs l) j
  hn : n = l.getD r 0 - j + toGo l (r + 1)
structure Dn (l : List Nat) (n : Nat) (S : Pl) : Prop where
  dn : S.done = true
  rd : S.round = l.length
  ho : S.holders.length = l.length
  re : S.reads = full l l.length
  mem : ∃ mk sl, MemP S.A (frs l) ((baseR l l.length : Nat) : Int) 1 mk sl ∧ KF l l.length 0 [] mk sl
  sc : Sc S.holders S.A.log (-1)
  hn : n = 0
/-- The parent's beginning. -/
structure St (l : List Nat) (z : Bool) (n : Nat) (S : Pl) : Prop where
  rd : S.round = 0
  fo : S.forked = 0
  dn : S.done = false
  ho : S.holders = []
  re : S.reads = []
  al : S.alive = [⟨0, if z then allocO (frs l) else startO (frs l) 0, OpF.zero⟩]
  mem : ∃ mk sl, MemP S.A (frs l) (if z then 0 else 1) 1 mk sl ∧ ∀ f, f < frs l → mk f = 0
  sc : Sc S.holders S.A.log (-1)
  hn : n = (if z then 2 else 1) + toGo l 0
inductive Md (l : List Nat) (n : Nat) (S : Pl) : Prop
  | st (z : Bool) (h : St l z n S)
  | wk (r k : Nat) (fk : Bool) (ks : List Kd) (u : Int) (fin : OpF) (h : Wk l r k fk ks u fin n S)
  | qu (r : Nat) (ks : List Kd) (h : Qu l r ks n S)
  | bk (r : Nat) (a : Actr) (h : Bk l r a n S)
  | ft (r j : Nat) (a : Actr) (h : Ft l r j a n S)
  | dn (h : Dn l n S)
structure Inv (l : List Nat) (n : Nat) (S : Pl) : Prop where
  b : Bs l n S
  m : Md l n S

section
variable {l : List Nat} {n r : Nat} {S : Pl}
theorem round_len (h : Bs l n S) : S.rounds.length = l.length := by rw [h.rd]; simp
theorem round_at (h : Bs l n S) (r : Nat) : S.rounds.getD r 0 = (l.getD r 0 : Nat) := by rw [h.rd]; exact getD_map l r
theorem beg_alloc (h : Bs l n S) : OpF.beg 0 0 S.frames 0 0 0 = allocO (frs l) := by
  have := h.ok.frs_le
  rw [h.fr]
  exact beg_ok 0 (frs l) 0 0 0 (by unfold frs; omega) (by omega) (by unfold frs; omega) (by omega)
theorem beg_sync (h : Bs l n S) : OpF.beg 3 0 S.frames 0 0 0 = syncO (frs l) 0 := by
  have := h.ok.frs_le
  rw [h.fr]
  exact beg_ok 3 (frs l) 0 0 0 (by unfold frs; omega) (by omega) (by unfold frs; omega) (by omega)
theorem beg_fork (h : Bs l n S) : OpF.beg 1 0 S.frames 0 0 0 = forkO (frs l) := by
  have := h.ok.frs_le
  rw [h.fr]
  exact beg_ok 1 (frs l) 0 0 0 (by unfold frs; omega) (by omega) (by unfold frs; omega) (by omega)
theorem beg_start (h : Bs l n S) (c : Nat) (hc : c < frs l) : OpF.beg 4 0 S.frames c 0 0 = startO (frs l) c := by
  have := h.ok.frs_le
  rw [h.fr]
  exact beg_ok 4 (frs l) c 0 0 (by unfold frs; omega) (by omega) hc (by omega)
theorem beg_fetch (h : Bs l n S) (j : Nat) (hj : j < 8) : OpF.beg 5 0 S.frames 0 j 0 = fetchO (frs l) j := by
  have := h.ok.frs_le
  rw [h.fr]
  exact beg_ok 5 (frs l) 0 j 0 (by unfold frs; omega) (by omega) (by unfold frs; omega) hj
theorem beg_fin (h : Bs l n S) (j : Nat) (v : Int) (hj : j < 8) : OpF.beg 2 0 S.frames 0 j v = finO (frs l) j 0 v := by
  have := h.ok.frs_le
  rw [h.fr]
  exact beg_ok 2 (frs l) 0 j v (by unfold frs; omega) (by omega) (by unfold frs; omega) hj

/-- A round begins. -/
theorem begins (hb : Bs l (toGo l r) S) (h : AtB l r S) {a : Actr} (ha : S.alive = [a]) (hu : 0 ≤ a.num) : Inv l (toGo l r) (Pl.put 0 a S.nextFork) := by
  obtain ⟨mk, sl, hm, hk⟩ := h.mem
  by_cases hr : r = l.length
  · have e : S.nextFork = ({ S with done := true }, OpF.zero) := by
      unfold Pl.nextFork; rw [if_pos (by rw [h.rd, round_len hb]; exact hr)]
    rw [e]
    subst hr
    exact ⟨⟨hb.ok, hb.fr, hb.rd, hb.lg, hb.bn, hb.bm⟩, .dn ⟨rfl, h.rd, h.ho, h.re, ⟨mk, sl, hm, hk⟩, h.sc, toGo_end l⟩⟩
  · have hlt : r < l.length := by have := h.le; omega
    have e : S.nextFork = (S, if 0 < l.getD r 0 then allocO (frs l) else syncO (frs l) 0) := by
      unfold Pl.nextFork
      rw [if_neg (by rw [h.rd, round_len hb]; exact hr), h.fk, h.rd, round_at hb]
      split
      · rw [if_pos (by omega), beg_alloc hb]
      · rw [if_neg (by omega), beg_sync hb]
    rw [e]
    refine ⟨⟨hb.ok, hb.fr, hb.rd, hb.lg, hb.bn, hb.bm⟩, .wk r 0 false [] a.num a.fin ⟨hlt, h.rd, h.fk, h.dn, h.ho, h.re, hu, Nat.zero_le _, by simp, ?_, ⟨mk, sl, (by simpa using hm : MemP S.A (frs l) _ _ mk sl), hk⟩, h.sc, ?_, by simp⟩⟩
    · simp [Pl.put, ha]
    · have := toGo_succ hlt
      have e2 : rem [] = 0 := rfl
      rw [e2]
      simp only [Bool.false_eq_true, if_false]
      omega
/-- Behind a fetch, or behind the sync. -/
theorem fetches {j : Nat} (hb : Bs l (l.getD r 0 - j + toGo l (r + 1)) S) (h : FtB l r j S) {a : Actr} (ha : S.alive = [a]) (hu : 0 ≤ a.num) : Inv l (l.getD r 0 - j + toGo l (r + 1)) (Pl.put 0 a S.nextFetch) := by
  have hl : (S.reads.getD r []).length = j := by rw [h.re]; simp [full_length, vals100_length]
  have h8 := hb.ok.few r
  obtain ⟨mk, sl, hm, hk⟩ := h.mem
  have hlt := h.lt
  by_cases hj : j < l.getD r 0
  · have e : S.nextFetch = (S, fetchO (frs l) j) := by
      unfold Pl.nextFetch
      rw [h.rd, hl, round_at hb, if_pos (by omega), beg_fetch hb j (by omega)]
    rw [e]
    exact ⟨⟨hb.ok, hb.fr, hb.rd, hb.lg, hb.bn, hb.bm⟩, .ft r j { a with op := fetchO (frs l) j } ⟨⟨h.lt, h.rd, h.fo, h.dn, h.ho, h.re, h.hj, h.mem, h.sc⟩, hj, by simp [Pl.put, ha], hu, rfl, rfl⟩⟩
  · have hj2 : j = l.getD r 0 := by have := h.hj; omega
    have e : S.nextFetch = ({ S with round := r + 1, forked := 0 } : Pl).nextFork := by
      unfold Pl.nextFetch
      rw [h.rd, hl, round_at hb, if_neg (by omega)]
    rw [e]
    have e0 : l.getD r 0 - j + toGo l (r + 1) = toGo l (r + 1) := by omega
    rw [e0] at hb ⊢
    have hbs := base_succ hlt
    refine begins (S := { S with round := r + 1, forked := 0 }) ⟨hb.ok, hb.fr, hb.rd, hb.lg, hb.bn, ?_⟩ ⟨by omega, rfl, rfl, h.dn, h.ho, ?_, ⟨mk, sl, ?_, ?_⟩, h.sc⟩ ha hu
    · have := hb.bm
      rw [h.rd, h.fo] at this
      show S.born ≤ baseR l (r + 1) + 0
      omega
    · rw [h.re, hj2, full_succ]
    · rw [hbs]; exact hm
    · refine ⟨by simp, by simp, hk.bit, fun f hf => ?_, by simp⟩
      rw [hk.mark f hf, hbs]
      simp
end
end Go.Proofs.Ytlligclkoecknaa
