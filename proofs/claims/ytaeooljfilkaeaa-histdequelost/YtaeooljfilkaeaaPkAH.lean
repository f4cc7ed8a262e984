import Derived.Test.YtaeooljfilkaeaaPkAG
/-! The deque while several go on it, plainly: what holds of the memory, of a thief. -/
namespace Go.Proofs.Ytaeooljfilkaeaa
set_option linter.unusedVariables false
set_option maxRecDepth 20000
set_option linter.unusedSimpArgs false
open Go.RowKit Go.HeapKit Go.IntWalk Go.PlainOps

/-- A buffer: its place, its capacity, and up to which index it holds what was pushed. -/
structure Bf where
  a : Nat
  c : Nat
  hi : Nat
/-- A buffer in memory: it holds what was pushed, from TOP on. -/
structure BfM (m : Nat → Int) (len most : Nat) (V : List Int) (top : Nat) (x : Bf) : Prop where
  cap : m x.a = x.c
  a3 : 3 ≤ x.a
  fit : x.a + x.c < len
  c1 : 1 ≤ x.c
  cm : x.c ≤ most
  hv : x.hi ≤ V.length
  elem : ∀ i, top ≤ i → i < x.hi → m (x.a + 1 + i % x.c) = V.getD i 0
/-- Two buffers lie apart. -/
def Apart (x y : Bf) : Prop := x.a + x.c < y.a ∨ y.a + y.c < x.a
/-- The memory: V holds what was pushed, by its index; V's length is the bottom as it should be told. -/
structure Mm (m : Nat → Int) (len most : Nat) (V : List Int) (top : Nat) (bot : Int) (bs : List Bf) (cur : Bf) : Prop where
  t : m 0 = top
  b : m 1 = bot
  u : m 2 = cur.a
  l3 : 3 ≤ len
  all : ∀ x ∈ bs, BfM m len most V top x
  apart : bs.Pairwise Apart
  cin : cur ∈ bs
  chi : cur.hi = V.length
  tv : top ≤ V.length
  bv : bot ≤ V.length
  room : V.length ≤ top + cur.c
  sz : len ≤ 1048576
  m1 : most ≤ 4096
  big : V.length ≤ 1125899906842624
/-- A thief's machine. -/
structure ThT (o : OpS) (top tt : Nat) : Prop where
  base : o.base = 0
  t : o.t = tt
  le : tt ≤ top
def Thf (o : OpS) (V : List Int) (top : Nat) (bs : List Bf) : Prop :=
  o = OpS.zero ∨ o.at_ = 1 ∨ (o.at_ = 22 ∧ o.base = 0)
  ∨ (o.at_ = 23 ∧ ∃ tt, ThT o top tt)
  ∨ (o.at_ = 24 ∧ ∃ tt, ThT o top tt ∧ (tt = top → tt < V.length))
  ∨ (o.at_ = 25 ∧ ∃ tt, ThT o top tt ∧ ∃ x ∈ bs, o.a = x.a ∧ (tt = top → tt < V.length ∧ tt < x.hi))
  ∨ (o.at_ = 26 ∧ ∃ tt, ThT o top tt ∧ ∃ x ∈ bs, o.a = x.a ∧ o.c = x.c ∧ (tt = top → tt < V.length ∧ tt < x.hi))
  ∨ (o.at_ = 27 ∧ ∃ tt, ThT o top tt ∧ (tt = top → tt < V.length ∧ o.v = V.getD tt 0))
/-- What may become of the memory while a thief stands still. -/
structure Fr (V V' : List Int) (top top' : Nat) (bs bs' : List Bf) : Prop where
  le : top ≤ top'
  val : top' = top → top < V.length → top < V'.length ∧ V'.getD top 0 = V.getD top 0
  buf : ∀ x ∈ bs, ∃ x' ∈ bs', x'.a = x.a ∧ x'.c = x.c ∧ (top' = top → top < V.length → top < x.hi → top < x'.hi)
theorem ThT.frame {o : OpS} {top top' tt : Nat} (h : ThT o top tt) (hle : top ≤ top') : ThT o top' tt := ⟨h.base, h.t, by have := h.le; omega⟩
theorem Thf.frame {o : OpS} {V V' : List Int} {top top' : Nat} {bs bs' : List Bf} (h : Thf o V top bs) (f : Fr V V' top top' bs bs') : Thf o V' top' bs' := by
  have hle := f.le
  have key : ∀ {tt}, tt ≤ top → tt = top' → tt = top ∧ top' = top := fun h1 h2 => ⟨by omega, by omega⟩
  rcases h with h | h | h | ⟨h, tt, h1⟩ | ⟨h, tt, h1, h2⟩ | ⟨h, tt, h1, x, hx, e1, h2⟩ | ⟨h, tt, h1, x, hx, e1, e2, h2⟩ | ⟨h, tt, h1, h2⟩
  · exact .inl h
  · exact .inr (.inl h)
  · exact .inr (.inr (.inl h))
  · exact .inr (.inr (.inr (.inl ⟨h, tt, h1.frame hle⟩)))
  · refine .inr (.inr (.inr (.inr (.inl ⟨h, tt, h1.frame hle, fun e => ?_⟩))))
    obtain ⟨e1, e2⟩ := key h1.le e
    subst e1
    exact (f.val e2 (h2 rfl)).1
  · obtain ⟨x', hx', y1, y2, y3⟩ := f.buf x hx
    refine .inr (.inr (.inr (.inr (.inr (.inl ⟨h, tt, h1.frame hle, x', hx', by rw [y1]; exact e1, fun e => ?_⟩)))))
    obtain ⟨z1, z2⟩ := key h1.le e
    subst z1
    exact ⟨(f.val z2 (h2 rfl).1).1, y3 z2 (h2 rfl).1 (h2 rfl).2⟩
  · obtain ⟨x', hx', y1, y2, y3⟩ := f.buf x hx
    refine .inr (.inr (.inr (.inr (.inr (.inr (.inl ⟨h, tt, h1.frame hle, x', hx', by rw [y1]; exact e1, by rw [y2]; exact e2, fun e => ?_⟩))))))
    obtain ⟨z1, z2⟩ := key h1.le e
    subst z1
    exact ⟨(f.val z2 (h2 rfl).1).1, y3 z2 (h2 rfl).1 (h2 rfl).2⟩
  · refine .inr (.inr (.inr (.inr (.inr (.inr (.inr ⟨h, tt, h1.frame hle, fun e => ?_⟩))))))
    obtain ⟨z1, z2⟩ := key h1.le e
    subst z1
    have := f.val z2 (h2 rfl).1
    exact ⟨this.1, by rw [this.2]; exact (h2 rfl).2⟩
/-- A successful CAS of TOP. -/
theorem Fr.cas (V : List Int) (top : Nat) (bs : List Bf) : Fr V V top (top + 1) bs bs := ⟨by omega, fun e => by omega, fun x hx => ⟨x, hx, rfl, rfl, fun e => by omega⟩⟩
theorem Fr.refl (V : List Int) (top : Nat) (bs : List Bf) : Fr V V top top bs bs := ⟨Nat.le_refl _, fun _ h => ⟨h, rfl⟩, fun x hx => ⟨x, hx, rfl, rfl, fun _ _ h => h⟩⟩
/-- One more was pushed. -/
theorem Fr.push (V : List Int) (v : Int) (top : Nat) {bs bs' : List Bf} (hb : ∀ x ∈ bs, ∃ x' ∈ bs', x'.a = x.a ∧ x'.c = x.c ∧ x.hi ≤ x'.hi) : Fr V (V ++ [v]) top top bs bs' := by
  refine ⟨Nat.le_refl _, fun _ h => ⟨by simp; omega, ?_⟩, fun x hx => ?_⟩
  · simp [List.getD, List.getElem?_append_left h]
  · obtain ⟨x', h1, h2, h3, h4⟩ := hb x hx
    exact ⟨x', h1, h2, h3, fun _ _ h => by omega⟩
/-- The last one was popped while there was another ahead of it. -/
def cutB (n : Nat) (x : Bf) : Bf := ⟨x.a, x.c, min x.hi n⟩
theorem Fr.pop (V : List Int) (top n : Nat) (bs : List Bf) (hn : top < n) (hl : n ≤ V.length) : Fr V (V.take n) top top bs (bs.map (cutB n)) := by
  refine ⟨Nat.le_refl _, fun _ h => ⟨by rw [List.length_take]; omega, ?_⟩, fun x hx => ⟨cutB n x, List.mem_map.2 ⟨x, hx, rfl⟩, rfl, rfl, fun _ _ h => ?_⟩⟩
  · simp [List.getD, List.getElem?_take, hn]
  · show top < min x.hi n; omega
theorem BfM.top {m : Nat → Int} {len most : Nat} {V : List Int} {top top' : Nat} {x : Bf} (h : BfM m len most V top x) (hle : top ≤ top') : BfM m len most V top' x :=
  ⟨h.cap, h.a3, h.fit, h.c1, h.cm, h.hv, fun i h1 h2 => h.elem i (by omega) h2⟩
theorem BfM.mem {m m' : Nat → Int} {len len' most : Nat} {V : List Int} {top : Nat} {x : Bf} (h : BfM m len most V top x) (hm : ∀ k, x.a ≤ k → k ≤ x.a + x.c → m' k = m k) (hl : len ≤ len') : BfM m' len' most V top x := by
  refine ⟨by rw [hm _ (Nat.le_refl _) (by omega)]; exact h.cap, h.a3, by have := h.fit; omega, h.c1, h.cm, h.hv, fun i h1 h2 => ?_⟩
  have hc := h.c1
  have := Nat.mod_lt i (show 0 < x.c by omega)
  rw [hm _ (by omega) (by omega)]
  exact h.elem i h1 h2
/-- TOP is one more. -/
theorem Mm.cas {m : Nat → Int} {len most : Nat} {V : List Int} {top : Nat} {bot : Int} {bs : List Bf} {cur : Bf} (h : Mm m len most V top bot bs cur) (hlt : top < V.length) : Mm (fun k => if k = 0 then ((top + 1 : Nat) : Int) else m k) len most V (top + 1) bot bs cur := by
  refine ⟨rfl, ?_, ?_, h.l3, fun x hx => ?_, h.apart, h.cin, h.chi, hlt, h.bv, by have := h.room; omega, h.sz, h.m1, h.big⟩
  · show (if 1 = 0 then _ else m 1) = _; rw [if_neg (by omega)]; exact h.b
  · show (if 2 = 0 then _ else m 2) = _; rw [if_neg (by omega)]; exact h.u
  · refine ((h.all x hx).top (by omega)).mem (fun k h1 h2 => ?_) (Nat.le_refl _)
    have := (h.all x hx).a3
    rw [if_neg (by omega)]
end Go.Proofs.Ytaeooljfilkaeaa
/-! A thief's steps, plainly. -/
namespace Go.Proofs.Ytaeooljfilkaeaa
set_option linter.unusedVariables false
set_option maxRecDepth 20000
set_option linter.unusedSimpArgs false
open Go.RowKit Go.HeapKit Go.IntWalk Go.PlainOps

theorem did_loadG {A : Ar} {k : Nat} (hk : k < A.cells.length) : A.did 0 (k : Int) 0 0 = (⟨A.val k, true, 0⟩, A.noted ⟨0, 0, k, A.val k, 0, true⟩) := by
  have hh : A.has (k : Int) = true := by simp [Ar.has]; omega
  simp [Ar.did, hh]
theorem did_storeG {A : Ar} {k : Nat} {v : Int} (hk : k < A.cells.length) : A.did 1 (k : Int) v 0 = (⟨0, true, 0⟩, (A.put k v).noted ⟨0, 1, k, v, 0, true⟩) := by
  have hh : A.has (k : Int) = true := by simp [Ar.has]; omega
  simp [Ar.did, hh]
theorem did_casG {A : Ar} {k : Nat} {x v : Int} (hk : k < A.cells.length) (hx : A.val k = x) : A.did 2 (k : Int) x v = (⟨0, true, 0⟩, (A.put k v).noted ⟨0, 2, k, x, v, true⟩) := by
  have hh : A.has (k : Int) = true := by simp [Ar.has]; omega
  subst hx
  simp [Ar.did, hh]
theorem did_casN {A : Ar} {k : Nat} {x v : Int} (hk : k < A.cells.length) (hx : ¬ A.val k = x) : A.did 2 (k : Int) x v = (⟨0, false, 0⟩, A.noted ⟨0, 2, k, x, v, false⟩) := by
  have hh : A.has (k : Int) = true := by simp [Ar.has]; omega
  simp [Ar.did, hh, hx]
theorem did_moreG {A : Ar} {n : Nat} (hn : 0 < n) (hf : A.cells.length + n ≤ A.size) : A.did 4 0 (n : Int) 0 = (⟨A.cells.length, true, 0⟩, (A.more n).noted ⟨0, 4, A.cells.length, n, 0, true⟩) := by
  have h3 : ¬ (n : Int) < 1 := by omega
  have h4 : ¬ (A.size : Int) - A.cells.length < n := by omega
  simp [Ar.did, h3, h4]
theorem notedV (A : Ar) (x : Acc) (k : Nat) : (A.noted x).val k = A.val k := by unfold Ar.noted Ar.val; split <;> rfl
theorem notedL (A : Ar) (x : Acc) : (A.noted x).cells.length = A.cells.length := by unfold Ar.noted; split <;> rfl
theorem notedS (A : Ar) (x : Acc) : (A.noted x).size = A.size := by unfold Ar.noted; split <;> rfl
theorem stLoad {o : OpS} {A : Ar} {k : Nat} {x y : Int} (h0 : ¬ o.at_ = 0) (h1 : ¬ o.at_ = 1) (hw : o.want = (0, y, 0, 0)) (hy : y = k) (hk : k < A.cells.length) (hx : A.val k = x) : o.step A = (o.went x true, A.noted ⟨0, 0, k, x, 0, true⟩) := by
  subst hy
  rw [step_by h0 h1 hw (did_loadG hk), hx]
theorem stStore {o : OpS} {A : Ar} {k : Nat} {v y : Int} (h0 : ¬ o.at_ = 0) (h1 : ¬ o.at_ = 1) (hw : o.want = (1, y, v, 0)) (hy : y = k) (hk : k < A.cells.length) : o.step A = (o.went 0 true, (A.put k v).noted ⟨0, 1, k, v, 0, true⟩) := by
  subst hy
  rw [step_by h0 h1 hw (did_storeG hk)]
theorem at_pt {o : OpS} {q : Int} (h : o.at_ = q) (h0 : ¬ q = 0) (h1 : ¬ q = 1) : ¬ o.at_ = 0 ∧ ¬ o.at_ = 1 := by omega
/-- What a thief's step does: it reads alone, or it takes the first one. -/
inductive TStep (V : List Int) (top : Nat) (bs : List Bf) (o : OpS) (A : Ar) : Prop
  | read (x : Acc) : (o.step A).2 = A.noted x → Thf (o.step A).1 V top bs → TStep V top bs o A
  | take : o.at_ = 27 → top < V.length → o.step A = (OpS.ended 4 (V.getD top 0), (A.put 0 ((top + 1 : Nat) : Int)).noted ⟨0, 2, 0, top, ((top + 1 : Nat) : Int), true⟩) → TStep V top bs o A
theorem thief_step {V : List Int} {top : Nat} {bot : Int} {bs : List Bf} {cur : Bf} {most : Nat} {o : OpS} {A : Ar} (hM : Mm A.val A.cells.length most V top bot bs cur) (h : Thf o V top bs) (hz : ¬ o = OpS.zero) (h1 : ¬ o.at_ = 1) : TStep V top bs o A := by
  have l3 := hM.l3
  have w0 : wrap64 (0 : Int) = ((0 : Nat) : Int) := wr0
  rcases h with h | h | ⟨h, hb⟩ | ⟨h, tt, ht⟩ | ⟨h, tt, ht, h2⟩ | ⟨h, tt, ht, x, hx, e1, h2⟩ | ⟨h, tt, ht, x, hx, e1, e2, h2⟩ | ⟨h, tt, ht, h2⟩
  · exact absurd h hz
  · exact absurd h h1
  · have hs := stLoad (o := o) (A := A) (k := 0) (y := wrap64 o.base) (at_pt h (by omega) (by omega)).1 h1 (by unfold OpS.want; simp [h]) (by rw [hb]; exact wr0) (by omega) hM.t
    refine .read _ (by rw [hs]) ?_
    rw [hs]
    have hw : o.went (top : Int) true = { o with t := (top : Int), at_ := 23 } := by unfold OpS.went; simp [h]
    rw [hw]
    exact .inr (.inr (.inr (.inl ⟨rfl, top, ⟨hb, rfl, Nat.le_refl _⟩⟩)))
  · have hs := stLoad (o := o) (A := A) (k := 1) (y := wrap64 (o.base + 1)) (at_pt h (by omega) (by omega)).1 h1 (by unfold OpS.want; simp [h]) (by rw [ht.base]; exact wr1) (by omega) hM.b
    refine .read _ (by rw [hs]) ?_
    rw [hs]
    have hw : o.went bot true = if bot ≤ o.t then OpS.ended 5 0 else { o with b := bot, at_ := 24 } := by unfold OpS.went; simp [h]
    rw [hw]
    split
    · exact .inr (.inl rfl)
    · rename_i hlt
      rw [ht.t] at hlt
      have hbv := hM.bv
      exact .inr (.inr (.inr (.inr (.inl ⟨rfl, tt, ⟨ht.base, ht.t, ht.le⟩, fun _ => by omega⟩))))
  · have hs := stLoad (o := o) (A := A) (k := 2) (y := wrap64 (o.base + 2)) (at_pt h (by omega) (by omega)).1 h1 (by unfold OpS.want; simp [h]) (by rw [ht.base]; exact wr2) (by omega) hM.u
    refine .read _ (by rw [hs]) ?_
    rw [hs]
    have hw : o.went (cur.a : Int) true = { o with a := (cur.a : Int), at_ := 25 } := by unfold OpS.went; simp [h]
    rw [hw]
    exact .inr (.inr (.inr (.inr (.inr (.inl ⟨rfl, tt, ⟨ht.base, ht.t, ht.le⟩, cur, hM.cin, rfl, fun e => ⟨h2 e, by rw [hM.chi]; exact h2 e⟩⟩)))))
  · have hx' := hM.all x hx
    have hs := stLoad (o := o) (A := A) (k := x.a) (y := o.a) (at_pt h (by omega) (by omega)).1 h1 (by unfold OpS.want; simp [h]) e1 (by have := hx'.fit; omega) hx'.cap
    refine .read _ (by rw [hs]) ?_
    rw [hs]
    have hw : o.went (x.c : Int) true = { o with c := (x.c : Int), at_ := 26 } := by
      have h3 := hx'.c1
      have : o.went (x.c : Int) true = flatS { o with c := (x.c : Int) } 26 := by unfold OpS.went; simp [h]
      rw [this]
      unfold flatS
      rw [if_neg (by show ¬ (x.c : Int) < 1; omega)]
    rw [hw]
    exact .inr (.inr (.inr (.inr (.inr (.inr (.inl ⟨rfl, tt, ⟨ht.base, ht.t, ht.le⟩, x, hx, e1, rfl, h2⟩))))))
  · have hx' := hM.all x hx
    have hsz := hM.sz
    have hfit := hx'.fit
    have hp : placeV o.a o.c o.t = ((x.a + 1 + tt % x.c : Nat) : Int) := by rw [e1, e2, ht.t]; exact place_nat x.a x.c tt (by omega) hx'.c1
    have hml := Nat.mod_lt tt (show 0 < x.c by have := hx'.c1; omega)
    have hs := stLoad (o := o) (A := A) (k := x.a + 1 + tt % x.c) (y := placeV o.a o.c o.t) (at_pt h (by omega) (by omega)).1 h1 (by unfold OpS.want; simp [h]) hp (by omega) rfl
    refine .read _ (by rw [hs]) ?_
    rw [hs]
    have hw : ∀ z, o.went z true = { o with v := z, at_ := 27 } := fun z => by unfold OpS.went; simp [h]
    rw [hw]
    refine .inr (.inr (.inr (.inr (.inr (.inr (.inr ⟨rfl, tt, ⟨ht.base, ht.t, ht.le⟩, fun e => ⟨(h2 e).1, ?_⟩⟩))))))
    exact hx'.elem tt (by omega) (h2 e).2
  · by_cases e : tt = top
    · subst e
      obtain ⟨h3, h4⟩ := h2 rfl
      have hbig := hM.big
      have hs : o.step A = (o.went 0 true, (A.put 0 ((tt + 1 : Nat) : Int)).noted ⟨0, 2, 0, tt, ((tt + 1 : Nat) : Int), true⟩) := by
        refine step_by (at_pt h (by omega) (by omega)).1 h1 (k := 2) (y := ((0 : Nat) : Int)) (z := (tt : Int)) (u := ((tt + 1 : Nat) : Int)) ?_ (did_casG (by omega) hM.t)
        unfold OpS.want
        simp only [h, ht.t, ht.base]
        rw [wrap64_in ((tt : Int) + 1) (by omega), w0]
        simp
      refine .take h h3 ?_
      rw [hs]
      have hw : o.went 0 true = OpS.ended 4 o.v := by unfold OpS.went; simp [h, decidedS]
      rw [hw, h4]
    · have hs : o.step A = (o.went 0 false, A.noted ⟨0, 2, 0, tt, wrap64 ((tt : Int) + 1), false⟩) := by
        refine step_by (at_pt h (by omega) (by omega)).1 h1 (k := 2) (y := ((0 : Nat) : Int)) (z := (tt : Int)) (u := wrap64 ((tt : Int) + 1)) ?_ (did_casN (by omega) (by rw [hM.t]; omega))
        unfold OpS.want
        simp only [h, ht.t, ht.base]
        rw [w0]
        simp
      refine .read _ (by rw [hs]) ?_
      rw [hs]
      have hw : o.went 0 false = OpS.ended 6 0 := by unfold OpS.went; simp [h, decidedS]
      rw [hw]
      exact .inr (.inl rfl)
end Go.Proofs.Ytaeooljfilkaeaa
/-! Steals, pops and pushes that do not grow. -/
namespace Go.Proofs.Ytaeooljfilkaeaa
open Go.RowKit Go.HeapKit Go.IntWalk Go.PlainOps

section
variable {A : Ar} {most t a c : Nat} {l : List Int}
theorem went_16a {o : OpS} {x : Int} {ok : Bool} (h : o.at_ = 16) (hx : o.b < x) : o.went x ok = { o with t := x, at_ := 17 } := by unfold OpS.went; rw [h]; simp [hx]
theorem went_16b {o : OpS} {x : Int} {ok : Bool} (h : o.at_ = 16) (hx : ¬ o.b < x) : o.went x ok = { o with t := x, at_ := 18 } := by unfold OpS.went; rw [h]; simp [hx]
theorem went_19a {o : OpS} {x : Int} {ok : Bool} (h : o.at_ = 19) (hx : o.t < o.b) : o.went x ok = OpS.ended 4 x := by unfold OpS.went; rw [h]; simp [hx]
theorem went_19b {o : OpS} {x : Int} {ok : Bool} (h : o.at_ = 19) (hx : ¬ o.t < o.b) : o.went x ok = { o with v := x, at_ := 20 } := by unfold OpS.went; rw [h]; simp [hx]
theorem went_23b {o : OpS} {x : Int} {ok : Bool} (h : o.at_ = 23) (hx : ¬ x ≤ o.t) : o.went x ok = { o with b := x, at_ := 24 } := by unfold OpS.went; rw [h]; simp [hx]
theorem flat_c {o : OpS} {n : Int} (h : 1 ≤ o.c) : flatS o n = { o with at_ := n } := if_neg (by omega)
theorem steal_seq {x : Int} (h : Dq A most (x :: l) t a c) (hs : A.cells.length ≤ A.size) : ∃ A', Goes (OpS.mk 0 most 22 0 0 0 0 0 0 0 0 0 0) A 6 (OpS.ended 4 x) A' ∧ Dq A' most l (t + 1) a c ∧ A'.cells.length = A.cells.length ∧ A'.size = A.size := by
  have h2 := h.lt2
  have hac := h.ac hs
  have hc1 := h.c1
  have hcm := h.cm
  have hm1 := h.m1
  have hbig := h.big
  have hlen := h.len
  have hfit := h.fit
  have ha3 := h.a3
  have hmod := Nat.mod_lt t (show 0 < c by omega)
  have he := h.elem 0 (by simp)
  simp at he hlen hbig
  refine ⟨A.put 0 ((t + 1 : Nat) : Int), ?_, ?_, put_cells, rfl⟩
  · skip
    refine goLoad (o := OpS.mk 0 most 22 0 0 0 0 0 0 0 0 0 0) (o1 := OpS.mk 0 most 23 0 0 t 0 0 0 0 0 0 0) (k := 0) ⟨.inr ⟨by simp, by simp⟩, by simp, by simp⟩ h.on h.log (by simp) (by simp) rfl wr0 (by omega) h.top rfl ?_
    refine goLoad (o := OpS.mk 0 most 23 0 0 t 0 0 0 0 0 0 0) (o1 := OpS.mk 0 most 24 0 0 t ((t + (x :: l).length : Nat) : Int) 0 0 0 0 0 0) (k := 1) ⟨.inr ⟨by simp, by simp⟩, by simp, by simp⟩ h.on h.log (by simp) (by simp) rfl wr1 (by omega) h.bot (went_23b rfl (by simp; omega)) ?_
    refine goLoad (o := OpS.mk 0 most 24 0 0 t ((t + (x :: l).length : Nat) : Int) 0 0 0 0 0 0) (o1 := OpS.mk 0 most 25 0 0 t ((t + (x :: l).length : Nat) : Int) a 0 0 0 0 0) (k := 2) ⟨.inr ⟨by simp, by simp⟩, by simp, by simp⟩ h.on h.log (by simp) (by simp) rfl wr2 (by omega) h.buf rfl ?_
    refine goLoad (o := OpS.mk 0 most 25 0 0 t ((t + (x :: l).length : Nat) : Int) a 0 0 0 0 0) (o1 := OpS.mk 0 most 26 0 0 t ((t + (x :: l).length : Nat) : Int) a c 0 0 0 0) (k := a) ⟨.inr ⟨by simp, by simp⟩, by simp, by simp⟩ h.on h.log (by simp) (by simp) rfl rfl (by omega) h.cap (flat_c (by simp; omega)) ?_
    refine goLoad (o := OpS.mk 0 most 26 0 0 t ((t + (x :: l).length : Nat) : Int) a c 0 0 0 0) (o1 := OpS.mk 0 most 27 0 x t ((t + (x :: l).length : Nat) : Int) a c 0 0 0 0) (k := (a + 1 + t % c)) ⟨.inr ⟨by simp, by simp⟩, by simp; omega, by simp⟩ h.on h.log (by simp) (by simp) rfl (place_nat a c t hac hc1) (by omega) he rfl ?_
    have e1 : wrap64 ((t : Int) + 1) = ((t + 1 : Nat) : Int) := by rw [wrap64_in _ (by omega)]; omega
    refine goCas (o := OpS.mk 0 most 27 0 x t ((t + (x :: l).length : Nat) : Int) a c 0 0 0 0) (o1 := OpS.ended 4 x) (k := 0) (x := t) (v := ((t + 1 : Nat) : Int)) ⟨.inr ⟨by simp, by simp⟩, by simp; omega, by simp⟩ h.on h.log (by simp) (by simp) (by rw [← e1]; rfl) wr0 (by omega) h.top rfl (.done _ _)
  · have hv : ∀ j, ¬ j = 0 → (A.put 0 ((t + 1 : Nat) : Int)).val j = A.val j := fun j hj => by rw [put_val (by omega), if_neg hj]
    refine ⟨h.on, h.log, hm1, by rw [put_val (by omega), if_pos rfl], by rw [hv 1 (by omega), h.bot]; simp; omega, by rw [hv 2 (by omega), h.buf], by rw [hv a (by omega), h.cap], ha3, by rw [put_cells]; exact hfit, hc1, hcm, by omega, fun i hi => ?_, by rw [put_cells]; exact h.room, h.sz, by omega⟩
    rw [hv _ (by omega)]
    have := h.elem (i + 1) (by simp; omega)
    rw [show t + 1 + i = t + (i + 1) by omega, this]
    simp
theorem pop_none (h : Dq A most [] t a c) (hs : A.cells.length ≤ A.size) : ∃ A', Goes (OpS.mk 0 most 13 0 0 0 0 0 0 0 0 0 0) A 5 (OpS.ended 5 0) A' ∧ Dq A' most [] t a c ∧ A'.cells.length = A.cells.length ∧ A'.size = A.size := by
  have h2 := h.lt2
  have hac := h.ac hs
  have hc1 := h.c1
  have hcm := h.cm
  have hm1 := h.m1
  have hbig := h.big
  have hlen := h.len
  have hfit := h.fit
  have ha3 := h.a3
  simp at hbig
  have eb : wrap64 (((t + ([] : List Int).length : Nat) : Int) - 1) = (t : Int) - 1 := by rw [wrap64_in _ (by simp; omega)]; simp
  refine ⟨(A.put 1 ((t : Int) - 1)).put 1 t, ?_, ?_, by rw [put_cells, put_cells], rfl⟩
  · skip
    refine goLoad (o := OpS.mk 0 most 13 0 0 0 0 0 0 0 0 0 0) (o1 := OpS.mk 0 most 14 0 0 0 ((t : Int) - 1) 0 0 0 0 0 0) (k := 1) ⟨.inr ⟨by simp, by simp⟩, by simp, by simp⟩ h.on h.log (by simp) (by simp) rfl wr1 (by omega) h.bot (by show OpS.mk _ _ _ _ _ _ (wrap64 _) _ _ _ _ _ _ = _; rw [eb]) ?_
    refine goLoad (o := OpS.mk 0 most 14 0 0 0 ((t : Int) - 1) 0 0 0 0 0 0) (o1 := OpS.mk 0 most 15 0 0 0 ((t : Int) - 1) a 0 0 0 0 0) (k := 2) ⟨.inr ⟨by simp, by simp⟩, by simp, by simp⟩ h.on h.log (by simp) (by simp) rfl wr2 (by omega) h.buf rfl ?_
    refine goStore (o := OpS.mk 0 most 15 0 0 0 ((t : Int) - 1) a 0 0 0 0 0) (o1 := OpS.mk 0 most 16 0 0 0 ((t : Int) - 1) a 0 0 0 0 0) (k := 1) (v := ((t : Int) - 1)) ⟨.inr ⟨by simp, by simp⟩, by simp, by simp⟩ h.on h.log (by simp) (by simp) rfl wr1 (by omega) rfl ?_
    refine goLoad (o := OpS.mk 0 most 16 0 0 0 ((t : Int) - 1) a 0 0 0 0 0) (o1 := OpS.mk 0 most 17 0 0 t ((t : Int) - 1) a 0 0 0 0 0) (k := 0) (x := t) ⟨.inr ⟨by simp, by simp⟩, by simp, by simp⟩ (show (A.put 1 _).on = false from h.on) (show (A.put 1 _).log = [] from h.log) (by simp) (by simp) rfl wr0 (by rw [put_cells]; omega) (by rw [put_val (by omega), if_neg (by omega)]; exact h.top) (went_16a rfl (by simp; omega)) ?_
    refine goStore (o := OpS.mk 0 most 17 0 0 t ((t : Int) - 1) a 0 0 0 0 0) (o1 := OpS.ended 5 0) (k := 1) (v := t) ⟨.inr ⟨by simp, by simp⟩, by simp, by simp⟩ (show (A.put 1 _).on = false from h.on) (show (A.put 1 _).log = [] from h.log) (by simp) (by simp) rfl wr1 (by rw [put_cells]; omega) rfl (.done _ _)
  · have hv : ∀ j, ((A.put 1 ((t : Int) - 1)).put 1 t).val j = A.val j := fun j => by
      rw [put_val (by rw [put_cells]; omega), put_val (by omega)]
      by_cases hj : j = 1
      · subst hj; rw [if_pos rfl, h.bot]; simp
      · rw [if_neg hj, if_neg hj]
    exact ⟨h.on, h.log, hm1, by rw [hv, h.top], by rw [hv, h.bot], by rw [hv, h.buf], by rw [hv, h.cap], ha3, by rw [put_cells, put_cells]; exact hfit, hc1, hcm, by simp, fun i hi => by simp at hi, by rw [put_cells, put_cells]; exact h.room, h.sz, by simpa using hbig⟩
theorem pop_one {x : Int} (h : Dq A most [x] t a c) (hs : A.cells.length ≤ A.size) : ∃ A', Goes (OpS.mk 0 most 13 0 0 0 0 0 0 0 0 0 0) A 8 (OpS.ended 4 x) A' ∧ Dq A' most [] (t + 1) a c ∧ A'.cells.length = A.cells.length ∧ A'.size = A.size := by
  have h2 := h.lt2
  have hac := h.ac hs
  have hc1 := h.c1
  have hcm := h.cm
  have hm1 := h.m1
  have hbig := h.big
  have hlen := h.len
  have hfit := h.fit
  have ha3 := h.a3
  have hmod := Nat.mod_lt t (show 0 < c by omega)
  have he := h.elem 0 (by simp)
  simp at he hbig
  have eb : wrap64 (((t + [x].length : Nat) : Int) - 1) = (t : Int) := by rw [wrap64_in _ (by simp; omega)]; simp
  have e1 : wrap64 ((t : Int) + 1) = ((t + 1 : Nat) : Int) := by rw [wrap64_in _ (by omega)]; omega
  refine ⟨((A.put 1 t).put 0 ((t + 1 : Nat) : Int)).put 1 ((t + 1 : Nat) : Int), ?_, ?_, by rw [put_cells, put_cells, put_cells], rfl⟩
  · have hv1 : ∀ j, ¬ j = 1 → (A.put 1 t).val j = A.val j := fun j hj => by rw [put_val (by omega), if_neg hj]
    refine goLoad (o := OpS.mk 0 most 13 0 0 0 0 0 0 0 0 0 0) (o1 := OpS.mk 0 most 14 0 0 0 t 0 0 0 0 0 0) (k := 1) ⟨.inr ⟨by simp, by simp⟩, by simp, by simp⟩ h.on h.log (by simp) (by simp) rfl wr1 (by omega) h.bot (by show OpS.mk _ _ _ _ _ _ (wrap64 _) _ _ _ _ _ _ = _; rw [eb]) ?_
    refine goLoad (o := OpS.mk 0 most 14 0 0 0 t 0 0 0 0 0 0) (o1 := OpS.mk 0 most 15 0 0 0 t a 0 0 0 0 0) (k := 2) ⟨.inr ⟨by simp, by simp⟩, by simp, by simp⟩ h.on h.log (by simp) (by simp) rfl wr2 (by omega) h.buf rfl ?_
    refine goStore (o := OpS.mk 0 most 15 0 0 0 t a 0 0 0 0 0) (o1 := OpS.mk 0 most 16 0 0 0 t a 0 0 0 0 0) (k := 1) (v := t) ⟨.inr ⟨by simp, by simp⟩, by simp, by simp⟩ h.on h.log (by simp) (by simp) rfl wr1 (by omega) rfl ?_
    refine goLoad (o := OpS.mk 0 most 16 0 0 0 t a 0 0 0 0 0) (o1 := OpS.mk 0 most 18 0 0 t t a 0 0 0 0 0) (k := 0) (x := t) ⟨.inr ⟨by simp, by simp⟩, by simp, by simp⟩ (show (A.put 1 _).on = false from h.on) (show (A.put 1 _).log = [] from h.log) (by simp) (by simp) rfl wr0 (by rw [put_cells]; omega) (by rw [hv1 0 (by omega)]; exact h.top) (went_16b rfl (by simp)) ?_
    refine goLoad (o := OpS.mk 0 most 18 0 0 t t a 0 0 0 0 0) (o1 := OpS.mk 0 most 19 0 0 t t a c 0 0 0 0) (k := a) (x := c) ⟨.inr ⟨by simp, by simp⟩, by simp, by simp⟩ (show (A.put 1 _).on = false from h.on) (show (A.put 1 _).log = [] from h.log) (by simp) (by simp) rfl rfl (by rw [put_cells]; omega) (by rw [hv1 a (by omega)]; exact h.cap) (flat_c (by simp; omega)) ?_
    refine goLoad (o := OpS.mk 0 most 19 0 0 t t a c 0 0 0 0) (o1 := OpS.mk 0 most 20 0 x t t a c 0 0 0 0) (k := (a + 1 + t % c)) (x := x) ⟨.inr ⟨by simp, by simp⟩, by simp; omega, by simp⟩ (show (A.put 1 _).on = false from h.on) (show (A.put 1 _).log = [] from h.log) (by simp) (by simp) rfl (place_nat a c t hac hc1) (by rw [put_cells]; omega) (by rw [hv1 _ (by omega)]; exact he) (went_19b rfl (by simp)) ?_
    refine goCas (o := OpS.mk 0 most 20 0 x t t a c 0 0 0 0) (o1 := OpS.mk 0 most 21 4 x t t a c 0 0 0 0) (k := 0) (x := t) (v := ((t + 1 : Nat) : Int)) ⟨.inr ⟨by simp, by simp⟩, by simp; omega, by simp⟩ (show (A.put 1 _).on = false from h.on) (show (A.put 1 _).log = [] from h.log) (by simp) (by simp) (by rw [← e1]; rfl) wr0 (by rw [put_cells]; omega) (by rw [hv1 0 (by omega)]; exact h.top) rfl ?_
    refine goStore (o := OpS.mk 0 most 21 4 x t t a c 0 0 0 0) (o1 := OpS.ended 4 x) (k := 1) (v := ((t + 1 : Nat) : Int)) ⟨.inr ⟨by simp, by simp⟩, by simp; omega, by simp⟩ (show ((A.put 1 _).put 0 _).on = false from h.on) (show ((A.put 1 _).put 0 _).log = [] from h.log) (by simp) (by simp) (by rw [← e1]; rfl) wr1 (by rw [put_cells, put_cells]; omega) rfl (.done _ _)
  · have hv : ∀ j, (((A.put 1 t).put 0 ((t + 1 : Nat) : Int)).put 1 ((t + 1 : Nat) : Int)).val j = if j = 1 then ((t + 1 : Nat) : Int) else if j = 0 then ((t + 1 : Nat) : Int) else A.val j := fun j => by
      rw [put_val (by rw [put_cells, put_cells]; omega), put_val (by rw [put_cells]; omega), put_val (by omega)]
      by_cases hj : j = 1
      · rw [if_pos hj, if_pos hj]
      · rw [if_neg hj, if_neg hj, if_neg hj]
    exact ⟨h.on, h.log, hm1, by rw [hv, if_neg (by omega), if_pos rfl], by rw [hv, if_pos rfl]; simp, by rw [hv, if_neg (by omega), if_neg (by omega), h.buf], by rw [hv, if_neg (by omega), if_neg (by omega), h.cap], ha3, by rw [put_cells, put_cells, put_cells]; exact hfit, hc1, hcm, by simp, fun i hi => by simp at hi, by rw [put_cells, put_cells, put_cells]; exact h.room, h.sz, by simp; omega⟩
theorem pop_more {x : Int} (h : Dq A most (l ++ [x]) t a c) (hne : 0 < l.length) (hs : A.cells.length ≤ A.size) : ∃ A', Goes (OpS.mk 0 most 13 0 0 0 0 0 0 0 0 0 0) A 6 (OpS.ended 4 x) A' ∧ Dq A' most l t a c ∧ A'.cells.length = A.cells.length ∧ A'.size = A.size := by
  have h2 := h.lt2
  have hac := h.ac hs
  have hc1 := h.c1
  have hcm := h.cm
  have hm1 := h.m1
  have hbig := h.big
  have hlen := h.len
  have hfit := h.fit
  have ha3 := h.a3
  have hmod := Nat.mod_lt (t + l.length) (show 0 < c by omega)
  have he := h.elem l.length (by simp)
  simp [List.getD] at he
  simp at hbig hlen
  have eb : wrap64 (((t + (l ++ [x]).length : Nat) : Int) - 1) = ((t + l.length : Nat) : Int) := by rw [wrap64_in _ (by simp; omega)]; simp; omega
  refine ⟨A.put 1 ((t + l.length : Nat) : Int), ?_, ?_, put_cells, rfl⟩
  · have hv1 : ∀ j, ¬ j = 1 → (A.put 1 ((t + l.length : Nat) : Int)).val j = A.val j := fun j hj => by rw [put_val (by omega), if_neg hj]
    refine goLoad (o := OpS.mk 0 most 13 0 0 0 0 0 0 0 0 0 0) (o1 := OpS.mk 0 most 14 0 0 0 ((t + l.length : Nat) : Int) 0 0 0 0 0 0) (k := 1) ⟨.inr ⟨by simp, by simp⟩, by simp, by simp⟩ h.on h.log (by simp) (by simp) rfl wr1 (by omega) h.bot (by show OpS.mk _ _ _ _ _ _ (wrap64 _) _ _ _ _ _ _ = _; rw [eb]) ?_
    refine goLoad (o := OpS.mk 0 most 14 0 0 0 ((t + l.length : Nat) : Int) 0 0 0 0 0 0) (o1 := OpS.mk 0 most 15 0 0 0 ((t + l.length : Nat) : Int) a 0 0 0 0 0) (k := 2) ⟨.inr ⟨by simp, by simp⟩, by simp, by simp⟩ h.on h.log (by simp) (by simp) rfl wr2 (by omega) h.buf rfl ?_
    refine goStore (o := OpS.mk 0 most 15 0 0 0 ((t + l.length : Nat) : Int) a 0 0 0 0 0) (o1 := OpS.mk 0 most 16 0 0 0 ((t + l.length : Nat) : Int) a 0 0 0 0 0) (k := 1) (v := ((t + l.length : Nat) : Int)) ⟨.inr ⟨by simp, by simp⟩, by simp, by simp⟩ h.on h.log (by simp) (by simp) rfl wr1 (by omega) rfl ?_
    refine goLoad (o := OpS.mk 0 most 16 0 0 0 ((t + l.length : Nat) : Int) a 0 0 0 0 0) (o1 := OpS.mk 0 most 18 0 0 t ((t + l.length : Nat) : Int) a 0 0 0 0 0) (k := 0) (x := t) ⟨.inr ⟨by simp, by simp⟩, by simp, by simp⟩ (show (A.put 1 _).on = false from h.on) (show (A.put 1 _).log = [] from h.log) (by simp) (by simp) rfl wr0 (by rw [put_cells]; omega) (by rw [hv1 0 (by omega)]; exact h.top) (went_16b rfl (by simp; omega)) ?_
    refine goLoad (o := OpS.mk 0 most 18 0 0 t ((t + l.length : Nat) : Int) a 0 0 0 0 0) (o1 := OpS.mk 0 most 19 0 0 t ((t + l.length : Nat) : Int) a c 0 0 0 0) (k := a) (x := c) ⟨.inr ⟨by simp, by simp⟩, by simp, by simp⟩ (show (A.put 1 _).on = false from h.on) (show (A.put 1 _).log = [] from h.log) (by simp) (by simp) rfl rfl (by rw [put_cells]; omega) (by rw [hv1 a (by omega)]; exact h.cap) (flat_c (by simp; omega)) ?_
    refine goLoad (o := OpS.mk 0 most 19 0 0 t ((t + l.length : Nat) : Int) a c 0 0 0 0) (o1 := OpS.ended 4 x) (k := a + 1 + (t + l.length) % c) (x := x) ⟨.inr ⟨by simp, by simp⟩, by simp; omega, by simp⟩ (show (A.put 1 _).on = false from h.on) (show (A.put 1 _).log = [] from h.log) (by simp) (by simp) rfl (place_nat a c (t + l.length) hac hc1) (by rw [put_cells]; omega) (by rw [hv1 _ (by omega)]; exact he) (went_19a rfl (by simp; omega)) (.done _ _)
  · have hv1 : ∀ j, ¬ j = 1 → (A.put 1 ((t + l.length : Nat) : Int)).val j = A.val j := fun j hj => by rw [put_val (by omega), if_neg hj]
    refine ⟨h.on, h.log, hm1, by rw [hv1 0 (by omega), h.top], by rw [put_val (by omega), if_pos rfl], by rw [hv1 2 (by omega), h.buf], by rw [hv1 a (by omega), h.cap], ha3, by rw [put_cells]; exact hfit, hc1, hcm, by omega, fun i hi => ?_, by rw [put_cells]; exact h.room, h.sz, by omega⟩
    rw [hv1 _ (by omega)]
    have := h.elem i (by simp; omega)
    rw [this]
    simp [List.getD, List.getElem?_append, hi]
theorem push_full {v : Int} (h : Dq A most l t a c) (hl : l.length = most) (hs : A.cells.length ≤ A.size) : Goes (OpS.mk 0 most 2 0 v 0 0 0 0 0 0 0 0) A 4 (OpS.ended 3 0) A := by
  have h2 := h.lt2
  have hac := h.ac hs
  have hc1 := h.c1
  have hcm := h.cm
  have hm1 := h.m1
  have hbig := h.big
  have hlen := h.len
  have hfit := h.fit
  have ha3 := h.a3
  have ed : wrap64 (((t + l.length : Nat) : Int) - t) = l.length := by rw [wrap64_in _ (by omega)]; omega
  have em : measuredS (OpS.mk 0 most 5 0 v t ((t + l.length : Nat) : Int) a c 0 0 0 0) = OpS.ended 3 0 := by
    unfold measuredS
    simp only [ed]
    rw [if_neg (by omega), if_neg (by omega), if_pos (by omega)]
  refine goLoad (o := OpS.mk 0 most 2 0 v 0 0 0 0 0 0 0 0) (o1 := OpS.mk 0 most 3 0 v 0 ((t + l.length : Nat) : Int) 0 0 0 0 0 0) (k := 1) ⟨.inr ⟨by simp, by simp⟩, by simp, by simp⟩ h.on h.log (by simp) (by simp) rfl wr1 (by omega) h.bot rfl ?_
  refine goLoad (o := OpS.mk 0 most 3 0 v 0 ((t + l.length : Nat) : Int) 0 0 0 0 0 0) (o1 := OpS.mk 0 most 4 0 v t ((t + l.length : Nat) : Int) 0 0 0 0 0 0) (k := 0) ⟨.inr ⟨by simp, by simp⟩, by simp, by simp⟩ h.on h.log (by simp) (by simp) rfl wr0 (by omega) h.top rfl ?_
  refine goLoad (o := OpS.mk 0 most 4 0 v t ((t + l.length : Nat) : Int) 0 0 0 0 0 0) (o1 := OpS.mk 0 most 5 0 v t ((t + l.length : Nat) : Int) a 0 0 0 0 0) (k := 2) ⟨.inr ⟨by simp, by simp⟩, by simp, by simp⟩ h.on h.log (by simp) (by simp) rfl wr2 (by omega) h.buf rfl ?_
  exact goLoad (o := OpS.mk 0 most 5 0 v t ((t + l.length : Nat) : Int) a 0 0 0 0 0) (o1 := OpS.ended 3 0) (k := a) ⟨.inr ⟨by simp, by simp⟩, by simp, by simp⟩ h.on h.log (by simp) (by simp) rfl rfl (by omega) h.cap em (.done _ _)
theorem push_plain {v : Int} (h : Dq A most l t a c) (hl : l.length < c) (hb : t + l.length < 1125899906842624) (hs : A.cells.length ≤ A.size) : ∃ A', Goes (OpS.mk 0 most 2 0 v 0 0 0 0 0 0 0 0) A 6 (OpS.ended 2 0) A' ∧ Dq A' most (l ++ [v]) t a c ∧ A'.cells.length = A.cells.length ∧ A'.size = A.size := by
  have h2 := h.lt2
  have hac := h.ac hs
  have hc1 := h.c1
  have hcm := h.cm
  have hm1 := h.m1
  have hbig := h.big
  have hlen := h.len
  have hfit := h.fit
  have ha3 := h.a3
  have hmod := Nat.mod_lt (t + l.length) (show 0 < c by omega)
  have ed : wrap64 (((t + l.length : Nat) : Int) - t) = l.length := by rw [wrap64_in _ (by omega)]; omega
  have e1 : wrap64 (((t + l.length : Nat) : Int) + 1) = ((t + l.length + 1 : Nat) : Int) := by rw [wrap64_in _ (by omega)]; omega
  have em : measuredS (OpS.mk 0 most 5 0 v t ((t + l.length : Nat) : Int) a c 0 0 0 0) = OpS.mk 0 most 6 0 v t ((t + l.length : Nat) : Int) a c 0 0 0 0 := by
    unfold measuredS
    simp only [ed]
    rw [if_neg (by omega), if_pos (by omega)]
  refine ⟨(A.put (a + 1 + (t + l.length) % c) v).put 1 ((t + l.length + 1 : Nat) : Int), ?_, ?_, by rw [put_cells, put_cells], rfl⟩
  · skip
    refine goLoad (o := OpS.mk 0 most 2 0 v 0 0 0 0 0 0 0 0) (o1 := OpS.mk 0 most 3 0 v 0 ((t + l.length : Nat) : Int) 0 0 0 0 0 0) (k := 1) ⟨.inr ⟨by simp, by simp⟩, by simp, by simp⟩ h.on h.log (by simp) (by simp) rfl wr1 (by omega) h.bot rfl ?_
    refine goLoad (o := OpS.mk 0 most 3 0 v 0 ((t + l.length : Nat) : Int) 0 0 0 0 0 0) (o1 := OpS.mk 0 most 4 0 v t ((t + l.length : Nat) : Int) 0 0 0 0 0 0) (k := 0) ⟨.inr ⟨by simp, by simp⟩, by simp, by simp⟩ h.on h.log (by simp) (by simp) rfl wr0 (by omega) h.top rfl ?_
    refine goLoad (o := OpS.mk 0 most 4 0 v t ((t + l.length : Nat) : Int) 0 0 0 0 0 0) (o1 := OpS.mk 0 most 5 0 v t ((t + l.length : Nat) : Int) a 0 0 0 0 0) (k := 2) ⟨.inr ⟨by simp, by simp⟩, by simp, by simp⟩ h.on h.log (by simp) (by simp) rfl wr2 (by omega) h.buf rfl ?_
    refine goLoad (o := OpS.mk 0 most 5 0 v t ((t + l.length : Nat) : Int) a 0 0 0 0 0) (o1 := OpS.mk 0 most 6 0 v t ((t + l.length : Nat) : Int) a c 0 0 0 0) (k := a) ⟨.inr ⟨by simp, by simp⟩, by simp, by simp⟩ h.on h.log (by simp) (by simp) rfl rfl (by omega) h.cap em ?_
    refine goStore (o := OpS.mk 0 most 6 0 v t ((t + l.length : Nat) : Int) a c 0 0 0 0) (o1 := OpS.mk 0 most 7 0 v t ((t + l.length : Nat) : Int) a c 0 0 0 0) (k := (a + 1 + (t + l.length) % c)) (v := v) ⟨.inr ⟨by simp, by simp⟩, by simp; omega, by simp⟩ h.on h.log (by simp) (by simp) rfl (place_nat a c (t + l.length) hac hc1) (by omega) rfl ?_
    refine goStore (o := OpS.mk 0 most 7 0 v t ((t + l.length : Nat) : Int) a c 0 0 0 0) (o1 := OpS.ended 2 0) (k := 1) (v := ((t + l.length + 1 : Nat) : Int)) ⟨.inr ⟨by simp, by simp⟩, by simp; omega, by simp⟩ (show (A.put _ _).on = false from h.on) (show (A.put _ _).log = [] from h.log) (by simp) (by simp) (by rw [← e1]; rfl) wr1 (by rw [put_cells]; omega) rfl (.done _ _)
  · have hv : ∀ j, ((A.put (a + 1 + (t + l.length) % c) v).put 1 ((t + l.length + 1 : Nat) : Int)).val j = if j = 1 then ((t + l.length + 1 : Nat) : Int) else if j = a + 1 + (t + l.length) % c then v else A.val j := fun j => by
      rw [put_val (by rw [put_cells]; omega), put_val (by omega)]
    refine ⟨h.on, h.log, hm1, by rw [hv, if_neg (by omega), if_neg (by omega), h.top], by rw [hv, if_pos rfl]; simp; omega, by rw [hv, if_neg (by omega), if_neg (by omega), h.buf], by rw [hv, if_neg (by omega), if_neg (by omega), h.cap], ha3, by rw [put_cells, put_cells]; exact hfit, hc1, hcm, by simp; omega, fun i hi => ?_, by rw [put_cells, put_cells]; exact h.room, h.sz, by simp; omega⟩
    rw [hv, if_neg (by omega)]
    simp at hi
    by_cases hil : i = l.length
    · subst hil
      rw [if_pos rfl]
      simp [List.getD]
    · have hne := mod_ne (t := t) (i := i) (n := l.length) (c := c) (by omega) (by omega)
      rw [if_neg (by omega), h.elem i (by omega)]
      simp [List.getD, List.getElem?_append, show i < l.length by omega]
end
end Go.Proofs.Ytaeooljfilkaeaa
/-! A push that grows. -/
namespace Go.Proofs.Ytaeooljfilkaeaa
open Go.RowKit Go.HeapKit Go.IntWalk Go.PlainOps

theorem le_cellsFrom (m c n : Nat) : n ≤ cellsFrom m c n := by
  by_cases h : c < m ∧ 0 < c
  · rw [cellsFrom_step h.1 h.2]
    have := le_cellsFrom m (min (2 * c) m) (n + 1 + min (2 * c) m)
    omega
  · rw [cellsFrom, dif_neg h]
    exact Nat.le_refl _
termination_by m - c
decreasing_by omega
theorem grown_nat (c most : Nat) (hc : c ≤ 4096) : grownV c most = ((min (2 * c) most : Nat) : Int) := by
  unfold grownV
  rw [wrap64_in _ (by omega)]
  split <;> omega
theorem goMore {o o1 o2 : OpS} {A A2 : Ar} {n k : Nat} {y : Int} (hf : o.Fit) (hon : A.on = false) (hl : A.log = []) (h0 : ¬ o.at_ = 0) (h1 : ¬ o.at_ = 1) (hw : o.want = (4, 0, y, 0)) (hy : y = k) (hk : 0 < k) (hs : A.cells.length + k ≤ A.size) (ho : o.went A.cells.length true = o1) (h : Goes o1 (A.more k) n o2 A2) : Goes o A (n + 1) o2 A2 := by
  subst hy
  refine .next hf (by simp [hl]) ?_ h
  rw [step_by h0 h1 hw (did_more hon hk hs), ho]
theorem went_11a {o : OpS} {x : Int} {ok : Bool} (h : o.at_ = 11) (hx : wrap64 (o.ix + 1) = o.b) : o.went x ok = { o with ix := wrap64 (o.ix + 1), at_ := 12 } := by unfold OpS.went; rw [h]; simp [hx]
theorem went_11b {o : OpS} {x : Int} {ok : Bool} (h : o.at_ = 11) (hx : ¬ wrap64 (o.ix + 1) = o.b) : o.went x ok = { o with ix := wrap64 (o.ix + 1), at_ := 10 } := by unfold OpS.went; rw [h]; simp [hx]
structure Cp (A0 A : Ar) (t L c2 : Nat) (l : List Int) (i : Nat) : Prop where
  on : A.on = false
  log : A.log = []
  size : A.size = A0.size
  len : A.cells.length = L + 1 + c2
  old : ∀ j, j < L → A.val j = A0.val j
  capv : A.val L = c2
  els : ∀ j, j < i → A.val (L + 1 + (t + j) % c2) = l.getD j 0
section
variable {A : Ar} {most t a c : Nat} {l : List Int}
theorem copy_loop {L c2 : Nat} {v : Int} (h : Dq A most l t a c) (hs : A.cells.length ≤ A.size) (hL : L = A.cells.length) (hc2 : c < c2) (hc3 : c2 ≤ 4096) (hLs : L + 1 + c2 ≤ 1048576) :
    ∀ (r i : Nat) (An : Ar) (mv : Int), i + r = l.length → 0 < r → Cp A An t L c2 l i →
      ∃ An' mv', Goes (OpS.mk 0 most 10 0 v t ((t + l.length : Nat) : Int) a c L c2 ((t + i : Nat) : Int) mv) An (2 * r) (OpS.mk 0 most 12 0 v t ((t + l.length : Nat) : Int) a c L c2 ((t + l.length : Nat) : Int) mv') An' ∧ Cp A An' t L c2 l l.length := by
  have h2 := h.lt2
  have hac := h.ac hs
  have hc1 := h.c1
  have hcm := h.cm
  have hm1 := h.m1
  have hbig := h.big
  have hlen := h.len
  have hfit := h.fit
  have ha3 := h.a3
  intro r
  induction r with
  | zero => intro i An mv _ h0; omega
  | succ r ih =>
    intro i An mv hir _ hC
    have hCl := hC.len
    have hmo := Nat.mod_lt (t + i) (show 0 < c by omega)
    have hmn := Nat.mod_lt (t + i) (show 0 < c2 by omega)
    have he := h.elem i (by omega)
    have ei : wrap64 (((t + i : Nat) : Int) + 1) = ((t + (i + 1) : Nat) : Int) := by rw [wrap64_in _ (by omega)]; omega
    have hC1 : Cp A (An.put (L + 1 + (t + i) % c2) (l.getD i 0)) t L c2 l (i + 1) := by
      refine ⟨hC.on, hC.log, hC.size, by rw [put_cells]; exact hC.len, fun j hj => ?_, ?_, fun j hj => ?_⟩
      · rw [put_val (by omega), if_neg (by omega)]; exact hC.old j hj
      · rw [put_val (by omega), if_neg (by omega)]; exact hC.capv
      · rw [put_val (by omega)]
        by_cases hji : j = i
        · subst hji; rw [if_pos rfl]
        · have := mod_ne (t := t) (i := j) (n := i) (c := c2) (by omega) (by omega)
          rw [if_neg (by omega)]
          exact hC.els j (by omega)
    have hgo : ∀ {o2 : OpS} {A2 : Ar} {n : Nat} (o1 : OpS), (OpS.mk 0 most 11 0 v t ((t + l.length : Nat) : Int) a c L c2 ((t + i : Nat) : Int) (l.getD i 0)).went 0 true = o1 → Goes o1 (An.put (L + 1 + (t + i) % c2) (l.getD i 0)) n o2 A2 →
        Goes (OpS.mk 0 most 10 0 v t ((t + l.length : Nat) : Int) a c L c2 ((t + i : Nat) : Int) mv) An (n + 1 + 1) o2 A2 := by
      intro o2 A2 n o1 ho hg
      refine goLoad (o := OpS.mk 0 most 10 0 v t ((t + l.length : Nat) : Int) a c L c2 ((t + i : Nat) : Int) mv) (o1 := OpS.mk 0 most 11 0 v t ((t + l.length : Nat) : Int) a c L c2 ((t + i : Nat) : Int) (l.getD i 0)) (k := (a + 1 + (t + i) % c)) (x := (l.getD i 0)) ⟨.inr ⟨by simp, by simp⟩, by simp; omega, by simp; omega⟩ hC.on hC.log (by simp) (by simp) rfl (place_nat a c (t + i) hac hc1) (by omega) (by rw [hC.old _ (by omega)]; exact he) rfl ?_
      exact goStore (o := OpS.mk 0 most 11 0 v t ((t + l.length : Nat) : Int) a c L c2 ((t + i : Nat) : Int) (l.getD i 0)) (o1 := o1) (k := (L + 1 + (t + i) % c2)) (v := (l.getD i 0)) ⟨.inr ⟨by simp, by simp⟩, by simp; omega, by simp; omega⟩ hC.on hC.log (by simp) (by simp) rfl (place_nat L c2 (t + i) (by omega) (by omega)) (by omega) ho hg
    by_cases hr : r = 0
    · subst hr
      have hil : i + 1 = l.length := by omega
      refine ⟨_, l.getD i 0, hgo _ (went_11a rfl ?_) ?_, hil ▸ hC1⟩
      · show wrap64 (((t + i : Nat) : Int) + 1) = ((t + l.length : Nat) : Int)
        rw [ei, hil]
      · show Goes (OpS.mk 0 most 12 0 v t ((t + l.length : Nat) : Int) a c L c2 (wrap64 (((t + i : Nat) : Int) + 1)) (l.getD i 0)) _ 0 _ _
        rw [ei, hil]
        exact .done _ _
    · obtain ⟨An', mv', hg, hC'⟩ := ih (i + 1) _ (l.getD i 0) (by omega) (by omega) hC1
      refine ⟨An', mv', ?_, hC'⟩
      rw [show 2 * (r + 1) = 2 * r + 1 + 1 by omega]
      refine hgo _ (went_11b rfl ?_) ?_
      · show ¬ wrap64 (((t + i : Nat) : Int) + 1) = ((t + l.length : Nat) : Int)
        rw [ei]
        omega
      · show Goes (OpS.mk 0 most 10 0 v t ((t + l.length : Nat) : Int) a c L c2 (wrap64 (((t + i : Nat) : Int) + 1)) (l.getD i 0)) _ _ _ _
        rw [ei]
        exact hg
theorem cp_start {A : Ar} {t c2 : Nat} {l : List Int} (hon : A.on = false) (hlog : A.log = []) : Cp A ((A.more (1 + c2)).put A.cells.length c2) t A.cells.length c2 l 0 := by
  have hlm : (A.more (1 + c2)).cells.length = A.cells.length + (1 + c2) := more_len A (1 + c2)
  have hlt : A.cells.length < (A.more (1 + c2)).cells.length := by rw [hlm]; exact Nat.lt_add_of_pos_right (by omega)
  refine ⟨hon, hlog, rfl, by rw [put_cells, hlm, Nat.add_assoc], fun j hj => ?_, ?_, fun j hj => absurd hj (Nat.not_lt_zero j)⟩
  · rw [put_val hlt, if_neg (Nat.ne_of_lt hj), more_val]
  · rw [put_val hlt, if_pos rfl]
theorem grow_end {An : Ar} {most t a c L c2 : Nat} {l : List Int} {v mv' : Int} (hon : An.on = false) (hlog : An.log = []) (hCl : An.cells.length = L + 1 + c2) (hL3 : 3 ≤ L) (hc1 : 1 ≤ c2) (hc3 : c2 ≤ 4096) (hcx : c ≤ 4096) (hLs : L + 1 + c2 ≤ 1048576) (hb : t + l.length < 1125899906842624) :
    Goes (OpS.mk 0 most 12 0 v t ((t + l.length : Nat) : Int) a c L c2 ((t + l.length : Nat) : Int) mv') An 3 (OpS.ended 2 0) (((An.put 2 L).put (L + 1 + (t + l.length) % c2) v).put 1 ((t + l.length + 1 : Nat) : Int)) := by
  have hmod := Nat.mod_lt (t + l.length) (show 0 < c2 by omega)
  have e1 : wrap64 (((t + l.length : Nat) : Int) + 1) = ((t + l.length + 1 : Nat) : Int) := by rw [wrap64_in _ (by omega)]; omega
  refine goStore (o := OpS.mk 0 most 12 0 v t ((t + l.length : Nat) : Int) a c L c2 ((t + l.length : Nat) : Int) mv') (o1 := OpS.mk 0 most 6 0 v t ((t + l.length : Nat) : Int) L c2 L c2 ((t + l.length : Nat) : Int) mv') (k := 2) (v := L) ⟨.inr ⟨by simp, by simp⟩, by simp; omega, by simp; omega⟩ hon hlog (by simp) (by simp) rfl wr2 (by omega) rfl ?_
  refine goStore (o := OpS.mk 0 most 6 0 v t ((t + l.length : Nat) : Int) L c2 L c2 ((t + l.length : Nat) : Int) mv') (o1 := OpS.mk 0 most 7 0 v t ((t + l.length : Nat) : Int) L c2 L c2 ((t + l.length : Nat) : Int) mv') (k := (L + 1 + (t + l.length) % c2)) (v := v) ⟨.inr ⟨by simp, by simp⟩, by simp; omega, by simp; omega⟩ (show (An.put _ _).on = false from hon) (show (An.put _ _).log = [] from hlog) (by simp) (by simp) rfl (place_nat L c2 (t + l.length) (by omega) (by omega)) (by rw [put_cells]; omega) rfl ?_
  exact goStore (o := OpS.mk 0 most 7 0 v t ((t + l.length : Nat) : Int) L c2 L c2 ((t + l.length : Nat) : Int) mv') (o1 := OpS.ended 2 0) (k := 1) (v := ((t + l.length + 1 : Nat) : Int)) ⟨.inr ⟨by simp, by simp⟩, by simp; omega, by simp; omega⟩ (show ((An.put _ _).put _ _).on = false from hon) (show ((An.put _ _).put _ _).log = [] from hlog) (by simp) (by simp) (by rw [← e1]; rfl) wr1 (by rw [put_cells, put_cells]; omega) rfl (.done _ _)
theorem grow_dq {A An : Ar} {most t L c2 : Nat} {l : List Int} {v : Int} (hC : Cp A An t L c2 l l.length) (hm1 : most ≤ 4096) (hL3 : 3 ≤ L) (hlc : l.length < c2) (hcx : c2 ≤ most) (htop : A.val 0 = t) (hroom : cellsFrom most c2 (L + 1 + c2) = A.size) (hsz : A.size ≤ 1048576) (hb : t + l.length < 1125899906842624) :
    Dq (((An.put 2 L).put (L + 1 + (t + l.length) % c2) v).put 1 ((t + l.length + 1 : Nat) : Int)) most (l ++ [v]) t L c2 := by
  have hCl := hC.len
  have hmod := Nat.mod_lt (t + l.length) (show 0 < c2 by omega)
  have HR : Hid (cellsFrom most c2 (L + 1 + c2) = A.size) := hroom
  clear hroom
  have hv : ∀ j, (((An.put 2 L).put (L + 1 + (t + l.length) % c2) v).put 1 ((t + l.length + 1 : Nat) : Int)).val j = if j = 1 then ((t + l.length + 1 : Nat) : Int) else if j = L + 1 + (t + l.length) % c2 then v else if j = 2 then (L : Int) else An.val j := fun j => by
    rw [put_val (by rw [put_cells, put_cells]; omega), put_val (by rw [put_cells]; omega), put_val (by omega)]
  refine ⟨hC.on, hC.log, hm1, by rw [hv, if_neg (by omega), if_neg (by omega), if_neg (by omega), hC.old 0 (by omega), htop], by rw [hv, if_pos rfl]; simp; omega, by rw [hv, if_neg (by omega), if_neg (by omega), if_pos rfl], by rw [hv, if_neg (by omega), if_neg (by omega), if_neg (by omega), hC.capv], hL3, by rw [put_cells, put_cells, put_cells]; omega, by omega, hcx, by simp; omega, fun i hi => ?_, ?_, ?_, by simp; omega⟩
  · rw [hv, if_neg (by omega)]
    simp at hi
    by_cases hil : i = l.length
    · subst hil
      rw [if_pos rfl]
      simp [List.getD]
    · have hne := mod_ne (t := t) (i := i) (n := l.length) (c := c2) (by omega) (by omega)
      rw [if_neg (by omega), if_neg (by omega), hC.els i (by omega)]
      simp [List.getD, List.getElem?_append, show i < l.length by omega]
  · rw [put_cells, put_cells, put_cells, hCl]
    exact HR.out.trans hC.size.symm
  · rw [show (((An.put 2 L).put (L + 1 + (t + l.length) % c2) v).put 1 ((t + l.length + 1 : Nat) : Int)).size = An.size from rfl, hC.size]
    exact hsz
end
end Go.Proofs.Ytaeooljfilkaeaa
