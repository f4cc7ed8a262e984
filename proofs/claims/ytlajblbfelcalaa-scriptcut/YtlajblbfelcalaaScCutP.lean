import Derived.Test.YtlajblbfelcalaaScRCut
import Derived.Test.YtlajblbfelcalaaScMoved
import Derived.Test.YtlajblbfelcalaaScSameS
/-! What stands while ScriptCut is walked. -/
namespace Go.Proofs.Ytlajblbfelcalaa
set_option linter.unusedVariables false
set_option maxRecDepth 20000
open Go.RowKit Go.HeapKit

/-- The law's own copy of the script. -/
structure Cs (w wr : World) (s0 p g0 c0 g1 c1 : Nat) (ap ad : Option Addr) (np cp nd cd : Nat) (l0 l1 : List Int) : Prop where
  b0 : wr.heap[s0]? = some (.cells #[.slice ap np cp, .slice ad nd cd] 37 (0, 0))
  bp : wr.heap[p]? = some (.cells #[.slice (some ⟨g0, 0, none⟩) np c0, .slice (some ⟨g1, 0, none⟩) nd c1] 37 (0, 0))
  r0 : Room wr (s0 + 1) g0 np c0 l0
  r1 : Room wr (s0 + 1) g1 nd c1 l1
  kp : Keeps None w wr
  ne : g0 ≠ g1
  os : s0 = w.heap.size
  op : s0 + 1 ≤ p
section
variable {w wr w' : World} {s0 p g0 c0 g1 c1 : Nat} {ap ad : Option Addr} {np cp nd cd : Nat} {l0 l1 : List Int}
theorem Cs.keep {S : Nat → Prop} {wx : World} (h : Cs w wr s0 p g0 c0 g1 c1 ap ad np cp nd cd l0 l1) (hk : Keeps S wr wx) (hS : ∀ x, x < wr.heap.size → ¬ S x) : Cs w wx s0 p g0 c0 g1 c1 ap ad np cp nd cd l0 l1 :=
  ⟨blk_kept h.b0 hk (hS _ (blk_lt h.b0)), blk_kept h.bp hk (hS _ (blk_lt h.bp)), h.r0.kept hk (hS _ h.r0.lt), h.r1.kept hk (hS _ h.r1.lt), h.kp.trans hk (fun i e hi => (hS i (Nat.lt_of_lt_of_le hi h.kp.size) e).elim), h.ne, h.os, h.op⟩
theorem Cs.more {wx : World} (h : Cs w wr s0 p g0 c0 g1 c1 ap ad np cp nd cd l0 l1) (hk : Keeps None wr wx) : Cs w wx s0 p g0 c0 g1 c1 ap ad np cp nd cd l0 l1 := h.keep hk (fun _ _ f => f)
theorem Cs.nep (h : Cs w wr s0 p g0 c0 g1 c1 ap ad np cp nd cd l0 l1) : p ≠ g0 ∧ p ≠ g1 ∧ s0 ≠ g0 ∧ s0 ≠ g1 := by
  have e0 := h.r0.low
  have e1 := h.r1.low
  refine ⟨?_, ?_, by omega, by omega⟩
  · rintro rfl
    exact absurd (own_type h.r0.row rfl h.bp) (by decide)
  · rintro rfl
    exact absurd (own_type h.r1.row rfl h.bp) (by decide)
theorem Cs.back0 (h : Cs w wr s0 p g0 c0 g1 c1 ap ad np cp nd cd l0 l1) {wx : World} {l : List Int} (hr : Room wx (s0 + 1) g0 np c0 l) (hk : Keeps (· = g0) wr wx) : Cs w wx s0 p g0 c0 g1 c1 ap ad np cp nd cd l l1 := by
  have e := h.nep
  have lo := h.r0.low
  have os := h.os
  exact ⟨blk_kept h.b0 hk e.2.2.1, blk_kept h.bp hk e.1, hr, h.r1.kept hk (fun q => h.ne q.symm), h.kp.trans hk (fun i e hi => by omega), h.ne, h.os, h.op⟩
theorem Cs.back1 (h : Cs w wr s0 p g0 c0 g1 c1 ap ad np cp nd cd l0 l1) {wx : World} {l : List Int} (hr : Room wx (s0 + 1) g1 nd c1 l) (hk : Keeps (· = g1) wr wx) : Cs w wx s0 p g0 c0 g1 c1 ap ad np cp nd cd l0 l := by
  have e := h.nep
  have lo := h.r1.low
  have os := h.os
  exact ⟨blk_kept h.b0 hk e.2.2.2, blk_kept h.bp hk e.2.1, h.r0.kept hk h.ne, hr, h.kp.trans hk (fun i e hi => by omega), h.ne, h.os, h.op⟩
end
theorem Room.base {w : World} {base base' g n cap : Nat} {l : List Int} (h : Room w base g n cap l) (hb : base' ≤ base) : Room w base' g n cap l := ⟨h.len, row_base h.row hb⟩
theorem cs_last {w wb w5 w6 : World} {s0 b0 b1 g0 q0 g1 q1 : Nat} {ap ad : Option Addr} {np cp nd cd : Nat} {l0 l1 : List Int} (HB : wb.heap[s0]? = some (.cells #[.slice ap np cp, .slice ad nd cd] 37 (0, 0)) ∧ Keeps None w wb ∧ wb.heap.size = s0 + 1 ∧ s0 = w.heap.size)
    (h0 : Room w5 b0 g0 np q0 l0) (e0 : s0 + 1 ≤ b0) (h1 : Room w6 b1 g1 nd q1 l1) (e1 : w5.heap.size ≤ b1) (k5 : Keeps None wb w5) (k6 : Keeps None w5 w6) : Cs w (w6.alloc (.cells #[.slice (some ⟨g0, 0, none⟩) np q0, .slice (some ⟨g1, 0, none⟩) nd q1] 37)) s0 w6.heap.size g0 q0 g1 q1 ap ad np cp nd cd l0 l1 := by
  have z := k5.size
  have z6 := k6.size
  have a := h0.lt
  have b := h1.low
  exact ⟨blk_old (blk_kept (blk_kept HB.1 k5 (fun f => f)) k6 (fun f => f)) _, blk_new _ _ _ rfl, ((h0.more k6).more (keeps1 _ _)).base e0, (h1.more (keeps1 _ _)).base (by omega), ((HB.2.1.trans k5 (fun _ f _ => f)).trans k6 (fun _ f _ => f)).andAlloc _, by omega, HB.2.2.2, by omega⟩
theorem cs_set {w wb w5 w6 : World} {s0 p b0 b1 g0 q0 g1 q1 : Nat} {ap ad : Option Addr} {np cp nd cd : Nat} {l0 l1 : List Int} (HB : wb.heap[s0]? = some (.cells #[.slice ap np cp, .slice ad nd cd] 37 (0, 0)) ∧ Keeps None w wb ∧ wb.heap.size = s0 + 1 ∧ s0 = w.heap.size)
    (h0 : Room w5 b0 g0 np q0 l0) (e0 : s0 + 1 ≤ b0) (h1 : Room w6 b1 g1 nd q1 l1) (e1 : w5.heap.size ≤ b1) (k5 : Keeps None wb w5) (k6 : Keeps None w5 w6) (hp : w6.heap[p]? = some (.cells #[.slice none 0 0, .slice none 0 0] 37 (0, 0))) (ep : s0 + 1 ≤ p) : Cs w ((w6.setCell ⟨p, 0, none⟩ (.slice (some ⟨g0, 0, none⟩) np q0)).setCell ⟨p, 1, none⟩ (.slice (some ⟨g1, 0, none⟩) nd q1)) s0 p g0 q0 g1 q1 ap ad np cp nd cd l0 l1 := by
  have z := k5.size
  have z6 := k6.size
  have a := h0.lt
  have b := h1.low
  have h06 := h0.more k6
  have hk : Keeps (· = p) w6 ((w6.setCell ⟨p, 0, none⟩ (.slice (some ⟨g0, 0, none⟩) np q0)).setCell ⟨p, 1, none⟩ (.slice (some ⟨g1, 0, none⟩) nd q1)) := keeps_one (keeps_one (Keeps.refl _ _) _) _
  have n0 : ¬ g0 = p := by
    rintro rfl
    exact absurd (own_type h06.row rfl hp) (by decide)
  have n1 : ¬ g1 = p := by
    rintro rfl
    exact absurd (own_type h1.row rfl hp) (by decide)
  exact ⟨blk_kept (blk_kept (blk_kept HB.1 k5 (fun f => f)) k6 (fun f => f)) hk (by omega), set_two rfl hp _ _, (h06.kept hk n0).base e0, (h1.kept hk n1).base (by omega), ((HB.2.1.trans k5 (fun _ f _ => f)).trans k6 (fun _ f _ => f)).trans hk (fun i e hi => by omega), by omega, HB.2.2.2, ep⟩
theorem two_cells {w6 : World} {s0 p : Nat} {x y u v : Value} (hx : w6.cell? ⟨s0, 0, none⟩ = some x) (hy : w6.cell? ⟨s0, 1, none⟩ = some y) (hne : ¬ s0 = p) : ((w6.setCell ⟨p, 0, none⟩ u).setCell ⟨p, 1, none⟩ v).cell? ⟨s0, 0, none⟩ = some x ∧ ((w6.setCell ⟨p, 0, none⟩ u).setCell ⟨p, 1, none⟩ v).cell? ⟨s0, 1, none⟩ = some y :=
  have hk : Keeps (· = p) w6 ((w6.setCell ⟨p, 0, none⟩ u).setCell ⟨p, 1, none⟩ v) := keeps_one (keeps_one (Keeps.refl _ _) _) _
  ⟨hk.cell hx hne, hk.cell hy hne⟩
/-- A script in a box, all of it between lo and hi. -/
structure Bx (wr : World) (lo hi p : Nat) (v0 v1 : Value) (n0 n1 : Nat) (l0 l1 : List Int) : Prop where
  b : wr.heap[p]? = some (.cells #[v0, v1] 37 (0, 0))
  two : TwoR wr lo v0 v1 n0 n1 l0 l1
  i0 : ∀ g, v0.ownBlock = some g → g < hi
  i1 : ∀ g, v1.ownBlock = some g → g < hi
  ip : lo ≤ p ∧ p < hi
theorem Bx.keep {S : Nat → Prop} {wr wx : World} {lo hi p : Nat} {v0 v1 : Value} {n0 n1 : Nat} {l0 l1 : List Int} (h : Bx wr lo hi p v0 v1 n0 n1 l0 l1) (hk : Keeps S wr wx) (hS : ∀ x, lo ≤ x → x < hi → ¬ S x) : Bx wx lo hi p v0 v1 n0 n1 l0 l1 :=
  ⟨blk_kept h.b hk (hS _ h.ip.1 h.ip.2), h.two.kept hk (fun g a _ c => hS g a (by rcases c with c | c; exact h.i0 g c; exact h.i1 g c)), h.i0, h.i1, h.ip⟩
theorem Bx.more {wr wx : World} {lo hi p : Nat} {v0 v1 : Value} {n0 n1 : Nat} {l0 l1 : List Int} (h : Bx wr lo hi p v0 v1 n0 n1 l0 l1) (hk : Keeps None wr wx) : Bx wx lo hi p v0 v1 n0 n1 l0 l1 := h.keep hk (fun _ _ _ f => f)
theorem Bx.new {w w1 : World} {v0 v1 : Value} {n0 n1 : Nat} {l0 l1 : List Int} (ht : TwoR w1 w.heap.size v0 v1 n0 n1 l0 l1) (hk : Keeps None w w1) : Bx (w1.alloc (.cells #[v0, v1] 37)) w.heap.size (w1.alloc (.cells #[v0, v1] 37)).heap.size w1.heap.size v0 v1 n0 n1 l0 l1 :=
  ⟨blk_new _ _ _ rfl, ht.more (keeps1 _ _), fun g e => by have := own_lt ht.r0 e; simp; omega, fun g e => by have := own_lt ht.r1 e; simp; omega, hk.size, by simp⟩
theorem Bx.c0 {wr : World} {lo hi p : Nat} {v0 v1 : Value} {n0 n1 : Nat} {l0 l1 : List Int} (h : Bx wr lo hi p v0 v1 n0 n1 l0 l1) : wr.cell? ⟨p, 0, none⟩ = some v0 := (blk_cell h.b 0).trans rfl
theorem Bx.c1 {wr : World} {lo hi p : Nat} {v0 v1 : Value} {n0 n1 : Nat} {l0 l1 : List Int} (h : Bx wr lo hi p v0 v1 n0 n1 l0 l1) : wr.cell? ⟨p, 1, none⟩ = some v1 := (blk_cell h.b 1).trans rfl
theorem int_app {wr : World} {A0 : Nat} {v : Value} {n : Nat} {l : List Int} (h : wr.ownsRow A0 3 1 v n (iv l)) (x : Int) (hA : A0 ≤ wr.heap.size) (hn : n + 1 ≤ 17592186044416) (ty : TypeId) :
    ∃ g cap w', (Builtin.append_ #[25, 25] ty #[v, .slice (some ⟨wr.heap.size, 0, none⟩) 1 1]).run Try.prog (wr.alloc (.cells #[.int .i64 x] 3)) = .ok (.slice (some ⟨g, 0, none⟩) (n + 1) cap) w' ∧ w'.ownsRow A0 3 1 (.slice (some ⟨g, 0, none⟩) (n + 1) cap) (n + 1) (iv (l ++ [x])) ∧ Keeps (fun k => v.ownBlock = some k) wr w' ∧ ∀ g', (Value.slice (some ⟨g, 0, none⟩) (n + 1) cap).ownBlock = some g' → v.ownBlock = some g' ∨ wr.heap.size ≤ g' := by
  obtain ⟨g, cap, w', hr, ho, hk2, hm⟩ := int_more A0 v l x n ty wr.heap.size (wr.alloc (.cells #[.int .i64 x] 3)) (row_len h) (row_more h (keeps1 _ _)) (by simp; omega) (by omega) (blk_new _ _ _ rfl)
  refine ⟨g, cap, w', hr, ho, ((keeps1 wr _).mono (fun _ f _ => f.elim)).trans hk2 (fun i e _ => e), fun g' e => ?_⟩
  simp [Value.ownBlock] at e
  subst e
  rcases hm with hm | hm
  · exact .inl hm
  · simp at hm
    exact .inr (by omega)
theorem Fr_low {w : World} {A0 : Nat} {v : Value} {n : Nat} {l : List Int} (h : w.ownsRow A0 3 1 v n (iv l)) (hz : A0 ≤ w.heap.size) : A0 ≤ w.heap.size := hz
/-- What may be written: the first script, the third one, and what is new. -/
def Mut (A0 A1 A2 A3 A4 : Nat) (x : Nat) : Prop := (A0 ≤ x ∧ x < A1) ∨ (A2 ≤ x ∧ x < A3) ∨ A4 ≤ x
/-- Four rows that are written over and made longer. -/
structure Fr (wZ wr : World) (A0 A1 A2 A3 A4 p6 p8 : Nat) (v0 v1 v2 v3 : Value) (n0 n1 n2 n3 : Nat) : Prop where
  r0 : ∃ l, wr.ownsRow A0 3 1 v0 n0 (iv l)
  r1 : ∃ l, wr.ownsRow A0 3 1 v1 n1 (iv l)
  r2 : ∃ l, wr.ownsRow A0 3 1 v2 n2 (iv l)
  r3 : ∃ l, wr.ownsRow A0 3 1 v3 n3 (iv l)
  a01 : ∀ g, v0.ownBlock = some g → v1.ownBlock ≠ some g
  a02 : ∀ g, v0.ownBlock = some g → v2.ownBlock ≠ some g
  a03 : ∀ g, v0.ownBlock = some g → v3.ownBlock ≠ some g
  a12 : ∀ g, v1.ownBlock = some g → v2.ownBlock ≠ some g
  a13 : ∀ g, v1.ownBlock = some g → v3.ownBlock ≠ some g
  a23 : ∀ g, v2.ownBlock = some g → v3.ownBlock ≠ some g
  m0 : ∀ g, v0.ownBlock = some g → Mut A0 A1 A2 A3 A4 g
  m1 : ∀ g, v1.ownBlock = some g → Mut A0 A1 A2 A3 A4 g
  m2 : ∀ g, v2.ownBlock = some g → Mut A0 A1 A2 A3 A4 g
  m3 : ∀ g, v3.ownBlock = some g → Mut A0 A1 A2 A3 A4 g
  b6 : wr.heap[p6]? = some (.cells #[v0, v1] 37 (0, 0))
  b8 : wr.heap[p8]? = some (.cells #[v2, v3] 37 (0, 0))
  q6 : Mut A0 A1 A2 A3 A4 p6
  q8 : Mut A0 A1 A2 A3 A4 p8
  ne : p6 ≠ p8
  kp : Keeps (Mut A0 A1 A2 A3 A4) wZ wr
  z : A4 = wZ.heap.size
theorem row_notS {w : World} {B : Nat} {v : Value} {n : Nat} {l : List Int} (h : w.ownsRow B 3 1 v n (iv l)) {p : Nat} {c : Array Value} (hb : w.heap[p]? = some (.cells c 37 (0, 0))) : ∀ g, v.ownBlock = some g → ¬ g = p := by
  rintro g e rfl
  exact absurd (own_type h e hb) (by decide)
theorem Fr.start {wZ : World} {A0 A1 A2 A3 p6 p8 : Nat} {v0 v1 v2 v3 : Value} {n0 n1 n2 n3 : Nat} {l0 l1 l2 l3 : List Int} (ha : Bx wZ A0 A1 p6 v0 v1 n0 n1 l0 l1) (ho : Bx wZ A2 A3 p8 v2 v3 n2 n3 l2 l3) (h12 : A1 ≤ A2) (h01 : A0 ≤ A1) : Fr wZ wZ A0 A1 A2 A3 wZ.heap.size p6 p8 v0 v1 v2 v3 n0 n1 n2 n3 := by
  have c : ∀ {u v : Value} {n m : Nat} {l l' : List Int}, (∀ g, u.ownBlock = some g → g < A1) → wZ.ownsRow A2 3 1 v m (iv l') → ∀ g, u.ownBlock = some g → v.ownBlock ≠ some g := fun h1 h2 g e1 e2 => by have := h1 g e1; have := row_low h2 e2; omega
  exact ⟨⟨_, ha.two.r0⟩, ⟨_, ha.two.r1⟩, ⟨_, row_base ho.two.r0 (by omega)⟩, ⟨_, row_base ho.two.r1 (by omega)⟩, ha.two.ap, c (n := n0) (l := l0) ha.i0 ho.two.r0, c (n := n0) (l := l0) ha.i0 ho.two.r1, c (n := n0) (l := l0) ha.i1 ho.two.r0, c (n := n0) (l := l0) ha.i1 ho.two.r1, ho.two.ap,
    fun g e => .inl ⟨row_low ha.two.r0 e, ha.i0 g e⟩, fun g e => .inl ⟨row_low ha.two.r1 e, ha.i1 g e⟩, fun g e => .inr (.inl ⟨row_low ho.two.r0 e, ho.i0 g e⟩), fun g e => .inr (.inl ⟨row_low ho.two.r1 e, ho.i1 g e⟩), ha.b, ho.b, .inl ha.ip, .inr (.inl ho.ip), by have := ha.ip; have := ho.ip; omega, Keeps.refl _ _, rfl⟩
section
variable {wZ wr w' : World} {A0 A1 A2 A3 A4 p6 p8 : Nat} {v0 v1 v2 v3 : Value} {n0 n1 n2 n3 : Nat}
theorem Fr.in0 (h : Fr wZ wr A0 A1 A2 A3 A4 p6 p8 v0 v1 v2 v3 n0 n1 n2 n3) {l : List Int} (ho : w'.ownsRow A0 3 1 v0 n0 (iv l)) (hk : Keeps (fun x => v0.ownBlock = some x) wr w') : Fr wZ w' A0 A1 A2 A3 A4 p6 p8 v0 v1 v2 v3 n0 n1 n2 n3 := by
  obtain ⟨l0, r0⟩ := h.r0
  obtain ⟨l1, r1⟩ := h.r1
  obtain ⟨l2, r2⟩ := h.r2
  obtain ⟨l3, r3⟩ := h.r3
  exact ⟨⟨l, ho⟩, ⟨l1, row_kept r1 hk (fun g e1 e2 => (h.a01) g e2 e1)⟩, ⟨l2, row_kept r2 hk (fun g e1 e2 => (h.a02) g e2 e1)⟩, ⟨l3, row_kept r3 hk (fun g e1 e2 => (h.a03) g e2 e1)⟩, h.a01, h.a02, h.a03, h.a12, h.a13, h.a23, h.m0, h.m1, h.m2, h.m3, blk_kept h.b6 hk (fun e => row_notS r0 h.b6 _ e rfl), blk_kept h.b8 hk (fun e => row_notS r0 h.b8 _ e rfl), h.q6, h.q8, h.ne, h.kp.trans hk (fun x e _ => h.m0 x e), h.z⟩
theorem Fr.up0 (h : Fr wZ wr A0 A1 A2 A3 A4 p6 p8 v0 v1 v2 v3 n0 n1 n2 n3) {u : Value} {m : Nat} {l : List Int} (ho : w'.ownsRow A0 3 1 u m (iv l)) (hk : Keeps (fun x => v0.ownBlock = some x) wr w') (hm : ∀ g, u.ownBlock = some g → v0.ownBlock = some g ∨ wr.heap.size ≤ g) :
    Fr wZ (w'.setCell ⟨p6, 0, none⟩ u) A0 A1 A2 A3 A4 p6 p8 u v1 v2 v3 m n1 n2 n3 ∧ w'.heap[p6]? = some (.cells #[v0, v1] 37 (0, 0)) := by
  obtain ⟨l0, r0⟩ := h.r0
  obtain ⟨l1, r1⟩ := h.r1
  obtain ⟨l2, r2⟩ := h.r2
  obtain ⟨l3, r3⟩ := h.r3
  have hb6 := blk_kept h.b6 hk (fun e => row_notS r0 h.b6 _ e rfl)
  have hb8 := blk_kept h.b8 hk (fun e => row_notS r0 h.b8 _ e rfl)
  have hs : Keeps (· = p6) w' (w'.setCell ⟨p6, 0, none⟩ u) := Keeps.setCell (S := (· = p6)) w' rfl _
  have zz := h.kp.size
  have za := h.z
  have k1 := row_kept r1 hk (fun g e1 e2 => (h.a01) g e2 e1)
  have x1 : ∀ g, u.ownBlock = some g → v1.ownBlock ≠ some g := fun g e1 e2 => by
    rcases hm g e1 with q | q
    · exact (h.a01) g q e2
    · have := own_lt r1 e2; omega
  have k2 := row_kept r2 hk (fun g e1 e2 => (h.a02) g e2 e1)
  have x2 : ∀ g, u.ownBlock = some g → v2.ownBlock ≠ some g := fun g e1 e2 => by
    rcases hm g e1 with q | q
    · exact (h.a02) g q e2
    · have := own_lt r2 e2; omega
  have k3 := row_kept r3 hk (fun g e1 e2 => (h.a03) g e2 e1)
  have x3 : ∀ g, u.ownBlock = some g → v3.ownBlock ≠ some g := fun g e1 e2 => by
    rcases hm g e1 with q | q
    · exact (h.a03) g q e2
    · have := own_lt r3 e2; omega
  exact ⟨⟨⟨l, row_kept ho hs (fun g e => row_notS ho hb6 g e)⟩, ⟨l1, row_kept k1 hs (fun g e => row_notS k1 hb6 g e)⟩, ⟨l2, row_kept k2 hs (fun g e => row_notS k2 hb6 g e)⟩, ⟨l3, row_kept k3 hs (fun g e => row_notS k3 hb6 g e)⟩, x1, x2, x3, h.a12, h.a13, h.a23, (fun g e => by rcases hm g e with q | q; exact h.m0 g q; exact .inr (.inr (by omega))), h.m1, h.m2, h.m3, blk_set (i := 0) hb6 u, blk_kept hb8 hs (fun e => h.ne e.symm), h.q6, h.q8, h.ne, (h.kp.trans hk (fun x e _ => h.m0 x e)).trans hs (fun x e _ => by subst e; exact h.q6), h.z⟩, hb6⟩
theorem Fr.in1 (h : Fr wZ wr A0 A1 A2 A3 A4 p6 p8 v0 v1 v2 v3 n0 n1 n2 n3) {l : List Int} (ho : w'.ownsRow A0 3 1 v1 n1 (iv l)) (hk : Keeps (fun x => v1.ownBlock = some x) wr w') : Fr wZ w' A0 A1 A2 A3 A4 p6 p8 v0 v1 v2 v3 n0 n1 n2 n3 := by
  obtain ⟨l0, r0⟩ := h.r0
  obtain ⟨l1, r1⟩ := h.r1
  obtain ⟨l2, r2⟩ := h.r2
  obtain ⟨l3, r3⟩ := h.r3
  exact ⟨⟨l0, row_kept r0 hk (fun g e1 e2 => (fun g e1 e2 => h.a01 g e2 e1) g e2 e1)⟩, ⟨l, ho⟩, ⟨l2, row_kept r2 hk (fun g e1 e2 => (h.a12) g e2 e1)⟩, ⟨l3, row_kept r3 hk (fun g e1 e2 => (h.a13) g e2 e1)⟩, h.a01, h.a02, h.a03, h.a12, h.a13, h.a23, h.m0, h.m1, h.m2, h.m3, blk_kept h.b6 hk (fun e => row_notS r1 h.b6 _ e rfl), blk_kept h.b8 hk (fun e => row_notS r1 h.b8 _ e rfl), h.q6, h.q8, h.ne, h.kp.trans hk (fun x e _ => h.m1 x e), h.z⟩
theorem Fr.up1 (h : Fr wZ wr A0 A1 A2 A3 A4 p6 p8 v0 v1 v2 v3 n0 n1 n2 n3) {u : Value} {m : Nat} {l : List Int} (ho : w'.ownsRow A0 3 1 u m (iv l)) (hk : Keeps (fun x => v1.ownBlock = some x) wr w') (hm : ∀ g, u.ownBlock = some g → v1.ownBlock = some g ∨ wr.heap.size ≤ g) :
    Fr wZ (w'.setCell ⟨p6, 1, none⟩ u) A0 A1 A2 A3 A4 p6 p8 v0 u v2 v3 n0 m n2 n3 ∧ w'.heap[p6]? = some (.cells #[v0, v1] 37 (0, 0)) := by
  obtain ⟨l0, r0⟩ := h.r0
  obtain ⟨l1, r1⟩ := h.r1
  obtain ⟨l2, r2⟩ := h.r2
  obtain ⟨l3, r3⟩ := h.r3
  have hb6 := blk_kept h.b6 hk (fun e => row_notS r1 h.b6 _ e rfl)
  have hb8 := blk_kept h.b8 hk (fun e => row_notS r1 h.b8 _ e rfl)
  have hs : Keeps (· = p6) w' (w'.setCell ⟨p6, 1, none⟩ u) := Keeps.setCell (S := (· = p6)) w' rfl _
  have zz := h.kp.size
  have za := h.z
  have k0 := row_kept r0 hk (fun g e1 e2 => (fun g e1 e2 => h.a01 g e2 e1) g e2 e1)
  have x0 : ∀ g, u.ownBlock = some g → v0.ownBlock ≠ some g := fun g e1 e2 => by
    rcases hm g e1 with q | q
    · exact (fun g e1 e2 => h.a01 g e2 e1) g q e2
    · have := own_lt r0 e2; omega
  have k2 := row_kept r2 hk (fun g e1 e2 => (h.a12) g e2 e1)
  have x2 : ∀ g, u.ownBlock = some g → v2.ownBlock ≠ some g := fun g e1 e2 => by
    rcases hm g e1 with q | q
    · exact (h.a12) g q e2
    · have := own_lt r2 e2; omega
  have k3 := row_kept r3 hk (fun g e1 e2 => (h.a13) g e2 e1)
  have x3 : ∀ g, u.ownBlock = some g → v3.ownBlock ≠ some g := fun g e1 e2 => by
    rcases hm g e1 with q | q
    · exact (h.a13) g q e2
    · have := own_lt r3 e2; omega
  exact ⟨⟨⟨l0, row_kept k0 hs (fun g e => row_notS k0 hb6 g e)⟩, ⟨l, row_kept ho hs (fun g e => row_notS ho hb6 g e)⟩, ⟨l2, row_kept k2 hs (fun g e => row_notS k2 hb6 g e)⟩, ⟨l3, row_kept k3 hs (fun g e => row_notS k3 hb6 g e)⟩, (fun g e1 e2 => x0 g e2 e1), h.a02, h.a03, x2, x3, h.a23, h.m0, (fun g e => by rcases hm g e with q | q; exact h.m1 g q; exact .inr (.inr (by omega))), h.m2, h.m3, blk_set (i := 1) hb6 u, blk_kept hb8 hs (fun e => h.ne e.symm), h.q6, h.q8, h.ne, (h.kp.trans hk (fun x e _ => h.m1 x e)).trans hs (fun x e _ => by subst e; exact h.q6), h.z⟩, hb6⟩
theorem Fr.in2 (h : Fr wZ wr A0 A1 A2 A3 A4 p6 p8 v0 v1 v2 v3 n0 n1 n2 n3) {l : List Int} (ho : w'.ownsRow A0 3 1 v2 n2 (iv l)) (hk : Keeps (fun x => v2.ownBlock = some x) wr w') : Fr wZ w' A0 A1 A2 A3 A4 p6 p8 v0 v1 v2 v3 n0 n1 n2 n3 := by
  obtain ⟨l0, r0⟩ := h.r0
  obtain ⟨l1, r1⟩ := h.r1
  obtain ⟨l2, r2⟩ := h.r2
  obtain ⟨l3, r3⟩ := h.r3
  exact ⟨⟨l0, row_kept r0 hk (fun g e1 e2 => (fun g e1 e2 => h.a02 g e2 e1) g e2 e1)⟩, ⟨l1, row_kept r1 hk (fun g e1 e2 => (fun g e1 e2 => h.a12 g e2 e1) g e2 e1)⟩, ⟨l, ho⟩, ⟨l3, row_kept r3 hk (fun g e1 e2 => (h.a23) g e2 e1)⟩, h.a01, h.a02, h.a03, h.a12, h.a13, h.a23, h.m0, h.m1, h.m2, h.m3, blk_kept h.b6 hk (fun e => row_notS r2 h.b6 _ e rfl), blk_kept h.b8 hk (fun e => row_notS r2 h.b8 _ e rfl), h.q6, h.q8, h.ne, h.kp.trans hk (fun x e _ => h.m2 x e), h.z⟩
theorem Fr.up2 (h : Fr wZ wr A0 A1 A2 A3 A4 p6 p8 v0 v1 v2 v3 n0 n1 n2 n3) {u : Value} {m : Nat} {l : List Int} (ho : w'.ownsRow A0 3 1 u m (iv l)) (hk : Keeps (fun x => v2.ownBlock = some x) wr w') (hm : ∀ g, u.ownBlock = some g → v2.ownBlock = some g ∨ wr.heap.size ≤ g) :
    Fr wZ (w'.setCell ⟨p8, 0, none⟩ u) A0 A1 A2 A3 A4 p6 p8 v0 v1 u v3 n0 n1 m n3 ∧ w'.heap[p8]? = some (.cells #[v2, v3] 37 (0, 0)) := by
  obtain ⟨l0, r0⟩ := h.r0
  obtain ⟨l1, r1⟩ := h.r1
  obtain ⟨l2, r2⟩ := h.r2
  obtain ⟨l3, r3⟩ := h.r3
  have hb6 := blk_kept h.b6 hk (fun e => row_notS r2 h.b6 _ e rfl)
  have hb8 := blk_kept h.b8 hk (fun e => row_notS r2 h.b8 _ e rfl)
  have hs : Keeps (· = p8) w' (w'.setCell ⟨p8, 0, none⟩ u) := Keeps.setCell (S := (· = p8)) w' rfl _
  have zz := h.kp.size
  have za := h.z
  have k0 := row_kept r0 hk (fun g e1 e2 => (fun g e1 e2 => h.a02 g e2 e1) g e2 e1)
  have x0 : ∀ g, u.ownBlock = some g → v0.ownBlock ≠ some g := fun g e1 e2 => by
    rcases hm g e1 with q | q
    · exact (fun g e1 e2 => h.a02 g e2 e1) g q e2
    · have := own_lt r0 e2; omega
  have k1 := row_kept r1 hk (fun g e1 e2 => (fun g e1 e2 => h.a12 g e2 e1) g e2 e1)
  have x1 : ∀ g, u.ownBlock = some g → v1.ownBlock ≠ some g := fun g e1 e2 => by
    rcases hm g e1 with q | q
    · exact (fun g e1 e2 => h.a12 g e2 e1) g q e2
    · have := own_lt r1 e2; omega
  have k3 := row_kept r3 hk (fun g e1 e2 => (h.a23) g e2 e1)
  have x3 : ∀ g, u.ownBlock = some g → v3.ownBlock ≠ some g := fun g e1 e2 => by
    rcases hm g e1 with q | q
    · exact (h.a23) g q e2
    · have := own_lt r3 e2; omega
  exact ⟨⟨⟨l0, row_kept k0 hs (fun g e => row_notS k0 hb8 g e)⟩, ⟨l1, row_kept k1 hs (fun g e => row_notS k1 hb8 g e)⟩, ⟨l, row_kept ho hs (fun g e => row_notS ho hb8 g e)⟩, ⟨l3, row_kept k3 hs (fun g e => row_notS k3 hb8 g e)⟩, h.a01, (fun g e1 e2 => x0 g e2 e1), h.a03, (fun g e1 e2 => x1 g e2 e1), h.a13, x3, h.m0, h.m1, (fun g e => by rcases hm g e with q | q; exact h.m2 g q; exact .inr (.inr (by omega))), h.m3, blk_kept hb6 hs h.ne, blk_set (i := 0) hb8 u, h.q6, h.q8, h.ne, (h.kp.trans hk (fun x e _ => h.m2 x e)).trans hs (fun x e _ => by subst e; exact h.q8), h.z⟩, hb8⟩
theorem Fr.in3 (h : Fr wZ wr A0 A1 A2 A3 A4 p6 p8 v0 v1 v2 v3 n0 n1 n2 n3) {l : List Int} (ho : w'.ownsRow A0 3 1 v3 n3 (iv l)) (hk : Keeps (fun x => v3.ownBlock = some x) wr w') : Fr wZ w' A0 A1 A2 A3 A4 p6 p8 v0 v1 v2 v3 n0 n1 n2 n3 := by
  obtain ⟨l0, r0⟩ := h.r0
  obtain ⟨l1, r1⟩ := h.r1
  obtain ⟨l2, r2⟩ := h.r2
  obtain ⟨l3, r3⟩ := h.r3
  exact ⟨⟨l0, row_kept r0 hk (fun g e1 e2 => (fun g e1 e2 => h.a03 g e2 e1) g e2 e1)⟩, ⟨l1, row_kept r1 hk (fun g e1 e2 => (fun g e1 e2 => h.a13 g e2 e1) g e2 e1)⟩, ⟨l2, row_kept r2 hk (fun g e1 e2 => (fun g e1 e2 => h.a23 g e2 e1) g e2 e1)⟩, ⟨l, ho⟩, h.a01, h.a02, h.a03, h.a12, h.a13, h.a23, h.m0, h.m1, h.m2, h.m3, blk_kept h.b6 hk (fun e => row_notS r3 h.b6 _ e rfl), blk_kept h.b8 hk (fun e => row_notS r3 h.b8 _ e rfl), h.q6, h.q8, h.ne, h.kp.trans hk (fun x e _ => h.m3 x e), h.z⟩
theorem Fr.up3 (h : Fr wZ wr A0 A1 A2 A3 A4 p6 p8 v0 v1 v2 v3 n0 n1 n2 n3) {u : Value} {m : Nat} {l : List Int} (ho : w'.ownsRow A0 3 1 u m (iv l)) (hk : Keeps (fun x => v3.ownBlock = some x) wr w') (hm : ∀ g, u.ownBlock = some g → v3.ownBlock = some g ∨ wr.heap.size ≤ g) :
    Fr wZ (w'.setCell ⟨p8, 1, none⟩ u) A0 A1 A2 A3 A4 p6 p8 v0 v1 v2 u n0 n1 n2 m ∧ w'.heap[p8]? = some (.cells #[v2, v3] 37 (0, 0)) := by
  obtain ⟨l0, r0⟩ := h.r0
  obtain ⟨l1, r1⟩ := h.r1
  obtain ⟨l2, r2⟩ := h.r2
  obtain ⟨l3, r3⟩ := h.r3
  have hb6 := blk_kept h.b6 hk (fun e => row_notS r3 h.b6 _ e rfl)
  have hb8 := blk_kept h.b8 hk (fun e => row_notS r3 h.b8 _ e rfl)
  have hs : Keeps (· = p8) w' (w'.setCell ⟨p8, 1, none⟩ u) := Keeps.setCell (S := (· = p8)) w' rfl _
  have zz := h.kp.size
  have za := h.z
  have k0 := row_kept r0 hk (fun g e1 e2 => (fun g e1 e2 => h.a03 g e2 e1) g e2 e1)
  have x0 : ∀ g, u.ownBlock = some g → v0.ownBlock ≠ some g := fun g e1 e2 => by
    rcases hm g e1 with q | q
    · exact (fun g e1 e2 => h.a03 g e2 e1) g q e2
    · have := own_lt r0 e2; omega
  have k1 := row_kept r1 hk (fun g e1 e2 => (fun g e1 e2 => h.a13 g e2 e1) g e2 e1)
  have x1 : ∀ g, u.ownBlock = some g → v1.ownBlock ≠ some g := fun g e1 e2 => by
    rcases hm g e1 with q | q
    · exact (fun g e1 e2 => h.a13 g e2 e1) g q e2
    · have := own_lt r1 e2; omega
  have k2 := row_kept r2 hk (fun g e1 e2 => (fun g e1 e2 => h.a23 g e2 e1) g e2 e1)
  have x2 : ∀ g, u.ownBlock = some g → v2.ownBlock ≠ some g := fun g e1 e2 => by
    rcases hm g e1 with q | q
    · exact (fun g e1 e2 => h.a23 g e2 e1) g q e2
    · have := own_lt r2 e2; omega
  exact ⟨⟨⟨l0, row_kept k0 hs (fun g e => row_notS k0 hb8 g e)⟩, ⟨l1, row_kept k1 hs (fun g e => row_notS k1 hb8 g e)⟩, ⟨l2, row_kept k2 hs (fun g e => row_notS k2 hb8 g e)⟩, ⟨l, row_kept ho hs (fun g e => row_notS ho hb8 g e)⟩, h.a01, h.a02, (fun g e1 e2 => x0 g e2 e1), h.a12, (fun g e1 e2 => x1 g e2 e1), (fun g e1 e2 => x2 g e2 e1), h.m0, h.m1, h.m2, (fun g e => by rcases hm g e with q | q; exact h.m3 g q; exact .inr (.inr (by omega))), blk_kept hb6 hs h.ne, blk_set (i := 1) hb8 u, h.q6, h.q8, h.ne, (h.kp.trans hk (fun x e _ => h.m3 x e)).trans hs (fun x e _ => by subst e; exact h.q8), h.z⟩, hb8⟩
end
end Go.Proofs.Ytlajblbfelcalaa
