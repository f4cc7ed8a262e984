import Derived.Test.YtaeooljfilkaeaaPkAH
import Derived.Test.YtaeooljfilkaeaaPkAG
/-! The owner's machine while thieves go on, plainly. -/
namespace Go.Proofs.Ytaeooljfilkaeaa
set_option linter.unusedVariables false
set_option maxRecDepth 20000
set_option linter.unusedSimpArgs false
open Go.RowKit Go.HeapKit Go.IntWalk Go.PlainOps

/-- What Cells tells suffices from here on. -/
structure RoomD (most c len size : Nat) : Prop where
  eq : cellsFrom most c len = size
theorem RoomD.grow {most c len size : Nat} (h : RoomD most c len size) (hc : c < most) (h0 : 0 < c) : RoomD most (min (2 * c) most) (len + 1 + min (2 * c) most) size := ⟨(cellsFrom_step hc h0).symm.trans h.eq⟩
theorem RoomD.le {most c len size : Nat} (h : RoomD most c len size) : len ≤ size := h.eq ▸ le_cellsFrom most c len
/-- The new buffer while it is being filled. -/
structure NewB (len : Nat) (bs : List Bf) (na nc : Nat) : Prop where
  far : ∀ x ∈ bs, x.a + x.c < na
  n3 : 3 ≤ na
  fit : na + nc < len
/-- The owner's machine, point by point; hand: what a pop has in its hand that needs no CAS. -/
inductive Own (m : Nat → Int) (len most size : Nat) (V : List Int) (top : Nat) (bot : Int) (bs : List Bf) (cur : Bf) (hand : Int) : OpS → Prop
  | idle {o : OpS} : (o = OpS.zero ∨ o.at_ = 1) → o.Fit → bot = V.length → RoomD most cur.c len size → Own m len most size V top bot bs cur hand o
  | p2 {v : Int} : bot = V.length → RoomD most cur.c len size → Own m len most size V top bot bs cur hand ⟨0, most, 2, 0, v, 0, 0, 0, 0, 0, 0, 0, 0⟩
  | p3 {v : Int} : bot = V.length → RoomD most cur.c len size → Own m len most size V top bot bs cur hand ⟨0, most, 3, 0, v, 0, V.length, 0, 0, 0, 0, 0, 0⟩
  | p4 {v : Int} {tt : Nat} : bot = V.length → RoomD most cur.c len size → tt ≤ top → V.length ≤ tt + cur.c → Own m len most size V top bot bs cur hand ⟨0, most, 4, 0, v, tt, V.length, 0, 0, 0, 0, 0, 0⟩
  | p5 {v : Int} {tt : Nat} : bot = V.length → RoomD most cur.c len size → tt ≤ top → V.length ≤ tt + cur.c → Own m len most size V top bot bs cur hand ⟨0, most, 5, 0, v, tt, V.length, cur.a, 0, 0, 0, 0, 0⟩
  | p6 {v na ix mv : Int} {tt nc : Nat} : bot = V.length → RoomD most cur.c len size → tt ≤ top → V.length < tt + cur.c → nc ≤ 4096 → Own m len most size V top bot bs cur hand ⟨0, most, 6, 0, v, tt, V.length, cur.a, cur.c, na, nc, ix, mv⟩
  | p7 {v na ix mv : Int} {tt nc : Nat} : bot = V.length → RoomD most cur.c len size → V.length < top + cur.c → m (cur.a + 1 + V.length % cur.c) = v → nc ≤ 4096 → Own m len most size V top bot bs cur hand ⟨0, most, 7, 0, v, tt, V.length, cur.a, cur.c, na, nc, ix, mv⟩
  | p8 {v : Int} {tt nc : Nat} : bot = V.length → RoomD most cur.c len size → tt ≤ top → V.length = tt + cur.c → cur.c < most → nc = min (2 * cur.c) most → Own m len most size V top bot bs cur hand ⟨0, most, 8, 0, v, tt, V.length, cur.a, cur.c, 0, nc, 0, 0⟩
  | p9 {v : Int} {tt nc na : Nat} : bot = V.length → RoomD most nc len size → tt ≤ top → V.length = tt + cur.c → cur.c < nc → nc ≤ most → NewB len bs na nc → Own m len most size V top bot bs cur hand ⟨0, most, 9, 0, v, tt, V.length, cur.a, cur.c, na, nc, 0, 0⟩
  | p10 {v mv : Int} {tt nc na ix : Nat} : bot = V.length → RoomD most nc len size → tt ≤ top → V.length = tt + cur.c → cur.c < nc → nc ≤ most → NewB len bs na nc → m na = nc → tt ≤ ix → ix < V.length → (∀ i, top ≤ i → i < ix → m (na + 1 + i % nc) = V.getD i 0) → Own m len most size V top bot bs cur hand ⟨0, most, 10, 0, v, tt, V.length, cur.a, cur.c, na, nc, ix, mv⟩
  | p11 {v mv : Int} {tt nc na ix : Nat} : bot = V.length → RoomD most nc len size → tt ≤ top → V.length = tt + cur.c → cur.c < nc → nc ≤ most → NewB len bs na nc → m na = nc → tt ≤ ix → ix < V.length → (∀ i, top ≤ i → i < ix → m (na + 1 + i % nc) = V.getD i 0) → (top ≤ ix → mv = V.getD ix 0) → Own m len most size V top bot bs cur hand ⟨0, most, 11, 0, v, tt, V.length, cur.a, cur.c, na, nc, ix, mv⟩
  | p12 {v ix mv : Int} {tt nc na : Nat} : bot = V.length → RoomD most nc len size → tt ≤ top → V.length = tt + cur.c → cur.c < nc → nc ≤ most → NewB len bs na nc → m na = nc → (∀ i, top ≤ i → i < V.length → m (na + 1 + i % nc) = V.getD i 0) → Own m len most size V top bot bs cur hand ⟨0, most, 12, 0, v, tt, V.length, cur.a, cur.c, na, nc, ix, mv⟩
  | q13 : bot = V.length → RoomD most cur.c len size → Own m len most size V top bot bs cur hand ⟨0, most, 13, 0, 0, 0, 0, 0, 0, 0, 0, 0, 0⟩
  | q14 : bot = V.length → RoomD most cur.c len size → Own m len most size V top bot bs cur hand ⟨0, most, 14, 0, 0, 0, (V.length : Int) - 1, 0, 0, 0, 0, 0, 0⟩
  | q15 : bot = V.length → RoomD most cur.c len size → Own m len most size V top bot bs cur hand ⟨0, most, 15, 0, 0, 0, (V.length : Int) - 1, cur.a, 0, 0, 0, 0, 0⟩
  | q16 : bot = (V.length : Int) - 1 → RoomD most cur.c len size → Own m len most size V top bot bs cur hand ⟨0, most, 16, 0, 0, 0, (V.length : Int) - 1, cur.a, 0, 0, 0, 0, 0⟩
  | q17 {b : Int} : bot ≤ V.length → RoomD most cur.c len size → top = V.length → Own m len most size V top bot bs cur hand ⟨0, most, 17, 0, 0, V.length, b, cur.a, 0, 0, 0, 0, 0⟩
  | q18a {tt : Nat} : bot = V.length → RoomD most cur.c len size → tt < V.length → m (cur.a + 1 + V.length % cur.c) = hand → Own m len most size V top bot bs cur hand ⟨0, most, 18, 0, 0, tt, V.length, cur.a, 0, 0, 0, 0, 0⟩
  | q19a {tt : Nat} : bot = V.length → RoomD most cur.c len size → tt < V.length → m (cur.a + 1 + V.length % cur.c) = hand → Own m len most size V top bot bs cur hand ⟨0, most, 19, 0, 0, tt, V.length, cur.a, cur.c, 0, 0, 0, 0⟩
  | q18b {b : Nat} : V.length = b + 1 → bot = b → RoomD most cur.c len size → (top = b ∨ top = b + 1) → Own m len most size V top bot bs cur hand ⟨0, most, 18, 0, 0, b, b, cur.a, 0, 0, 0, 0, 0⟩
  | q19b {b : Nat} : V.length = b + 1 → bot = b → RoomD most cur.c len size → (top = b ∨ top = b + 1) → Own m len most size V top bot bs cur hand ⟨0, most, 19, 0, 0, b, b, cur.a, cur.c, 0, 0, 0, 0⟩
  | q20 {b : Nat} {v : Int} : V.length = b + 1 → bot = b → RoomD most cur.c len size → (top = b ∨ top = b + 1) → (top = b → v = V.getD b 0) → Own m len most size V top bot bs cur hand ⟨0, most, 20, 0, v, b, b, cur.a, cur.c, 0, 0, 0, 0⟩
  | q21 {b : Nat} {code v : Int} : V.length = b + 1 → bot = b → RoomD most cur.c len size → top = b + 1 → Own m len most size V top bot bs cur hand ⟨0, most, 21, code, v, b, b, cur.a, cur.c, 0, 0, 0, 0⟩
/-- A thief takes the first one: the owner's machine stands as it may. -/
theorem Own.cas {m : Nat → Int} {len most size : Nat} {V : List Int} {top : Nat} {bot : Int} {bs : List Bf} {cur : Bf} {hand : Int} {o : OpS} (h : Own m len most size V top bot bs cur hand o) (hM : Mm m len most V top bot bs cur) (hlt : top < V.length) : Own (fun k => if k = 0 then ((top + 1 : Nat) : Int) else m k) len most size V (top + 1) bot bs cur hand o := by
  have hm : ∀ k, 0 < k → (if k = 0 then ((top + 1 : Nat) : Int) else m k) = m k := fun k hk => if_neg (by omega)
  cases h with
  | idle h1 h2 h3 h4 => exact .idle h1 h2 h3 h4
  | p2 h1 h2 => exact .p2 h1 h2
  | p3 h1 h2 => exact .p3 h1 h2
  | p4 h1 h2 h3 h4 => exact .p4 h1 h2 (by omega) h4
  | p5 h1 h2 h3 h4 => exact .p5 h1 h2 (by omega) h4
  | p6 h1 h2 h3 h4 h5 => exact .p6 h1 h2 (by omega) h4 h5
  | p7 h1 h2 h3 h4 h5 => exact .p7 h1 h2 (by omega) (by rw [hm _ (by omega)]; exact h4) h5
  | p8 h1 h2 h3 h4 h5 h6 => exact .p8 h1 h2 (by omega) h4 h5 h6
  | p9 h1 h2 h3 h4 h5 h6 h7 => exact .p9 h1 h2 (by omega) h4 h5 h6 h7
  | p10 h1 h2 h3 h4 h5 h6 h7 h8 h9 h10 h11 => exact .p10 h1 h2 (by omega) h4 h5 h6 h7 (by rw [hm _ (by have := h7.n3; omega)]; exact h8) h9 h10 (fun i i1 i2 => by rw [hm _ (by omega)]; exact h11 i (by omega) i2)
  | p11 h1 h2 h3 h4 h5 h6 h7 h8 h9 h10 h11 h12 => exact .p11 h1 h2 (by omega) h4 h5 h6 h7 (by rw [hm _ (by have := h7.n3; omega)]; exact h8) h9 h10 (fun i i1 i2 => by rw [hm _ (by omega)]; exact h11 i (by omega) i2) (fun e => h12 (by omega))
  | p12 h1 h2 h3 h4 h5 h6 h7 h8 h9 => exact .p12 h1 h2 (by omega) h4 h5 h6 h7 (by rw [hm _ (by have := h7.n3; omega)]; exact h8) (fun i i1 i2 => by rw [hm _ (by omega)]; exact h9 i (by omega) i2)
  | q13 h1 h2 => exact .q13 h1 h2
  | q14 h1 h2 => exact .q14 h1 h2
  | q15 h1 h2 => exact .q15 h1 h2
  | q16 h1 h2 => exact .q16 h1 h2
  | q17 h1 h2 h3 => omega
  | q18a h1 h2 h3 h4 => exact .q18a h1 h2 h3 (by rw [hm _ (by omega)]; exact h4)
  | q19a h1 h2 h3 h4 => exact .q19a h1 h2 h3 (by rw [hm _ (by omega)]; exact h4)
  | q18b h1 h2 h3 h4 => exact .q18b h1 h2 h3 (by omega)
  | q19b h1 h2 h3 h4 => exact .q19b h1 h2 h3 (by omega)
  | q20 h1 h2 h3 h4 h5 => exact .q20 h1 h2 h3 (by omega) (fun e => by omega)
  | q21 h1 h2 h3 h4 => omega
theorem Mm.congr {m m' : Nat → Int} {len most : Nat} {V : List Int} {top : Nat} {bot : Int} {bs : List Bf} {cur : Bf} (h : Mm m len most V top bot bs cur) (e : ∀ k, m' k = m k) : Mm m' len most V top bot bs cur := by
  have : m' = m := funext e
  rw [this]; exact h
/-- BOTTOM is stored. -/
theorem Mm.bottom {m : Nat → Int} {len most : Nat} {V : List Int} {top : Nat} {bot : Int} {bs : List Bf} {cur : Bf} (h : Mm m len most V top bot bs cur) (z : Int) (hz : z ≤ V.length) : Mm (fun k => if k = 1 then z else m k) len most V top z bs cur := by
  refine ⟨?_, rfl, ?_, h.l3, fun x hx => ?_, h.apart, h.cin, h.chi, h.tv, hz, h.room, h.sz, h.m1, h.big⟩
  · show (if 0 = 1 then z else m 0) = _; rw [if_neg (by omega)]; exact h.t
  · show (if 2 = 1 then z else m 2) = _; rw [if_neg (by omega)]; exact h.u
  · refine (h.all x hx).mem (fun k h1 h2 => ?_) (Nat.le_refl _)
    have := (h.all x hx).a3
    rw [if_neg (by omega)]
/-- The last one is popped: there is another ahead of it. -/
theorem Mm.pop {m : Nat → Int} {len most : Nat} {V : List Int} {top : Nat} {bot : Int} {bs : List Bf} {cur : Bf} (h : Mm m len most V top bot bs cur) (n : Nat) (hn : top < n) (hl : n ≤ V.length) (hb : bot ≤ n) : Mm m len most (V.take n) top bot (bs.map (cutB n)) (cutB n cur) := by
  have hlen : (V.take n).length = n := by rw [List.length_take]; omega
  refine ⟨h.t, h.b, h.u, h.l3, fun x hx => ?_, ?_, List.mem_map.2 ⟨cur, h.cin, rfl⟩, ?_, by omega, by omega, by rw [hlen]; show n ≤ top + cur.c; have := h.room; omega, h.sz, h.m1, by have := h.big; omega⟩
  · obtain ⟨y, hy, rfl⟩ := List.mem_map.1 hx
    have g := h.all y hy
    refine ⟨g.cap, g.a3, g.fit, g.c1, g.cm, by rw [hlen]; show min y.hi n ≤ n; omega, fun i h1 h2 => ?_⟩
    have h3 : i < min y.hi n := h2
    have h4 := g.elem i h1 (by omega)
    show m (y.a + 1 + i % y.c) = _
    rw [h4]
    simp [List.getD, List.getElem?_take, show i < n by omega]
  · rw [List.pairwise_map]
    exact h.apart
  · rw [hlen]; show min cur.hi n = n; rw [h.chi]; omega
/-- One more is pushed: its slot holds it, BOTTOM is stored. -/
def grB (n : Nat) (a : Nat) (x : Bf) : Bf := if x.a = a then ⟨x.a, x.c, n⟩ else x
theorem apart_a {x y : Bf} (h : Apart x y) : ¬ x.a = y.a := by unfold Apart at h; omega
theorem pw_mem {bs : List Bf} (h : bs.Pairwise Apart) {x y : Bf} (hx : x ∈ bs) (hy : y ∈ bs) (he : x.a = y.a) : x = y := by
  induction bs with
  | nil => cases hx
  | cons z bs ih =>
    rw [List.pairwise_cons] at h
    rcases List.mem_cons.1 hx with rfl | hx'
    · rcases List.mem_cons.1 hy with rfl | hy'
      · rfl
      · exact absurd he (apart_a (h.1 y hy'))
    · rcases List.mem_cons.1 hy with rfl | hy'
      · exact absurd he.symm (apart_a (h.1 x hx'))
      · exact ih h.2 hx' hy'
theorem Mm.push {m : Nat → Int} {len most : Nat} {V : List Int} {top : Nat} {bot : Int} {bs : List Bf} {cur : Bf} (h : Mm m len most V top bot bs cur) (v : Int) (hr : V.length < top + cur.c) (hs : m (cur.a + 1 + V.length % cur.c) = v) (hbig : V.length + 1 ≤ 1125899906842624) : Mm (fun k => if k = 1 then ((V.length + 1 : Nat) : Int) else m k) len most (V ++ [v]) top ((V.length + 1 : Nat) : Int) (bs.map (grB (V.length + 1) cur.a)) (grB (V.length + 1) cur.a cur) := by
  have hlen : (V ++ [v]).length = V.length + 1 := by simp
  have hg : ∀ x : Bf, (grB (V.length + 1) cur.a x).a = x.a ∧ (grB (V.length + 1) cur.a x).c = x.c := fun x => by unfold grB; split <;> exact ⟨rfl, rfl⟩
  have htv := h.tv
  refine ⟨?_, rfl, ?_, h.l3, fun x hx => ?_, ?_, List.mem_map.2 ⟨cur, h.cin, rfl⟩, ?_, by omega, by rw [hlen]; omega, by rw [hlen, (hg cur).2]; omega, h.sz, h.m1, by rw [hlen]; exact hbig⟩
  · show (if 0 = 1 then _ else m 0) = _; rw [if_neg (by omega)]; exact h.t
  · show (if 2 = 1 then _ else m 2) = _; rw [if_neg (by omega), (hg cur).1]; exact h.u
  · obtain ⟨y, hy, rfl⟩ := List.mem_map.1 hx
    have g := h.all y hy
    have ga3 := g.a3
    have hm : ∀ k, y.a ≤ k → (if k = 1 then ((V.length + 1 : Nat) : Int) else m k) = m k := fun k hk => if_neg (by omega)
    refine ⟨by rw [(hg y).1, (hg y).2, hm _ (Nat.le_refl _)]; exact g.cap, by rw [(hg y).1]; exact g.a3, by rw [(hg y).1, (hg y).2]; exact g.fit, by rw [(hg y).2]; exact g.c1, by rw [(hg y).2]; exact g.cm, ?_, fun i h1 h2 => ?_⟩
    · rw [hlen]
      unfold grB
      split
      · exact Nat.le_refl _
      · have := g.hv; omega
    · rw [(hg y).1, (hg y).2, hm _ (by omega)]
      have hold : i < y.hi → i < V.length → m (y.a + 1 + i % y.c) = (V ++ [v]).getD i 0 := fun a1 a2 => by
        rw [g.elem i h1 a1]
        simp [List.getD, List.getElem?_append_left a2]
      by_cases hc : y.a = cur.a
      · have hyc := pw_mem h.apart hy h.cin hc
        subst hyc
        have h3 : i < V.length + 1 := by unfold grB at h2; rw [if_pos rfl] at h2; exact h2
        by_cases hi : i = V.length
        · subst hi
          rw [hs]
          simp [List.getD]
        · exact hold (by rw [h.chi]; omega) (by omega)
      · have h3 : i < y.hi := by unfold grB at h2; rw [if_neg hc] at h2; exact h2
        exact hold h3 (by have := g.hv; omega)
  · rw [List.pairwise_map]
    refine h.apart.imp (fun {x y} hxy => ?_)
    unfold Apart
    rw [(hg x).1, (hg x).2, (hg y).1, (hg y).2]
    exact hxy
  · unfold grB; rw [if_pos rfl, hlen]
end Go.Proofs.Ytaeooljfilkaeaa
/-! The owner's steps while thieves go on, plainly. -/
namespace Go.Proofs.Ytaeooljfilkaeaa
set_option linter.unusedVariables false
set_option maxRecDepth 20000
set_option linter.unusedSimpArgs false
open Go.RowKit Go.HeapKit Go.IntWalk Go.PlainOps

/-- What a step of the owner's does to what was pushed. -/
inductive Ev (V V' : List Int) (top top' : Nat) (hand hand' : Int) (o o' : OpS) : Prop
  | none : V' = V → top' = top → hand' = hand → Ev V V' top top' hand hand' o o'
  | push : o.at_ = 7 → V' = V ++ [o.v] → top' = top → o' = OpS.ended 2 0 → Ev V V' top top' hand hand' o o'
  | pop (n : Nat) : o.at_ = 16 → V.length = n + 1 → V' = V.take n → top < n → top' = top → hand' = V.getD n 0 → Ev V V' top top' hand hand' o o'
  | last : o.at_ = 20 → V' = V → V.length = top + 1 → top' = top + 1 → o'.code = 4 → o'.v = V.getD top 0 → Ev V V' top top' hand hand' o o'
def ONx (most size : Nat) (V : List Int) (top : Nat) (bs : List Bf) (hand : Int) (o : OpS) (A : Ar) : Prop :=
  ∃ V' top' bot' bs' cur' hand', Mm (o.step A).2.val (o.step A).2.cells.length most V' top' bot' bs' cur' ∧ Own (o.step A).2.val (o.step A).2.cells.length most size V' top' bot' bs' cur' hand' (o.step A).1 ∧ Fr V V' top top' bs bs' ∧ Ev V V' top top' hand hand' o (o.step A).1 ∧ (o.step A).2.size = A.size
section
variable {most size : Nat} {V : List Int} {top : Nat} {bot : Int} {bs : List Bf} {cur : Bf} {hand : Int} {o : OpS} {A : Ar}
theorem on_load (hM : Mm A.val A.cells.length most V top bot bs cur) (h0 : ¬ o.at_ = 0) (h1 : ¬ o.at_ = 1) {k : Nat} {x y : Int} (hw : o.want = (0, y, 0, 0)) (hy : y = k) (hk : k < A.cells.length) (hx : A.val k = x) {o1 : OpS} (ho : o.went x true = o1) (hO : Own A.val A.cells.length most size V top bot bs cur hand o1) : ONx most size V top bs hand o A := by
  have hs := stLoad h0 h1 hw hy hk hx
  rw [ho] at hs
  unfold ONx
  rw [hs]
  have e : (A.noted ⟨0, 0, k, x, 0, true⟩).val = A.val := funext (notedV A _)
  refine ⟨V, top, bot, bs, cur, hand, ?_, ?_, Fr.refl _ _ _, .none rfl rfl rfl, notedS _ _⟩
  · show Mm (A.noted _).val (A.noted _).cells.length _ _ _ _ _ _
    rw [e, notedL]; exact hM
  · show Own (A.noted _).val (A.noted _).cells.length _ _ _ _ _ _ _ _ _
    rw [e, notedL]; exact hO
theorem on_store (h0 : ¬ o.at_ = 0) (h1 : ¬ o.at_ = 1) {k : Nat} {v y : Int} (hw : o.want = (1, y, v, 0)) (hy : y = k) (hk : k < A.cells.length) {o1 : OpS} (ho : o.went 0 true = o1) {V' : List Int} {bot' : Int} {bs' : List Bf} {cur' : Bf} (hM : Mm (fun j => if j = k then v else A.val j) A.cells.length most V' top bot' bs' cur') (hO : Own (fun j => if j = k then v else A.val j) A.cells.length most size V' top bot' bs' cur' hand o1) (hF : Fr V V' top top bs bs') (hE : Ev V V' top top hand hand o o1) : ONx most size V top bs hand o A := by
  have hs := stStore h0 h1 hw hy hk
  rw [ho] at hs
  unfold ONx
  rw [hs]
  have e : ((A.put k v).noted ⟨0, 1, k, v, 0, true⟩).val = fun j => if j = k then v else A.val j := funext (fun j => (notedV _ _ j).trans (put_val hk))
  refine ⟨V', top, bot', bs', cur', hand, ?_, ?_, hF, hE, notedS _ _⟩
  · show Mm ((A.put k v).noted _).val ((A.put k v).noted _).cells.length _ _ _ _ _ _
    rw [e, notedL, put_cells]; exact hM
  · show Own ((A.put k v).noted _).val ((A.put k v).noted _).cells.length _ _ _ _ _ _ _ _ _
    rw [e, notedL, put_cells]; exact hO
/-- A store into the slot behind the last one. -/
theorem Mm.slot (hM : Mm A.val A.cells.length most V top bot bs cur) (v : Int) (hr : V.length < top + cur.c) : Mm (fun j => if j = cur.a + 1 + V.length % cur.c then v else A.val j) A.cells.length most V top bot bs cur := by
  have gc := hM.all cur hM.cin
  have hml := Nat.mod_lt V.length (show 0 < cur.c by have := gc.c1; omega)
  have ga3 := gc.a3
  refine ⟨by rw [if_neg (by omega)]; exact hM.t, by rw [if_neg (by omega)]; exact hM.b, by rw [if_neg (by omega)]; exact hM.u, hM.l3, fun x hx => ?_, hM.apart, hM.cin, hM.chi, hM.tv, hM.bv, hM.room, hM.sz, hM.m1, hM.big⟩
  have g := hM.all x hx
  by_cases hc : x.a = cur.a
  · have hxc := pw_mem hM.apart hx hM.cin hc
    subst hxc
    refine ⟨by rw [if_neg (by omega)]; exact g.cap, g.a3, g.fit, g.c1, g.cm, g.hv, fun i h1 h2 => ?_⟩
    rw [if_neg ?_]
    · exact g.elem i h1 h2
    · intro e
      have hi : i < V.length := by have := g.hv; omega
      have := mod_ne (t := 0) (i := i) (n := V.length) (c := x.c) hi (by omega)
      simp at this
      omega
  · refine g.mem (fun k h1 h2 => ?_) (Nat.le_refl _)
    have hap : Apart x cur ∨ Apart cur x := by
      have hp := hM.apart
      have hxne : x ≠ cur := fun e => hc (by rw [e])
      have : ∀ (l : List Bf), l.Pairwise Apart → x ∈ l → cur ∈ l → Apart x cur ∨ Apart cur x := fun l hl a1 a2 => by
        induction l with
        | nil => cases a1
        | cons z l ih =>
          rw [List.pairwise_cons] at hl
          rcases List.mem_cons.1 a1 with e1 | a3
          · rcases List.mem_cons.1 a2 with e | a4
            · exact absurd (e1.trans e.symm) hxne
            · exact .inl (by rw [e1]; exact hl.1 _ a4)
          · rcases List.mem_cons.1 a2 with e | a4
            · exact .inr (by rw [e]; exact hl.1 _ a3)
            · exact ih hl.2 a3 a4
      exact this bs hp hx hM.cin
    rw [if_neg]
    unfold Apart at hap
    omega
/-- A store beyond all buffers. -/
theorem Mm.far (hM : Mm A.val A.cells.length most V top bot bs cur) (v : Int) {k : Nat} (h3 : 3 ≤ k) (hf : ∀ x ∈ bs, x.a + x.c < k) : Mm (fun j => if j = k then v else A.val j) A.cells.length most V top bot bs cur := by
  refine ⟨by rw [if_neg (by omega)]; exact hM.t, by rw [if_neg (by omega)]; exact hM.b, by rw [if_neg (by omega)]; exact hM.u, hM.l3, fun x hx => ?_, hM.apart, hM.cin, hM.chi, hM.tv, hM.bv, hM.room, hM.sz, hM.m1, hM.big⟩
  refine (hM.all x hx).mem (fun j h1 h2 => ?_) (Nat.le_refl _)
  have := hf x hx
  rw [if_neg (by omega)]
/-- The new buffer is the one. -/
theorem Mm.newb (hM : Mm A.val A.cells.length most V top bot bs cur) {na nc : Nat} (hN : NewB A.cells.length bs na nc) (hc : A.val na = nc) (h1 : cur.c < nc) (h2 : nc ≤ most) (he : ∀ i, top ≤ i → i < V.length → A.val (na + 1 + i % nc) = V.getD i 0) : Mm (fun j => if j = 2 then (na : Int) else A.val j) A.cells.length most V top bot (bs ++ [⟨na, nc, V.length⟩]) ⟨na, nc, V.length⟩ := by
  have h3 := hN.n3
  have hr := hM.room
  refine ⟨by rw [if_neg (by omega)]; exact hM.t, by rw [if_neg (by omega)]; exact hM.b, rfl, hM.l3, fun x hx => ?_, ?_, by simp, rfl, hM.tv, hM.bv, by show V.length ≤ top + nc; omega, hM.sz, hM.m1, hM.big⟩
  · rcases List.mem_append.1 hx with hx | hx
    · refine (hM.all x hx).mem (fun j h4 h5 => ?_) (Nat.le_refl _)
      have := (hM.all x hx).a3
      rw [if_neg (by omega)]
    · rw [List.mem_singleton] at hx
      subst hx
      refine ⟨by show (if na = 2 then _ else A.val na) = _; rw [if_neg (by omega)]; exact hc, h3, hN.fit, by show 1 ≤ nc; omega, h2, Nat.le_refl _, fun i h4 h5 => ?_⟩
      show (if na + 1 + i % nc = 2 then _ else A.val (na + 1 + i % nc)) = _
      rw [if_neg (by omega)]
      exact he i h4 h5
  · rw [List.pairwise_append]
    refine ⟨hM.apart, by simp, fun x hx y hy => ?_⟩
    rw [List.mem_singleton] at hy
    subst hy
    exact .inl (hN.far x hx)
theorem Fr.newb (V : List Int) (top : Nat) (bs : List Bf) (z : Bf) : Fr V V top top bs (bs ++ [z]) := ⟨Nat.le_refl _, fun _ h => ⟨h, rfl⟩, fun x hx => ⟨x, by simp [hx], rfl, rfl, fun _ _ h => h⟩⟩
end
end Go.Proofs.Ytaeooljfilkaeaa
/-! The owner's steps, point by point. -/
namespace Go.Proofs.Ytaeooljfilkaeaa
set_option linter.unusedVariables false
set_option maxRecDepth 20000
set_option linter.unusedSimpArgs false
open Go.RowKit Go.HeapKit Go.IntWalk Go.PlainOps

section
variable {most size : Nat} {V : List Int} {top : Nat} {bot : Int} {bs : List Bf} {cur : Bf} {hand : Int} {o : OpS} {A : Ar}
theorem wrN (n : Nat) (h : n ≤ 1125899906842625) : wrap64 (n : Int) = (n : Int) := wrap64_in _ (by omega)
theorem went_11 (o : OpS) (h : o.at_ = 11) (x : Int) (ok : Bool) : o.went x ok = if wrap64 (o.ix + 1) = o.b then { o with ix := wrap64 (o.ix + 1), at_ := 12 } else { o with ix := wrap64 (o.ix + 1), at_ := 10 } := by
  unfold OpS.went; simp [h]
theorem want_11 (o : OpS) (h : o.at_ = 11) : o.want = (1, placeV o.na o.nc o.ix, o.mv, 0) := by
  unfold OpS.want; simp [h]
theorem step_p11 (hM : Mm A.val A.cells.length most V top bot bs cur) {v mv : Int} {tt nc na ix : Nat} (a1 : bot = V.length) (a2 : RoomD most nc A.cells.length size) (a3 : tt ≤ top) (a4 : V.length = tt + cur.c) (a5 : cur.c < nc) (a6 : nc ≤ most) (a7 : NewB A.cells.length bs na nc) (a8 : A.val na = nc) (a9 : tt ≤ ix) (a10 : ix < V.length) (a11 : ∀ i, top ≤ i → i < ix → A.val (na + 1 + i % nc) = V.getD i 0) (a12 : top ≤ ix → mv = V.getD ix 0) : ONx most size V top bs hand ⟨0, most, 11, 0, v, tt, V.length, cur.a, cur.c, na, nc, ix, mv⟩ A := by
  have n3 := a7.n3
  have nf := a7.fit
  have hsz := hM.sz
  have hbig := hM.big
  have hml := Nat.mod_lt ix (show 0 < nc by omega)
  obtain ⟨K, hK⟩ : ∃ K, K = na + 1 + ix % nc := ⟨_, rfl⟩
  have hKl : K < A.cells.length := by omega
  have hnew : ∀ i, top ≤ i → i < ix + 1 → (fun j => if j = K then mv else A.val j) (na + 1 + i % nc) = V.getD i 0 := fun i i1 i2 => by
    show (if na + 1 + i % nc = K then mv else A.val (na + 1 + i % nc)) = V.getD i 0
    by_cases e : i = ix
    · subst e
      rw [if_pos hK.symm]
      exact a12 i1
    · have hne := mod_ne (t := 0) (i := i) (n := ix) (c := nc) (by omega) (by omega)
      rw [Nat.zero_add, Nat.zero_add] at hne
      rw [if_neg (fun e2 => hne (by omega))]
      exact a11 i i1 (by omega)
  have hix : wrap64 ((ix : Int) + 1) = ((ix + 1 : Nat) : Int) := by rw [wrap64_in ((ix : Int) + 1) (by omega)]; rfl
  have hcap : (fun j => if j = K then mv else A.val j) na = nc := by
    show (if na = K then mv else A.val na) = nc
    rw [if_neg (by omega)]; exact a8
  have hMf := hM.far mv (k := K) (by omega) (fun x hx => by have := a7.far x hx; omega)
  have hpl : placeV na nc ix = (K : Int) := by rw [hK]; exact place_nat na nc ix (by omega) (by omega)
  have hwant : (OpS.mk 0 most 11 0 v tt V.length cur.a cur.c na nc ix mv).want = (1, placeV na nc ix, mv, 0) := want_11 _ rfl
  have hwent : (OpS.mk 0 most 11 0 v tt V.length cur.a cur.c na nc ix mv).went 0 true = if wrap64 ((ix : Int) + 1) = (V.length : Int) then ⟨0, most, 12, 0, v, tt, V.length, cur.a, cur.c, na, nc, wrap64 ((ix : Int) + 1), mv⟩ else ⟨0, most, 10, 0, v, tt, V.length, cur.a, cur.c, na, nc, wrap64 ((ix : Int) + 1), mv⟩ := went_11 _ rfl 0 true
  rw [hix] at hwent
  by_cases hend : ix + 1 = V.length
  · have hO : Own (fun j => if j = K then mv else A.val j) A.cells.length most size V top bot bs cur hand ⟨0, most, 12, 0, v, tt, V.length, cur.a, cur.c, na, nc, ((ix + 1 : Nat) : Int), mv⟩ := .p12 a1 a2 a3 a4 a5 a6 a7 hcap (fun i i1 i2 => hnew i i1 (by rw [hend]; exact i2))
    rw [if_pos (congrArg Nat.cast hend)] at hwent
    exact on_store (by simp) (by simp) hwant hpl hKl hwent hMf hO (Fr.refl _ _ _) (.none rfl rfl rfl)
  · have hO : Own (fun j => if j = K then mv else A.val j) A.cells.length most size V top bot bs cur hand ⟨0, most, 10, 0, v, tt, V.length, cur.a, cur.c, na, nc, ((ix + 1 : Nat) : Int), mv⟩ := .p10 (ix := ix + 1) a1 a2 a3 a4 a5 a6 a7 hcap (Nat.le_succ_of_le a9) (Nat.lt_of_le_of_ne a10 hend) hnew
    rw [if_neg (fun e : ((ix + 1 : Nat) : Int) = (V.length : Int) => hend (Int.ofNat.inj e))] at hwent
    exact on_store (by simp) (by simp) hwant hpl hKl hwent hMf hO (Fr.refl _ _ _) (.none rfl rfl rfl)
set_option maxHeartbeats 4000000 in
theorem own_step (hM : Mm A.val A.cells.length most V top bot bs cur) (hO : Own A.val A.cells.length most size V top bot bs cur hand o) (hz : ¬ o = OpS.zero) (h1 : ¬ o.at_ = 1) (hS : size = A.size) (hS2 : A.size ≤ 1048576) (hb : V.length + 1 ≤ 1125899906842624) : ONx most size V top bs hand o A := by
  have l3 := hM.l3
  have gc := hM.all cur hM.cin
  have hc1 := gc.c1
  have hcm := gc.cm
  have hm1 := hM.m1
  have htv := hM.tv
  have hsz := hM.sz
  have hfit := gc.fit
  have hroom := hM.room
  cases hO with
  | idle a1 a2 a3 a4 => exact absurd a1 (fun e => e.elim hz h1)
  | p2 a1 a2 => exact on_load hM (by simp) (by simp) (k := 1) rfl wr1 (by omega) (hM.b.trans a1) rfl (.p3 a1 a2)
  | p3 a1 a2 => exact on_load hM (by simp) (by simp) (k := 0) rfl wr0 (by omega) hM.t rfl (.p4 a1 a2 (Nat.le_refl _) hM.room)
  | p4 a1 a2 a3 a4 => exact on_load hM (by simp) (by simp) (k := 2) rfl wr2 (by omega) hM.u rfl (.p5 a1 a2 a3 a4)
  | @p5 v tt a1 a2 a3 a4 =>
    have hbt : wrap64 ((V.length : Int) - (tt : Int)) = (V.length : Int) - tt := wrap64_in _ (by omega)
    by_cases c1 : V.length < tt + cur.c
    · refine on_load hM (by simp) (by simp) (k := cur.a) rfl rfl (by omega) gc.cap (o1 := ⟨0, most, 6, 0, v, tt, V.length, cur.a, cur.c, 0, ((0 : Nat) : Int), 0, 0⟩) ?_ (.p6 a1 a2 a3 c1 (by omega))
      show measuredS _ = _
      unfold measuredS
      rw [if_neg (by show ¬ (cur.c : Int) < 1; omega), if_pos (by show wrap64 ((V.length : Int) - (tt : Int)) < (cur.c : Int); rw [hbt]; omega)]
      rfl
    · by_cases c2 : most ≤ cur.c
      · refine on_load hM (by simp) (by simp) (k := cur.a) rfl rfl (by omega) gc.cap (o1 := OpS.ended 3 0) ?_ (.idle (.inr rfl) (ended_fit 3 0) a1 a2)
        show measuredS _ = _
        unfold measuredS
        rw [if_neg (by show ¬ (cur.c : Int) < 1; omega), if_neg (by show ¬ wrap64 ((V.length : Int) - (tt : Int)) < (cur.c : Int); rw [hbt]; omega), if_pos (by show (most : Int) ≤ (cur.c : Int); omega)]
      · refine on_load hM (by simp) (by simp) (k := cur.a) rfl rfl (by omega) gc.cap (o1 := ⟨0, most, 8, 0, v, tt, V.length, cur.a, cur.c, 0, ((min (2 * cur.c) most : Nat) : Int), 0, 0⟩) ?_ (.p8 a1 a2 a3 (by omega) (by omega) rfl)
        show measuredS _ = _
        unfold measuredS
        rw [if_neg (by show ¬ (cur.c : Int) < 1; omega), if_neg (by show ¬ wrap64 ((V.length : Int) - (tt : Int)) < (cur.c : Int); rw [hbt]; omega), if_neg (by show ¬ (most : Int) ≤ (cur.c : Int); omega)]
        rw [← grown_nat cur.c most (by omega)]
  | @p6 v na ix mv tt nc a1 a2 a3 a4 a5 =>
    have hml := Nat.mod_lt V.length (show 0 < cur.c by omega)
    exact on_store (by simp) (by simp) (k := cur.a + 1 + V.length % cur.c) rfl (place_nat cur.a cur.c V.length (by omega) hc1) (by omega) rfl (hM.slot v (by omega)) (.p7 a1 a2 (by omega) (if_pos rfl) a5) (Fr.refl _ _ _) (.none rfl rfl rfl)
  | @p7 v na ix mv tt nc a1 a2 a3 a4 a5 =>
    have hg : ∀ x : Bf, (grB (V.length + 1) cur.a x).a = x.a ∧ (grB (V.length + 1) cur.a x).c = x.c := fun x => by unfold grB; split <;> exact ⟨rfl, rfl⟩
    refine on_store (by simp) (by simp) (k := 1) (v := ((V.length + 1 : Nat) : Int)) ?_ wr1 (by omega) rfl (hM.push v a3 a4 hb) (.idle (.inr rfl) (ended_fit 2 0) (by simp) (by rw [(hg cur).2]; exact a2)) (Fr.push V v top (fun x hx => ⟨_, List.mem_map.2 ⟨x, hx, rfl⟩, (hg x).1, (hg x).2, ?_⟩)) (.push rfl rfl rfl rfl)
    · show ((1 : Int), wrap64 (0 + 1), wrap64 ((V.length : Int) + 1), (0 : Int)) = _
      rw [wrap64_in ((V.length : Int) + 1) (by omega)]
      rfl
    · have := (hM.all x hx).hv
      unfold grB
      split
      · show x.hi ≤ V.length + 1; omega
      · exact Nat.le_refl _
  | @p8 v tt nc a1 a2 a3 a4 a5 a6 =>
    have hst := a2.grow a5 (show 0 < cur.c by omega)
    rw [← a6] at hst
    have hle := hst.le
    have hs : (OpS.mk 0 most 8 0 v tt V.length cur.a cur.c 0 nc 0 0).step A = ((OpS.mk 0 most 8 0 v tt V.length cur.a cur.c 0 nc 0 0).went A.cells.length true, (A.more (1 + nc)).noted ⟨0, 4, A.cells.length, ((1 + nc : Nat) : Int), 0, true⟩) := by
      refine step_by (by simp) (by simp) (k := 4) (y := 0) (z := ((1 + nc : Nat) : Int)) (u := 0) ?_ (did_moreG (by omega) (by omega))
      show ((4 : Int), (0 : Int), wrap64 (1 + (nc : Int)), (0 : Int)) = _
      rw [wrap64_in (1 + (nc : Int)) (by omega)]
      simp
    have e : ((A.more (1 + nc)).noted ⟨0, 4, A.cells.length, ((1 + nc : Nat) : Int), 0, true⟩).val = A.val := funext (fun j => (notedV _ _ j).trans more_val)
    have hl : ((A.more (1 + nc)).noted ⟨0, 4, A.cells.length, ((1 + nc : Nat) : Int), 0, true⟩).cells.length = A.cells.length + 1 + nc := by rw [notedL]; simp [Ar.more]; omega
    unfold ONx
    rw [hs]
    refine ⟨V, top, bot, bs, cur, hand, ?_, ?_, Fr.refl _ _ _, .none rfl rfl rfl, notedS _ _⟩
    · show Mm (Ar.noted _ _).val (Ar.noted _ _).cells.length _ _ _ _ _ _
      rw [e, hl]
      exact ⟨hM.t, hM.b, hM.u, by omega, fun x hx => (hM.all x hx).mem (fun _ _ _ => rfl) (by omega), hM.apart, hM.cin, hM.chi, hM.tv, hM.bv, hM.room, by omega, hM.m1, hM.big⟩
    · show Own (Ar.noted _ _).val (Ar.noted _ _).cells.length _ _ _ _ _ _ _ _ _
      rw [e, hl]
      exact .p9 (na := A.cells.length) a1 hst a3 a4 (by omega) (by omega) ⟨fun x hx => (hM.all x hx).fit, l3, by omega⟩
  | @p9 v tt nc na a1 a2 a3 a4 a5 a6 a7 =>
    have n3 := a7.n3
    have nf := a7.fit
    exact on_store (by simp) (by simp) (k := na) rfl rfl (by omega) rfl (hM.far nc n3 a7.far) (.p10 (ix := tt) a1 a2 a3 a4 a5 a6 a7 (if_pos rfl) (Nat.le_refl _) (by omega) (fun i i1 i2 => by omega)) (Fr.refl _ _ _) (.none rfl rfl rfl)
  | @p10 v mv tt nc na ix a1 a2 a3 a4 a5 a6 a7 a8 a9 a10 a11 =>
    have hml := Nat.mod_lt ix (show 0 < cur.c by omega)
    exact on_load hM (by simp) (by simp) (k := cur.a + 1 + ix % cur.c) rfl (place_nat cur.a cur.c ix (by omega) hc1) (by omega) rfl rfl (.p11 a1 a2 a3 a4 a5 a6 a7 a8 a9 a10 a11 (fun e => gc.elem ix e (by rw [hM.chi]; exact a10)))
  | @p11 v mv tt nc na ix a1 a2 a3 a4 a5 a6 a7 a8 a9 a10 a11 a12 => exact step_p11 hM a1 a2 a3 a4 a5 a6 a7 a8 a9 a10 a11 a12
  | @p12 v ix mv tt nc na a1 a2 a3 a4 a5 a6 a7 a8 a9 =>
    exact on_store (by simp) (by simp) (k := 2) (v := (na : Int)) rfl wr2 (by omega) rfl (hM.newb a7 a8 a5 a6 a9) (.p6 (cur := ⟨na, nc, V.length⟩) a1 a2 a3 (by show V.length < tt + nc; omega) (by omega)) (Fr.newb _ _ _ _) (.none rfl rfl rfl)
  | q13 a1 a2 =>
    refine on_load hM (by simp) (by simp) (k := 1) rfl wr1 (by omega) (hM.b.trans a1) ?_ (.q14 a1 a2)
    show OpS.mk 0 most 14 0 0 0 (wrap64 ((V.length : Int) - 1)) 0 0 0 0 0 0 = _
    rw [wrap64_in _ (by omega)]
  | q14 a1 a2 => exact on_load hM (by simp) (by simp) (k := 2) rfl wr2 (by omega) hM.u rfl (.q15 a1 a2)
  | q15 a1 a2 => exact on_store (by simp) (by simp) (k := 1) rfl wr1 (by omega) rfl (hM.bottom ((V.length : Int) - 1) (by omega)) (.q16 rfl a2) (Fr.refl _ _ _) (.none rfl rfl rfl)
  | q16 a1 a2 =>
    by_cases c1 : top = V.length
    · refine on_load hM (by simp) (by simp) (k := 0) rfl wr0 (by omega) hM.t (o1 := ⟨0, most, 17, 0, 0, V.length, (V.length : Int) - 1, cur.a, 0, 0, 0, 0, 0⟩) ?_ (.q17 (by omega) a2 c1)
      show (if (V.length : Int) - 1 < (top : Int) then _ else _) = _
      rw [if_pos (by omega), c1]
    · obtain ⟨b, hbv⟩ : ∃ b, V.length = b + 1 := ⟨V.length - 1, by omega⟩
      have hb1 : (V.length : Int) - 1 = (b : Int) := by omega
      rw [hb1]
      by_cases c2 : top = b
      · refine on_load hM (by simp) (by simp) (k := 0) rfl wr0 (by omega) hM.t (o1 := ⟨0, most, 18, 0, 0, b, b, cur.a, 0, 0, 0, 0, 0⟩) ?_ (.q18b hbv (by omega) a2 (.inl c2))
        show (if (b : Int) < (top : Int) then _ else _) = _
        rw [if_neg (by omega), c2]
      · have hs := stLoad (o := ⟨0, most, 16, 0, 0, 0, b, cur.a, 0, 0, 0, 0, 0⟩) (A := A) (k := 0) (y := wrap64 0) (by simp) (by simp) rfl wr0 (by omega) hM.t
        have hw : (OpS.mk 0 most 16 0 0 0 b cur.a 0 0 0 0 0).went (top : Int) true = ⟨0, most, 18, 0, 0, top, b, cur.a, 0, 0, 0, 0, 0⟩ := by
          show (if (b : Int) < (top : Int) then _ else _) = _
          rw [if_neg (by omega)]
        rw [hw] at hs
        have hlen : (V.take b).length = b := by rw [List.length_take]; omega
        unfold ONx
        rw [hs]
        have e : (A.noted ⟨0, 0, ((0 : Nat) : Int), (top : Int), 0, true⟩).val = A.val := funext (notedV A _)
        refine ⟨V.take b, top, bot, bs.map (cutB b), cutB b cur, V.getD b 0, ?_, ?_, Fr.pop V top b bs (by omega) (by omega), .pop b rfl hbv rfl (by omega) rfl rfl, notedS _ _⟩
        · show Mm (Ar.noted _ _).val (Ar.noted _ _).cells.length _ _ _ _ _ _
          rw [e, notedL]
          exact hM.pop b (by omega) (by omega) (by omega)
        · show Own (Ar.noted _ _).val (Ar.noted _ _).cells.length _ _ _ _ _ _ _ _ _
          rw [e, notedL]
          have := Own.q18a (m := A.val) (len := A.cells.length) (most := most) (size := size) (V := V.take b) (top := top) (bot := bot) (bs := bs.map (cutB b)) (cur := cutB b cur) (hand := V.getD b 0) (tt := top) (by rw [hlen]; omega) a2 (by rw [hlen]; omega) (by rw [hlen]; exact gc.elem b (by omega) (by rw [hM.chi]; omega))
          rw [hlen] at this
          exact this
  | @q17 b a1 a2 a3 => exact on_store (by simp) (by simp) (k := 1) rfl wr1 (by omega) rfl (hM.bottom (V.length : Int) (by omega)) (.idle (.inr rfl) (ended_fit 5 0) rfl a2) (Fr.refl _ _ _) (.none rfl rfl rfl)
  | @q18a tt a1 a2 a3 a4 =>
    refine on_load hM (by simp) (by simp) (k := cur.a) rfl rfl (by omega) gc.cap ?_ (.q19a a1 a2 a3 a4)
    show flatS _ 19 = _
    unfold flatS
    rw [if_neg (by show ¬ (cur.c : Int) < 1; omega)]
  | @q19a tt a1 a2 a3 a4 =>
    have hml := Nat.mod_lt V.length (show 0 < cur.c by omega)
    refine on_load hM (by simp) (by simp) (k := cur.a + 1 + V.length % cur.c) rfl (place_nat cur.a cur.c V.length (by omega) hc1) (by omega) a4 (o1 := OpS.ended 4 hand) ?_ (.idle (.inr rfl) (ended_fit 4 hand) a1 a2)
    show (if (tt : Int) < (V.length : Int) then _ else _) = _
    rw [if_pos (by omega)]
  | @q18b b a1 a2 a3 a4 =>
    refine on_load hM (by simp) (by simp) (k := cur.a) rfl rfl (by omega) gc.cap ?_ (.q19b a1 a2 a3 a4)
    show flatS _ 19 = _
    unfold flatS
    rw [if_neg (by show ¬ (cur.c : Int) < 1; omega)]
  | @q19b b a1 a2 a3 a4 =>
    have hml := Nat.mod_lt b (show 0 < cur.c by omega)
    refine on_load hM (by simp) (by simp) (k := cur.a + 1 + b % cur.c) rfl (place_nat cur.a cur.c b (by omega) hc1) (by omega) rfl ?_ (.q20 a1 a2 a3 a4 (fun e => gc.elem b (by omega) (by rw [hM.chi]; omega)))
    show (if (b : Int) < (b : Int) then _ else _) = _
    rw [if_neg (by omega)]
  | @q20 b v a1 a2 a3 a4 a5 =>
    by_cases e : top = b
    · have hs : (OpS.mk 0 most 20 0 v b b cur.a cur.c 0 0 0 0).step A = ((OpS.mk 0 most 20 0 v b b cur.a cur.c 0 0 0 0).went 0 true, (A.put 0 ((top + 1 : Nat) : Int)).noted ⟨0, 2, ((0 : Nat) : Int), (top : Int), ((top + 1 : Nat) : Int), true⟩) := by
        refine step_by (by simp) (by simp) (k := 2) (y := ((0 : Nat) : Int)) (z := (top : Int)) (u := ((top + 1 : Nat) : Int)) ?_ (did_casG (by omega) hM.t)
        show ((2 : Int), wrap64 0, (b : Int), wrap64 ((b : Int) + 1)) = _
        rw [wrap64_in ((b : Int) + 1) (by omega), wr0, e]
        simp
      have ev : ((A.put 0 ((top + 1 : Nat) : Int)).noted ⟨0, 2, ((0 : Nat) : Int), (top : Int), ((top + 1 : Nat) : Int), true⟩).val = fun k => if k = 0 then ((top + 1 : Nat) : Int) else A.val k := funext (fun j => (notedV _ _ j).trans (put_val (by omega)))
      have hw : (OpS.mk 0 most 20 0 v b b cur.a cur.c 0 0 0 0).went 0 true = ⟨0, most, 21, 4, v, b, b, cur.a, cur.c, 0, 0, 0, 0⟩ := rfl
      unfold ONx
      rw [hs, hw]
      refine ⟨V, top + 1, bot, bs, cur, hand, ?_, ?_, Fr.cas _ _ _, .last rfl rfl (by omega) rfl rfl (by rw [e]; exact a5 e), notedS _ _⟩
      · show Mm (Ar.noted _ _).val (Ar.noted _ _).cells.length _ _ _ _ _ _
        rw [ev, notedL, put_cells]
        exact hM.cas (by omega)
      · show Own (Ar.noted _ _).val (Ar.noted _ _).cells.length _ _ _ _ _ _ _ _ _
        rw [ev, notedL, put_cells]
        exact .q21 a1 a2 a3 (by omega)
    · have hs : (OpS.mk 0 most 20 0 v b b cur.a cur.c 0 0 0 0).step A = ((OpS.mk 0 most 20 0 v b b cur.a cur.c 0 0 0 0).went 0 false, A.noted ⟨0, 2, ((0 : Nat) : Int), (b : Int), ((b + 1 : Nat) : Int), false⟩) := by
        refine step_by (by simp) (by simp) (k := 2) (y := ((0 : Nat) : Int)) (z := (b : Int)) (u := ((b + 1 : Nat) : Int)) ?_ (did_casN (by omega) (by rw [hM.t]; omega))
        show ((2 : Int), wrap64 0, (b : Int), wrap64 ((b : Int) + 1)) = _
        rw [wrap64_in ((b : Int) + 1) (by omega), wr0]
        simp
      have ev : (A.noted ⟨0, 2, ((0 : Nat) : Int), (b : Int), ((b + 1 : Nat) : Int), false⟩).val = A.val := funext (notedV A _)
      have hw : (OpS.mk 0 most 20 0 v b b cur.a cur.c 0 0 0 0).went 0 false = ⟨0, most, 21, 5, 0, b, b, cur.a, cur.c, 0, 0, 0, 0⟩ := rfl
      unfold ONx
      rw [hs, hw]
      refine ⟨V, top, bot, bs, cur, hand, ?_, ?_, Fr.refl _ _ _, .none rfl rfl rfl, notedS _ _⟩
      · show Mm (Ar.noted _ _).val (Ar.noted _ _).cells.length _ _ _ _ _ _
        rw [ev, notedL]
        exact hM
      · show Own (Ar.noted _ _).val (Ar.noted _ _).cells.length _ _ _ _ _ _ _ _ _
        rw [ev, notedL]
        exact .q21 a1 a2 a3 (by omega)
  | @q21 b code v a1 a2 a3 a4 =>
    refine on_store (by simp) (by simp) (k := 1) (v := (V.length : Int)) ?_ wr1 (by omega) (o1 := OpS.ended code v) rfl (hM.bottom (V.length : Int) (by omega)) (.idle (.inr rfl) (ended_fit code v) rfl a3) (Fr.refl _ _ _) (.none rfl rfl rfl)
    show ((1 : Int), wrap64 (0 + 1), wrap64 ((b : Int) + 1), (0 : Int)) = _
    rw [wrap64_in ((b : Int) + 1) (by omega), a1]
    simp
end
end Go.Proofs.Ytaeooljfilkaeaa
/-! A play of a deque: plainly, and in memory. -/
namespace Go.Proofs.Ytaeooljfilkaeaa
open Go.RowKit Go.HeapKit Go.IntWalk

theorem own_sets8 {w : World} {e : TypeId} {s g n cap : Nat} {xs : List Value} (h : w.ownsRow 0 e s (.slice (some ⟨g, 0, none⟩) n cap) n xs) (k : Nat) (vs : List Value) (hk : k + vs.length ≤ n * s) :
    (setsFrom w g k vs).ownsRow 0 e s (.slice (some ⟨g, 0, none⟩) n cap) n (xs.take k ++ vs ++ xs.drop (k + vs.length)) := by
  rcases h.2 with ⟨h0, _⟩ | ⟨g', cap', cur, he, hb, hg, hn, hm, hcs, ht⟩
  · cases h0
  · injection he with e1 e2 e3
    injection e1 with e1
    injection e1 with e1
    subst e1 e3
    have hle : n * s ≤ cap * s := Nat.mul_le_mul_right _ hn
    obtain ⟨c', h1, h2⟩ := setsFrom_block g e vs k w cur hg (by rw [hcs]; omega)
    have hxl : xs.length = n * s := by rw [← ht]; simp; omega
    have hcl : cur.toList.length = cap * s := by simpa using hcs
    refine ⟨by simp only [List.length_append, List.length_take, List.length_drop]; omega, .inr ⟨g, cap, c', rfl, hb, h1, hn, hm, ?_, ?_⟩⟩
    · have := congrArg List.length h2
      simp only [List.length_append, List.length_take, List.length_drop, hcl, Array.length_toList] at this
      omega
    · rw [h2, ← ht]
      apply List.ext_getElem?
      intro i
      simp only [List.getElem?_take, List.getElem?_append, List.length_append, List.length_take, List.getElem?_drop, hcl]
      have e1 : min k (min (n * s) (cap * s)) = k := by omega
      have e2 : min k (cap * s) = k := by omega
      have e3 : min (n * s) (cap * s) = n * s := by omega
      simp only [e2, e3]
      have e4 : min k (n * s) = k := by omega
      simp only [e4]
      by_cases a1 : i < n * s
      · by_cases a2 : i < k + vs.length
        · by_cases a3 : i < k
          · simp [a1, a2, a3]
          · simp [a1, a2, a3]
        · have a4 : k + vs.length + (i - (k + vs.length)) < n * s := by omega
          simp [a1, a2, a4]
      · have a2 : ¬ i < k + vs.length := by omega
        have a4 : ¬ k + vs.length + (i - (k + vs.length)) < n * s := by omega
        simp [a1, a2, a4]
def rowVals {α : Type} (f : α → Array Value) (l : List α) : List Value := l.flatMap (fun x => (f x).toList)
section
variable {α : Type} {f : α → Array Value} {s : Nat}
theorem rowVals_app (l : List α) (x : α) : rowVals f (l ++ [x]) = rowVals f l ++ (f x).toList := by simp [rowVals]
theorem rowVals_length (hs : ∀ x, (f x).size = s) (l : List α) : (rowVals f l).length = l.length * s := by
  induction l with
  | nil => simp [rowVals]
  | cons x l ih => simp only [rowVals, List.flatMap_cons, List.length_append, Array.length_toList, hs, List.length_cons] at ih ⊢; rw [ih, Nat.add_mul]; omega
theorem rowVals_at (hs : ∀ x, (f x).size = s) (l : List α) (k : Nat) (x : α) (h : l[k]? = some x) (j : Nat) (u : Value) (hu : (f x)[j]? = some u) : (rowVals f l)[k * s + j]? = some u := by
  have hj : j < s := by have := (Array.getElem?_eq_some_iff.1 hu).1; rw [hs] at this; exact this
  induction l generalizing k with
  | nil => simp at h
  | cons y l ih =>
    have e : rowVals f (y :: l) = (f y).toList ++ rowVals f l := rfl
    rw [e]
    cases k with
    | zero => simp at h; subst h; rw [List.getElem?_append_left (by simp [hs]; omega)]; simpa using hu
    | succ k =>
      have e2 : (k + 1) * s + j = s + (k * s + j) := by rw [Nat.add_mul]; omega
      rw [e2, List.getElem?_append_right (by simp [hs]), show (f y).toList.length = s by simp [hs], Nat.add_sub_cancel_left]
      exact ih k (by simpa using h)
theorem rowVals_set (hs : ∀ x, (f x).size = s) (l : List α) (k : Nat) (hk : k < l.length) (x : α) :
    (rowVals f l).take (k * s) ++ (f x).toList ++ (rowVals f l).drop (k * s + (f x).toList.length) = rowVals f (l.set k x) := by
  induction l generalizing k with
  | nil => simp at hk
  | cons y l ih =>
    have e : rowVals f (y :: l) = (f y).toList ++ rowVals f l := rfl
    have hx : (f x).toList.length = s := by simp [hs]
    have hy : (f y).toList.length = s := by simp [hs]
    cases k with
    | zero =>
      rw [e, hx]
      simp only [Nat.zero_mul, Nat.zero_add, List.take_zero, List.nil_append, List.set_cons_zero]
      rw [List.drop_append_of_le_length (by omega), List.drop_of_length_le (by omega)]
      rfl
    | succ k =>
      have h2 := ih k (by simpa using hk)
      rw [hx] at h2
      rw [e, hx, show (k + 1) * s = s + k * s by rw [Nat.add_mul]; omega]
      have e1 : ((f y).toList ++ rowVals f l).take (s + k * s) = (f y).toList ++ (rowVals f l).take (k * s) := by
        rw [List.take_append, hy, List.take_of_length_le (by omega), Nat.add_sub_cancel_left]
      have e2 : ((f y).toList ++ rowVals f l).drop (s + k * s + s) = (rowVals f l).drop (k * s + s) := by
        rw [List.drop_append, hy, List.drop_of_length_le (by omega), show s + k * s + s - s = k * s + s by omega]
        simp
      rw [e1, e2]
      simp only [List.set_cons_succ, List.append_assoc] at h2 ⊢
      rw [h2]
      rfl
end
structure Tod where
  kind : Int
  v : Int
@[ext] structure Cal where
  who : Int
  kind : Int
  arg : Int
  bg : Int
  en : Int
  code : Int
  v : Int
def Cal.vals (c : Cal) : Array Value := #[.int .i64 c.who, .int .i64 c.kind, .int .i64 c.arg, .int .i64 c.bg, .int .i64 c.en, .int .i64 c.code, .int .i64 c.v]
/-- An actor: its machine, and which of the calls that is. -/
structure Dac where
  op : OpS
  call : Int
def Dac.vals (a : Dac) : Array Value := #[.int .i64 a.op.base, .int .i64 a.op.most, .int .i64 a.op.at_, .int .i64 a.op.code, .int .i64 a.op.v, .int .i64 a.op.t, .int .i64 a.op.b, .int .i64 a.op.a, .int .i64 a.op.c, .int .i64 a.op.na, .int .i64 a.op.nc, .int .i64 a.op.ix, .int .i64 a.op.mv, .int .i64 a.call]
theorem Cal.vals_size (c : Cal) : c.vals.size = 7 := rfl
theorem Dac.vals_size (a : Dac) : a.vals.size = 14 := rfl
structure Dpl where
  A : Ar
  base : Int
  most : Int
  todos : List Tod
  acts : List Dac
  calls : List Cal
def pushO (b m v : Int) : OpS := ⟨b, m, 2, 0, v, 0, 0, 0, 0, 0, 0, 0, 0⟩
def popO (b m : Int) : OpS := ⟨b, m, 13, 0, 0, 0, 0, 0, 0, 0, 0, 0, 0⟩
def stealO (b m : Int) : OpS := ⟨b, m, 22, 0, 0, 0, 0, 0, 0, 0, 0, 0, 0⟩
/-- An actor gets its next machine, if there is one. -/
def Dpl.begin (S : Dpl) (n who : Nat) : Option Dpl :=
  if who ≠ 0 then some { S with acts := S.acts.set who ⟨stealO S.base S.most, S.calls.length⟩, calls := S.calls ++ [⟨who, 2, 0, n, -1, 0, 0⟩] }
  else match S.todos with
    | [] => none
    | t :: ts =>
      if t.kind = 0 then some { S with todos := ts, acts := S.acts.set who ⟨pushO S.base S.most t.v, S.calls.length⟩, calls := S.calls ++ [⟨who, t.kind, t.v, n, -1, 0, 0⟩] }
      else some { S with todos := ts, acts := S.acts.set who ⟨popO S.base S.most, S.calls.length⟩, calls := S.calls ++ [⟨who, t.kind, 0, n, -1, 0, 0⟩] }
def Dac.zero : Dac := ⟨OpS.zero, 0⟩
/-- The actor's op makes a step; its call is told if it has ended. -/
noncomputable def Dpl.goes (S : Dpl) (n who : Nat) : Dpl :=
  let a := S.acts.getD who Dac.zero
  let r := a.op.step { S.A with actor := who }
  let S1 : Dpl := { S with A := r.2, acts := S.acts.set who ⟨r.1, a.call⟩ }
  if r.1.ans.1 = 0 then S1
  else { S1 with calls := S.calls.modify a.call.toNat (fun c => { c with en := n, code := r.1.ans.1, v := r.1.ans.2 }) }
noncomputable def Dpl.pick (S : Dpl) (n who : Nat) : Dpl :=
  if (S.acts.getD who Dac.zero).op.ans.1 = 0 then S.goes n who
  else match S.begin n who with
    | none => S
    | some S1 => S1.goes n who
theorem Try.infoCal : (Try.prog.info? 45).map (fun i => (i.zero, i.size, i.bytes)) = some (some (.agg #[.int .i64 0, .int .i64 0, .int .i64 0, .int .i64 0, .int .i64 0, .int .i64 0, .int .i64 0]), 7, 56) := by kernel_rfl
theorem cal_append (va : Value) (l : List Cal) (a : Cal) (g ty : Nat) (w : World) (h : w.ownsRow 0 45 7 va l.length (rowVals Cal.vals l)) (hlen : l.length < 10000000)
    (hg : w.heap[g]? = some (.cells a.vals 45 (0, 0))) :
    ∃ b cap w', (Builtin.append_ #[28, 28] ty #[va, .slice (some ⟨g, 0, none⟩) 1 1]).run Try.prog w = .ok (.slice (some ⟨b, 0, none⟩) (l.length + 1) cap) w' ∧
      w'.ownsRow 0 45 7 (.slice (some ⟨b, 0, none⟩) (l.length + 1) cap) (l.length + 1) (rowVals Cal.vals (l ++ [a])) ∧ w.grownBy w' va.ownBlock ∧ Moved w va (.slice (some ⟨b, 0, none⟩) (l.length + 1) cap) := by
  obtain ⟨i0, hi, hz0, hz1, hz2⟩ := info_parts Try.infoCal
  obtain ⟨v', w', hr, ho, hgr, hm, -⟩ := run_append_moved (P := Try.prog) w 0 28 ty 45 i0 _ 7 56 Try.underlying28 hi hz0 hz1 hz2 rfl (by decide) va l.length (rowVals Cal.vals l) h
    ⟨g, 0, none⟩ 1 1 a.vals.toList rfl (by
      intro j u hu
      rw [show (⟨g, 0, none⟩ : Addr).add j = ⟨g, j, none⟩ by unfold Addr.add; split <;> simp_all, cell_of_block hg]
      simpa using hu) (by
      intro u hu
      simp [Cal.vals] at hu
      rcases hu with rfl | rfl | rfl | rfl | rfl | rfl | rfl <;> rfl) (by unfold maxLen; omega) (by omega) (Nat.zero_le _)
  rw [← rowVals_app] at ho
  rcases ho.2 with ⟨_, h0⟩ | ⟨b, cap, cur, rfl, _⟩
  · omega
  · exact ⟨b, cap, w', hr, ho, hgr, hm⟩
/-- The todos that are left, as they came in. -/
def TodoAt (w : World) (ta : Option Addr) (ts : List Tod) : Prop := 0 < ts.length → ∃ b off, ta = some ⟨b, off, none⟩ ∧ b < w.heap.size ∧ ∀ i t, ts[i]? = some t → w.cell? ⟨b, off + i * 2, none⟩ = some (.int .i64 t.kind) ∧ w.cell? ⟨b, off + i * 2 + 1, none⟩ = some (.int .i64 t.v)
def GDp (P : Nat) (va vc : Value) (k : Nat) : Prop := k = P ∨ va.ownBlock = some k ∨ vc.ownBlock = some k
structure IsDp (w0 w : World) (P p : Nat) (F : Nat → Prop) (ta : Option Addr) (tc : Nat) (va vc : Value) (S : Dpl) : Prop where
  blk : w.heap[P]? = some (.cells #[.pointer (some ⟨p, 0, none⟩), .int .i64 S.base, .int .i64 S.most, .slice ta S.todos.length tc, va, vc] 68 (0, 0))
  ar : ArF w p F S.A
  ac : w.ownsRow 0 121 14 va S.acts.length (rowVals Dac.vals S.acts)
  ca : w.ownsRow 0 45 7 vc S.calls.length (rowVals Cal.vals S.calls)
  off : ∀ k, F k → ¬ GDp P va vc k
  kp : Keeps None w0 w
  lo : ∀ k, F k ∨ GDp P va vc k → w0.heap.size ≤ k
  td : TodoAt w0 ta S.todos
  fit : S.todos.length ≤ tc
section
variable {w0 w wx : World} {P p : Nat} {F : Nat → Prop} {ta : Option Addr} {tc : Nat} {va vc vc' : Value} {S : Dpl}
theorem IsDp.lt (h : IsDp w0 w P p F ta tc va vc S) : P < w.heap.size := (Array.getElem?_eq_some_iff.1 h.blk).1
theorem IsDp.glt (h : IsDp w0 w P p F ta tc va vc S) {k : Nat} (hk : GDp P va vc k) : k < w.heap.size := by
  rcases hk with rfl | e | e
  · exact h.lt
  · exact own_lt h.ac e
  · exact own_lt h.ca e
theorem IsDp.kept (h : IsDp w0 w P p F ta tc va vc S) (hk : Keeps None w wx) : IsDp w0 wx P p F ta tc va vc S :=
  ⟨(hk.block P h.lt (fun f => f)).trans h.blk, h.ar.kept hk (fun _ _ f => f), hk.own h.ac (fun _ _ f => f), hk.own h.ca (fun _ _ f => f), h.off, h.kp.trans hk (fun _ f _ => f), h.lo, h.td, h.fit⟩
theorem IsDp.acc {B : Ar} (h : IsDp w0 w P p F ta tc va vc S) (h2 : AA w wx p F B) : ∃ F', IsDp w0 wx P p F' ta tc va vc { S with A := B } := by
  obtain ⟨F2, g2, hk, hf⟩ := h2
  have hs := h.kp.size
  have hG : ∀ k, GDp P va vc k → ¬ F k := fun k g f => h.off k f g
  refine ⟨F2, (hk.block P h.lt (hG P (.inl rfl))).trans h.blk, g2, hk.own h.ac (fun k e => hG k (.inr (.inl e))), hk.own h.ca (fun k e => hG k (.inr (.inr e))), fun k f g => ?_, h.kp.trans hk (fun i f hi => by have := h.lo i (.inl f); omega), fun k f => ?_, h.td, h.fit⟩
  · rcases hf k f with f | f
    · exact h.off k f g
    · have := h.glt g; omega
  · rcases f with f | f
    · rcases hf k f with f | f
      · exact h.lo k (.inl f)
      · omega
    · exact h.lo k (.inr f)
theorem IsDp.nP (h : IsDp w0 w P p F ta tc va vc S) : va.ownBlock ≠ some P ∧ vc.ownBlock ≠ some P :=
  ⟨fun e => absurd (own_type h.ac e h.blk) (by decide), fun e => absurd (own_type h.ca e h.blk) (by decide)⟩
theorem IsDp.nac (h : IsDp w0 w P p F ta tc va vc S) {k : Nat} (e : va.ownBlock = some k) : vc.ownBlock ≠ some k := own_apart h.ac h.ca (by decide) e
/-- An actor is written over. -/
theorem IsDp.actset (h : IsDp w0 w P p F ta tc va vc S) {g c i : Nat} (hv : va = .slice (some ⟨g, 0, none⟩) S.acts.length c) (hi : i < S.acts.length) (a : Dac) : IsDp w0 (setsFrom w g (i * 14) a.vals.toList) P p F ta tc va vc { S with acts := S.acts.set i a } := by
  have hgb : va.ownBlock = some g := by rw [hv]; rfl
  have hk := setsFrom_keeps g a.vals.toList (i * 14) w
  have hac := h.ac
  refine ⟨(hk.block P h.lt (fun e => h.nP.1 (e ▸ hgb))).trans h.blk, h.ar.kept hk (fun k f e => h.off k f (.inr (.inl (e ▸ hgb)))), ?_, hk.own h.ca (fun k e e2 => h.nac (e2 ▸ hgb) e), h.off, h.kp.trans hk (fun k e hk => by have := h.lo g (.inr (.inr (.inl hgb))); omega), h.lo, h.td, h.fit⟩
  show (setsFrom w g (i * 14) a.vals.toList).ownsRow 0 121 14 va (S.acts.set i a).length (rowVals Dac.vals (S.acts.set i a))
  rw [List.length_set, ← rowVals_set Dac.vals_size S.acts i hi a]
  rw [hv] at hac ⊢
  exact own_sets8 hac (i * 14) a.vals.toList (by have : a.vals.toList.length = 14 := rfl; omega)
end
end Go.Proofs.Ytaeooljfilkaeaa
/-! A push that grows: its first six accesses. -/
namespace Go.Proofs.Ytaeooljfilkaeaa
open Go.RowKit Go.HeapKit Go.IntWalk Go.PlainOps

section
theorem grow_head {A : Ar} {most t a c c2 : Nat} {l : List Int} {v : Int} {n : Nat} {o2 : OpS} {A2 : Ar} (hon : A.on = false) (hlog : A.log = []) (top : A.val 0 = t) (bot : A.val 1 = (t + l.length : Nat)) (buf : A.val 2 = a) (cap : A.val a = c)
    (k0 : 0 < A.cells.length) (k1 : 1 < A.cells.length) (k2 : 2 < A.cells.length) (ka : a < A.cells.length) (kL : A.cells.length < (A.more (1 + c2)).cells.length) (hfit : A.cells.length + (1 + c2) ≤ A.size) (fc : (c : Int) ≤ 9223372036854775807) (fnc : (c2 : Int) ≤ 9223372036854775807)
    (em : measuredS (OpS.mk 0 most 5 0 v t ((t + l.length : Nat) : Int) a c 0 0 0 0) = OpS.mk 0 most 8 0 v t ((t + l.length : Nat) : Int) a c 0 c2 0 0) (e1c : wrap64 (1 + (c2 : Int)) = ((1 + c2 : Nat) : Int))
    (hg : Goes (OpS.mk 0 most 10 0 v t ((t + l.length : Nat) : Int) a c A.cells.length c2 t 0) ((A.more (1 + c2)).put A.cells.length c2) n o2 A2) : Goes (OpS.mk 0 most 2 0 v 0 0 0 0 0 0 0 0) A (n + 1 + 1 + 1 + 1 + 1 + 1) o2 A2 := by
  refine goLoad (o := OpS.mk 0 most 2 0 v 0 0 0 0 0 0 0 0) (o1 := OpS.mk 0 most 3 0 v 0 ((t + l.length : Nat) : Int) 0 0 0 0 0 0) (k := 1) ⟨.inr ⟨by simp, by simp⟩, by simp, by simp⟩ hon hlog (by simp) (by simp) rfl wr1 k1 bot rfl ?_
  refine goLoad (o := OpS.mk 0 most 3 0 v 0 ((t + l.length : Nat) : Int) 0 0 0 0 0 0) (o1 := OpS.mk 0 most 4 0 v t ((t + l.length : Nat) : Int) 0 0 0 0 0 0) (k := 0) ⟨.inr ⟨by simp, by simp⟩, by simp, by simp⟩ hon hlog (by simp) (by simp) rfl wr0 k0 top rfl ?_
  refine goLoad (o := OpS.mk 0 most 4 0 v t ((t + l.length : Nat) : Int) 0 0 0 0 0 0) (o1 := OpS.mk 0 most 5 0 v t ((t + l.length : Nat) : Int) a 0 0 0 0 0) (k := 2) ⟨.inr ⟨by simp, by simp⟩, by simp, by simp⟩ hon hlog (by simp) (by simp) rfl wr2 k2 buf rfl ?_
  refine goLoad (o := OpS.mk 0 most 5 0 v t ((t + l.length : Nat) : Int) a 0 0 0 0 0) (o1 := OpS.mk 0 most 8 0 v t ((t + l.length : Nat) : Int) a c 0 c2 0 0) (k := a) ⟨.inr ⟨by simp, by simp⟩, by simp, by simp⟩ hon hlog (by simp) (by simp) rfl rfl ka cap em ?_
  refine goMore (o := OpS.mk 0 most 8 0 v t ((t + l.length : Nat) : Int) a c 0 c2 0 0) (o1 := OpS.mk 0 most 9 0 v t ((t + l.length : Nat) : Int) a c A.cells.length c2 0 0) (k := 1 + c2) ⟨.inr ⟨by simp, by simp⟩, fc, fnc⟩ hon hlog (by simp) (by simp) rfl e1c (Nat.lt_of_lt_of_le Nat.zero_lt_one (Nat.le_add_right 1 c2)) hfit rfl ?_
  exact goStore (o := OpS.mk 0 most 9 0 v t ((t + l.length : Nat) : Int) a c A.cells.length c2 0 0) (o1 := OpS.mk 0 most 10 0 v t ((t + l.length : Nat) : Int) a c A.cells.length c2 t 0) (k := A.cells.length) (v := c2) ⟨.inr ⟨by simp, by simp⟩, fc, fnc⟩ (show (A.more _).on = false from hon) (show (A.more _).log = [] from hlog) (by simp) (by simp) rfl rfl kL rfl hg
theorem em_grow {most t a c c2 : Nat} {l : List Int} {v : Int} (hl : l.length = c) (hc1 : 1 ≤ c) (hcm2 : c < most) (hb : t + l.length < 1125899906842624) (Eg : grownV c most = (c2 : Int)) : measuredS (OpS.mk 0 most 5 0 v t ((t + l.length : Nat) : Int) a c 0 0 0 0) = OpS.mk 0 most 8 0 v t ((t + l.length : Nat) : Int) a c 0 c2 0 0 := by
  have ed : wrap64 (((t + l.length : Nat) : Int) - t) = l.length := by rw [wrap64_in _ (by clear Eg; omega)]; clear Eg; omega
  have n1 : ¬ (c : Int) < 1 := by clear Eg ed; omega
  have n2 : ¬ ((l.length : Nat) : Int) < (c : Int) := by clear Eg ed; omega
  have n3 : ¬ (most : Int) ≤ (c : Int) := by clear Eg ed; omega
  unfold measuredS
  simp only [ed]
  rw [if_neg n1, if_neg n2, if_neg n3, Eg]
theorem push_grow {A : Ar} {most t a c : Nat} {l : List Int} {v : Int} (h : Dq A most l t a c) (hl : l.length = c) (hcm2 : c < most) (hb : t + l.length < 1125899906842624) (hs : A.cells.length ≤ A.size) :
    ∃ A' a' c', Goes (OpS.mk 0 most 2 0 v 0 0 0 0 0 0 0 0) A (9 + 2 * l.length) (OpS.ended 2 0) A' ∧ Dq A' most (l ++ [v]) t a' c' ∧ A'.cells.length ≤ A'.size ∧ A'.size = A.size := by
  have hc1 := h.c1
  have hcm := h.cm
  have hm1 := h.m1
  have k2 := h.lt2
  have hfit := h.fit
  have ha3 := h.a3
  have fc : (c : Int) ≤ 9223372036854775807 := by omega
  have ka : a < A.cells.length := by omega
  have hL3 : 3 ≤ A.cells.length := by omega
  have hc4 : c ≤ 4096 := by omega
  obtain ⟨c2, hcc, hcx, Eg, hst⟩ : ∃ c2 : Nat, c < c2 ∧ c2 ≤ most ∧ grownV c most = (c2 : Int) ∧ cellsFrom most c2 (A.cells.length + 1 + c2) = A.size :=
    ⟨min (2 * c) most, Nat.lt_min.2 ⟨Nat.lt_of_lt_of_le (Nat.lt_add_of_pos_right hc1) (Nat.le_of_eq (Nat.two_mul c).symm), hcm2⟩, Nat.min_le_right _ _, grown_nat c most hc4, (cellsFrom_step (n := A.cells.length) hcm2 hc1).symm.trans h.room⟩
  have hLs : A.cells.length + 1 + c2 ≤ A.size := Nat.le_trans (le_cellsFrom most c2 (A.cells.length + 1 + c2)) (Nat.le_of_eq hst)
  have em := em_grow (a := a) (v := v) hl hc1 hcm2 hb Eg
  have hc24 : c2 ≤ 4096 := Nat.le_trans hcx hm1
  have fnc : (c2 : Int) ≤ 9223372036854775807 := by clear Eg hst em hLs; omega
  have e1c : wrap64 (1 + (c2 : Int)) = ((1 + c2 : Nat) : Int) := by
    clear Eg hst em hLs
    rw [wrap64_in _ (by omega)]
    omega
  have hfit2 : A.cells.length + (1 + c2) ≤ A.size := by rw [← Nat.add_assoc]; exact hLs
  have kL : A.cells.length < (A.more (1 + c2)).cells.length := by rw [more_len]; exact Nat.lt_add_of_pos_right (Nat.lt_of_lt_of_le Nat.zero_lt_one (Nat.le_add_right 1 c2))
  obtain ⟨An, mv', hg, hC⟩ := copy_loop (v := v) h hs rfl hcc hc24 (Nat.le_trans hLs h.sz) l.length 0 _ 0 (Nat.zero_add _) (by rw [hl]; exact hc1) (cp_start h.on h.log)
  have hend := grow_end (a := a) (c := c) (v := v) (mv' := mv') (most := most) hC.on hC.log hC.len hL3 (Nat.le_trans hc1 (Nat.le_of_lt hcc)) hc24 hc4 (Nat.le_trans hLs h.sz) hb
  refine ⟨_, _, _, ?_, grow_dq hC hm1 hL3 (by rw [hl]; exact hcc) hcx h.top hst h.sz hb, ?_, hC.size⟩
  · rw [show 9 + 2 * l.length = (3 + 2 * l.length) + 1 + 1 + 1 + 1 + 1 + 1 from Nat.add_right_comm 3 6 _]
    exact grow_head h.on h.log h.top h.bot h.buf h.cap (Nat.lt_of_lt_of_le (by decide) hL3) (Nat.lt_of_lt_of_le (by decide) hL3) k2 ka kL hfit2 fc fnc em e1c (hg.trans hend)
  · rw [put_cells, put_cells, put_cells, hC.len]
    rw [show (((An.put 2 A.cells.length).put (A.cells.length + 1 + (t + l.length) % c2) v).put 1 ((t + l.length + 1 : Nat) : Int)).size = An.size from rfl, hC.size]
    exact hLs
end
end Go.Proofs.Ytaeooljfilkaeaa
