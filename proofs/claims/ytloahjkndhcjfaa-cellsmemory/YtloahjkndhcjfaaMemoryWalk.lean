import Derived.Test.YtloahjkndhcjfaaMemoryPlain
import Derived.Test.YtloahjkndhcjfaaOpenStruct
import Derived.Deep.QuietTactic
import Derived.BigQuiet
/-! The walk of CellsMemory. -/
namespace Go.Proofs.Ytloahjkndhcjfaa
open Go.RowKit Go.HeapKit

theorem _root_.Go.HeapKit.Keeps.drewN0 (w : World) (n : Nat) : Keeps None w (w.drewN n) := ⟨rfl, rfl, rfl, Nat.le_refl _, fun _ _ _ => rfl⟩
theorem mod64 (x : Int) (w : World) : Calls Try.prog 13 #[.int .i64 x, .int .i64 64] w fun e w' => e = .returned (.int .i64 (x % 64)) ∧ w' = w := mod_any x 64 (by decide) (by decide) w

structure MF (w wr : World) (gr gE gC gL b n k : Nat) (E cur : Array Value) (M : Nat → Nat → Int) : Prop where
  below : Below w.heap.size w wr
  r : wr.heap[gr]? = some (.cells #[.slice (some ⟨gE, 0, none⟩) (k + 1) (k + 1), .slice (some ⟨gC, 0, none⟩) n n, .slice (some ⟨gL, 0, none⟩) (k + 1) (k + 1)] 43 (0, 0))
  e : wr.heap[gE]? = some (.cells E 33 (0, 0))
  c : wr.heap[gC]? = some (.cells ((stM n M (k + 1)).cells.map (Value.int .i64)).toArray 2 (0, 0))
  l : wr.heap[gL]? = some (.cells (logVals (stM n M (k + 1)).log).toArray 50 (0, 0))
  a : wr.heap[b]? = some (.cells cur 48 (0, 0))
section
variable {w wr wr' : World} {gr gE gC gL b n k : Nat} {E cur : Array Value} {M : Nat → Nat → Int}
theorem MF.kept (h : MF w wr gr gE gC gL b n k E cur M) (hk : Keeps None wr wr') : MF w wr' gr gE gC gL b n k E cur M := by
  have keep : ∀ {g o}, wr.heap[g]? = some o → wr'.heap[g]? = some o := fun {g o} h => (hk.block g (Array.getElem?_eq_some_iff.1 h).1 (fun f => f)).trans h
  exact ⟨h.below.trans (hk.below _ h.below.size (fun _ f => f.elim)), keep h.r, keep h.e, keep h.c, keep h.l, keep h.a⟩
theorem MF.put (h : MF w wr gr gE gC gL b n k E cur M) {gl : Nat} {LA : Array Value} (hl : wr.heap[gl]? = some (.cells LA 46 (0, 0))) (hg : w.heap.size ≤ gl) (hk : Keeps (· = gl) wr wr') : MF w wr' gr gE gC gL b n k E cur M := by
  have keep : ∀ {g : Nat} {c : Array Value} {T : TypeId} {fz : Nat × Nat}, wr.heap[g]? = some (.cells c T fz) → T ≠ 46 → wr'.heap[g]? = some (.cells c T fz) := fun {g c T fz} h hT => (hk.block g (Array.getElem?_eq_some_iff.1 h).1 (fun e => by subst e; rw [h] at hl; simp at hl; exact hT hl.2.1)).trans h
  exact ⟨h.below.trans (hk.below _ h.below.size (fun i e => by omega)), keep h.r (by decide), keep h.e (by decide), keep h.c (by decide), keep h.l (by decide), keep h.a (by decide)⟩
end
/-- What the cells hold, so far as they go. -/
def Lasts (LA : Array Value) (n : Nat) (cs : List Int) : Prop := LA.size = 64 ∧ ∀ j, j < n → LA[j]? = some (.int .i64 (cs.getD j 0))
theorem Lasts.put {LA : Array Value} {n : Nat} {cs : List Int} (h : Lasts LA n cs) (hcs : cs.length = n) (hn : n ≤ 64) (a : Nat) (v : Int) : Lasts (LA.setIfInBounds a (.int .i64 v)) n (cs.set a v) := by
  refine ⟨by simpa using h.1, fun j hj => ?_⟩
  rw [Array.getElem?_setIfInBounds]
  by_cases e : a = j
  · subst e
    rw [if_pos rfl, if_pos (by have := h.1; omega)]
    simp [List.getD, show a < cs.length by omega]
  · rw [if_neg e, h.2 j hj]
    simp [List.getD, List.getElem?_set_ne e]

/-- What a round reads: the act, the entry, the effect, each in the world in which it is read; 'last' behind the three copies. -/
structure Rd (wr : World) (gr gE gL b gl j k : Nat) (u kind : Int) (a : Nat) (X Y : Int) (acc : Acc) (eff : Eff) (was : Int) : Prop where
  a0 : wr.cell? ⟨b, j * 5, none⟩ = some (.int .i64 u)
  a1 : wr.cell? ⟨b, j * 5 + 1, none⟩ = some (.int .i64 kind)
  a2 : wr.cell? ⟨b, j * 5 + 2, none⟩ = some (.int .i64 a)
  a3 : wr.cell? ⟨b, j * 5 + 3, none⟩ = some (.int .i64 X)
  a4 : wr.cell? ⟨b, j * 5 + 4, none⟩ = some (.int .i64 Y)
  r2 : wr.cell? ⟨gr, 2, none⟩ = some (.slice (some ⟨gL, 0, none⟩) (k + 1) (k + 1))
  r0 : wr.cell? ⟨gr, 0, none⟩ = some (.slice (some ⟨gE, 0, none⟩) (k + 1) (k + 1))
  l0 : wr.cell? ⟨gL, j * 6, none⟩ = some (.int .i64 acc.who)
  l1 : wr.cell? ⟨gL, j * 6 + 1, none⟩ = some (.int .i64 acc.kind)
  l2 : wr.cell? ⟨gL, j * 6 + 2, none⟩ = some (.int .i64 acc.addr)
  l3 : wr.cell? ⟨gL, j * 6 + 3, none⟩ = some (.int .i64 acc.a)
  l4 : wr.cell? ⟨gL, j * 6 + 4, none⟩ = some (.int .i64 acc.b)
  l5 : wr.cell? ⟨gL, j * 6 + 5, none⟩ = some (.bool acc.ok)
  e0 : wr.cell? ⟨gE, j * 3, none⟩ = some (.int .i64 eff.v)
  e1 : wr.cell? ⟨gE, j * 3 + 1, none⟩ = some (.bool eff.ok)
  e2 : wr.cell? ⟨gE, j * 3 + 2, none⟩ = some (.int .i64 eff.err)
  g0 : wr.cell? ⟨gl, a, none⟩ = some (.int .i64 was)
  z0 : wr.frozen? ⟨gl, a, none⟩ = false
theorem Rd.alloc {wr : World} {gr gE gL b gl j k : Nat} {u kind : Int} {a : Nat} {X Y : Int} {acc : Acc} {eff : Eff} {was : Int} (h : Rd wr gr gE gL b gl j k u kind a X Y acc eff was) (o : Obj) : Rd (wr.alloc o) gr gE gL b gl j k u kind a X Y acc eff was := by
  have hk := Keeps.alloc None wr o
  have hz : (wr.alloc o).frozen? ⟨gl, a, none⟩ = false := by
    have hlt : gl < wr.heap.size := by
      have := h.g0
      cases hb : wr.heap[gl]? with
      | none => simp [World.cell?, hb] at this
      | some o => exact (Array.getElem?_eq_some_iff.1 hb).1
    exact (World.frozen?_of_block (hk.block gl hlt (fun f => f))).trans h.z0
  exact ⟨hk.cell h.a0 (fun f => f), hk.cell h.a1 (fun f => f), hk.cell h.a2 (fun f => f), hk.cell h.a3 (fun f => f), hk.cell h.a4 (fun f => f), hk.cell h.r2 (fun f => f), hk.cell h.r0 (fun f => f), hk.cell h.l0 (fun f => f), hk.cell h.l1 (fun f => f), hk.cell h.l2 (fun f => f), hk.cell h.l3 (fun f => f), hk.cell h.l4 (fun f => f), hk.cell h.l5 (fun f => f), hk.cell h.e0 (fun f => f), hk.cell h.e1 (fun f => f), hk.cell h.e2 (fun f => f), hk.cell h.g0 (fun f => f), hz⟩

theorem rd_of {w wr : World} {gr gE gC gL b gl n k j : Nat} {E cur LA : Array Value} {M : Nat → Nat → Int} (hn : 0 < n) (hLA : wr.heap[gl]? = some (.cells LA 46 (0, 0))) (hLs : Lasts LA n (stM n M j).cells) (hF : MF w wr gr gE gC gL b n k E cur M)
    (hcs : ∀ (i : Nat) (u : Value), (gridVals (inRow n M) (k + 1))[i]? = some u → cur[i]? = some u) (hEf : Effs E (k + 1) (k + 1) (effAt (Ar.watched n) (inRow n M))) (hj : 1 ≤ j) (hjk : j < k + 1) :
    ∃ u kind a X Y, (0 ≤ kind ∧ kind < 4) ∧ a < n ∧ Rd wr gr gE gL b gl j k u kind a X Y (out (stM n M j) u kind a X Y).2.1 (out (stM n M j) u kind a X Y).1 ((stM n M j).val a) ∧ (stM n M (j + 1)).cells = (out (stM n M j) u kind a X Y).2.2 ∧ ∃ t, t < k ∧ X = M t 3 := by
  obtain ⟨t, rfl⟩ : ∃ t, j = t + 1 := ⟨j - 1, by omega⟩
  obtain ⟨q1, q2⟩ := atM_eq n hn M t
  obtain ⟨s1, s2, s3⟩ := stM_succ n hn M t
  obtain ⟨g0, g1, g2, g3, g4⟩ := gridVals_at (inRow n M) (k + 1) (t + 1) hjk
  obtain ⟨l0, l1, l2, l3, l4, l5⟩ := logVals_at _ (t + 1) _ (log_at n hn M t k (by omega))
  obtain ⟨e0, e1, e2⟩ := hEf.2 (t + 1) hjk
  rw [s1] at e0 e1 e2
  refine ⟨M t 0, M t 1 % 4, atM n M t, M t 3, M t 4, ⟨Int.emod_nonneg _ (by decide), Int.emod_lt_of_pos _ (by decide)⟩, q2, ?_, s2, t, by omega, rfl⟩
  have hrow : ∀ (i : Nat) (u : Value), (gridVals (inRow n M) (k + 1))[i]? = some u → wr.cell? ⟨b, i, none⟩ = some u := fun i u h => (cell_of_block hF.a i).trans (hcs i u h)
  have hlog : ∀ (i : Nat) (u : Value), (logVals (stM n M (k + 1)).log)[i]? = some u → wr.cell? ⟨gL, i, none⟩ = some u := fun i u h => (cell_of_block hF.l i).trans (by simpa using h)
  have heff : ∀ (i : Nat) (u : Value), E[i]? = some u → wr.cell? ⟨gE, i, none⟩ = some u := fun i u h => (cell_of_block hF.e i).trans h
  have g2' := hrow _ _ g2
  rw [show inRow n M (t + 1) 2 = (atM n M t : Int) from q1] at g2'
  exact ⟨hrow _ _ g0, hrow _ _ g1, g2', hrow _ _ g3, hrow _ _ g4, (cell_of_block hF.r 2).trans rfl, (cell_of_block hF.r 0).trans rfl, hlog _ _ l0, hlog _ _ l1, hlog _ _ l2, hlog _ _ l3, hlog _ _ l4, hlog _ _ l5, heff _ _ e0, heff _ _ e1, heff _ _ e2,
    (cell_of_block hLA _).trans (hLs.2 _ q2), free_of_block hLA _⟩
theorem wrap_back (c X : Int) (h : -9223372036854775808 ≤ X ∧ X ≤ 9223372036854775807) : wrap64 (wrap64 (c + X) - c) = X := by
  unfold wrap64
  omega
theorem MF.three {w wr : World} {gr gE gC gL b n k : Nat} {E cur : Array Value} {M : Nat → Nat → Int} (h : MF w wr gr gE gC gL b n k E cur M) (o1 o2 o3 : Obj) : MF w (((wr.alloc o1).alloc o2).alloc o3) gr gE gC gL b n k E cur M :=
  ((h.kept (Keeps.alloc None _ o1)).kept (Keeps.alloc None _ o2)).kept (Keeps.alloc None _ o3)
theorem three_at {wr : World} {g : Nat} {o : Obj} (h : wr.heap[g]? = some o) (o1 o2 o3 : Obj) : (((wr.alloc o1).alloc o2).alloc o3).heap[g]? = some o := by
  have hk := ((Keeps.alloc None wr o1).andAlloc o2).andAlloc o3
  exact (hk.block g (Array.getElem?_eq_some_iff.1 h).1 (fun f => f)).trans h

set_option maxHeartbeats 4000000 in
set_option maxRecDepth 100000 in
theorem memory_walk (x : Int) (ao : Option Addr) (len cap : Nat) (M : Nat → Nat → Int) (w : World) (hM : Fives w ao len M) (hX : ∀ i, i < len → -9223372036854775808 ≤ M i 3 ∧ M i 3 ≤ 9223372036854775807) :
    Calls Try.prog 4 #[.int .i64 x, .slice ao len cap] w fun e w' => e = .returned (.bool true) ∧ Below w.heap.size w w' := by
  have hm0 := Int.emod_nonneg x (show (64 : Int) ≠ 0 by decide)
  have hm1 := Int.emod_lt_of_pos x (show (0 : Int) < 64 by decide)
  have hmod := mod64 x w
  have HX : Hid (∀ i, i < len → -9223372036854775808 ≤ M i 3 ∧ M i 3 ≤ 9223372036854775807) := hX
  clear hX
  obtain ⟨n, hn, hn2, hs⟩ : ∃ n : Nat, 0 < n ∧ n ≤ 64 ∧ x % 64 = (n : Int) - 1 := ⟨(x % 64).toNat + 1, by omega, by omega, by omega⟩
  rw [hs] at hmod
  clear hs hm0 hm1
  go_enter Try.func4, Try.ntmps4
  go_upto_region 1 with fail
  go_cut [0] (fun s0 wx => s0 = .int .i64 n ∧ wx = w)
  case first =>
    go_wp2_with (go_at_call 13; refine hmod.mono ?_; rintro e w' ⟨rfl, rfl⟩)
    go_meet
    case rel => exact ⟨by congr 1; omega, rfl⟩
  case rest =>
    obtain ⟨rfl, rfl⟩ := hcut
    clear hmod
    go_wp2_with fail
    refine (within_any n hn hn2 ao len cap M wc hM).mono ?_
    rintro e w1 ⟨b, c, k, rfl, hk1, hk2, hb, ho1, hb1⟩
    obtain ⟨cur, hcur, hcs⟩ : ∃ cur : Array Value, w1.heap[b]? = some (.cells cur 48 (0, 0)) ∧ ∀ j u, (gridVals (inRow n M) (k + 1))[j]? = some u → cur[j]? = some u := by
      rcases ho1.2 with ⟨h0, _⟩ | ⟨g, cp, cur, he, _, hg, _, _, _, ht⟩
      · cases h0
      · injection he with e1 e2 e3
        injection e1 with e1
        injection e1 with e1
        subst e1
        refine ⟨cur, hg, fun j u hu => ?_⟩
        rw [← ht, List.getElem?_take] at hu
        split at hu
        · simpa using hu
        · cases hu
    have hF : Fives w1 (some ⟨b, 0, none⟩) (k + 1) (inRow n M) := fun _ => ⟨b, 0, rfl, (Array.getElem?_eq_some_iff.1 hcur).1, fun i hi => by
      obtain ⟨a0, a1, a2, a3, a4⟩ := gridVals_at (inRow n M) (k + 1) i hi
      simp only [Nat.zero_add, cell_of_block hcur]
      exact ⟨hcs _ _ a0, hcs _ _ a1, hcs _ _ a2, hcs _ _ a3, hcs _ _ a4⟩⟩
    have hpl := play_ok n (by omega) (some ⟨b, 0, none⟩) (k + 1) c (inRow n M) w1 hk2 hF
    obtain ⟨g1, g2, g3, g4⟩ := stM_good n hn M k
    clear ho1 hF hM
    go_wp2_with fail
    refine hpl.mono ?_
    rintro e w2 ⟨v, rfl, ⟨gE, gC, gL, E, rfl, hE, hEf, hC, hL⟩, hb2⟩
    change (stAt (Ar.watched n) (inRow n M) (k + 1)).cells.length = n at g2
    change (stAt (Ar.watched n) (inRow n M) (k + 1)).log.length = k + 1 at g4
    rw [g2, g4]
    have HF : Hid (MF wc (w2.alloc (.cells #[.slice (some ⟨gE, 0, none⟩) (k + 1) (k + 1), .slice (some ⟨gC, 0, none⟩) n n, .slice (some ⟨gL, 0, none⟩) (k + 1) (k + 1)] 43)) w2.heap.size gE gC gL b n k E cur M) := by
      have keep : ∀ {g o}, w2.heap[g]? = some o → (w2.alloc (.cells #[.slice (some ⟨gE, 0, none⟩) (k + 1) (k + 1), .slice (some ⟨gC, 0, none⟩) n n, .slice (some ⟨gL, 0, none⟩) (k + 1) (k + 1)] 43)).heap[g]? = some o := fun {g o} h => (Below.heap_alloc _ _ _ (Array.getElem?_eq_some_iff.1 h).1).trans h
      refine ⟨(hb1.trans (hb2.mono hb1.size)).trans ((Below.refl _ _).alloc (by have := hb1.size; have := hb2.size; omega) _), new_at _ _ _ rfl, keep hE, keep hC, keep hL, keep ((hb2.block b (Array.getElem?_eq_some_iff.1 hcur).1).trans hcur)⟩
    have HCS : Hid (∀ j u, (gridVals (inRow n M) (k + 1))[j]? = some u → cur[j]? = some u) := hcs
    have HEf : Hid (Effs E (k + 1) (k + 1) (effAt (Ar.watched n) (inRow n M))) := hEf
    obtain ⟨wz, hwz⟩ : ∃ wz, wz = wc := ⟨_, rfl⟩
    subst hwz
    have hw2 : wz.heap.size ≤ w2.heap.size := by have := hb1.size; have := hb2.size; omega
    clear hpl hE hEf hC hL hb1 hb2 hcur hcs g1 g2 g3 g4 hb
    have r0 := (cell_of_block HF.out.r 0).trans rfl
    have r1 := (cell_of_block HF.out.r 1).trans rfl
    have r2 := (cell_of_block HF.out.r 2).trans rfl
    go_upto_region 6 with fail
    go_cut [8] (fun s8 wx => ∃ gl, s8 = .pointer (some ⟨gl, 0, none⟩) ∧ wx.heap[gl]? = some (.cells (Array.replicate 64 (.int .i64 0)) 46 (0, 0)) ∧ wz.heap.size ≤ gl ∧ MF wz wx w2.heap.size gE gC gL b n k E cur M)
    case first =>
      go_wp2
      go_meet
      case rel => exact ⟨w2.heap.size + 1, rfl, (new_at _ _ _ (by simp)).trans rfl, by omega, HF.out.kept (Keeps.alloc None _ _)⟩
    case rest =>
      obtain ⟨gl, rfl, hl, hgl, hMF⟩ := hcut
      have HL : Hid (wc.heap[gl]? = some (.cells (Array.replicate 64 (.int .i64 0)) 46 (0, 0)) ∧ MF wz wc w2.heap.size gE gC gL b n k E cur M) := ⟨hl, hMF⟩
      clear HF hl hMF r0 r1 r2
      have a0 := (cell_of_block HL.out.2.a 0).trans (HCS.out 0 _ (gridVals_at (inRow n M) (k + 1) 0 (by omega)).1)
      change _ = some (Value.int .i64 0) at a0
      have hM2 := HL.out.2.kept (Keeps.alloc None wc (.cells #[.int .i64 0, .int .i64 4, .int .i64 0, .int .i64 n, .int .i64 0, .bool true] 50))
      have r0 := (cell_of_block hM2.r 0).trans rfl
      have r2 := (cell_of_block hM2.r 2).trans rfl
      obtain ⟨l0, l1, l2, l3, l4, l5⟩ := logVals_at _ 0 _ (log_first n hn M k)
      have q0 := (cell_of_block hM2.l 0).trans (by simpa using l0)
      have q1 := (cell_of_block hM2.l 1).trans (by simpa using l1)
      have q2 := (cell_of_block hM2.l 2).trans (by simpa using l2)
      have q3 := (cell_of_block hM2.l 3).trans (by simpa using l3)
      have q4 := (cell_of_block hM2.l 4).trans (by simpa using l4)
      have q5 := (cell_of_block hM2.l 5).trans (by simpa using l5)
      have hE0 := HEf.out.2 0 (by omega)
      rw [(stM_one n hn M).1] at hE0
      have e0 := (cell_of_block hM2.e 0).trans hE0.1
      have e1 := (cell_of_block hM2.e 1).trans hE0.2.1
      have e2 := (cell_of_block hM2.e 2).trans hE0.2.2
      have i1 : (0 : Int) < (k : Int) + 1 := by omega
      clear hM2 l0 l1 l2 l3 l4 l5 hE0
      go_wp2_with fail
      go_quiet (fail)
      go_wp2_with fail
      have HS : Hid (MF wz ((wc.alloc (.cells #[.int .i64 0, .int .i64 4, .int .i64 0, .int .i64 n, .int .i64 0, .bool true] 50)).drewN nq) w2.heap.size gE gC gL b n k E cur M ∧ ((wc.alloc (.cells #[.int .i64 0, .int .i64 4, .int .i64 0, .int .i64 n, .int .i64 0, .bool true] 50)).drewN nq).heap[gl]? = some (.cells (Array.replicate 64 (.int .i64 0)) 46 (0, 0))) :=
        ⟨(HL.out.2.kept (Keeps.alloc None _ _)).kept (Keeps.drewN0 _ _), (Below.heap_alloc _ _ _ (Array.getElem?_eq_some_iff.1 HL.out.1).1).trans HL.out.1⟩
      clear HL r0 r2 q0 q1 q2 q3 q4 q5 e0 e1 e2 a0 i1
      go_loopw [10, 11, 12, 13, 14, 15] (fun i _ _ _ _ _ wr => ∃ j : Nat, 1 ≤ j ∧ j ≤ k + 1 ∧ i = .int .i64 j ∧ ∃ LA, wr.heap[gl]? = some (.cells LA 46 (0, 0)) ∧ Lasts LA n (stM n M j).cells ∧ MF wz wr w2.heap.size gE gC gL b n k E cur M) (fun i _ _ _ _ _ _ => k + 1 - (intOf i).toNat)
      case atStart => exact ⟨1, Nat.le_refl _, by omega, rfl, _, HS.out.2, ⟨by simp, fun j hj => by rw [(stM_one n hn M).2]; simp [hj, show j < 64 by omega]⟩, HS.out.1⟩
      case round =>
        clear HS
        obtain ⟨j, hj1, hj2, rfl, LA, hLA, hLs, hF⟩ := hrel
        have HR : Hid (wr.heap[gl]? = some (.cells LA 46 (0, 0)) ∧ Lasts LA n (stM n M j).cells ∧ MF wz wr w2.heap.size gE gC gL b n k E cur M) := ⟨hLA, hLs, hF⟩
        clear hLA hLs hF
        have g2 : (stM n M j).cells.length = n := by
          obtain ⟨t, rfl⟩ : ∃ t, j = t + 1 := ⟨j - 1, by omega⟩
          exact (stM_good n hn M t).2.1
        by_cases hjk : j < k + 1
        · obtain ⟨u, kind, a, X, Y, hkind, ha, hrd, hnext, t, ht, hXt⟩ := rd_of hn HR.out.1 HR.out.2.1 HR.out.2.2 HCS.out HEf.out hj1 hjk
          have i1 : (j : Int) < (k : Int) + 1 := by omega
          have i2 : (a : Int) < 64 := by omega
          have hsub := wrap_back ((stM n M j).val a) X (by rw [hXt]; exact HX.out t (by omega))
          clear hXt ht
          rcases (show kind = 0 ∨ kind = 1 ∨ kind = 2 ∨ kind = 3 by omega) with rfl | rfl | rfl | rfl
          · as_aux_lemma =>
            have ho : out (stM n M j) u 0 a X Y = (⟨(stM n M j).val a, true, 0⟩, ⟨u, 0, a, (stM n M j).val a, 0, true⟩, (stM n M j).cells) := by simp [out]
            rw [ho] at hrd hnext
            simp only at hrd hnext
            have h1 := hrd.alloc (.cells #[.int .i64 u, .int .i64 0, .int .i64 a, .int .i64 X, .int .i64 Y] 48)
            have h2 := h1.alloc (.cells #[.int .i64 u, .int .i64 0, .int .i64 a, .int .i64 ((stM n M j).val a), .int .i64 0, .bool true] 50)
            have h3 := h2.alloc (.cells #[.int .i64 ((stM n M j).val a), .bool true, .int .i64 0] 33)
            have HN : Hid (∃ LA, (((wr.alloc (.cells #[.int .i64 u, .int .i64 0, .int .i64 a, .int .i64 X, .int .i64 Y] 48)).alloc (.cells #[.int .i64 u, .int .i64 0, .int .i64 a, .int .i64 ((stM n M j).val a), .int .i64 0, .bool true] 50)).alloc (.cells #[.int .i64 ((stM n M j).val a), .bool true, .int .i64 0] 33)).heap[gl]? = some (.cells LA 46 (0, 0)) ∧ Lasts LA n (stM n M (j + 1)).cells ∧ MF wz (((wr.alloc (.cells #[.int .i64 u, .int .i64 0, .int .i64 a, .int .i64 X, .int .i64 Y] 48)).alloc (.cells #[.int .i64 u, .int .i64 0, .int .i64 a, .int .i64 ((stM n M j).val a), .int .i64 0, .bool true] 50)).alloc (.cells #[.int .i64 ((stM n M j).val a), .bool true, .int .i64 0] 33)) w2.heap.size gE gC gL b n k E cur M) := by
              refine ⟨_, three_at HR.out.1 _ _ _, by rw [hnext]; exact HR.out.2.1, HR.out.2.2.three _ _ _⟩
            obtain ⟨p1, p2, p3, p4, p5, -, -, -, -, -, -, -, -, -, -, -, -, -⟩ := hrd
            obtain ⟨-, -, -, -, -, p6, -, l0, l1, l2, l3, l4, l5, -, -, -, -, -⟩ := h1
            obtain ⟨-, -, -, -, -, -, p7, -, -, -, -, -, -, e0, e1, e2, -, -⟩ := h2
            obtain ⟨-, -, -, -, -, -, -, -, -, -, -, -, -, -, -, -, y0, y1⟩ := h3
            clear HR ho hnext
            generalize hwas : (stM n M j).val a = was at *
            clear hwas
            go_wp2
            go_roundw
            case rel => exact ⟨j + 1, by omega, by omega, by go_num, HN.out⟩
            case measure => simp [intOf]; omega
          · as_aux_lemma =>
            have ho : out (stM n M j) u 1 a X Y = (⟨0, true, 0⟩, ⟨u, 1, a, X, 0, true⟩, (stM n M j).cells.set a X) := by simp [out]
            rw [ho] at hrd hnext
            simp only at hrd hnext
            have h1 := hrd.alloc (.cells #[.int .i64 u, .int .i64 1, .int .i64 a, .int .i64 X, .int .i64 Y] 48)
            have h2 := h1.alloc (.cells #[.int .i64 u, .int .i64 1, .int .i64 a, .int .i64 X, .int .i64 0, .bool true] 50)
            have h3 := h2.alloc (.cells #[.int .i64 0, .bool true, .int .i64 0] 33)
            have HN : Hid (∃ LA, ((((wr.alloc (.cells #[.int .i64 u, .int .i64 1, .int .i64 a, .int .i64 X, .int .i64 Y] 48)).alloc (.cells #[.int .i64 u, .int .i64 1, .int .i64 a, .int .i64 X, .int .i64 0, .bool true] 50)).alloc (.cells #[.int .i64 0, .bool true, .int .i64 0] 33)).setCell ⟨gl, a, none⟩ (.int .i64 X)).heap[gl]? = some (.cells LA 46 (0, 0)) ∧ Lasts LA n (stM n M (j + 1)).cells ∧ MF wz ((((wr.alloc (.cells #[.int .i64 u, .int .i64 1, .int .i64 a, .int .i64 X, .int .i64 Y] 48)).alloc (.cells #[.int .i64 u, .int .i64 1, .int .i64 a, .int .i64 X, .int .i64 0, .bool true] 50)).alloc (.cells #[.int .i64 0, .bool true, .int .i64 0] 33)).setCell ⟨gl, a, none⟩ (.int .i64 X)) w2.heap.size gE gC gL b n k E cur M) := by
              refine ⟨_, setCell_block (three_at HR.out.1 _ _ _) _, by rw [hnext]; exact HR.out.2.1.put g2 hn2 a _, (HR.out.2.2.three _ _ _).put (three_at HR.out.1 _ _ _) hgl (Keeps.setCell (S := (· = gl)) _ (a := ⟨gl, a, none⟩) rfl _)⟩
            obtain ⟨p1, p2, p3, p4, p5, -, -, -, -, -, -, -, -, -, -, -, -, -⟩ := hrd
            obtain ⟨-, -, -, -, -, p6, -, l0, l1, l2, l3, l4, l5, -, -, -, -, -⟩ := h1
            obtain ⟨-, -, -, -, -, -, p7, -, -, -, -, -, -, e0, e1, e2, -, -⟩ := h2
            obtain ⟨-, -, -, -, -, -, -, -, -, -, -, -, -, -, -, -, y0, y1⟩ := h3
            clear HR ho hnext
            generalize hwas : (stM n M j).val a = was at *
            clear hwas
            go_wp2
            go_roundw
            case rel => exact ⟨j + 1, by omega, by omega, by go_num, HN.out⟩
            case measure => simp [intOf]; omega
          · by_cases hv : (stM n M j).val a = X
            · as_aux_lemma =>
              subst hv
              have ho : out (stM n M j) u 2 a ((stM n M j).val a) Y = (⟨0, true, 0⟩, ⟨u, 2, a, ((stM n M j).val a), Y, true⟩, (stM n M j).cells.set a Y) := by simp [out]
              rw [ho] at hrd hnext
              simp only at hrd hnext
              have h1 := hrd.alloc (.cells #[.int .i64 u, .int .i64 2, .int .i64 a, .int .i64 ((stM n M j).val a), .int .i64 Y] 48)
              have h2 := h1.alloc (.cells #[.int .i64 u, .int .i64 2, .int .i64 a, .int .i64 ((stM n M j).val a), .int .i64 Y, .bool true] 50)
              have h3 := h2.alloc (.cells #[.int .i64 0, .bool true, .int .i64 0] 33)
              have HN : Hid (∃ LA, ((((wr.alloc (.cells #[.int .i64 u, .int .i64 2, .int .i64 a, .int .i64 ((stM n M j).val a), .int .i64 Y] 48)).alloc (.cells #[.int .i64 u, .int .i64 2, .int .i64 a, .int .i64 ((stM n M j).val a), .int .i64 Y, .bool true] 50)).alloc (.cells #[.int .i64 0, .bool true, .int .i64 0] 33)).setCell ⟨gl, a, none⟩ (.int .i64 Y)).heap[gl]? = some (.cells LA 46 (0, 0)) ∧ Lasts LA n (stM n M (j + 1)).cells ∧ MF wz ((((wr.alloc (.cells #[.int .i64 u, .int .i64 2, .int .i64 a, .int .i64 ((stM n M j).val a), .int .i64 Y] 48)).alloc (.cells #[.int .i64 u, .int .i64 2, .int .i64 a, .int .i64 ((stM n M j).val a), .int .i64 Y, .bool true] 50)).alloc (.cells #[.int .i64 0, .bool true, .int .i64 0] 33)).setCell ⟨gl, a, none⟩ (.int .i64 Y)) w2.heap.size gE gC gL b n k E cur M) := by
                refine ⟨_, setCell_block (three_at HR.out.1 _ _ _) _, by rw [hnext]; exact HR.out.2.1.put g2 hn2 a _, (HR.out.2.2.three _ _ _).put (three_at HR.out.1 _ _ _) hgl (Keeps.setCell (S := (· = gl)) _ (a := ⟨gl, a, none⟩) rfl _)⟩
              obtain ⟨p1, p2, p3, p4, p5, -, -, -, -, -, -, -, -, -, -, -, -, -⟩ := hrd
              obtain ⟨-, -, -, -, -, p6, -, l0, l1, l2, l3, l4, l5, -, -, -, -, -⟩ := h1
              obtain ⟨-, -, -, -, -, -, p7, -, -, -, -, -, -, e0, e1, e2, -, -⟩ := h2
              obtain ⟨-, -, -, -, -, -, -, -, -, -, -, -, -, -, -, -, y0, y1⟩ := h3
              clear HR ho hnext
              generalize hwas : (stM n M j).val a = was at *
              clear hwas
              go_wp2
              go_roundw
              case rel => exact ⟨j + 1, by omega, by omega, by go_num, HN.out⟩
              case measure => simp [intOf]; omega
            · as_aux_lemma =>
              have hvb : ((stM n M j).val a == X) = false := by simpa using hv
              have ho : out (stM n M j) u 2 a X Y = (⟨0, false, 0⟩, ⟨u, 2, a, X, Y, false⟩, (stM n M j).cells) := by simp [out, hv]
              rw [ho] at hrd hnext
              simp only at hrd hnext
              have h1 := hrd.alloc (.cells #[.int .i64 u, .int .i64 2, .int .i64 a, .int .i64 X, .int .i64 Y] 48)
              have h2 := h1.alloc (.cells #[.int .i64 u, .int .i64 2, .int .i64 a, .int .i64 X, .int .i64 Y, .bool false] 50)
              have h3 := h2.alloc (.cells #[.int .i64 0, .bool false, .int .i64 0] 33)
              have HN : Hid (∃ LA, (((wr.alloc (.cells #[.int .i64 u, .int .i64 2, .int .i64 a, .int .i64 X, .int .i64 Y] 48)).alloc (.cells #[.int .i64 u, .int .i64 2, .int .i64 a, .int .i64 X, .int .i64 Y, .bool false] 50)).alloc (.cells #[.int .i64 0, .bool false, .int .i64 0] 33)).heap[gl]? = some (.cells LA 46 (0, 0)) ∧ Lasts LA n (stM n M (j + 1)).cells ∧ MF wz (((wr.alloc (.cells #[.int .i64 u, .int .i64 2, .int .i64 a, .int .i64 X, .int .i64 Y] 48)).alloc (.cells #[.int .i64 u, .int .i64 2, .int .i64 a, .int .i64 X, .int .i64 Y, .bool false] 50)).alloc (.cells #[.int .i64 0, .bool false, .int .i64 0] 33)) w2.heap.size gE gC gL b n k E cur M) := by
                refine ⟨_, three_at HR.out.1 _ _ _, by rw [hnext]; exact HR.out.2.1, HR.out.2.2.three _ _ _⟩
              obtain ⟨p1, p2, p3, p4, p5, -, -, -, -, -, -, -, -, -, -, -, -, -⟩ := hrd
              obtain ⟨-, -, -, -, -, p6, -, l0, l1, l2, l3, l4, l5, -, -, -, -, -⟩ := h1
              obtain ⟨-, -, -, -, -, -, p7, -, -, -, -, -, -, e0, e1, e2, -, -⟩ := h2
              obtain ⟨-, -, -, -, -, -, -, -, -, -, -, -, -, -, -, -, y0, y1⟩ := h3
              clear HR ho hnext hv
              generalize hwas : (stM n M j).val a = was at *
              clear hwas
              go_wp2
              go_roundw
              case rel => exact ⟨j + 1, by omega, by omega, by go_num, HN.out⟩
              case measure => simp [intOf]; omega
          · as_aux_lemma =>
            have ho : out (stM n M j) u 3 a X Y = (⟨wrap64 (((stM n M j).val a) + X), true, 0⟩, ⟨u, 3, a, X, wrap64 (((stM n M j).val a) + X), true⟩, (stM n M j).cells.set a (wrap64 (((stM n M j).val a) + X))) := by simp [out]
            rw [ho] at hrd hnext
            simp only at hrd hnext
            have h1 := hrd.alloc (.cells #[.int .i64 u, .int .i64 3, .int .i64 a, .int .i64 X, .int .i64 Y] 48)
            have h2 := h1.alloc (.cells #[.int .i64 u, .int .i64 3, .int .i64 a, .int .i64 X, .int .i64 (wrap64 (((stM n M j).val a) + X)), .bool true] 50)
            have h3 := h2.alloc (.cells #[.int .i64 (wrap64 (((stM n M j).val a) + X)), .bool true, .int .i64 0] 33)
            have HN : Hid (∃ LA, ((((wr.alloc (.cells #[.int .i64 u, .int .i64 3, .int .i64 a, .int .i64 X, .int .i64 Y] 48)).alloc (.cells #[.int .i64 u, .int .i64 3, .int .i64 a, .int .i64 X, .int .i64 (wrap64 (((stM n M j).val a) + X)), .bool true] 50)).alloc (.cells #[.int .i64 (wrap64 (((stM n M j).val a) + X)), .bool true, .int .i64 0] 33)).setCell ⟨gl, a, none⟩ (.int .i64 (wrap64 (((stM n M j).val a) + X)))).heap[gl]? = some (.cells LA 46 (0, 0)) ∧ Lasts LA n (stM n M (j + 1)).cells ∧ MF wz ((((wr.alloc (.cells #[.int .i64 u, .int .i64 3, .int .i64 a, .int .i64 X, .int .i64 Y] 48)).alloc (.cells #[.int .i64 u, .int .i64 3, .int .i64 a, .int .i64 X, .int .i64 (wrap64 (((stM n M j).val a) + X)), .bool true] 50)).alloc (.cells #[.int .i64 (wrap64 (((stM n M j).val a) + X)), .bool true, .int .i64 0] 33)).setCell ⟨gl, a, none⟩ (.int .i64 (wrap64 (((stM n M j).val a) + X)))) w2.heap.size gE gC gL b n k E cur M) := by
              refine ⟨_, setCell_block (three_at HR.out.1 _ _ _) _, by rw [hnext]; exact HR.out.2.1.put g2 hn2 a _, (HR.out.2.2.three _ _ _).put (three_at HR.out.1 _ _ _) hgl (Keeps.setCell (S := (· = gl)) _ (a := ⟨gl, a, none⟩) rfl _)⟩
            obtain ⟨p1, p2, p3, p4, p5, -, -, -, -, -, -, -, -, -, -, -, -, -⟩ := hrd
            obtain ⟨-, -, -, -, -, p6, -, l0, l1, l2, l3, l4, l5, -, -, -, -, -⟩ := h1
            obtain ⟨-, -, -, -, -, -, p7, -, -, -, -, -, -, e0, e1, e2, -, -⟩ := h2
            obtain ⟨-, -, -, -, -, -, -, -, -, -, -, -, -, -, -, -, y0, y1⟩ := h3
            clear HR ho hnext
            generalize hwas : (stM n M j).val a = was at *
            clear hwas
            go_wp2
            go_roundw
            case rel => exact ⟨j + 1, by omega, by omega, by go_num, HN.out⟩
            case measure => simp [intOf]; omega
        · as_aux_lemma =>
          obtain rfl : j = k + 1 := by omega
          go_wp2_with fail
          go_loopw [16] (fun i wr => ∃ q : Nat, q ≤ n ∧ i = .int .i64 q ∧ wr.heap[gl]? = some (.cells LA 46 (0, 0)) ∧ MF wz wr w2.heap.size gE gC gL b n k E cur M) (fun i _ => n - (intOf i).toNat)
          case atStart => exact ⟨0, Nat.zero_le _, rfl, HR.out.1, HR.out.2.2⟩
          case round =>
            have HLs : Hid (Lasts LA n (stM n M (k + 1)).cells) := HR.out.2.1
            clear HR
            obtain ⟨q, hq, rfl, hLA, hF⟩ := hrel
            by_cases hqn : q < n
            · have r1 := (cell_of_block hF.r 1).trans rfl
              have c1 : wr.cell? ⟨gC, q, none⟩ = some (.int .i64 ((stM n M (k + 1)).cells.getD q 0)) := (cell_of_block hF.c q).trans (by simp [List.getD, show q < (stM n M (k + 1)).cells.length by omega])
              have c2 := (cell_of_block hLA q).trans (HLs.out.2 q hqn)
              have i1 : (q : Int) < (n : Int) := by omega
              have i2 : (q : Int) < 64 := by omega
              have HF : Hid (wr.heap[gl]? = some (.cells LA 46 (0, 0)) ∧ MF wz wr w2.heap.size gE gC gL b n k E cur M) := ⟨hLA, hF⟩
              clear hLA hF
              generalize (stM n M (k + 1)).cells.getD q 0 = z at c1 c2
              go_wp2_with fail
              go_quiet (fail)
              go_wp2
              go_roundw
              case rel => exact ⟨q + 1, by omega, by go_num, HF.out.1, HF.out.2.kept (Keeps.drewN0 _ _)⟩
              case measure => simp [intOf]; omega
            · have HB : Hid (Below wz.heap.size wz wr) := hF.below
              clear hF hLA
              go_wp2
              go_ret
              exact ⟨rfl, HB.out⟩
end Go.Proofs.Ytloahjkndhcjfaa
