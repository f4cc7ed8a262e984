import Derived.Test.YtloahjkndhcjfaaOnlyPlain
import Derived.Deep.DeepCutAuto
import Derived.Deep.QuietTactic
import Derived.BigQuiet
import Derived.Deep.RegionHeld3
/-! The walk of CellsOnly. -/
namespace Go.Proofs.Ytloahjkndhcjfaa
open Go.RowKit Go.HeapKit

theorem mod5 (x : Int) (w : World) : Calls Try.prog 13 #[.int .i64 x, .int .i64 5] w fun e w' => e = .returned (.int .i64 (x % 5)) ∧ w' = w := mod_any x 5 (by decide) (by decide) w

/-- What stands behind the access: the result's block g, the arena. -/
def Put (w wc : World) (box : Obj) (D : Eff × Ar) (s12 : Value) : Prop :=
  Below w.heap.size w wc ∧ wc.heap[w.heap.size]? = some box ∧ Owned (w.heap.size + 1) wc (w.heap.size + 1) D.2 ∧ ∃ g, s12 = .pointer (some ⟨g, 0, none⟩) ∧ wc.heap[g]? = some (.cells #[.int .i64 D.1.v, .bool D.1.ok, .int .i64 D.1.err] 33 (0, 0))

theorem only_res {w w1 : World} {p : Nat} {vc vl : Value} {A A' : Ar} {o : Obj} (h : IsArena w p vc vl A) (hA : After (w.alloc o).drew w1 p vc vl A') : w1.heap[w.heap.size]? = some o := by
  obtain ⟨_, _, _, hk, _⟩ := hA
  exact (hk.block _ (by simp) (fun f => by have := h.foot_lt f; omega)).trans (new_at w o _ rfl)

theorem only_box {w0 w1 : World} {p B : Nat} {vc vl : Value} {A : Ar} {s k x a b : Int} (hx : w0.heap[B]? = some (.cells #[.int .i64 s, .int .i64 k, .int .i64 x, .int .i64 a, .int .i64 b] 24 (0, 0)))
    (hv : B + 1 ≤ p ∧ (∀ g, vc.ownBlock = some g → B + 1 ≤ g) ∧ (∀ g, vl.ownBlock = some g → B + 1 ≤ g)) (hA : After w0 w1 p vc vl A) :
    w1.heap[B]? = some (.cells #[.int .i64 s, .int .i64 k, .int .i64 x, .int .i64 a, .int .i64 b] 24 (0, 0)) := by
  obtain ⟨_, _, _, hk, _⟩ := hA
  refine (hk.block B (Array.getElem?_eq_some_iff.1 hx).1 ?_).trans hx
  rintro (rfl | e | e)
  · omega
  · have := hv.2.1 _ e; omega
  · have := hv.2.2 _ e; omega
theorem only_ne {wr w1 : World} {p B : Nat} {vc vl : Value} {A : Ar} (hlt : B + 1 < wr.heap.size) (hA : After wr.drew w1 p vc vl A) : ¬ B = w1.heap.size ∧ ¬ w1.heap.size = B := by
  obtain ⟨_, _, _, hk, _⟩ := hA
  have := hk.size
  simp at this
  constructor <;> omega
theorem box_cells {w1 : World} {B : Nat} {s k x a b : Int} (hx : w1.heap[B]? = some (.cells #[.int .i64 s, .int .i64 k, .int .i64 x, .int .i64 a, .int .i64 b] 24 (0, 0))) :
    w1.cell? ⟨B, 1, none⟩ = some (.int .i64 k) ∧ w1.cell? ⟨B, 2, none⟩ = some (.int .i64 x) ∧ w1.cell? ⟨B, 3, none⟩ = some (.int .i64 a) ∧ w1.cell? ⟨B, 4, none⟩ = some (.int .i64 b) :=
  ⟨(cell_of_block hx 1).trans rfl, (cell_of_block hx 2).trans rfl, (cell_of_block hx 3).trans rfl, (cell_of_block hx 4).trans rfl⟩
theorem only_box1 {wr w1 : World} {p B : Nat} {vc vl : Value} {A : Ar} {s k x a b : Int} (hx : wr.heap[B]? = some (.cells #[.int .i64 s, .int .i64 k, .int .i64 x, .int .i64 a, .int .i64 b] 24 (0, 0)))
    (hv : B + 1 ≤ p ∧ (∀ g, vc.ownBlock = some g → B + 1 ≤ g) ∧ (∀ g, vl.ownBlock = some g → B + 1 ≤ g)) (hA : After wr.drew w1 p vc vl A) :
    w1.cell? ⟨B, 1, none⟩ = some (.int .i64 k) ∧ w1.cell? ⟨B, 2, none⟩ = some (.int .i64 x) ∧ w1.cell? ⟨B, 3, none⟩ = some (.int .i64 a) ∧ w1.cell? ⟨B, 4, none⟩ = some (.int .i64 b) :=
  box_cells (only_box (w0 := wr.drew) hx hv hA)
theorem only_box2 {wr w1 : World} {o : Obj} {p B : Nat} {vc vl : Value} {A : Ar} {s k x a b : Int} (hx : wr.heap[B]? = some (.cells #[.int .i64 s, .int .i64 k, .int .i64 x, .int .i64 a, .int .i64 b] 24 (0, 0)))
    (hv : B + 1 ≤ p ∧ (∀ g, vc.ownBlock = some g → B + 1 ≤ g) ∧ (∀ g, vl.ownBlock = some g → B + 1 ≤ g)) (hA : After (wr.alloc o).drew w1 p vc vl A) :
    w1.cell? ⟨B, 1, none⟩ = some (.int .i64 k) ∧ w1.cell? ⟨B, 2, none⟩ = some (.int .i64 x) ∧ w1.cell? ⟨B, 3, none⟩ = some (.int .i64 a) ∧ w1.cell? ⟨B, 4, none⟩ = some (.int .i64 b) :=
  box_cells (only_box (w0 := (wr.alloc o).drew) ((Below.heap_alloc wr o B (Array.getElem?_eq_some_iff.1 hx).1).trans hx) hv hA)

theorem put1 {w wr w1 : World} {vc vl : Value} {A : Ar} {s k x a b v err : Int} {ok : Bool} (hb : Below w.heap.size w wr) (hlt : w.heap.size + 1 < wr.heap.size)
    (hx : wr.heap[w.heap.size]? = some (.cells #[.int .i64 s, .int .i64 k, .int .i64 x, .int .i64 a, .int .i64 b] 24 (0, 0)))
    (hv : w.heap.size + 1 ≤ w.heap.size + 1 ∧ (∀ g, vc.ownBlock = some g → w.heap.size + 1 ≤ g) ∧ (∀ g, vl.ownBlock = some g → w.heap.size + 1 ≤ g)) (hA : After wr.drew w1 (w.heap.size + 1) vc vl A) :
    Put w (w1.alloc (.cells #[.int .i64 v, .bool ok, .int .i64 err] 33)) (.cells #[.int .i64 s, .int .i64 k, .int .i64 x, .int .i64 a, .int .i64 b] 24 (0, 0)) (⟨v, ok, err⟩, A) (.pointer (some ⟨w1.heap.size, 0, none⟩)) := by
  have hbx := only_box (w0 := wr.drew) hx hv hA
  obtain ⟨hO, hbl⟩ := Owned.of hA (B := w.heap.size + 1) (by simp; omega) hv.1 hv.2.1 hv.2.2
  have hk := Keeps.alloc None w1 (.cells #[.int .i64 v, .bool ok, .int .i64 err] 33)
  have hs := hO.lt
  refine ⟨((hb.trans (Below.drew (Below.refl _ _))).trans (hbl.mono (Nat.le_succ _))).trans (hk.below _ (by omega) (fun _ f => f.elim)), (Below.heap_alloc _ _ _ (by omega)).trans hbx, (hO.below (B' := 0) hk).1, _, rfl, new_at _ _ _ rfl⟩
theorem put2 {w wr w1 : World} {vc vl : Value} {A B : Ar} {s k x a b v err : Int} {ok : Bool} (hb : Below w.heap.size w wr) (hlt : w.heap.size + 1 < wr.heap.size)
    (hx : wr.heap[w.heap.size]? = some (.cells #[.int .i64 s, .int .i64 k, .int .i64 x, .int .i64 a, .int .i64 b] 24 (0, 0))) (hB : IsArena wr (w.heap.size + 1) vc vl B)
    (hv : w.heap.size + 1 ≤ w.heap.size + 1 ∧ (∀ g, vc.ownBlock = some g → w.heap.size + 1 ≤ g) ∧ (∀ g, vl.ownBlock = some g → w.heap.size + 1 ≤ g)) (hA : After (wr.alloc (.cells #[.int .i64 0, .bool false, .int .i64 0] 33)).drew w1 (w.heap.size + 1) vc vl A) :
    Put w (((w1.setCell ⟨wr.heap.size, 0, none⟩ (.int .i64 v)).setCell ⟨wr.heap.size, 1, none⟩ (.bool ok)).setCell ⟨wr.heap.size, 2, none⟩ (.int .i64 err)) (.cells #[.int .i64 s, .int .i64 k, .int .i64 x, .int .i64 a, .int .i64 b] 24 (0, 0)) (⟨v, ok, err⟩, A) (.pointer (some ⟨wr.heap.size, 0, none⟩)) := by
  have hr := only_res hB hA
  have hbx := only_box (w0 := (wr.alloc _).drew) ((Below.heap_alloc wr _ _ (Array.getElem?_eq_some_iff.1 hx).1).trans hx) hv hA
  have hw1 : After wr w1 (w.heap.size + 1) vc vl A := by
    obtain ⟨vc', vl', h, hk, mc, ml⟩ := hA
    have hm : ∀ {v v'}, Moved (wr.alloc (.cells #[.int .i64 0, .bool false, .int .i64 0] 33)).drew v v' → Moved wr v v' := by
      intro v v' hm
      rcases hm with hm | ⟨g, hm, hg⟩
      · exact .inl hm
      · exact .inr ⟨g, hm, by simp at hg; omega⟩
    exact ⟨vc', vl', h, (((Keeps.refl _ wr).andAlloc _).andDrew).trans hk (fun _ f _ => f), hm mc, hm ml⟩
  have hkr : Keeps (· = wr.heap.size) w1 (((w1.setCell ⟨wr.heap.size, 0, none⟩ (.int .i64 v)).setCell ⟨wr.heap.size, 1, none⟩ (.bool ok)).setCell ⟨wr.heap.size, 2, none⟩ (.int .i64 err)) :=
    ((Keeps.setCell (S := (· = wr.heap.size)) w1 (a := ⟨wr.heap.size, 0, none⟩) rfl _).andSet (x := ⟨wr.heap.size, 1, none⟩) (.inl rfl) _).andSet (x := ⟨wr.heap.size, 2, none⟩) (.inl rfl) _
  obtain ⟨hO, hbl⟩ := Owned.of hA (B := w.heap.size + 1) (by simp; omega) hv.1 hv.2.1 hv.2.2
  have hs := hO.lt
  refine ⟨((hb.trans (((Below.refl _ _).alloc (by omega) _).drew)).trans (hbl.mono (Nat.le_succ _))).trans (hkr.below _ (by omega) (fun _ e => by omega)), (hkr.block _ (by omega) (by omega)).trans hbx, ?_, _, rfl, ?_⟩
  · obtain ⟨vc', vl', h, hk, mc, ml⟩ := hA
    have hd : ∀ {v v' : Value}, (∀ k, v.ownBlock = some k → k < wr.heap.size) → Moved (wr.alloc (.cells #[.int .i64 0, .bool false, .int .i64 0] 33)).drew v v' → ∀ k, v'.ownBlock = some k → k ≠ wr.heap.size := by
      intro v v' hv hm k e
      rcases hm with hm | ⟨g, hm, hg⟩
      · have := hv k (hm ▸ e); omega
      · rw [e] at hm; injection hm with hm; simp at hg; omega
    have hge : ∀ {v v' : Value}, (∀ k, v.ownBlock = some k → w.heap.size + 1 ≤ k) → Moved (wr.alloc (.cells #[.int .i64 0, .bool false, .int .i64 0] 33)).drew v v' → ∀ k, v'.ownBlock = some k → w.heap.size + 1 ≤ k := by
      intro v v' hv hm k e
      rcases hm with hm | ⟨g, hm, hg⟩
      · exact hv k (hm ▸ e)
      · rw [e] at hm; injection hm with hm; simp at hg; omega
    refine ⟨vc', vl', h.kept hkr ?_, Nat.le_refl _, hge hv.2.1 mc, hge hv.2.2 ml⟩
    rintro k (rfl | e | e)
    · omega
    · exact hd (fun k e => own_lt hB.cells e) mc k e
    · exact hd (fun k e => own_lt hB.log e) ml k e
  · exact (setCell_block (setCell_block (setCell_block hr _) _) _).trans rfl

/-- All that the second loop reads. -/
structure Seen (w wr : World) (s k x a b v : Int) (ok : Bool) (err : Int) (g l : Nat) (A : Ar) : Prop where
  below : Below w.heap.size w wr
  box : wr.heap[w.heap.size]? = some (.cells #[.int .i64 s, .int .i64 k, .int .i64 x, .int .i64 a, .int .i64 b] 24 (0, 0))
  res : wr.heap[g]? = some (.cells #[.int .i64 v, .bool ok, .int .i64 err] 33 (0, 0))
  list : wr.heap[l]? = some (.cells (A.cells.map (Value.int .i64)).toArray 2 (0, 0))
theorem Seen.drew {w wr : World} {s k x a b v : Int} {ok : Bool} {err : Int} {g l : Nat} {A : Ar} (h : Seen w wr s k x a b v ok err g l A) : Seen w wr.drew s k x a b v ok err g l A := ⟨h.below.drew, h.box, h.res, h.list⟩
theorem Seen.drewN {w wr : World} {s k x a b v : Int} {ok : Bool} {err : Int} {g l : Nat} {A : Ar} (h : Seen w wr s k x a b v ok err g l A) (n : Nat) : Seen w (wr.drewN n) s k x a b v ok err g l A :=
  ⟨⟨h.below.os, h.below.tape, h.below.output, h.below.size, h.below.block⟩, h.box, h.res, h.list⟩
theorem only_seen {w wc w1 : World} {s k x a b v : Int} {ok : Bool} {err : Int} {g : Nat} {A : Ar} (hb : Below w.heap.size w wc) (hx : wc.heap[w.heap.size]? = some (.cells #[.int .i64 s, .int .i64 k, .int .i64 x, .int .i64 a, .int .i64 b] 24 (0, 0)))
    (hg : wc.heap[g]? = some (.cells #[.int .i64 v, .bool ok, .int .i64 err] 33 (0, 0))) (hlt : w.heap.size + 1 < wc.heap.size) (hl : w1.heap[wc.heap.size]? = some (.cells (A.cells.map (Value.int .i64)).toArray 2 (0, 0))) (hb1 : Below wc.heap.size wc w1) :
    Seen w w1 s k x a b v ok err g wc.heap.size A :=
  ⟨hb.trans (hb1.mono (by omega)), (hb1.block _ (by omega)).trans hx, (hb1.block _ (Array.getElem?_eq_some_iff.1 hg).1).trans hg, hl⟩

set_option maxHeartbeats 4000000 in
set_option maxRecDepth 100000 in
theorem only_walk (ao : Option Addr) (len cap n : Nat) (zs : List Int) (s kind x a b : Int) (w : World) (hn : n ≤ len) (hn2 : n ≤ 64) (hn3 : len ≤ 64 → n = len) (hn4 : 64 < len → n = 64) (hcap : len ≤ cap) (hcap2 : cap ≤ 9223372036854775807) (hz : zs.length = len)
    (hc : 0 < len → ∃ b0 off, ao = some ⟨b0, off, none⟩ ∧ b0 < w.heap.size ∧ ∀ i, i < len → w.cell? ⟨b0, off + i, none⟩ = some (.int .i64 (zs.getD i 0))) :
    Calls Try.prog 3 #[.slice ao len cap, .agg #[.int .i64 s, .int .i64 kind, .int .i64 x, .int .i64 a, .int .i64 b]] w fun e w' => e = .returned (.bool true) ∧ Below w.heap.size w w' := by
  have HN : Hid ((n ≤ len ∧ n ≤ 64) ∧ (len ≤ 64 → n = len) ∧ (64 < len → n = 64)) := ⟨⟨hn, hn2⟩, hn3, hn4⟩
  have HC : Hid (0 < len → ∃ b0 off, ao = some ⟨b0, off, none⟩ ∧ b0 < w.heap.size ∧ ∀ i, i < len → w.cell? ⟨b0, off + i, none⟩ = some (.int .i64 (zs.getD i 0))) := hc
  clear hn3 hn4 hc
  go_enter Try.func3, Try.ntmps3
  go_upto_if 19 with fail
  go_cut [5] (fun s5 wc => s5 = .int .i64 n ∧ wc = w.alloc (.cells #[.int .i64 s, .int .i64 kind, .int .i64 x, .int .i64 a, .int .i64 b] 24))
  case first =>
    by_cases h64 : 64 < len
    · have := HN.out.2.2 h64
      subst this
      go_wp2
      go_meet
      case rel => exact ⟨rfl, rfl⟩
    · have := HN.out.2.1 (by omega)
      subst this
      go_wp2
      go_meet
      case rel => exact ⟨rfl, rfl⟩
  case rest =>
    obtain ⟨rfl, rfl⟩ := hcut
    have hbox := new_at w (.cells #[.int .i64 s, .int .i64 kind, .int .i64 x, .int .i64 a, .int .i64 b] 24) _ rfl
    have hbel0 := (Below.refl w.heap.size w).alloc (Nat.le_refl _) (.cells #[.int .i64 s, .int .i64 kind, .int .i64 x, .int .i64 a, .int .i64 b] 24)
    have hcn := own_new (n + 2) (w.alloc (.cells #[.int .i64 s, .int .i64 kind, .int .i64 x, .int .i64 a, .int .i64 b] 24)) (by omega)
    simp only [World.size_alloc] at hcn
    go_wp2_with fail
    refine hcn.mono ?_
    rintro e w1 ⟨rfl, hO, hb1⟩
    clear hcn
    have hbel1 := hbel0.trans (hb1.mono (Nat.le_succ _))
    have hbox1 := (hb1.block w.heap.size (Nat.lt_succ_self _)).trans hbox
    have HB : Hid (Below w.heap.size w w1 ∧ w1.heap[w.heap.size]? = some (.cells #[.int .i64 s, .int .i64 kind, .int .i64 x, .int .i64 a, .int .i64 b] 24 (0, 0)) ∧ Owned (w.heap.size + 1) w1 (w.heap.size + 1) (Ar.new (n + 2))) := ⟨hbel1, hbox1, hO⟩
    clear hbel1 hbox1 hb1 hO hbel0 hbox
    go_upto_if 33 with fail
    go_cut [8, 9] (fun _ _ wc => Below w.heap.size w wc ∧ wc.heap[w.heap.size]? = some (.cells #[.int .i64 s, .int .i64 kind, .int .i64 x, .int .i64 a, .int .i64 b] 24 (0, 0)) ∧ Owned (w.heap.size + 1) wc (w.heap.size + 1) ⟨n + 2, List.replicate n 0, false, 0, []⟩)
    case first =>
      by_cases h0 : 0 < n
      · have hcr := own_reserve HB.out.2.2 n h0 (by simp [Ar.new]) (by simp [Ar.new])
        go_wp2_with fail
        refine hcr.mono ?_
        rintro e w2 ⟨rfl, hO, hb⟩
        go_wp2
        go_meet
        case rel => exact ⟨HB.out.1.trans (hb.mono (Nat.le_succ _)), (hb.block _ (Nat.lt_succ_self _)).trans HB.out.2.1, by simpa [Ar.new, Ar.more, Ar.noted] using hO⟩
      · obtain rfl : n = 0 := by omega
        go_wp2
        go_meet
        case rel => exact ⟨HB.out.1, HB.out.2.1, by simpa [Ar.new] using HB.out.2.2⟩
    case rest =>
      clear HB
      have HB : Hid _ := hcut
      clear hcut
      go_wp2_with fail
      go_loopw [10, 11] (fun i _ wr => ∃ k : Nat, k ≤ n ∧ i = .int .i64 k ∧ Below w.heap.size w wr ∧ wr.heap[w.heap.size]? = some (.cells #[.int .i64 s, .int .i64 kind, .int .i64 x, .int .i64 a, .int .i64 b] 24 (0, 0)) ∧ Owned (w.heap.size + 1) wr (w.heap.size + 1) ⟨n + 2, fillK zs n k, false, 0, []⟩) (fun i _ _ => n - (intOf i).toNat)
      case atStart => exact ⟨0, Nat.zero_le _, rfl, HB.out.1, HB.out.2.1, by rw [fillK_zero]; exact HB.out.2.2⟩
      case round =>
        clear HB
        obtain ⟨k, hk, rfl, hb, hx, hO⟩ := hrel
        have HB : Hid (Below w.heap.size w wr ∧ wr.heap[w.heap.size]? = some (.cells #[.int .i64 s, .int .i64 kind, .int .i64 x, .int .i64 a, .int .i64 b] 24 (0, 0)) ∧ Owned (w.heap.size + 1) wr (w.heap.size + 1) ⟨n + 2, fillK zs n k, false, 0, []⟩) := ⟨hb, hx, hO⟩
        clear hb hx hO
        by_cases hkn : k < n
        · obtain ⟨b0, off, rfl, hb0, hcell⟩ := HC.out (by omega)
          have hck := (HB.out.1.cell (p := ⟨b0, off + k, none⟩) hb0).trans (hcell k (by omega))
          have HS : Hid (∀ P, (Calls Try.prog 11 #[.pointer (some ⟨w.heap.size + 1, 0, none⟩), .int .i64 k, .int .i64 (zs.getD k 0)] wr P) = (Calls Try.prog 11 #[.pointer (some ⟨w.heap.size + 1, 0, none⟩), .int .i64 k, .int .i64 (zs.getD k 0)] wr P)) := fun _ => rfl
          have hcs := own_store HB.out.2.2 k (zs.getD k 0) (by rw [fillK_length zs n k hk (by omega)]; exact hkn) (by simp)
          have E : Hid ((fillK zs n k).set k (zs.getD k 0) = fillK zs n (k + 1)) := fillK_succ zs n k hkn (by omega)
          clear HS hcell
          generalize zs.getD k 0 = z at hck hcs E
          go_wp2_with fail
          refine hcs.mono ?_
          rintro e w2 ⟨rfl, hO, hb⟩
          clear hcs
          have HB2 : Hid (Below w.heap.size w w2 ∧ w2.heap[w.heap.size]? = some (.cells #[.int .i64 s, .int .i64 kind, .int .i64 x, .int .i64 a, .int .i64 b] 24 (0, 0)) ∧ Owned (w.heap.size + 1) w2 (w.heap.size + 1) ⟨n + 2, fillK zs n (k + 1), false, 0, []⟩) :=
            ⟨HB.out.1.trans (hb.mono (Nat.le_succ _)), (hb.block _ (Nat.lt_succ_self _)).trans HB.out.2.1, by have := hO; simp only [Ar.noted, Ar.put, E.out] at this; simpa using this⟩
          clear hO hb HB
          go_wp2
          go_roundw
          case rel => exact ⟨k + 1, by omega, by go_num, HB2.out.1, HB2.out.2.1, HB2.out.2.2⟩
          case measure => simp [intOf]; omega
        · obtain rfl : k = n := by omega
          go_upto_region 17 with fail
          go_cut [12] (fun s12 wc => Put w wc (.cells #[.int .i64 s, .int .i64 kind, .int .i64 x, .int .i64 a, .int .i64 b] 24 (0, 0)) (Ar.did ⟨k + 2, zs.take k, false, 0, []⟩ (kind % 5) x a b) s12)
          case first =>
            have hO := HB.out.2.2
            rw [fillK_end] at hO
            have m1 := (cell_of_block HB.out.2.1 1).trans rfl
            have m2 := (cell_of_block HB.out.2.1 2).trans rfl
            have m3 := (cell_of_block HB.out.2.1 3).trans rfl
            have m4 := (cell_of_block HB.out.2.1 4).trans rfl
            have HB2 : Hid (Below w.heap.size w wr) := HB.out.1
            have HX : Hid (wr.heap[w.heap.size]? = some (.cells #[.int .i64 s, .int .i64 kind, .int .i64 x, .int .i64 a, .int .i64 b] 24 (0, 0))) := HB.out.2.1
            have hlt := hO.lt
            have ne1 : ¬ w.heap.size = wr.heap.size := by omega
            have ne2 : ¬ wr.heap.size = w.heap.size := by omega
            obtain ⟨vc, vl, hA, hp, hvc, hvl⟩ := hO.ex
            have HV : Hid (w.heap.size + 1 ≤ w.heap.size + 1 ∧ (∀ g, vc.ownBlock = some g → w.heap.size + 1 ≤ g) ∧ (∀ g, vl.ownBlock = some g → w.heap.size + 1 ≤ g)) := ⟨hp, hvc, hvl⟩
            have d1 := done_any (w.heap.size + 1) vc vl _ 0 (kind % 5) x a b wr.drew hA.drew (by simp)
            have d2 := done_any (w.heap.size + 1) vc vl _ 0 (kind % 5) x a b _ (hA.alloc (.cells #[.int .i64 0, .bool false, .int .i64 0] 33)).drew (by simp)
            generalize hD : Ar.did ⟨k + 2, zs.take k, false, 0, []⟩ (kind % 5) x a b = D at d1 d2
            obtain ⟨⟨v, ok, err⟩, A'⟩ := D
            simp only [Eff.value] at d1 d2
            have HD : Hid (Ar.did ⟨k + 2, zs.take k, false, 0, []⟩ (kind % 5) x a b = (⟨v, ok, err⟩, A')) := hD
            clear hD
            have HA : Hid (IsArena wr (w.heap.size + 1) vc vl ⟨k + 2, zs.take k, false, 0, []⟩) := hA
            clear hA hp hvc hvl hO HB
            go_region_held3 (fun w' => w'.cell? ⟨w.heap.size, 1, none⟩ = some (.int .i64 kind) ∧ w'.cell? ⟨w.heap.size, 2, none⟩ = some (.int .i64 x) ∧ w'.cell? ⟨w.heap.size, 3, none⟩ = some (.int .i64 a) ∧ w'.cell? ⟨w.heap.size, 4, none⟩ = some (.int .i64 b)) (go_keep)
              (first
              | (go_at_call 13; refine (mod5 kind _).mono ?_; rintro e w' ⟨rfl, rfl⟩)
              | (go_at_call 12; refine d1.mono ?_; rintro e w1 ⟨rfl, hAf⟩; have hs := only_box1 HX.out HV.out hAf; obtain ⟨ne3, ne4⟩ := only_ne hlt hAf)
              | (go_at_call 12; refine d2.mono ?_; rintro e w1 ⟨rfl, hAf⟩; have hs := only_box2 HX.out HV.out hAf; have hb := only_res HA.out hAf; have r0 := (cell_of_block hb 0).trans rfl; have r1 := (cell_of_block hb 1).trans rfl; have r2 := (cell_of_block hb 2).trans rfl; have q0 := free_of_block hb 0; have q1 := free_of_block hb 1; have q2 := free_of_block hb 2))
            all_goals (go_wp2_with fail; go_meet)
            all_goals rw [HD.out]
            all_goals first | exact put1 HB2.out hlt HX.out HV.out hAf | exact put2 HB2.out hlt HX.out HA.out HV.out hAf
          case rest =>
            clear HB
            obtain ⟨wd, hwd⟩ : ∃ wd, wd = wc := ⟨_, rfl⟩
            subst hwd
            have HP : Hid _ := hcut
            clear hcut
            have hlen : (zs.take k).length = k := by rw [List.length_take]; omega
            have hD1 := Ar.did_grows ⟨k + 2, zs.take k, false, 0, []⟩ (kind % 5) x a b
            have hD2 := Ar.did_length ⟨k + 2, zs.take k, false, 0, []⟩ (kind % 5) x a b
            have hD3 := fun i => Ar.did_still ⟨k + 2, zs.take k, false, 0, []⟩ (kind % 5) x a b i
            simp only [hlen] at hD1 hD2 hD3
            have hm0 := Int.emod_nonneg kind (show (5 : Int) ≠ 0 by decide)
            have hm5 := Int.emod_lt_of_pos kind (show (0 : Int) < 5 by decide)
            generalize Ar.did ⟨k + 2, zs.take k, false, 0, []⟩ (kind % 5) x a b = D at HP hD1 hD2 hD3
            obtain ⟨⟨v, ok, err⟩, A'⟩ := D
            obtain ⟨hb, hbx, hO, g, rfl, hg⟩ := HP.out
            have hB1 := hO.lt
            have hcc := own_cells hO
            have HP2 : Hid (Below w.heap.size w wd ∧ wd.heap[w.heap.size]? = _ ∧ wd.heap[g]? = _ ∧ w.heap.size + 1 < wd.heap.size) := ⟨hb, hbx, hg, hB1⟩
            clear hb hbx hg hO hB1 HP
            simp only at hD1 hD2 hD3 hcc
            go_wp2_with fail
            refine hcc.mono ?_
            rintro e w1 ⟨rfl, hl, hb1⟩
            have HL : Hid (Seen w w1 s kind x a b v ok err g wd.heap.size A') := only_seen HP2.out.1 HP2.out.2.1 HP2.out.2.2.1 HP2.out.2.2.2 hl hb1
            have m1 := (cell_of_block HL.out.box 1).trans rfl
            clear hl hb1 hcc HP2
            go_upto_region 19 with fail
            go_cut [89] (fun s89 wx => s89 = .bool false ∧ wx = w1)
            case first =>
              by_cases h4 : kind % 5 = 4
              · go_wp2_with (go_at_call 13; refine (mod5 kind _).mono ?_; rw [h4]; rintro e w' ⟨rfl, rfl⟩)
                go_meet
                case rel => exact ⟨by simp; omega, rfl⟩
              · have hq : ((A'.cells.length : Int) != (k : Int)) = false := by have := hD2 (by omega); simp; omega
                have h4' : (kind % 5 != 4) = true := by simpa using h4
                go_wp2_with (go_at_call 13; refine (mod5 kind _).mono ?_; rintro e w' ⟨rfl, rfl⟩)
                go_meet
                case rel => exact ⟨by simp; omega, rfl⟩
            case rest =>
              obtain ⟨rfl, rfl⟩ := hcut
              clear m1
              have HD3 : Hid (∀ i, i < k → kind % 5 = 4 ∨ kind % 5 = 0 ∨ ok = false ∨ (i : Int) ≠ x → A'.cells.getD i 0 = (zs.take k).getD i 0) := hD3
              have HD1 : Hid (k ≤ A'.cells.length) := hD1
              clear hD1 hD2 hD3
              go_wp2_with fail
              go_loopw [14, 15] (fun i _ wr => ∃ j : Nat, j ≤ k ∧ i = .int .i64 j ∧ Seen w wr s kind x a b v ok err g wd.heap.size A') (fun i _ _ => k - (intOf i).toNat)
              case atStart => exact ⟨0, Nat.zero_le _, rfl, HL.out⟩
              case round =>
                clear HL
                obtain ⟨j, hj, rfl, hS⟩ := hrel
                have HS : Hid (Seen w wr s kind x a b v ok err g wd.heap.size A') := hS
                clear hS
                by_cases hjk : j < k
                · have m1 := (cell_of_block HS.out.box 1).trans rfl
                  have m2 := (cell_of_block HS.out.box 2).trans rfl
                  have m3 := (cell_of_block HS.out.res 1).trans rfl
                  go_upto_region 24 with fail
                  go_cut [15] (fun s15 wx => s15 = .bool (decide (kind % 5 = 4 ∨ kind % 5 = 0 ∨ ok = false ∨ (j : Int) ≠ x)) ∧ wx = wr)
                  case first =>
                    by_cases h4 : kind % 5 = 4
                    · go_wp2_with (go_at_call 13; refine (mod5 kind _).mono ?_; rw [h4]; rintro e w' ⟨rfl, rfl⟩)
                      go_meet
                      case rel => exact ⟨by simp [h4], rfl⟩
                    have h4' : (kind % 5 == 4) = false := by simpa using h4
                    by_cases h0 : kind % 5 = 0
                    · go_wp2_with (go_at_call 13; refine (mod5 kind _).mono ?_; rw [h0]; rintro e w' ⟨rfl, rfl⟩)
                      go_meet
                      case rel => exact ⟨by simp [h0], rfl⟩
                    have h0' : (kind % 5 == 0) = false := by simpa using h0
                    cases ok with
                    | false =>
                      go_wp2_with (go_at_call 13; refine (mod5 kind _).mono ?_; rintro e w' ⟨rfl, rfl⟩)
                      go_meet
                      case rel => exact ⟨by simp, rfl⟩
                    | true =>
                      go_wp2_with (go_at_call 13; refine (mod5 kind _).mono ?_; rintro e w' ⟨rfl, rfl⟩)
                      go_meet
                      case rel => exact ⟨by by_cases hjx : (j : Int) = x <;> simp [h4, h0, hjx], rfl⟩
                  case rest =>
                    obtain ⟨rfl, rfl⟩ := hcut
                    clear m1 m2 m3
                    by_cases hs : kind % 5 = 4 ∨ kind % 5 = 0 ∨ ok = false ∨ (j : Int) ≠ x
                    · have E : A'.cells.getD j 0 = zs.getD j 0 := by
                        have := HD3.out j hjk hs
                        rw [this, List.getD_eq_getElem?_getD, List.getD_eq_getElem?_getD, List.getElem?_take, if_pos hjk]
                      obtain ⟨b0, off, rfl, hb0, hcell⟩ := HC.out (by omega)
                      have hvc := (HS.out.below.cell (p := ⟨b0, off + j, none⟩) hb0).trans (hcell j (by omega))
                      have hlc : wc.cell? ⟨wd.heap.size, j, none⟩ = some (.int .i64 (zs.getD j 0)) := by
                        rw [cell_of_block HS.out.list, ← E]
                        have : j < A'.cells.length := by have := HD1.out; omega
                        simp [List.getD, this]
                      have i1 : (j : Int) < (A'.cells.length : Int) := by have := HD1.out; omega
                      have i2 : (j : Int) < (len : Int) := by omega
                      clear hcell E
                      generalize zs.getD j 0 = z at hvc hlc
                      rw [decide_eq_true hs]
                      clear hs
                      go_wp2_with fail
                      go_quiet (fail)
                      go_wp2
                      go_roundw
                      case rel => exact ⟨j + 1, by omega, by go_num, HS.out.drewN _⟩
                      case measure => simp [intOf]; omega
                    · rw [decide_eq_false hs]
                      clear hs
                      go_wp2_with fail
                      go_quiet (fail)
                      go_wp2
                      go_roundw
                      case rel => exact ⟨j + 1, by omega, by go_num, HS.out.drewN _⟩
                      case measure => simp [intOf]; omega
                · go_wp2
                  go_ret
                  exact ⟨rfl, HS.out.below⟩
end Go.Proofs.Ytloahjkndhcjfaa
