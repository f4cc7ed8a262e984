import Derived.Test.YtnhoedodnbifdaaDgMoved
import Derived.Test.YtnhoedodnbifdaaDgBack
/-! What stands while a law of a dag is walked. -/
namespace Go.Proofs.Ytnhoedodnbifdaa
set_option linter.unusedVariables false
set_option maxRecDepth 20000
open Go.RowKit Go.HeapKit

structure St (w wr : World) (s0 p g m cap : Nat) (n : Int) (a : Option Addr) (c : Nat) (l L : List Ed) : Prop where
  b0 : wr.heap[s0]? = some (.cells #[.int .i64 n, .slice a m c] 24 (0, 0))
  bc : wr.heap[p]? = some (.cells #[.int .i64 n, .slice (some ⟨g, 0, none⟩) m cap] 24 (0, 0))
  room : RoomE wr w.heap.size g m cap L
  seen : SeenE wr a m l
  keeps : Keeps None w wr
  gp : g ≠ p ∧ g ≠ s0
  al : ∀ x, a = some x → 0 < m → x.block < w.heap.size
section
variable {w wr w' : World} {s0 p g m cap : Nat} {n : Int} {a : Option Addr} {c : Nat} {l L : List Ed}
theorem St.more (h : St w wr s0 p g m cap n a c l L) (hk : Keeps None wr w') : St w w' s0 p g m cap n a c l L :=
  ⟨blk_kept h.b0 hk (fun f => f), blk_kept h.bc hk (fun f => f), h.room.kept hk (fun f => f), h.seen.more hk, h.keeps.trans hk (fun _ f _ => f), h.gp, h.al⟩
theorem SeenE.lt {w : World} {a : Option Addr} {m : Nat} {l : List Ed} (h : SeenE w a m l) : ∀ x, a = some x → 0 < m → x.block < w.heap.size := by
  intro x hx h0
  obtain ⟨b, off, e, hb, _⟩ := h.ex h0
  rw [e] at hx
  injection hx with hx
  subst hx
  exact hb
theorem St.start {w1 : World} (hs0 : s0 = w.heap.size) (h : SeenE w a m l) (hb : w1.heap[s0]? = some (.cells #[.int .i64 n, .slice a m c] 24 (0, 0))) (hR : RoomE w1 (s0 + 1) g m cap L) (hk : Keeps None w w1) (hp : w1.heap.size = p) :
    St w (w1.alloc (.cells #[.int .i64 n, .slice (some ⟨g, 0, none⟩) m cap] 24)) s0 p g m cap n a c l L := by
  have hg := hR.lt
  have hlo := hR.low
  refine ⟨blk_old hb _, blk_new _ _ _ hp, ⟨hR.len, row_base (hR.kept (Keeps.alloc None w1 _) (fun f => f)).row (by omega)⟩, (h.more hk).more (Keeps.alloc None w1 _), hk.andAlloc _, ⟨by omega, by omega⟩, h.lt⟩
theorem St.back (h : St w wr s0 p g m cap n a c l L) (hR : RoomE w' w.heap.size g m cap l) (hk : Keeps (· = g) wr w') : St w w' s0 p g m cap n a c l l :=
  ⟨blk_kept h.b0 hk (fun e => h.gp.2 e.symm), blk_kept h.bc hk (fun e => h.gp.1 e.symm), hR, ⟨h.seen.len, fun h0 => by
      obtain ⟨b, off, e, hb, hc⟩ := h.seen.ex h0
      have hlt := h.al _ e h0
      have hlo := h.room.low
      exact ⟨b, off, e, Nat.lt_of_lt_of_le hb hk.size, fun k i hi => (hc k i hi).kept hk (fun e2 => by simp only at hlt; omega)⟩⟩,
    h.keeps.trans hk (fun i e hi => by have := h.room.low; omega), h.gp, h.al⟩
theorem St.c0 (h : St w wr s0 p g m cap n a c l L) : wr.cell? ⟨s0, 0, none⟩ = some (.int .i64 n) := (blk_cell h.b0 0).trans rfl
theorem St.c1 (h : St w wr s0 p g m cap n a c l L) : wr.cell? ⟨s0, 1, none⟩ = some (.slice a m c) := (blk_cell h.b0 1).trans rfl
theorem St.p0 (h : St w wr s0 p g m cap n a c l L) : wr.cell? ⟨p, 0, none⟩ = some (.int .i64 n) := (blk_cell h.bc 0).trans rfl
theorem St.p1 (h : St w wr s0 p g m cap n a c l L) : wr.cell? ⟨p, 1, none⟩ = some (.slice (some ⟨g, 0, none⟩) m cap) := (blk_cell h.bc 1).trans rfl
theorem St.own (h : St w wr s0 p g m cap n a c l L) : SeenE wr (some ⟨g, 0, none⟩) m L := h.room.seen
theorem St.apart (h : St w wr s0 p g m cap n a c l L) (h0 : 0 < m) : ∀ x, a = some x → x.block ≠ g := fun x hx e => by
  have := h.al x hx h0
  have := h.room.low
  omega
end
end Go.Proofs.Ytnhoedodnbifdaa
