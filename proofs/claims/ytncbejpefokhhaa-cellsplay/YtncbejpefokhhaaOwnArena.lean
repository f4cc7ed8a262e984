import Derived.Test.YtncbejpefokhhaaTellWalks
/-! One arena all of whose memory lies from block B on. -/
namespace Go.Proofs.Ytncbejpefokhhaa
open Go.RowKit Go.HeapKit

structure Owned (B : Nat) (w : World) (p : Nat) (A : Ar) : Prop where
  ex : ∃ vc vl, IsArena w p vc vl A ∧ B ≤ p ∧ (∀ g, vc.ownBlock = some g → B ≤ g) ∧ (∀ g, vl.ownBlock = some g → B ≤ g)

theorem Owned.of {B : Nat} {w w' : World} {p : Nat} {vc vl : Value} {A : Ar} (hA : After w w' p vc vl A) (hB : B ≤ w.heap.size) (hp : B ≤ p) (hc : ∀ g, vc.ownBlock = some g → B ≤ g) (hl : ∀ g, vl.ownBlock = some g → B ≤ g) :
    Owned B w' p A ∧ Below B w w' := by
  obtain ⟨vc', vl', h, hk, mc, ml⟩ := hA
  have hm : ∀ {v v'}, Moved w v v' → (∀ g, v.ownBlock = some g → B ≤ g) → ∀ g, v'.ownBlock = some g → B ≤ g := by
    intro v v' hm hv g e
    rcases hm with hm | ⟨g', hm, hg⟩
    · exact hv g (hm ▸ e)
    · rw [e] at hm; injection hm with hm; omega
  refine ⟨⟨vc', vl', h, hp, hm mc hc, hm ml hl⟩, hk.below B hB ?_⟩
  rintro k (rfl | e | e)
  · exact hp
  · exact hc k e
  · exact hl k e

theorem Owned.below {B B' : Nat} {w w' : World} {p : Nat} {A : Ar} (h : Owned B w p A) (hk : Keeps None w w') : Owned B w' p A ∧ (B' ≤ w.heap.size → Below B' w w') := by
  obtain ⟨vc, vl, hA, r⟩ := h.ex
  exact ⟨⟨vc, vl, hA.kept hk (fun _ _ f => f), r⟩, fun hB => hk.below B' hB (fun _ f => f.elim)⟩
theorem Owned.lt {B : Nat} {w : World} {p : Nat} {A : Ar} (h : Owned B w p A) : p < w.heap.size := by
  obtain ⟨vc, vl, hA, r⟩ := h.ex
  exact hA.lt
theorem Owned.size {B : Nat} {w : World} {p : Nat} {A : Ar} (h : Owned B w p A) : B ≤ w.heap.size := by
  obtain ⟨vc, vl, hA, hp, _⟩ := h.ex
  have := hA.lt
  omega

theorem own_store {B : Nat} {w : World} {p : Nat} {A : Ar} (h : Owned B w p A) (k : Nat) (v : Int) (hx : k < A.cells.length) (hlog : A.log.length < 1000000000000) :
    Calls Try.prog 57 #[.pointer (some ⟨p, 0, none⟩), .int .i64 k, .int .i64 v] w fun e w' => e = .returned (.int .i64 0) ∧ Owned B w' p ((A.put k v).noted ⟨0, 1, k, v, 0, true⟩) ∧ Below B w w' := by
  obtain ⟨vc, vl, hA, hp, hc, hl⟩ := h.ex
  refine (store_in p vc vl A k v w hA hx hlog).mono ?_
  rintro e w' ⟨rfl, hA'⟩
  exact ⟨rfl, Owned.of hA' h.size hp hc hl⟩
theorem own_reserve {B : Nat} {w : World} {p : Nat} {A : Ar} (h : Owned B w p A) (n : Nat) (hn : 0 < n) (hfit : A.cells.length + n ≤ A.size) (hlog : A.log.length < 1000000000000) :
    Calls Try.prog 56 #[.pointer (some ⟨p, 0, none⟩), .int .i64 n] w fun e w' => e = .returned (.tuple #[.int .i64 A.cells.length, .int .i64 0]) ∧ Owned B w' p ((A.more n).noted ⟨0, 4, A.cells.length, n, 0, true⟩) ∧ Below B w w' := by
  obtain ⟨vc, vl, hA, hp, hc, hl⟩ := h.ex
  refine (reserve_fits p vc vl A n w hA hn hfit hlog).mono ?_
  rintro e w' ⟨rfl, hA'⟩
  exact ⟨rfl, Owned.of hA' h.size hp hc hl⟩
theorem own_new (n : Nat) (w : World) (hn : n ≤ 1048576) :
    Calls Try.prog 20 #[.int .i64 n] w fun e w' => e = .returned (.tuple #[.pointer (some ⟨w.heap.size, 0, none⟩), .int .i64 0]) ∧ Owned w.heap.size w' w.heap.size (Ar.new n) ∧ Below w.heap.size w w' := by
  refine (new_ok n w hn).mono ?_
  rintro e w' ⟨rfl, hA, hk⟩
  exact ⟨rfl, ⟨⟨_, _, hA, Nat.le_refl _, fun g e => by simp [Value.ownBlock] at e, fun g e => by simp [Value.ownBlock] at e⟩⟩, hk.below _ (Nat.le_refl _) (fun _ f => f.elim)⟩
theorem own_cells {B : Nat} {w : World} {p : Nat} {A : Ar} (h : Owned B w p A) :
    Calls Try.prog 24 #[.pointer (some ⟨p, 0, none⟩)] w fun e w' => e = .returned (.slice (some ⟨w.heap.size, 0, none⟩) A.cells.length A.cells.length) ∧
      w'.heap[w.heap.size]? = some (.cells (A.cells.map (Value.int .i64)).toArray 2 (0, 0)) ∧ Below w.heap.size w w' := by
  obtain ⟨vc, vl, hA, hp, hc, hl⟩ := h.ex
  refine (cells_any p vc vl A w hA).mono ?_
  rintro e w' ⟨rfl, hb, hk⟩
  exact ⟨rfl, hb, hk.below _ (Nat.le_refl _) (fun _ f => f.elim)⟩
end Go.Proofs.Ytncbejpefokhhaa
