import Derived.Test.YtheginjjncnheaaHiBase
/-! The plain deque of package hist: what it holds, in memory; every call of it. -/
namespace Go.Proofs.Ytheginjjncnheaa
open Go.RowKit Go.HeapKit

/-- A slice of numbers in a block of its own, somewhere in it. -/
def Held (w : World) (v : Value) (zs : List Int) : Prop :=
  (v = .slice none 0 0 ∧ zs = []) ∨ ∃ g off cap cur, v = .slice (some ⟨g, off, none⟩) zs.length cap ∧ w.heap[g]? = some (.cells cur 2 (0, 0)) ∧ zs.length ≤ cap ∧ off + cap ≤ cur.size ∧
    ∀ i z, zs[i]? = some z → cur[off + i]? = some (.int .i64 z)
structure IsPlain (w : World) (p : Nat) (most : Nat) (v : Value) (zs : List Int) : Prop where
  blk : w.heap[p]? = some (.cells #[.int .i64 most, v] 47 (0, 0))
  held : Held w v zs
def PFoot (p : Nat) (v : Value) (k : Nat) : Prop := k = p ∨ v.ownBlock = some k

theorem Try.infoInt64 : (Try.prog.info? 2).map (fun i => (i.zero, i.size, i.bytes)) = some (some (.int .i64 0), 1, 8) := by kernel_rfl
section
variable {w w' : World} {p most : Nat} {v : Value} {zs : List Int}
theorem Held.lt (h : Held w v zs) {g : Nat} (hg : v.ownBlock = some g) : g < w.heap.size := by
  rcases h with ⟨rfl, _⟩ | ⟨g', off, cap, cur, rfl, hb, _⟩
  · simp [Value.ownBlock] at hg
  · simp [Value.ownBlock] at hg; subst hg; exact (Array.getElem?_eq_some_iff.1 hb).1
theorem Held.type (h : Held w v zs) {g : Nat} (hg : v.ownBlock = some g) : ∃ cur, w.heap[g]? = some (.cells cur 2 (0, 0)) := by
  rcases h with ⟨rfl, _⟩ | ⟨g', off, cap, cur, rfl, hb, _⟩
  · simp [Value.ownBlock] at hg
  · simp [Value.ownBlock] at hg; subst hg; exact ⟨_, hb⟩
theorem Held.kept {S : Nat → Prop} (h : Held w v zs) (hk : Keeps S w w') (hS : ∀ g, v.ownBlock = some g → ¬ S g) : Held w' v zs := by
  rcases h with ⟨rfl, rfl⟩ | ⟨g', off, cap, cur, rfl, hb, r⟩
  · exact .inl ⟨rfl, rfl⟩
  · exact .inr ⟨g', off, cap, cur, rfl, (hk.block g' (Array.getElem?_eq_some_iff.1 hb).1 (hS g' rfl)).trans hb, r⟩
theorem Held.shape (h : Held w v zs) : ∃ ao cap, v = .slice ao zs.length cap ∧ zs.length ≤ cap := by
  rcases h with ⟨rfl, rfl⟩ | ⟨g', off, cap, cur, rfl, hb, hc, r⟩
  · exact ⟨_, _, rfl, Nat.le_refl _⟩
  · exact ⟨_, _, rfl, hc⟩
theorem Held.at (h : Held w v zs) {i : Nat} {z : Int} (hz : zs[i]? = some z) : ∃ g off cap, v = .slice (some ⟨g, off, none⟩) zs.length cap ∧ zs.length ≤ cap ∧ w.cell? ⟨g, off + i, none⟩ = some (.int .i64 z) := by
  rcases h with ⟨rfl, rfl⟩ | ⟨g', off, cap, cur, rfl, hb, hc, _, r⟩
  · simp at hz
  · exact ⟨_, _, _, rfl, hc, by rw [blk_cell hb]; exact r i z hz⟩
/-- The newest goes. -/
theorem Held.init {ao : Option Addr} {n cap : Nat} (h : Held w (.slice ao (n + 1) cap) zs) (hn : zs.length = n + 1) : Held w (.slice ao n cap) zs.dropLast := by
  rcases h with ⟨e, rfl⟩ | ⟨g', off, cap', cur, e, hb, hc, hs, r⟩
  · simp at hn
  · injection e with e1 e2 e3
    subst e1 e3
    refine .inr ⟨g', off, cap, cur, ?_, hb, by simp; omega, hs, ?_⟩
    · rw [List.length_dropLast, hn]; rfl
    · intro i z hz
      rw [List.getElem?_dropLast] at hz
      split at hz
      · exact r i z hz
      · cases hz
/-- The oldest goes. -/
theorem Held.tail {g off n cap : Nat} {z : Int} {r : List Int} (h : Held w (.slice (some ⟨g, off, none⟩) n cap) (z :: r)) (hn : n = r.length + 1) : Held w (.slice (some ⟨g, off + 1, none⟩) r.length (cap - 1)) r := by
  rcases h with ⟨e, _⟩ | ⟨g', off', cap', cur, e, hb, hc, hs, hr⟩
  · cases e
  · injection e with e1 e2 e3
    injection e1 with e1
    injection e1 with e1 e4
    subst e1 e3 e4
    simp at hc
    refine .inr ⟨g, off + 1, cap - 1, cur, rfl, hb, by omega, by omega, ?_⟩
    intro i x hx
    rw [show off + 1 + i = off + (i + 1) by omega]
    exact hr (i + 1) x (by simpa using hx)
theorem Held.none {g off : Nat} {n cap : Nat} {zs : List Int} (h : Held w (.slice (some ⟨g, off, none⟩) n cap) zs) : Held w (.slice (some ⟨g, off, none⟩) 0 0) [] := by
  rcases h with ⟨e, _⟩ | ⟨g', off', cap', cur, e, hb, hc, hs, hr⟩
  · cases e
  · injection e with e1 e2 e3
    injection e1 with e1
    injection e1 with e1 e4
    subst e1 e3 e4
    exact .inr ⟨g, off, 0, cur, rfl, hb, by simp, by omega, by simp⟩
theorem IsPlain.lt (h : IsPlain w p most v zs) : p < w.heap.size := (Array.getElem?_eq_some_iff.1 h.blk).1
theorem IsPlain.ne (h : IsPlain w p most v zs) : v.ownBlock ≠ some p := fun e => by
  obtain ⟨cur, hc⟩ := h.held.type e
  rw [h.blk] at hc
  simp at hc
theorem IsPlain.c0 (h : IsPlain w p most v zs) : w.cell? ⟨p, 0, none⟩ = some (.int .i64 most) := by rw [blk_cell h.blk]; rfl
theorem IsPlain.c1 (h : IsPlain w p most v zs) : w.cell? ⟨p, 1, none⟩ = some v := by rw [blk_cell h.blk]; rfl
theorem IsPlain.free (h : IsPlain w p most v zs) (i : Nat) : w.frozen? ⟨p, i, none⟩ = false := blk_free h.blk i
theorem IsPlain.kept {S : Nat → Prop} (h : IsPlain w p most v zs) (hk : Keeps S w w') (hS : ∀ k, PFoot p v k → ¬ S k) : IsPlain w' p most v zs :=
  ⟨(hk.block p h.lt (hS p (.inl rfl))).trans h.blk, h.held.kept hk (fun g hg => hS g (.inr hg))⟩
theorem IsPlain.foot_lt (h : IsPlain w p most v zs) {k : Nat} (hk : PFoot p v k) : k < w.heap.size := by
  rcases hk with rfl | hk
  · exact h.lt
  · exact h.held.lt hk
/-- What it holds is laid anew. -/
theorem IsPlain.put (h : IsPlain w p most v zs) {v' : Value} {zs' : List Int} (hh : Held w v' zs') : IsPlain (w.setCell ⟨p, 1, none⟩ v') p most v' zs' := by
  have hkp : Keeps (· = p) w (w.setCell ⟨p, 1, none⟩ v') := Keeps.setCell (S := (· = p)) w (a := ⟨p, 1, none⟩) rfl _
  refine ⟨by rw [blk_set h.blk]; rfl, hh.kept hkp (fun g hg e => ?_)⟩
  subst e
  obtain ⟨cur, hc⟩ := hh.type hg
  rw [h.blk] at hc
  simp at hc
end
/-- 'append(held, x)'. -/
theorem held_more (v : Value) (zs : List Int) (x : Int) (ty : Nat) (w : World) (h : Held w v zs) (hlen : zs.length ≤ 1000000) :
    ∃ v' w', (Builtin.append_ #[28, 28] ty #[v, .slice (some ⟨w.heap.size, 0, none⟩) 1 1]).run Try.prog (w.alloc (.cells #[.int .i64 x] 2)) = .ok v' w' ∧
      Held w' v' (zs ++ [x]) ∧ Keeps (fun k => v.ownBlock = some k) w w' ∧ Moved w v v' := by
  obtain ⟨i0, hi, hz0, hz1, hz2⟩ := info_parts Try.infoInt64
  have hnews : ∀ j u, [Value.int .i64 x][j]? = some u → (w.alloc (.cells #[.int .i64 x] 2)).cell? ((⟨w.heap.size, 0, none⟩ : Addr).add j) = some u := by
    intro j u hu
    rw [show (⟨w.heap.size, 0, none⟩ : Addr).add j = ⟨w.heap.size, j, none⟩ by unfold Addr.add; split <;> simp_all, blk_cell (blk_new w _ _ rfl)]
    simpa using hu
  have hone : ∀ u ∈ [Value.int .i64 x], u.oneCell' = true := by intro u hu; simp at hu; subst hu; rfl
  have grownRow : ∀ {w1 : World} {v' : Value} {n : Nat} {b : Nat} {ys : List Int}, w1.ownsRow b 2 1 v' n (ys.map (Value.int .i64)) → 0 < n → Held w1 v' ys := by
    intro w1 v' n b ys ho hn
    have hl : ys.length = n := by have := ho.1; simpa using this
    rcases ho.2 with ⟨_, h0⟩ | ⟨g, cap, cur, rfl, _, hg, hnc, _, hcs, ht⟩
    · omega
    · refine .inr ⟨g, 0, cap, cur, by rw [hl], hg, by omega, by omega, ?_⟩
      intro i z hz
      have hz2 : (ys.map (Value.int .i64))[i]? = some (.int .i64 z) := by simp [hz]
      rw [← ht, List.getElem?_take] at hz2
      split at hz2
      · simpa using hz2
      · cases hz2
  rcases h with ⟨rfl, rfl⟩ | ⟨g, off, cap, cur, rfl, hb, hc, hs, hr⟩
  · obtain ⟨v', w1, hrun, ho, hgr, hm, -⟩ := run_append_moved (P := Try.prog) (w.alloc (.cells #[.int .i64 x] 2)) 0 28 ty 2 i0 _ 1 8 Try.underlying28 hi hz0 hz1 hz2 rfl (by decide) (.slice none 0 0) 0 [] (row_nil _ _ _ _)
      ⟨w.heap.size, 0, none⟩ 1 1 [.int .i64 x] rfl hnews hone (by unfold maxLen; omega) (by omega) (Nat.zero_le _)
    refine ⟨v', w1, hrun, grownRow (ys := [x]) ho (by omega), ((Keeps.refl _ w).andAlloc _).andGrown hgr (fun k e => .inl e), ?_⟩
    rcases hm with hm | ⟨g', e, hg⟩
    · exact .inl hm
    · exact .inr ⟨g', e, by simp at hg; omega⟩
  · have hlt : g < w.heap.size := (Array.getElem?_eq_some_iff.1 hb).1
    have hb1 : (w.alloc (.cells #[.int .i64 x] 2)).heap[g]? = some (.cells cur 2 (0, 0)) := (Below.heap_alloc _ _ _ hlt).trans hb
    by_cases hroom : zs.length + 1 ≤ cap
    · have hrun := run_append_room_cells (P := Try.prog) (w.alloc (.cells #[.int .i64 x] 2)) 28 ty 2 i0 Try.underlying28 hi g off zs.length cap ⟨w.heap.size, 0, none⟩ 1 1 [.int .i64 x] (by rw [hz1]; rfl) hnews hone hroom
        (by
          intro j hj
          simp at hj
          subst hj
          rw [hz1, blk_cell hb1]
          simp
          omega) (by intro j hj; exact blk_free hb1 _)
      rw [hz1, Nat.mul_one] at hrun
      refine ⟨_, _, hrun, ?_, ?_, .inl rfl⟩
      · have hset : (w.alloc (.cells #[.int .i64 x] 2)).setCells g (off + zs.length) [.int .i64 x] = (w.alloc (.cells #[.int .i64 x] 2)).setCell ⟨g, off + zs.length, none⟩ (.int .i64 x) := by rfl
        rw [hset]
        refine .inr ⟨g, off, cap, cur.setIfInBounds (off + zs.length) (.int .i64 x), by simp, blk_set hb1 _, by simpa using hroom, by simpa using hs, ?_⟩
        intro i z hz
        by_cases hi2 : i < zs.length
        · rw [List.getElem?_append_left hi2] at hz
          rw [Array.getElem?_setIfInBounds_ne (by omega)]
          exact hr i z hz
        · have hie : i = zs.length := by
            have := (List.getElem?_eq_some_iff.1 hz).1
            simp at this
            omega
          subst hie
          simp at hz
          subst hz
          rw [Array.getElem?_setIfInBounds_self]
          simp
          omega
      · have hset : (w.alloc (.cells #[.int .i64 x] 2)).setCells g (off + zs.length) [.int .i64 x] = (w.alloc (.cells #[.int .i64 x] 2)).setCell ⟨g, off + zs.length, none⟩ (.int .i64 x) := by rfl
        rw [hset]
        exact ((Keeps.refl (fun k => (Value.slice (some ⟨g, off, none⟩) zs.length cap).ownBlock = some k) w).andAlloc _).andSet (x := ⟨g, off + zs.length, none⟩) (.inl rfl) _
    · obtain ⟨v', w1, hrun, ho, hgr⟩ := run_append_arg_grows (P := Try.prog) (w.alloc (.cells #[.int .i64 x] 2)) 28 ty 2 i0 _ 1 8 Try.underlying28 hi hz0 hz1 hz2 rfl (by decide) ⟨g, off, none⟩ zs.length cap (zs.map (Value.int .i64)) (by simp)
        (by
          intro j u hu
          rw [show (⟨g, off, none⟩ : Addr).add j = ⟨g, off + j, none⟩ by unfold Addr.add; split <;> simp_all, blk_cell hb1]
          rw [List.getElem?_map] at hu
          cases hzj : zs[j]? with
          | none => simp [hzj] at hu
          | some z => simp [hzj] at hu; subst hu; exact hr j z hzj)
        ⟨w.heap.size, 0, none⟩ 1 1 [.int .i64 x] rfl hnews (by omega) (by unfold maxLen; omega) (by omega)
      refine ⟨v', w1, hrun, grownRow (ys := zs ++ [x]) (n := zs.length + 1) (by simpa using ho) (by omega), ((Keeps.refl _ w).andAlloc _).andGrown hgr (fun k e => by cases e), ?_⟩
      rcases ho.2 with ⟨_, h0⟩ | ⟨g2, cap2, cur2, rfl, hbg, _⟩
      · omega
      · exact .inr ⟨g2, rfl, by simp at hbg; omega⟩
end Go.Proofs.Ytheginjjncnheaa
