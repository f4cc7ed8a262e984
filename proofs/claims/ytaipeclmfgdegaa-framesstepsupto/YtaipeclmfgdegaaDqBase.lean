import Derived.Test.YtaipeclmfgdegaaTellWalks
/-! What the statements of the deque begin with. -/
namespace Go.Proofs.Ytaipeclmfgdegaa
open Go.RowKit Go.HeapKit

/-- The law's own remainder. -/
theorem mod3_any (x : Int) (n : Nat) (hn : 0 < n) (hn2 : n ≤ 4611686018427387904) (w : World) : Calls Try.prog 18 #[.int .i64 x, .int .i64 n] w fun e w' => e = .returned (.int .i64 (x % n)) ∧ w' = w := by
  have h0 : ¬ (n : Int) = 0 := by omega
  have hlt := Int.tmod_lt_of_pos x (show (0 : Int) < n by omega)
  by_cases hr : x.tmod n < 0
  · have e : x.tmod n + n = x % n := by
      rw [Int.emod_eq_tmod]
      have : ¬ (0 ≤ x) := fun h => by have := Int.tmod_nonneg (n : Int) h; omega
      have h2 : ¬ (n : Int) ∣ x := fun h => by rw [Int.tmod_eq_zero_of_dvd h] at hr; omega
      simp [this, h2]
    have h3 : -(n : Int) < x.tmod n := Int.lt_tmod_of_pos x (by omega)
    go_enter Try.func18, Try.ntmps18
    go_wp2
    go_ret
    rw [← e]
    exact ⟨rfl, rfl⟩
  · have e : x.tmod n = x % n := by
      rw [Int.emod_eq_tmod]
      by_cases h : 0 ≤ x
      · simp [h]
      · have : (n : Int) ∣ x := by
          apply Int.dvd_of_tmod_eq_zero
          have h9 := Int.tmod_nonneg (n : Int) (show 0 ≤ -x by omega)
          rw [Int.neg_tmod] at h9
          omega
        simp [this]
    go_enter Try.func18, Try.ntmps18
    go_wp2
    go_ret
    rw [← e]
    exact ⟨rfl, rfl⟩
/-- A slice of numbers that is only read. -/
def Ints (w : World) (ao : Option Addr) (zs : List Int) : Prop := 0 < zs.length → ∃ b off, ao = some ⟨b, off, none⟩ ∧ b < w.heap.size ∧ ∀ i, i < zs.length → w.cell? ⟨b, off + i, none⟩ = some (.int .i64 (zs.getD i 0))
theorem Ints.kept {w w' : World} {ao : Option Addr} {zs : List Int} (h : Ints w ao zs) (hk : Keeps None w w') : Ints w' ao zs := by
  intro hp
  obtain ⟨b, off, h1, h2, h3⟩ := h hp
  exact ⟨b, off, h1, Nat.lt_of_lt_of_le h2 hk.size, fun i hi => hk.cell (h3 i hi) (fun f => f)⟩
/-- An arena with all that it may touch. -/
def ArF (w : World) (p : Nat) (F : Nat → Prop) (A : Ar) : Prop := ∃ vc vl, IsArena w p vc vl A ∧ F = Foot p vc vl
def AA (w w' : World) (p : Nat) (F : Nat → Prop) (A : Ar) : Prop := ∃ F', ArF w' p F' A ∧ Keeps F w w' ∧ ∀ k, F' k → F k ∨ w.heap.size ≤ k
theorem ArF.lt {w : World} {p : Nat} {F : Nat → Prop} {A : Ar} (h : ArF w p F A) {k : Nat} (hk : F k) : k < w.heap.size := by
  obtain ⟨vc, vl, h, rfl⟩ := h
  exact h.foot_lt hk
theorem ArF.kept {w w' : World} {p : Nat} {F S : Nat → Prop} {A : Ar} (h : ArF w p F A) (hk : Keeps S w w') (hS : ∀ k, F k → ¬ S k) : ArF w' p F A := by
  obtain ⟨vc, vl, h, rfl⟩ := h
  exact ⟨vc, vl, h.kept hk hS, rfl⟩
theorem AA.of {w w' : World} {p : Nat} {vc vl : Value} {A : Ar} (h : After w w' p vc vl A) : AA w w' p (Foot p vc vl) A := by
  obtain ⟨vc', vl', h', hk, mc, ml⟩ := h
  refine ⟨_, ⟨vc', vl', h', rfl⟩, hk, ?_⟩
  intro k hk
  rcases hk with rfl | hk | hk
  · exact .inl (.inl rfl)
  · rcases mc with e | ⟨g, e, hg⟩
    · exact .inl (.inr (.inl (e ▸ hk)))
    · rw [e] at hk; injection hk with hk; exact .inr (by omega)
  · rcases ml with e | ⟨g, e, hg⟩
    · exact .inl (.inr (.inr (e ▸ hk)))
    · rw [e] at hk; injection hk with hk; exact .inr (by omega)
theorem AA.trans {w w1 w2 : World} {p : Nat} {F F1 : Nat → Prop} {B : Ar} (hk : Keeps F w w1) (hf : ∀ k, F1 k → F k ∨ w.heap.size ≤ k) (h2 : AA w1 w2 p F1 B) : AA w w2 p F B := by
  obtain ⟨F2, g, k, m⟩ := h2
  have := hk.size
  exact ⟨F2, g, hk.trans k (fun i f hi => by rcases hf i f with f | f; exact f; omega), fun k f => by
    rcases m k f with f | f
    · exact hf k f
    · exact .inr (by omega)⟩
/-- An arena that is new since w. -/
def NewA (w w' : World) (p : Nat) (A : Ar) : Prop := ∃ F, ArF w' p F A ∧ Keeps None w w' ∧ ∀ k, F k → w.heap.size ≤ k
theorem NewA.next {w w1 w2 : World} {p : Nat} {A B : Ar} (h : NewA w w1 p A) (h2 : ∀ F, ArF w1 p F A → AA w1 w2 p F B) : NewA w w2 p B := by
  obtain ⟨F, hF, hk, hf⟩ := h
  obtain ⟨F2, g, k, m⟩ := h2 F hF
  have := hk.size
  exact ⟨F2, g, hk.trans k (fun i f hi => by have := hf i f; omega), fun k f => by
    rcases m k f with f | f
    · exact hf k f
    · omega⟩
theorem NewA.step {w w1 w2 : World} {p : Nat} {F : Nat → Prop} {B : Ar} (hk : Keeps None w w1) (hf : ∀ k, F k → w.heap.size ≤ k) (h2 : AA w1 w2 p F B) : NewA w w2 p B := by
  obtain ⟨F2, g, k, m⟩ := h2
  have := hk.size
  exact ⟨F2, g, hk.trans k (fun i f hi => by have := hf i f; omega), fun k f => by
    rcases m k f with f | f
    · exact hf k f
    · omega⟩
theorem NewA.kept {w w1 w2 : World} {p : Nat} {A : Ar} (h : NewA w w1 p A) (hk : Keeps None w1 w2) : NewA w w2 p A := by
  obtain ⟨F, hF, h1, hf⟩ := h
  exact ⟨F, hF.kept hk (fun _ _ f => f), h1.trans hk (fun _ f _ => f), hf⟩
theorem NewA.keeps {w w' : World} {p : Nat} {A : Ar} (h : NewA w w' p A) : Keeps None w w' := h.choose_spec.2.1
theorem NewA.ar {w w' : World} {p : Nat} {A : Ar} (h : NewA w w' p A) : ∃ vc vl, IsArena w' p vc vl A := by
  obtain ⟨F, ⟨vc, vl, h, -⟩, -⟩ := h
  exact ⟨vc, vl, h⟩
theorem arf_store (p : Nat) (F : Nat → Prop) (A : Ar) (k : Nat) (v : Int) (w : World) (h : ArF w p F A) (hx : k < A.cells.length) (hlog : A.log.length < 1000000000000) :
    Calls Try.prog 85 #[.pointer (some ⟨p, 0, none⟩), .int .i64 k, .int .i64 v] w fun e w' => e = .returned (.int .i64 0) ∧ AA w w' p F ((A.put k v).noted ⟨0, 1, k, v, 0, true⟩) := by
  obtain ⟨vc, vl, h, rfl⟩ := h
  refine (store_in p vc vl A k v w h hx hlog).mono ?_
  rintro e w' ⟨rfl, hA⟩
  exact ⟨rfl, AA.of hA⟩
theorem arf_reserve (p : Nat) (F : Nat → Prop) (A : Ar) (n : Nat) (w : World) (h : ArF w p F A) (hn : 0 < n) (hfit : A.cells.length + n ≤ A.size) (hlog : A.log.length < 1000000000000) :
    Calls Try.prog 20 #[.pointer (some ⟨p, 0, none⟩), .int .i64 n] w fun e w' => e = .returned (.tuple #[.int .i64 A.cells.length, .int .i64 0]) ∧ AA w w' p F ((A.more n).noted ⟨0, 4, A.cells.length, n, 0, true⟩) := by
  obtain ⟨vc, vl, h, rfl⟩ := h
  refine (reserve_fits p vc vl A n w h hn hfit hlog).mono ?_
  rintro e w' ⟨rfl, hA⟩
  exact ⟨rfl, AA.of hA⟩
theorem arf_watch (p : Nat) (F : Nat → Prop) (A : Ar) (t : Bool) (w : World) (h : ArF w p F A) :
    Calls Try.prog 9 #[.pointer (some ⟨p, 0, none⟩), .bool t] w fun e w' => e = .returned (.tuple #[]) ∧ AA w w' p F { A with on := t } := by
  obtain ⟨vc, vl, h, rfl⟩ := h
  refine (watch_any p vc vl A t w h).mono ?_
  rintro e w' ⟨rfl, h', hk⟩
  exact ⟨rfl, _, ⟨vc, vl, h', rfl⟩, hk, fun k f => .inl f⟩
theorem newA_new (n : Nat) (w : World) (hn : n ≤ 1048576) :
    Calls Try.prog 6 #[.int .i64 n] w fun e w' => e = .returned (.tuple #[.pointer (some ⟨w.heap.size, 0, none⟩), .int .i64 0]) ∧ NewA w w' w.heap.size (Ar.new n) := by
  refine (new_ok n w hn).mono ?_
  rintro e w' ⟨rfl, hA, hk⟩
  refine ⟨rfl, _, ⟨_, _, hA, rfl⟩, hk, ?_⟩
  rintro k (rfl | e | e)
  · exact Nat.le_refl _
  · simp [Value.ownBlock] at e
  · simp [Value.ownBlock] at e
end Go.Proofs.Ytaipeclmfgdegaa
