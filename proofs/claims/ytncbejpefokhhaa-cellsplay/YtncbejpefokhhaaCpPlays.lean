import Derived.Test.YtncbejpefokhhaaCpPlay
/-! Play of any size and any acts: the program's and the document's. -/
namespace Go.Proofs.Ytncbejpefokhhaa
set_option linter.unusedVariables false
open Go.RowKit Go.HeapKit

def fineW (n : Int) : Bool := decide (0 ≤ n) && decide (n ≤ 1048576)
def errP (size : Int) (n : Nat) : Int := if fineW size then (if 4096 < n then 2 else 0) else 3
def runN (size : Int) (n : Nat) : Nat := if errP size n = 0 then n else 0
def runA (size : Int) (n : Nat) (M : Nat → Nat → Int) : Ar := if errP size n = 0 then stAt (Ar.watched size.toNat) M n else Ar.new 0
def runF (size : Int) (M : Nat → Nat → Int) : Nat → Eff := effAt (Ar.watched size.toNat) M
theorem errP_zero {size : Int} {n : Nat} (h : errP size n = 0) : ∃ k : Nat, size = k ∧ k ≤ 1048576 ∧ n ≤ 4096 := by
  unfold errP at h
  split at h
  · rename_i hf
    simp [fineW] at hf
    split at h
    · omega
    · exact ⟨size.toNat, by omega, by omega, by omega⟩
  · omega
theorem run_small (size : Int) (n : Nat) (M : Nat → Nat → Int) : runN size n ≤ 4096 ∧ (runA size n M).log.length ≤ 4096 := by
  unfold runN runA
  by_cases h : errP size n = 0
  · rw [if_pos h, if_pos h]
    obtain ⟨k, rfl, h1, h2⟩ := errP_zero h
    have := stAt_log (Ar.watched ((k : Int)).toNat) M n
    rw [show (Ar.watched ((k : Int)).toNat).log.length = 0 from rfl] at this
    omega
  · rw [if_neg h, if_neg h]
    exact ⟨by omega, by simp [Ar.new]⟩
/-- A run in memory. -/
structure RunOut (B : Nat) (w : World) (N : Nat) (A : Ar) (f : Nat → Eff) (ea : Option Addr) (ec : Nat) (ca : Option Addr) (cc : Nat) (la : Option Addr) (lc : Nat) : Prop where
  eff : w.ownsRow B 41 3 (.slice ea N ec) N (effVals f N)
  cel : w.ownsRow B 2 1 (.slice ca A.cells.length cc) A.cells.length (A.cells.map (Value.int .i64))
  log : w.ownsRow B 65 6 (.slice la A.log.length lc) A.log.length (logVals A.log)
theorem RunOut.kept {B N : Nat} {w w' : World} {A : Ar} {f : Nat → Eff} {ea ca la : Option Addr} {ec cc lc : Nat} {S : Nat → Prop} (h : RunOut B w N A f ea ec ca cc la lc) (hk : Keeps S w w') (hS : ∀ b, B ≤ b → b < w.heap.size → ¬ S b) : RunOut B w' N A f ea ec ca cc la lc :=
  ⟨hk.own h.eff (fun b e => hS b (own_low h.eff e) (own_lt h.eff e)), hk.own h.cel (fun b e => hS b (own_low h.cel e) (own_lt h.cel e)), hk.own h.log (fun b e => hS b (own_low h.log e) (own_lt h.log e))⟩
theorem effs_list {E : Array Value} {n : Nat} {f : Nat → Eff} (h : Effs E n n f) : E.toList = effVals f n := by
  apply List.ext_getElem?
  intro t
  by_cases ht : t < n * 3
  · obtain ⟨i, j, hj, rfl⟩ : ∃ i j, j < 3 ∧ t = i * 3 + j := ⟨t / 3, t % 3, by omega, by omega⟩
    have hi : i < n := by omega
    obtain ⟨h0, h1, h2⟩ := h.2 i hi
    rcases (show j = 0 ∨ j = 1 ∨ j = 2 by omega) with rfl | rfl | rfl
    · rw [effVals_at f hi (j := 0) rfl]; simpa using h0
    · rw [effVals_at f hi (j := 1) rfl]; simpa using h1
    · rw [effVals_at f hi (j := 2) rfl]; simpa using h2
  · rw [List.getElem?_eq_none (by have := h.1; simp; omega), List.getElem?_eq_none (by rw [effVals_length]; omega)]
theorem own_blk {w : World} {B : Nat} {e : TypeId} {size n : Nat} {xs : List Value} {g : Nat} (hg : w.heap[g]? = some (.cells xs.toArray e (0, 0))) (hl : xs.length = n * size) (hn : n ≤ maxLen) (hB : B ≤ g) :
    w.ownsRow B e size (.slice (some ⟨g, 0, none⟩) n n) n xs :=
  ⟨hl, .inr ⟨g, n, xs.toArray, rfl, hB, hg, Nat.le_refl _, hn, by simpa using hl, by rw [← hl]; simp⟩⟩
theorem run_nil (B : Nat) (w : World) (f : Nat → Eff) : RunOut B w 0 (Ar.new 0) f none 0 none 0 none 0 := ⟨World.ownsRow_nil _ _ _ _, World.ownsRow_nil _ _ _ _, World.ownsRow_nil _ _ _ _⟩

theorem stAt_cells (A : Ar) (M : Nat → Nat → Int) (k : Nat) (hA : A.cells.length ≤ A.size) (hs : A.size ≤ 1048576) : (stAt A M k).cells.length ≤ 1048576 := by
  have key : ∀ k, (stAt A M k).cells.length ≤ (stAt A M k).size ∧ (stAt A M k).size = A.size := by
    intro k
    induction k with
    | zero => exact ⟨hA, rfl⟩
    | succ k ih =>
      have h1 : ∀ (C : Ar) (kd x a b : Int), C.cells.length ≤ C.size → (C.acted kd x a b).2.cells.length ≤ (C.acted kd x a b).2.size ∧ (C.acted kd x a b).2.size = C.size := by
        intro C kd x a b hC
        have hn : ∀ (D : Ar) (y : Acc), (D.noted y).cells = D.cells ∧ (D.noted y).size = D.size := by intro D y; unfold Ar.noted; split <;> exact ⟨rfl, rfl⟩
        unfold Ar.acted Ar.did
        repeat' split
        all_goals first | exact ⟨hC, rfl⟩ | (rw [(hn _ _).1, (hn _ _).2]; refine ⟨?_, rfl⟩; first | exact hC | (simp [Ar.put]; exact hC) | (simp only [Ar.more, List.length_append, List.length_replicate]; omega))
      simp only [stAt, Ar.turn]
      have := h1 ({ stAt A M k with actor := M k 0 } : Ar) (M k 1) (M k 2) (M k 3) (M k 4) ih.1
      exact ⟨this.1, this.2.trans ih.2⟩
  have := key k
  omega

def PPost (w : World) (size : Int) (n : Nat) (M : Nat → Nat → Int) (e : Ending) (w' : World) : Prop :=
  ∃ ea ca la, e = .returned (.tuple #[.agg #[.slice ea (runN size n) (runN size n), .slice ca (runA size n M).cells.length (runA size n M).cells.length, .slice la (runA size n M).log.length (runA size n M).log.length], .int .i64 (errP size n)]) ∧
    RunOut w.heap.size w' (runN size n) (runA size n M) (runF size M) ea (runN size n) ca (runA size n M).cells.length la (runA size n M).log.length ∧ Below w.heap.size w w'
theorem p_err {w w' : World} {size : Int} {n : Nat} {M : Nat → Nat → Int} {E : Int} (hE : errP size n = E) (h0 : E ≠ 0) (hb : Below w.heap.size w w') : PPost w size n M (.returned (.tuple #[.agg #[.slice none 0 0, .slice none 0 0, .slice none 0 0], .int .i64 E])) w' := by
  have e1 : runN size n = 0 := by unfold runN; rw [if_neg (by rw [hE]; exact h0)]
  have e2 : runA size n M = Ar.new 0 := by unfold runA; rw [if_neg (by rw [hE]; exact h0)]
  refine ⟨none, none, none, ?_, ?_, hb⟩
  · rw [e1, e2, hE]; rfl
  · rw [e1, e2]; exact run_nil _ _ _
theorem play_long (k : Nat) (hk : k ≤ 1048576) (ao : Option Addr) (n c : Nat) (M : Nat → Nat → Int) (w : World) (hn : 4096 < n) (hs : n * 40 ≤ 140737488351232) :
    Calls Try.prog 6 #[.int .i64 k, .slice ao n c] w (PPost w k n M) := by
  have hE : errP k n = 2 := by unfold errP; rw [show fineW (k : Int) = true by simp [fineW]; omega, if_pos rfl, if_pos hn]
  have HE : Hid (∀ w', Below w.heap.size w w' → PPost w k n M (.returned (.tuple #[.agg #[.slice none 0 0, .slice none 0 0, .slice none 0 0], .int .i64 2])) w') := fun w' hb => p_err hE (by decide) hb
  have hnew := new_ok k (w.alloc (.cells #[.slice none 0 0, .slice none 0 0, .slice none 0 0] 27)) hk
  have i1 : (4096 : Int) < (n : Int) := by omega
  clear hE
  go_enter Try.func6, Try.ntmps6
  go_wp2_with fail
  refine hnew.mono ?_
  rintro e w1 ⟨rfl, hA1, hk1⟩
  have hr1 : w1.heap[w.heap.size]? = some (.cells #[.slice none 0 0, .slice none 0 0, .slice none 0 0] 27 (0, 0)) := (hk1.block w.heap.size (by simp) (fun f => f)).trans (new_at w _ _ rfl)
  have r0 := (cell_of_block hr1 0).trans rfl
  have r1 := (cell_of_block hr1 1).trans rfl
  have r2 := (cell_of_block hr1 2).trans rfl
  have q0 := free_of_block hr1 0
  have q1 := free_of_block hr1 1
  have q2 := free_of_block hr1 2
  have HB : Hid (Below w.heap.size w w1) := ((Keeps.alloc None w _).trans hk1 (fun _ f _ => f)).below _ (Nat.le_refl _) (fun _ f => f.elim)
  clear hnew hA1
  go_wp2
  refine run_end rfl rfl hr1 rfl rfl _ _ _ (fun w' hk7 => HE.out w' (HB.out.trans (hk7.below _ HB.out.size (fun i e => by omega))))
theorem play_bad (size : Int) (ao : Option Addr) (n c : Nat) (M : Nat → Nat → Int) (w : World) (hf : fineW size = false) :
    Calls Try.prog 6 #[.int .i64 size, .slice ao n c] w (PPost w size n M) := by
  have hE : errP size n = 3 := by unfold errP; rw [hf]; rfl
  have HE : Hid (∀ w', Below w.heap.size w w' → PPost w size n M (.returned (.tuple #[.agg #[.slice none 0 0, .slice none 0 0, .slice none 0 0], .int .i64 3])) w') := fun w' hb => p_err hE (by decide) hb
  have hnew := new_bad size (w.alloc (.cells #[.slice none 0 0, .slice none 0 0, .slice none 0 0] 27)) hf
  clear hE hf
  go_enter Try.func6, Try.ntmps6
  go_wp2_with fail
  refine hnew.mono ?_
  rintro e w1 ⟨rfl, hw1⟩
  have hk1 : Keeps None (w.alloc (.cells #[.slice none 0 0, .slice none 0 0, .slice none 0 0] 27)) w1 := by rw [hw1]; exact Keeps.refl _ _
  have hr1 : w1.heap[w.heap.size]? = some (.cells #[.slice none 0 0, .slice none 0 0, .slice none 0 0] 27 (0, 0)) := (hk1.block w.heap.size (by simp) (fun f => f)).trans (new_at w _ _ rfl)
  have r0 := (cell_of_block hr1 0).trans rfl
  have r1 := (cell_of_block hr1 1).trans rfl
  have r2 := (cell_of_block hr1 2).trans rfl
  have q0 := free_of_block hr1 0
  have q1 := free_of_block hr1 1
  have q2 := free_of_block hr1 2
  have HB : Hid (Below w.heap.size w w1) := ((Keeps.alloc None w _).trans hk1 (fun _ f _ => f)).below _ (Nat.le_refl _) (fun _ f => f.elim)
  clear hnew hw1
  go_wp2
  refine run_end rfl rfl hr1 rfl rfl _ _ _ (fun w' hk7 => HE.out w' (HB.out.trans (hk7.below _ HB.out.size (fun i e => by omega))))
theorem play_all (size : Int) (ao : Option Addr) (n c : Nat) (M : Nat → Nat → Int) (w : World) (hM : Fives w ao n M) (hs : n * 40 ≤ 140737488351232) :
    Calls Try.prog 6 #[.int .i64 size, .slice ao n c] w (PPost w size n M) := by
  cases hf : fineW size with
  | false => exact play_bad size ao n c M w hf
  | true =>
    obtain ⟨k, rfl⟩ : ∃ k : Nat, size = k := ⟨size.toNat, by simp [fineW] at hf; omega⟩
    have hk : k ≤ 1048576 := by simp [fineW] at hf; omega
    by_cases hn : 4096 < n
    · exact play_long k hk ao n c M w hn hs
    · have hE : errP k n = 0 := by unfold errP; rw [hf, if_pos rfl, if_neg hn]
      refine (play_new k hk ao n c M w (by omega) hM).mono ?_
      rintro e w' ⟨v, rfl, ⟨gE, gC, gL, E, rfl, ⟨b1, b2, b3⟩, hgE, hEf, hgC, hgL⟩, hb⟩
      have e1 : runN k n = n := by unfold runN; rw [if_pos hE]
      have e2 : runA k n M = stAt (Ar.watched k) M n := by unfold runA; rw [if_pos hE]; rfl
      have e3 : runF (k : Int) M = effAt (Ar.watched k) M := rfl
      have hcl := stAt_cells (Ar.watched k) M n (by simp [Ar.watched]) (by simpa [Ar.watched] using hk)
      have hll := stAt_log (Ar.watched k) M n
      rw [show (Ar.watched k).log.length = 0 from rfl] at hll
      refine ⟨some ⟨gE, 0, none⟩, some ⟨gC, 0, none⟩, some ⟨gL, 0, none⟩, ?_, ?_, hb⟩
      · rw [e1, e2, hE]
      · rw [e1, e2, e3]
        have hEE : w'.heap[gE]? = some (.cells (effVals (effAt (Ar.watched k) M) n).toArray 41 (0, 0)) := by rw [hgE, ← effs_list hEf]
        exact ⟨own_blk hEE (by rw [effVals_length]) (by unfold maxLen; omega) b1, own_blk hgC (by simp) (by unfold maxLen; omega) b2, own_blk hgL (by rw [logVals_length]) (by unfold maxLen; omega) b3⟩
end Go.Proofs.Ytncbejpefokhhaa
