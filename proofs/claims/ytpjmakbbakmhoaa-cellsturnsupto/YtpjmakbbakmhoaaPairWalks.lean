import Derived.Test.YtpjmakbbakmhoaaDoneNil
/-! An arena that is there or not, with all that it may touch. -/
namespace Go.Proofs.Ytpjmakbbakmhoaa
open Go.RowKit Go.HeapKit

def IsAr (w : World) (av : Value) (F : Nat → Prop) (A : Ar) : Prop :=
  (av = .pointer none ∧ A.size = 0 ∧ A.cells = [] ∧ A.log = [] ∧ F = None) ∨ ∃ p vc vl, av = .pointer (some ⟨p, 0, none⟩) ∧ IsArena w p vc vl A ∧ F = Foot p vc vl
theorem IsAr.lt {w : World} {av : Value} {F : Nat → Prop} {A : Ar} (h : IsAr w av F A) {k : Nat} (hk : F k) : k < w.heap.size := by
  rcases h with ⟨-, -, -, -, rfl⟩ | ⟨p, vc, vl, -, h, rfl⟩
  · exact hk.elim
  · exact h.foot_lt hk
theorem IsAr.kept {w w' : World} {av : Value} {F S : Nat → Prop} {A : Ar} (h : IsAr w av F A) (hk : Keeps S w w') (hS : ∀ k, F k → ¬ S k) : IsAr w' av F A := by
  rcases h with h | ⟨p, vc, vl, h1, h, rfl⟩
  · exact .inl h
  · exact .inr ⟨p, vc, vl, h1, h.kept hk hS, rfl⟩
def AAfter (w w' : World) (av : Value) (F : Nat → Prop) (A : Ar) : Prop := ∃ F', IsAr w' av F' A ∧ Keeps F w w' ∧ ∀ k, F' k → F k ∨ w.heap.size ≤ k
theorem moved_foot {w : World} {p : Nat} {vc vl vc' vl' : Value} (mc : Moved w vc vc') (ml : Moved w vl vl') : ∀ k, Foot p vc' vl' k → Foot p vc vl k ∨ w.heap.size ≤ k := by
  intro k hk
  rcases hk with rfl | hk | hk
  · exact .inl (.inl rfl)
  · rcases mc with e | ⟨g, e, hg⟩
    · exact .inl (.inr (.inl (e ▸ hk)))
    · rw [e] at hk; injection hk with hk; exact .inr (by omega)
  · rcases ml with e | ⟨g, e, hg⟩
    · exact .inl (.inr (.inr (e ▸ hk)))
    · rw [e] at hk; injection hk with hk; exact .inr (by omega)

theorem ar_done (av : Value) (F : Nat → Prop) (A : Ar) (s kind x a b : Int) (w : World) (h : IsAr w av F A) (hlog : A.log.length < 1000000000000) :
    Calls Try.prog 55 #[av, .agg #[.int .i64 s, .int .i64 kind, .int .i64 x, .int .i64 a, .int .i64 b]] w fun e w' => e = .returned (A.did kind x a b).1.value ∧ AAfter w w' av F (A.did kind x a b).2 := by
  rcases h with ⟨rfl, hs, hc, hl, rfl⟩ | ⟨p, vc, vl, rfl, h, rfl⟩
  · refine (done_nil A hs hc s kind x a b w).mono ?_
    rintro e w' ⟨rfl, hk⟩
    exact ⟨rfl, None, .inl ⟨rfl, by rw [did_nil A hs hc]; exact ⟨hs, hc, hl, rfl⟩⟩, hk, fun k f => f.elim⟩
  · refine (done_any p vc vl A s kind x a b w h hlog).mono ?_
    rintro e w' ⟨rfl, vc', vl', h', hk, mc, ml⟩
    exact ⟨rfl, _, .inr ⟨p, vc', vl', rfl, h', rfl⟩, hk, moved_foot mc ml⟩
theorem ar_watch (av : Value) (F : Nat → Prop) (A : Ar) (t : Bool) (w : World) (h : IsAr w av F A) :
    Calls Try.prog 34 #[av, .bool t] w fun e w' => e = .returned (.tuple #[]) ∧ AAfter w w' av F { A with on := t } := by
  rcases h with ⟨rfl, hs, hc, hl, rfl⟩ | ⟨p, vc, vl, rfl, h, rfl⟩
  · refine (watch_nil t w).mono ?_
    rintro e w' ⟨rfl, rfl⟩
    exact ⟨rfl, None, .inl ⟨rfl, hs, hc, hl, rfl⟩, Keeps.refl _ _, fun k f => f.elim⟩
  · refine (watch_any p vc vl A t w h).mono ?_
    rintro e w' ⟨rfl, h', hk⟩
    exact ⟨rfl, _, .inr ⟨p, vc, vl, rfl, h', rfl⟩, hk, fun k f => .inl f⟩
theorem ar_who (av : Value) (F : Nat → Prop) (A : Ar) (n : Int) (w : World) (h : IsAr w av F A) :
    Calls Try.prog 35 #[av, .int .i64 n] w fun e w' => e = .returned (.tuple #[]) ∧ AAfter w w' av F { A with actor := n } := by
  rcases h with ⟨rfl, hs, hc, hl, rfl⟩ | ⟨p, vc, vl, rfl, h, rfl⟩
  · refine (who_nil n w).mono ?_
    rintro e w' ⟨rfl, rfl⟩
    exact ⟨rfl, None, .inl ⟨rfl, hs, hc, hl, rfl⟩, Keeps.refl _ _, fun k f => f.elim⟩
  · refine (who_any p vc vl A n w h).mono ?_
    rintro e w' ⟨rfl, h', hk⟩
    exact ⟨rfl, _, .inr ⟨p, vc, vl, rfl, h', rfl⟩, hk, fun k f => .inl f⟩
theorem ar_size (av : Value) (F : Nat → Prop) (A : Ar) (w : World) (h : IsAr w av F A) :
    Calls Try.prog 57 #[av] w fun e w' => e = .returned (.int .i64 A.size) ∧ w' = w := by
  rcases h with ⟨rfl, hs, hc, hl, rfl⟩ | ⟨p, vc, vl, rfl, h, rfl⟩
  · rw [hs]; exact size_nil w
  · exact size_any p vc vl A w h
theorem ar_mark (av : Value) (F : Nat → Prop) (A : Ar) (w : World) (h : IsAr w av F A) :
    Calls Try.prog 58 #[av] w fun e w' => e = .returned (.int .i64 A.cells.length) ∧ w' = w := by
  rcases h with ⟨rfl, hs, hc, hl, rfl⟩ | ⟨p, vc, vl, rfl, h, rfl⟩
  · rw [hc]; exact mark_nil w
  · exact mark_any p vc vl A w h
theorem new_own {w : World} {e : TypeId} {size n : Nat} {xs : List Value} {g : Nat} (hg : w.heap[g]? = some (.cells xs.toArray e (0, 0))) (hl : xs.length = n * size) (hn : n ≤ maxLen) :
    w.ownsRow 0 e size (.slice (some ⟨g, 0, none⟩) n n) n xs :=
  ⟨hl, .inr ⟨g, n, xs.toArray, rfl, Nat.zero_le _, hg, Nat.le_refl _, hn, by simpa using hl, by rw [← hl]; simp⟩⟩
theorem ar_cells (av : Value) (F : Nat → Prop) (A : Ar) (w : World) (h : IsAr w av F A) :
    Calls Try.prog 28 #[av] w fun e w' => ∃ ao, e = .returned (.slice ao A.cells.length A.cells.length) ∧ w'.ownsRow 0 2 1 (.slice ao A.cells.length A.cells.length) A.cells.length (A.cells.map (Value.int .i64)) ∧
      Keeps None w w' ∧ ∀ k, (Value.slice ao A.cells.length A.cells.length).ownBlock = some k → w.heap.size ≤ k := by
  rcases h with ⟨rfl, hs, hc, hl, rfl⟩ | ⟨p, vc, vl, rfl, h, rfl⟩
  · rw [hc]
    refine (cells_nil w).mono ?_
    rintro e w' ⟨rfl, rfl⟩
    exact ⟨none, rfl, World.ownsRow_nil _ _ _ _, Keeps.refl _ _, fun k f => by simp [Value.ownBlock] at f⟩
  · have hf := h.fit
    refine (cells_any p vc vl A w h).mono ?_
    rintro e w' ⟨rfl, hg, hk⟩
    exact ⟨_, rfl, new_own hg (by simp) (by unfold maxLen; omega), hk, fun k f => by simp [Value.ownBlock] at f; omega⟩
theorem ar_log (av : Value) (F : Nat → Prop) (A : Ar) (w : World) (h : IsAr w av F A) (hlog : A.log.length ≤ 1000000000000) :
    Calls Try.prog 29 #[av] w fun e w' => ∃ ao, e = .returned (.slice ao A.log.length A.log.length) ∧ w'.ownsRow 0 77 6 (.slice ao A.log.length A.log.length) A.log.length (logVals A.log) ∧
      Keeps None w w' ∧ ∀ k, (Value.slice ao A.log.length A.log.length).ownBlock = some k → w.heap.size ≤ k := by
  rcases h with ⟨rfl, hs, hc, hl, rfl⟩ | ⟨p, vc, vl, rfl, h, rfl⟩
  · rw [hl]
    refine (log_nil w).mono ?_
    rintro e w' ⟨rfl, rfl⟩
    exact ⟨none, rfl, World.ownsRow_nil _ _ _ _, Keeps.refl _ _, fun k f => by simp [Value.ownBlock] at f⟩
  · refine (log_any p vc vl A w h hlog).mono ?_
    rintro e w' ⟨rfl, hg, hk⟩
    exact ⟨_, rfl, new_own hg (logVals_length _) (by unfold maxLen; omega), hk, fun k f => by simp [Value.ownBlock] at f; omega⟩
end Go.Proofs.Ytpjmakbbakmhoaa
