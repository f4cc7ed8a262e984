import Derived.Test.YtdiabpoafennlaaHyMem
import Derived.WalkMore
import Derived.Deep.RegionHeld3
import Derived.Deep.DeepCutAuto
/-! Views that hold lists: how one is put into, how two are joined, how one is told. -/
namespace Go.Proofs.Ytdiabpoafennlaa
set_option linter.unusedVariables false
set_option maxRecDepth 20000
set_option linter.unusedSimpArgs false
open Go.RowKit Go.HeapKit

theorem moved_new {w : World} {v v' : Value} (h : Moved w v v') : ∀ b, v'.ownBlock = some b → v.ownBlock = some b ∨ w.heap.size ≤ b := by
  intro b hb
  rcases h with h | ⟨g, h, h2⟩
  · left; rw [← h]; exact hb
  · right; rw [hb] at h; injection h with h; omega
theorem put_ok (base : Nat) (V : Value) (l : List Int) (x : Int) (w : World) (h : w.ownsRow base 2 1 V l.length (iv l)) (hb : base ≤ w.heap.size) (hl : l.length ≤ 1000000) :
    Calls Try.prog 38 #[V, .int .i64 x] w fun e w' => ∃ V', e = .returned V' ∧ V'.oneCell' = true ∧ w'.ownsRow base 2 1 V' (l ++ [x]).length (iv (l ++ [x])) ∧ Keeps (fun k => V.ownBlock = some k) w w' ∧ ∀ b, V'.ownBlock = some b → V.ownBlock = some b ∨ w.heap.size ≤ b := by
  obtain ⟨a, c, rfl⟩ := row_shape h
  obtain ⟨g, cp, w2, hr, ho, hk, hm⟩ := i64_more base (.slice a l.length c) l x 28 _ _ (h.alloc (.cells #[.int .i64 x] 2)) (by simp; omega) (by omega) (blk_new w _ _ rfl)
  have HF : Hid (w2.ownsRow base 2 1 (.slice (some ⟨g, 0, none⟩) (l.length + 1) cp) (l.length + 1) (iv (l ++ [x])) ∧ Keeps (fun k => (Value.slice a l.length c).ownBlock = some k) w w2 ∧ ∀ b, (Value.slice (some ⟨g, 0, none⟩) (l.length + 1) cp).ownBlock = some b → (Value.slice a l.length c).ownBlock = some b ∨ w.heap.size ≤ b) := by
    refine ⟨ho, (Keeps.alloc (fun k => (Value.slice a l.length c).ownBlock = some k) w _).trans hk (fun i e _ => e), fun b e => ?_⟩
    simp [Value.ownBlock] at e
    subst e
    rcases hm with h1 | h1
    · exact .inl h1
    · right; simp at h1; omega
  clear ho hk hm h
  go_enter Try.func38, Try.ntmps38
  go_wp2_with (at_builtin; refine wpList_append_run rfl (.tmp 5) (.tmp 7) 28 28 rfl rfl rfl hr ?_)
  go_ret
  refine ⟨_, rfl, rfl, ?_, HF.out.2⟩
  rw [List.length_append, List.length_singleton]
  exact HF.out.1
theorem join_ok (base : Nat) (V U : Value) (l m : List Int) (w : World) (h : w.ownsRow base 2 1 V l.length (iv l)) (h2 : w.ownsRow base 2 1 U m.length (iv m)) (hb : base ≤ w.heap.size) (hl : l.length + m.length ≤ 1000000) :
    Calls Try.prog 39 #[V, U] w fun e w' => ∃ V', e = .returned V' ∧ V'.oneCell' = true ∧ w'.ownsRow base 2 1 V' (l ++ m).length (iv (l ++ m)) ∧ Keeps (fun k => V.ownBlock = some k) w w' ∧ ∀ b, V'.ownBlock = some b → V.ownBlock = some b ∨ w.heap.size ≤ b := by
  obtain ⟨a2, c2, rfl⟩ := row_shape h2
  obtain ⟨a, c, rfl⟩ := row_shape h
  obtain ⟨i0, hi, hz0, hz1, hz2⟩ := info_parts Try.infoI64
  obtain ⟨v', w2, hr, ho, hk, hm, -⟩ := run_append_all (P := Try.prog) w base 28 28 2 i0 _ 1 8 Try.underlying28 hi hz0 hz1 hz2 rfl (by decide) _ l.length _ h a2 m.length c2 (iv m) (by rw [iv_len, Nat.mul_one]) (fun h0 => by obtain ⟨b, off, e, _, hc⟩ := (own_seen1 h2).ex h0; exact ⟨b, off, e, hc⟩) iv_one (by unfold maxLen; omega) (by omega) hb
  have h1 : v'.oneCell' = true := by obtain ⟨x, y, rfl⟩ := row_shape ho; rfl
  have HF : Hid (v'.oneCell' = true ∧ w2.ownsRow base 2 1 v' (l ++ m).length (iv (l ++ m)) ∧ Keeps (fun k => (Value.slice a l.length c).ownBlock = some k) w w2 ∧ ∀ b, v'.ownBlock = some b → (Value.slice a l.length c).ownBlock = some b ∨ w.heap.size ≤ b) :=
    ⟨h1, by rw [List.length_append, iv_app]; exact ho, hk, moved_new hm⟩
  clear ho hk hm h h2 h1
  go_enter Try.func39, Try.ntmps39
  go_wp2_with (at_builtin; refine wpList_append_run rfl (.tmp 5) (.tmp 6) 28 28 rfl rfl rfl hr ?_)
  go_ret
  exact ⟨_, rfl, HF.out⟩
theorem sliceNe6 (x : Addr) (m c : Nat) (w : World) : Sem.run Try.prog (binOp BinOp.eql 28 (.slice (some x) m c) (.slice none 0 0)) w = .ok (.bool false) w := by kernel_rfl
theorem sliceEq6 (m c : Nat) (w : World) : Sem.run Try.prog (binOp BinOp.eql 28 (.slice none m c) (.slice none 0 0)) w = .ok (.bool true) w := by kernel_rfl
theorem clone_ok (base : Nat) (V : Value) (l : List Int) (w : World) (h : w.ownsRow base 2 1 V l.length (iv l)) (hb : base ≤ w.heap.size) (hl : l.length ≤ 1000000) :
    Calls Try.prog 41 #[V] w fun e w' => ∃ V', e = .returned V' ∧ V'.oneCell' = true ∧ w'.ownsRow base 2 1 V' l.length (iv l) ∧ Keeps None w w' ∧ ∀ b, V'.ownBlock = some b → w.heap.size ≤ b := by
  rcases h.2 with ⟨rfl, h0⟩ | ⟨g, cap, cur, rfl, _⟩
  · have HF : Hid (w.ownsRow base 2 1 (.slice none 0 0) l.length (iv l)) := h
    have heq := sliceEq6 0 0
    clear h h0
    go_enter Try.func41, Try.ntmps41
    go_wp2_with fail
    go_ret
    exact ⟨_, rfl, rfl, HF.out, Keeps.refl _ _, fun b e => by simp [Value.ownBlock] at e⟩
  · obtain ⟨i0, hi, hz0, hz1, hz2⟩ := info_parts Try.infoI64
    have hk0 := Keeps.alloc None w (.cells #[] 2)
    have hs := (own_seen1 h).more hk0
    obtain ⟨v', w2, hr, ho, hk, hm, -⟩ := run_append_all (P := Try.prog) (w.alloc (.cells #[] 2)) w.heap.size 28 28 2 i0 _ 1 8 Try.underlying28 hi hz0 hz1 hz2 rfl (by decide) _ 0 [] (own_nilAny 2 1 (Nat.le_refl _)) _ l.length cap (iv l) (by rw [iv_len, Nat.mul_one]) (fun h0 => by obtain ⟨b, off, e, _, hc⟩ := hs.ex h0; exact ⟨b, off, e, hc⟩) iv_one (by unfold maxLen; omega) (by omega) hk0.size
    rw [Nat.zero_add, List.nil_append] at ho
    have h1 : v'.oneCell' = true := by obtain ⟨x, y, rfl⟩ := row_shape ho; rfl
    have HF : Hid (v'.oneCell' = true ∧ w2.ownsRow base 2 1 v' l.length (iv l) ∧ Keeps None w w2 ∧ ∀ b, v'.ownBlock = some b → w.heap.size ≤ b) :=
      ⟨h1, row_base ho hb, hk0.trans hk (fun i e hi => by simp [Value.ownBlock] at e; omega), fun b e => row_low ho e⟩
    have hne := sliceNe6 ⟨g, 0, none⟩ l.length cap
    clear ho hk hm h h1 hk0 hs
    go_enter Try.func41, Try.ntmps41
    go_wp2_with (at_builtin; refine wpList_append_run rfl (.tmp 5) (.tmp 6) 28 28 rfl rfl rfl hr ?_)
    go_ret
    exact ⟨_, rfl, HF.out⟩
theorem tell_ok (base : Nat) (V : Value) (l : List Int) (w : World) (h : w.ownsRow base 2 1 V l.length (iv l)) (hb : base ≤ w.heap.size) (hl : l.length ≤ 1000000) :
    Calls Try.prog 40 #[V] w fun e w' => ∃ V', e = .returned V' ∧ V'.oneCell' = true ∧ w'.ownsRow base 2 1 V' l.length (iv l) ∧ Keeps None w w' ∧ ∀ b, V'.ownBlock = some b → w.heap.size ≤ b := by
  have HF : Hid (w.ownsRow base 2 1 V l.length (iv l)) := h
  clear h
  go_enter Try.func40, Try.ntmps40
  go_wp2_with fail
  refine (clone_ok base V l w HF.out hb hl).mono ?_
  rintro e w1 ⟨V', rfl, h1⟩
  have HG : Hid _ := h1
  clear h1
  go_wp2
  go_ret
  exact ⟨_, rfl, HG.out⟩
end Go.Proofs.Ytdiabpoafennlaa
