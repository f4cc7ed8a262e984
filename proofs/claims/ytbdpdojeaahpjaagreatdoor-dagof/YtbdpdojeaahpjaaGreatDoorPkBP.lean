import Derived.Test.YtbdpdojeaahpjaaGreatDoorPkBO
import Derived.Test.YtbdpdojeaahpjaaGreatDoorPkAU
import Derived.Laws.EntriesVeiled
import Derived.Test.YtbdpdojeaahpjaaGreatDoorPkBL
import Derived.Test.YtbdpdojeaahpjaaGreatDoorPkBH
/-! dag.Of: a run shown to dag's trace. -/
namespace Go.Proofs.YtbdpdojeaahpjaaGreatDoor
set_option linter.unusedVariables false
set_option maxRecDepth 20000
open Go.RowKit Go.HeapKit Go.PlainOps

theorem play_all7 (fs : List Fn) (lo Q R : Nat) (fa : Option Addr) (fn fc : Nat) (w0 : World) (hE : Wenv fs lo Q R fa fn w0) (g : Nat) : PlayT fs lo Q R fa fn fc w0 g := by
  induction g using Nat.strongRecOn with
  | ind g IH => exact play_step7 fs lo Q R fa fn fc w0 hE g IH
set_option maxHeartbeats 2000000 in
theorem walk7_any (fs : List Fn) (lo R : Nat) (fa : Option Addr) (fn fc : Nat) (w0 w : World) (aa : Option Addr) (an ac : Nat) (zs : List Int) (g : Nat) (v : Int) (k2 : Nat) (T2 : Trc) (hS : SeenF w0 fa fn fs) (hA : AllV fs) (hlow : w0.heap.size ≤ lo) (hk0 : Keeps None w0 w) (hZ : SeenA w aa an zs) (han : an ≤ 16) (hT : Tr lo w R trc0) (hlo : lo ≤ w.heap.size)
    (hres : walkV fs g 1 trc0 (enterT ⟨0, 0, 0, []⟩ (rootT zs)) none 0 = some (v, k2, T2)) (b1 : T2.n ≤ 4096) (b2 : T2.es.length ≤ 16384) (b3 : k2 ≤ 4096) :
    Calls Tryz.prog 18 #[.slice fa fn fc, .slice aa an ac, wfV R] w fun e w' => e = .returned (.tuple #[]) ∧ Tr lo w' R T2 ∧ Keeps (TyS lo w) w w' := by
  obtain ⟨Q, hQ⟩ : ∃ Q, Q = w.heap.size := ⟨_, rfl⟩
  have hal := Keeps.alloc None w (.cells #[.slice fa fn fc, wfV R, .int .i64 0] 93)
  have bQ := heap_alloc_new w (.cells #[.slice fa fn fc, wfV R, .int .i64 0] 93)
  obtain ⟨W, hW⟩ : ∃ W, W = w.alloc (.cells #[.slice fa fn fc, wfV R, .int .i64 0] 93) := ⟨_, rfl⟩
  rw [← hW] at hal bQ
  rw [← hQ] at bQ
  have hrt := troot_any aa an ac zs W (hZ.more hal) han
  have hpl : ∀ w', Keeps None W w' → Calls Tryz.prog 33 #[.pointer (some ⟨Q, 0, none⟩), .agg (ints (rootK zs).l ++ (ints (List.replicate 8 0) ++ [Value.pointer none, Value.int .i64 0, Value.int .i64 0, Value.int .i64 0])).toArray] w' fun e w'' => e = .returned (.int .i64 v) ∧ Tr lo w'' R T2 ∧ w''.heap[Q]? = some (.cells #[.slice fa fn fc, wfV R, .int .i64 (k2 : Int)] 93 (0, 0)) ∧ Keeps (TQ lo Q w') w' w'' := fun w' hk => by
    obtain ⟨ev, lv, xv, vs, hTr⟩ := hT
    have hp := play_all7 fs lo Q R fa fn fc w0 ⟨hS, hA, hlow, by have := hk0.size; omega⟩ g 0 trc0 (rootT zs) none (.pointer none) 0 v k2 T2 w' hres b1 b2 b3 ⟨_, _, _, _, (hTr.more hal).more hk⟩ ⟨rfl, .inl ⟨rfl, rfl, rfl⟩, fun p e => by cases e⟩ (fun e he => by cases he) (blk_kept bQ hk (fun f => f)) ⟨fun _ => rfl, fun p e => by cases e⟩ ((hk0.trans hal (fun _ f _ => f)).trans hk (fun _ f _ => f)) (by have := hal.size; have := hk.size; omega) (args_len _ _ _) rfl rfl rfl ⟨by show (0 : Int) ≤ 0; omega, by show (0 : Int) < _; have := hA.len; omega⟩
    exact hp
  have hbt := built_root (rootK zs) (args_len _ _ _)
  have HP : Hid _ := hpl
  have HC : Hid (Keeps None w W ∧ Q = w.heap.size) := ⟨hal, hQ⟩
  generalize hcv1 : (ints (rootK zs).l).toArray = cv at hrt hbt
  generalize hcw : (ints (rootK zs).l ++ (ints (List.replicate 8 0) ++ [Value.pointer none, Value.int .i64 0, Value.int .i64 0, Value.int .i64 0])).toArray = cw at HP hbt
  have HBT : Hid _ := hbt
  clear hS hA hlow hk0 hZ han hT hlo hres b1 b2 b3 hal bQ hpl hbt hcv1 hcw
  unfold wfV at hW ⊢
  go_enter Tryz.func18, Tryz.ntmps18
  go_upto_region 1 with fail
  rw [← hW, ← hQ]
  clear hW hQ
  go_wp2_with (first
    | (go_at_call 32; refine hrt.mono ?_; rintro _ w2 ⟨rfl, hk2⟩)
    | (refine wpList_build_eq rfl 97 #[(0, .tmp 11)] rfl cw (by simpa [Act.eval] using HBT.out) ?_)
    | (go_at_call 33; refine (HP.out w2 hk2).mono ?_; rintro _ w3 ⟨rfl, hT3, hq3, hk3⟩))
  go_end0
  refine ⟨rfl, hT3, ?_⟩
  have h1 : Keeps (TQ lo Q w) w w3 := TQ.trans (((HC.out.1.trans hk2 (fun _ f _ => f))).mono (fun _ f _ => f.elim)) hk3
  exact h1.mono (fun i e hi => by
    rcases e with e | e
    · exact e
    · have := HC.out.2; omega)
end Go.Proofs.YtbdpdojeaahpjaaGreatDoor
/-! dag.Of: a run shown to dag's trace. -/
namespace Go.Proofs.YtbdpdojeaahpjaaGreatDoor
set_option linter.unusedVariables false
set_option maxRecDepth 20000
open Go.RowKit Go.HeapKit Go.PlainOps

theorem owns_nil (w : World) (lo : Nat) (e : TypeId) (z : Nat) : w.ownsRow lo e z (.slice none 0 0) 0 [] := ⟨by simp, .inl ⟨rfl, rfl⟩⟩
theorem tr_zero {lo : Nat} {w : World} {R : Nat} (hb : w.heap[R]? = some (.cells #[.int .i64 0, .slice none 0 0, .slice none 0 0, .slice none 0 0] 73)) (hl : lo ≤ R) : Tr lo w R trc0 :=
  ⟨.slice none 0 0, .slice none 0 0, .slice none 0 0, [], ⟨hb, hl, owns_nil _ _ _ _, owns_nil _ _ _ _, owns_nil _ _ _ _, fun k e v he hv => by simp at hv, fun k v b hv => by simp at hv, fun j k v u b hv => by simp at hv⟩⟩
theorem own_low {w : World} {lo lo' : Nat} {e : TypeId} {z n : Nat} {v : Value} {Y : List Value} (h : w.ownsRow lo e z v n Y) (hl : lo' ≤ lo) : w.ownsRow lo' e z v n Y := by
  refine ⟨h.1, ?_⟩
  rcases h.2 with ⟨e1, e2⟩ | ⟨g, cap, cur, e1, hb, hr⟩
  · exact .inl ⟨e1, e2⟩
  · exact .inr ⟨g, cap, cur, e1, Nat.le_trans hl hb, hr⟩
theorem own_shape {w : World} {lo : Nat} {e : TypeId} {z n : Nat} {v : Value} {Y : List Value} (h : w.ownsRow lo e z v n Y) : ∃ a c, v = .slice a n c := by
  rcases h.2 with ⟨rfl, e2⟩ | ⟨g, cap, cur, rfl, hb, hr⟩
  · first
      | exact ⟨none, 0, by subst e2; rfl⟩
      | (have := h.1; exact ⟨none, 0, by simp_all⟩)
  · exact ⟨_, _, rfl⟩
set_option maxHeartbeats 2000000 in
theorem ofRun_any (fs : List Fn) (fa : Option Addr) (fn fc : Nat) (w : World) (aa : Option Addr) (an ac : Nat) (zs : List Int) (g : Nat) (v : Int) (k2 : Nat) (T2 : Trc) (hS : SeenF w fa fn fs) (hA : AllV fs) (hZ : SeenA w aa an zs) (han : an ≤ 16)
    (hres : walkV fs g 1 trc0 (enterT ⟨0, 0, 0, []⟩ (rootT zs)) none 0 = some (v, k2, T2)) (b1 : T2.n ≤ 4096) (b2 : T2.es.length ≤ 16384) (b3 : k2 ≤ 4096) :
    Calls Tryz.prog 10 #[.agg #[.slice fa fn fc], .slice aa an ac] w fun e w' => ∃ a c, e = .returned (.agg #[.int .i64 (T2.n : Int), .slice a T2.es.length c]) ∧ w'.ownsRow w.heap.size 39 2 (.slice a T2.es.length c) T2.es.length (edV T2.es) ∧ Keeps None w w' := by
  obtain ⟨B, hB⟩ : ∃ B, B = w.heap.size := ⟨_, rfl⟩
  obtain ⟨D, hDd⟩ : ∃ D, D = B + 1 := ⟨_, rfl⟩
  obtain ⟨R, hRr⟩ : ∃ R, R = D + 1 := ⟨_, rfl⟩
  have k1 := Keeps.alloc None w (.cells #[.slice fa fn fc] 24)
  have s1 : (w.alloc (.cells #[.slice fa fn fc] 24)).heap.size = w.heap.size + 1 := World.size_alloc _ _
  have n1 := heap_alloc_new w (.cells #[.slice fa fn fc] 24)
  obtain ⟨W1, hW1⟩ : ∃ W, W = w.alloc (.cells #[.slice fa fn fc] 24) := ⟨_, rfl⟩
  rw [← hW1] at k1 s1 n1
  have k2' := Keeps.alloc None W1 (.cells #[.int .i64 0, .slice none 0 0] 29)
  have s2 : (W1.alloc (.cells #[.int .i64 0, .slice none 0 0] 29)).heap.size = W1.heap.size + 1 := World.size_alloc _ _
  have n2 := heap_alloc_new W1 (.cells #[.int .i64 0, .slice none 0 0] 29)
  obtain ⟨W2, hW2⟩ : ∃ W, W = W1.alloc (.cells #[.int .i64 0, .slice none 0 0] 29) := ⟨_, rfl⟩
  rw [← hW2] at k2' s2 n2
  have k3 := Keeps.alloc None W2 (.cells #[.int .i64 0, .slice none 0 0, .slice none 0 0, .slice none 0 0] 73)
  have s3 : (W2.alloc (.cells #[.int .i64 0, .slice none 0 0, .slice none 0 0, .slice none 0 0] 73)).heap.size = W2.heap.size + 1 := World.size_alloc _ _
  have n3 := heap_alloc_new W2 (.cells #[.int .i64 0, .slice none 0 0, .slice none 0 0, .slice none 0 0] 73)
  obtain ⟨W3, hW3⟩ : ∃ W, W = W2.alloc (.cells #[.int .i64 0, .slice none 0 0, .slice none 0 0, .slice none 0 0] 73) := ⟨_, rfl⟩
  rw [← hW3] at k3 s3 n3
  have e1 : W1.heap.size = D := by omega
  have e2 : W2.heap.size = R := by omega
  have e3 : W3.heap.size = R + 1 := by omega
  rw [e2] at n3
  rw [e1] at n2
  rw [← hB] at n1
  have hP : W3.heap[B]? = some (.cells #[.slice fa fn fc] 24 (0, 0)) := blk_kept (blk_kept n1 k2' (fun f => f)) k3 (fun f => f)
  have hD : W3.heap[D]? = some (.cells #[.int .i64 0, .slice none 0 0] 29 (0, 0)) := blk_kept n2 k3 (fun f => f)
  have kk : Keeps None w W3 := (k1.trans k2' (fun _ f _ => f)).trans k3 (fun _ f _ => f)
  have hwk := walk7_any fs R R fa fn fc w W3 aa an ac zs g v k2 T2 hS hA (by omega) kk (hZ.more kk) han (tr_zero n3 (Nat.le_refl _)) (by omega) hres b1 b2 b3
  have HC : Hid (Keeps None w W3 ∧ B = w.heap.size ∧ D = B + 1 ∧ R = D + 1 ∧ W3.heap[D]? = some (.cells #[.int .i64 0, .slice none 0 0] 29 (0, 0))) := ⟨kk, hB, hDd, hRr, hD⟩
  clear hS hA hZ han hres b1 b2 b3 k1 k2' k3 n1 n2 n3 kk hD
  unfold wfV at hwk
  go_enter Tryz.func10, Tryz.ntmps10
  go_upto_region 2 with fail
  rw [← hW1, ← hW2, ← hW3, ← hB, ← hDd, ← hRr]
  clear hW1 hW2 hW3 e1 e2 e3 s1 s2 s3 hB hDd hRr
  have pc0 : W3.cell? ⟨B, 0, none⟩ = some (.slice fa fn fc) := (blk_cell hP 0).trans rfl
  go_upto_region 3 with (go_at_call 18; refine hwk.mono ?_; rintro _ w3 ⟨rfl, ⟨ev, lv, xv, vs, hTr⟩, hk3⟩)
  obtain ⟨a, c, rfl⟩ := own_shape hTr.es
  have hD3 : w3.heap[D]? = some (.cells #[.int .i64 0, .slice none 0 0] 29 (0, 0)) := blk_kept HC.out.2.2.2.2 hk3 (fun e => by have := e.1; have := HC.out.2.2.2.1; omega)
  have r0 : w3.cell? ⟨R, 0, none⟩ = some (.int .i64 (T2.n : Int)) := (blk_cell hTr.blk 0).trans rfl
  have r1 : w3.cell? ⟨R, 1, none⟩ = some (.slice a T2.es.length c) := (blk_cell hTr.blk 1).trans rfl
  have d0 : w3.cell? ⟨D, 0, none⟩ = some (.int .i64 0) := (blk_cell hD3 0).trans rfl
  have d1 : w3.cell? ⟨D, 1, none⟩ = some (.slice none 0 0) := (blk_cell hD3 1).trans rfl
  have f0 : w3.frozen? ⟨D, 0, none⟩ = false := blk_free hD3 0
  have f1 : w3.frozen? ⟨D, 1, none⟩ = false := blk_free hD3 1
  have HT : Hid _ := hTr
  have HK : Hid _ := hk3
  have HD3 : Hid _ := hD3
  clear hTr hk3 hwk hD3 hP pc0
  go_wp2
  have HD4 : Hid (((w3.setCell ⟨D, 0, none⟩ (.int .i64 (T2.n : Int))).setCell ⟨D, 1, none⟩ (.slice a T2.es.length c)).heap[D]? = some (.cells #[.int .i64 (T2.n : Int), .slice a T2.es.length c] 29 (0, 0))) := blk_set (blk_set HD3.out _) _
  have HK4 : Hid (Keeps (· = D) w3 ((w3.setCell ⟨D, 0, none⟩ (.int .i64 (T2.n : Int))).setCell ⟨D, 1, none⟩ (.slice a T2.es.length c))) := (Keeps.setCell (S := (· = D)) _ rfl _).trans (Keeps.setCell (S := (· = D)) _ rfl _) (fun _ e _ => e)
  generalize ((w3.setCell ⟨D, 0, none⟩ (.int .i64 (T2.n : Int))).setCell ⟨D, 1, none⟩ (.slice a T2.es.length c)) = W4 at HD4 HK4 ⊢
  refine bodyPost_ret (results_one (q := 4) (ty := 29) rfl rfl (run_loadVar_row _ D _ 29 _ _ _ HD4.out Tryz.underlying29 rfl (by kernel_rfl))) rfl ⟨a, c, rfl, ?_, ?_⟩
  · have h := HK4.out.own HT.out.es (fun q e hq => by
      subst hq
      rcases HT.out.es.2 with ⟨_, _⟩ | ⟨g', cap, cur, e1, hb, hr⟩
      · simp_all [Value.ownBlock]
      · have h2 := HC.out.2.2.2.1
        rw [e1] at e
        simp [Value.ownBlock] at e
        omega)
    exact own_low h (by have := HC.out.2.1; have := HC.out.2.2.1; have := HC.out.2.2.2.1; omega)
  · have h1 : Keeps (fun i => w.heap.size ≤ i) w w3 := (HC.out.1.mono (fun _ f _ => f.elim)).trans (HK.out) (fun i e hi => by have := e.1; have := HC.out.2.1; have := HC.out.2.2.1; have := HC.out.2.2.2.1; show w.heap.size ≤ i; omega)
    have h2 : Keeps (fun i => w.heap.size ≤ i) w W4 := h1.trans HK4.out (fun i e hi => by have := HC.out.2.1; have := HC.out.2.2.1; show w.heap.size ≤ i; omega)
    exact h2.mono (fun i e hi => by have : w.heap.size ≤ i := e; omega)
/-- What is known of a run that Eval has brought to its end. -/
theorem eval_run {l : List Fn} {zs : List Int} {fuel : Int} (hok : ∀ f ∈ l, f.Ok) (hz : ∀ x ∈ zs, okI x) (he0 : (evalV l zs fuel).2 = 0) : AllV l ∧ zs.length ≤ 8 ∧ ∃ (F : Nat) (v sp : Int) (s : Rn), fuel = (F : Int) ∧ runV l false zs F = .done v sp s ∧ (evalV l zs fuel).1 = ⟨v, (F : Int) - s.fuel, s.tasks, s.depth, sp⟩ := by
  have hr0 : refusedV l zs fuel = 0 := by
    by_cases h : refusedV l zs fuel = 0
    · exact h
    · unfold evalV at he0
      rw [if_pos h] at he0
      exact absurd he0 h
  obtain ⟨hcz, hpz, hf0, hf1⟩ := refused_zero hr0
  have hA := allV_of hcz hok
  obtain ⟨F, rfl⟩ := Int.eq_ofNat_of_zero_le hf0
  have hz8 := root_le hA hpz
  have hBg := root_begins hA false hz F (by omega)
  have hev2 : evalV l zs (F : Int) = (match runV l false zs F with
    | .gave e => (zeroVal, e)
    | .done v sp s => (⟨v, (F : Int) - s.fuel, s.tasks, s.depth, sp⟩, 0)) := by
    unfold evalV
    rw [if_neg (by simpa using hr0)]
    rfl
  cases hq : runV l false zs F with
  | gave e =>
    rw [hq] at hev2
    have : evalV l zs (F : Int) = (zeroVal, e) := hev2
    rw [this] at he0
    exact absurd he0 (gave_ne hA hBg hq)
  | done v sp s =>
    rw [hq] at hev2
    have hev3 : evalV l zs (F : Int) = (⟨v, (F : Int) - s.fuel, s.tasks, s.depth, sp⟩, 0) := hev2
    exact ⟨hA, hz8, F, v, sp, s, rfl, hq, by rw [hev3]⟩
end Go.Proofs.YtbdpdojeaahpjaaGreatDoor
/-! dag.Of. -/
namespace Go.Proofs.YtbdpdojeaahpjaaGreatDoor
set_option linter.unusedVariables false
set_option maxRecDepth 20000
open Go.RowKit Go.HeapKit Go.PlainOps

/-- What is known of the dag of a run that ended. -/
structure OfOk (V : Val) (T : Trc) (D : List Int) : Prop where
  dst : Dst T D
  n : (T.n : Int) = V.work
  n4 : T.n ≤ 4096
  e4 : T.es.length ≤ 16384
  es : (T.es.length : Int) + 2 = V.work + V.tasks
  top : ∀ x ∈ D, x ≤ V.span
  fin : ∃ e, e < T.n ∧ D.getD e 0 = V.span
  ins : ∀ k, k < T.n → 0 < k → ∃ x ∈ T.es, x.2 = k
  outs : ∀ k, k + 1 < T.n → ∃ x ∈ T.es, x.1 = k
theorem of_run {l : List Fn} {zs : List Int} {fuel : Int} (hok : ∀ f ∈ l, f.Ok) (hz : ∀ x ∈ zs, okI x) (he0 : (evalV l zs fuel).2 = 0) (hw : (evalV l zs fuel).1.work ≤ 4096) :
    AllV l ∧ zs.length ≤ 8 ∧ ∃ (v : Int) (k2 : Nat) (T : Trc) (D : List Int), walkV l (fuel.toNat + 1) 1 trc0 (enterT ⟨0, 0, 0, []⟩ (rootT zs)) none 0 = some (v, k2, T) ∧ k2 ≤ 4096 ∧ OfOk (evalV l zs fuel).1 T D := by
  obtain ⟨hA, h8, F, v, sp, s, rfl, hr, hv⟩ := eval_run hok hz he0
  obtain ⟨T, D, q1, q2, q3, q4, q5, q6, q7, q8, q9⟩ := run_trace hA hr
  rw [hv] at hw ⊢
  have hw2 : (F : Int) - s.fuel ≤ 4096 := hw
  have q3' : (T.n : Int) + (s.fuel : Int) = (F : Int) := by omega
  refine ⟨hA, h8, v, s.tasks, T, D, by simpa using q1, by omega, ⟨q2, ?_, by omega, by omega, ?_, q5, q6, q7, q8⟩⟩
  · show (T.n : Int) = (F : Int) - s.fuel; omega
  · show (T.es.length : Int) + 2 = (F : Int) - s.fuel + s.tasks; omega
def OfPost (l : List Fn) (zs : List Int) (fuel : Int) (w : World) (e : Ending) (w' : World) : Prop :=
  Keeps None w w' ∧ (((evalV l zs fuel).2 ≠ 0 ∧ e = .returned (.tuple #[.agg #[.int .i64 0, .slice none 0 0], .int .i64 (evalV l zs fuel).2])) ∨
    ((evalV l zs fuel).2 = 0 ∧ 4096 < (evalV l zs fuel).1.work ∧ e = .returned (.tuple #[.agg #[.int .i64 0, .slice none 0 0], .int .i64 70])) ∨
    ((evalV l zs fuel).2 = 0 ∧ (evalV l zs fuel).1.work ≤ 4096 ∧ ∃ T D a c, e = .returned (.tuple #[.agg #[.int .i64 (T.n : Int), .slice a T.es.length c], .int .i64 0]) ∧ w'.ownsRow w.heap.size 39 2 (.slice a T.es.length c) T.es.length (edV T.es) ∧ OfOk (evalV l zs fuel).1 T D ∧ ∃ v k2, walkV l (fuel.toNat + 1) 1 trc0 (enterT ⟨0, 0, 0, []⟩ (rootT zs)) none 0 = some (v, k2, T)))
theorem results_ct7 {P : Program} {fn : Func} {q r : Tmp} {t : TypeId} (h : fn.results = #[.cell q t, .tmp r]) {tmps : Array Value} {w : World} {g : Nat} (ha : tmps.getD q undef = .pointer (some ⟨g, 0, none⟩)) {v : Value}
    (hl : (loadVar t ⟨g, 0, none⟩).run P w = .ok v w) : (results fn tmps).run P w = .ok (.tuple #[v, tmps.getD r undef]) w := by
  have ha' : tmps[q]?.getD undef = .pointer (some ⟨g, 0, none⟩) := by simpa using ha
  simp [results, h, ha', asAddr, hl]
theorem set_two {w : World} {D : Nat} {x y x' y' : Value} {t : TypeId} (h : w.heap[D]? = some (.cells #[x, y] t (0, 0))) : ((w.setCell ⟨D, 0, none⟩ x').setCell ⟨D, 1, none⟩ y').heap[D]? = some (.cells #[x', y'] t (0, 0)) ∧ Keeps (· = D) w ((w.setCell ⟨D, 0, none⟩ x').setCell ⟨D, 1, none⟩ y') :=
  ⟨blk_set (blk_set h _) _, (Keeps.setCell (S := (· = D)) _ rfl _).trans (Keeps.setCell (S := (· = D)) _ rfl _) (fun _ e _ => e)⟩
set_option maxHeartbeats 2000000 in
theorem of_any (a : Option Addr) (n c : Nat) (l : List Fn) (aa : Option Addr) (an ac : Nat) (zs : List Int) (fuel : Int) (w : World) (hT : Tabs w) (hS : SeenF w a n l) (hok : ∀ f ∈ l, f.Ok) (hZ : SeenA w aa an zs) (hz : ∀ x ∈ zs, okI x) (hZ2 : an ≤ 9223372036854775807) (hfu : okI fuel) :
    Calls Tryz.prog 5 #[.agg #[.slice a n c], .slice aa an ac, .int .i64 fuel] w (OfPost l zs fuel w) := by
  obtain ⟨B, hB⟩ : ∃ B, B = w.heap.size := ⟨_, rfl⟩
  obtain ⟨b1, b2⟩ := two_boxes w #[.slice a n c] #[.int .i64 0, .slice none 0 0] 24 29
  have hk2 : Keeps None w ((w.alloc (.cells #[.slice a n c] 24)).alloc (.cells #[.int .i64 0, .slice none 0 0] 29)) := ((Keeps.refl _ w).andAlloc _).andAlloc _
  obtain ⟨W, hW⟩ : ∃ W, W = (w.alloc (.cells #[.slice a n c] 24)).alloc (.cells #[.int .i64 0, .slice none 0 0] 29) := ⟨_, rfl⟩
  rw [← hW, ← hB] at b1 b2
  rw [← hW] at hk2
  obtain ⟨D, hD⟩ : ∃ D, D = B + 1 := ⟨_, rfl⟩
  rw [← hD] at b2
  have hev := eval_any a n c l aa an ac zs fuel W (hT.more hk2) (hS.more hk2) hok (hZ.more hk2) hZ2 hfu
  have HS : Hid (SeenF W a n l ∧ SeenA W aa an zs ∧ (∀ f ∈ l, f.Ok) ∧ (∀ x ∈ zs, okI x) ∧ Keeps None w W ∧ B = w.heap.size ∧ D = B + 1) := ⟨hS.more hk2, hZ.more hk2, hok, hz, hk2, hB, hD⟩
  obtain ⟨V, hV⟩ : ∃ V, V = (evalV l zs fuel).1 := ⟨_, rfl⟩
  obtain ⟨E, hE⟩ : ∃ E, E = (evalV l zs fuel).2 := ⟨_, rfl⟩
  rw [← hV, ← hE] at hev
  have HV : Hid (V = (evalV l zs fuel).1 ∧ E = (evalV l zs fuel).2) := ⟨hV, hE⟩
  have HB : Hid (W.heap[B]? = some (.cells #[.slice a n c] 24 (0, 0)) ∧ W.heap[D]? = some (.cells #[.int .i64 0, .slice none 0 0] 29 (0, 0))) := ⟨b1, b2⟩
  have p0 : W.cell? ⟨B, 0, none⟩ = some (.slice a n c) := (blk_cell b1 0).trans rfl
  unfold valC at hev
  clear hT hS hok hZ hz hfu hk2 hV hE b1 b2
  go_enter Tryz.func5, Tryz.ntmps5
  go_upto_region 1 with fail
  rw [← hW, ← hB, ← hD]
  clear hW hB hD
  go_upto_region 2 with (go_at_call 9; refine hev.mono ?_; rintro _ w2 ⟨rfl, hk2⟩)
  have hk3 := Keeps.alloc None w2 (.cells #[.int .i64 V.v, .int .i64 V.work, .int .i64 V.tasks, .int .i64 V.depth, .int .i64 V.span] 44)
  have n3 := heap_alloc_new w2 (.cells #[.int .i64 V.v, .int .i64 V.work, .int .i64 V.tasks, .int .i64 V.depth, .int .i64 V.span] 44)
  obtain ⟨W3, hW3⟩ : ∃ W3, W3 = w2.alloc (.cells #[.int .i64 V.v, .int .i64 V.work, .int .i64 V.tasks, .int .i64 V.depth, .int .i64 V.span] 44) := ⟨_, rfl⟩
  obtain ⟨X, hX⟩ : ∃ X, X = w2.heap.size := ⟨_, rfl⟩
  rw [← hW3, ← hX]
  rw [← hW3] at hk3 n3
  rw [← hX] at n3
  have hk4 : Keeps None W W3 := hk2.trans hk3 (fun _ f _ => f)
  have bB := blk_kept HB.out.1 hk4 (fun f => f)
  have bD := blk_kept HB.out.2 hk4 (fun f => f)
  have HK : Hid (Keeps None W W3 ∧ W3.heap[D]? = some (.cells #[.int .i64 0, .slice none 0 0] 29 (0, 0))) := ⟨hk4, bD⟩
  have v1 : W3.cell? ⟨X, 1, none⟩ = some (.int .i64 V.work) := (blk_cell n3 1).trans rfl
  have q0 : W3.cell? ⟨B, 0, none⟩ = some (.slice a n c) := (blk_cell bB 0).trans rfl
  have d0 : W3.cell? ⟨D, 0, none⟩ = some (.int .i64 0) := (blk_cell bD 0).trans rfl
  have d1 : W3.cell? ⟨D, 1, none⟩ = some (.slice none 0 0) := (blk_cell bD 1).trans rfl
  have f0 : W3.frozen? ⟨D, 0, none⟩ = false := blk_free bD 0
  have f1 : W3.frozen? ⟨D, 1, none⟩ = false := blk_free bD 1
  clear hW3 hX hk2 hk3 hk4 n3 bB bD hev p0
  by_cases hE0 : E = 0
  · subst hE0
    by_cases hw4 : 4096 < V.work
    · go_wp2_with fail
      obtain ⟨h1, h2⟩ := set_two (x' := .int .i64 0) (y' := .slice none 0 0) HK.out.2
      refine bodyPost_ret (results_ct7 (q := 6) (r := 7) (t := 29) rfl rfl (run_loadVar_row _ D _ 29 _ _ _ h1 Tryz.underlying29 rfl (by kernel_rfl))) rfl ⟨?_, .inr (.inl ⟨HV.out.2.symm, by rw [← HV.out.1]; exact hw4, rfl⟩)⟩
      exact (HS.out.2.2.2.2.1.trans HK.out.1 (fun _ f _ => f)).trans h2 (fun i e hi => by have := HS.out.2.2.2.2.2; omega)
    · have hr := of_run HS.out.2.2.1 HS.out.2.2.2.1 HV.out.2.symm (by rw [← HV.out.1]; omega)
      obtain ⟨hA, h8, v, k2, T, DD, q1, q2, q3⟩ := hr
      have hof := ofRun_any l a n c W3 aa an ac zs _ v k2 T (HS.out.1.more HK.out.1) hA (HS.out.2.1.more HK.out.1) (by have := HS.out.2.1.len; omega) q1 q3.n4 q3.e4 q2
      have HQ : Hid (OfOk (evalV l zs fuel).1 T DD ∧ ∃ v k2, walkV l (fuel.toNat + 1) 1 trc0 (enterT ⟨0, 0, 0, []⟩ (rootT zs)) none 0 = some (v, k2, T)) := ⟨q3, v, k2, q1⟩
      clear hA h8 q1 q2 q3 f0 f1 d0 d1
      go_upto_region 6 with fail
      go_wp2_with (go_at_call 10; refine hof.mono ?_; rintro _ w5 ⟨ra, rc, rfl, hrow, hk5⟩; have hb5 := blk_kept HK.out.2 hk5 (fun f => f); have d0 : w5.cell? ⟨D, 0, none⟩ = some (.int .i64 0) := (blk_cell hb5 0).trans rfl; have d1 : w5.cell? ⟨D, 1, none⟩ = some (.slice none 0 0) := (blk_cell hb5 1).trans rfl; have f0 : w5.frozen? ⟨D, 0, none⟩ = false := blk_free hb5 0; have f1 : w5.frozen? ⟨D, 1, none⟩ = false := blk_free hb5 1; have HR : Hid _ := hrow; have H5 : Hid _ := hk5; have HB5 : Hid _ := hb5; clear hrow hk5 hb5)
      obtain ⟨h1, h2⟩ := set_two (x' := .int .i64 (T.n : Int)) (y' := .slice ra T.es.length rc) HB5.out
      refine bodyPost_ret (results_ct7 (q := 6) (r := 7) (t := 29) rfl rfl (run_loadVar_row _ D _ 29 _ _ _ h1 Tryz.underlying29 rfl (by kernel_rfl))) rfl ⟨?_, .inr (.inr ⟨HV.out.2.symm, by rw [← HV.out.1]; omega, T, DD, ra, rc, rfl, ?_, HQ.out⟩)⟩
      · exact ((HS.out.2.2.2.2.1.trans HK.out.1 (fun _ f _ => f)).trans H5.out (fun _ f _ => f)).trans h2 (fun i e hi => by have := HS.out.2.2.2.2.2; omega)
      · have hwW := (HS.out.2.2.2.2.1.trans HK.out.1 (fun _ f _ => f)).size
        have hDW : D < W3.heap.size := by
          have := HK.out.2
          exact (Array.getElem?_eq_some_iff.1 this).1
        exact own_low (h2.own HR.out (fun q e hq => by
          subst hq
          rcases HR.out.2 with ⟨e0, _⟩ | ⟨g', cap, cur, e1, hb, hr⟩
          · injection e0 with e0; subst e0; simp [Value.ownBlock] at e
          · rw [e1] at e
            simp [Value.ownBlock] at e
            omega)) (by omega)
  · go_wp2_with fail
    obtain ⟨h1, h2⟩ := set_two (x' := .int .i64 0) (y' := .slice none 0 0) HK.out.2
    refine bodyPost_ret (results_ct7 (q := 6) (r := 7) (t := 29) rfl rfl (run_loadVar_row _ D _ 29 _ _ _ h1 Tryz.underlying29 rfl (by kernel_rfl))) rfl ⟨?_, .inl ⟨by rw [← HV.out.2]; exact hE0, by rw [← HV.out.2]; rfl⟩⟩
    exact (HS.out.2.2.2.2.1.trans HK.out.1 (fun _ f _ => f)).trans h2 (fun i e hi => by have := HS.out.2.2.2.2.2; omega)
end Go.Proofs.YtbdpdojeaahpjaaGreatDoor
/-! The document's dag of a run: plunderref7.Of. -/
namespace Go.Proofs.YtbdpdojeaahpjaaGreatDoor
set_option linter.unusedVariables false
set_option maxRecDepth 20000
set_option linter.unusedSimpArgs false
open Go.RowKit Go.HeapKit Go.PlainOps

theorem eval_arity {l : List Fn} {zs : List Int} {fuel : Int} (he0 : (evalV l zs fuel).2 = 0) : parV l 0 = (zs.length : Int) := by
  have hr0 : refusedV l zs fuel = 0 := by
    by_cases h : refusedV l zs fuel = 0
    · exact h
    · unfold evalV at he0
      rw [if_pos h] at he0
      exact absurd he0 h
  exact (refused_zero hr0).2.1.symm
set_option maxHeartbeats 2000000 in
theorem rof_any (a : Option Addr) (n c : Nat) (l : List Fn) (aa : Option Addr) (an ac : Nat) (zs : List Int) (fuel : Int) (w : World) (hS : SeenF w a n l) (hok : ∀ f ∈ l, f.Ok) (hZ : SeenA w aa an zs) (hz : ∀ x ∈ zs, okI x) (hZ2 : an ≤ 9223372036854775807) (hfu : okI fuel) :
    Calls Tryz.prog 6 #[.agg #[.slice a n c], .slice aa an ac, .int .i64 fuel] w (OfPost l zs fuel w) := by
  obtain ⟨B, hB⟩ : ∃ B, B = w.heap.size := ⟨_, rfl⟩
  obtain ⟨b1, b2⟩ := two_boxes w #[.slice a n c] #[.int .i64 0, .slice none 0 0] 24 29
  have hk2 : Keeps None w ((w.alloc (.cells #[.slice a n c] 24)).alloc (.cells #[.int .i64 0, .slice none 0 0] 29)) := ((Keeps.refl _ w).andAlloc _).andAlloc _
  obtain ⟨W, hW⟩ : ∃ W, W = (w.alloc (.cells #[.slice a n c] 24)).alloc (.cells #[.int .i64 0, .slice none 0 0] 29) := ⟨_, rfl⟩
  rw [← hW, ← hB] at b1 b2
  rw [← hW] at hk2
  obtain ⟨D, hD⟩ : ∃ D, D = B + 1 := ⟨_, rfl⟩
  rw [← hD] at b2
  have hev := reval_any a n c l aa an ac zs fuel W (hS.more hk2) hok (hZ.more hk2) hZ2 hfu
  have HS : Hid (SeenF W a n l ∧ SeenA W aa an zs ∧ (∀ f ∈ l, f.Ok) ∧ (∀ x ∈ zs, okI x) ∧ Keeps None w W ∧ B = w.heap.size ∧ D = B + 1) := ⟨hS.more hk2, hZ.more hk2, hok, hz, hk2, hB, hD⟩
  obtain ⟨V, hV⟩ : ∃ V, V = (evalV l zs fuel).1 := ⟨_, rfl⟩
  obtain ⟨E, hE⟩ : ∃ E, E = (evalV l zs fuel).2 := ⟨_, rfl⟩
  rw [← hV, ← hE] at hev
  have HV : Hid (V = (evalV l zs fuel).1 ∧ E = (evalV l zs fuel).2) := ⟨hV, hE⟩
  have HB : Hid (W.heap[B]? = some (.cells #[.slice a n c] 24 (0, 0)) ∧ W.heap[D]? = some (.cells #[.int .i64 0, .slice none 0 0] 29 (0, 0))) := ⟨b1, b2⟩
  have p0 : W.cell? ⟨B, 0, none⟩ = some (.slice a n c) := (blk_cell b1 0).trans rfl
  unfold valC at hev
  clear hS hok hZ hz hfu hk2 hV hE b1 b2
  go_enter Tryz.func6, Tryz.ntmps6
  go_upto_region 1 with fail
  rw [← hW, ← hB, ← hD]
  clear hW hB hD
  go_upto_region 2 with (go_at_call 11; refine hev.mono ?_; rintro _ w2 ⟨rfl, hk2⟩)
  have hk3 := Keeps.alloc None w2 (.cells #[.int .i64 V.v, .int .i64 V.work, .int .i64 V.tasks, .int .i64 V.depth, .int .i64 V.span] 44)
  have n3 := heap_alloc_new w2 (.cells #[.int .i64 V.v, .int .i64 V.work, .int .i64 V.tasks, .int .i64 V.depth, .int .i64 V.span] 44)
  obtain ⟨W3, hW3⟩ : ∃ W3, W3 = w2.alloc (.cells #[.int .i64 V.v, .int .i64 V.work, .int .i64 V.tasks, .int .i64 V.depth, .int .i64 V.span] 44) := ⟨_, rfl⟩
  obtain ⟨X, hX⟩ : ∃ X, X = w2.heap.size := ⟨_, rfl⟩
  rw [← hW3, ← hX]
  rw [← hW3] at hk3 n3
  rw [← hX] at n3
  have hk4 : Keeps None W W3 := hk2.trans hk3 (fun _ f _ => f)
  have bB := blk_kept HB.out.1 hk4 (fun f => f)
  have bD := blk_kept HB.out.2 hk4 (fun f => f)
  have HK : Hid (Keeps None W W3 ∧ W3.heap[D]? = some (.cells #[.int .i64 0, .slice none 0 0] 29 (0, 0))) := ⟨hk4, bD⟩
  have v1 : W3.cell? ⟨X, 1, none⟩ = some (.int .i64 V.work) := (blk_cell n3 1).trans rfl
  have q0 : W3.cell? ⟨B, 0, none⟩ = some (.slice a n c) := (blk_cell bB 0).trans rfl
  have d0 : W3.cell? ⟨D, 0, none⟩ = some (.int .i64 0) := (blk_cell bD 0).trans rfl
  have d1 : W3.cell? ⟨D, 1, none⟩ = some (.slice none 0 0) := (blk_cell bD 1).trans rfl
  have f0 : W3.frozen? ⟨D, 0, none⟩ = false := blk_free bD 0
  have f1 : W3.frozen? ⟨D, 1, none⟩ = false := blk_free bD 1
  clear hW3 hX hk2 hk3 hk4 n3 bB bD hev p0
  by_cases hE0 : E = 0
  · subst hE0
    by_cases hw4 : 4096 < V.work
    · go_wp2_with fail
      obtain ⟨h1, h2⟩ := set_two (x' := .int .i64 0) (y' := .slice none 0 0) HK.out.2
      refine bodyPost_ret (results_ct7 (q := 6) (r := 7) (t := 29) rfl rfl (run_loadVar_row _ D _ 29 _ _ _ h1 Tryz.underlying29 rfl (by kernel_rfl))) rfl ⟨?_, .inr (.inl ⟨HV.out.2.symm, by rw [← HV.out.1]; exact hw4, rfl⟩)⟩
      exact (HS.out.2.2.2.2.1.trans HK.out.1 (fun _ f _ => f)).trans h2 (fun i e hi => by have := HS.out.2.2.2.2.2; omega)
    · have hr := of_run HS.out.2.2.1 HS.out.2.2.2.1 HV.out.2.symm (by rw [← HV.out.1]; omega)
      obtain ⟨hA, h8, v, k2, T, DD, q1, q2, q3⟩ := hr
      have hdoc := run_doc q1
      have kQ := Keeps.alloc None W3 (.cells #[.slice a n c, .int .i64 0, .slice none 0 0] 50)
      have bQ := heap_alloc_new W3 (.cells #[.slice a n c, .int .i64 0, .slice none 0 0] 50)
      obtain ⟨W6, hW6⟩ : ∃ W6, W6 = W3.alloc (.cells #[.slice a n c, .int .i64 0, .slice none 0 0] 50) := ⟨_, rfl⟩
      obtain ⟨Q, hQ⟩ : ∃ Q, Q = W3.heap.size := ⟨_, rfl⟩
      rw [← hW6] at kQ bQ
      rw [← hQ] at bQ
      have hS3 := HS.out.1.more HK.out.1
      have hcall := dtask_any l hA a n c W3 hS3 Q Q (by omega) (fuel.toNat + 1) 1 0 [] (enterT ⟨0, 0, 0, []⟩ (rootT zs)) none aa an ac zs W6 _ hdoc q3.n4 (by simp) (fun q hq => by cases hq) ⟨_, bQ, Nat.le_refl _, ⟨rfl, .inl ⟨rfl, rfl⟩⟩⟩ kQ (by have := kQ.size; omega) ⟨rfl, rfl, rfl, by show okI 1; simp [okI], HS.out.2.2.2.1⟩ ((HS.out.2.1.more HK.out.1).more kQ) (by show (0 : Int) ≤ 0 ∧ (0 : Int) < (l.length : Int); have := hA.len; omega) (by show parV l 0 = _; exact eval_arity HV.out.2.symm)
      have HCL : Hid (Calls Tryz.prog 12 #[.pointer (some ⟨Q, 0, none⟩), .int .i64 0, .slice aa an ac, .int .i64 1, .int .i64 (-1)] W6 (DPost Q Q (.slice a n c) W6 (T.n - 1, v, k2, T.n, T.es))) := hcall
      have HQ : Hid (OfOk (evalV l zs fuel).1 T DD ∧ ∃ v k2, walkV l (fuel.toNat + 1) 1 trc0 (enterT ⟨0, 0, 0, []⟩ (rootT zs)) none 0 = some (v, k2, T)) := ⟨q3, v, k2, q1⟩
      have HKQ : Hid (Keeps None W3 W6 ∧ Q = W3.heap.size ∧ Keeps None w W3 ∧ D < Q) := ⟨kQ, hQ, HS.out.2.2.2.2.1.trans HK.out.1 (fun _ f _ => f), by have := blk_lt HK.out.2; omega⟩
      clear hA h8 q1 q2 q3 f0 f1 d0 d1 hdoc hcall kQ bQ hS3
      go_upto_region 7 with fail
      rw [← hW6, ← hQ]
      clear hW6 hQ q0 v1
      go_upto_region 8 with (go_at_call 12; refine Calls.mono HCL.out ?_; rintro _ w5 ⟨rfl, ⟨ev5, hI5⟩, hk5, ho5⟩)
      obtain ⟨ra, rc, hre⟩ := own_shape2 hI5.row
      subst hre
      have hK6 : Keeps None W3 w5 := HKQ.out.1.trans hk5 (fun i e hi => by have := e.1; have := HKQ.out.2.1; omega)
      have hb5 := blk_kept HK.out.2 hK6 (fun f => f)
      have d0 : w5.cell? ⟨D, 0, none⟩ = some (.int .i64 0) := (blk_cell hb5 0).trans rfl
      have d1 : w5.cell? ⟨D, 1, none⟩ = some (.slice none 0 0) := (blk_cell hb5 1).trans rfl
      have f0 : w5.frozen? ⟨D, 0, none⟩ = false := blk_free hb5 0
      have f1 : w5.frozen? ⟨D, 1, none⟩ = false := blk_free hb5 1
      have x1 : w5.cell? ⟨Q, 1, none⟩ = some (.int .i64 (T.n : Int)) := (blk_cell hI5.blk 1).trans rfl
      have x2 : w5.cell? ⟨Q, 2, none⟩ = some (.slice ra T.es.length rc) := (blk_cell hI5.blk 2).trans rfl
      have HR : Hid (w5.ownsRow Q 39 2 (.slice ra T.es.length rc) T.es.length (edV T.es)) := hI5.row
      have H5 : Hid _ := hK6
      have HB5 : Hid _ := hb5
      obtain ⟨LT, hLT⟩ : ∃ LT, LT = T.es.length := ⟨_, rfl⟩
      rw [← hLT] at x2
      have HLT : Hid (LT = T.es.length) := hLT
      clear hI5 hk5 ho5 hK6 hb5 hLT
      go_region
      all_goals go_wp2_with fail
      all_goals
        obtain ⟨h1, h2⟩ := set_two (x' := .int .i64 (T.n : Int)) (y' := .slice ra LT rc) HB5.out
        have kd := Keeps.drew None ((w5.setCell ⟨D, 0, none⟩ (.int .i64 (T.n : Int))).setCell ⟨D, 1, none⟩ (.slice ra LT rc))
        refine bodyPost_ret (results_ct7 (q := 6) (r := 7) (t := 29) rfl rfl (run_loadVar_row _ D _ 29 _ _ _ (blk_kept h1 kd (fun f => f)) Tryz.underlying29 rfl (by kernel_rfl))) rfl ⟨?_, .inr (.inr ⟨HV.out.2.symm, by rw [← HV.out.1]; omega, T, DD, ra, rc, by rw [HLT.out]; rfl, ?_, HQ.out⟩)⟩
        · exact ((HKQ.out.2.2.1.trans H5.out (fun _ f _ => f)).trans h2 (fun i e hi => by have := HS.out.2.2.2.2.2; omega)).trans kd (fun _ f _ => f)
        · have hwW := HKQ.out.2.2.1.size
          exact own_low (kd.own (h2.own HR.out (fun q e hq => by
            subst hq
            rcases HR.out.2 with ⟨e0, _⟩ | ⟨g', cap, cur, e1, hb, hr⟩
            · injection e0 with e0; subst e0; simp [Value.ownBlock] at e
            · rw [e1] at e
              simp [Value.ownBlock] at e
              have := HKQ.out.2.2.2
              omega)) (fun _ _ f => f)) (by have := HKQ.out.2.1; omega)
  · go_wp2_with fail
    obtain ⟨h1, h2⟩ := set_two (x' := .int .i64 0) (y' := .slice none 0 0) HK.out.2
    refine bodyPost_ret (results_ct7 (q := 6) (r := 7) (t := 29) rfl rfl (run_loadVar_row _ D _ 29 _ _ _ h1 Tryz.underlying29 rfl (by kernel_rfl))) rfl ⟨?_, .inl ⟨by rw [← HV.out.2]; exact hE0, by rw [← HV.out.2]; rfl⟩⟩
    exact (HS.out.2.2.2.2.1.trans HK.out.1 (fun _ f _ => f)).trans h2 (fun i e hi => by have := HS.out.2.2.2.2.2; omega)
end Go.Proofs.YtbdpdojeaahpjaaGreatDoor
/-! DagOf, plainly: programs that differ in constants alone; what dag.Of and the document's Of answer, both. -/
namespace Go.Proofs.YtbdpdojeaahpjaaGreatDoor
set_option linter.unusedVariables false
set_option maxRecDepth 20000
open Go.RowKit Go.HeapKit Go.PlainOps

structure Lk (l l3 : List Fn) : Prop where
  len : l3.length = l.length
  fn : ∀ (i : Nat) (f f3 : Fn), l[i]? = some f → l3[i]? = some f3 → f3.params = f.params ∧ f3.regs = f.regs ∧ f3.slots = f.slots ∧ f3.code.length = f.code.length
  ins : ∀ (i : Nat) (f f3 : Fn), l[i]? = some f → l3[i]? = some f3 → ∀ (j : Nat) (x x3 : Ins), f.code[j]? = some x → f3.code[j]? = some x3 → x3.kind = x.kind ∧ x3.a = x.a ∧ x3.b = x.b ∧ x3.c = x.c
theorem Lk.refl (l : List Fn) : Lk l l :=
  ⟨rfl, fun i f f3 h h3 => by rw [h] at h3; obtain rfl := Option.some.inj h3; exact ⟨rfl, rfl, rfl, rfl⟩, fun i f f3 h h3 j x x3 hx hx3 => by rw [h] at h3; obtain rfl := Option.some.inj h3; rw [hx] at hx3; obtain rfl := Option.some.inj hx3; exact ⟨rfl, rfl, rfl, rfl⟩⟩
theorem Lk.put {l l3 : List Fn} (h : Lk l l3) {i k : Nat} {f3 : Fn} {x3 : Ins} (hf : l3[i]? = some f3) (hx : f3.code[k]? = some x3) (y : Int) : Lk l (l3.set i { f3 with code := f3.code.set k { x3 with k := y } }) := by
  have hil := (List.getElem?_eq_some_iff.1 hf).1
  have hkl := (List.getElem?_eq_some_iff.1 hx).1
  refine ⟨by rw [List.length_set]; exact h.len, fun i' f' f3' h1 h3 => ?_, fun i' f' f3' h1 h3 j x x3' hx' hx3 => ?_⟩
  · by_cases e : i = i'
    · subst e
      rw [List.getElem?_set_self hil] at h3
      obtain rfl := Option.some.inj h3
      have q := h.fn i f' f3 h1 hf
      simpa using q
    · rw [List.getElem?_set_ne e] at h3
      exact h.fn i' f' f3' h1 h3
  · by_cases e : i = i'
    · subst e
      rw [List.getElem?_set_self hil] at h3
      obtain rfl := Option.some.inj h3
      by_cases ek : k = j
      · subst ek
        have hx3' : (f3.code.set k { x3 with k := y })[k]? = some x3' := hx3
        rw [List.getElem?_set_self hkl] at hx3'
        obtain rfl := Option.some.inj hx3'
        exact h.ins i f' f3 h1 hf k x x3 hx' hx
      · have hx3' : (f3.code.set k { x3 with k := y })[j]? = some x3' := hx3
        rw [List.getElem?_set_ne ek] at hx3'
        exact h.ins i f' f3 h1 hf j x x3' hx' hx3'
    · rw [List.getElem?_set_ne e] at h3
      exact h.ins i' f' f3' h1 h3 j x x3' hx' hx3
/-- Put back up to an instruction. -/
structure Bk (l l3 : List Fn) (i j : Nat) : Prop where
  lk : Lk l l3
  old : ∀ i', i' < i → l3[i']? = l[i']?
  own : ∀ (f f3 : Fn), l[i]? = some f → l3[i]? = some f3 → ∀ j', j' < j → f3.code[j']? = f.code[j']?
theorem Bk.start {l l3 : List Fn} (h : Lk l l3) : Bk l l3 0 0 := ⟨h, fun i' hi => by omega, fun f f3 _ _ j' hj => by omega⟩
theorem ins_same {x x3 : Ins} (h : x3.kind = x.kind ∧ x3.a = x.a ∧ x3.b = x.b ∧ x3.c = x.c) : ({ x3 with k := x.k } : Ins) = x := by
  obtain ⟨a, b, c, d, e⟩ := x
  obtain ⟨a3, b3, c3, d3, e3⟩ := x3
  obtain ⟨rfl, rfl, rfl, rfl⟩ := h
  rfl
theorem Bk.put {l l3 : List Fn} {i j : Nat} (h : Bk l l3 i j) {f f3 : Fn} {x x3 : Ins} (hf : l[i]? = some f) (hf3 : l3[i]? = some f3) (hx : f.code[j]? = some x) (hx3 : f3.code[j]? = some x3) : Bk l (l3.set i { f3 with code := f3.code.set j { x3 with k := x.k } }) i (j + 1) := by
  have hil := (List.getElem?_eq_some_iff.1 hf3).1
  have hkl := (List.getElem?_eq_some_iff.1 hx3).1
  refine ⟨h.lk.put hf3 hx3 x.k, fun i' hi => ?_, fun f' f3' h1 h3 j' hj => ?_⟩
  · rw [List.getElem?_set_ne (by omega)]
    exact h.old i' hi
  · rw [hf] at h1
    obtain rfl := Option.some.inj h1
    rw [List.getElem?_set_self hil] at h3
    obtain rfl := Option.some.inj h3
    show (f3.code.set j { x3 with k := x.k })[j']? = _
    by_cases e : j = j'
    · subst e
      rw [List.getElem?_set_self hkl, hx, ins_same (h.lk.ins i f f3 hf hf3 j x x3 hx hx3)]
    · rw [List.getElem?_set_ne e]
      exact h.own f f3 hf hf3 j' (by omega)
theorem Bk.next {l l3 : List Fn} {i j : Nat} (h : Bk l l3 i j) {f : Fn} (hf : l[i]? = some f) (hj : f.code.length ≤ j) : Bk l l3 (i + 1) 0 := by
  have hil := (List.getElem?_eq_some_iff.1 hf).1
  refine ⟨h.lk, fun i' hi => ?_, fun f f3 _ _ j' hj => by omega⟩
  by_cases e : i' = i
  · subst e
    obtain ⟨f3, hf3⟩ : ∃ f3, l3[i']? = some f3 := ⟨l3[i']'(by rw [h.lk.len]; exact hil), by simp⟩
    rw [hf, hf3]
    obtain ⟨e1, e2, e3, e4⟩ := h.lk.fn i' f f3 hf hf3
    have e5 : f3.code = f.code := by
      apply List.ext_getElem?
      intro q
      by_cases hq : q < j
      · exact h.own f f3 hf hf3 q hq
      · rw [List.getElem?_eq_none (by omega), List.getElem?_eq_none (by omega)]
    obtain ⟨a, b, c, d⟩ := f
    obtain ⟨a3, b3, c3, d3⟩ := f3
    simp only at e1 e2 e3 e5
    subst e1 e2 e3 e5
    rfl
  · exact h.old i' (by omega)
theorem Bk.all {l l3 : List Fn} {i j : Nat} (h : Bk l l3 i j) (hi : l.length ≤ i) : l3 = l := by
  apply List.ext_getElem?
  intro q
  by_cases hq : q < i
  · exact h.old q hq
  · rw [List.getElem?_eq_none (by rw [h.lk.len]; omega), List.getElem?_eq_none (by omega)]
/-- What both answer. -/
def ofV (l : List Fn) (zs : List Int) (fuel : Int) : Nat × List (Nat × Nat) × Int :=
  if (evalV l zs fuel).2 ≠ 0 then (0, [], (evalV l zs fuel).2) else if 4096 < (evalV l zs fuel).1.work then (0, [], 70) else match walkV l (fuel.toNat + 1) 1 trc0 (enterT ⟨0, 0, 0, []⟩ (rootT zs)) none 0 with
    | some (_, _, T) => (T.n, T.es, 0)
    | none => (0, [], 0)
def OneP (N : Nat) (E : List (Nat × Nat)) (er : Int) (LE : Nat) (w : World) (e : Ending) (w' : World) : Prop :=
  ∃ ea ec, e = .returned (.tuple #[.agg #[.int .i64 (N : Int), .slice ea LE ec], .int .i64 er]) ∧ w'.ownsRow w.heap.size 39 2 (.slice ea LE ec) LE (edV E) ∧ Keeps None w w'
theorem of_one {l : List Fn} {zs : List Int} {fuel : Int} {w w' : World} {e : Ending} (h : OfPost l zs fuel w e w') : OneP (ofV l zs fuel).1 (ofV l zs fuel).2.1 (ofV l zs fuel).2.2 (ofV l zs fuel).2.1.length w e w' := by
  obtain ⟨hk, ⟨h1, rfl⟩ | ⟨h1, h2, rfl⟩ | ⟨h1, h2, T, D, a, c, rfl, hrow, hok, v, k2, hw⟩⟩ := h
  · have e1 : ofV l zs fuel = (0, [], (evalV l zs fuel).2) := by unfold ofV; rw [if_pos h1]
    rw [e1]
    exact ⟨none, 0, rfl, ⟨rfl, .inl ⟨rfl, rfl⟩⟩, hk⟩
  · have e1 : ofV l zs fuel = (0, [], 70) := by unfold ofV; rw [if_neg (by simpa using h1), if_pos h2]
    rw [e1]
    exact ⟨none, 0, rfl, ⟨rfl, .inl ⟨rfl, rfl⟩⟩, hk⟩
  · have e1 : ofV l zs fuel = (T.n, T.es, 0) := by unfold ofV; rw [if_neg (by simpa using h1), if_neg (by omega), hw]
    rw [e1]
    exact ⟨a, c, rfl, hrow, hk⟩
theorem of_most {l : List Fn} {zs : List Int} {fuel : Int} (hok : ∀ f ∈ l, f.Ok) (hz : ∀ x ∈ zs, okI x) : (ofV l zs fuel).2.1.length ≤ 16384 := by
  unfold ofV
  by_cases h1 : (evalV l zs fuel).2 = 0
  · rw [if_neg (by simpa using h1)]
    by_cases h2 : 4096 < (evalV l zs fuel).1.work
    · rw [if_pos h2]; simp
    · rw [if_neg h2]
      obtain ⟨hA, h8, v, k2, T, DD, q1, q2, q3⟩ := of_run hok hz h1 (by omega)
      rw [q1]
      exact q3.e4
  · rw [if_pos h1]; simp
theorem neqEd (a b : Int) (w : World) : (binOp .neq 39 (.agg #[.int .i64 a, .int .i64 b]) (.agg #[.int .i64 a, .int .i64 b])).run Tryz.prog w = .ok (.bool false) w := by
  have u3 := Tryz.underlying3
  have a3 := Tryz.isAgg3
  have z3 := Tryz.sizeOf3
  have hS : Tryz.prog.underlying 39 = some (.struct (Tryz.prog.fieldsOf 39)) := by kernel_rfl
  have hp : Tryz.prog.stoodInHeld 39 = false := by kernel_rfl
  rw [run_neq_struct, show (10000 : Nat) = 9999 + 1 from rfl, run_equalIn_agg w 9999 39 _ _ hS hp]
  simp only [Program.fieldsOf, Tryz.underlying39]
  go_simp
theorem edV_at {E : List (Nat × Nat)} {k : Nat} {x : Nat × Nat} (h : E[k]? = some x) : (edV E)[k * 2]? = some (.int .i64 (x.1 : Int)) ∧ (edV E)[k * 2 + 1]? = some (.int .i64 (x.2 : Int)) := by
  induction E generalizing k with
  | nil => simp at h
  | cons y E ih =>
    have e : edV (y :: E) = [.int .i64 (y.1 : Int), .int .i64 (y.2 : Int)] ++ edV E := rfl
    cases k with
    | zero => simp at h; subst h; rw [e]; exact ⟨rfl, rfl⟩
    | succ k =>
      have := ih (by simpa using h)
      rw [e, show (k + 1) * 2 = k * 2 + 2 by omega, show k * 2 + 2 + 1 = k * 2 + 1 + 2 by omega]
      exact ⟨by rw [List.getElem?_append_right (by simp)]; simpa using this.1, by rw [List.getElem?_append_right (by simp)]; simpa using this.2⟩
theorem own_cell2 {w : World} {lo : Nat} {e : TypeId} {z n c g : Nat} {X : List Value} (h : w.ownsRow lo e z (.slice (some ⟨g, 0, none⟩) n c) n X) {k : Nat} {v : Value} (hv : X[k]? = some v) : w.cell? ⟨g, k, none⟩ = some v := by
  rcases h.2 with ⟨e1, _⟩ | ⟨g', cap, cur, he, hb0, hg, hnc, hcm, hcs, htk⟩
  · cases e1
  · injection he with e1 e2 e3
    injection e1 with e1
    injection e1 with e1
    subst e1
    rw [blk_cell hg, ← Array.getElem?_toList]
    rw [← htk, List.getElem?_take] at hv
    split at hv
    · exact hv
    · cases hv
set_option maxHeartbeats 1000000 in
theorem sameE_any (a a2 : Option Addr) (m c c2 lo lo2 : Nat) (E : List (Nat × Nat)) (w : World) (hm : m = E.length) (h : w.ownsRow lo 39 2 (.slice a m c) m (edV E)) (h2 : w.ownsRow lo2 39 2 (.slice a2 m c2) m (edV E)) (hs : m ≤ 16384) :
    Calls Tryz.prog 8 #[.slice a m c, .slice a2 m c2] w fun e w' => e = .returned (.bool true) ∧ Keeps None w w' := by
  have HS : Hid (w.ownsRow lo 39 2 (.slice a m c) m (edV E) ∧ w.ownsRow lo2 39 2 (.slice a2 m c2) m (edV E) ∧ m = E.length) := ⟨h, h2, hm⟩
  clear h h2 hm
  go_enter Tryz.func8, Tryz.ntmps8
  go_wp2_with fail
  go_loopw [5] (fun s5 wr => ∃ k : Nat, s5 = .int .i64 k ∧ k ≤ m ∧ Keeps None w wr) (fun s5 _ => m - (intOf s5).toNat)
  case atStart => exact ⟨0, rfl, Nat.zero_le _, Keeps.refl _ _⟩
  case round =>
    obtain ⟨k, rfl, hk, hkp⟩ := hrel
    by_cases hkn : k < m
    · have r1 := hkp.own HS.out.1 (fun _ _ f => f)
      have r2 := hkp.own HS.out.2.1 (fun _ _ f => f)
      obtain ⟨g1, d1, e1⟩ := own_some7 r1 (by omega)
      obtain ⟨g2, d2, e2⟩ := own_some7 r2 (by omega)
      injection e1 with e11 e12 e13
      injection e2 with e21 e22 e23
      subst e11 e21
      obtain ⟨x, hx⟩ : ∃ x, E[k]? = some x := ⟨E[k]'(by have := HS.out.2.2; omega), by simp⟩
      obtain ⟨v1, v2⟩ := edV_at hx
      have y0 := own_cell2 r1 v1
      have y1 := own_cell2 r1 v2
      have y2 := own_cell2 r2 v1
      have y3 := own_cell2 r2 v2
      obtain ⟨p, q⟩ := x
      simp only at y0 y1 y2 y3
      have i1 : (k : Int) < (m : Int) := by omega
      have HN : Hid (Keeps None w wr) := hkp
      have hne := neqEd (p : Int) (q : Int)
      clear hkp hx r1 r2 v1 v2 HS
      go_upto_region 6 with fail
      go_quiet (fail)
      go_wp2_with fail
      exact ⟨⟨k + 1, by go_num, by omega, HN.out.trans (Keeps.drewN None _ _) (fun _ f _ => f)⟩, by simp [intOf]; omega⟩
    · have i1 : ¬ (k : Int) < (m : Int) := by omega
      go_wp2_with fail
      go_ret
      exact ⟨rfl, hkp⟩
end Go.Proofs.YtbdpdojeaahpjaaGreatDoor
