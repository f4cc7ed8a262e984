import Derived.Test.YtdiabpoafennlabPkAA
import Derived.WalkMore
import Derived.Deep.RegionHeld3
import Derived.Deep.DeepCutAuto
/-! The law's copy of a game. -/
namespace Go.Proofs.Ytdiabpoafennlab
set_option linter.unusedVariables false
set_option maxRecDepth 20000
set_option linter.unusedSimpArgs false
open Go.RowKit Go.HeapKit

theorem blk_old {w : World} {g : Nat} {ob : Obj} (h : w.heap[g]? = some ob) (o : Obj) : (w.alloc o).heap[g]? = some ob := blk_kept h (Keeps.alloc None w o) (fun f => f)
/-- Three lists of the law's own. -/
structure Tri (w : World) (B : Nat) (v0 v1 v2 : Value) (n0 n1 n2 : Nat) (l : List Dd) (st : List Bool) (pk : List Int) : Prop where
  r0 : w.ownsRow B 44 2 v0 n0 (ddVals l)
  r1 : w.ownsRow B 4 1 v1 n1 (bv' st)
  r2 : w.ownsRow B 3 1 v2 n2 (iv pk)
section
variable {w w' : World} {B : Nat} {v0 v1 v2 : Value} {n0 n1 n2 : Nat} {l : List Dd} {st : List Bool} {pk : List Int}
theorem Tri.kept {S : Nat → Prop} (h : Tri w B v0 v1 v2 n0 n1 n2 l st pk) (hk : Keeps S w w') (hS : ∀ g, B ≤ g → g < w.heap.size → ¬ S g) : Tri w' B v0 v1 v2 n0 n1 n2 l st pk :=
  ⟨row_kept h.r0 hk (fun g e => hS g (row_low h.r0 e) (own_lt h.r0 e)), row_kept h.r1 hk (fun g e => hS g (row_low h.r1 e) (own_lt h.r1 e)), row_kept h.r2 hk (fun g e => hS g (row_low h.r2 e) (own_lt h.r2 e))⟩
theorem Tri.more (h : Tri w B v0 v1 v2 n0 n1 n2 l st pk) (hk : Keeps None w w') : Tri w' B v0 v1 v2 n0 n1 n2 l st pk := h.kept hk (fun _ _ _ f => f)
theorem Tri.base {B' : Nat} (h : Tri w B v0 v1 v2 n0 n1 n2 l st pk) (hB : B' ≤ B) : Tri w B' v0 v1 v2 n0 n1 n2 l st pk := ⟨row_base h.r0 hB, row_base h.r1 hB, row_base h.r2 hB⟩
theorem Tri.new0 (h : Tri w B v0 v1 v2 n0 n1 n2 l st pk) (hB : B ≤ w.heap.size) : Tri (w.alloc (.cells #[] 44)) B (.slice (some ⟨w.heap.size, 0, none⟩) 0 0) v1 v2 0 n1 n2 [] st pk :=
  ⟨own_nilAny _ _ hB, row_kept h.r1 (Keeps.alloc None w _) (fun _ _ f => f), row_kept h.r2 (Keeps.alloc None w _) (fun _ _ f => f)⟩
theorem Tri.new1 (h : Tri w B v0 v1 v2 n0 n1 n2 l st pk) (hB : B ≤ w.heap.size) : Tri (w.alloc (.cells #[] 4)) B v0 (.slice (some ⟨w.heap.size, 0, none⟩) 0 0) v2 n0 0 n2 l [] pk :=
  ⟨row_kept h.r0 (Keeps.alloc None w _) (fun _ _ f => f), own_nilAny _ _ hB, row_kept h.r2 (Keeps.alloc None w _) (fun _ _ f => f)⟩
theorem Tri.new2 (h : Tri w B v0 v1 v2 n0 n1 n2 l st pk) (hB : B ≤ w.heap.size) : Tri (w.alloc (.cells #[] 3)) B v0 v1 (.slice (some ⟨w.heap.size, 0, none⟩) 0 0) n0 n1 0 l st [] :=
  ⟨row_kept h.r0 (Keeps.alloc None w _) (fun _ _ f => f), row_kept h.r1 (Keeps.alloc None w _) (fun _ _ f => f), own_nilAny _ _ hB⟩
theorem Tri.all0 {g : Nat} (h : Tri w B (.slice (some ⟨g, 0, none⟩) 0 0) v1 v2 0 n1 n2 [] st pk) (hB : B ≤ w.heap.size) (a : Option Addr) (m c : Nat) (l : List Dd) (ty : TypeId) (hl : Seen w a m l) (hs : m * 16 ≤ 140737488355328) :
    ∃ va vc w', (Builtin.append_ #[22, 22] ty #[.slice (some ⟨g, 0, none⟩) 0 0, .slice a m c]).run Try.prog w = .ok (.slice va m vc) w' ∧ Tri w' B (.slice va m vc) v1 v2 m n1 n2 l st pk ∧ Keeps (fun i => B ≤ i) w w' := by
  obtain ⟨i0, hi, hz0, hz1, hz2⟩ := info_parts Try.infoDeed
  obtain ⟨v', w', hr, ho, hk, -, -⟩ := run_append_all (P := Try.prog) w B 22 ty 44 i0 _ 2 16 Try.underlying22 hi hz0 hz1 hz2 rfl (by decide) _ 0 [] h.r0 a m c (ddVals l) (by rw [ddVals_length, hl.len]) hl.cells dd_one (by unfold maxLen; omega) (by omega) hB
  rw [Nat.zero_add, List.nil_append] at ho
  obtain ⟨va, vc, rfl⟩ := row_shape ho
  exact ⟨va, vc, w', hr, ⟨ho, row_kept h.r1 hk (fun g e e2 => own_apart h.r0 h.r1 (by decide) e2 e), row_kept h.r2 hk (fun g e e2 => own_apart h.r0 h.r2 (by decide) e2 e)⟩, hk.mono (fun i e _ => row_low h.r0 e)⟩
theorem Tri.all1 {g : Nat} (h : Tri w B v0 (.slice (some ⟨g, 0, none⟩) 0 0) v2 n0 0 n2 l [] pk) (hB : B ≤ w.heap.size) (a : Option Addr) (m c : Nat) (st : List Bool) (ty : TypeId) (hl : SeenV w a m (bv' st)) (hs : m ≤ 140737488355328) :
    ∃ va vc w', (Builtin.append_ #[23, 23] ty #[.slice (some ⟨g, 0, none⟩) 0 0, .slice a m c]).run Try.prog w = .ok (.slice va m vc) w' ∧ Tri w' B v0 (.slice va m vc) v2 n0 m n2 l st pk ∧ Keeps (fun i => B ≤ i) w w' := by
  obtain ⟨i0, hi, hz0, hz1, hz2⟩ := info_parts Try.infoBool
  obtain ⟨v', w', hr, ho, hk, -, -⟩ := run_append_all (P := Try.prog) w B 23 ty 4 i0 _ 1 1 Try.underlying23 hi hz0 hz1 hz2 rfl (by decide) _ 0 [] h.r1 a m c (bv' st) (by have := hl.len; omega) (fun h0 => by obtain ⟨b, off, e, _, hc⟩ := hl.ex h0; exact ⟨b, off, e, hc⟩) bv_one (by unfold maxLen; omega) (by omega) hB
  rw [Nat.zero_add, List.nil_append] at ho
  obtain ⟨va, vc, rfl⟩ := row_shape ho
  exact ⟨va, vc, w', hr, ⟨row_kept h.r0 hk (fun g e e2 => own_apart h.r1 h.r0 (by decide) e2 e), ho, row_kept h.r2 hk (fun g e e2 => own_apart h.r1 h.r2 (by decide) e2 e)⟩, hk.mono (fun i e _ => row_low h.r1 e)⟩
theorem Tri.all2 {g : Nat} (h : Tri w B v0 v1 (.slice (some ⟨g, 0, none⟩) 0 0) n0 n1 0 l st []) (hB : B ≤ w.heap.size) (a : Option Addr) (m c : Nat) (pk : List Int) (ty : TypeId) (hl : SeenV w a m (iv pk)) (hs : m * 8 ≤ 140737488355328) :
    ∃ va vc w', (Builtin.append_ #[24, 24] ty #[.slice (some ⟨g, 0, none⟩) 0 0, .slice a m c]).run Try.prog w = .ok (.slice va m vc) w' ∧ Tri w' B v0 v1 (.slice va m vc) n0 n1 m l st pk ∧ Keeps (fun i => B ≤ i) w w' := by
  obtain ⟨i0, hi, hz0, hz1, hz2⟩ := info_parts Try.infoI
  obtain ⟨v', w', hr, ho, hk, -, -⟩ := run_append_all (P := Try.prog) w B 24 ty 3 i0 _ 1 8 Try.underlying24 hi hz0 hz1 hz2 rfl (by decide) _ 0 [] h.r2 a m c (iv pk) (by have := hl.len; omega) (fun h0 => by obtain ⟨b, off, e, _, hc⟩ := hl.ex h0; exact ⟨b, off, e, hc⟩) iv_one (by unfold maxLen; omega) (by omega) hB
  rw [Nat.zero_add, List.nil_append] at ho
  obtain ⟨va, vc, rfl⟩ := row_shape ho
  exact ⟨va, vc, w', hr, ⟨row_kept h.r0 hk (fun g e e2 => own_apart h.r2 h.r0 (by decide) e2 e), row_kept h.r1 hk (fun g e e2 => own_apart h.r2 h.r1 (by decide) e2 e), ho⟩, hk.mono (fun i e _ => row_low h.r2 e)⟩
end
theorem set_three {w : World} {g : Nat} {c : Array Value} {t : TypeId} (hc : c.size = 3) (hb : w.heap[g]? = some (.cells c t (0, 0))) (v0 v1 v2 : Value) :
    (((w.setCell ⟨g, 0, none⟩ v0).setCell ⟨g, 1, none⟩ v1).setCell ⟨g, 2, none⟩ v2).heap[g]? = some (.cells #[v0, v1, v2] t (0, 0)) := by
  rw [blk_set (blk_set (blk_set hb v0) v1) v2]
  obtain ⟨c⟩ := c
  match c, hc with
  | [x, y, z], _ => rfl
theorem load_game (w : World) (g : Nat) (t : TypeId) (v0 v1 v2 : Value) (hb : w.heap[g]? = some (.cells #[v0, v1, v2] t (0, 0))) : (loadVar 26 ⟨g, 0, none⟩).run Try.prog w = .ok (.agg #[v0, v1, v2]) w :=
  run_loadVar_row _ g t 26 _ _ _ hb Try.underlying26 rfl (by kernel_rfl)
theorem game_end {Q : Ending → World → Prop} {a : Act} {w1 : World} {g : Nat} {c : Array Value} {t : TypeId} {fn : Func} (q : Tmp) (hfn : fn.results = #[.cell q 26]) (hc : c.size = 3) (hb : w1.heap[g]? = some (.cells c t (0, 0)))
    (ha : a.tmps.getD q undef = .pointer (some ⟨g, 0, none⟩)) (hd : a.defers = []) (v0 v1 v2 : Value) (hQ : ∀ w', Keeps (· = g) w1 w' → Q (.returned (.agg #[v0, v1, v2])) w') :
    bodyPost Try.prog fn Q .ret a (((w1.setCell ⟨g, 0, none⟩ v0).setCell ⟨g, 1, none⟩ v1).setCell ⟨g, 2, none⟩ v2) :=
  bodyPost_ret (results_one (q := q) (ty := 26) hfn ha (load_game _ g t v0 v1 v2 (set_three hc hb v0 v1 v2))) hd (hQ _ (((Keeps.setCell (S := (· = g)) w1 (a := ⟨g, 0, none⟩) rfl _).andSet (x := ⟨g, 1, none⟩) (.inl rfl) _).andSet (x := ⟨g, 2, none⟩) (.inl rfl) _))
theorem three_cells2 {w : World} {s : Nat} {v0 v1 v2 x y z : Value} (h0 : w.cell? ⟨s, 0, none⟩ = some x) (h1 : w.cell? ⟨s, 1, none⟩ = some y) (h2 : w.cell? ⟨s, 2, none⟩ = some z) : (((w.setCell ⟨s + 1, 0, none⟩ v0).setCell ⟨s + 1, 1, none⟩ v1).setCell ⟨s + 1, 2, none⟩ v2).cell? ⟨s, 0, none⟩ = some x ∧ (((w.setCell ⟨s + 1, 0, none⟩ v0).setCell ⟨s + 1, 1, none⟩ v1).setCell ⟨s + 1, 2, none⟩ v2).cell? ⟨s, 1, none⟩ = some y ∧ (((w.setCell ⟨s + 1, 0, none⟩ v0).setCell ⟨s + 1, 1, none⟩ v1).setCell ⟨s + 1, 2, none⟩ v2).cell? ⟨s, 2, none⟩ = some z := by
  have hk : Keeps (· = s + 1) w (((w.setCell ⟨s + 1, 0, none⟩ v0).setCell ⟨s + 1, 1, none⟩ v1).setCell ⟨s + 1, 2, none⟩ v2) := ((Keeps.setCell (S := (· = s + 1)) w (a := ⟨s + 1, 0, none⟩) rfl _).andSet (x := ⟨s + 1, 1, none⟩) (.inl rfl) _).andSet (x := ⟨s + 1, 2, none⟩) (.inl rfl) _
  exact ⟨hk.cell h0 (by simp), hk.cell h1 (by simp), hk.cell h2 (by simp)⟩
set_option maxHeartbeats 3200000 in
theorem copied_ok (a0 a1 a2 : Option Addr) (n0 c0 n1 c1 n2 c2 : Nat) (l : List Dd) (st : List Bool) (pk : List Int) (w : World) (h0 : Seen w a0 n0 l) (h1 : SeenV w a1 n1 (bv' st)) (h2 : SeenV w a2 n2 (iv pk)) (s0 : n0 * 16 ≤ 140737488351232) (s1 : n1 ≤ 140737488351232) (s2 : n2 * 8 ≤ 140737488351232) :
    Calls Try.prog 6 #[.agg #[.slice a0 n0 c0, .slice a1 n1 c1, .slice a2 n2 c2]] w fun e w' => ∃ v0 v1 v2, e = .returned (.agg #[v0, v1, v2]) ∧ Tri w' w.heap.size v0 v1 v2 n0 n1 n2 l st pk ∧ Keeps None w w' := by
  have HS : Hid (Seen w a0 n0 l ∧ SeenV w a1 n1 (bv' st) ∧ SeenV w a2 n2 (iv pk)) := ⟨h0, h1, h2⟩
  clear h0 h1 h2
  obtain ⟨p0, hp0⟩ : ∃ p0, p0 = w.heap.size := ⟨_, rfl⟩
  have hb0 := blk_old (blk_new w (.cells #[.slice a0 n0 c0, .slice a1 n1 c1, .slice a2 n2 c2] 26) p0 hp0.symm) (.cells #[.slice none 0 0, .slice none 0 0, .slice none 0 0] 26)
  have hb1 := blk_new (w.alloc (.cells #[.slice a0 n0 c0, .slice a1 n1 c1, .slice a2 n2 c2] 26)) (.cells #[.slice none 0 0, .slice none 0 0, .slice none 0 0] 26) (p0 + 1) (by simp; omega)
  have hkb := (Keeps.alloc None w (.cells #[.slice a0 n0 c0, .slice a1 n1 c1, .slice a2 n2 c2] 26)).andAlloc (.cells #[.slice none 0 0, .slice none 0 0, .slice none 0 0] 26)
  have hsz : ((w.alloc (.cells #[.slice a0 n0 c0, .slice a1 n1 c1, .slice a2 n2 c2] 26)).alloc (.cells #[.slice none 0 0, .slice none 0 0, .slice none 0 0] 26)).heap.size = p0 + 1 + 1 := by simp; omega
  go_enter Try.func6, Try.ntmps6
  go_upto_region 1 with fail
  rw [← hp0]
  generalize (w.alloc (.cells #[.slice a0 n0 c0, .slice a1 n1 c1, .slice a2 n2 c2] 26)).alloc (.cells #[.slice none 0 0, .slice none 0 0, .slice none 0 0] 26) = wb at *
  have HB : Hid (wb.heap[p0]? = some (.cells #[.slice a0 n0 c0, .slice a1 n1 c1, .slice a2 n2 c2] 26 (0, 0)) ∧ wb.heap[p0 + 1]? = some (.cells #[.slice none 0 0, .slice none 0 0, .slice none 0 0] 26 (0, 0)) ∧ Keeps None w wb ∧ wb.heap.size = p0 + 1 + 1 ∧ p0 = w.heap.size) := ⟨hb0, hb1, hkb, hsz, hp0⟩
  have c0' : wb.cell? ⟨p0, 0, none⟩ = some (.slice a0 n0 c0) := (blk_cell hb0 0).trans rfl
  have c1' : wb.cell? ⟨p0, 1, none⟩ = some (.slice a1 n1 c1) := (blk_cell hb0 1).trans rfl
  have c2' : wb.cell? ⟨p0, 2, none⟩ = some (.slice a2 n2 c2) := (blk_cell hb0 2).trans rfl
  have HSB : Hid (∀ wx, Keeps None wb wx → Seen wx a0 n0 l ∧ SeenV wx a1 n1 (bv' st) ∧ SeenV wx a2 n2 (iv pk)) := fun wx hx => ⟨(HS.out.1.more hkb).more hx, (HS.out.2.1.more hkb).more hx, (HS.out.2.2.more hkb).more hx⟩
  have hT : Tri wb.drew wb.heap.size (.slice none 0 0) (.slice none 0 0) (.slice none 0 0) 0 0 0 [] [] [] := ⟨row_nil _ _ _ _, row_nil _ _ _ _, row_nil _ _ _ _⟩
  have hQ : Keeps None wb wb.drew := Keeps.drew None wb
  clear hb0 hb1 hkb hsz hp0 HS
  refine wp_region_held_drew (S := (fun w' => w'.cell? ⟨p0, 0, none⟩ = some (.slice a0 n0 c0) ∧ w'.cell? ⟨p0, 1, none⟩ = some (.slice a1 n1 c1) ∧ w'.cell? ⟨p0, 2, none⟩ = some (.slice a2 n2 c2))) (by kernel_rfl) ?_ (fun hHeld => ?_)
  · (try dsimp only); first | with_reducible exact ⟨hQ.cell c0' (fun f => f), hQ.cell c1' (fun f => f), hQ.cell c2' (fun f => f)⟩ | with_reducible exact three_cells2 (hQ.cell c0' (fun f => f)) (hQ.cell c1' (fun f => f)) (hQ.cell c2' (fun f => f)) | exact ⟨hQ.cell c0' (fun f => f), hQ.cell c1' (fun f => f), hQ.cell c2' (fun f => f)⟩
  refine wpAnyH_take (i := 1) (oi := { dst := some 4, op := Op.fieldAddr 26 (Operand.tmp 1) 0, type := 0, pos := "law.go:19", after := #[], guard := none }) (v := ?_) rfl (by kernel_rfl) (by kernel_rfl) (by kernel_rfl) (fun _ _ _ h => h) (Or.inl ⟨by rfl, ?_⟩) (by assumption) ?_
  rotate_left
  · (intro wz hSw; (try dsimp only at hSw); go_simp; try with_reducible rfl)
  simp only [Act.put, List.setIfInBounds_toArray, List.set_cons_zero, List.set_cons_succ]
  refine wpAnyH_take (i := 2) (oi := { dst := some 5, op := Op.load 22 (Operand.tmp 4), type := 22, pos := "law.go:19", after := #[{ on := 1, ground := Ground.data }], guard := none }) (v := ?_) rfl (by kernel_rfl) (by kernel_rfl) (by kernel_rfl) (fun _ _ _ h => h) (Or.inl ⟨by rfl, ?_⟩) (by assumption) ?_
  rotate_left
  · (intro wz hSw; (try dsimp only at hSw); go_simp; try with_reducible rfl)
  simp only [Act.put, List.setIfInBounds_toArray, List.set_cons_zero, List.set_cons_succ]
  refine wpAnyH_take (i := 5) (oi := { dst := some 8, op := Op.fieldAddr 26 (Operand.tmp 1) 1, type := 0, pos := "law.go:19", after := #[], guard := none }) (v := ?_) rfl (by kernel_rfl) (by kernel_rfl) (by kernel_rfl) (fun _ _ _ h => h) (Or.inl ⟨by rfl, ?_⟩) (by assumption) ?_
  rotate_left
  · (intro wz hSw; (try dsimp only at hSw); go_simp; try with_reducible rfl)
  simp only [Act.put, List.setIfInBounds_toArray, List.set_cons_zero, List.set_cons_succ]
  refine wpAnyH_take (i := 6) (oi := { dst := some 9, op := Op.load 23 (Operand.tmp 8), type := 23, pos := "law.go:19", after := #[{ on := 5, ground := Ground.data }], guard := none }) (v := ?_) rfl (by kernel_rfl) (by kernel_rfl) (by kernel_rfl) (fun _ _ _ h => h) (Or.inl ⟨by rfl, ?_⟩) (by assumption) ?_
  rotate_left
  · (intro wz hSw; (try dsimp only at hSw); go_simp; try with_reducible rfl)
  simp only [Act.put, List.setIfInBounds_toArray, List.set_cons_zero, List.set_cons_succ]
  refine wpAnyH_take (i := 9) (oi := { dst := some 12, op := Op.fieldAddr 26 (Operand.tmp 1) 2, type := 0, pos := "law.go:19", after := #[], guard := none }) (v := ?_) rfl (by kernel_rfl) (by kernel_rfl) (by kernel_rfl) (fun _ _ _ h => h) (Or.inl ⟨by rfl, ?_⟩) (by assumption) ?_
  rotate_left
  · (intro wz hSw; (try dsimp only at hSw); go_simp; try with_reducible rfl)
  simp only [Act.put, List.setIfInBounds_toArray, List.set_cons_zero, List.set_cons_succ]
  refine wpAnyH_take (i := 10) (oi := { dst := some 13, op := Op.load 24 (Operand.tmp 12), type := 24, pos := "law.go:19", after := #[{ on := 9, ground := Ground.data }], guard := none }) (v := ?_) rfl (by kernel_rfl) (by kernel_rfl) (by kernel_rfl) (fun _ _ _ h => h) (Or.inl ⟨by rfl, ?_⟩) (by assumption) ?_
  rotate_left
  · (intro wz hSw; (try dsimp only at hSw); go_simp; try with_reducible rfl)
  simp only [Act.put, List.setIfInBounds_toArray, List.set_cons_zero, List.set_cons_succ]
  refine wpAnyH_ready (rs := [0, 4, 8]) (by kernel_rfl) (by simp) ?_
  refine AllReadyH.cons (o := { dst := some 3, op := Op.buildSlice 22 0 #[], type := 22, pos := "law.go:19", after := #[], guard := none }) rfl (fun K hK => ?_) ?_
  · go_simp
    replace hT := hT.new0 hQ.size
    replace hQ := hQ.andAlloc (.cells #[] 44)
    refine hK.out _ _ ?_ (fun hHeld2 => ?_)
    · (try dsimp only); first | with_reducible exact ⟨hQ.cell c0' (fun f => f), hQ.cell c1' (fun f => f), hQ.cell c2' (fun f => f)⟩ | with_reducible exact three_cells2 (hQ.cell c0' (fun f => f)) (hQ.cell c1' (fun f => f)) (hQ.cell c2' (fun f => f)) | exact ⟨hQ.cell c0' (fun f => f), hQ.cell c1' (fun f => f), hQ.cell c2' (fun f => f)⟩
    clear hK K
    try simp only [Act.put, List.setIfInBounds_toArray, List.set_cons_zero, List.set_cons_succ]
    refine wpAnyH_ready (rs := [3, 4, 8]) (by kernel_rfl) (by simp) ?_
    refine AllReadyH.cons (o := { dst := some 6, op := Op.call { callee := Callee.builtin Builtin.append, args := #[Operand.tmp 3, Operand.tmp 5], argTypes := #[22, 22] }, type := 22, pos := "law.go:19", after := #[{ on := 0, ground := Ground.data }, { on := 2, ground := Ground.data }], guard := none }) rfl (fun K hK => ?_) ?_
    · (obtain ⟨x0, y0, wA, hrA, hT2, hkA⟩ := hT.all0 hQ.size a0 n0 c0 l 22 (HSB.out _ hQ).1 (by omega); refine step_append_run rfl (.tmp 3) (.tmp 5) 22 22 rfl (by simp [Act.eval]) (by simp [Act.eval]) hrA ?_)
      replace hQ := hQ.trans hkA (fun i e hi => by omega)
      replace hT := hT2
      clear hT2 hkA hrA
      have b6 := blk_kept HB.out.2.1 hQ (fun f => f); have r60 := (blk_cell b6 0).trans rfl; have r61 := (blk_cell b6 1).trans rfl; have r62 := (blk_cell b6 2).trans rfl; have f60 := blk_free b6 0; have f61 := blk_free b6 1; have f62 := blk_free b6 2
      refine hK.out _ _ ?_ (fun hHeld2 => ?_)
      · (try dsimp only); first | with_reducible exact ⟨hQ.cell c0' (fun f => f), hQ.cell c1' (fun f => f), hQ.cell c2' (fun f => f)⟩ | with_reducible exact three_cells2 (hQ.cell c0' (fun f => f)) (hQ.cell c1' (fun f => f)) (hQ.cell c2' (fun f => f)) | exact ⟨hQ.cell c0' (fun f => f), hQ.cell c1' (fun f => f), hQ.cell c2' (fun f => f)⟩
      clear hK K
      try simp only [Act.put, List.setIfInBounds_toArray, List.set_cons_zero, List.set_cons_succ]
      refine wpAnyH_ready (rs := [4, 8]) (by kernel_rfl) (by simp) ?_
      refine AllReadyH.cons (o := { dst := some 7, op := Op.buildSlice 23 0 #[], type := 23, pos := "law.go:19", after := #[], guard := none }) rfl (fun K hK => ?_) ?_
      · go_simp
        replace hT := hT.new1 hQ.size
        replace hQ := hQ.andAlloc (.cells #[] 4)
        refine hK.out _ _ ?_ (fun hHeld2 => ?_)
        · (try dsimp only); first | with_reducible exact ⟨hQ.cell c0' (fun f => f), hQ.cell c1' (fun f => f), hQ.cell c2' (fun f => f)⟩ | with_reducible exact three_cells2 (hQ.cell c0' (fun f => f)) (hQ.cell c1' (fun f => f)) (hQ.cell c2' (fun f => f)) | exact ⟨hQ.cell c0' (fun f => f), hQ.cell c1' (fun f => f), hQ.cell c2' (fun f => f)⟩
        clear hK K
        try simp only [Act.put, List.setIfInBounds_toArray, List.set_cons_zero, List.set_cons_succ]
        refine wpAnyH_ready (rs := [7, 8]) (by kernel_rfl) (by simp) ?_
        refine AllReadyH.cons (o := { dst := some 10, op := Op.call { callee := Callee.builtin Builtin.append, args := #[Operand.tmp 7, Operand.tmp 9], argTypes := #[23, 23] }, type := 23, pos := "law.go:19", after := #[{ on := 4, ground := Ground.data }, { on := 6, ground := Ground.data }, { on := 3, ground := Ground.chain }], guard := none }) rfl (fun K hK => ?_) ?_
        · (obtain ⟨x1, y1, wU, hrU, hT2, hkA⟩ := hT.all1 hQ.size a1 n1 c1 st 23 (HSB.out _ hQ).2.1 (by omega); refine step_append_run rfl (.tmp 7) (.tmp 9) 23 23 rfl (by simp [Act.eval]) (by simp [Act.eval]) hrU ?_)
          replace hQ := hQ.trans hkA (fun i e hi => by omega)
          replace hT := hT2
          clear hT2 hkA hrU
          have b6 := blk_kept HB.out.2.1 hQ (fun f => f); have r60 := (blk_cell b6 0).trans rfl; have r61 := (blk_cell b6 1).trans rfl; have r62 := (blk_cell b6 2).trans rfl; have f60 := blk_free b6 0; have f61 := blk_free b6 1; have f62 := blk_free b6 2
          refine hK.out _ _ ?_ (fun hHeld2 => ?_)
          · (try dsimp only); first | with_reducible exact ⟨hQ.cell c0' (fun f => f), hQ.cell c1' (fun f => f), hQ.cell c2' (fun f => f)⟩ | with_reducible exact three_cells2 (hQ.cell c0' (fun f => f)) (hQ.cell c1' (fun f => f)) (hQ.cell c2' (fun f => f)) | exact ⟨hQ.cell c0' (fun f => f), hQ.cell c1' (fun f => f), hQ.cell c2' (fun f => f)⟩
          clear hK K
          try simp only [Act.put, List.setIfInBounds_toArray, List.set_cons_zero, List.set_cons_succ]
          refine wpAnyH_ready (rs := [8]) (by kernel_rfl) (by simp) ?_
          refine AllReadyH.cons (o := { dst := some 11, op := Op.buildSlice 24 0 #[], type := 24, pos := "law.go:19", after := #[], guard := none }) rfl (fun K hK => ?_) ?_
          · go_simp
            replace hT := hT.new2 hQ.size
            replace hQ := hQ.andAlloc (.cells #[] 3)
            refine hK.out _ _ ?_ (fun hHeld2 => ?_)
            · (try dsimp only); first | with_reducible exact ⟨hQ.cell c0' (fun f => f), hQ.cell c1' (fun f => f), hQ.cell c2' (fun f => f)⟩ | with_reducible exact three_cells2 (hQ.cell c0' (fun f => f)) (hQ.cell c1' (fun f => f)) (hQ.cell c2' (fun f => f)) | exact ⟨hQ.cell c0' (fun f => f), hQ.cell c1' (fun f => f), hQ.cell c2' (fun f => f)⟩
            clear hK K
            try simp only [Act.put, List.setIfInBounds_toArray, List.set_cons_zero, List.set_cons_succ]
            refine wpAnyH_ready (rs := [11]) (by kernel_rfl) (by simp) ?_
            refine AllReadyH.cons (o := { dst := some 14, op := Op.call { callee := Callee.builtin Builtin.append, args := #[Operand.tmp 11, Operand.tmp 13], argTypes := #[24, 24] }, type := 24, pos := "law.go:19", after := #[{ on := 8, ground := Ground.data }, { on := 10, ground := Ground.data }, { on := 7, ground := Ground.chain }], guard := none }) rfl (fun K hK => ?_) ?_
            · (obtain ⟨x2, y2, wV, hrV, hT2, hkA⟩ := hT.all2 hQ.size a2 n2 c2 pk 24 (HSB.out _ hQ).2.2 (by omega); refine step_append_run rfl (.tmp 11) (.tmp 13) 24 24 rfl (by simp [Act.eval]) (by simp [Act.eval]) hrV ?_)
              replace hQ := hQ.trans hkA (fun i e hi => by omega)
              replace hT := hT2
              clear hT2 hkA hrV
              have b6 := blk_kept HB.out.2.1 hQ (fun f => f); have r60 := (blk_cell b6 0).trans rfl; have r61 := (blk_cell b6 1).trans rfl; have r62 := (blk_cell b6 2).trans rfl; have f60 := blk_free b6 0; have f61 := blk_free b6 1; have f62 := blk_free b6 2
              refine hK.out _ _ ?_ (fun hHeld2 => ?_)
              · (try dsimp only); first | with_reducible exact ⟨hQ.cell c0' (fun f => f), hQ.cell c1' (fun f => f), hQ.cell c2' (fun f => f)⟩ | with_reducible exact three_cells2 (hQ.cell c0' (fun f => f)) (hQ.cell c1' (fun f => f)) (hQ.cell c2' (fun f => f)) | exact ⟨hQ.cell c0' (fun f => f), hQ.cell c1' (fun f => f), hQ.cell c2' (fun f => f)⟩
              clear hK K
              try simp only [Act.put, List.setIfInBounds_toArray, List.set_cons_zero, List.set_cons_succ]
              refine wpAnyH_take (i := 12) (oi := { dst := some 15, op := Op.build 26 #[(0, Operand.tmp 6), (1, Operand.tmp 10), (2, Operand.tmp 14)], type := 26, pos := "law.go:19", after := #[{ on := 3, ground := Ground.data }, { on := 7, ground := Ground.data }, { on := 11, ground := Ground.data }], guard := none }) (v := ?_) rfl (by kernel_rfl) (by kernel_rfl) (by kernel_rfl) (fun _ _ _ h => h) (Or.inl ⟨by rfl, ?_⟩) (by assumption) ?_
              rotate_left
              · (intro wz hSw; (try dsimp only at hSw); go_simp; try with_reducible rfl)
              simp only [Act.put, List.setIfInBounds_toArray, List.set_cons_zero, List.set_cons_succ]
              refine wpAnyH_ready (rs := [13]) (by kernel_rfl) (by simp) ?_
              refine AllReadyH.cons (o := _) rfl (fun K hK => ?_) ?_
              · go_simp
                refine hK.out _ _ ?_ (fun hHeld2 => ?_)
                · (try dsimp only); first | with_reducible exact ⟨hQ.cell c0' (fun f => f), hQ.cell c1' (fun f => f), hQ.cell c2' (fun f => f)⟩ | with_reducible exact three_cells2 (hQ.cell c0' (fun f => f)) (hQ.cell c1' (fun f => f)) (hQ.cell c2' (fun f => f)) | exact ⟨hQ.cell c0' (fun f => f), hQ.cell c1' (fun f => f), hQ.cell c2' (fun f => f)⟩
                clear hK K
                try simp only [Act.put, List.setIfInBounds_toArray, List.set_cons_zero, List.set_cons_succ]
                refine wpAnyH_done (by kernel_rfl) ?_ _
                go_wp2_with fail
                refine game_end 2 rfl rfl b6 rfl rfl _ _ _ (fun w' hk => ⟨_, _, _, rfl, ?_, ?_⟩)
                · exact (hT.kept hk (fun g h1 _ e => by have := HB.out.2.2.2.1; omega)).base (by have := HB.out.2.2.2; omega)
                · exact (HB.out.2.2.1.trans hQ (fun _ f _ => f)).trans hk (fun i e hi => by have := HB.out.2.2.2; omega)
              exact AllReadyH.nil
            exact AllReadyH.nil
          exact AllReadyH.nil
        refine AllReadyH.cons (o := { dst := some 11, op := Op.buildSlice 24 0 #[], type := 24, pos := "law.go:19", after := #[], guard := none }) rfl (fun K hK => ?_) ?_
        · go_simp
          replace hT := hT.new2 hQ.size
          replace hQ := hQ.andAlloc (.cells #[] 3)
          refine hK.out _ _ ?_ (fun hHeld2 => ?_)
          · (try dsimp only); first | with_reducible exact ⟨hQ.cell c0' (fun f => f), hQ.cell c1' (fun f => f), hQ.cell c2' (fun f => f)⟩ | with_reducible exact three_cells2 (hQ.cell c0' (fun f => f)) (hQ.cell c1' (fun f => f)) (hQ.cell c2' (fun f => f)) | exact ⟨hQ.cell c0' (fun f => f), hQ.cell c1' (fun f => f), hQ.cell c2' (fun f => f)⟩
          clear hK K
          try simp only [Act.put, List.setIfInBounds_toArray, List.set_cons_zero, List.set_cons_succ]
          refine wpAnyH_ready (rs := [7]) (by kernel_rfl) (by simp) ?_
          refine AllReadyH.cons (o := { dst := some 10, op := Op.call { callee := Callee.builtin Builtin.append, args := #[Operand.tmp 7, Operand.tmp 9], argTypes := #[23, 23] }, type := 23, pos := "law.go:19", after := #[{ on := 4, ground := Ground.data }, { on := 6, ground := Ground.data }, { on := 3, ground := Ground.chain }], guard := none }) rfl (fun K hK => ?_) ?_
          · (obtain ⟨x1, y1, wU, hrU, hT2, hkA⟩ := hT.all1 hQ.size a1 n1 c1 st 23 (HSB.out _ hQ).2.1 (by omega); refine step_append_run rfl (.tmp 7) (.tmp 9) 23 23 rfl (by simp [Act.eval]) (by simp [Act.eval]) hrU ?_)
            replace hQ := hQ.trans hkA (fun i e hi => by omega)
            replace hT := hT2
            clear hT2 hkA hrU
            have b6 := blk_kept HB.out.2.1 hQ (fun f => f); have r60 := (blk_cell b6 0).trans rfl; have r61 := (blk_cell b6 1).trans rfl; have r62 := (blk_cell b6 2).trans rfl; have f60 := blk_free b6 0; have f61 := blk_free b6 1; have f62 := blk_free b6 2
            refine hK.out _ _ ?_ (fun hHeld2 => ?_)
            · (try dsimp only); first | with_reducible exact ⟨hQ.cell c0' (fun f => f), hQ.cell c1' (fun f => f), hQ.cell c2' (fun f => f)⟩ | with_reducible exact three_cells2 (hQ.cell c0' (fun f => f)) (hQ.cell c1' (fun f => f)) (hQ.cell c2' (fun f => f)) | exact ⟨hQ.cell c0' (fun f => f), hQ.cell c1' (fun f => f), hQ.cell c2' (fun f => f)⟩
            clear hK K
            try simp only [Act.put, List.setIfInBounds_toArray, List.set_cons_zero, List.set_cons_succ]
            refine wpAnyH_ready (rs := [11]) (by kernel_rfl) (by simp) ?_
            refine AllReadyH.cons (o := { dst := some 14, op := Op.call { callee := Callee.builtin Builtin.append, args := #[Operand.tmp 11, Operand.tmp 13], argTypes := #[24, 24] }, type := 24, pos := "law.go:19", after := #[{ on := 8, ground := Ground.data }, { on := 10, ground := Ground.data }, { on := 7, ground := Ground.chain }], guard := none }) rfl (fun K hK => ?_) ?_
            · (obtain ⟨x2, y2, wV, hrV, hT2, hkA⟩ := hT.all2 hQ.size a2 n2 c2 pk 24 (HSB.out _ hQ).2.2 (by omega); refine step_append_run rfl (.tmp 11) (.tmp 13) 24 24 rfl (by simp [Act.eval]) (by simp [Act.eval]) hrV ?_)
              replace hQ := hQ.trans hkA (fun i e hi => by omega)
              replace hT := hT2
              clear hT2 hkA hrV
              have b6 := blk_kept HB.out.2.1 hQ (fun f => f); have r60 := (blk_cell b6 0).trans rfl; have r61 := (blk_cell b6 1).trans rfl; have r62 := (blk_cell b6 2).trans rfl; have f60 := blk_free b6 0; have f61 := blk_free b6 1; have f62 := blk_free b6 2
              refine hK.out _ _ ?_ (fun hHeld2 => ?_)
              · (try dsimp only); first | with_reducible exact ⟨hQ.cell c0' (fun f => f), hQ.cell c1' (fun f => f), hQ.cell c2' (fun f => f)⟩ | with_reducible exact three_cells2 (hQ.cell c0' (fun f => f)) (hQ.cell c1' (fun f => f)) (hQ.cell c2' (fun f => f)) | exact ⟨hQ.cell c0' (fun f => f), hQ.cell c1' (fun f => f), hQ.cell c2' (fun f => f)⟩
              clear hK K
              try simp only [Act.put, List.setIfInBounds_toArray, List.set_cons_zero, List.set_cons_succ]
              refine wpAnyH_take (i := 12) (oi := { dst := some 15, op := Op.build 26 #[(0, Operand.tmp 6), (1, Operand.tmp 10), (2, Operand.tmp 14)], type := 26, pos := "law.go:19", after := #[{ on := 3, ground := Ground.data }, { on := 7, ground := Ground.data }, { on := 11, ground := Ground.data }], guard := none }) (v := ?_) rfl (by kernel_rfl) (by kernel_rfl) (by kernel_rfl) (fun _ _ _ h => h) (Or.inl ⟨by rfl, ?_⟩) (by assumption) ?_
              rotate_left
              · (intro wz hSw; (try dsimp only at hSw); go_simp; try with_reducible rfl)
              simp only [Act.put, List.setIfInBounds_toArray, List.set_cons_zero, List.set_cons_succ]
              refine wpAnyH_ready (rs := [13]) (by kernel_rfl) (by simp) ?_
              refine AllReadyH.cons (o := _) rfl (fun K hK => ?_) ?_
              · go_simp
                refine hK.out _ _ ?_ (fun hHeld2 => ?_)
                · (try dsimp only); first | with_reducible exact ⟨hQ.cell c0' (fun f => f), hQ.cell c1' (fun f => f), hQ.cell c2' (fun f => f)⟩ | with_reducible exact three_cells2 (hQ.cell c0' (fun f => f)) (hQ.cell c1' (fun f => f)) (hQ.cell c2' (fun f => f)) | exact ⟨hQ.cell c0' (fun f => f), hQ.cell c1' (fun f => f), hQ.cell c2' (fun f => f)⟩
                clear hK K
                try simp only [Act.put, List.setIfInBounds_toArray, List.set_cons_zero, List.set_cons_succ]
                refine wpAnyH_done (by kernel_rfl) ?_ _
                go_wp2_with fail
                refine game_end 2 rfl rfl b6 rfl rfl _ _ _ (fun w' hk => ⟨_, _, _, rfl, ?_, ?_⟩)
                · exact (hT.kept hk (fun g h1 _ e => by have := HB.out.2.2.2.1; omega)).base (by have := HB.out.2.2.2; omega)
                · exact (HB.out.2.2.1.trans hQ (fun _ f _ => f)).trans hk (fun i e hi => by have := HB.out.2.2.2; omega)
              exact AllReadyH.nil
            exact AllReadyH.nil
          exact AllReadyH.nil
        exact AllReadyH.nil
      refine AllReadyH.cons (o := { dst := some 11, op := Op.buildSlice 24 0 #[], type := 24, pos := "law.go:19", after := #[], guard := none }) rfl (fun K hK => ?_) ?_
      · go_simp
        replace hT := hT.new2 hQ.size
        replace hQ := hQ.andAlloc (.cells #[] 3)
        refine hK.out _ _ ?_ (fun hHeld2 => ?_)
        · (try dsimp only); first | with_reducible exact ⟨hQ.cell c0' (fun f => f), hQ.cell c1' (fun f => f), hQ.cell c2' (fun f => f)⟩ | with_reducible exact three_cells2 (hQ.cell c0' (fun f => f)) (hQ.cell c1' (fun f => f)) (hQ.cell c2' (fun f => f)) | exact ⟨hQ.cell c0' (fun f => f), hQ.cell c1' (fun f => f), hQ.cell c2' (fun f => f)⟩
        clear hK K
        try simp only [Act.put, List.setIfInBounds_toArray, List.set_cons_zero, List.set_cons_succ]
        refine wpAnyH_ready (rs := [4]) (by kernel_rfl) (by simp) ?_
        refine AllReadyH.cons (o := { dst := some 7, op := Op.buildSlice 23 0 #[], type := 23, pos := "law.go:19", after := #[], guard := none }) rfl (fun K hK => ?_) ?_
        · go_simp
          replace hT := hT.new1 hQ.size
          replace hQ := hQ.andAlloc (.cells #[] 4)
          refine hK.out _ _ ?_ (fun hHeld2 => ?_)
          · (try dsimp only); first | with_reducible exact ⟨hQ.cell c0' (fun f => f), hQ.cell c1' (fun f => f), hQ.cell c2' (fun f => f)⟩ | with_reducible exact three_cells2 (hQ.cell c0' (fun f => f)) (hQ.cell c1' (fun f => f)) (hQ.cell c2' (fun f => f)) | exact ⟨hQ.cell c0' (fun f => f), hQ.cell c1' (fun f => f), hQ.cell c2' (fun f => f)⟩
          clear hK K
          try simp only [Act.put, List.setIfInBounds_toArray, List.set_cons_zero, List.set_cons_succ]
          refine wpAnyH_ready (rs := [7]) (by kernel_rfl) (by simp) ?_
          refine AllReadyH.cons (o := { dst := some 10, op := Op.call { callee := Callee.builtin Builtin.append, args := #[Operand.tmp 7, Operand.tmp 9], argTypes := #[23, 23] }, type := 23, pos := "law.go:19", after := #[{ on := 4, ground := Ground.data }, { on := 6, ground := Ground.data }, { on := 3, ground := Ground.chain }], guard := none }) rfl (fun K hK => ?_) ?_
          · (obtain ⟨x1, y1, wU, hrU, hT2, hkA⟩ := hT.all1 hQ.size a1 n1 c1 st 23 (HSB.out _ hQ).2.1 (by omega); refine step_append_run rfl (.tmp 7) (.tmp 9) 23 23 rfl (by simp [Act.eval]) (by simp [Act.eval]) hrU ?_)
            replace hQ := hQ.trans hkA (fun i e hi => by omega)
            replace hT := hT2
            clear hT2 hkA hrU
            have b6 := blk_kept HB.out.2.1 hQ (fun f => f); have r60 := (blk_cell b6 0).trans rfl; have r61 := (blk_cell b6 1).trans rfl; have r62 := (blk_cell b6 2).trans rfl; have f60 := blk_free b6 0; have f61 := blk_free b6 1; have f62 := blk_free b6 2
            refine hK.out _ _ ?_ (fun hHeld2 => ?_)
            · (try dsimp only); first | with_reducible exact ⟨hQ.cell c0' (fun f => f), hQ.cell c1' (fun f => f), hQ.cell c2' (fun f => f)⟩ | with_reducible exact three_cells2 (hQ.cell c0' (fun f => f)) (hQ.cell c1' (fun f => f)) (hQ.cell c2' (fun f => f)) | exact ⟨hQ.cell c0' (fun f => f), hQ.cell c1' (fun f => f), hQ.cell c2' (fun f => f)⟩
            clear hK K
            try simp only [Act.put, List.setIfInBounds_toArray, List.set_cons_zero, List.set_cons_succ]
            refine wpAnyH_ready (rs := [11]) (by kernel_rfl) (by simp) ?_
            refine AllReadyH.cons (o := { dst := some 14, op := Op.call { callee := Callee.builtin Builtin.append, args := #[Operand.tmp 11, Operand.tmp 13], argTypes := #[24, 24] }, type := 24, pos := "law.go:19", after := #[{ on := 8, ground := Ground.data }, { on := 10, ground := Ground.data }, { on := 7, ground := Ground.chain }], guard := none }) rfl (fun K hK => ?_) ?_
            · (obtain ⟨x2, y2, wV, hrV, hT2, hkA⟩ := hT.all2 hQ.size a2 n2 c2 pk 24 (HSB.out _ hQ).2.2 (by omega); refine step_append_run rfl (.tmp 11) (.tmp 13) 24 24 rfl (by simp [Act.eval]) (by simp [Act.eval]) hrV ?_)
              replace hQ := hQ.trans hkA (fun i e hi => by omega)
              replace hT := hT2
              clear hT2 hkA hrV
              have b6 := blk_kept HB.out.2.1 hQ (fun f => f); have r60 := (blk_cell b6 0).trans rfl; have r61 := (blk_cell b6 1).trans rfl; have r62 := (blk_cell b6 2).trans rfl; have f60 := blk_free b6 0; have f61 := blk_free b6 1; have f62 := blk_free b6 2
              refine hK.out _ _ ?_ (fun hHeld2 => ?_)
              · (try dsimp only); first | with_reducible exact ⟨hQ.cell c0' (fun f => f), hQ.cell c1' (fun f => f), hQ.cell c2' (fun f => f)⟩ | with_reducible exact three_cells2 (hQ.cell c0' (fun f => f)) (hQ.cell c1' (fun f => f)) (hQ.cell c2' (fun f => f)) | exact ⟨hQ.cell c0' (fun f => f), hQ.cell c1' (fun f => f), hQ.cell c2' (fun f => f)⟩
              clear hK K
              try simp only [Act.put, List.setIfInBounds_toArray, List.set_cons_zero, List.set_cons_succ]
              refine wpAnyH_take (i := 12) (oi := { dst := some 15, op := Op.build 26 #[(0, Operand.tmp 6), (1, Operand.tmp 10), (2, Operand.tmp 14)], type := 26, pos := "law.go:19", after := #[{ on := 3, ground := Ground.data }, { on := 7, ground := Ground.data }, { on := 11, ground := Ground.data }], guard := none }) (v := ?_) rfl (by kernel_rfl) (by kernel_rfl) (by kernel_rfl) (fun _ _ _ h => h) (Or.inl ⟨by rfl, ?_⟩) (by assumption) ?_
              rotate_left
              · (intro wz hSw; (try dsimp only at hSw); go_simp; try with_reducible rfl)
              simp only [Act.put, List.setIfInBounds_toArray, List.set_cons_zero, List.set_cons_succ]
              refine wpAnyH_ready (rs := [13]) (by kernel_rfl) (by simp) ?_
              refine AllReadyH.cons (o := _) rfl (fun K hK => ?_) ?_
              · go_simp
                refine hK.out _ _ ?_ (fun hHeld2 => ?_)
                · (try dsimp only); first | with_reducible exact ⟨hQ.cell c0' (fun f => f), hQ.cell c1' (fun f => f), hQ.cell c2' (fun f => f)⟩ | with_reducible exact three_cells2 (hQ.cell c0' (fun f => f)) (hQ.cell c1' (fun f => f)) (hQ.cell c2' (fun f => f)) | exact ⟨hQ.cell c0' (fun f => f), hQ.cell c1' (fun f => f), hQ.cell c2' (fun f => f)⟩
                clear hK K
                try simp only [Act.put, List.setIfInBounds_toArray, List.set_cons_zero, List.set_cons_succ]
                refine wpAnyH_done (by kernel_rfl) ?_ _
                go_wp2_with fail
                refine game_end 2 rfl rfl b6 rfl rfl _ _ _ (fun w' hk => ⟨_, _, _, rfl, ?_, ?_⟩)
                · exact (hT.kept hk (fun g h1 _ e => by have := HB.out.2.2.2.1; omega)).base (by have := HB.out.2.2.2; omega)
                · exact (HB.out.2.2.1.trans hQ (fun _ f _ => f)).trans hk (fun i e hi => by have := HB.out.2.2.2; omega)
              exact AllReadyH.nil
            exact AllReadyH.nil
          exact AllReadyH.nil
        exact AllReadyH.nil
      exact AllReadyH.nil
    refine AllReadyH.cons (o := { dst := some 7, op := Op.buildSlice 23 0 #[], type := 23, pos := "law.go:19", after := #[], guard := none }) rfl (fun K hK => ?_) ?_
    · go_simp
      replace hT := hT.new1 hQ.size
      replace hQ := hQ.andAlloc (.cells #[] 4)
      refine hK.out _ _ ?_ (fun hHeld2 => ?_)
      · (try dsimp only); first | with_reducible exact ⟨hQ.cell c0' (fun f => f), hQ.cell c1' (fun f => f), hQ.cell c2' (fun f => f)⟩ | with_reducible exact three_cells2 (hQ.cell c0' (fun f => f)) (hQ.cell c1' (fun f => f)) (hQ.cell c2' (fun f => f)) | exact ⟨hQ.cell c0' (fun f => f), hQ.cell c1' (fun f => f), hQ.cell c2' (fun f => f)⟩
      clear hK K
      try simp only [Act.put, List.setIfInBounds_toArray, List.set_cons_zero, List.set_cons_succ]
      refine wpAnyH_ready (rs := [3, 8]) (by kernel_rfl) (by simp) ?_
      refine AllReadyH.cons (o := { dst := some 6, op := Op.call { callee := Callee.builtin Builtin.append, args := #[Operand.tmp 3, Operand.tmp 5], argTypes := #[22, 22] }, type := 22, pos := "law.go:19", after := #[{ on := 0, ground := Ground.data }, { on := 2, ground := Ground.data }], guard := none }) rfl (fun K hK => ?_) ?_
      · (obtain ⟨x0, y0, wA, hrA, hT2, hkA⟩ := hT.all0 hQ.size a0 n0 c0 l 22 (HSB.out _ hQ).1 (by omega); refine step_append_run rfl (.tmp 3) (.tmp 5) 22 22 rfl (by simp [Act.eval]) (by simp [Act.eval]) hrA ?_)
        replace hQ := hQ.trans hkA (fun i e hi => by omega)
        replace hT := hT2
        clear hT2 hkA hrA
        have b6 := blk_kept HB.out.2.1 hQ (fun f => f); have r60 := (blk_cell b6 0).trans rfl; have r61 := (blk_cell b6 1).trans rfl; have r62 := (blk_cell b6 2).trans rfl; have f60 := blk_free b6 0; have f61 := blk_free b6 1; have f62 := blk_free b6 2
        refine hK.out _ _ ?_ (fun hHeld2 => ?_)
        · (try dsimp only); first | with_reducible exact ⟨hQ.cell c0' (fun f => f), hQ.cell c1' (fun f => f), hQ.cell c2' (fun f => f)⟩ | with_reducible exact three_cells2 (hQ.cell c0' (fun f => f)) (hQ.cell c1' (fun f => f)) (hQ.cell c2' (fun f => f)) | exact ⟨hQ.cell c0' (fun f => f), hQ.cell c1' (fun f => f), hQ.cell c2' (fun f => f)⟩
        clear hK K
        try simp only [Act.put, List.setIfInBounds_toArray, List.set_cons_zero, List.set_cons_succ]
        refine wpAnyH_ready (rs := [7, 8]) (by kernel_rfl) (by simp) ?_
        refine AllReadyH.cons (o := { dst := some 10, op := Op.call { callee := Callee.builtin Builtin.append, args := #[Operand.tmp 7, Operand.tmp 9], argTypes := #[23, 23] }, type := 23, pos := "law.go:19", after := #[{ on := 4, ground := Ground.data }, { on := 6, ground := Ground.data }, { on := 3, ground := Ground.chain }], guard := none }) rfl (fun K hK => ?_) ?_
        · (obtain ⟨x1, y1, wU, hrU, hT2, hkA⟩ := hT.all1 hQ.size a1 n1 c1 st 23 (HSB.out _ hQ).2.1 (by omega); refine step_append_run rfl (.tmp 7) (.tmp 9) 23 23 rfl (by simp [Act.eval]) (by simp [Act.eval]) hrU ?_)
          replace hQ := hQ.trans hkA (fun i e hi => by omega)
          replace hT := hT2
          clear hT2 hkA hrU
          have b6 := blk_kept HB.out.2.1 hQ (fun f => f); have r60 := (blk_cell b6 0).trans rfl; have r61 := (blk_cell b6 1).trans rfl; have r62 := (blk_cell b6 2).trans rfl; have f60 := blk_free b6 0; have f61 := blk_free b6 1; have f62 := blk_free b6 2
          refine hK.out _ _ ?_ (fun hHeld2 => ?_)
          · (try dsimp only); first | with_reducible exact ⟨hQ.cell c0' (fun f => f), hQ.cell c1' (fun f => f), hQ.cell c2' (fun f => f)⟩ | with_reducible exact three_cells2 (hQ.cell c0' (fun f => f)) (hQ.cell c1' (fun f => f)) (hQ.cell c2' (fun f => f)) | exact ⟨hQ.cell c0' (fun f => f), hQ.cell c1' (fun f => f), hQ.cell c2' (fun f => f)⟩
          clear hK K
          try simp only [Act.put, List.setIfInBounds_toArray, List.set_cons_zero, List.set_cons_succ]
          refine wpAnyH_ready (rs := [8]) (by kernel_rfl) (by simp) ?_
          refine AllReadyH.cons (o := { dst := some 11, op := Op.buildSlice 24 0 #[], type := 24, pos := "law.go:19", after := #[], guard := none }) rfl (fun K hK => ?_) ?_
          · go_simp
            replace hT := hT.new2 hQ.size
            replace hQ := hQ.andAlloc (.cells #[] 3)
            refine hK.out _ _ ?_ (fun hHeld2 => ?_)
            · (try dsimp only); first | with_reducible exact ⟨hQ.cell c0' (fun f => f), hQ.cell c1' (fun f => f), hQ.cell c2' (fun f => f)⟩ | with_reducible exact three_cells2 (hQ.cell c0' (fun f => f)) (hQ.cell c1' (fun f => f)) (hQ.cell c2' (fun f => f)) | exact ⟨hQ.cell c0' (fun f => f), hQ.cell c1' (fun f => f), hQ.cell c2' (fun f => f)⟩
            clear hK K
            try simp only [Act.put, List.setIfInBounds_toArray, List.set_cons_zero, List.set_cons_succ]
            refine wpAnyH_ready (rs := [11]) (by kernel_rfl) (by simp) ?_
            refine AllReadyH.cons (o := { dst := some 14, op := Op.call { callee := Callee.builtin Builtin.append, args := #[Operand.tmp 11, Operand.tmp 13], argTypes := #[24, 24] }, type := 24, pos := "law.go:19", after := #[{ on := 8, ground := Ground.data }, { on := 10, ground := Ground.data }, { on := 7, ground := Ground.chain }], guard := none }) rfl (fun K hK => ?_) ?_
            · (obtain ⟨x2, y2, wV, hrV, hT2, hkA⟩ := hT.all2 hQ.size a2 n2 c2 pk 24 (HSB.out _ hQ).2.2 (by omega); refine step_append_run rfl (.tmp 11) (.tmp 13) 24 24 rfl (by simp [Act.eval]) (by simp [Act.eval]) hrV ?_)
              replace hQ := hQ.trans hkA (fun i e hi => by omega)
              replace hT := hT2
              clear hT2 hkA hrV
              have b6 := blk_kept HB.out.2.1 hQ (fun f => f); have r60 := (blk_cell b6 0).trans rfl; have r61 := (blk_cell b6 1).trans rfl; have r62 := (blk_cell b6 2).trans rfl; have f60 := blk_free b6 0; have f61 := blk_free b6 1; have f62 := blk_free b6 2
              refine hK.out _ _ ?_ (fun hHeld2 => ?_)
              · (try dsimp only); first | with_reducible exact ⟨hQ.cell c0' (fun f => f), hQ.cell c1' (fun f => f), hQ.cell c2' (fun f => f)⟩ | with_reducible exact three_cells2 (hQ.cell c0' (fun f => f)) (hQ.cell c1' (fun f => f)) (hQ.cell c2' (fun f => f)) | exact ⟨hQ.cell c0' (fun f => f), hQ.cell c1' (fun f => f), hQ.cell c2' (fun f => f)⟩
              clear hK K
              try simp only [Act.put, List.setIfInBounds_toArray, List.set_cons_zero, List.set_cons_succ]
              refine wpAnyH_take (i := 12) (oi := { dst := some 15, op := Op.build 26 #[(0, Operand.tmp 6), (1, Operand.tmp 10), (2, Operand.tmp 14)], type := 26, pos := "law.go:19", after := #[{ on := 3, ground := Ground.data }, { on := 7, ground := Ground.data }, { on := 11, ground := Ground.data }], guard := none }) (v := ?_) rfl (by kernel_rfl) (by kernel_rfl) (by kernel_rfl) (fun _ _ _ h => h) (Or.inl ⟨by rfl, ?_⟩) (by assumption) ?_
              rotate_left
              · (intro wz hSw; (try dsimp only at hSw); go_simp; try with_reducible rfl)
              simp only [Act.put, List.setIfInBounds_toArray, List.set_cons_zero, List.set_cons_succ]
              refine wpAnyH_ready (rs := [13]) (by kernel_rfl) (by simp) ?_
              refine AllReadyH.cons (o := _) rfl (fun K hK => ?_) ?_
              · go_simp
                refine hK.out _ _ ?_ (fun hHeld2 => ?_)
                · (try dsimp only); first | with_reducible exact ⟨hQ.cell c0' (fun f => f), hQ.cell c1' (fun f => f), hQ.cell c2' (fun f => f)⟩ | with_reducible exact three_cells2 (hQ.cell c0' (fun f => f)) (hQ.cell c1' (fun f => f)) (hQ.cell c2' (fun f => f)) | exact ⟨hQ.cell c0' (fun f => f), hQ.cell c1' (fun f => f), hQ.cell c2' (fun f => f)⟩
                clear hK K
                try simp only [Act.put, List.setIfInBounds_toArray, List.set_cons_zero, List.set_cons_succ]
                refine wpAnyH_done (by kernel_rfl) ?_ _
                go_wp2_with fail
                refine game_end 2 rfl rfl b6 rfl rfl _ _ _ (fun w' hk => ⟨_, _, _, rfl, ?_, ?_⟩)
                · exact (hT.kept hk (fun g h1 _ e => by have := HB.out.2.2.2.1; omega)).base (by have := HB.out.2.2.2; omega)
                · exact (HB.out.2.2.1.trans hQ (fun _ f _ => f)).trans hk (fun i e hi => by have := HB.out.2.2.2; omega)
              exact AllReadyH.nil
            exact AllReadyH.nil
          exact AllReadyH.nil
        refine AllReadyH.cons (o := { dst := some 11, op := Op.buildSlice 24 0 #[], type := 24, pos := "law.go:19", after := #[], guard := none }) rfl (fun K hK => ?_) ?_
        · go_simp
          replace hT := hT.new2 hQ.size
          replace hQ := hQ.andAlloc (.cells #[] 3)
          refine hK.out _ _ ?_ (fun hHeld2 => ?_)
          · (try dsimp only); first | with_reducible exact ⟨hQ.cell c0' (fun f => f), hQ.cell c1' (fun f => f), hQ.cell c2' (fun f => f)⟩ | with_reducible exact three_cells2 (hQ.cell c0' (fun f => f)) (hQ.cell c1' (fun f => f)) (hQ.cell c2' (fun f => f)) | exact ⟨hQ.cell c0' (fun f => f), hQ.cell c1' (fun f => f), hQ.cell c2' (fun f => f)⟩
          clear hK K
          try simp only [Act.put, List.setIfInBounds_toArray, List.set_cons_zero, List.set_cons_succ]
          refine wpAnyH_ready (rs := [7]) (by kernel_rfl) (by simp) ?_
          refine AllReadyH.cons (o := { dst := some 10, op := Op.call { callee := Callee.builtin Builtin.append, args := #[Operand.tmp 7, Operand.tmp 9], argTypes := #[23, 23] }, type := 23, pos := "law.go:19", after := #[{ on := 4, ground := Ground.data }, { on := 6, ground := Ground.data }, { on := 3, ground := Ground.chain }], guard := none }) rfl (fun K hK => ?_) ?_
          · (obtain ⟨x1, y1, wU, hrU, hT2, hkA⟩ := hT.all1 hQ.size a1 n1 c1 st 23 (HSB.out _ hQ).2.1 (by omega); refine step_append_run rfl (.tmp 7) (.tmp 9) 23 23 rfl (by simp [Act.eval]) (by simp [Act.eval]) hrU ?_)
            replace hQ := hQ.trans hkA (fun i e hi => by omega)
            replace hT := hT2
            clear hT2 hkA hrU
            have b6 := blk_kept HB.out.2.1 hQ (fun f => f); have r60 := (blk_cell b6 0).trans rfl; have r61 := (blk_cell b6 1).trans rfl; have r62 := (blk_cell b6 2).trans rfl; have f60 := blk_free b6 0; have f61 := blk_free b6 1; have f62 := blk_free b6 2
            refine hK.out _ _ ?_ (fun hHeld2 => ?_)
            · (try dsimp only); first | with_reducible exact ⟨hQ.cell c0' (fun f => f), hQ.cell c1' (fun f => f), hQ.cell c2' (fun f => f)⟩ | with_reducible exact three_cells2 (hQ.cell c0' (fun f => f)) (hQ.cell c1' (fun f => f)) (hQ.cell c2' (fun f => f)) | exact ⟨hQ.cell c0' (fun f => f), hQ.cell c1' (fun f => f), hQ.cell c2' (fun f => f)⟩
            clear hK K
            try simp only [Act.put, List.setIfInBounds_toArray, List.set_cons_zero, List.set_cons_succ]
            refine wpAnyH_ready (rs := [11]) (by kernel_rfl) (by simp) ?_
            refine AllReadyH.cons (o := { dst := some 14, op := Op.call { callee := Callee.builtin Builtin.append, args := #[Operand.tmp 11, Operand.tmp 13], argTypes := #[24, 24] }, type := 24, pos := "law.go:19", after := #[{ on := 8, ground := Ground.data }, { on := 10, ground := Ground.data }, { on := 7, ground := Ground.chain }], guard := none }) rfl (fun K hK => ?_) ?_
            · (obtain ⟨x2, y2, wV, hrV, hT2, hkA⟩ := hT.all2 hQ.size a2 n2 c2 pk 24 (HSB.out _ hQ).2.2 (by omega); refine step_append_run rfl (.tmp 11) (.tmp 13) 24 24 rfl (by simp [Act.eval]) (by simp [Act.eval]) hrV ?_)
              replace hQ := hQ.trans hkA (fun i e hi => by omega)
              replace hT := hT2
              clear hT2 hkA hrV
              have b6 := blk_kept HB.out.2.1 hQ (fun f => f); have r60 := (blk_cell b6 0).trans rfl; have r61 := (blk_cell b6 1).trans rfl; have r62 := (blk_cell b6 2).trans rfl; have f60 := blk_free b6 0; have f61 := blk_free b6 1; have f62 := blk_free b6 2
              refine hK.out _ _ ?_ (fun hHeld2 => ?_)
              · (try dsimp only); first | with_reducible exact ⟨hQ.cell c0' (fun f => f), hQ.cell c1' (fun f => f), hQ.cell c2' (fun f => f)⟩ | with_reducible exact three_cells2 (hQ.cell c0' (fun f => f)) (hQ.cell c1' (fun f => f)) (hQ.cell c2' (fun f => f)) | exact ⟨hQ.cell c0' (fun f => f), hQ.cell c1' (fun f => f), hQ.cell c2' (fun f => f)⟩
              clear hK K
              try simp only [Act.put, List.setIfInBounds_toArray, List.set_cons_zero, List.set_cons_succ]
              refine wpAnyH_take (i := 12) (oi := { dst := some 15, op := Op.build 26 #[(0, Operand.tmp 6), (1, Operand.tmp 10), (2, Operand.tmp 14)], type := 26, pos := "law.go:19", after := #[{ on := 3, ground := Ground.data }, { on := 7, ground := Ground.data }, { on := 11, ground := Ground.data }], guard := none }) (v := ?_) rfl (by kernel_rfl) (by kernel_rfl) (by kernel_rfl) (fun _ _ _ h => h) (Or.inl ⟨by rfl, ?_⟩) (by assumption) ?_
              rotate_left
              · (intro wz hSw; (try dsimp only at hSw); go_simp; try with_reducible rfl)
              simp only [Act.put, List.setIfInBounds_toArray, List.set_cons_zero, List.set_cons_succ]
              refine wpAnyH_ready (rs := [13]) (by kernel_rfl) (by simp) ?_
              refine AllReadyH.cons (o := _) rfl (fun K hK => ?_) ?_
              · go_simp
                refine hK.out _ _ ?_ (fun hHeld2 => ?_)
                · (try dsimp only); first | with_reducible exact ⟨hQ.cell c0' (fun f => f), hQ.cell c1' (fun f => f), hQ.cell c2' (fun f => f)⟩ | with_reducible exact three_cells2 (hQ.cell c0' (fun f => f)) (hQ.cell c1' (fun f => f)) (hQ.cell c2' (fun f => f)) | exact ⟨hQ.cell c0' (fun f => f), hQ.cell c1' (fun f => f), hQ.cell c2' (fun f => f)⟩
                clear hK K
                try simp only [Act.put, List.setIfInBounds_toArray, List.set_cons_zero, List.set_cons_succ]
                refine wpAnyH_done (by kernel_rfl) ?_ _
                go_wp2_with fail
                refine game_end 2 rfl rfl b6 rfl rfl _ _ _ (fun w' hk => ⟨_, _, _, rfl, ?_, ?_⟩)
                · exact (hT.kept hk (fun g h1 _ e => by have := HB.out.2.2.2.1; omega)).base (by have := HB.out.2.2.2; omega)
                · exact (HB.out.2.2.1.trans hQ (fun _ f _ => f)).trans hk (fun i e hi => by have := HB.out.2.2.2; omega)
              exact AllReadyH.nil
            exact AllReadyH.nil
          exact AllReadyH.nil
        exact AllReadyH.nil
      refine AllReadyH.cons (o := { dst := some 11, op := Op.buildSlice 24 0 #[], type := 24, pos := "law.go:19", after := #[], guard := none }) rfl (fun K hK => ?_) ?_
      · go_simp
        replace hT := hT.new2 hQ.size
        replace hQ := hQ.andAlloc (.cells #[] 3)
        refine hK.out _ _ ?_ (fun hHeld2 => ?_)
        · (try dsimp only); first | with_reducible exact ⟨hQ.cell c0' (fun f => f), hQ.cell c1' (fun f => f), hQ.cell c2' (fun f => f)⟩ | with_reducible exact three_cells2 (hQ.cell c0' (fun f => f)) (hQ.cell c1' (fun f => f)) (hQ.cell c2' (fun f => f)) | exact ⟨hQ.cell c0' (fun f => f), hQ.cell c1' (fun f => f), hQ.cell c2' (fun f => f)⟩
        clear hK K
        try simp only [Act.put, List.setIfInBounds_toArray, List.set_cons_zero, List.set_cons_succ]
        refine wpAnyH_ready (rs := [3]) (by kernel_rfl) (by simp) ?_
        refine AllReadyH.cons (o := { dst := some 6, op := Op.call { callee := Callee.builtin Builtin.append, args := #[Operand.tmp 3, Operand.tmp 5], argTypes := #[22, 22] }, type := 22, pos := "law.go:19", after := #[{ on := 0, ground := Ground.data }, { on := 2, ground := Ground.data }], guard := none }) rfl (fun K hK => ?_) ?_
        · (obtain ⟨x0, y0, wA, hrA, hT2, hkA⟩ := hT.all0 hQ.size a0 n0 c0 l 22 (HSB.out _ hQ).1 (by omega); refine step_append_run rfl (.tmp 3) (.tmp 5) 22 22 rfl (by simp [Act.eval]) (by simp [Act.eval]) hrA ?_)
          replace hQ := hQ.trans hkA (fun i e hi => by omega)
          replace hT := hT2
          clear hT2 hkA hrA
          have b6 := blk_kept HB.out.2.1 hQ (fun f => f); have r60 := (blk_cell b6 0).trans rfl; have r61 := (blk_cell b6 1).trans rfl; have r62 := (blk_cell b6 2).trans rfl; have f60 := blk_free b6 0; have f61 := blk_free b6 1; have f62 := blk_free b6 2
          refine hK.out _ _ ?_ (fun hHeld2 => ?_)
          · (try dsimp only); first | with_reducible exact ⟨hQ.cell c0' (fun f => f), hQ.cell c1' (fun f => f), hQ.cell c2' (fun f => f)⟩ | with_reducible exact three_cells2 (hQ.cell c0' (fun f => f)) (hQ.cell c1' (fun f => f)) (hQ.cell c2' (fun f => f)) | exact ⟨hQ.cell c0' (fun f => f), hQ.cell c1' (fun f => f), hQ.cell c2' (fun f => f)⟩
          clear hK K
          try simp only [Act.put, List.setIfInBounds_toArray, List.set_cons_zero, List.set_cons_succ]
          refine wpAnyH_ready (rs := [7]) (by kernel_rfl) (by simp) ?_
          refine AllReadyH.cons (o := { dst := some 10, op := Op.call { callee := Callee.builtin Builtin.append, args := #[Operand.tmp 7, Operand.tmp 9], argTypes := #[23, 23] }, type := 23, pos := "law.go:19", after := #[{ on := 4, ground := Ground.data }, { on := 6, ground := Ground.data }, { on := 3, ground := Ground.chain }], guard := none }) rfl (fun K hK => ?_) ?_
          · (obtain ⟨x1, y1, wU, hrU, hT2, hkA⟩ := hT.all1 hQ.size a1 n1 c1 st 23 (HSB.out _ hQ).2.1 (by omega); refine step_append_run rfl (.tmp 7) (.tmp 9) 23 23 rfl (by simp [Act.eval]) (by simp [Act.eval]) hrU ?_)
            replace hQ := hQ.trans hkA (fun i e hi => by omega)
            replace hT := hT2
            clear hT2 hkA hrU
            have b6 := blk_kept HB.out.2.1 hQ (fun f => f); have r60 := (blk_cell b6 0).trans rfl; have r61 := (blk_cell b6 1).trans rfl; have r62 := (blk_cell b6 2).trans rfl; have f60 := blk_free b6 0; have f61 := blk_free b6 1; have f62 := blk_free b6 2
            refine hK.out _ _ ?_ (fun hHeld2 => ?_)
            · (try dsimp only); first | with_reducible exact ⟨hQ.cell c0' (fun f => f), hQ.cell c1' (fun f => f), hQ.cell c2' (fun f => f)⟩ | with_reducible exact three_cells2 (hQ.cell c0' (fun f => f)) (hQ.cell c1' (fun f => f)) (hQ.cell c2' (fun f => f)) | exact ⟨hQ.cell c0' (fun f => f), hQ.cell c1' (fun f => f), hQ.cell c2' (fun f => f)⟩
            clear hK K
            try simp only [Act.put, List.setIfInBounds_toArray, List.set_cons_zero, List.set_cons_succ]
            refine wpAnyH_ready (rs := [11]) (by kernel_rfl) (by simp) ?_
            refine AllReadyH.cons (o := { dst := some 14, op := Op.call { callee := Callee.builtin Builtin.append, args := #[Operand.tmp 11, Operand.tmp 13], argTypes := #[24, 24] }, type := 24, pos := "law.go:19", after := #[{ on := 8, ground := Ground.data }, { on := 10, ground := Ground.data }, { on := 7, ground := Ground.chain }], guard := none }) rfl (fun K hK => ?_) ?_
            · (obtain ⟨x2, y2, wV, hrV, hT2, hkA⟩ := hT.all2 hQ.size a2 n2 c2 pk 24 (HSB.out _ hQ).2.2 (by omega); refine step_append_run rfl (.tmp 11) (.tmp 13) 24 24 rfl (by simp [Act.eval]) (by simp [Act.eval]) hrV ?_)
              replace hQ := hQ.trans hkA (fun i e hi => by omega)
              replace hT := hT2
              clear hT2 hkA hrV
              have b6 := blk_kept HB.out.2.1 hQ (fun f => f); have r60 := (blk_cell b6 0).trans rfl; have r61 := (blk_cell b6 1).trans rfl; have r62 := (blk_cell b6 2).trans rfl; have f60 := blk_free b6 0; have f61 := blk_free b6 1; have f62 := blk_free b6 2
              refine hK.out _ _ ?_ (fun hHeld2 => ?_)
              · (try dsimp only); first | with_reducible exact ⟨hQ.cell c0' (fun f => f), hQ.cell c1' (fun f => f), hQ.cell c2' (fun f => f)⟩ | with_reducible exact three_cells2 (hQ.cell c0' (fun f => f)) (hQ.cell c1' (fun f => f)) (hQ.cell c2' (fun f => f)) | exact ⟨hQ.cell c0' (fun f => f), hQ.cell c1' (fun f => f), hQ.cell c2' (fun f => f)⟩
              clear hK K
              try simp only [Act.put, List.setIfInBounds_toArray, List.set_cons_zero, List.set_cons_succ]
              refine wpAnyH_take (i := 12) (oi := { dst := some 15, op := Op.build 26 #[(0, Operand.tmp 6), (1, Operand.tmp 10), (2, Operand.tmp 14)], type := 26, pos := "law.go:19", after := #[{ on := 3, ground := Ground.data }, { on := 7, ground := Ground.data }, { on := 11, ground := Ground.data }], guard := none }) (v := ?_) rfl (by kernel_rfl) (by kernel_rfl) (by kernel_rfl) (fun _ _ _ h => h) (Or.inl ⟨by rfl, ?_⟩) (by assumption) ?_
              rotate_left
              · (intro wz hSw; (try dsimp only at hSw); go_simp; try with_reducible rfl)
              simp only [Act.put, List.setIfInBounds_toArray, List.set_cons_zero, List.set_cons_succ]
              refine wpAnyH_ready (rs := [13]) (by kernel_rfl) (by simp) ?_
              refine AllReadyH.cons (o := _) rfl (fun K hK => ?_) ?_
              · go_simp
                refine hK.out _ _ ?_ (fun hHeld2 => ?_)
                · (try dsimp only); first | with_reducible exact ⟨hQ.cell c0' (fun f => f), hQ.cell c1' (fun f => f), hQ.cell c2' (fun f => f)⟩ | with_reducible exact three_cells2 (hQ.cell c0' (fun f => f)) (hQ.cell c1' (fun f => f)) (hQ.cell c2' (fun f => f)) | exact ⟨hQ.cell c0' (fun f => f), hQ.cell c1' (fun f => f), hQ.cell c2' (fun f => f)⟩
                clear hK K
                try simp only [Act.put, List.setIfInBounds_toArray, List.set_cons_zero, List.set_cons_succ]
                refine wpAnyH_done (by kernel_rfl) ?_ _
                go_wp2_with fail
                refine game_end 2 rfl rfl b6 rfl rfl _ _ _ (fun w' hk => ⟨_, _, _, rfl, ?_, ?_⟩)
                · exact (hT.kept hk (fun g h1 _ e => by have := HB.out.2.2.2.1; omega)).base (by have := HB.out.2.2.2; omega)
                · exact (HB.out.2.2.1.trans hQ (fun _ f _ => f)).trans hk (fun i e hi => by have := HB.out.2.2.2; omega)
              exact AllReadyH.nil
            exact AllReadyH.nil
          exact AllReadyH.nil
        exact AllReadyH.nil
      exact AllReadyH.nil
    refine AllReadyH.cons (o := { dst := some 11, op := Op.buildSlice 24 0 #[], type := 24, pos := "law.go:19", after := #[], guard := none }) rfl (fun K hK => ?_) ?_
    · go_simp
      replace hT := hT.new2 hQ.size
      replace hQ := hQ.andAlloc (.cells #[] 3)
      refine hK.out _ _ ?_ (fun hHeld2 => ?_)
      · (try dsimp only); first | with_reducible exact ⟨hQ.cell c0' (fun f => f), hQ.cell c1' (fun f => f), hQ.cell c2' (fun f => f)⟩ | with_reducible exact three_cells2 (hQ.cell c0' (fun f => f)) (hQ.cell c1' (fun f => f)) (hQ.cell c2' (fun f => f)) | exact ⟨hQ.cell c0' (fun f => f), hQ.cell c1' (fun f => f), hQ.cell c2' (fun f => f)⟩
      clear hK K
      try simp only [Act.put, List.setIfInBounds_toArray, List.set_cons_zero, List.set_cons_succ]
      refine wpAnyH_ready (rs := [3, 4]) (by kernel_rfl) (by simp) ?_
      refine AllReadyH.cons (o := { dst := some 6, op := Op.call { callee := Callee.builtin Builtin.append, args := #[Operand.tmp 3, Operand.tmp 5], argTypes := #[22, 22] }, type := 22, pos := "law.go:19", after := #[{ on := 0, ground := Ground.data }, { on := 2, ground := Ground.data }], guard := none }) rfl (fun K hK => ?_) ?_
      · (obtain ⟨x0, y0, wA, hrA, hT2, hkA⟩ := hT.all0 hQ.size a0 n0 c0 l 22 (HSB.out _ hQ).1 (by omega); refine step_append_run rfl (.tmp 3) (.tmp 5) 22 22 rfl (by simp [Act.eval]) (by simp [Act.eval]) hrA ?_)
        replace hQ := hQ.trans hkA (fun i e hi => by omega)
        replace hT := hT2
        clear hT2 hkA hrA
        have b6 := blk_kept HB.out.2.1 hQ (fun f => f); have r60 := (blk_cell b6 0).trans rfl; have r61 := (blk_cell b6 1).trans rfl; have r62 := (blk_cell b6 2).trans rfl; have f60 := blk_free b6 0; have f61 := blk_free b6 1; have f62 := blk_free b6 2
        refine hK.out _ _ ?_ (fun hHeld2 => ?_)
        · (try dsimp only); first | with_reducible exact ⟨hQ.cell c0' (fun f => f), hQ.cell c1' (fun f => f), hQ.cell c2' (fun f => f)⟩ | with_reducible exact three_cells2 (hQ.cell c0' (fun f => f)) (hQ.cell c1' (fun f => f)) (hQ.cell c2' (fun f => f)) | exact ⟨hQ.cell c0' (fun f => f), hQ.cell c1' (fun f => f), hQ.cell c2' (fun f => f)⟩
        clear hK K
        try simp only [Act.put, List.setIfInBounds_toArray, List.set_cons_zero, List.set_cons_succ]
        refine wpAnyH_ready (rs := [4]) (by kernel_rfl) (by simp) ?_
        refine AllReadyH.cons (o := { dst := some 7, op := Op.buildSlice 23 0 #[], type := 23, pos := "law.go:19", after := #[], guard := none }) rfl (fun K hK => ?_) ?_
        · go_simp
          replace hT := hT.new1 hQ.size
          replace hQ := hQ.andAlloc (.cells #[] 4)
          refine hK.out _ _ ?_ (fun hHeld2 => ?_)
          · (try dsimp only); first | with_reducible exact ⟨hQ.cell c0' (fun f => f), hQ.cell c1' (fun f => f), hQ.cell c2' (fun f => f)⟩ | with_reducible exact three_cells2 (hQ.cell c0' (fun f => f)) (hQ.cell c1' (fun f => f)) (hQ.cell c2' (fun f => f)) | exact ⟨hQ.cell c0' (fun f => f), hQ.cell c1' (fun f => f), hQ.cell c2' (fun f => f)⟩
          clear hK K
          try simp only [Act.put, List.setIfInBounds_toArray, List.set_cons_zero, List.set_cons_succ]
          refine wpAnyH_ready (rs := [7]) (by kernel_rfl) (by simp) ?_
          refine AllReadyH.cons (o := { dst := some 10, op := Op.call { callee := Callee.builtin Builtin.append, args := #[Operand.tmp 7, Operand.tmp 9], argTypes := #[23, 23] }, type := 23, pos := "law.go:19", after := #[{ on := 4, ground := Ground.data }, { on := 6, ground := Ground.data }, { on := 3, ground := Ground.chain }], guard := none }) rfl (fun K hK => ?_) ?_
          · (obtain ⟨x1, y1, wU, hrU, hT2, hkA⟩ := hT.all1 hQ.size a1 n1 c1 st 23 (HSB.out _ hQ).2.1 (by omega); refine step_append_run rfl (.tmp 7) (.tmp 9) 23 23 rfl (by simp [Act.eval]) (by simp [Act.eval]) hrU ?_)
            replace hQ := hQ.trans hkA (fun i e hi => by omega)
            replace hT := hT2
            clear hT2 hkA hrU
            have b6 := blk_kept HB.out.2.1 hQ (fun f => f); have r60 := (blk_cell b6 0).trans rfl; have r61 := (blk_cell b6 1).trans rfl; have r62 := (blk_cell b6 2).trans rfl; have f60 := blk_free b6 0; have f61 := blk_free b6 1; have f62 := blk_free b6 2
            refine hK.out _ _ ?_ (fun hHeld2 => ?_)
            · (try dsimp only); first | with_reducible exact ⟨hQ.cell c0' (fun f => f), hQ.cell c1' (fun f => f), hQ.cell c2' (fun f => f)⟩ | with_reducible exact three_cells2 (hQ.cell c0' (fun f => f)) (hQ.cell c1' (fun f => f)) (hQ.cell c2' (fun f => f)) | exact ⟨hQ.cell c0' (fun f => f), hQ.cell c1' (fun f => f), hQ.cell c2' (fun f => f)⟩
            clear hK K
            try simp only [Act.put, List.setIfInBounds_toArray, List.set_cons_zero, List.set_cons_succ]
            refine wpAnyH_ready (rs := [11]) (by kernel_rfl) (by simp) ?_
            refine AllReadyH.cons (o := { dst := some 14, op := Op.call { callee := Callee.builtin Builtin.append, args := #[Operand.tmp 11, Operand.tmp 13], argTypes := #[24, 24] }, type := 24, pos := "law.go:19", after := #[{ on := 8, ground := Ground.data }, { on := 10, ground := Ground.data }, { on := 7, ground := Ground.chain }], guard := none }) rfl (fun K hK => ?_) ?_
            · (obtain ⟨x2, y2, wV, hrV, hT2, hkA⟩ := hT.all2 hQ.size a2 n2 c2 pk 24 (HSB.out _ hQ).2.2 (by omega); refine step_append_run rfl (.tmp 11) (.tmp 13) 24 24 rfl (by simp [Act.eval]) (by simp [Act.eval]) hrV ?_)
              replace hQ := hQ.trans hkA (fun i e hi => by omega)
              replace hT := hT2
              clear hT2 hkA hrV
              have b6 := blk_kept HB.out.2.1 hQ (fun f => f); have r60 := (blk_cell b6 0).trans rfl; have r61 := (blk_cell b6 1).trans rfl; have r62 := (blk_cell b6 2).trans rfl; have f60 := blk_free b6 0; have f61 := blk_free b6 1; have f62 := blk_free b6 2
              refine hK.out _ _ ?_ (fun hHeld2 => ?_)
              · (try dsimp only); first | with_reducible exact ⟨hQ.cell c0' (fun f => f), hQ.cell c1' (fun f => f), hQ.cell c2' (fun f => f)⟩ | with_reducible exact three_cells2 (hQ.cell c0' (fun f => f)) (hQ.cell c1' (fun f => f)) (hQ.cell c2' (fun f => f)) | exact ⟨hQ.cell c0' (fun f => f), hQ.cell c1' (fun f => f), hQ.cell c2' (fun f => f)⟩
              clear hK K
              try simp only [Act.put, List.setIfInBounds_toArray, List.set_cons_zero, List.set_cons_succ]
              refine wpAnyH_take (i := 12) (oi := { dst := some 15, op := Op.build 26 #[(0, Operand.tmp 6), (1, Operand.tmp 10), (2, Operand.tmp 14)], type := 26, pos := "law.go:19", after := #[{ on := 3, ground := Ground.data }, { on := 7, ground := Ground.data }, { on := 11, ground := Ground.data }], guard := none }) (v := ?_) rfl (by kernel_rfl) (by kernel_rfl) (by kernel_rfl) (fun _ _ _ h => h) (Or.inl ⟨by rfl, ?_⟩) (by assumption) ?_
              rotate_left
              · (intro wz hSw; (try dsimp only at hSw); go_simp; try with_reducible rfl)
              simp only [Act.put, List.setIfInBounds_toArray, List.set_cons_zero, List.set_cons_succ]
              refine wpAnyH_ready (rs := [13]) (by kernel_rfl) (by simp) ?_
              refine AllReadyH.cons (o := _) rfl (fun K hK => ?_) ?_
              · go_simp
                refine hK.out _ _ ?_ (fun hHeld2 => ?_)
                · (try dsimp only); first | with_reducible exact ⟨hQ.cell c0' (fun f => f), hQ.cell c1' (fun f => f), hQ.cell c2' (fun f => f)⟩ | with_reducible exact three_cells2 (hQ.cell c0' (fun f => f)) (hQ.cell c1' (fun f => f)) (hQ.cell c2' (fun f => f)) | exact ⟨hQ.cell c0' (fun f => f), hQ.cell c1' (fun f => f), hQ.cell c2' (fun f => f)⟩
                clear hK K
                try simp only [Act.put, List.setIfInBounds_toArray, List.set_cons_zero, List.set_cons_succ]
                refine wpAnyH_done (by kernel_rfl) ?_ _
                go_wp2_with fail
                refine game_end 2 rfl rfl b6 rfl rfl _ _ _ (fun w' hk => ⟨_, _, _, rfl, ?_, ?_⟩)
                · exact (hT.kept hk (fun g h1 _ e => by have := HB.out.2.2.2.1; omega)).base (by have := HB.out.2.2.2; omega)
                · exact (HB.out.2.2.1.trans hQ (fun _ f _ => f)).trans hk (fun i e hi => by have := HB.out.2.2.2; omega)
              exact AllReadyH.nil
            exact AllReadyH.nil
          exact AllReadyH.nil
        exact AllReadyH.nil
      refine AllReadyH.cons (o := { dst := some 7, op := Op.buildSlice 23 0 #[], type := 23, pos := "law.go:19", after := #[], guard := none }) rfl (fun K hK => ?_) ?_
      · go_simp
        replace hT := hT.new1 hQ.size
        replace hQ := hQ.andAlloc (.cells #[] 4)
        refine hK.out _ _ ?_ (fun hHeld2 => ?_)
        · (try dsimp only); first | with_reducible exact ⟨hQ.cell c0' (fun f => f), hQ.cell c1' (fun f => f), hQ.cell c2' (fun f => f)⟩ | with_reducible exact three_cells2 (hQ.cell c0' (fun f => f)) (hQ.cell c1' (fun f => f)) (hQ.cell c2' (fun f => f)) | exact ⟨hQ.cell c0' (fun f => f), hQ.cell c1' (fun f => f), hQ.cell c2' (fun f => f)⟩
        clear hK K
        try simp only [Act.put, List.setIfInBounds_toArray, List.set_cons_zero, List.set_cons_succ]
        refine wpAnyH_ready (rs := [3]) (by kernel_rfl) (by simp) ?_
        refine AllReadyH.cons (o := { dst := some 6, op := Op.call { callee := Callee.builtin Builtin.append, args := #[Operand.tmp 3, Operand.tmp 5], argTypes := #[22, 22] }, type := 22, pos := "law.go:19", after := #[{ on := 0, ground := Ground.data }, { on := 2, ground := Ground.data }], guard := none }) rfl (fun K hK => ?_) ?_
        · (obtain ⟨x0, y0, wA, hrA, hT2, hkA⟩ := hT.all0 hQ.size a0 n0 c0 l 22 (HSB.out _ hQ).1 (by omega); refine step_append_run rfl (.tmp 3) (.tmp 5) 22 22 rfl (by simp [Act.eval]) (by simp [Act.eval]) hrA ?_)
          replace hQ := hQ.trans hkA (fun i e hi => by omega)
          replace hT := hT2
          clear hT2 hkA hrA
          have b6 := blk_kept HB.out.2.1 hQ (fun f => f); have r60 := (blk_cell b6 0).trans rfl; have r61 := (blk_cell b6 1).trans rfl; have r62 := (blk_cell b6 2).trans rfl; have f60 := blk_free b6 0; have f61 := blk_free b6 1; have f62 := blk_free b6 2
          refine hK.out _ _ ?_ (fun hHeld2 => ?_)
          · (try dsimp only); first | with_reducible exact ⟨hQ.cell c0' (fun f => f), hQ.cell c1' (fun f => f), hQ.cell c2' (fun f => f)⟩ | with_reducible exact three_cells2 (hQ.cell c0' (fun f => f)) (hQ.cell c1' (fun f => f)) (hQ.cell c2' (fun f => f)) | exact ⟨hQ.cell c0' (fun f => f), hQ.cell c1' (fun f => f), hQ.cell c2' (fun f => f)⟩
          clear hK K
          try simp only [Act.put, List.setIfInBounds_toArray, List.set_cons_zero, List.set_cons_succ]
          refine wpAnyH_ready (rs := [7]) (by kernel_rfl) (by simp) ?_
          refine AllReadyH.cons (o := { dst := some 10, op := Op.call { callee := Callee.builtin Builtin.append, args := #[Operand.tmp 7, Operand.tmp 9], argTypes := #[23, 23] }, type := 23, pos := "law.go:19", after := #[{ on := 4, ground := Ground.data }, { on := 6, ground := Ground.data }, { on := 3, ground := Ground.chain }], guard := none }) rfl (fun K hK => ?_) ?_
          · (obtain ⟨x1, y1, wU, hrU, hT2, hkA⟩ := hT.all1 hQ.size a1 n1 c1 st 23 (HSB.out _ hQ).2.1 (by omega); refine step_append_run rfl (.tmp 7) (.tmp 9) 23 23 rfl (by simp [Act.eval]) (by simp [Act.eval]) hrU ?_)
            replace hQ := hQ.trans hkA (fun i e hi => by omega)
            replace hT := hT2
            clear hT2 hkA hrU
            have b6 := blk_kept HB.out.2.1 hQ (fun f => f); have r60 := (blk_cell b6 0).trans rfl; have r61 := (blk_cell b6 1).trans rfl; have r62 := (blk_cell b6 2).trans rfl; have f60 := blk_free b6 0; have f61 := blk_free b6 1; have f62 := blk_free b6 2
            refine hK.out _ _ ?_ (fun hHeld2 => ?_)
            · (try dsimp only); first | with_reducible exact ⟨hQ.cell c0' (fun f => f), hQ.cell c1' (fun f => f), hQ.cell c2' (fun f => f)⟩ | with_reducible exact three_cells2 (hQ.cell c0' (fun f => f)) (hQ.cell c1' (fun f => f)) (hQ.cell c2' (fun f => f)) | exact ⟨hQ.cell c0' (fun f => f), hQ.cell c1' (fun f => f), hQ.cell c2' (fun f => f)⟩
            clear hK K
            try simp only [Act.put, List.setIfInBounds_toArray, List.set_cons_zero, List.set_cons_succ]
            refine wpAnyH_ready (rs := [11]) (by kernel_rfl) (by simp) ?_
            refine AllReadyH.cons (o := { dst := some 14, op := Op.call { callee := Callee.builtin Builtin.append, args := #[Operand.tmp 11, Operand.tmp 13], argTypes := #[24, 24] }, type := 24, pos := "law.go:19", after := #[{ on := 8, ground := Ground.data }, { on := 10, ground := Ground.data }, { on := 7, ground := Ground.chain }], guard := none }) rfl (fun K hK => ?_) ?_
            · (obtain ⟨x2, y2, wV, hrV, hT2, hkA⟩ := hT.all2 hQ.size a2 n2 c2 pk 24 (HSB.out _ hQ).2.2 (by omega); refine step_append_run rfl (.tmp 11) (.tmp 13) 24 24 rfl (by simp [Act.eval]) (by simp [Act.eval]) hrV ?_)
              replace hQ := hQ.trans hkA (fun i e hi => by omega)
              replace hT := hT2
              clear hT2 hkA hrV
              have b6 := blk_kept HB.out.2.1 hQ (fun f => f); have r60 := (blk_cell b6 0).trans rfl; have r61 := (blk_cell b6 1).trans rfl; have r62 := (blk_cell b6 2).trans rfl; have f60 := blk_free b6 0; have f61 := blk_free b6 1; have f62 := blk_free b6 2
              refine hK.out _ _ ?_ (fun hHeld2 => ?_)
              · (try dsimp only); first | with_reducible exact ⟨hQ.cell c0' (fun f => f), hQ.cell c1' (fun f => f), hQ.cell c2' (fun f => f)⟩ | with_reducible exact three_cells2 (hQ.cell c0' (fun f => f)) (hQ.cell c1' (fun f => f)) (hQ.cell c2' (fun f => f)) | exact ⟨hQ.cell c0' (fun f => f), hQ.cell c1' (fun f => f), hQ.cell c2' (fun f => f)⟩
              clear hK K
              try simp only [Act.put, List.setIfInBounds_toArray, List.set_cons_zero, List.set_cons_succ]
              refine wpAnyH_take (i := 12) (oi := { dst := some 15, op := Op.build 26 #[(0, Operand.tmp 6), (1, Operand.tmp 10), (2, Operand.tmp 14)], type := 26, pos := "law.go:19", after := #[{ on := 3, ground := Ground.data }, { on := 7, ground := Ground.data }, { on := 11, ground := Ground.data }], guard := none }) (v := ?_) rfl (by kernel_rfl) (by kernel_rfl) (by kernel_rfl) (fun _ _ _ h => h) (Or.inl ⟨by rfl, ?_⟩) (by assumption) ?_
              rotate_left
              · (intro wz hSw; (try dsimp only at hSw); go_simp; try with_reducible rfl)
              simp only [Act.put, List.setIfInBounds_toArray, List.set_cons_zero, List.set_cons_succ]
              refine wpAnyH_ready (rs := [13]) (by kernel_rfl) (by simp) ?_
              refine AllReadyH.cons (o := _) rfl (fun K hK => ?_) ?_
              · go_simp
                refine hK.out _ _ ?_ (fun hHeld2 => ?_)
                · (try dsimp only); first | with_reducible exact ⟨hQ.cell c0' (fun f => f), hQ.cell c1' (fun f => f), hQ.cell c2' (fun f => f)⟩ | with_reducible exact three_cells2 (hQ.cell c0' (fun f => f)) (hQ.cell c1' (fun f => f)) (hQ.cell c2' (fun f => f)) | exact ⟨hQ.cell c0' (fun f => f), hQ.cell c1' (fun f => f), hQ.cell c2' (fun f => f)⟩
                clear hK K
                try simp only [Act.put, List.setIfInBounds_toArray, List.set_cons_zero, List.set_cons_succ]
                refine wpAnyH_done (by kernel_rfl) ?_ _
                go_wp2_with fail
                refine game_end 2 rfl rfl b6 rfl rfl _ _ _ (fun w' hk => ⟨_, _, _, rfl, ?_, ?_⟩)
                · exact (hT.kept hk (fun g h1 _ e => by have := HB.out.2.2.2.1; omega)).base (by have := HB.out.2.2.2; omega)
                · exact (HB.out.2.2.1.trans hQ (fun _ f _ => f)).trans hk (fun i e hi => by have := HB.out.2.2.2; omega)
              exact AllReadyH.nil
            exact AllReadyH.nil
          exact AllReadyH.nil
        exact AllReadyH.nil
      exact AllReadyH.nil
    exact AllReadyH.nil
  refine AllReadyH.cons (o := { dst := some 7, op := Op.buildSlice 23 0 #[], type := 23, pos := "law.go:19", after := #[], guard := none }) rfl (fun K hK => ?_) ?_
  · go_simp
    replace hT := hT.new1 hQ.size
    replace hQ := hQ.andAlloc (.cells #[] 4)
    refine hK.out _ _ ?_ (fun hHeld2 => ?_)
    · (try dsimp only); first | with_reducible exact ⟨hQ.cell c0' (fun f => f), hQ.cell c1' (fun f => f), hQ.cell c2' (fun f => f)⟩ | with_reducible exact three_cells2 (hQ.cell c0' (fun f => f)) (hQ.cell c1' (fun f => f)) (hQ.cell c2' (fun f => f)) | exact ⟨hQ.cell c0' (fun f => f), hQ.cell c1' (fun f => f), hQ.cell c2' (fun f => f)⟩
    clear hK K
    try simp only [Act.put, List.setIfInBounds_toArray, List.set_cons_zero, List.set_cons_succ]
    refine wpAnyH_ready (rs := [0, 8]) (by kernel_rfl) (by simp) ?_
    refine AllReadyH.cons (o := { dst := some 3, op := Op.buildSlice 22 0 #[], type := 22, pos := "law.go:19", after := #[], guard := none }) rfl (fun K hK => ?_) ?_
    · go_simp
      replace hT := hT.new0 hQ.size
      replace hQ := hQ.andAlloc (.cells #[] 44)
      refine hK.out _ _ ?_ (fun hHeld2 => ?_)
      · (try dsimp only); first | with_reducible exact ⟨hQ.cell c0' (fun f => f), hQ.cell c1' (fun f => f), hQ.cell c2' (fun f => f)⟩ | with_reducible exact three_cells2 (hQ.cell c0' (fun f => f)) (hQ.cell c1' (fun f => f)) (hQ.cell c2' (fun f => f)) | exact ⟨hQ.cell c0' (fun f => f), hQ.cell c1' (fun f => f), hQ.cell c2' (fun f => f)⟩
      clear hK K
      try simp only [Act.put, List.setIfInBounds_toArray, List.set_cons_zero, List.set_cons_succ]
      refine wpAnyH_ready (rs := [3, 8]) (by kernel_rfl) (by simp) ?_
      refine AllReadyH.cons (o := { dst := some 6, op := Op.call { callee := Callee.builtin Builtin.append, args := #[Operand.tmp 3, Operand.tmp 5], argTypes := #[22, 22] }, type := 22, pos := "law.go:19", after := #[{ on := 0, ground := Ground.data }, { on := 2, ground := Ground.data }], guard := none }) rfl (fun K hK => ?_) ?_
      · (obtain ⟨x0, y0, wA, hrA, hT2, hkA⟩ := hT.all0 hQ.size a0 n0 c0 l 22 (HSB.out _ hQ).1 (by omega); refine step_append_run rfl (.tmp 3) (.tmp 5) 22 22 rfl (by simp [Act.eval]) (by simp [Act.eval]) hrA ?_)
        replace hQ := hQ.trans hkA (fun i e hi => by omega)
        replace hT := hT2
        clear hT2 hkA hrA
        have b6 := blk_kept HB.out.2.1 hQ (fun f => f); have r60 := (blk_cell b6 0).trans rfl; have r61 := (blk_cell b6 1).trans rfl; have r62 := (blk_cell b6 2).trans rfl; have f60 := blk_free b6 0; have f61 := blk_free b6 1; have f62 := blk_free b6 2
        refine hK.out _ _ ?_ (fun hHeld2 => ?_)
        · (try dsimp only); first | with_reducible exact ⟨hQ.cell c0' (fun f => f), hQ.cell c1' (fun f => f), hQ.cell c2' (fun f => f)⟩ | with_reducible exact three_cells2 (hQ.cell c0' (fun f => f)) (hQ.cell c1' (fun f => f)) (hQ.cell c2' (fun f => f)) | exact ⟨hQ.cell c0' (fun f => f), hQ.cell c1' (fun f => f), hQ.cell c2' (fun f => f)⟩
        clear hK K
        try simp only [Act.put, List.setIfInBounds_toArray, List.set_cons_zero, List.set_cons_succ]
        refine wpAnyH_ready (rs := [7, 8]) (by kernel_rfl) (by simp) ?_
        refine AllReadyH.cons (o := { dst := some 10, op := Op.call { callee := Callee.builtin Builtin.append, args := #[Operand.tmp 7, Operand.tmp 9], argTypes := #[23, 23] }, type := 23, pos := "law.go:19", after := #[{ on := 4, ground := Ground.data }, { on := 6, ground := Ground.data }, { on := 3, ground := Ground.chain }], guard := none }) rfl (fun K hK => ?_) ?_
        · (obtain ⟨x1, y1, wU, hrU, hT2, hkA⟩ := hT.all1 hQ.size a1 n1 c1 st 23 (HSB.out _ hQ).2.1 (by omega); refine step_append_run rfl (.tmp 7) (.tmp 9) 23 23 rfl (by simp [Act.eval]) (by simp [Act.eval]) hrU ?_)
          replace hQ := hQ.trans hkA (fun i e hi => by omega)
          replace hT := hT2
          clear hT2 hkA hrU
          have b6 := blk_kept HB.out.2.1 hQ (fun f => f); have r60 := (blk_cell b6 0).trans rfl; have r61 := (blk_cell b6 1).trans rfl; have r62 := (blk_cell b6 2).trans rfl; have f60 := blk_free b6 0; have f61 := blk_free b6 1; have f62 := blk_free b6 2
          refine hK.out _ _ ?_ (fun hHeld2 => ?_)
          · (try dsimp only); first | with_reducible exact ⟨hQ.cell c0' (fun f => f), hQ.cell c1' (fun f => f), hQ.cell c2' (fun f => f)⟩ | with_reducible exact three_cells2 (hQ.cell c0' (fun f => f)) (hQ.cell c1' (fun f => f)) (hQ.cell c2' (fun f => f)) | exact ⟨hQ.cell c0' (fun f => f), hQ.cell c1' (fun f => f), hQ.cell c2' (fun f => f)⟩
          clear hK K
          try simp only [Act.put, List.setIfInBounds_toArray, List.set_cons_zero, List.set_cons_succ]
          refine wpAnyH_ready (rs := [8]) (by kernel_rfl) (by simp) ?_
          refine AllReadyH.cons (o := { dst := some 11, op := Op.buildSlice 24 0 #[], type := 24, pos := "law.go:19", after := #[], guard := none }) rfl (fun K hK => ?_) ?_
          · go_simp
            replace hT := hT.new2 hQ.size
            replace hQ := hQ.andAlloc (.cells #[] 3)
            refine hK.out _ _ ?_ (fun hHeld2 => ?_)
            · (try dsimp only); first | with_reducible exact ⟨hQ.cell c0' (fun f => f), hQ.cell c1' (fun f => f), hQ.cell c2' (fun f => f)⟩ | with_reducible exact three_cells2 (hQ.cell c0' (fun f => f)) (hQ.cell c1' (fun f => f)) (hQ.cell c2' (fun f => f)) | exact ⟨hQ.cell c0' (fun f => f), hQ.cell c1' (fun f => f), hQ.cell c2' (fun f => f)⟩
            clear hK K
            try simp only [Act.put, List.setIfInBounds_toArray, List.set_cons_zero, List.set_cons_succ]
            refine wpAnyH_ready (rs := [11]) (by kernel_rfl) (by simp) ?_
            refine AllReadyH.cons (o := { dst := some 14, op := Op.call { callee := Callee.builtin Builtin.append, args := #[Operand.tmp 11, Operand.tmp 13], argTypes := #[24, 24] }, type := 24, pos := "law.go:19", after := #[{ on := 8, ground := Ground.data }, { on := 10, ground := Ground.data }, { on := 7, ground := Ground.chain }], guard := none }) rfl (fun K hK => ?_) ?_
            · (obtain ⟨x2, y2, wV, hrV, hT2, hkA⟩ := hT.all2 hQ.size a2 n2 c2 pk 24 (HSB.out _ hQ).2.2 (by omega); refine step_append_run rfl (.tmp 11) (.tmp 13) 24 24 rfl (by simp [Act.eval]) (by simp [Act.eval]) hrV ?_)
              replace hQ := hQ.trans hkA (fun i e hi => by omega)
              replace hT := hT2
              clear hT2 hkA hrV
              have b6 := blk_kept HB.out.2.1 hQ (fun f => f); have r60 := (blk_cell b6 0).trans rfl; have r61 := (blk_cell b6 1).trans rfl; have r62 := (blk_cell b6 2).trans rfl; have f60 := blk_free b6 0; have f61 := blk_free b6 1; have f62 := blk_free b6 2
              refine hK.out _ _ ?_ (fun hHeld2 => ?_)
              · (try dsimp only); first | with_reducible exact ⟨hQ.cell c0' (fun f => f), hQ.cell c1' (fun f => f), hQ.cell c2' (fun f => f)⟩ | with_reducible exact three_cells2 (hQ.cell c0' (fun f => f)) (hQ.cell c1' (fun f => f)) (hQ.cell c2' (fun f => f)) | exact ⟨hQ.cell c0' (fun f => f), hQ.cell c1' (fun f => f), hQ.cell c2' (fun f => f)⟩
              clear hK K
              try simp only [Act.put, List.setIfInBounds_toArray, List.set_cons_zero, List.set_cons_succ]
              refine wpAnyH_take (i := 12) (oi := { dst := some 15, op := Op.build 26 #[(0, Operand.tmp 6), (1, Operand.tmp 10), (2, Operand.tmp 14)], type := 26, pos := "law.go:19", after := #[{ on := 3, ground := Ground.data }, { on := 7, ground := Ground.data }, { on := 11, ground := Ground.data }], guard := none }) (v := ?_) rfl (by kernel_rfl) (by kernel_rfl) (by kernel_rfl) (fun _ _ _ h => h) (Or.inl ⟨by rfl, ?_⟩) (by assumption) ?_
              rotate_left
              · (intro wz hSw; (try dsimp only at hSw); go_simp; try with_reducible rfl)
              simp only [Act.put, List.setIfInBounds_toArray, List.set_cons_zero, List.set_cons_succ]
              refine wpAnyH_ready (rs := [13]) (by kernel_rfl) (by simp) ?_
              refine AllReadyH.cons (o := _) rfl (fun K hK => ?_) ?_
              · go_simp
                refine hK.out _ _ ?_ (fun hHeld2 => ?_)
                · (try dsimp only); first | with_reducible exact ⟨hQ.cell c0' (fun f => f), hQ.cell c1' (fun f => f), hQ.cell c2' (fun f => f)⟩ | with_reducible exact three_cells2 (hQ.cell c0' (fun f => f)) (hQ.cell c1' (fun f => f)) (hQ.cell c2' (fun f => f)) | exact ⟨hQ.cell c0' (fun f => f), hQ.cell c1' (fun f => f), hQ.cell c2' (fun f => f)⟩
                clear hK K
                try simp only [Act.put, List.setIfInBounds_toArray, List.set_cons_zero, List.set_cons_succ]
                refine wpAnyH_done (by kernel_rfl) ?_ _
                go_wp2_with fail
                refine game_end 2 rfl rfl b6 rfl rfl _ _ _ (fun w' hk => ⟨_, _, _, rfl, ?_, ?_⟩)
                · exact (hT.kept hk (fun g h1 _ e => by have := HB.out.2.2.2.1; omega)).base (by have := HB.out.2.2.2; omega)
                · exact (HB.out.2.2.1.trans hQ (fun _ f _ => f)).trans hk (fun i e hi => by have := HB.out.2.2.2; omega)
              exact AllReadyH.nil
            exact AllReadyH.nil
          exact AllReadyH.nil
        refine AllReadyH.cons (o := { dst := some 11, op := Op.buildSlice 24 0 #[], type := 24, pos := "law.go:19", after := #[], guard := none }) rfl (fun K hK => ?_) ?_
        · go_simp
          replace hT := hT.new2 hQ.size
          replace hQ := hQ.andAlloc (.cells #[] 3)
          refine hK.out _ _ ?_ (fun hHeld2 => ?_)
          · (try dsimp only); first | with_reducible exact ⟨hQ.cell c0' (fun f => f), hQ.cell c1' (fun f => f), hQ.cell c2' (fun f => f)⟩ | with_reducible exact three_cells2 (hQ.cell c0' (fun f => f)) (hQ.cell c1' (fun f => f)) (hQ.cell c2' (fun f => f)) | exact ⟨hQ.cell c0' (fun f => f), hQ.cell c1' (fun f => f), hQ.cell c2' (fun f => f)⟩
          clear hK K
          try simp only [Act.put, List.setIfInBounds_toArray, List.set_cons_zero, List.set_cons_succ]
          refine wpAnyH_ready (rs := [7]) (by kernel_rfl) (by simp) ?_
          refine AllReadyH.cons (o := { dst := some 10, op := Op.call { callee := Callee.builtin Builtin.append, args := #[Operand.tmp 7, Operand.tmp 9], argTypes := #[23, 23] }, type := 23, pos := "law.go:19", after := #[{ on := 4, ground := Ground.data }, { on := 6, ground := Ground.data }, { on := 3, ground := Ground.chain }], guard := none }) rfl (fun K hK => ?_) ?_
          · (obtain ⟨x1, y1, wU, hrU, hT2, hkA⟩ := hT.all1 hQ.size a1 n1 c1 st 23 (HSB.out _ hQ).2.1 (by omega); refine step_append_run rfl (.tmp 7) (.tmp 9) 23 23 rfl (by simp [Act.eval]) (by simp [Act.eval]) hrU ?_)
            replace hQ := hQ.trans hkA (fun i e hi => by omega)
            replace hT := hT2
            clear hT2 hkA hrU
            have b6 := blk_kept HB.out.2.1 hQ (fun f => f); have r60 := (blk_cell b6 0).trans rfl; have r61 := (blk_cell b6 1).trans rfl; have r62 := (blk_cell b6 2).trans rfl; have f60 := blk_free b6 0; have f61 := blk_free b6 1; have f62 := blk_free b6 2
            refine hK.out _ _ ?_ (fun hHeld2 => ?_)
            · (try dsimp only); first | with_reducible exact ⟨hQ.cell c0' (fun f => f), hQ.cell c1' (fun f => f), hQ.cell c2' (fun f => f)⟩ | with_reducible exact three_cells2 (hQ.cell c0' (fun f => f)) (hQ.cell c1' (fun f => f)) (hQ.cell c2' (fun f => f)) | exact ⟨hQ.cell c0' (fun f => f), hQ.cell c1' (fun f => f), hQ.cell c2' (fun f => f)⟩
            clear hK K
            try simp only [Act.put, List.setIfInBounds_toArray, List.set_cons_zero, List.set_cons_succ]
            refine wpAnyH_ready (rs := [11]) (by kernel_rfl) (by simp) ?_
            refine AllReadyH.cons (o := { dst := some 14, op := Op.call { callee := Callee.builtin Builtin.append, args := #[Operand.tmp 11, Operand.tmp 13], argTypes := #[24, 24] }, type := 24, pos := "law.go:19", after := #[{ on := 8, ground := Ground.data }, { on := 10, ground := Ground.data }, { on := 7, ground := Ground.chain }], guard := none }) rfl (fun K hK => ?_) ?_
            · (obtain ⟨x2, y2, wV, hrV, hT2, hkA⟩ := hT.all2 hQ.size a2 n2 c2 pk 24 (HSB.out _ hQ).2.2 (by omega); refine step_append_run rfl (.tmp 11) (.tmp 13) 24 24 rfl (by simp [Act.eval]) (by simp [Act.eval]) hrV ?_)
              replace hQ := hQ.trans hkA (fun i e hi => by omega)
              replace hT := hT2
              clear hT2 hkA hrV
              have b6 := blk_kept HB.out.2.1 hQ (fun f => f); have r60 := (blk_cell b6 0).trans rfl; have r61 := (blk_cell b6 1).trans rfl; have r62 := (blk_cell b6 2).trans rfl; have f60 := blk_free b6 0; have f61 := blk_free b6 1; have f62 := blk_free b6 2
              refine hK.out _ _ ?_ (fun hHeld2 => ?_)
              · (try dsimp only); first | with_reducible exact ⟨hQ.cell c0' (fun f => f), hQ.cell c1' (fun f => f), hQ.cell c2' (fun f => f)⟩ | with_reducible exact three_cells2 (hQ.cell c0' (fun f => f)) (hQ.cell c1' (fun f => f)) (hQ.cell c2' (fun f => f)) | exact ⟨hQ.cell c0' (fun f => f), hQ.cell c1' (fun f => f), hQ.cell c2' (fun f => f)⟩
              clear hK K
              try simp only [Act.put, List.setIfInBounds_toArray, List.set_cons_zero, List.set_cons_succ]
              refine wpAnyH_take (i := 12) (oi := { dst := some 15, op := Op.build 26 #[(0, Operand.tmp 6), (1, Operand.tmp 10), (2, Operand.tmp 14)], type := 26, pos := "law.go:19", after := #[{ on := 3, ground := Ground.data }, { on := 7, ground := Ground.data }, { on := 11, ground := Ground.data }], guard := none }) (v := ?_) rfl (by kernel_rfl) (by kernel_rfl) (by kernel_rfl) (fun _ _ _ h => h) (Or.inl ⟨by rfl, ?_⟩) (by assumption) ?_
              rotate_left
              · (intro wz hSw; (try dsimp only at hSw); go_simp; try with_reducible rfl)
              simp only [Act.put, List.setIfInBounds_toArray, List.set_cons_zero, List.set_cons_succ]
              refine wpAnyH_ready (rs := [13]) (by kernel_rfl) (by simp) ?_
              refine AllReadyH.cons (o := _) rfl (fun K hK => ?_) ?_
              · go_simp
                refine hK.out _ _ ?_ (fun hHeld2 => ?_)
                · (try dsimp only); first | with_reducible exact ⟨hQ.cell c0' (fun f => f), hQ.cell c1' (fun f => f), hQ.cell c2' (fun f => f)⟩ | with_reducible exact three_cells2 (hQ.cell c0' (fun f => f)) (hQ.cell c1' (fun f => f)) (hQ.cell c2' (fun f => f)) | exact ⟨hQ.cell c0' (fun f => f), hQ.cell c1' (fun f => f), hQ.cell c2' (fun f => f)⟩
                clear hK K
                try simp only [Act.put, List.setIfInBounds_toArray, List.set_cons_zero, List.set_cons_succ]
                refine wpAnyH_done (by kernel_rfl) ?_ _
                go_wp2_with fail
                refine game_end 2 rfl rfl b6 rfl rfl _ _ _ (fun w' hk => ⟨_, _, _, rfl, ?_, ?_⟩)
                · exact (hT.kept hk (fun g h1 _ e => by have := HB.out.2.2.2.1; omega)).base (by have := HB.out.2.2.2; omega)
                · exact (HB.out.2.2.1.trans hQ (fun _ f _ => f)).trans hk (fun i e hi => by have := HB.out.2.2.2; omega)
              exact AllReadyH.nil
            exact AllReadyH.nil
          exact AllReadyH.nil
        exact AllReadyH.nil
      refine AllReadyH.cons (o := { dst := some 11, op := Op.buildSlice 24 0 #[], type := 24, pos := "law.go:19", after := #[], guard := none }) rfl (fun K hK => ?_) ?_
      · go_simp
        replace hT := hT.new2 hQ.size
        replace hQ := hQ.andAlloc (.cells #[] 3)
        refine hK.out _ _ ?_ (fun hHeld2 => ?_)
        · (try dsimp only); first | with_reducible exact ⟨hQ.cell c0' (fun f => f), hQ.cell c1' (fun f => f), hQ.cell c2' (fun f => f)⟩ | with_reducible exact three_cells2 (hQ.cell c0' (fun f => f)) (hQ.cell c1' (fun f => f)) (hQ.cell c2' (fun f => f)) | exact ⟨hQ.cell c0' (fun f => f), hQ.cell c1' (fun f => f), hQ.cell c2' (fun f => f)⟩
        clear hK K
        try simp only [Act.put, List.setIfInBounds_toArray, List.set_cons_zero, List.set_cons_succ]
        refine wpAnyH_ready (rs := [3]) (by kernel_rfl) (by simp) ?_
        refine AllReadyH.cons (o := { dst := some 6, op := Op.call { callee := Callee.builtin Builtin.append, args := #[Operand.tmp 3, Operand.tmp 5], argTypes := #[22, 22] }, type := 22, pos := "law.go:19", after := #[{ on := 0, ground := Ground.data }, { on := 2, ground := Ground.data }], guard := none }) rfl (fun K hK => ?_) ?_
        · (obtain ⟨x0, y0, wA, hrA, hT2, hkA⟩ := hT.all0 hQ.size a0 n0 c0 l 22 (HSB.out _ hQ).1 (by omega); refine step_append_run rfl (.tmp 3) (.tmp 5) 22 22 rfl (by simp [Act.eval]) (by simp [Act.eval]) hrA ?_)
          replace hQ := hQ.trans hkA (fun i e hi => by omega)
          replace hT := hT2
          clear hT2 hkA hrA
          have b6 := blk_kept HB.out.2.1 hQ (fun f => f); have r60 := (blk_cell b6 0).trans rfl; have r61 := (blk_cell b6 1).trans rfl; have r62 := (blk_cell b6 2).trans rfl; have f60 := blk_free b6 0; have f61 := blk_free b6 1; have f62 := blk_free b6 2
          refine hK.out _ _ ?_ (fun hHeld2 => ?_)
          · (try dsimp only); first | with_reducible exact ⟨hQ.cell c0' (fun f => f), hQ.cell c1' (fun f => f), hQ.cell c2' (fun f => f)⟩ | with_reducible exact three_cells2 (hQ.cell c0' (fun f => f)) (hQ.cell c1' (fun f => f)) (hQ.cell c2' (fun f => f)) | exact ⟨hQ.cell c0' (fun f => f), hQ.cell c1' (fun f => f), hQ.cell c2' (fun f => f)⟩
          clear hK K
          try simp only [Act.put, List.setIfInBounds_toArray, List.set_cons_zero, List.set_cons_succ]
          refine wpAnyH_ready (rs := [7]) (by kernel_rfl) (by simp) ?_
          refine AllReadyH.cons (o := { dst := some 10, op := Op.call { callee := Callee.builtin Builtin.append, args := #[Operand.tmp 7, Operand.tmp 9], argTypes := #[23, 23] }, type := 23, pos := "law.go:19", after := #[{ on := 4, ground := Ground.data }, { on := 6, ground := Ground.data }, { on := 3, ground := Ground.chain }], guard := none }) rfl (fun K hK => ?_) ?_
          · (obtain ⟨x1, y1, wU, hrU, hT2, hkA⟩ := hT.all1 hQ.size a1 n1 c1 st 23 (HSB.out _ hQ).2.1 (by omega); refine step_append_run rfl (.tmp 7) (.tmp 9) 23 23 rfl (by simp [Act.eval]) (by simp [Act.eval]) hrU ?_)
            replace hQ := hQ.trans hkA (fun i e hi => by omega)
            replace hT := hT2
            clear hT2 hkA hrU
            have b6 := blk_kept HB.out.2.1 hQ (fun f => f); have r60 := (blk_cell b6 0).trans rfl; have r61 := (blk_cell b6 1).trans rfl; have r62 := (blk_cell b6 2).trans rfl; have f60 := blk_free b6 0; have f61 := blk_free b6 1; have f62 := blk_free b6 2
            refine hK.out _ _ ?_ (fun hHeld2 => ?_)
            · (try dsimp only); first | with_reducible exact ⟨hQ.cell c0' (fun f => f), hQ.cell c1' (fun f => f), hQ.cell c2' (fun f => f)⟩ | with_reducible exact three_cells2 (hQ.cell c0' (fun f => f)) (hQ.cell c1' (fun f => f)) (hQ.cell c2' (fun f => f)) | exact ⟨hQ.cell c0' (fun f => f), hQ.cell c1' (fun f => f), hQ.cell c2' (fun f => f)⟩
            clear hK K
            try simp only [Act.put, List.setIfInBounds_toArray, List.set_cons_zero, List.set_cons_succ]
            refine wpAnyH_ready (rs := [11]) (by kernel_rfl) (by simp) ?_
            refine AllReadyH.cons (o := { dst := some 14, op := Op.call { callee := Callee.builtin Builtin.append, args := #[Operand.tmp 11, Operand.tmp 13], argTypes := #[24, 24] }, type := 24, pos := "law.go:19", after := #[{ on := 8, ground := Ground.data }, { on := 10, ground := Ground.data }, { on := 7, ground := Ground.chain }], guard := none }) rfl (fun K hK => ?_) ?_
            · (obtain ⟨x2, y2, wV, hrV, hT2, hkA⟩ := hT.all2 hQ.size a2 n2 c2 pk 24 (HSB.out _ hQ).2.2 (by omega); refine step_append_run rfl (.tmp 11) (.tmp 13) 24 24 rfl (by simp [Act.eval]) (by simp [Act.eval]) hrV ?_)
              replace hQ := hQ.trans hkA (fun i e hi => by omega)
              replace hT := hT2
              clear hT2 hkA hrV
              have b6 := blk_kept HB.out.2.1 hQ (fun f => f); have r60 := (blk_cell b6 0).trans rfl; have r61 := (blk_cell b6 1).trans rfl; have r62 := (blk_cell b6 2).trans rfl; have f60 := blk_free b6 0; have f61 := blk_free b6 1; have f62 := blk_free b6 2
              refine hK.out _ _ ?_ (fun hHeld2 => ?_)
              · (try dsimp only); first | with_reducible exact ⟨hQ.cell c0' (fun f => f), hQ.cell c1' (fun f => f), hQ.cell c2' (fun f => f)⟩ | with_reducible exact three_cells2 (hQ.cell c0' (fun f => f)) (hQ.cell c1' (fun f => f)) (hQ.cell c2' (fun f => f)) | exact ⟨hQ.cell c0' (fun f => f), hQ.cell c1' (fun f => f), hQ.cell c2' (fun f => f)⟩
              clear hK K
              try simp only [Act.put, List.setIfInBounds_toArray, List.set_cons_zero, List.set_cons_succ]
              refine wpAnyH_take (i := 12) (oi := { dst := some 15, op := Op.build 26 #[(0, Operand.tmp 6), (1, Operand.tmp 10), (2, Operand.tmp 14)], type := 26, pos := "law.go:19", after := #[{ on := 3, ground := Ground.data }, { on := 7, ground := Ground.data }, { on := 11, ground := Ground.data }], guard := none }) (v := ?_) rfl (by kernel_rfl) (by kernel_rfl) (by kernel_rfl) (fun _ _ _ h => h) (Or.inl ⟨by rfl, ?_⟩) (by assumption) ?_
              rotate_left
              · (intro wz hSw; (try dsimp only at hSw); go_simp; try with_reducible rfl)
              simp only [Act.put, List.setIfInBounds_toArray, List.set_cons_zero, List.set_cons_succ]
              refine wpAnyH_ready (rs := [13]) (by kernel_rfl) (by simp) ?_
              refine AllReadyH.cons (o := _) rfl (fun K hK => ?_) ?_
              · go_simp
                refine hK.out _ _ ?_ (fun hHeld2 => ?_)
                · (try dsimp only); first | with_reducible exact ⟨hQ.cell c0' (fun f => f), hQ.cell c1' (fun f => f), hQ.cell c2' (fun f => f)⟩ | with_reducible exact three_cells2 (hQ.cell c0' (fun f => f)) (hQ.cell c1' (fun f => f)) (hQ.cell c2' (fun f => f)) | exact ⟨hQ.cell c0' (fun f => f), hQ.cell c1' (fun f => f), hQ.cell c2' (fun f => f)⟩
                clear hK K
                try simp only [Act.put, List.setIfInBounds_toArray, List.set_cons_zero, List.set_cons_succ]
                refine wpAnyH_done (by kernel_rfl) ?_ _
                go_wp2_with fail
                refine game_end 2 rfl rfl b6 rfl rfl _ _ _ (fun w' hk => ⟨_, _, _, rfl, ?_, ?_⟩)
                · exact (hT.kept hk (fun g h1 _ e => by have := HB.out.2.2.2.1; omega)).base (by have := HB.out.2.2.2; omega)
                · exact (HB.out.2.2.1.trans hQ (fun _ f _ => f)).trans hk (fun i e hi => by have := HB.out.2.2.2; omega)
              exact AllReadyH.nil
            exact AllReadyH.nil
          exact AllReadyH.nil
        exact AllReadyH.nil
      exact AllReadyH.nil
    refine AllReadyH.cons (o := { dst := some 11, op := Op.buildSlice 24 0 #[], type := 24, pos := "law.go:19", after := #[], guard := none }) rfl (fun K hK => ?_) ?_
    · go_simp
      replace hT := hT.new2 hQ.size
      replace hQ := hQ.andAlloc (.cells #[] 3)
      refine hK.out _ _ ?_ (fun hHeld2 => ?_)
      · (try dsimp only); first | with_reducible exact ⟨hQ.cell c0' (fun f => f), hQ.cell c1' (fun f => f), hQ.cell c2' (fun f => f)⟩ | with_reducible exact three_cells2 (hQ.cell c0' (fun f => f)) (hQ.cell c1' (fun f => f)) (hQ.cell c2' (fun f => f)) | exact ⟨hQ.cell c0' (fun f => f), hQ.cell c1' (fun f => f), hQ.cell c2' (fun f => f)⟩
      clear hK K
      try simp only [Act.put, List.setIfInBounds_toArray, List.set_cons_zero, List.set_cons_succ]
      refine wpAnyH_ready (rs := [0]) (by kernel_rfl) (by simp) ?_
      refine AllReadyH.cons (o := { dst := some 3, op := Op.buildSlice 22 0 #[], type := 22, pos := "law.go:19", after := #[], guard := none }) rfl (fun K hK => ?_) ?_
      · go_simp
        replace hT := hT.new0 hQ.size
        replace hQ := hQ.andAlloc (.cells #[] 44)
        refine hK.out _ _ ?_ (fun hHeld2 => ?_)
        · (try dsimp only); first | with_reducible exact ⟨hQ.cell c0' (fun f => f), hQ.cell c1' (fun f => f), hQ.cell c2' (fun f => f)⟩ | with_reducible exact three_cells2 (hQ.cell c0' (fun f => f)) (hQ.cell c1' (fun f => f)) (hQ.cell c2' (fun f => f)) | exact ⟨hQ.cell c0' (fun f => f), hQ.cell c1' (fun f => f), hQ.cell c2' (fun f => f)⟩
        clear hK K
        try simp only [Act.put, List.setIfInBounds_toArray, List.set_cons_zero, List.set_cons_succ]
        refine wpAnyH_ready (rs := [3]) (by kernel_rfl) (by simp) ?_
        refine AllReadyH.cons (o := { dst := some 6, op := Op.call { callee := Callee.builtin Builtin.append, args := #[Operand.tmp 3, Operand.tmp 5], argTypes := #[22, 22] }, type := 22, pos := "law.go:19", after := #[{ on := 0, ground := Ground.data }, { on := 2, ground := Ground.data }], guard := none }) rfl (fun K hK => ?_) ?_
        · (obtain ⟨x0, y0, wA, hrA, hT2, hkA⟩ := hT.all0 hQ.size a0 n0 c0 l 22 (HSB.out _ hQ).1 (by omega); refine step_append_run rfl (.tmp 3) (.tmp 5) 22 22 rfl (by simp [Act.eval]) (by simp [Act.eval]) hrA ?_)
          replace hQ := hQ.trans hkA (fun i e hi => by omega)
          replace hT := hT2
          clear hT2 hkA hrA
          have b6 := blk_kept HB.out.2.1 hQ (fun f => f); have r60 := (blk_cell b6 0).trans rfl; have r61 := (blk_cell b6 1).trans rfl; have r62 := (blk_cell b6 2).trans rfl; have f60 := blk_free b6 0; have f61 := blk_free b6 1; have f62 := blk_free b6 2
          refine hK.out _ _ ?_ (fun hHeld2 => ?_)
          · (try dsimp only); first | with_reducible exact ⟨hQ.cell c0' (fun f => f), hQ.cell c1' (fun f => f), hQ.cell c2' (fun f => f)⟩ | with_reducible exact three_cells2 (hQ.cell c0' (fun f => f)) (hQ.cell c1' (fun f => f)) (hQ.cell c2' (fun f => f)) | exact ⟨hQ.cell c0' (fun f => f), hQ.cell c1' (fun f => f), hQ.cell c2' (fun f => f)⟩
          clear hK K
          try simp only [Act.put, List.setIfInBounds_toArray, List.set_cons_zero, List.set_cons_succ]
          refine wpAnyH_ready (rs := [7]) (by kernel_rfl) (by simp) ?_
          refine AllReadyH.cons (o := { dst := some 10, op := Op.call { callee := Callee.builtin Builtin.append, args := #[Operand.tmp 7, Operand.tmp 9], argTypes := #[23, 23] }, type := 23, pos := "law.go:19", after := #[{ on := 4, ground := Ground.data }, { on := 6, ground := Ground.data }, { on := 3, ground := Ground.chain }], guard := none }) rfl (fun K hK => ?_) ?_
          · (obtain ⟨x1, y1, wU, hrU, hT2, hkA⟩ := hT.all1 hQ.size a1 n1 c1 st 23 (HSB.out _ hQ).2.1 (by omega); refine step_append_run rfl (.tmp 7) (.tmp 9) 23 23 rfl (by simp [Act.eval]) (by simp [Act.eval]) hrU ?_)
            replace hQ := hQ.trans hkA (fun i e hi => by omega)
            replace hT := hT2
            clear hT2 hkA hrU
            have b6 := blk_kept HB.out.2.1 hQ (fun f => f); have r60 := (blk_cell b6 0).trans rfl; have r61 := (blk_cell b6 1).trans rfl; have r62 := (blk_cell b6 2).trans rfl; have f60 := blk_free b6 0; have f61 := blk_free b6 1; have f62 := blk_free b6 2
            refine hK.out _ _ ?_ (fun hHeld2 => ?_)
            · (try dsimp only); first | with_reducible exact ⟨hQ.cell c0' (fun f => f), hQ.cell c1' (fun f => f), hQ.cell c2' (fun f => f)⟩ | with_reducible exact three_cells2 (hQ.cell c0' (fun f => f)) (hQ.cell c1' (fun f => f)) (hQ.cell c2' (fun f => f)) | exact ⟨hQ.cell c0' (fun f => f), hQ.cell c1' (fun f => f), hQ.cell c2' (fun f => f)⟩
            clear hK K
            try simp only [Act.put, List.setIfInBounds_toArray, List.set_cons_zero, List.set_cons_succ]
            refine wpAnyH_ready (rs := [11]) (by kernel_rfl) (by simp) ?_
            refine AllReadyH.cons (o := { dst := some 14, op := Op.call { callee := Callee.builtin Builtin.append, args := #[Operand.tmp 11, Operand.tmp 13], argTypes := #[24, 24] }, type := 24, pos := "law.go:19", after := #[{ on := 8, ground := Ground.data }, { on := 10, ground := Ground.data }, { on := 7, ground := Ground.chain }], guard := none }) rfl (fun K hK => ?_) ?_
            · (obtain ⟨x2, y2, wV, hrV, hT2, hkA⟩ := hT.all2 hQ.size a2 n2 c2 pk 24 (HSB.out _ hQ).2.2 (by omega); refine step_append_run rfl (.tmp 11) (.tmp 13) 24 24 rfl (by simp [Act.eval]) (by simp [Act.eval]) hrV ?_)
              replace hQ := hQ.trans hkA (fun i e hi => by omega)
              replace hT := hT2
              clear hT2 hkA hrV
              have b6 := blk_kept HB.out.2.1 hQ (fun f => f); have r60 := (blk_cell b6 0).trans rfl; have r61 := (blk_cell b6 1).trans rfl; have r62 := (blk_cell b6 2).trans rfl; have f60 := blk_free b6 0; have f61 := blk_free b6 1; have f62 := blk_free b6 2
              refine hK.out _ _ ?_ (fun hHeld2 => ?_)
              · (try dsimp only); first | with_reducible exact ⟨hQ.cell c0' (fun f => f), hQ.cell c1' (fun f => f), hQ.cell c2' (fun f => f)⟩ | with_reducible exact three_cells2 (hQ.cell c0' (fun f => f)) (hQ.cell c1' (fun f => f)) (hQ.cell c2' (fun f => f)) | exact ⟨hQ.cell c0' (fun f => f), hQ.cell c1' (fun f => f), hQ.cell c2' (fun f => f)⟩
              clear hK K
              try simp only [Act.put, List.setIfInBounds_toArray, List.set_cons_zero, List.set_cons_succ]
              refine wpAnyH_take (i := 12) (oi := { dst := some 15, op := Op.build 26 #[(0, Operand.tmp 6), (1, Operand.tmp 10), (2, Operand.tmp 14)], type := 26, pos := "law.go:19", after := #[{ on := 3, ground := Ground.data }, { on := 7, ground := Ground.data }, { on := 11, ground := Ground.data }], guard := none }) (v := ?_) rfl (by kernel_rfl) (by kernel_rfl) (by kernel_rfl) (fun _ _ _ h => h) (Or.inl ⟨by rfl, ?_⟩) (by assumption) ?_
              rotate_left
              · (intro wz hSw; (try dsimp only at hSw); go_simp; try with_reducible rfl)
              simp only [Act.put, List.setIfInBounds_toArray, List.set_cons_zero, List.set_cons_succ]
              refine wpAnyH_ready (rs := [13]) (by kernel_rfl) (by simp) ?_
              refine AllReadyH.cons (o := _) rfl (fun K hK => ?_) ?_
              · go_simp
                refine hK.out _ _ ?_ (fun hHeld2 => ?_)
                · (try dsimp only); first | with_reducible exact ⟨hQ.cell c0' (fun f => f), hQ.cell c1' (fun f => f), hQ.cell c2' (fun f => f)⟩ | with_reducible exact three_cells2 (hQ.cell c0' (fun f => f)) (hQ.cell c1' (fun f => f)) (hQ.cell c2' (fun f => f)) | exact ⟨hQ.cell c0' (fun f => f), hQ.cell c1' (fun f => f), hQ.cell c2' (fun f => f)⟩
                clear hK K
                try simp only [Act.put, List.setIfInBounds_toArray, List.set_cons_zero, List.set_cons_succ]
                refine wpAnyH_done (by kernel_rfl) ?_ _
                go_wp2_with fail
                refine game_end 2 rfl rfl b6 rfl rfl _ _ _ (fun w' hk => ⟨_, _, _, rfl, ?_, ?_⟩)
                · exact (hT.kept hk (fun g h1 _ e => by have := HB.out.2.2.2.1; omega)).base (by have := HB.out.2.2.2; omega)
                · exact (HB.out.2.2.1.trans hQ (fun _ f _ => f)).trans hk (fun i e hi => by have := HB.out.2.2.2; omega)
              exact AllReadyH.nil
            exact AllReadyH.nil
          exact AllReadyH.nil
        exact AllReadyH.nil
      exact AllReadyH.nil
    exact AllReadyH.nil
  refine AllReadyH.cons (o := { dst := some 11, op := Op.buildSlice 24 0 #[], type := 24, pos := "law.go:19", after := #[], guard := none }) rfl (fun K hK => ?_) ?_
  · go_simp
    replace hT := hT.new2 hQ.size
    replace hQ := hQ.andAlloc (.cells #[] 3)
    refine hK.out _ _ ?_ (fun hHeld2 => ?_)
    · (try dsimp only); first | with_reducible exact ⟨hQ.cell c0' (fun f => f), hQ.cell c1' (fun f => f), hQ.cell c2' (fun f => f)⟩ | with_reducible exact three_cells2 (hQ.cell c0' (fun f => f)) (hQ.cell c1' (fun f => f)) (hQ.cell c2' (fun f => f)) | exact ⟨hQ.cell c0' (fun f => f), hQ.cell c1' (fun f => f), hQ.cell c2' (fun f => f)⟩
    clear hK K
    try simp only [Act.put, List.setIfInBounds_toArray, List.set_cons_zero, List.set_cons_succ]
    refine wpAnyH_ready (rs := [0, 4]) (by kernel_rfl) (by simp) ?_
    refine AllReadyH.cons (o := { dst := some 3, op := Op.buildSlice 22 0 #[], type := 22, pos := "law.go:19", after := #[], guard := none }) rfl (fun K hK => ?_) ?_
    · go_simp
      replace hT := hT.new0 hQ.size
      replace hQ := hQ.andAlloc (.cells #[] 44)
      refine hK.out _ _ ?_ (fun hHeld2 => ?_)
      · (try dsimp only); first | with_reducible exact ⟨hQ.cell c0' (fun f => f), hQ.cell c1' (fun f => f), hQ.cell c2' (fun f => f)⟩ | with_reducible exact three_cells2 (hQ.cell c0' (fun f => f)) (hQ.cell c1' (fun f => f)) (hQ.cell c2' (fun f => f)) | exact ⟨hQ.cell c0' (fun f => f), hQ.cell c1' (fun f => f), hQ.cell c2' (fun f => f)⟩
      clear hK K
      try simp only [Act.put, List.setIfInBounds_toArray, List.set_cons_zero, List.set_cons_succ]
      refine wpAnyH_ready (rs := [3, 4]) (by kernel_rfl) (by simp) ?_
      refine AllReadyH.cons (o := { dst := some 6, op := Op.call { callee := Callee.builtin Builtin.append, args := #[Operand.tmp 3, Operand.tmp 5], argTypes := #[22, 22] }, type := 22, pos := "law.go:19", after := #[{ on := 0, ground := Ground.data }, { on := 2, ground := Ground.data }], guard := none }) rfl (fun K hK => ?_) ?_
      · (obtain ⟨x0, y0, wA, hrA, hT2, hkA⟩ := hT.all0 hQ.size a0 n0 c0 l 22 (HSB.out _ hQ).1 (by omega); refine step_append_run rfl (.tmp 3) (.tmp 5) 22 22 rfl (by simp [Act.eval]) (by simp [Act.eval]) hrA ?_)
        replace hQ := hQ.trans hkA (fun i e hi => by omega)
        replace hT := hT2
        clear hT2 hkA hrA
        have b6 := blk_kept HB.out.2.1 hQ (fun f => f); have r60 := (blk_cell b6 0).trans rfl; have r61 := (blk_cell b6 1).trans rfl; have r62 := (blk_cell b6 2).trans rfl; have f60 := blk_free b6 0; have f61 := blk_free b6 1; have f62 := blk_free b6 2
        refine hK.out _ _ ?_ (fun hHeld2 => ?_)
        · (try dsimp only); first | with_reducible exact ⟨hQ.cell c0' (fun f => f), hQ.cell c1' (fun f => f), hQ.cell c2' (fun f => f)⟩ | with_reducible exact three_cells2 (hQ.cell c0' (fun f => f)) (hQ.cell c1' (fun f => f)) (hQ.cell c2' (fun f => f)) | exact ⟨hQ.cell c0' (fun f => f), hQ.cell c1' (fun f => f), hQ.cell c2' (fun f => f)⟩
        clear hK K
        try simp only [Act.put, List.setIfInBounds_toArray, List.set_cons_zero, List.set_cons_succ]
        refine wpAnyH_ready (rs := [4]) (by kernel_rfl) (by simp) ?_
        refine AllReadyH.cons (o := { dst := some 7, op := Op.buildSlice 23 0 #[], type := 23, pos := "law.go:19", after := #[], guard := none }) rfl (fun K hK => ?_) ?_
        · go_simp
          replace hT := hT.new1 hQ.size
          replace hQ := hQ.andAlloc (.cells #[] 4)
          refine hK.out _ _ ?_ (fun hHeld2 => ?_)
          · (try dsimp only); first | with_reducible exact ⟨hQ.cell c0' (fun f => f), hQ.cell c1' (fun f => f), hQ.cell c2' (fun f => f)⟩ | with_reducible exact three_cells2 (hQ.cell c0' (fun f => f)) (hQ.cell c1' (fun f => f)) (hQ.cell c2' (fun f => f)) | exact ⟨hQ.cell c0' (fun f => f), hQ.cell c1' (fun f => f), hQ.cell c2' (fun f => f)⟩
          clear hK K
          try simp only [Act.put, List.setIfInBounds_toArray, List.set_cons_zero, List.set_cons_succ]
          refine wpAnyH_ready (rs := [7]) (by kernel_rfl) (by simp) ?_
          refine AllReadyH.cons (o := { dst := some 10, op := Op.call { callee := Callee.builtin Builtin.append, args := #[Operand.tmp 7, Operand.tmp 9], argTypes := #[23, 23] }, type := 23, pos := "law.go:19", after := #[{ on := 4, ground := Ground.data }, { on := 6, ground := Ground.data }, { on := 3, ground := Ground.chain }], guard := none }) rfl (fun K hK => ?_) ?_
          · (obtain ⟨x1, y1, wU, hrU, hT2, hkA⟩ := hT.all1 hQ.size a1 n1 c1 st 23 (HSB.out _ hQ).2.1 (by omega); refine step_append_run rfl (.tmp 7) (.tmp 9) 23 23 rfl (by simp [Act.eval]) (by simp [Act.eval]) hrU ?_)
            replace hQ := hQ.trans hkA (fun i e hi => by omega)
            replace hT := hT2
            clear hT2 hkA hrU
            have b6 := blk_kept HB.out.2.1 hQ (fun f => f); have r60 := (blk_cell b6 0).trans rfl; have r61 := (blk_cell b6 1).trans rfl; have r62 := (blk_cell b6 2).trans rfl; have f60 := blk_free b6 0; have f61 := blk_free b6 1; have f62 := blk_free b6 2
            refine hK.out _ _ ?_ (fun hHeld2 => ?_)
            · (try dsimp only); first | with_reducible exact ⟨hQ.cell c0' (fun f => f), hQ.cell c1' (fun f => f), hQ.cell c2' (fun f => f)⟩ | with_reducible exact three_cells2 (hQ.cell c0' (fun f => f)) (hQ.cell c1' (fun f => f)) (hQ.cell c2' (fun f => f)) | exact ⟨hQ.cell c0' (fun f => f), hQ.cell c1' (fun f => f), hQ.cell c2' (fun f => f)⟩
            clear hK K
            try simp only [Act.put, List.setIfInBounds_toArray, List.set_cons_zero, List.set_cons_succ]
            refine wpAnyH_ready (rs := [11]) (by kernel_rfl) (by simp) ?_
            refine AllReadyH.cons (o := { dst := some 14, op := Op.call { callee := Callee.builtin Builtin.append, args := #[Operand.tmp 11, Operand.tmp 13], argTypes := #[24, 24] }, type := 24, pos := "law.go:19", after := #[{ on := 8, ground := Ground.data }, { on := 10, ground := Ground.data }, { on := 7, ground := Ground.chain }], guard := none }) rfl (fun K hK => ?_) ?_
            · (obtain ⟨x2, y2, wV, hrV, hT2, hkA⟩ := hT.all2 hQ.size a2 n2 c2 pk 24 (HSB.out _ hQ).2.2 (by omega); refine step_append_run rfl (.tmp 11) (.tmp 13) 24 24 rfl (by simp [Act.eval]) (by simp [Act.eval]) hrV ?_)
              replace hQ := hQ.trans hkA (fun i e hi => by omega)
              replace hT := hT2
              clear hT2 hkA hrV
              have b6 := blk_kept HB.out.2.1 hQ (fun f => f); have r60 := (blk_cell b6 0).trans rfl; have r61 := (blk_cell b6 1).trans rfl; have r62 := (blk_cell b6 2).trans rfl; have f60 := blk_free b6 0; have f61 := blk_free b6 1; have f62 := blk_free b6 2
              refine hK.out _ _ ?_ (fun hHeld2 => ?_)
              · (try dsimp only); first | with_reducible exact ⟨hQ.cell c0' (fun f => f), hQ.cell c1' (fun f => f), hQ.cell c2' (fun f => f)⟩ | with_reducible exact three_cells2 (hQ.cell c0' (fun f => f)) (hQ.cell c1' (fun f => f)) (hQ.cell c2' (fun f => f)) | exact ⟨hQ.cell c0' (fun f => f), hQ.cell c1' (fun f => f), hQ.cell c2' (fun f => f)⟩
              clear hK K
              try simp only [Act.put, List.setIfInBounds_toArray, List.set_cons_zero, List.set_cons_succ]
              refine wpAnyH_take (i := 12) (oi := { dst := some 15, op := Op.build 26 #[(0, Operand.tmp 6), (1, Operand.tmp 10), (2, Operand.tmp 14)], type := 26, pos := "law.go:19", after := #[{ on := 3, ground := Ground.data }, { on := 7, ground := Ground.data }, { on := 11, ground := Ground.data }], guard := none }) (v := ?_) rfl (by kernel_rfl) (by kernel_rfl) (by kernel_rfl) (fun _ _ _ h => h) (Or.inl ⟨by rfl, ?_⟩) (by assumption) ?_
              rotate_left
              · (intro wz hSw; (try dsimp only at hSw); go_simp; try with_reducible rfl)
              simp only [Act.put, List.setIfInBounds_toArray, List.set_cons_zero, List.set_cons_succ]
              refine wpAnyH_ready (rs := [13]) (by kernel_rfl) (by simp) ?_
              refine AllReadyH.cons (o := _) rfl (fun K hK => ?_) ?_
              · go_simp
                refine hK.out _ _ ?_ (fun hHeld2 => ?_)
                · (try dsimp only); first | with_reducible exact ⟨hQ.cell c0' (fun f => f), hQ.cell c1' (fun f => f), hQ.cell c2' (fun f => f)⟩ | with_reducible exact three_cells2 (hQ.cell c0' (fun f => f)) (hQ.cell c1' (fun f => f)) (hQ.cell c2' (fun f => f)) | exact ⟨hQ.cell c0' (fun f => f), hQ.cell c1' (fun f => f), hQ.cell c2' (fun f => f)⟩
                clear hK K
                try simp only [Act.put, List.setIfInBounds_toArray, List.set_cons_zero, List.set_cons_succ]
                refine wpAnyH_done (by kernel_rfl) ?_ _
                go_wp2_with fail
                refine game_end 2 rfl rfl b6 rfl rfl _ _ _ (fun w' hk => ⟨_, _, _, rfl, ?_, ?_⟩)
                · exact (hT.kept hk (fun g h1 _ e => by have := HB.out.2.2.2.1; omega)).base (by have := HB.out.2.2.2; omega)
                · exact (HB.out.2.2.1.trans hQ (fun _ f _ => f)).trans hk (fun i e hi => by have := HB.out.2.2.2; omega)
              exact AllReadyH.nil
            exact AllReadyH.nil
          exact AllReadyH.nil
        exact AllReadyH.nil
      refine AllReadyH.cons (o := { dst := some 7, op := Op.buildSlice 23 0 #[], type := 23, pos := "law.go:19", after := #[], guard := none }) rfl (fun K hK => ?_) ?_
      · go_simp
        replace hT := hT.new1 hQ.size
        replace hQ := hQ.andAlloc (.cells #[] 4)
        refine hK.out _ _ ?_ (fun hHeld2 => ?_)
        · (try dsimp only); first | with_reducible exact ⟨hQ.cell c0' (fun f => f), hQ.cell c1' (fun f => f), hQ.cell c2' (fun f => f)⟩ | with_reducible exact three_cells2 (hQ.cell c0' (fun f => f)) (hQ.cell c1' (fun f => f)) (hQ.cell c2' (fun f => f)) | exact ⟨hQ.cell c0' (fun f => f), hQ.cell c1' (fun f => f), hQ.cell c2' (fun f => f)⟩
        clear hK K
        try simp only [Act.put, List.setIfInBounds_toArray, List.set_cons_zero, List.set_cons_succ]
        refine wpAnyH_ready (rs := [3]) (by kernel_rfl) (by simp) ?_
        refine AllReadyH.cons (o := { dst := some 6, op := Op.call { callee := Callee.builtin Builtin.append, args := #[Operand.tmp 3, Operand.tmp 5], argTypes := #[22, 22] }, type := 22, pos := "law.go:19", after := #[{ on := 0, ground := Ground.data }, { on := 2, ground := Ground.data }], guard := none }) rfl (fun K hK => ?_) ?_
        · (obtain ⟨x0, y0, wA, hrA, hT2, hkA⟩ := hT.all0 hQ.size a0 n0 c0 l 22 (HSB.out _ hQ).1 (by omega); refine step_append_run rfl (.tmp 3) (.tmp 5) 22 22 rfl (by simp [Act.eval]) (by simp [Act.eval]) hrA ?_)
          replace hQ := hQ.trans hkA (fun i e hi => by omega)
          replace hT := hT2
          clear hT2 hkA hrA
          have b6 := blk_kept HB.out.2.1 hQ (fun f => f); have r60 := (blk_cell b6 0).trans rfl; have r61 := (blk_cell b6 1).trans rfl; have r62 := (blk_cell b6 2).trans rfl; have f60 := blk_free b6 0; have f61 := blk_free b6 1; have f62 := blk_free b6 2
          refine hK.out _ _ ?_ (fun hHeld2 => ?_)
          · (try dsimp only); first | with_reducible exact ⟨hQ.cell c0' (fun f => f), hQ.cell c1' (fun f => f), hQ.cell c2' (fun f => f)⟩ | with_reducible exact three_cells2 (hQ.cell c0' (fun f => f)) (hQ.cell c1' (fun f => f)) (hQ.cell c2' (fun f => f)) | exact ⟨hQ.cell c0' (fun f => f), hQ.cell c1' (fun f => f), hQ.cell c2' (fun f => f)⟩
          clear hK K
          try simp only [Act.put, List.setIfInBounds_toArray, List.set_cons_zero, List.set_cons_succ]
          refine wpAnyH_ready (rs := [7]) (by kernel_rfl) (by simp) ?_
          refine AllReadyH.cons (o := { dst := some 10, op := Op.call { callee := Callee.builtin Builtin.append, args := #[Operand.tmp 7, Operand.tmp 9], argTypes := #[23, 23] }, type := 23, pos := "law.go:19", after := #[{ on := 4, ground := Ground.data }, { on := 6, ground := Ground.data }, { on := 3, ground := Ground.chain }], guard := none }) rfl (fun K hK => ?_) ?_
          · (obtain ⟨x1, y1, wU, hrU, hT2, hkA⟩ := hT.all1 hQ.size a1 n1 c1 st 23 (HSB.out _ hQ).2.1 (by omega); refine step_append_run rfl (.tmp 7) (.tmp 9) 23 23 rfl (by simp [Act.eval]) (by simp [Act.eval]) hrU ?_)
            replace hQ := hQ.trans hkA (fun i e hi => by omega)
            replace hT := hT2
            clear hT2 hkA hrU
            have b6 := blk_kept HB.out.2.1 hQ (fun f => f); have r60 := (blk_cell b6 0).trans rfl; have r61 := (blk_cell b6 1).trans rfl; have r62 := (blk_cell b6 2).trans rfl; have f60 := blk_free b6 0; have f61 := blk_free b6 1; have f62 := blk_free b6 2
            refine hK.out _ _ ?_ (fun hHeld2 => ?_)
            · (try dsimp only); first | with_reducible exact ⟨hQ.cell c0' (fun f => f), hQ.cell c1' (fun f => f), hQ.cell c2' (fun f => f)⟩ | with_reducible exact three_cells2 (hQ.cell c0' (fun f => f)) (hQ.cell c1' (fun f => f)) (hQ.cell c2' (fun f => f)) | exact ⟨hQ.cell c0' (fun f => f), hQ.cell c1' (fun f => f), hQ.cell c2' (fun f => f)⟩
            clear hK K
            try simp only [Act.put, List.setIfInBounds_toArray, List.set_cons_zero, List.set_cons_succ]
            refine wpAnyH_ready (rs := [11]) (by kernel_rfl) (by simp) ?_
            refine AllReadyH.cons (o := { dst := some 14, op := Op.call { callee := Callee.builtin Builtin.append, args := #[Operand.tmp 11, Operand.tmp 13], argTypes := #[24, 24] }, type := 24, pos := "law.go:19", after := #[{ on := 8, ground := Ground.data }, { on := 10, ground := Ground.data }, { on := 7, ground := Ground.chain }], guard := none }) rfl (fun K hK => ?_) ?_
            · (obtain ⟨x2, y2, wV, hrV, hT2, hkA⟩ := hT.all2 hQ.size a2 n2 c2 pk 24 (HSB.out _ hQ).2.2 (by omega); refine step_append_run rfl (.tmp 11) (.tmp 13) 24 24 rfl (by simp [Act.eval]) (by simp [Act.eval]) hrV ?_)
              replace hQ := hQ.trans hkA (fun i e hi => by omega)
              replace hT := hT2
              clear hT2 hkA hrV
              have b6 := blk_kept HB.out.2.1 hQ (fun f => f); have r60 := (blk_cell b6 0).trans rfl; have r61 := (blk_cell b6 1).trans rfl; have r62 := (blk_cell b6 2).trans rfl; have f60 := blk_free b6 0; have f61 := blk_free b6 1; have f62 := blk_free b6 2
              refine hK.out _ _ ?_ (fun hHeld2 => ?_)
              · (try dsimp only); first | with_reducible exact ⟨hQ.cell c0' (fun f => f), hQ.cell c1' (fun f => f), hQ.cell c2' (fun f => f)⟩ | with_reducible exact three_cells2 (hQ.cell c0' (fun f => f)) (hQ.cell c1' (fun f => f)) (hQ.cell c2' (fun f => f)) | exact ⟨hQ.cell c0' (fun f => f), hQ.cell c1' (fun f => f), hQ.cell c2' (fun f => f)⟩
              clear hK K
              try simp only [Act.put, List.setIfInBounds_toArray, List.set_cons_zero, List.set_cons_succ]
              refine wpAnyH_take (i := 12) (oi := { dst := some 15, op := Op.build 26 #[(0, Operand.tmp 6), (1, Operand.tmp 10), (2, Operand.tmp 14)], type := 26, pos := "law.go:19", after := #[{ on := 3, ground := Ground.data }, { on := 7, ground := Ground.data }, { on := 11, ground := Ground.data }], guard := none }) (v := ?_) rfl (by kernel_rfl) (by kernel_rfl) (by kernel_rfl) (fun _ _ _ h => h) (Or.inl ⟨by rfl, ?_⟩) (by assumption) ?_
              rotate_left
              · (intro wz hSw; (try dsimp only at hSw); go_simp; try with_reducible rfl)
              simp only [Act.put, List.setIfInBounds_toArray, List.set_cons_zero, List.set_cons_succ]
              refine wpAnyH_ready (rs := [13]) (by kernel_rfl) (by simp) ?_
              refine AllReadyH.cons (o := _) rfl (fun K hK => ?_) ?_
              · go_simp
                refine hK.out _ _ ?_ (fun hHeld2 => ?_)
                · (try dsimp only); first | with_reducible exact ⟨hQ.cell c0' (fun f => f), hQ.cell c1' (fun f => f), hQ.cell c2' (fun f => f)⟩ | with_reducible exact three_cells2 (hQ.cell c0' (fun f => f)) (hQ.cell c1' (fun f => f)) (hQ.cell c2' (fun f => f)) | exact ⟨hQ.cell c0' (fun f => f), hQ.cell c1' (fun f => f), hQ.cell c2' (fun f => f)⟩
                clear hK K
                try simp only [Act.put, List.setIfInBounds_toArray, List.set_cons_zero, List.set_cons_succ]
                refine wpAnyH_done (by kernel_rfl) ?_ _
                go_wp2_with fail
                refine game_end 2 rfl rfl b6 rfl rfl _ _ _ (fun w' hk => ⟨_, _, _, rfl, ?_, ?_⟩)
                · exact (hT.kept hk (fun g h1 _ e => by have := HB.out.2.2.2.1; omega)).base (by have := HB.out.2.2.2; omega)
                · exact (HB.out.2.2.1.trans hQ (fun _ f _ => f)).trans hk (fun i e hi => by have := HB.out.2.2.2; omega)
              exact AllReadyH.nil
            exact AllReadyH.nil
          exact AllReadyH.nil
        exact AllReadyH.nil
      exact AllReadyH.nil
    refine AllReadyH.cons (o := { dst := some 7, op := Op.buildSlice 23 0 #[], type := 23, pos := "law.go:19", after := #[], guard := none }) rfl (fun K hK => ?_) ?_
    · go_simp
      replace hT := hT.new1 hQ.size
      replace hQ := hQ.andAlloc (.cells #[] 4)
      refine hK.out _ _ ?_ (fun hHeld2 => ?_)
      · (try dsimp only); first | with_reducible exact ⟨hQ.cell c0' (fun f => f), hQ.cell c1' (fun f => f), hQ.cell c2' (fun f => f)⟩ | with_reducible exact three_cells2 (hQ.cell c0' (fun f => f)) (hQ.cell c1' (fun f => f)) (hQ.cell c2' (fun f => f)) | exact ⟨hQ.cell c0' (fun f => f), hQ.cell c1' (fun f => f), hQ.cell c2' (fun f => f)⟩
      clear hK K
      try simp only [Act.put, List.setIfInBounds_toArray, List.set_cons_zero, List.set_cons_succ]
      refine wpAnyH_ready (rs := [0]) (by kernel_rfl) (by simp) ?_
      refine AllReadyH.cons (o := { dst := some 3, op := Op.buildSlice 22 0 #[], type := 22, pos := "law.go:19", after := #[], guard := none }) rfl (fun K hK => ?_) ?_
      · go_simp
        replace hT := hT.new0 hQ.size
        replace hQ := hQ.andAlloc (.cells #[] 44)
        refine hK.out _ _ ?_ (fun hHeld2 => ?_)
        · (try dsimp only); first | with_reducible exact ⟨hQ.cell c0' (fun f => f), hQ.cell c1' (fun f => f), hQ.cell c2' (fun f => f)⟩ | with_reducible exact three_cells2 (hQ.cell c0' (fun f => f)) (hQ.cell c1' (fun f => f)) (hQ.cell c2' (fun f => f)) | exact ⟨hQ.cell c0' (fun f => f), hQ.cell c1' (fun f => f), hQ.cell c2' (fun f => f)⟩
        clear hK K
        try simp only [Act.put, List.setIfInBounds_toArray, List.set_cons_zero, List.set_cons_succ]
        refine wpAnyH_ready (rs := [3]) (by kernel_rfl) (by simp) ?_
        refine AllReadyH.cons (o := { dst := some 6, op := Op.call { callee := Callee.builtin Builtin.append, args := #[Operand.tmp 3, Operand.tmp 5], argTypes := #[22, 22] }, type := 22, pos := "law.go:19", after := #[{ on := 0, ground := Ground.data }, { on := 2, ground := Ground.data }], guard := none }) rfl (fun K hK => ?_) ?_
        · (obtain ⟨x0, y0, wA, hrA, hT2, hkA⟩ := hT.all0 hQ.size a0 n0 c0 l 22 (HSB.out _ hQ).1 (by omega); refine step_append_run rfl (.tmp 3) (.tmp 5) 22 22 rfl (by simp [Act.eval]) (by simp [Act.eval]) hrA ?_)
          replace hQ := hQ.trans hkA (fun i e hi => by omega)
          replace hT := hT2
          clear hT2 hkA hrA
          have b6 := blk_kept HB.out.2.1 hQ (fun f => f); have r60 := (blk_cell b6 0).trans rfl; have r61 := (blk_cell b6 1).trans rfl; have r62 := (blk_cell b6 2).trans rfl; have f60 := blk_free b6 0; have f61 := blk_free b6 1; have f62 := blk_free b6 2
          refine hK.out _ _ ?_ (fun hHeld2 => ?_)
          · (try dsimp only); first | with_reducible exact ⟨hQ.cell c0' (fun f => f), hQ.cell c1' (fun f => f), hQ.cell c2' (fun f => f)⟩ | with_reducible exact three_cells2 (hQ.cell c0' (fun f => f)) (hQ.cell c1' (fun f => f)) (hQ.cell c2' (fun f => f)) | exact ⟨hQ.cell c0' (fun f => f), hQ.cell c1' (fun f => f), hQ.cell c2' (fun f => f)⟩
          clear hK K
          try simp only [Act.put, List.setIfInBounds_toArray, List.set_cons_zero, List.set_cons_succ]
          refine wpAnyH_ready (rs := [7]) (by kernel_rfl) (by simp) ?_
          refine AllReadyH.cons (o := { dst := some 10, op := Op.call { callee := Callee.builtin Builtin.append, args := #[Operand.tmp 7, Operand.tmp 9], argTypes := #[23, 23] }, type := 23, pos := "law.go:19", after := #[{ on := 4, ground := Ground.data }, { on := 6, ground := Ground.data }, { on := 3, ground := Ground.chain }], guard := none }) rfl (fun K hK => ?_) ?_
          · (obtain ⟨x1, y1, wU, hrU, hT2, hkA⟩ := hT.all1 hQ.size a1 n1 c1 st 23 (HSB.out _ hQ).2.1 (by omega); refine step_append_run rfl (.tmp 7) (.tmp 9) 23 23 rfl (by simp [Act.eval]) (by simp [Act.eval]) hrU ?_)
            replace hQ := hQ.trans hkA (fun i e hi => by omega)
            replace hT := hT2
            clear hT2 hkA hrU
            have b6 := blk_kept HB.out.2.1 hQ (fun f => f); have r60 := (blk_cell b6 0).trans rfl; have r61 := (blk_cell b6 1).trans rfl; have r62 := (blk_cell b6 2).trans rfl; have f60 := blk_free b6 0; have f61 := blk_free b6 1; have f62 := blk_free b6 2
            refine hK.out _ _ ?_ (fun hHeld2 => ?_)
            · (try dsimp only); first | with_reducible exact ⟨hQ.cell c0' (fun f => f), hQ.cell c1' (fun f => f), hQ.cell c2' (fun f => f)⟩ | with_reducible exact three_cells2 (hQ.cell c0' (fun f => f)) (hQ.cell c1' (fun f => f)) (hQ.cell c2' (fun f => f)) | exact ⟨hQ.cell c0' (fun f => f), hQ.cell c1' (fun f => f), hQ.cell c2' (fun f => f)⟩
            clear hK K
            try simp only [Act.put, List.setIfInBounds_toArray, List.set_cons_zero, List.set_cons_succ]
            refine wpAnyH_ready (rs := [11]) (by kernel_rfl) (by simp) ?_
            refine AllReadyH.cons (o := { dst := some 14, op := Op.call { callee := Callee.builtin Builtin.append, args := #[Operand.tmp 11, Operand.tmp 13], argTypes := #[24, 24] }, type := 24, pos := "law.go:19", after := #[{ on := 8, ground := Ground.data }, { on := 10, ground := Ground.data }, { on := 7, ground := Ground.chain }], guard := none }) rfl (fun K hK => ?_) ?_
            · (obtain ⟨x2, y2, wV, hrV, hT2, hkA⟩ := hT.all2 hQ.size a2 n2 c2 pk 24 (HSB.out _ hQ).2.2 (by omega); refine step_append_run rfl (.tmp 11) (.tmp 13) 24 24 rfl (by simp [Act.eval]) (by simp [Act.eval]) hrV ?_)
              replace hQ := hQ.trans hkA (fun i e hi => by omega)
              replace hT := hT2
              clear hT2 hkA hrV
              have b6 := blk_kept HB.out.2.1 hQ (fun f => f); have r60 := (blk_cell b6 0).trans rfl; have r61 := (blk_cell b6 1).trans rfl; have r62 := (blk_cell b6 2).trans rfl; have f60 := blk_free b6 0; have f61 := blk_free b6 1; have f62 := blk_free b6 2
              refine hK.out _ _ ?_ (fun hHeld2 => ?_)
              · (try dsimp only); first | with_reducible exact ⟨hQ.cell c0' (fun f => f), hQ.cell c1' (fun f => f), hQ.cell c2' (fun f => f)⟩ | with_reducible exact three_cells2 (hQ.cell c0' (fun f => f)) (hQ.cell c1' (fun f => f)) (hQ.cell c2' (fun f => f)) | exact ⟨hQ.cell c0' (fun f => f), hQ.cell c1' (fun f => f), hQ.cell c2' (fun f => f)⟩
              clear hK K
              try simp only [Act.put, List.setIfInBounds_toArray, List.set_cons_zero, List.set_cons_succ]
              refine wpAnyH_take (i := 12) (oi := { dst := some 15, op := Op.build 26 #[(0, Operand.tmp 6), (1, Operand.tmp 10), (2, Operand.tmp 14)], type := 26, pos := "law.go:19", after := #[{ on := 3, ground := Ground.data }, { on := 7, ground := Ground.data }, { on := 11, ground := Ground.data }], guard := none }) (v := ?_) rfl (by kernel_rfl) (by kernel_rfl) (by kernel_rfl) (fun _ _ _ h => h) (Or.inl ⟨by rfl, ?_⟩) (by assumption) ?_
              rotate_left
              · (intro wz hSw; (try dsimp only at hSw); go_simp; try with_reducible rfl)
              simp only [Act.put, List.setIfInBounds_toArray, List.set_cons_zero, List.set_cons_succ]
              refine wpAnyH_ready (rs := [13]) (by kernel_rfl) (by simp) ?_
              refine AllReadyH.cons (o := _) rfl (fun K hK => ?_) ?_
              · go_simp
                refine hK.out _ _ ?_ (fun hHeld2 => ?_)
                · (try dsimp only); first | with_reducible exact ⟨hQ.cell c0' (fun f => f), hQ.cell c1' (fun f => f), hQ.cell c2' (fun f => f)⟩ | with_reducible exact three_cells2 (hQ.cell c0' (fun f => f)) (hQ.cell c1' (fun f => f)) (hQ.cell c2' (fun f => f)) | exact ⟨hQ.cell c0' (fun f => f), hQ.cell c1' (fun f => f), hQ.cell c2' (fun f => f)⟩
                clear hK K
                try simp only [Act.put, List.setIfInBounds_toArray, List.set_cons_zero, List.set_cons_succ]
                refine wpAnyH_done (by kernel_rfl) ?_ _
                go_wp2_with fail
                refine game_end 2 rfl rfl b6 rfl rfl _ _ _ (fun w' hk => ⟨_, _, _, rfl, ?_, ?_⟩)
                · exact (hT.kept hk (fun g h1 _ e => by have := HB.out.2.2.2.1; omega)).base (by have := HB.out.2.2.2; omega)
                · exact (HB.out.2.2.1.trans hQ (fun _ f _ => f)).trans hk (fun i e hi => by have := HB.out.2.2.2; omega)
              exact AllReadyH.nil
            exact AllReadyH.nil
          exact AllReadyH.nil
        exact AllReadyH.nil
      exact AllReadyH.nil
    exact AllReadyH.nil
  exact AllReadyH.nil
end Go.Proofs.Ytdiabpoafennlab
