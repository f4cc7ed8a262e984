import Derived.Test.YtnhoedodnbifdaaDgFlw
import Derived.Test.YtnhoedodnbifdaaDgCheck
import Derived.WalkMore
import Derived.Shelf.RegionOpenPlain
/-! Longest paths: the program's. -/
namespace Go.Proofs.Ytnhoedodnbifdaa
set_option linter.unusedVariables false
set_option maxRecDepth 20000
open Go.RowKit Go.HeapKit

/-- A block that holds n numbers. -/
def IsN (w : World) (g n : Nat) (F : Nat → Int) : Prop := w.heap[g]? = some (.cells ((List.range n).map (fun k => Value.int .i64 (F k))).toArray 3 (0, 0))
theorem IsN.at {w : World} {g n : Nat} {F : Nat → Int} (h : IsN w g n F) {k : Nat} (hk : k < n) : w.cell? ⟨g, k, none⟩ = some (.int .i64 (F k)) := by
  rw [blk_cell h, range_at n k _ hk]
theorem IsN.free {w : World} {g n : Nat} {F : Nat → Int} (h : IsN w g n F) (k : Nat) : w.frozen? ⟨g, k, none⟩ = false := blk_free h k
theorem IsN.kept {w w' : World} {S : Nat → Prop} {g n : Nat} {F : Nat → Int} (h : IsN w g n F) (hk : Keeps S w w') (hS : ¬ S g) : IsN w' g n F := blk_kept h hk hS
theorem IsN.set {w : World} {g n : Nat} {F : Nat → Int} (h : IsN w g n F) (k : Nat) (x : Int) : IsN (w.setCell ⟨g, k, none⟩ (.int .i64 x)) g n (upd F k x) := by
  unfold IsN
  rw [blk_set h, range_set]
  congr 4
  funext j
  unfold upd
  split <;> rfl
theorem IsN.congr {w : World} {g n : Nat} {F G : Nat → Int} (h : IsN w g n F) (e : ∀ k, k < n → F k = G k) : IsN w g n G := by
  unfold IsN at h ⊢
  rw [h]
  congr 3
  apply List.map_congr_left
  intro k hk
  rw [e k (List.mem_range.1 hk)]
theorem IsN.row {w : World} {g n : Nat} {F : Nat → Int} (h : IsN w g n F) (base : Nat) (hb : base ≤ g) (hn : n ≤ 4096) : w.ownsRow base 3 1 (.slice (some ⟨g, 0, none⟩) n n) n (iv ((List.range n).map F)) := by
  refine ⟨by simp [iv], .inr ⟨g, n, _, rfl, hb, h, Nat.le_refl _, by unfold maxLen; omega, by simp, ?_⟩⟩
  rw [List.take_of_length_le (by simp)]
  simp [iv, Function.comp_def]
theorem IsN.lt {w : World} {g n : Nat} {F : Nat → Int} (h : IsN w g n F) : g < w.heap.size := blk_lt h
theorem make_ints (n : Nat) (w : World) (hn : n ≤ 4096) : (Instr.makeSlice 25 (.int .i64 n) (.int .i64 n)).run Try.prog w = .ok (.slice (some ⟨w.heap.size, 0, none⟩) n n) (w.alloc (.cells ((List.range n).map (fun _ => Value.int .i64 0)).toArray 3)) := by
  obtain ⟨i0, hi, hz0, hz1, hz2⟩ := info_parts Try.infoInt
  obtain ⟨M, hM, _, hr⟩ := run_make_block (P := Try.prog) (w := w) 25 3 i0 _ 1 8 Try.underlying25 hi hz0 hz1 hz2 n (by omega) (by omega)
  rw [made_one _ rfl, Nat.mul_one] at hM
  rw [hr, hM]
theorem step_make_run {P : Program} {w : World} {ops : Array Oper} {o : Oper} {a : Act} {K : Act → World → Prop} {Q : Exit → Act → World → Prop} {E : Prop}
    (hg : o.guard = none) (l c : Operand) (t : TypeId) (hop : o.op = Op.makeSlice t l c)
    {vl vc v' : Value} {w' : World} (hl : a.eval l = vl) (hc : a.eval c = vc)
    (hr : (Instr.makeSlice t vl vc).run P w = .ok v' w') (hK : K (a.put o.dst v') w') :
    if Region.wanted o (yielded ops a.tmps) = true then Oper.wp P o a w K Q else E := by
  have hw : Region.wanted o (yielded ops a.tmps) = true := by simp [Region.wanted, hg]
  rw [if_pos hw]
  unfold Oper.wp
  simp [execOp, hop, hl, hc, hr, Result.andThen]
  exact hK
theorem fill_step (i k : Nat) (v : Int) : upd (fun k => if k < i then v else 0) i v k = if k < i + 1 then v else 0 := by
  unfold upd
  by_cases e : k = i
  · rw [if_pos e, if_pos (by omega)]
  · rw [if_neg e]
    by_cases e2 : k < i
    · rw [if_pos (by omega)]; simp [e2]
    · rw [if_neg (by omega)]; simp [e2]
/-- Two new blocks of numbers, all 0. -/
theorem two_new (w : World) (n : Nat) (s0 : Nat) (hs : w.heap.size = s0) (wx : World) (hx : wx = (w.alloc (.cells ((List.range n).map (fun _ => Value.int .i64 0)).toArray 3)).alloc (.cells ((List.range n).map (fun _ => Value.int .i64 0)).toArray 3)) :
    IsN wx s0 n (fun _ => 0) ∧ IsN wx (s0 + 1) n (fun _ => 0) ∧ Keeps None w wx := by
  subst hx
  exact ⟨blk_old (blk_new _ _ _ hs) _, blk_new _ _ _ (by simp; omega), ((Keeps.refl None w).andAlloc _).andAlloc _⟩
theorem row_at {w : World} {base : Nat} {a : Option Addr} {n c : Nat} {l : List Int} {k : Nat} {x : Int} (h : w.ownsRow base 3 1 (.slice a n c) n (iv l)) (hx : l[k]? = some x) :
    ∃ g, a = some ⟨g, 0, none⟩ ∧ w.cell? ⟨g, k, none⟩ = some (.int .i64 x) ∧ w.frozen? ⟨g, k, none⟩ = false := by
  have hlen : l.length = n := by have := h.1; rw [iv_len] at this; omega
  have hk := (List.getElem?_eq_some_iff.1 hx).1
  rcases h.2 with ⟨_, h1⟩ | ⟨g, cap, cur, hv, hbg, hg, hnc, hcm, hcs, htake⟩
  · omega
  · injection hv with e1 e2 e3
    subst e1 e3
    refine ⟨g, rfl, ?_, blk_free hg k⟩
    rw [blk_cell hg]
    have : (iv l)[k]? = some (.int .i64 x) := by simp [iv, hx]
    rw [← htake, List.getElem?_take] at this
    split at this
    · simpa using this
    · cases this
theorem flw_at {n : Int} {l : List Ed} (hd : Dag n l) {k j : Nat} (hj : j < (flw l k).length) : ∃ t : Nat, (flw l k)[j]? = some (t : Int) ∧ k < t ∧ (t : Int) < n ∧ ∃ e ∈ l, e.f = k ∧ e.t = t := by
  have hm : (flw l k)[j] ∈ flw l k := List.getElem_mem hj
  obtain ⟨e, he, h1, h2⟩ := mem_flw.1 hm
  have hok := hd.ok e he
  refine ⟨e.t.toNat, ?_, by omega, by omega, e, he, h1, by omega⟩
  rw [List.getElem?_eq_getElem hj, ← h2]
  congr 1
  omega
theorem mid_self {n : Int} {l : List Ed} (hd : Dag n l) (k j : Nat) : mid l k ((flw l k).take j) k = rk l k k := by
  unfold mid
  rw [if_neg]
  intro hm
  obtain ⟨e, he, h1, h2⟩ := mem_flw.1 (List.mem_of_mem_take hm)
  have := hd.ok e he
  omega
theorem mid_next {l : List Ed} {k j t : Nat} (h : (flw l k)[j]? = some (t : Int)) (i : Nat) : mid l k ((flw l k).take (j + 1)) i = if i = t then max (mid l k ((flw l k).take j) t) (rk l k k + 1) else mid l k ((flw l k).take j) i := by
  rw [List.take_add_one, h]
  exact mid_snoc l k _ t i
theorem goodB_same {n : Nat} {l : List Ed} {M M' B : Nat → Int} (h : GoodB n l M B) (e : ∀ j, j < n → M j = M' j) : GoodB n l M' B := by
  intro j hj
  rw [← e j hj]
  exact h j hj
theorem goodB_set {n : Nat} {l : List Ed} {M B : Nat → Int} (h : GoodB n l M B) {k t : Nat} (he : ∃ e ∈ l, e.f = k ∧ e.t = t) (v : Int) (hv : v = R l k + 1) : GoodB n l (fun j => if j = t then v else M j) (upd B t k) := by
  intro j hj
  unfold upd
  by_cases e : j = t
  · subst e
    obtain ⟨x, hx, h1, h2⟩ := he
    exact .inr ⟨x, hx, k, h1, h2, by simp, by simp [hv]⟩
  · simp only [if_neg e]
    exact h j hj
set_option maxHeartbeats 3200000 in
theorem longest_any (n : Nat) (a : Option Addr) (m c : Nat) (l : List Ed) (w : World) (h : SeenE w a m l) (hd : Dag (n : Int) l) :
    Calls Try.prog 50 #[dagV n a m c] w fun e w' => ∃ g1 g2 B, e = .returned (.tuple #[.slice (some ⟨g1, 0, none⟩) n n, .slice (some ⟨g2, 0, none⟩) n n]) ∧ IsN w' g1 n (R l) ∧ IsN w' g2 n B ∧ GoodB n l (R l) B ∧
      w.heap.size ≤ g1 ∧ w.heap.size ≤ g2 ∧ g1 ≠ g2 ∧ Keeps None w w' := by
  have HS : Hid (SeenE w a m l) := h
  have HD : Hid (Dag (n : Int) l) := hd
  have hn : n ≤ 4096 := by have := hd.hi; omega
  clear h hd
  obtain ⟨s0, hs0⟩ : ∃ s0, s0 = w.heap.size := ⟨_, rfl⟩
  have HS0 : Hid (s0 = w.heap.size) := hs0
  unfold dagV
  go_enter Try.func50, Try.ntmps50
  go_upto_region 1 with fail
  have hbox := blk_new w (.cells #[.int .i64 n, .slice a m c] 24) _ rfl
  have hk0 := keeps1 w (.cells #[.int .i64 n, .slice a m c] 24)
  have hwz : (w.alloc (.cells #[.int .i64 n, .slice a m c] 24)).heap.size = s0 + 1 := by simp; omega
  rw [← hs0] at hbox ⊢
  generalize w.alloc (.cells #[.int .i64 n, .slice a m c] 24) = wa at *
  have c0 : wa.cell? ⟨s0, 0, none⟩ = some (.int .i64 n) := (blk_cell hbox 0).trans rfl
  have H0 : Hid (wa.heap[s0]? = some (.cells #[.int .i64 n, .slice a m c] 24 (0, 0)) ∧ Keeps None w wa ∧ wa.heap.size = s0 + 1) := ⟨hbox, hk0, hwz⟩
  clear hs0 hbox hk0 hwz
  go_cut [2, 3] (fun s2 s3 wx => ∃ g1 g2, s2 = .slice (some ⟨g1, 0, none⟩) n n ∧ s3 = .slice (some ⟨g2, 0, none⟩) n n ∧ g1 ≠ g2 ∧ s0 + 1 ≤ g1 ∧ s0 + 1 ≤ g2 ∧ IsN wx g1 n (fun _ => 0) ∧ IsN wx g2 n (fun _ => 0) ∧ Keeps None wa wx)
  case first =>
    refine wp_region_held_drew (S := (fun w' => w'.cell? ⟨s0, 0, none⟩ = some (.int .i64 n))) (by kernel_rfl) ?_ (fun hHeld => ?_)
    · (try dsimp only); go_keep
    refine wpAnyH_take (i := 0) (oi := { dst := some 9, op := Op.fieldAddr 24 (Operand.tmp 1) 0, type := 0, pos := "paths.go:20", after := #[], guard := none }) (v := ?_) rfl (by kernel_rfl) (by kernel_rfl) (by kernel_rfl) (fun _ _ _ h => h) (Or.inl ⟨by rfl, ?_⟩) (by assumption) ?_
    rotate_left
    · (intro wz hSw; (try dsimp only at hSw); go_simp; try with_reducible rfl)
    simp only [Act.put, List.setIfInBounds_toArray, List.set_cons_zero, List.set_cons_succ]
    refine wpAnyH_take (i := 1) (oi := { dst := some 10, op := Op.load 3 (Operand.tmp 9), type := 3, pos := "paths.go:20", after := #[{ on := 0, ground := Ground.data }], guard := none }) (v := ?_) rfl (by kernel_rfl) (by kernel_rfl) (by kernel_rfl) (fun _ _ _ h => h) (Or.inl ⟨by rfl, ?_⟩) (by assumption) ?_
    rotate_left
    · (intro wz hSw; (try dsimp only at hSw); go_simp; try with_reducible rfl)
    simp only [Act.put, List.setIfInBounds_toArray, List.set_cons_zero, List.set_cons_succ]
    refine wpAnyH_take (i := 3) (oi := { dst := some 12, op := Op.fieldAddr 24 (Operand.tmp 1) 0, type := 0, pos := "paths.go:20", after := #[], guard := none }) (v := ?_) rfl (by kernel_rfl) (by kernel_rfl) (by kernel_rfl) (fun _ _ _ h => h) (Or.inl ⟨by rfl, ?_⟩) (by assumption) ?_
    rotate_left
    · (intro wz hSw; (try dsimp only at hSw); go_simp; try with_reducible rfl)
    simp only [Act.put, List.setIfInBounds_toArray, List.set_cons_zero, List.set_cons_succ]
    refine wpAnyH_take (i := 4) (oi := { dst := some 13, op := Op.load 3 (Operand.tmp 12), type := 3, pos := "paths.go:20", after := #[{ on := 3, ground := Ground.data }], guard := none }) (v := ?_) rfl (by kernel_rfl) (by kernel_rfl) (by kernel_rfl) (fun _ _ _ h => h) (Or.inl ⟨by rfl, ?_⟩) (by assumption) ?_
    rotate_left
    · (intro wz hSw; (try dsimp only at hSw); go_simp; try with_reducible rfl)
    simp only [Act.put, List.setIfInBounds_toArray, List.set_cons_zero, List.set_cons_succ]
    refine wpAnyH_ready (rs := [2, 5]) (by kernel_rfl) (by simp) ?_
    refine AllReadyH.cons (o := { dst := some 11, op := Op.makeSlice 25 (Operand.tmp 10) (Operand.tmp 10), type := 25, pos := "paths.go:20", after := #[{ on := 1, ground := Ground.data }, { on := 1, ground := Ground.data }], guard := none }) rfl (fun K hK => ?_) ?_
    · refine step_make_run rfl (.tmp 10) (.tmp 10) 25 rfl (by simp [Act.eval]) (by simp [Act.eval]) (make_ints n _ hn) ?_
      refine hK.out _ _ ?_ (fun hHeld2 => ?_)
      · (try dsimp only); go_keep
      clear hK K
      try simp only [Act.put, List.setIfInBounds_toArray, List.set_cons_zero, List.set_cons_succ]
      refine wpAnyH_take (i := 6) (oi := { dst := some 2, op := Op.assign (Operand.tmp 11), type := 25, pos := "paths.go:20", after := #[{ on := 2, ground := Ground.data }, { on := 0, ground := Ground.phase }, { on := 1, ground := Ground.phase }, { on := 2, ground := Ground.phase }, { on := 3, ground := Ground.textOnly Departure.lateStores }, { on := 4, ground := Ground.textOnly Departure.lateStores }, { on := 5, ground := Ground.textOnly Departure.lateStoresUnsure }], guard := none }) (v := ?_) rfl (by kernel_rfl) (by kernel_rfl) (by kernel_rfl) (fun _ _ _ h => h) (Or.inl ⟨by rfl, ?_⟩) (by assumption) ?_
      rotate_left
      · (intro wz hSw; (try dsimp only at hSw); go_simp; try with_reducible rfl)
      simp only [Act.put, List.setIfInBounds_toArray, List.set_cons_zero, List.set_cons_succ]
      refine wpAnyH_ready (rs := [5]) (by kernel_rfl) (by simp) ?_
      refine AllReadyH.cons (o := { dst := some 14, op := Op.makeSlice 25 (Operand.tmp 13) (Operand.tmp 13), type := 25, pos := "paths.go:20", after := #[{ on := 4, ground := Ground.data }, { on := 4, ground := Ground.data }], guard := none }) rfl (fun K hK => ?_) ?_
      · refine step_make_run rfl (.tmp 13) (.tmp 13) 25 rfl (by simp [Act.eval]) (by simp [Act.eval]) (make_ints n _ hn) ?_
        refine hK.out _ _ ?_ (fun hHeld2 => ?_)
        · (try dsimp only); go_keep
        clear hK K
        try simp only [Act.put, List.setIfInBounds_toArray, List.set_cons_zero, List.set_cons_succ]
        refine wpAnyH_take (i := 7) (oi := { dst := some 3, op := Op.assign (Operand.tmp 14), type := 25, pos := "paths.go:20", after := #[{ on := 5, ground := Ground.data }, { on := 6, ground := Ground.chain }, { on := 0, ground := Ground.phase }, { on := 1, ground := Ground.phase }, { on := 2, ground := Ground.phase }, { on := 3, ground := Ground.phase }, { on := 4, ground := Ground.phase }, { on := 5, ground := Ground.phase }, { on := 6, ground := Ground.phase }], guard := none }) (v := ?_) rfl (by kernel_rfl) (by kernel_rfl) (by kernel_rfl) (fun _ _ _ h => h) (Or.inl ⟨by rfl, ?_⟩) (by assumption) ?_
        rotate_left
        · (intro wz hSw; (try dsimp only at hSw); go_simp; try with_reducible rfl)
        simp only [Act.put, List.setIfInBounds_toArray, List.set_cons_zero, List.set_cons_succ]
        refine wpAnyH_done (by kernel_rfl) ?_ _
        go_wp2_with fail
        go_meet
        have hz := H0.out.2.2
        obtain ⟨x1, x2, x3⟩ := two_new wa n wa.heap.size rfl _ rfl
        have x1 := x1.kept (Keeps.drew None _) (fun f => f)
        have x2 := x2.kept (Keeps.drew None _) (fun f => f)
        have x3 := x3.andDrew
        first | exact ⟨_, _, rfl, rfl, by omega, by omega, by omega, x1, x2, x3⟩ | exact ⟨_, _, rfl, rfl, by omega, by omega, by omega, x2, x1, x3⟩
      exact AllReadyH.nil
    refine AllReadyH.cons (o := { dst := some 14, op := Op.makeSlice 25 (Operand.tmp 13) (Operand.tmp 13), type := 25, pos := "paths.go:20", after := #[{ on := 4, ground := Ground.data }, { on := 4, ground := Ground.data }], guard := none }) rfl (fun K hK => ?_) ?_
    · refine step_make_run rfl (.tmp 13) (.tmp 13) 25 rfl (by simp [Act.eval]) (by simp [Act.eval]) (make_ints n _ hn) ?_
      refine hK.out _ _ ?_ (fun hHeld2 => ?_)
      · (try dsimp only); go_keep
      clear hK K
      try simp only [Act.put, List.setIfInBounds_toArray, List.set_cons_zero, List.set_cons_succ]
      refine wpAnyH_ready (rs := [2]) (by kernel_rfl) (by simp) ?_
      refine AllReadyH.cons (o := { dst := some 11, op := Op.makeSlice 25 (Operand.tmp 10) (Operand.tmp 10), type := 25, pos := "paths.go:20", after := #[{ on := 1, ground := Ground.data }, { on := 1, ground := Ground.data }], guard := none }) rfl (fun K hK => ?_) ?_
      · refine step_make_run rfl (.tmp 10) (.tmp 10) 25 rfl (by simp [Act.eval]) (by simp [Act.eval]) (make_ints n _ hn) ?_
        refine hK.out _ _ ?_ (fun hHeld2 => ?_)
        · (try dsimp only); go_keep
        clear hK K
        try simp only [Act.put, List.setIfInBounds_toArray, List.set_cons_zero, List.set_cons_succ]
        refine wpAnyH_take (i := 6) (oi := { dst := some 2, op := Op.assign (Operand.tmp 11), type := 25, pos := "paths.go:20", after := #[{ on := 2, ground := Ground.data }, { on := 0, ground := Ground.phase }, { on := 1, ground := Ground.phase }, { on := 2, ground := Ground.phase }, { on := 3, ground := Ground.textOnly Departure.lateStores }, { on := 4, ground := Ground.textOnly Departure.lateStores }, { on := 5, ground := Ground.textOnly Departure.lateStoresUnsure }], guard := none }) (v := ?_) rfl (by kernel_rfl) (by kernel_rfl) (by kernel_rfl) (fun _ _ _ h => h) (Or.inl ⟨by rfl, ?_⟩) (by assumption) ?_
        rotate_left
        · (intro wz hSw; (try dsimp only at hSw); go_simp; try with_reducible rfl)
        simp only [Act.put, List.setIfInBounds_toArray, List.set_cons_zero, List.set_cons_succ]
        refine wpAnyH_take (i := 7) (oi := { dst := some 3, op := Op.assign (Operand.tmp 14), type := 25, pos := "paths.go:20", after := #[{ on := 5, ground := Ground.data }, { on := 6, ground := Ground.chain }, { on := 0, ground := Ground.phase }, { on := 1, ground := Ground.phase }, { on := 2, ground := Ground.phase }, { on := 3, ground := Ground.phase }, { on := 4, ground := Ground.phase }, { on := 5, ground := Ground.phase }, { on := 6, ground := Ground.phase }], guard := none }) (v := ?_) rfl (by kernel_rfl) (by kernel_rfl) (by kernel_rfl) (fun _ _ _ h => h) (Or.inl ⟨by rfl, ?_⟩) (by assumption) ?_
        rotate_left
        · (intro wz hSw; (try dsimp only at hSw); go_simp; try with_reducible rfl)
        simp only [Act.put, List.setIfInBounds_toArray, List.set_cons_zero, List.set_cons_succ]
        refine wpAnyH_done (by kernel_rfl) ?_ _
        go_wp2_with fail
        go_meet
        have hz := H0.out.2.2
        obtain ⟨x1, x2, x3⟩ := two_new wa n wa.heap.size rfl _ rfl
        have x1 := x1.kept (Keeps.drew None _) (fun f => f)
        have x2 := x2.kept (Keeps.drew None _) (fun f => f)
        have x3 := x3.andDrew
        first | exact ⟨_, _, rfl, rfl, by omega, by omega, by omega, x1, x2, x3⟩ | exact ⟨_, _, rfl, rfl, by omega, by omega, by omega, x2, x1, x3⟩
      exact AllReadyH.nil
    exact AllReadyH.nil
  case rest =>
    obtain ⟨g1, g2, rfl, rfl, hne, hg1, hg2, hN1, hN2, hkx⟩ := hcut
    have H1 : Hid (wc.heap[s0]? = some (.cells #[.int .i64 n, .slice a m c] 24 (0, 0)) ∧ Keeps None w wc ∧ IsN wc g1 n (fun _ => 0) ∧ IsN wc g2 n (fun _ => 0) ∧ g1 < wc.heap.size ∧ g2 < wc.heap.size) :=
      ⟨blk_kept H0.out.1 hkx (fun f => f), H0.out.2.1.trans hkx (fun _ f _ => f), hN1, hN2, hN1.lt, hN2.lt⟩
    have c0 : wc.cell? ⟨s0, 0, none⟩ = some (.int .i64 n) := (blk_cell H1.out.1 0).trans rfl
    clear hN1 hN2 hkx H0
    go_wp2_with fail
    go_loopw [17, 4] (fun s17 _ wr => ∃ i : Nat, s17 = .int .i64 i ∧ i ≤ n ∧ wr.heap[s0]? = some (.cells #[.int .i64 n, .slice a m c] 24 (0, 0)) ∧ Keeps None w wr ∧ IsN wr g1 n (fun k => if k < i then 1 else 0) ∧ IsN wr g2 n (fun k => if k < i then -1 else 0)) (fun s17 _ _ => n - (intOf s17).toNat)
    case atStart => exact ⟨0, rfl, Nat.zero_le _, H1.out.1, H1.out.2.1, H1.out.2.2.1.congr (fun k _ => by simp), H1.out.2.2.2.1.congr (fun k _ => by simp)⟩
    case round =>
      obtain ⟨i, rfl, hi, b0, hkp, hN1, hN2⟩ := hrel
      by_cases hlt : i < n
      · have i1 : (i : Int) < (n : Int) := by omega
        have n0 : ¬ n = 0 := by omega
        have x1 := hN1.at hlt
        have x2 := hN2.at hlt
        have z1 := hN1.free i
        have z2 := hN2.free i
        have hs0 := HS0.out
        have hkS : Keeps (fun q => q = g1 ∨ q = g2) wr ((wr.setCell ⟨g1, i, none⟩ (.int .i64 1)).setCell ⟨g2, i, none⟩ (.int .i64 (-1))) := ((Keeps.refl _ wr).andSet (x := ⟨g1, i, none⟩) (.inl (.inl rfl)) _).andSet (x := ⟨g2, i, none⟩) (.inl (.inr rfl)) _
        have HN : Hid (((wr.setCell ⟨g1, i, none⟩ (.int .i64 1)).setCell ⟨g2, i, none⟩ (.int .i64 (-1))).heap[s0]? = some (.cells #[.int .i64 n, .slice a m c] 24 (0, 0)) ∧ Keeps None w ((wr.setCell ⟨g1, i, none⟩ (.int .i64 1)).setCell ⟨g2, i, none⟩ (.int .i64 (-1))) ∧
            IsN ((wr.setCell ⟨g1, i, none⟩ (.int .i64 1)).setCell ⟨g2, i, none⟩ (.int .i64 (-1))) g1 n (fun k => if k < i + 1 then 1 else 0) ∧ IsN ((wr.setCell ⟨g1, i, none⟩ (.int .i64 1)).setCell ⟨g2, i, none⟩ (.int .i64 (-1))) g2 n (fun k => if k < i + 1 then -1 else 0)) := by
          refine ⟨blk_kept b0 hkS (by omega), hkp.trans hkS (fun q e hq => by omega), ?_, ?_⟩
          · refine ((hN1.set i 1).kept (Keeps.setCell (S := (· = g2)) _ rfl _) (fun e => hne e)).congr (fun k _ => ?_)
            exact fill_step i k _
          · refine ((hN2.kept (Keeps.setCell (S := (· = g1)) wr (a := ⟨g1, i, none⟩) rfl (.int .i64 1)) (fun e => hne e.symm)).set i (-1)).congr (fun k _ => ?_)
            exact fill_step i k _
        clear hN1 hN2 hkp b0 hkS hs0 H1
        go_wp2_with fail
        exact ⟨⟨i + 1, by go_num, by omega, HN.out⟩, by simp [intOf]; omega⟩
      · have i1 : ¬ (i : Int) < (n : Int) := by omega
        obtain rfl : n = i := by omega
        have d0 := (blk_cell b0 0).trans rfl
        have d1 := (blk_cell b0 1).trans rfl
        have H2 : Hid (wr.heap[s0]? = some (.cells #[.int .i64 n, .slice a m c] 24 (0, 0)) ∧ Keeps None w wr ∧ IsN wr g1 n (rk l 0) ∧ IsN wr g2 n (fun _ => -1)) :=
          ⟨b0, hkp, hN1.congr (fun k hk => by rw [if_pos hk]; rfl), hN2.congr (fun k hk => by rw [if_pos hk])⟩
        clear b0 hkp hN1 hN2 H1
        go_wp2_with fail
        refine (flw_any n a m c l wr (HS.out.more H2.out.2.1) HD.out).mono ?_
        rintro e w3 ⟨g, vs, rfl, hL, hk3⟩
        have H3 : Hid (w3.heap[s0]? = some (.cells #[.int .i64 n, .slice a m c] 24 (0, 0)) ∧ Keeps None w w3 ∧ IsN w3 g1 n (rk l 0) ∧ IsN w3 g2 n (fun _ => -1) ∧ IsL w3 wr.heap.size g n vs (flw l) ∧ g1 < wr.heap.size ∧ g2 < wr.heap.size) :=
          ⟨blk_kept H2.out.1 hk3 (fun f => f), H2.out.2.1.trans hk3 (fun _ f _ => f), H2.out.2.2.1.kept hk3 (fun f => f), H2.out.2.2.2.kept hk3 (fun f => f), hL, H2.out.2.2.1.lt, H2.out.2.2.2.lt⟩
        have d2 : w3.cell? ⟨s0, 0, none⟩ = some (.int .i64 n) := (blk_cell H3.out.1 0).trans rfl
        clear hL hk3 H2 d0 d1
        go_wp2_with fail
        obtain ⟨base, hbase⟩ : ∃ base, base = wr.heap.size := ⟨_, rfl⟩
        rw [← hbase] at H3
        clear hbase
        go_loopw [31, 6, 8] (fun s31 _ _ wx => ∃ (k : Nat) (B : Nat → Int), s31 = .int .i64 k ∧ k ≤ n ∧ Keeps None w wx ∧ IsN wx g1 n (rk l k) ∧ IsN wx g2 n B ∧ GoodB n l (rk l k) B ∧ IsL wx base g n vs (flw l)) (fun s31 _ _ _ => n - (intOf s31).toNat)
        case atStart => exact ⟨0, _, rfl, Nat.zero_le _, H3.out.2.1, H3.out.2.2.1, H3.out.2.2.2.1, fun j _ => .inl ⟨rfl, rfl⟩, H3.out.2.2.2.2.1⟩
        case round =>
          obtain ⟨k, B, rfl, hk, hkp, hN1, hN2, hB, hL⟩ := hrel
          by_cases hkn : k < n
          · have k1 : (k : Int) < (n : Int) := by omega
            have n0 : ¬ n = 0 := by omega
            have hrow := hL.rows k hkn
            have hcell := hL.at hkn
            obtain ⟨len, hlen⟩ : ∃ len, len = (flw l k).length := ⟨_, rfl⟩
            rw [← hlen] at hrow
            obtain ⟨sa, cs, hv⟩ := row_shape hrow
            rw [hv] at hcell
            have HV : Hid (vs k = .slice sa len cs ∧ len = (flw l k).length) := ⟨hv, hlen⟩
            have H4 : Hid (Keeps None w wr ∧ IsN wr g1 n (rk l k) ∧ IsN wr g2 n B ∧ GoodB n l (rk l k) B ∧ IsL wr base g n vs (flw l)) := ⟨hkp, hN1, hN2, hB, hL⟩
            have hl16 : len ≤ 16384 := by rw [hlen]; exact Nat.le_trans (flw_len l k) HD.out.len
            clear hkp hN1 hN2 hB hL hrow hv hlen
            go_wp2_with fail
            go_loopw [39, 8] (fun s39 _ wx => ∃ (j : Nat) (B : Nat → Int), s39 = .int .i64 j ∧ j ≤ len ∧ Keeps None w wx ∧ IsN wx g1 n (mid l k ((flw l k).take j)) ∧ IsN wx g2 n B ∧ GoodB n l (mid l k ((flw l k).take j)) B ∧ IsL wx base g n vs (flw l)) (fun s39 _ _ => len - (intOf s39).toNat)
            case atStart =>
              refine ⟨0, B, rfl, Nat.zero_le _, H4.out.1, ?_, H4.out.2.2.1, ?_, H4.out.2.2.2.2⟩
              · rw [List.take_zero, mid_nil]; exact H4.out.2.1
              · rw [List.take_zero, mid_nil]; exact H4.out.2.2.2.1
            case round =>
              clear H4
              obtain ⟨j, B, rfl, hj, hkp, hN1, hN2, hB, hL⟩ := hrel
              by_cases hjl : j < len
              · obtain ⟨t, ht, hkt, htn, hed⟩ := flw_at HD.out (k := k) (j := j) (by have := HV.out.2; omega)
                have htn : t < n := by omega
                have hrow := hL.rows k hkn
                rw [← HV.out.2, HV.out.1] at hrow
                obtain ⟨q, rfl, hq, _⟩ := row_at hrow ht
                have j1 : (j : Int) < (len : Int) := by omega
                have l0 : ¬ len = 0 := by omega
                have t1 : (t : Int) < (n : Int) := by omega
                have x1 := hN1.at hkn
                have x2 := hN1.at htn
                have x3 := hN2.at htn
                have z1 := hN1.free t
                have z2 := hN2.free t
                have hself := mid_self HD.out k j
                have hle := rk_le l k k
                have hge := rk_one l k k
                rw [hself] at x1
                have hnx := mid_next ht
                have HC : Hid ((∀ i, mid l k ((flw l k).take (j + 1)) i = if i = t then max (mid l k ((flw l k).take j) t) (rk l k k + 1) else mid l k ((flw l k).take j) i) ∧ ∃ e ∈ l, e.f = k ∧ e.t = t) := ⟨hnx, hed⟩
                have H5 : Hid (Keeps None w wr ∧ IsN wr g1 n (mid l k ((flw l k).take j)) ∧ IsN wr g2 n B ∧ GoodB n l (mid l k ((flw l k).take j)) B ∧ IsL wr base g n vs (flw l)) := ⟨hkp, hN1, hN2, hB, hL⟩
                obtain ⟨v1, hv1⟩ : ∃ v1, v1 = rk l k k := ⟨_, rfl⟩
                obtain ⟨v2, hv2⟩ : ∃ v2, v2 = mid l k ((flw l k).take j) t := ⟨_, rfl⟩
                rw [← hv1] at x1 hle hge
                rw [← hv2] at x2
                have HV2 : Hid (v1 = rk l k k ∧ v2 = mid l k ((flw l k).take j) t) := ⟨hv1, hv2⟩
                have hw : IntKind.i64.wrap (v1 + 1) = v1 + 1 := by rw [IntKind.wrap_i64]; omega
                clear hkp hN1 hN2 hB hL hrow hed hnx hself hv1 hv2
                by_cases hge2 : v2 ≤ v1
                · go_wp2_with fail
                  go_quiet (fail)
                  go_wp2_with fail
                  refine ⟨⟨j + 1, upd B t k, by go_num, by omega, ?_⟩, by simp [intOf]; omega⟩
                  have hs0 := HS0.out
                  have hgb := H3.out.2.2.2.2.2
                  have hlo := H5.out.2.2.2.2.low
                  have hd : Keeps None wr (wr.drewN nq) := Keeps.drewN None _ _
                  have hkS : Keeps (fun q => q = g1 ∨ q = g2) (wr.drewN nq) (((wr.drewN nq).setCell ⟨g1, t, none⟩ (.int .i64 (v1 + 1))).setCell ⟨g2, t, none⟩ (.int .i64 k)) := ((Keeps.refl _ _).andSet (x := ⟨g1, t, none⟩) (.inl (.inl rfl)) _).andSet (x := ⟨g2, t, none⟩) (.inl (.inr rfl)) _
                  have e1 : ∀ i, i < n → upd (mid l k ((flw l k).take j)) t (v1 + 1) i = mid l k ((flw l k).take (j + 1)) i := by
                    intro i hi
                    rw [HC.out.1 i]
                    unfold upd
                    split
                    · rw [← HV2.out.1, ← HV2.out.2]; omega
                    · rfl
                  refine ⟨(H5.out.1.trans hd (fun _ f _ => f)).trans hkS (fun q e hq => by omega), ?_, ?_, ?_, ?_⟩
                  · exact (((H5.out.2.1.kept hd (fun f => f)).set t (v1 + 1)).kept (Keeps.setCell (S := (· = g2)) _ rfl _) (fun e => hne e)).congr e1
                  · exact ((H5.out.2.2.1.kept hd (fun f => f)).kept (Keeps.setCell (S := (· = g1)) (wr.drewN nq) (a := ⟨g1, t, none⟩) rfl (.int .i64 (v1 + 1))) (fun e => hne e.symm)).set t k
                  · refine goodB_same (goodB_set H5.out.2.2.2.1 HC.out.2 (v1 + 1) (by rw [HV2.out.1]; rfl)) (fun i hi => ?_)
                    exact e1 i hi
                  · exact (H5.out.2.2.2.2.more hd).kept hkS (by omega) (fun i b hi e e2 => by have := row_low (H5.out.2.2.2.2.rows i hi) e; omega)
                · go_wp2_with fail
                  go_quiet (fail)
                  go_wp2_with fail
                  refine ⟨⟨j + 1, B, by go_num, by omega, ?_⟩, by simp [intOf]; omega⟩
                  have hd : Keeps None wr (wr.drewN nq) := Keeps.drewN None _ _
                  have e1 : ∀ i, i < n → mid l k ((flw l k).take j) i = mid l k ((flw l k).take (j + 1)) i := by
                    intro i hi
                    rw [HC.out.1 i]
                    split
                    · rename_i e; subst e; rw [← HV2.out.1, ← HV2.out.2]; omega
                    · rfl
                  exact ⟨H5.out.1.trans hd (fun _ f _ => f), (H5.out.2.1.kept hd (fun f => f)).congr e1, H5.out.2.2.1.kept hd (fun f => f), goodB_same H5.out.2.2.2.1 e1, H5.out.2.2.2.2.more hd⟩
              · have j1 : ¬ (j : Int) < (len : Int) := by omega
                have hjl2 : j = (flw l k).length := by have := HV.out.2; omega
                have HN : Hid (Keeps None w wr ∧ IsN wr g1 n (rk l (k + 1)) ∧ IsN wr g2 n B ∧ GoodB n l (rk l (k + 1)) B ∧ IsL wr base g n vs (flw l)) := by
                  rw [hjl2, List.take_length, mid_all] at hN1 hB
                  exact ⟨hkp, hN1, hN2, hB, hL⟩
                clear hkp hN1 hN2 hB hL hjl2
                go_wp2_with fail
                exact ⟨⟨k + 1, B, by go_num, by omega, HN.out⟩, by simp [intOf]; omega⟩
          · have k1 : ¬ (k : Int) < (n : Int) := by omega
            obtain rfl : n = k := by omega
            have HN : Hid (IsN wr g1 n (R l) ∧ IsN wr g2 n B ∧ GoodB n l (R l) B ∧ w.heap.size ≤ g1 ∧ w.heap.size ≤ g2 ∧ g1 ≠ g2 ∧ Keeps None w wr) := by
              have e : ∀ j, j < n → rk l n j = R l j := fun j hj => rk_settled HD.out j n (by omega)
              have hs0 := HS0.out
              refine ⟨hN1.congr e, hN2, fun j hj => ?_, by omega, by omega, hne, hkp⟩
              rw [← e j hj]
              exact hB j hj
            clear hkp hN1 hN2 hB hL
            go_wp2_with fail
            go_ret2
            refine ⟨_, _, rfl, HN.out.1, ?_⟩
            first | exact ⟨_, HN.out.2⟩ | exact ⟨⟨_, HN.out.2.1, HN.out.2.2.1⟩, HN.out.2.2.2⟩ | exact ⟨_, HN.out.2.1, HN.out.2.2.1, HN.out.2.2.2⟩
end Go.Proofs.Ytnhoedodnbifdaa
