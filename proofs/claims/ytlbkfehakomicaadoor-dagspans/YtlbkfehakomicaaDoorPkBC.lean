import Derived.Test.YtlbkfehakomicaaDoorPkBB
import Derived.WalkMore
import Derived.Shelf.RegionOpenPlain
import Derived.Test.YtlbkfehakomicaaDoorPkBA
/-! Longest paths: the program's. -/
namespace Go.Proofs.YtlbkfehakomicaaDoor.Dg
set_option linter.unusedVariables false
set_option maxRecDepth 20000
open Go.RowKit Go.HeapKit

/-- A block that holds n numbers. -/
def IsN (w : World) (g n : Nat) (F : Nat → Int) : Prop := w.heap[g]? = some (.cells ((List.range n).map (fun k => Value.int .i64 (F k))).toArray 3 (0, 0))
theorem IsN.at {w : World} {g n : Nat} {F : Nat → Int} (h : IsN w g n F) {k : Nat} (hk : k < n) : w.cell? ⟨g, k, none⟩ = some (.int .i64 (F k)) := by
  rw [blk_cell h, range_at n k _ hk]
theorem IsN.free {w : World} {g n : Nat} {F : Nat → Int} (h : IsN w g n F) (k : Nat) : w.frozen? ⟨g, k, none⟩ = false := blk_free h k
theorem IsN.kept {w w' : World} {S : Nat → Prop} {g n : Nat} {F : Nat → Int} (h : IsN w g n F) (hk : Keeps S w w') (hS : ¬ S g) : IsN w' g n F := blk_kept h hk hS
theorem IsN.set {w : World} {g n : Nat} {F : Nat → Int} (h : IsN w g n F) (k : Nat) (x : Int) : IsN (w.setCell ⟨g, k, none⟩ (.int .i64 x)) g n (upd F k x) := by
  unfold IsN
  rw [blk_set h, range_set]
  congr 4
  funext j
  unfold upd
  split <;> rfl
theorem IsN.congr {w : World} {g n : Nat} {F G : Nat → Int} (h : IsN w g n F) (e : ∀ k, k < n → F k = G k) : IsN w g n G := by
  unfold IsN at h ⊢
  rw [h]
  congr 3
  apply List.map_congr_left
  intro k hk
  rw [e k (List.mem_range.1 hk)]
theorem IsN.row {w : World} {g n : Nat} {F : Nat → Int} (h : IsN w g n F) (base : Nat) (hb : base ≤ g) (hn : n ≤ 4096) : w.ownsRow base 3 1 (.slice (some ⟨g, 0, none⟩) n n) n (iv ((List.range n).map F)) := by
  refine ⟨by simp [iv], .inr ⟨g, n, _, rfl, hb, h, Nat.le_refl _, by unfold maxLen; omega, by simp, ?_⟩⟩
  rw [List.take_of_length_le (by simp)]
  simp [iv, Function.comp_def]
theorem IsN.lt {w : World} {g n : Nat} {F : Nat → Int} (h : IsN w g n F) : g < w.heap.size := blk_lt h
theorem make_ints (n : Nat) (w : World) (hn : n ≤ 4096) : (Instr.makeSlice 41 (.int .i64 n) (.int .i64 n)).run Tryd.prog w = .ok (.slice (some ⟨w.heap.size, 0, none⟩) n n) (w.alloc (.cells ((List.range n).map (fun _ => Value.int .i64 0)).toArray 3)) := by
  obtain ⟨i0, hi, hz0, hz1, hz2⟩ := info_parts Tryd.infoInt
  obtain ⟨M, hM, _, hr⟩ := run_make_block (P := Tryd.prog) (w := w) 41 3 i0 _ 1 8 Tryd.underlying41 hi hz0 hz1 hz2 n (by omega) (by omega)
  rw [made_one _ rfl, Nat.mul_one] at hM
  rw [hr, hM]
theorem step_make_run {P : Program} {w : World} {ops : Array Oper} {o : Oper} {a : Act} {K : Act → World → Prop} {Q : Exit → Act → World → Prop} {E : Prop}
    (hg : o.guard = none) (l c : Operand) (t : TypeId) (hop : o.op = Op.makeSlice t l c)
    {vl vc v' : Value} {w' : World} (hl : a.eval l = vl) (hc : a.eval c = vc)
    (hr : (Instr.makeSlice t vl vc).run P w = .ok v' w') (hK : K (a.put o.dst v') w') :
    if Region.wanted o (yielded ops a.tmps) = true then Oper.wp P o a w K Q else E := by
  have hw : Region.wanted o (yielded ops a.tmps) = true := by simp [Region.wanted, hg]
  rw [if_pos hw]
  unfold Oper.wp
  simp [execOp, hop, hl, hc, hr, Result.andThen]
  exact hK
theorem fill_step (i k : Nat) (v : Int) : upd (fun k => if k < i then v else 0) i v k = if k < i + 1 then v else 0 := by
  unfold upd
  by_cases e : k = i
  · rw [if_pos e, if_pos (by omega)]
  · rw [if_neg e]
    by_cases e2 : k < i
    · rw [if_pos (by omega)]; simp [e2]
    · rw [if_neg (by omega)]; simp [e2]
/-- Two new blocks of numbers, all 0. -/
theorem two_new (w : World) (n : Nat) (s0 : Nat) (hs : w.heap.size = s0) (wx : World) (hx : wx = (w.alloc (.cells ((List.range n).map (fun _ => Value.int .i64 0)).toArray 3)).alloc (.cells ((List.range n).map (fun _ => Value.int .i64 0)).toArray 3)) :
    IsN wx s0 n (fun _ => 0) ∧ IsN wx (s0 + 1) n (fun _ => 0) ∧ Keeps None w wx := by
  subst hx
  exact ⟨blk_old (blk_new _ _ _ hs) _, blk_new _ _ _ (by simp; omega), ((Keeps.refl None w).andAlloc _).andAlloc _⟩
theorem row_at {w : World} {base : Nat} {a : Option Addr} {n c : Nat} {l : List Int} {k : Nat} {x : Int} (h : w.ownsRow base 3 1 (.slice a n c) n (iv l)) (hx : l[k]? = some x) :
    ∃ g, a = some ⟨g, 0, none⟩ ∧ w.cell? ⟨g, k, none⟩ = some (.int .i64 x) ∧ w.frozen? ⟨g, k, none⟩ = false := by
  have hlen : l.length = n := by have := h.1; rw [iv_len] at this; omega
  have hk := (List.getElem?_eq_some_iff.1 hx).1
  rcases h.2 with ⟨_, h1⟩ | ⟨g, cap, cur, hv, hbg, hg, hnc, hcm, hcs, htake⟩
  · omega
  · injection hv with e1 e2 e3
    subst e1 e3
    refine ⟨g, rfl, ?_, blk_free hg k⟩
    rw [blk_cell hg]
    have : (iv l)[k]? = some (.int .i64 x) := by simp [iv, hx]
    rw [← htake, List.getElem?_take] at this
    split at this
    · simpa using this
    · cases this
theorem flw_at {n : Int} {l : List Ed} (hd : Dag n l) {k j : Nat} (hj : j < (flw l k).length) : ∃ t : Nat, (flw l k)[j]? = some (t : Int) ∧ k < t ∧ (t : Int) < n ∧ ∃ e ∈ l, e.f = k ∧ e.t = t := by
  have hm : (flw l k)[j] ∈ flw l k := List.getElem_mem hj
  obtain ⟨e, he, h1, h2⟩ := mem_flw.1 hm
  have hok := hd.ok e he
  refine ⟨e.t.toNat, ?_, by omega, by omega, e, he, h1, by omega⟩
  rw [List.getElem?_eq_getElem hj, ← h2]
  congr 1
  omega
theorem mid_self {n : Int} {l : List Ed} (hd : Dag n l) (k j : Nat) : mid l k ((flw l k).take j) k = rk l k k := by
  unfold mid
  rw [if_neg]
  intro hm
  obtain ⟨e, he, h1, h2⟩ := mem_flw.1 (List.mem_of_mem_take hm)
  have := hd.ok e he
  omega
theorem mid_next {l : List Ed} {k j t : Nat} (h : (flw l k)[j]? = some (t : Int)) (i : Nat) : mid l k ((flw l k).take (j + 1)) i = if i = t then max (mid l k ((flw l k).take j) t) (rk l k k + 1) else mid l k ((flw l k).take j) i := by
  rw [List.take_add_one, h]
  exact mid_snoc l k _ t i
theorem goodB_same {n : Nat} {l : List Ed} {M M' B : Nat → Int} (h : GoodB n l M B) (e : ∀ j, j < n → M j = M' j) : GoodB n l M' B := by
  intro j hj
  rw [← e j hj]
  exact h j hj
theorem goodB_set {n : Nat} {l : List Ed} {M B : Nat → Int} (h : GoodB n l M B) {k t : Nat} (he : ∃ e ∈ l, e.f = k ∧ e.t = t) (v : Int) (hv : v = R l k + 1) : GoodB n l (fun j => if j = t then v else M j) (upd B t k) := by
  intro j hj
  unfold upd
  by_cases e : j = t
  · subst e
    obtain ⟨x, hx, h1, h2⟩ := he
    exact .inr ⟨x, hx, k, h1, h2, by simp, by simp [hv]⟩
  · simp only [if_neg e]
    exact h j hj
set_option maxHeartbeats 3200000 in
theorem longest_any (n : Nat) (a : Option Addr) (m c : Nat) (l : List Ed) (w : World) (h : SeenE w a m l) (hd : Dag (n : Int) l) :
    Calls Tryd.prog 48 #[dagV n a m c] w fun e w' => ∃ g1 g2 B, e = .returned (.tuple #[.slice (some ⟨g1, 0, none⟩) n n, .slice (some ⟨g2, 0, none⟩) n n]) ∧ IsN w' g1 n (R l) ∧ IsN w' g2 n B ∧ GoodB n l (R l) B ∧
      w.heap.size ≤ g1 ∧ w.heap.size ≤ g2 ∧ g1 ≠ g2 ∧ Keeps None w w' := by
  have HS : Hid (SeenE w a m l) := h
  have HD : Hid (Dag (n : Int) l) := hd
  have hn : n ≤ 4096 := by have := hd.hi; omega
  clear h hd
  obtain ⟨s0, hs0⟩ : ∃ s0, s0 = w.heap.size := ⟨_, rfl⟩
  have HS0 : Hid (s0 = w.heap.size) := hs0
  unfold dagV
  go_enter Tryd.func48, Tryd.ntmps48
  go_upto_region 1 with fail
  have hbox := blk_new w (.cells #[.int .i64 n, .slice a m c] 34) _ rfl
  have hk0 := keeps1 w (.cells #[.int .i64 n, .slice a m c] 34)
  have hwz : (w.alloc (.cells #[.int .i64 n, .slice a m c] 34)).heap.size = s0 + 1 := by simp; omega
  rw [← hs0] at hbox ⊢
  generalize w.alloc (.cells #[.int .i64 n, .slice a m c] 34) = wa at *
  have c0 : wa.cell? ⟨s0, 0, none⟩ = some (.int .i64 n) := (blk_cell hbox 0).trans rfl
  have H0 : Hid (wa.heap[s0]? = some (.cells #[.int .i64 n, .slice a m c] 34 (0, 0)) ∧ Keeps None w wa ∧ wa.heap.size = s0 + 1) := ⟨hbox, hk0, hwz⟩
  clear hs0 hbox hk0 hwz
  go_cut [2, 3] (fun s2 s3 wx => ∃ g1 g2, s2 = .slice (some ⟨g1, 0, none⟩) n n ∧ s3 = .slice (some ⟨g2, 0, none⟩) n n ∧ g1 ≠ g2 ∧ s0 + 1 ≤ g1 ∧ s0 + 1 ≤ g2 ∧ IsN wx g1 n (fun _ => 0) ∧ IsN wx g2 n (fun _ => 0) ∧ Keeps None wa wx)
  case first =>
    refine wp_region_held_drew (S := (fun w' => w'.cell? ⟨s0, 0, none⟩ = some (.int .i64 n))) (by kernel_rfl) ?_ (fun hHeld => ?_)
    · (try dsimp only); go_keep
    refine wpAnyH_take (i := 0) (oi := { dst := some 9, op := Op.fieldAddr 34 (Operand.tmp 1) 0, type := 0, pos := "paths.go:20", after := #[], guard := none }) (v := ?_) rfl (by kernel_rfl) (by kernel_rfl) (by kernel_rfl) (fun _ _ _ h => h) (Or.inl ⟨by rfl, ?_⟩) (by assumption) ?_
    rotate_left
    · (intro wz hSw; (try dsimp only at hSw); go_simp; try with_reducible rfl)
    simp only [Act.put, List.setIfInBounds_toArray, List.set_cons_zero, List.set_cons_succ]
    refine wpAnyH_take (i := 1) (oi := { dst := some 10, op := Op.load 3 (Operand.tmp 9), type := 3, pos := "paths.go:20", after := #[{ on := 0, ground := Ground.data }], guard := none }) (v := ?_) rfl (by kernel_rfl) (by kernel_rfl) (by kernel_rfl) (fun _ _ _ h => h) (Or.inl ⟨by rfl, ?_⟩) (by assumption) ?_
    rotate_left
    · (intro wz hSw; (try dsimp only at hSw); go_simp; try with_reducible rfl)
    simp only [Act.put, List.setIfInBounds_toArray, List.set_cons_zero, List.set_cons_succ]
    refine wpAnyH_take (i := 3) (oi := { dst := some 12, op := Op.fieldAddr 34 (Operand.tmp 1) 0, type := 0, pos := "paths.go:20", after := #[], guard := none }) (v := ?_) rfl (by kernel_rfl) (by kernel_rfl) (by kernel_rfl) (fun _ _ _ h => h) (Or.inl ⟨by rfl, ?_⟩) (by assumption) ?_
    rotate_left
    · (intro wz hSw; (try dsimp only at hSw); go_simp; try with_reducible rfl)
    simp only [Act.put, List.setIfInBounds_toArray, List.set_cons_zero, List.set_cons_succ]
    refine wpAnyH_take (i := 4) (oi := { dst := some 13, op := Op.load 3 (Operand.tmp 12), type := 3, pos := "paths.go:20", after := #[{ on := 3, ground := Ground.data }], guard := none }) (v := ?_) rfl (by kernel_rfl) (by kernel_rfl) (by kernel_rfl) (fun _ _ _ h => h) (Or.inl ⟨by rfl, ?_⟩) (by assumption) ?_
    rotate_left
    · (intro wz hSw; (try dsimp only at hSw); go_simp; try with_reducible rfl)
    simp only [Act.put, List.setIfInBounds_toArray, List.set_cons_zero, List.set_cons_succ]
    refine wpAnyH_ready (rs := [2, 5]) (by kernel_rfl) (by simp) ?_
    refine AllReadyH.cons (o := { dst := some 11, op := Op.makeSlice 41 (Operand.tmp 10) (Operand.tmp 10), type := 41, pos := "paths.go:20", after := #[{ on := 1, ground := Ground.data }, { on := 1, ground := Ground.data }], guard := none }) rfl (fun K hK => ?_) ?_
    · refine step_make_run rfl (.tmp 10) (.tmp 10) 41 rfl (by simp [Act.eval]) (by simp [Act.eval]) (make_ints n _ hn) ?_
      refine hK.out _ _ ?_ (fun hHeld2 => ?_)
      · (try dsimp only); go_keep
      clear hK K
      try simp only [Act.put, List.setIfInBounds_toArray, List.set_cons_zero, List.set_cons_succ]
      refine wpAnyH_take (i := 6) (oi := { dst := some 2, op := Op.assign (Operand.tmp 11), type := 41, pos := "paths.go:20", after := #[{ on := 2, ground := Ground.data }, { on := 0, ground := Ground.phase }, { on := 1, ground := Ground.phase }, { on := 2, ground := Ground.phase }, { on := 3, ground := Ground.textOnly Departure.lateStores }, { on := 4, ground := Ground.textOnly Departure.lateStores }, { on := 5, ground := Ground.textOnly Departure.lateStoresUnsure }], guard := none }) (v := ?_) rfl (by kernel_rfl) (by kernel_rfl) (by kernel_rfl) (fun _ _ _ h => h) (Or.inl ⟨by rfl, ?_⟩) (by assumption) ?_
      rotate_left
      · (intro wz hSw; (try dsimp only at hSw); go_simp; try with_reducible rfl)
      simp only [Act.put, List.setIfInBounds_toArray, List.set_cons_zero, List.set_cons_succ]
      refine wpAnyH_ready (rs := [5]) (by kernel_rfl) (by simp) ?_
      refine AllReadyH.cons (o := { dst := some 14, op := Op.makeSlice 41 (Operand.tmp 13) (Operand.tmp 13), type := 41, pos := "paths.go:20", after := #[{ on := 4, ground := Ground.data }, { on := 4, ground := Ground.data }], guard := none }) rfl (fun K hK => ?_) ?_
      · refine step_make_run rfl (.tmp 13) (.tmp 13) 41 rfl (by simp [Act.eval]) (by simp [Act.eval]) (make_ints n _ hn) ?_
        refine hK.out _ _ ?_ (fun hHeld2 => ?_)
        · (try dsimp only); go_keep
        clear hK K
        try simp only [Act.put, List.setIfInBounds_toArray, List.set_cons_zero, List.set_cons_succ]
        refine wpAnyH_take (i := 7) (oi := { dst := some 3, op := Op.assign (Operand.tmp 14), type := 41, pos := "paths.go:20", after := #[{ on := 5, ground := Ground.data }, { on := 6, ground := Ground.chain }, { on := 0, ground := Ground.phase }, { on := 1, ground := Ground.phase }, { on := 2, ground := Ground.phase }, { on := 3, ground := Ground.phase }, { on := 4, ground := Ground.phase }, { on := 5, ground := Ground.phase }, { on := 6, ground := Ground.phase }], guard := none }) (v := ?_) rfl (by kernel_rfl) (by kernel_rfl) (by kernel_rfl) (fun _ _ _ h => h) (Or.inl ⟨by rfl, ?_⟩) (by assumption) ?_
        rotate_left
        · (intro wz hSw; (try dsimp only at hSw); go_simp; try with_reducible rfl)
        simp only [Act.put, List.setIfInBounds_toArray, List.set_cons_zero, List.set_cons_succ]
        refine wpAnyH_done (by kernel_rfl) ?_ _
        go_wp2_with fail
        go_meet
        have hz := H0.out.2.2
        obtain ⟨x1, x2, x3⟩ := two_new wa n wa.heap.size rfl _ rfl
        have x1 := x1.kept (Keeps.drew None _) (fun f => f)
        have x2 := x2.kept (Keeps.drew None _) (fun f => f)
        have x3 := x3.andDrew
        first | exact ⟨_, _, rfl, rfl, by omega, by omega, by omega, x1, x2, x3⟩ | exact ⟨_, _, rfl, rfl, by omega, by omega, by omega, x2, x1, x3⟩
      exact AllReadyH.nil
    refine AllReadyH.cons (o := { dst := some 14, op := Op.makeSlice 41 (Operand.tmp 13) (Operand.tmp 13), type := 41, pos := "paths.go:20", after := #[{ on := 4, ground := Ground.data }, { on := 4, ground := Ground.data }], guard := none }) rfl (fun K hK => ?_) ?_
    · refine step_make_run rfl (.tmp 13) (.tmp 13) 41 rfl (by simp [Act.eval]) (by simp [Act.eval]) (make_ints n _ hn) ?_
      refine hK.out _ _ ?_ (fun hHeld2 => ?_)
      · (try dsimp only); go_keep
      clear hK K
      try simp only [Act.put, List.setIfInBounds_toArray, List.set_cons_zero, List.set_cons_succ]
      refine wpAnyH_ready (rs := [2]) (by kernel_rfl) (by simp) ?_
      refine AllReadyH.cons (o := { dst := some 11, op := Op.makeSlice 41 (Operand.tmp 10) (Operand.tmp 10), type := 41, pos := "paths.go:20", after := #[{ on := 1, ground := Ground.data }, { on := 1, ground := Ground.data }], guard := none }) rfl (fun K hK => ?_) ?_
      · refine step_make_run rfl (.tmp 10) (.tmp 10) 41 rfl (by simp [Act.eval]) (by simp [Act.eval]) (make_ints n _ hn) ?_
        refine hK.out _ _ ?_ (fun hHeld2 => ?_)
        · (try dsimp only); go_keep
        clear hK K
        try simp only [Act.put, List.setIfInBounds_toArray, List.set_cons_zero, List.set_cons_succ]
        refine wpAnyH_take (i := 6) (oi := { dst := some 2, op := Op.assign (Operand.tmp 11), type := 41, pos := "paths.go:20", after := #[{ on := 2, ground := Ground.data }, { on := 0, ground := Ground.phase }, { on := 1, ground := Ground.phase }, { on := 2, ground := Ground.phase }, { on := 3, ground := Ground.textOnly Departure.lateStores }, { on := 4, ground := Ground.textOnly Departure.lateStores }, { on := 5, ground := Ground.textOnly Departure.lateStoresUnsure }], guard := none }) (v := ?_) rfl (by kernel_rfl) (by kernel_rfl) (by kernel_rfl) (fun _ _ _ h => h) (Or.inl ⟨by rfl, ?_⟩) (by assumption) ?_
        rotate_left
        · (intro wz hSw; (try dsimp only at hSw); go_simp; try with_reducible rfl)
        simp only [Act.put, List.setIfInBounds_toArray, List.set_cons_zero, List.set_cons_succ]
        refine wpAnyH_take (i := 7) (oi := { dst := some 3, op := Op.assign (Operand.tmp 14), type := 41, pos := "paths.go:20", after := #[{ on := 5, ground := Ground.data }, { on := 6, ground := Ground.chain }, { on := 0, ground := Ground.phase }, { on := 1, ground := Ground.phase }, { on := 2, ground := Ground.phase }, { on := 3, ground := Ground.phase }, { on := 4, ground := Ground.phase }, { on := 5, ground := Ground.phase }, { on := 6, ground := Ground.phase }], guard := none }) (v := ?_) rfl (by kernel_rfl) (by kernel_rfl) (by kernel_rfl) (fun _ _ _ h => h) (Or.inl ⟨by rfl, ?_⟩) (by assumption) ?_
        rotate_left
        · (intro wz hSw; (try dsimp only at hSw); go_simp; try with_reducible rfl)
        simp only [Act.put, List.setIfInBounds_toArray, List.set_cons_zero, List.set_cons_succ]
        refine wpAnyH_done (by kernel_rfl) ?_ _
        go_wp2_with fail
        go_meet
        have hz := H0.out.2.2
        obtain ⟨x1, x2, x3⟩ := two_new wa n wa.heap.size rfl _ rfl
        have x1 := x1.kept (Keeps.drew None _) (fun f => f)
        have x2 := x2.kept (Keeps.drew None _) (fun f => f)
        have x3 := x3.andDrew
        first | exact ⟨_, _, rfl, rfl, by omega, by omega, by omega, x1, x2, x3⟩ | exact ⟨_, _, rfl, rfl, by omega, by omega, by omega, x2, x1, x3⟩
      exact AllReadyH.nil
    exact AllReadyH.nil
  case rest =>
    obtain ⟨g1, g2, rfl, rfl, hne, hg1, hg2, hN1, hN2, hkx⟩ := hcut
    have H1 : Hid (wc.heap[s0]? = some (.cells #[.int .i64 n, .slice a m c] 34 (0, 0)) ∧ Keeps None w wc ∧ IsN wc g1 n (fun _ => 0) ∧ IsN wc g2 n (fun _ => 0) ∧ g1 < wc.heap.size ∧ g2 < wc.heap.size) :=
      ⟨blk_kept H0.out.1 hkx (fun f => f), H0.out.2.1.trans hkx (fun _ f _ => f), hN1, hN2, hN1.lt, hN2.lt⟩
    have c0 : wc.cell? ⟨s0, 0, none⟩ = some (.int .i64 n) := (blk_cell H1.out.1 0).trans rfl
    clear hN1 hN2 hkx H0
    go_wp2_with fail
    go_loopw [17, 4] (fun s17 _ wr => ∃ i : Nat, s17 = .int .i64 i ∧ i ≤ n ∧ wr.heap[s0]? = some (.cells #[.int .i64 n, .slice a m c] 34 (0, 0)) ∧ Keeps None w wr ∧ IsN wr g1 n (fun k => if k < i then 1 else 0) ∧ IsN wr g2 n (fun k => if k < i then -1 else 0)) (fun s17 _ _ => n - (intOf s17).toNat)
    case atStart => exact ⟨0, rfl, Nat.zero_le _, H1.out.1, H1.out.2.1, H1.out.2.2.1.congr (fun k _ => by simp), H1.out.2.2.2.1.congr (fun k _ => by simp)⟩
    case round =>
      obtain ⟨i, rfl, hi, b0, hkp, hN1, hN2⟩ := hrel
      by_cases hlt : i < n
      · have i1 : (i : Int) < (n : Int) := by omega
        have n0 : ¬ n = 0 := by omega
        have x1 := hN1.at hlt
        have x2 := hN2.at hlt
        have z1 := hN1.free i
        have z2 := hN2.free i
        have hs0 := HS0.out
        have hkS : Keeps (fun q => q = g1 ∨ q = g2) wr ((wr.setCell ⟨g1, i, none⟩ (.int .i64 1)).setCell ⟨g2, i, none⟩ (.int .i64 (-1))) := ((Keeps.refl _ wr).andSet (x := ⟨g1, i, none⟩) (.inl (.inl rfl)) _).andSet (x := ⟨g2, i, none⟩) (.inl (.inr rfl)) _
        have HN : Hid (((wr.setCell ⟨g1, i, none⟩ (.int .i64 1)).setCell ⟨g2, i, none⟩ (.int .i64 (-1))).heap[s0]? = some (.cells #[.int .i64 n, .slice a m c] 34 (0, 0)) ∧ Keeps None w ((wr.setCell ⟨g1, i, none⟩ (.int .i64 1)).setCell ⟨g2, i, none⟩ (.int .i64 (-1))) ∧
            IsN ((wr.setCell ⟨g1, i, none⟩ (.int .i64 1)).setCell ⟨g2, i, none⟩ (.int .i64 (-1))) g1 n (fun k => if k < i + 1 then 1 else 0) ∧ IsN ((wr.setCell ⟨g1, i, none⟩ (.int .i64 1)).setCell ⟨g2, i, none⟩ (.int .i64 (-1))) g2 n (fun k => if k < i + 1 then -1 else 0)) := by
          refine ⟨blk_kept b0 hkS (by omega), hkp.trans hkS (fun q e hq => by omega), ?_, ?_⟩
          · refine ((hN1.set i 1).kept (Keeps.setCell (S := (· = g2)) _ rfl _) (fun e => hne e)).congr (fun k _ => ?_)
            exact fill_step i k _
          · refine ((hN2.kept (Keeps.setCell (S := (· = g1)) wr (a := ⟨g1, i, none⟩) rfl (.int .i64 1)) (fun e => hne e.symm)).set i (-1)).congr (fun k _ => ?_)
            exact fill_step i k _
        clear hN1 hN2 hkp b0 hkS hs0 H1
        go_wp2_with fail
        exact ⟨⟨i + 1, by go_num, by omega, HN.out⟩, by simp [intOf]; omega⟩
      · have i1 : ¬ (i : Int) < (n : Int) := by omega
        obtain rfl : n = i := by omega
        have d0 := (blk_cell b0 0).trans rfl
        have d1 := (blk_cell b0 1).trans rfl
        have H2 : Hid (wr.heap[s0]? = some (.cells #[.int .i64 n, .slice a m c] 34 (0, 0)) ∧ Keeps None w wr ∧ IsN wr g1 n (rk l 0) ∧ IsN wr g2 n (fun _ => -1)) :=
          ⟨b0, hkp, hN1.congr (fun k hk => by rw [if_pos hk]; rfl), hN2.congr (fun k hk => by rw [if_pos hk])⟩
        clear b0 hkp hN1 hN2 H1
        go_wp2_with fail
        refine (flw_any n a m c l wr (HS.out.more H2.out.2.1) HD.out).mono ?_
        rintro e w3 ⟨g, vs, rfl, hL, hk3⟩
        have H3 : Hid (w3.heap[s0]? = some (.cells #[.int .i64 n, .slice a m c] 34 (0, 0)) ∧ Keeps None w w3 ∧ IsN w3 g1 n (rk l 0) ∧ IsN w3 g2 n (fun _ => -1) ∧ IsL w3 wr.heap.size g n vs (flw l) ∧ g1 < wr.heap.size ∧ g2 < wr.heap.size) :=
          ⟨blk_kept H2.out.1 hk3 (fun f => f), H2.out.2.1.trans hk3 (fun _ f _ => f), H2.out.2.2.1.kept hk3 (fun f => f), H2.out.2.2.2.kept hk3 (fun f => f), hL, H2.out.2.2.1.lt, H2.out.2.2.2.lt⟩
        have d2 : w3.cell? ⟨s0, 0, none⟩ = some (.int .i64 n) := (blk_cell H3.out.1 0).trans rfl
        clear hL hk3 H2 d0 d1
        go_wp2_with fail
        obtain ⟨base, hbase⟩ : ∃ base, base = wr.heap.size := ⟨_, rfl⟩
        rw [← hbase] at H3
        clear hbase
        go_loopw [31, 6, 8] (fun s31 _ _ wx => ∃ (k : Nat) (B : Nat → Int), s31 = .int .i64 k ∧ k ≤ n ∧ Keeps None w wx ∧ IsN wx g1 n (rk l k) ∧ IsN wx g2 n B ∧ GoodB n l (rk l k) B ∧ IsL wx base g n vs (flw l)) (fun s31 _ _ _ => n - (intOf s31).toNat)
        case atStart => exact ⟨0, _, rfl, Nat.zero_le _, H3.out.2.1, H3.out.2.2.1, H3.out.2.2.2.1, fun j _ => .inl ⟨rfl, rfl⟩, H3.out.2.2.2.2.1⟩
        case round =>
          obtain ⟨k, B, rfl, hk, hkp, hN1, hN2, hB, hL⟩ := hrel
          by_cases hkn : k < n
          · have k1 : (k : Int) < (n : Int) := by omega
            have n0 : ¬ n = 0 := by omega
            have hrow := hL.rows k hkn
            have hcell := hL.at hkn
            obtain ⟨len, hlen⟩ : ∃ len, len = (flw l k).length := ⟨_, rfl⟩
            rw [← hlen] at hrow
            obtain ⟨sa, cs, hv⟩ := row_shape hrow
            rw [hv] at hcell
            have HV : Hid (vs k = .slice sa len cs ∧ len = (flw l k).length) := ⟨hv, hlen⟩
            have H4 : Hid (Keeps None w wr ∧ IsN wr g1 n (rk l k) ∧ IsN wr g2 n B ∧ GoodB n l (rk l k) B ∧ IsL wr base g n vs (flw l)) := ⟨hkp, hN1, hN2, hB, hL⟩
            have hl16 : len ≤ 16384 := by rw [hlen]; exact Nat.le_trans (flw_len l k) HD.out.len
            clear hkp hN1 hN2 hB hL hrow hv hlen
            go_wp2_with fail
            go_loopw [39, 8] (fun s39 _ wx => ∃ (j : Nat) (B : Nat → Int), s39 = .int .i64 j ∧ j ≤ len ∧ Keeps None w wx ∧ IsN wx g1 n (mid l k ((flw l k).take j)) ∧ IsN wx g2 n B ∧ GoodB n l (mid l k ((flw l k).take j)) B ∧ IsL wx base g n vs (flw l)) (fun s39 _ _ => len - (intOf s39).toNat)
            case atStart =>
              refine ⟨0, B, rfl, Nat.zero_le _, H4.out.1, ?_, H4.out.2.2.1, ?_, H4.out.2.2.2.2⟩
              · rw [List.take_zero, mid_nil]; exact H4.out.2.1
              · rw [List.take_zero, mid_nil]; exact H4.out.2.2.2.1
            case round =>
              clear H4
              obtain ⟨j, B, rfl, hj, hkp, hN1, hN2, hB, hL⟩ := hrel
              by_cases hjl : j < len
              · obtain ⟨t, ht, hkt, htn, hed⟩ := flw_at HD.out (k := k) (j := j) (by have := HV.out.2; omega)
                have htn : t < n := by omega
                have hrow := hL.rows k hkn
                rw [← HV.out.2, HV.out.1] at hrow
                obtain ⟨q, rfl, hq, _⟩ := row_at hrow ht
                have j1 : (j : Int) < (len : Int) := by omega
                have l0 : ¬ len = 0 := by omega
                have t1 : (t : Int) < (n : Int) := by omega
                have x1 := hN1.at hkn
                have x2 := hN1.at htn
                have x3 := hN2.at htn
                have z1 := hN1.free t
                have z2 := hN2.free t
                have hself := mid_self HD.out k j
                have hle := rk_le l k k
                have hge := rk_one l k k
                rw [hself] at x1
                have hnx := mid_next ht
                have HC : Hid ((∀ i, mid l k ((flw l k).take (j + 1)) i = if i = t then max (mid l k ((flw l k).take j) t) (rk l k k + 1) else mid l k ((flw l k).take j) i) ∧ ∃ e ∈ l, e.f = k ∧ e.t = t) := ⟨hnx, hed⟩
                have H5 : Hid (Keeps None w wr ∧ IsN wr g1 n (mid l k ((flw l k).take j)) ∧ IsN wr g2 n B ∧ GoodB n l (mid l k ((flw l k).take j)) B ∧ IsL wr base g n vs (flw l)) := ⟨hkp, hN1, hN2, hB, hL⟩
                obtain ⟨v1, hv1⟩ : ∃ v1, v1 = rk l k k := ⟨_, rfl⟩
                obtain ⟨v2, hv2⟩ : ∃ v2, v2 = mid l k ((flw l k).take j) t := ⟨_, rfl⟩
                rw [← hv1] at x1 hle hge
                rw [← hv2] at x2
                have HV2 : Hid (v1 = rk l k k ∧ v2 = mid l k ((flw l k).take j) t) := ⟨hv1, hv2⟩
                have hw : IntKind.i64.wrap (v1 + 1) = v1 + 1 := by rw [IntKind.wrap_i64]; omega
                clear hkp hN1 hN2 hB hL hrow hed hnx hself hv1 hv2
                by_cases hge2 : v2 ≤ v1
                · go_wp2_with fail
                  go_quiet (fail)
                  go_wp2_with fail
                  refine ⟨⟨j + 1, upd B t k, by go_num, by omega, ?_⟩, by simp [intOf]; omega⟩
                  have hs0 := HS0.out
                  have hgb := H3.out.2.2.2.2.2
                  have hlo := H5.out.2.2.2.2.low
                  have hd : Keeps None wr (wr.drewN nq) := Keeps.drewN None _ _
                  have hkS : Keeps (fun q => q = g1 ∨ q = g2) (wr.drewN nq) (((wr.drewN nq).setCell ⟨g1, t, none⟩ (.int .i64 (v1 + 1))).setCell ⟨g2, t, none⟩ (.int .i64 k)) := ((Keeps.refl _ _).andSet (x := ⟨g1, t, none⟩) (.inl (.inl rfl)) _).andSet (x := ⟨g2, t, none⟩) (.inl (.inr rfl)) _
                  have e1 : ∀ i, i < n → upd (mid l k ((flw l k).take j)) t (v1 + 1) i = mid l k ((flw l k).take (j + 1)) i := by
                    intro i hi
                    rw [HC.out.1 i]
                    unfold upd
                    split
                    · rw [← HV2.out.1, ← HV2.out.2]; omega
                    · rfl
                  refine ⟨(H5.out.1.trans hd (fun _ f _ => f)).trans hkS (fun q e hq => by omega), ?_, ?_, ?_, ?_⟩
                  · exact (((H5.out.2.1.kept hd (fun f => f)).set t (v1 + 1)).kept (Keeps.setCell (S := (· = g2)) _ rfl _) (fun e => hne e)).congr e1
                  · exact ((H5.out.2.2.1.kept hd (fun f => f)).kept (Keeps.setCell (S := (· = g1)) (wr.drewN nq) (a := ⟨g1, t, none⟩) rfl (.int .i64 (v1 + 1))) (fun e => hne e.symm)).set t k
                  · refine goodB_same (goodB_set H5.out.2.2.2.1 HC.out.2 (v1 + 1) (by rw [HV2.out.1]; rfl)) (fun i hi => ?_)
                    exact e1 i hi
                  · exact (H5.out.2.2.2.2.more hd).kept hkS (by omega) (fun i b hi e e2 => by have := row_low (H5.out.2.2.2.2.rows i hi) e; omega)
                · go_wp2_with fail
                  go_quiet (fail)
                  go_wp2_with fail
                  refine ⟨⟨j + 1, B, by go_num, by omega, ?_⟩, by simp [intOf]; omega⟩
                  have hd : Keeps None wr (wr.drewN nq) := Keeps.drewN None _ _
                  have e1 : ∀ i, i < n → mid l k ((flw l k).take j) i = mid l k ((flw l k).take (j + 1)) i := by
                    intro i hi
                    rw [HC.out.1 i]
                    split
                    · rename_i e; subst e; rw [← HV2.out.1, ← HV2.out.2]; omega
                    · rfl
                  exact ⟨H5.out.1.trans hd (fun _ f _ => f), (H5.out.2.1.kept hd (fun f => f)).congr e1, H5.out.2.2.1.kept hd (fun f => f), goodB_same H5.out.2.2.2.1 e1, H5.out.2.2.2.2.more hd⟩
              · have j1 : ¬ (j : Int) < (len : Int) := by omega
                have hjl2 : j = (flw l k).length := by have := HV.out.2; omega
                have HN : Hid (Keeps None w wr ∧ IsN wr g1 n (rk l (k + 1)) ∧ IsN wr g2 n B ∧ GoodB n l (rk l (k + 1)) B ∧ IsL wr base g n vs (flw l)) := by
                  rw [hjl2, List.take_length, mid_all] at hN1 hB
                  exact ⟨hkp, hN1, hN2, hB, hL⟩
                clear hkp hN1 hN2 hB hL hjl2
                go_wp2_with fail
                exact ⟨⟨k + 1, B, by go_num, by omega, HN.out⟩, by simp [intOf]; omega⟩
          · have k1 : ¬ (k : Int) < (n : Int) := by omega
            obtain rfl : n = k := by omega
            have HN : Hid (IsN wr g1 n (R l) ∧ IsN wr g2 n B ∧ GoodB n l (R l) B ∧ w.heap.size ≤ g1 ∧ w.heap.size ≤ g2 ∧ g1 ≠ g2 ∧ Keeps None w wr) := by
              have e : ∀ j, j < n → rk l n j = R l j := fun j hj => rk_settled HD.out j n (by omega)
              have hs0 := HS0.out
              refine ⟨hN1.congr e, hN2, fun j hj => ?_, by omega, by omega, hne, hkp⟩
              rw [← e j hj]
              exact hB j hj
            clear hkp hN1 hN2 hB hL
            go_wp2_with fail
            go_ret2
            refine ⟨_, _, rfl, HN.out.1, ?_⟩
            first | exact ⟨_, HN.out.2⟩ | exact ⟨⟨_, HN.out.2.1, HN.out.2.2.1⟩, HN.out.2.2.2⟩ | exact ⟨_, HN.out.2.1, HN.out.2.2.1, HN.out.2.2.2⟩
end Go.Proofs.YtlbkfehakomicaaDoor.Dg
/-! What stands while a law of a dag is walked. -/
namespace Go.Proofs.YtlbkfehakomicaaDoor.Dg
set_option linter.unusedVariables false
set_option maxRecDepth 20000
open Go.RowKit Go.HeapKit

structure St (w wr : World) (s0 p g m cap : Nat) (n : Int) (a : Option Addr) (c : Nat) (l L : List Ed) : Prop where
  b0 : wr.heap[s0]? = some (.cells #[.int .i64 n, .slice a m c] 34 (0, 0))
  bc : wr.heap[p]? = some (.cells #[.int .i64 n, .slice (some ⟨g, 0, none⟩) m cap] 34 (0, 0))
  room : RoomE wr w.heap.size g m cap L
  seen : SeenE wr a m l
  keeps : Keeps None w wr
  gp : g ≠ p ∧ g ≠ s0
  al : ∀ x, a = some x → 0 < m → x.block < w.heap.size
section
variable {w wr w' : World} {s0 p g m cap : Nat} {n : Int} {a : Option Addr} {c : Nat} {l L : List Ed}
theorem St.more (h : St w wr s0 p g m cap n a c l L) (hk : Keeps None wr w') : St w w' s0 p g m cap n a c l L :=
  ⟨blk_kept h.b0 hk (fun f => f), blk_kept h.bc hk (fun f => f), h.room.kept hk (fun f => f), h.seen.more hk, h.keeps.trans hk (fun _ f _ => f), h.gp, h.al⟩
theorem SeenE.lt {w : World} {a : Option Addr} {m : Nat} {l : List Ed} (h : SeenE w a m l) : ∀ x, a = some x → 0 < m → x.block < w.heap.size := by
  intro x hx h0
  obtain ⟨b, off, e, hb, _⟩ := h.ex h0
  rw [e] at hx
  injection hx with hx
  subst hx
  exact hb
theorem St.start {w1 : World} (hs0 : s0 = w.heap.size) (h : SeenE w a m l) (hb : w1.heap[s0]? = some (.cells #[.int .i64 n, .slice a m c] 34 (0, 0))) (hR : RoomE w1 (s0 + 1) g m cap L) (hk : Keeps None w w1) (hp : w1.heap.size = p) :
    St w (w1.alloc (.cells #[.int .i64 n, .slice (some ⟨g, 0, none⟩) m cap] 34)) s0 p g m cap n a c l L := by
  have hg := hR.lt
  have hlo := hR.low
  refine ⟨blk_old hb _, blk_new _ _ _ hp, ⟨hR.len, row_base (hR.kept (Keeps.alloc None w1 _) (fun f => f)).row (by omega)⟩, (h.more hk).more (Keeps.alloc None w1 _), hk.andAlloc _, ⟨by omega, by omega⟩, h.lt⟩
theorem St.back (h : St w wr s0 p g m cap n a c l L) (hR : RoomE w' w.heap.size g m cap l) (hk : Keeps (· = g) wr w') : St w w' s0 p g m cap n a c l l :=
  ⟨blk_kept h.b0 hk (fun e => h.gp.2 e.symm), blk_kept h.bc hk (fun e => h.gp.1 e.symm), hR, ⟨h.seen.len, fun h0 => by
      obtain ⟨b, off, e, hb, hc⟩ := h.seen.ex h0
      have hlt := h.al _ e h0
      have hlo := h.room.low
      exact ⟨b, off, e, Nat.lt_of_lt_of_le hb hk.size, fun k i hi => (hc k i hi).kept hk (fun e2 => by simp only at hlt; omega)⟩⟩,
    h.keeps.trans hk (fun i e hi => by have := h.room.low; omega), h.gp, h.al⟩
theorem St.c0 (h : St w wr s0 p g m cap n a c l L) : wr.cell? ⟨s0, 0, none⟩ = some (.int .i64 n) := (blk_cell h.b0 0).trans rfl
theorem St.c1 (h : St w wr s0 p g m cap n a c l L) : wr.cell? ⟨s0, 1, none⟩ = some (.slice a m c) := (blk_cell h.b0 1).trans rfl
theorem St.p0 (h : St w wr s0 p g m cap n a c l L) : wr.cell? ⟨p, 0, none⟩ = some (.int .i64 n) := (blk_cell h.bc 0).trans rfl
theorem St.p1 (h : St w wr s0 p g m cap n a c l L) : wr.cell? ⟨p, 1, none⟩ = some (.slice (some ⟨g, 0, none⟩) m cap) := (blk_cell h.bc 1).trans rfl
theorem St.own (h : St w wr s0 p g m cap n a c l L) : SeenE wr (some ⟨g, 0, none⟩) m L := h.room.seen
theorem St.apart (h : St w wr s0 p g m cap n a c l L) (h0 : 0 < m) : ∀ x, a = some x → x.block ≠ g := fun x hx e => by
  have := h.al x hx h0
  have := h.room.low
  omega
end
end Go.Proofs.YtlbkfehakomicaaDoor.Dg
/-! Earliest: the program's and the document's; lists compared and spoilt. -/
namespace Go.Proofs.YtlbkfehakomicaaDoor.Dg
set_option linter.unusedVariables false
set_option maxRecDepth 20000
open Go.RowKit Go.HeapKit

def earV (n : Int) (l : List Ed) : List Int := if checkV n l = 0 then (List.range n.toNat).map (R l) else []
theorem ear_ok {n : Nat} {l : List Ed} (h : checkV n l = 0) : earV n l = (List.range n).map (R l) := by
  unfold earV
  rw [if_pos h]
  simp
theorem ear_bad {n : Int} {l : List Ed} (h : ¬ checkV n l = 0) : earV n l = [] := by
  unfold earV
  rw [if_neg h]
theorem ear_len (n : Int) (l : List Ed) : (earV n l).length ≤ 4096 := by
  by_cases h : checkV n l = 0
  · have hd := dag_of h
    have := hd.hi
    unfold earV
    rw [if_pos h]
    simp
    omega
  · rw [ear_bad h]; simp
--IF dag.Earliest
theorem iv_set (l : List Int) (k : Nat) (x : Int) : (iv l).set k (.int .i64 x) = iv (l.set k x) := by simp [iv, List.map_set]
--IF plunderlaw7.spoilt
end Go.Proofs.YtlbkfehakomicaaDoor.Dg
/-! A longest path: the program's. -/
namespace Go.Proofs.YtlbkfehakomicaaDoor.Dg
set_option linter.unusedVariables false
set_option maxRecDepth 20000
open Go.RowKit Go.HeapKit

set_option maxHeartbeats 1600000 in
theorem max_any (g n cap : Nat) (F : Nat → Int) (w : World) (h : IsN w g n F) (h1 : 1 ≤ n) (hn : n ≤ 4096) :
    Calls Tryd.prog 50 #[.slice (some ⟨g, 0, none⟩) n cap] w fun e w' => ∃ x, e = .returned (.int .i64 x) ∧ (∃ j, j < n ∧ F j = x) ∧ (∀ i, i < n → F i ≤ x) ∧ w' = w := by
  have H : Hid (IsN w g n F) := h
  have c0 := h.at (show 0 < n by omega)
  have n0 : ¬ n = 0 := by omega
  have i0 : (0 : Int) < (n : Int) := by omega
  have i1 : ¬ (n : Int) < 1 := by omega
  clear h
  go_enter Tryd.func50, Tryd.ntmps50
  go_wp2_with fail
  go_loopw [3, 4] (fun s3 s4 wr => ∃ (k : Nat) (x : Int), s3 = .int .i64 x ∧ s4 = .int .i64 k ∧ 1 ≤ k ∧ k ≤ n ∧ (∃ j, j < n ∧ F j = x) ∧ (∀ i, i < k → F i ≤ x) ∧ wr = w) (fun _ s4 _ => n - (intOf s4).toNat)
  case atStart => exact ⟨1, F 0, rfl, rfl, Nat.le_refl _, h1, ⟨0, by omega, rfl⟩, (fun i hi => by rw [show i = 0 by omega]; exact Int.le_refl _), rfl⟩
  case round =>
    obtain ⟨k, x, rfl, rfl, hk1, hk, hex, hall, hwr⟩ := hrel
    subst hwr
    have HH : Hid ((∃ j, j < n ∧ F j = x) ∧ ∀ i, i < k → F i ≤ x) := ⟨hex, hall⟩
    clear hex hall
    by_cases hlt : k < n
    · have k1 : (k : Int) < (n : Int) := by omega
      have ck := H.out.at hlt
      generalize hy : F k = y at ck
      have HY : Hid (F k = y) := hy
      clear hy
      go_wp2_with fail
      refine ⟨⟨k + 1, _, rfl, by go_num, by omega, by omega, ?_, fun i hi => ?_, trivial⟩, by simp [intOf]; omega⟩
      · first
          | split
          | (rw [Int.max_def]; split)
        · exact ⟨k, hlt, HY.out⟩
        · exact HH.out.1
      · by_cases e : i = k
        · subst e
          rw [HY.out]
          first
            | (split <;> omega)
            | (rw [Int.max_def]; split <;> omega)
        · have := HH.out.2 i (by omega)
          first
            | (split <;> omega)
            | (rw [Int.max_def]; split <;> omega)
    · have k1 : ¬ (k : Int) < (n : Int) := by omega
      obtain rfl : n = k := by omega
      go_wp2_with fail
      go_ret
      exact ⟨_, rfl, HH.out.1, HH.out.2, rfl⟩
set_option maxHeartbeats 1600000 in
theorem index_any (g n cap : Nat) (F : Nat → Int) (x : Int) (w : World) (h : IsN w g n F) (hx : ∃ j, j < n ∧ F j = x) (hn : n ≤ 4096) :
    Calls Tryd.prog 49 #[.slice (some ⟨g, 0, none⟩) n cap, .int .i64 x] w fun e w' => ∃ i : Nat, e = .returned (.int .i64 i) ∧ i < n ∧ F i = x ∧ w' = w := by
  have H : Hid (IsN w g n F ∧ ∃ j, j < n ∧ F j = x) := ⟨h, hx⟩
  clear h hx
  go_enter Tryd.func49, Tryd.ntmps49
  go_wp2_with fail
  go_loopw [8, 5] (fun s8 _ wr => ∃ k : Nat, s8 = .int .i64 k ∧ k ≤ n ∧ (∀ i, i < k → F i ≠ x) ∧ wr = w) (fun s8 _ _ => n - (intOf s8).toNat)
  case atStart => exact ⟨0, rfl, Nat.zero_le _, (fun i hi => by omega), rfl⟩
  case round =>
    obtain ⟨k, rfl, hk, hall, hwr⟩ := hrel
    subst hwr
    have HH : Hid (∀ i, i < k → F i ≠ x) := hall
    clear hall
    have hlt : k < n := by
      obtain ⟨j, hj, e⟩ := H.out.2
      have : ¬ j < k := fun hlt => HH.out j hlt e
      omega
    have k1 : (k : Int) < (n : Int) := by omega
    have n0 : ¬ n = 0 := by omega
    have ck := H.out.1.at hlt
    generalize hy : F k = y at ck
    have HY : Hid (F k = y) := hy
    clear hy
    by_cases e : x = y
    · have eb : (x == y) = true := by simpa using e
      have HE : Hid (x = y) := e
      clear e
      go_wp2_with fail
      go_ret
      exact ⟨_, rfl, hlt, by rw [HY.out, HE.out], rfl⟩
    · have eb : (x == y) = false := by simpa using e
      have HE : Hid (¬ x = y) := e
      go_wp2_with fail
      refine ⟨⟨k + 1, by go_num, by omega, fun i hi => ?_, trivial⟩, by simp [intOf]; omega⟩
      by_cases e2 : i = k
      · subst e2
        rw [HY.out]
        exact fun h => HE.out h.symm
      · exact HH.out i (by omega)
end Go.Proofs.YtlbkfehakomicaaDoor.Dg
/-! Earliest: the document's. -/
namespace Go.Proofs.YtlbkfehakomicaaDoor.Dg
set_option linter.unusedVariables false
set_option maxRecDepth 20000
open Go.RowKit Go.HeapKit

theorem bef_at {n : Int} {l : List Ed} (hd : Dag n l) {k j : Nat} (hj : j < (bef l k).length) : ∃ t : Nat, (bef l k)[j]? = some (t : Int) ∧ t < k := by
  have hm : (bef l k)[j] ∈ bef l k := List.getElem_mem hj
  obtain ⟨e, he, h1, h2⟩ := mem_bef.1 hm
  have hok := hd.ok e he
  refine ⟨e.f.toNat, ?_, by omega⟩
  rw [List.getElem?_eq_getElem hj, ← h2]
  congr 1
  omega
/-- The lengths of the nodes below i, and v at i. -/
def upTo (l : List Ed) (i : Nat) (v : Int) (j : Nat) : Int := if j < i then R l j else if j = i then v else 0
theorem upTo_set (l : List Ed) (i : Nat) (v v' : Int) (j : Nat) : upd (upTo l i v) i v' j = upTo l i v' j := by
  unfold upd upTo
  by_cases e : j = i
  · subst e; simp
  · simp [e]
theorem upTo_next {n : Int} {l : List Ed} (hd : Dag n l) (i j : Nat) : upTo l i (upR l (bef l i)) j = upTo l (i + 1) 0 j := by
  rw [upR_bef hd]
  unfold upTo
  by_cases e : j < i
  · rw [if_pos e, if_pos (by omega)]
  · rw [if_neg e]
    by_cases e2 : j = i
    · rw [if_pos e2, if_pos (by omega), e2]
    · rw [if_neg e2, if_neg (by omega)]
      split <;> rfl
theorem upR_le {n : Int} {l : List Ed} (hd : Dag n l) (i j : Nat) : upR l ((bef l i).take j) ≤ i + 1 := by
  rcases foldmax_eq (fun a => R l a.toNat + 1) ((bef l i).take j) 1 with h | ⟨a, ha, h⟩
  · have : upR l ((bef l i).take j) = 1 := h
    omega
  · have h2 : upR l ((bef l i).take j) = R l a.toNat + 1 := h
    obtain ⟨e, he, h3, h4⟩ := mem_bef.1 (List.mem_of_mem_take ha)
    have := hd.ok e he
    have := R_le l a.toNat
    omega
end Go.Proofs.YtlbkfehakomicaaDoor.Dg
/-! Critical and Span; the document's Span. -/
namespace Go.Proofs.YtlbkfehakomicaaDoor.Dg
set_option linter.unusedVariables false
set_option maxRecDepth 20000
open Go.RowKit Go.HeapKit

def revAt (n i : Nat) (F : Nat → Int) (k : Nat) : Int := if k < i ∨ n < k + 1 + i then F (n - 1 - k) else F k
theorem rev_start (n : Nat) (F : Nat → Int) (h1 : 1 ≤ n) : (List.range n).map (revAt n 0 F) = (List.range n).map F := by
  apply List.map_congr_left
  intro k hk
  have := List.mem_range.1 hk
  unfold revAt
  rw [if_neg (by omega)]
theorem rev_step (n i j : Nat) (F : Nat → Int) (hj : j = n - 1 - i) (hij : i + 1 + i < n) : (((List.range n).map (revAt n i F)).set i (revAt n i F j)).set j (revAt n i F i) = (List.range n).map (revAt n (i + 1) F) := by
  rw [map_range_set, map_range_set]
  apply List.map_congr_left
  intro k hk
  have hk := List.mem_range.1 hk
  unfold revAt
  by_cases e1 : k = j
  · rw [if_pos e1, if_neg (by omega), if_pos (by omega)]
    congr 1
    omega
  · rw [if_neg e1]
    by_cases e2 : k = i
    · rw [if_pos e2, if_neg (by omega), if_pos (by omega)]
      congr 1
      omega
    · rw [if_neg e2]
      by_cases e3 : k < i ∨ n < k + 1 + i
      · rw [if_pos e3, if_pos (by omega)]
      · rw [if_neg e3, if_neg (by omega)]
theorem rev_end (n i : Nat) (F : Nat → Int) (hi : ¬ i + 1 + i < n) (h2 : 2 * i ≤ n) : (List.range n).map (revAt n i F) = (List.range n).map (fun k => F (n - 1 - k)) := by
  apply List.map_congr_left
  intro k hk
  have hk := List.mem_range.1 hk
  unfold revAt
  by_cases e3 : k < i ∨ n < k + 1 + i
  · rw [if_pos e3]
  · rw [if_neg e3]
    congr 1
    omega
set_option maxHeartbeats 1000000 in
theorem rev_row (g n cap base : Nat) (F : Nat → Int) (w : World) (h : w.ownsRow base 3 1 (.slice (some ⟨g, 0, none⟩) n cap) n (iv ((List.range n).map F))) (h1 : 1 ≤ n) (hn : n ≤ 4096) :
    Calls Tryd.prog 51 #[.slice (some ⟨g, 0, none⟩) n cap] w fun e w' => e = .returned (.tuple #[]) ∧ w'.ownsRow base 3 1 (.slice (some ⟨g, 0, none⟩) n cap) n (iv ((List.range n).map (fun k => F (n - 1 - k)))) ∧ Keeps (· = g) w w' := by
  have H : Hid (w.ownsRow base 3 1 (.slice (some ⟨g, 0, none⟩) n cap) n (iv ((List.range n).map F))) := h
  have mixed : Tryd.prog.follows Departure.mixedOrders = true := by kernel_rfl
  clear h
  go_enter Tryd.func51, Tryd.ntmps51
  go_wp2_with fail
  go_loopw [2, 3] (fun s2 s3 wr => ∃ i : Nat, s2 = .int .i64 i ∧ s3 = .int .i64 ((n : Int) - 1 - i) ∧ 2 * i ≤ n ∧ wr.ownsRow base 3 1 (.slice (some ⟨g, 0, none⟩) n cap) n (iv ((List.range n).map (revAt n i F))) ∧ Keeps (· = g) w wr) (fun _ s3 _ => (intOf s3 + 1).toNat)
  case atStart =>
    exact ⟨0, rfl, by simp, by omega, by rw [rev_start n F h1]; exact H.out, Keeps.refl _ _⟩
  case round =>
    obtain ⟨i, rfl, rfl, hi2, hP, hk⟩ := hrel
    by_cases hlt : i + 1 + i < n
    · have i1 : (i : Int) < (n : Int) - 1 - i := by omega
      obtain ⟨j, hj⟩ : ∃ j : Nat, j = n - 1 - i := ⟨_, rfl⟩
      have ej : (n : Int) - 1 - i = j := by omega
      rw [ej] at i1 ⊢
      have q0 : ((List.range n).map (revAt n i F))[i]? = some (revAt n i F i) := by rw [List.getElem?_map, List.getElem?_range (by omega)]; rfl
      have q1 : ((List.range n).map (revAt n i F))[j]? = some (revAt n i F j) := by rw [List.getElem?_map, List.getElem?_range (by omega)]; rfl
      obtain ⟨g', e0, c0, z0⟩ := row_at hP q0
      obtain ⟨g'', e1, c1, z1⟩ := row_at hP q1
      injection e0 with e0
      injection e0 with e0
      injection e1 with e1
      injection e1 with e1
      rw [← e0] at c0 z0
      rw [← e1] at c1 z1
      clear e0 e1 q0 q1
      have i2 : (i : Int) < (n : Int) := by omega
      have i3 : (j : Int) < (n : Int) := by omega
      have i4 : ¬ n = 0 := by omega
      have i5 : ¬ i = j := by omega
      have hq := row_set (row_set hP i (.int .i64 (revAt n i F j))) j (.int .i64 (revAt n i F i))
      rw [iv_set, iv_set, rev_step n i j F hj hlt] at hq
      have hkk := (hk.andSet (x := ⟨g, i, none⟩) (.inl rfl) (.int .i64 (revAt n i F j))).andSet (x := ⟨g, j, none⟩) (.inl rfl) (.int .i64 (revAt n i F i))
      obtain ⟨u, hu⟩ : ∃ u, u = revAt n i F i := ⟨_, rfl⟩
      obtain ⟨v, hv⟩ : ∃ v, v = revAt n i F j := ⟨_, rfl⟩
      rw [← hu] at c0 hq hkk
      rw [← hv] at c1 hq hkk
      have HQ : Hid (((wr.setCell ⟨g, i, none⟩ (.int .i64 v)).setCell ⟨g, j, none⟩ (.int .i64 u)).ownsRow base 3 1 (.slice (some ⟨g, 0, none⟩) n cap) n (iv ((List.range n).map (revAt n (i + 1) F))) ∧ Keeps (· = g) w ((wr.setCell ⟨g, i, none⟩ (.int .i64 v)).setCell ⟨g, j, none⟩ (.int .i64 u)) ∧ j = n - 1 - i) := ⟨hq, hkk, hj⟩
      clear hq hkk hu hv hj hP hk ej
      go_wp2_with fail
      go_region_o
      all_goals go_wp2_with fail
      all_goals
        have hP := row_kept HQ.out.1 (Keeps.drew None _) (fun _ _ f => f)
        have hk := HQ.out.2.1.andDrew
        have hj := HQ.out.2.2
        exact ⟨⟨i + 1, by simp, by congr 1; omega, by omega, hP, hk⟩, by first | (simp [intOf]; done) | (simp [intOf]; omega)⟩
    · have i1 : ¬ ((i : Int) < (n : Int) - 1 - i) := by omega
      go_wp2_with fail
      go_end0
      exact ⟨rfl, by rw [rev_end n i F hlt hi2] at hP; exact hP, hk⟩
theorem make_cap (n : Nat) (w : World) (hn : n ≤ 4096) : (Instr.makeSlice 41 (.int .i64 0) (.int .i64 n)).run Tryd.prog w = .ok (.slice (some ⟨w.heap.size, 0, none⟩) 0 n) (w.alloc (.cells ((List.range n).map (fun _ => Value.int .i64 0)).toArray 3)) := by
  obtain ⟨i0, hi, hz0, hz1, hz2⟩ := info_parts Tryd.infoInt
  have hr := run_make (P := Tryd.prog) w 41 3 i0 _ Tryd.underlying41 hi hz0 .i64 .i64 0 n (Int.le_refl _) (by omega) (by rw [hz2]; omega) (by omega)
  rw [hr, hz1, made_one _ rfl]
  simp
/-- What Critical answers. -/
def critV (n : Int) (l : List Ed) (path : List Int) : Prop := (path.length : Int) = grt (earV n l) ∧ PathOk n l path
set_option maxHeartbeats 3200000 in
theorem path_any (n : Nat) (a : Option Addr) (m c : Nat) (l : List Ed) (w : World) (h : SeenE w a m l) (hd : Dag (n : Int) l) :
    Calls Tryd.prog 34 #[dagV n a m c] w fun e w' => ∃ v path, e = .returned v ∧ w'.ownsRow w.heap.size 3 1 v path.length (iv path) ∧ critV n l path ∧ Keeps None w w' := by
  have HS : Hid (SeenE w a m l) := h
  have HD : Hid (Dag (n : Int) l) := hd
  have HC : Hid (earV n l = (List.range n).map (R l)) := ear_ok (dag_check hd)
  have hn : n ≤ 4096 := by have := hd.hi; omega
  clear h hd
  obtain ⟨s0, hs0⟩ : ∃ s0, s0 = w.heap.size := ⟨_, rfl⟩
  have HS0 : Hid (s0 = w.heap.size) := hs0
  unfold dagV
  by_cases hz : n = 0
  · have HZ : Hid (n = 0) := hz
    have e1 : ((n : Int) == 0) = true := by simpa using hz
    have e2 : (n : Int) = 0 := by omega
    clear hz hs0
    go_enter Tryd.func34, Tryd.ntmps34
    go_wp2_with fail
    go_ret
    refine ⟨_, [], rfl, row_nil _ _ _ _, ⟨?_, ⟨(fun x hx => by cases hx), (fun i x y hx => by simp at hx)⟩⟩, keeps1 _ _⟩
    rw [HC.out, HZ.out]
    rfl
  · have e1 : ((n : Int) == 0) = false := by simpa using hz
    have e2 : ¬ (n : Int) = 0 := by omega
    go_enter Tryd.func34, Tryd.ntmps34
    go_wp2_with fail
    have hk0 := keeps1 w (.cells #[.int .i64 n, .slice a m c] 34)
    refine (longest_any n a m c l _ (HS.out.more hk0) HD.out).mono ?_
    rintro e w2 ⟨g1, g2, B, rfl, hN1, hN2, hB, hg1, hg2, hne, hk⟩
    have H1 : Hid (IsN w2 g1 n (R l) ∧ IsN w2 g2 n B ∧ GoodB n l (R l) B ∧ Keeps None w w2) := ⟨hN1, hN2, hB, hk0.trans hk (fun _ f _ => f)⟩
    clear hN1 hN2 hB hg1 hg2 hne hk hk0 hs0
    go_wp2_with fail
    refine (max_any g1 n n (R l) _ H1.out.1 (by omega) hn).mono ?_
    rintro e w2' ⟨x, rfl, hx1, hx2, hw⟩
    have hw2 := hw.symm
    subst hw2
    clear hw
    have HX : Hid ((∃ j, j < n ∧ R l j = x) ∧ ∀ i, i < n → R l i ≤ x) := ⟨hx1, hx2⟩
    clear hx1 hx2
    go_wp2_with fail
    refine (index_any g1 n n (R l) x _ H1.out.1 HX.out.1 hn).mono ?_
    rintro e w2'' ⟨last, rfl, hl1, hl2, hw⟩
    have hw2 := hw.symm
    subst hw2
    clear hw
    have HL : Hid (R l last = x ∧ grt (earV n l) = x) := by
      refine ⟨hl2, ?_⟩
      rw [HC.out]
      exact grt_is HX.out.1 HX.out.2 (by rw [← hl2]; have := R_one l last; omega)
    have x1 := H1.out.1.at hl1
    rw [hl2] at x1
    obtain ⟨X, rfl⟩ := Int.eq_ofNat_of_zero_le (show 0 ≤ x by rw [← hl2]; have := R_one l last; omega)
    have hX : 1 ≤ X ∧ X ≤ 4096 := by
      have h1 := R_one l last
      have h2 := R_le l last
      omega
    have i1 : (last : Int) < (n : Int) := by omega
    have hmk := make_cap X w2 hX.2
    clear hl2
    go_wp2_with (at_make; refine wpList_make_run rfl (.const (.int .i64 0)) (.tmp 23) 41 rfl rfl rfl hmk ?_)
    have hk3 := Keeps.alloc None w2 (.cells ((List.range X).map (fun _ => Value.int .i64 0)).toArray 3)
    have hr0 : (w2.alloc (.cells ((List.range X).map (fun _ => Value.int .i64 0)).toArray 3)).ownsRow w2.heap.size 3 1 (.slice (some ⟨w2.heap.size, 0, none⟩) 0 X) 0 (iv []) :=
      ⟨rfl, .inr ⟨_, _, _, rfl, Nat.le_refl _, blk_new _ _ _ rfl, Nat.zero_le _, by unfold maxLen; omega, by simp, by simp [iv]⟩⟩
    have H2 : Hid (IsN (w2.alloc (.cells ((List.range X).map (fun _ => Value.int .i64 0)).toArray 3)) g2 n B ∧ g2 < w2.heap.size ∧ Keeps None w (w2.alloc (.cells ((List.range X).map (fun _ => Value.int .i64 0)).toArray 3)) ∧ (w2.alloc (.cells ((List.range X).map (fun _ => Value.int .i64 0)).toArray 3)).ownsRow w2.heap.size 3 1 (.slice (some ⟨w2.heap.size, 0, none⟩) 0 X) 0 (iv []) ∧ w.heap.size ≤ w2.heap.size ∧ GoodB n l (R l) B) :=
      ⟨H1.out.2.1.kept hk3 (fun f => f), H1.out.2.1.lt, H1.out.2.2.2.trans hk3 (fun _ f _ => f), hr0, H1.out.2.2.2.size, H1.out.2.2.1⟩
    obtain ⟨P, hP⟩ : ∃ P, P = w2.heap.size := ⟨_, rfl⟩
    rw [← hP] at H2 ⊢
    clear hmk hk3 hr0 hP
    go_wp2_with fail
    generalize (w2.alloc (.cells ((List.range X).map (fun _ => Value.int .i64 0)).toArray 3)) = w3 at *
    go_loopw [6, 7] (fun s6 s7 wr => ∃ (k : Nat) (acc : List Int) (node : Int) (g c : Nat), s6 = .slice (some ⟨g, 0, none⟩) k c ∧ s7 = .int .i64 node ∧ k = acc.length ∧ Trace n l last acc node ∧ wr.ownsRow P 3 1 (.slice (some ⟨g, 0, none⟩) k c) k (iv acc) ∧ IsN wr g2 n B ∧ Keeps None w wr) (fun s6 s7 _ => (intOf s7 + 1).toNat)
    case atStart => exact ⟨0, [], last, P, X, rfl, rfl, rfl, Trace.start hl1, H2.out.2.2.2.1, H2.out.1, H2.out.2.2.1⟩
    case round =>
      obtain ⟨k, acc, node, g, c', rfl, rfl, hka, hT, hrow, hN2, hkp⟩ := hrel
      rcases hT.neg with hm | ⟨q, rfl, hq⟩
      · have hm1 : ¬ 0 ≤ node := by omega
        subst hm
        obtain ⟨h1, h2⟩ := hT.done
        have HN : Hid (wr.ownsRow P 3 1 (.slice (some ⟨g, 0, none⟩) k c') k (iv ((List.range k).map (fun j => acc.getD j 0))) ∧ Keeps None w wr ∧ critV n l acc.reverse ∧ k = acc.length ∧ P ≤ g) := by
          refine ⟨?_, hkp, ⟨?_, h2⟩, hka, row_low hrow rfl⟩
          · rw [hka, map_range_self, ← hka]; exact hrow
          · rw [HL.out.2, List.length_reverse, h1, HL.out.1]
        have hk1 : 1 ≤ k := by have := R_one l last; omega
        have hk4 : k ≤ 4096 := by have := HL.out.1; omega
        clear hT hrow hN2 hkp h1 h2 hka
        go_wp2_with fail
        refine (rev_row g k c' P _ _ HN.out.1 hk1 hk4).mono ?_
        rintro e w5 ⟨rfl, hr5, hk5⟩
        have HQ : Hid (w5.ownsRow w.heap.size 3 1 (.slice (some ⟨g, 0, none⟩) k c') acc.reverse.length (iv acc.reverse) ∧ critV n l acc.reverse ∧ Keeps None w w5) := by
          have hP := H2.out.2.2.2.2.1
          have hPg := HN.out.2.2.2.2
          refine ⟨?_, HN.out.2.2.1, HN.out.2.1.trans hk5 (fun i e hi => by omega)⟩
          rw [HN.out.2.2.2.1, map_range_rev] at hr5
          rw [HN.out.2.2.2.1, List.length_reverse]
          exact row_base hr5 (by omega)
        clear hr5 hk5
        go_wp2_with fail
        go_ret
        exact ⟨_, _, rfl, HQ.out⟩
      · obtain ⟨hq2, hlt, hT2⟩ := hT.step HD.out H2.out.2.2.2.2.2
        have x2 := hN2.at hq
        have hq1 : (q : Int) < (n : Int) := by omega
        have hk4 : k ≤ 4096 := by have := HL.out.1; omega
        have hP := H2.out.2.2.2.2.1
        have hsz := hkp.size
        obtain ⟨gg, cp, w5, hr, ho, hk2, hm⟩ := int_more P (.slice (some ⟨g, 0, none⟩) k c') acc q k 41 wr.heap.size (wr.alloc (.cells #[.int .i64 q] 3)) hka (row_kept hrow (Keeps.alloc None wr _) (fun _ _ f => f)) (by have := own_lt hrow (g := g) rfl; have := row_low hrow (g := g) rfl; simp; omega) (by omega) (blk_new _ _ _ rfl)
        have hgS : ¬ (Value.slice (some ⟨g, 0, none⟩) k c').ownBlock = some g2 := fun e => by have := row_low hrow e; have := H2.out.2.1; omega
        have HN : Hid (Trace n l last (acc ++ [(q : Int)]) (B q) ∧ w5.ownsRow P 3 1 (.slice (some ⟨gg, 0, none⟩) (k + 1) cp) (k + 1) (iv (acc ++ [(q : Int)])) ∧ IsN w5 g2 n B ∧ Keeps None w w5 ∧ k = acc.length) :=
          ⟨hT2, ho, (hN2.kept (Keeps.alloc None wr _) (fun f => f)).kept hk2 hgS, (hkp.andAlloc _).trans hk2 (fun i e hi => by have := row_low hrow e; omega), hka⟩
        have x3 : w5.cell? ⟨g2, q, none⟩ = some (.int .i64 (B q)) := HN.out.2.2.1.at hq
        have hlq : Hid (B q = -1 ∨ B q < q) := by
          rcases H2.out.2.2.2.2.2 q hq with ⟨b1, _⟩ | ⟨e, he, b, hb1, hb2, hb3, _⟩
          · exact .inl b1
          · have := HD.out.ok e he
            exact .inr (by omega)
        generalize hy : B q = y at x3 hlq
        have HY : Hid (B q = y) := hy
        clear hT hrow hN2 hkp hT2 ho hk2 hm hgS hy hka hlt
        go_wp2_with (at_builtin; refine wpList_append_run rfl (.tmp 32) (.tmp 34) 41 41 rfl rfl rfl hr ?_)
        refine ⟨⟨k + 1, acc ++ [(q : Int)], y, gg, cp, rfl, rfl, by simp [HN.out.2.2.2.2], by rw [← HY.out]; exact HN.out.1, HN.out.2.1, HN.out.2.2.1, HN.out.2.2.2.1⟩, ?_⟩
        have h := hlq.out
        simp [intOf]
        omega
end Go.Proofs.YtlbkfehakomicaaDoor.Dg
/-! Critical and Span: the program's; the document's Span. -/
namespace Go.Proofs.YtlbkfehakomicaaDoor.Dg
set_option linter.unusedVariables false
set_option maxRecDepth 20000
open Go.RowKit Go.HeapKit

set_option maxHeartbeats 1600000 in
theorem crit_any (n : Int) (a : Option Addr) (m c : Nat) (l : List Ed) (w : World) (h : SeenE w a m l) (hs : m * 16 ≤ 140737488351232) :
    Calls Tryd.prog 19 #[dagV n a m c] w fun e w' => ∃ v path, e = .returned (.tuple #[v, .int .i64 (checkV n l)]) ∧ w'.ownsRow w.heap.size 3 1 v path.length (iv path) ∧ critV n l path ∧ Keeps None w w' := by
  have HS : Hid (SeenE w a m l) := h
  clear h
  obtain ⟨s0, hs0⟩ : ∃ s0, s0 = w.heap.size := ⟨_, rfl⟩
  have HS0 : Hid (s0 = w.heap.size) := hs0
  unfold dagV
  go_enter Tryd.func19, Tryd.ntmps19
  go_wp2_with fail
  have hbox := blk_new w (.cells #[.int .i64 n, .slice a m c] 34) _ rfl
  have hk0 := keeps1 w (.cells #[.int .i64 n, .slice a m c] 34)
  refine (check_any n a m c l _ (HS.out.more hk0) hs).mono ?_
  rintro e w2 ⟨rfl, hk⟩
  rw [← hs0] at hbox ⊢
  have H1 : Hid (w2.heap[s0]? = some (.cells #[.int .i64 n, .slice a m c] 34 (0, 0)) ∧ Keeps None w w2) := ⟨blk_kept hbox hk (fun f => f), hk0.trans hk (fun _ f _ => f)⟩
  have d0 : w2.cell? ⟨s0, 0, none⟩ = some (.int .i64 n) := (blk_cell H1.out.1 0).trans rfl
  have d1 : w2.cell? ⟨s0, 1, none⟩ = some (.slice a m c) := (blk_cell H1.out.1 1).trans rfl
  clear hk0 hbox hk hs0
  by_cases hc : checkV n l = 0
  · have HC : Hid (checkV n l = 0) := hc
    rw [hc]
    have hd := dag_of hc
    obtain ⟨N, rfl⟩ := Int.eq_ofNat_of_zero_le hd.lo
    have HD : Hid (Dag (N : Int) l) := hd
    clear hc hd
    go_wp2_with fail
    refine (path_any N a m c l _ (HS.out.more H1.out.2) HD.out).mono ?_
    rintro e w3 ⟨v, path, rfl, hr, hcr, hk⟩
    have HN : Hid (w3.ownsRow w.heap.size 3 1 v path.length (iv path) ∧ critV N l path ∧ Keeps None w w3) := ⟨row_base hr H1.out.2.size, hcr, H1.out.2.trans hk (fun _ f _ => f)⟩
    clear hr hcr hk
    go_wp2_with fail
    go_ret2
    exact ⟨_, _, by rw [HC.out]; rfl, HN.out⟩
  · have HC : Hid (¬ checkV n l = 0) := hc
    have hb : (checkV n l == 0) = false := by simpa using hc
    have HE : Hid (earV n l = []) := ear_bad hc
    have q0 : ¬ checkV n l = 0 := hc
    clear hc
    go_wp2_with fail
    go_ret2
    refine ⟨_, [], rfl, row_nil _ _ _ _, ⟨?_, ⟨(fun x hx => by cases hx), (fun i x y hx => by simp at hx)⟩⟩, H1.out.2⟩
    rw [HE.out]
    rfl
def spanV (n : Int) (l : List Ed) : Int := grt (earV n l)
theorem crit_len (n : Int) (l : List Ed) : 0 ≤ grt (earV n l) ∧ grt (earV n l) ≤ 4096 := by
  refine ⟨(grt_ge _).1, ?_⟩
  rcases grt_eq (earV n l) with h | h
  · omega
  · by_cases hc : checkV n l = 0
    · have hd := dag_of hc
      have h1 := hd.hi
      unfold earV at h
      rw [if_pos hc] at h
      obtain ⟨j, hj, e⟩ := List.mem_map.1 h
      have hj := List.mem_range.1 hj
      have := R_le l j
      unfold earV
      rw [if_pos hc]
      omega
    · rw [ear_bad hc] at h
      cases h
set_option maxHeartbeats 1600000 in
theorem span_any (n : Int) (a : Option Addr) (m c : Nat) (l : List Ed) (w : World) (h : SeenE w a m l) (hs : m * 16 ≤ 140737488351232) :
    Calls Tryd.prog 9 #[dagV n a m c] w fun e w' => e = .returned (.tuple #[.int .i64 (spanV n l), .int .i64 (checkV n l)]) ∧ Keeps None w w' := by
  have HS : Hid (SeenE w a m l) := h
  clear h
  unfold dagV
  go_enter Tryd.func9, Tryd.ntmps9
  go_wp2_with fail
  have hk0 := keeps1 w (.cells #[.int .i64 n, .slice a m c] 34)
  refine (crit_any n a m c l _ (HS.out.more hk0) hs).mono ?_
  rintro e w2 ⟨v, path, rfl, hr, hcr, hk⟩
  obtain ⟨a1, c1, rfl⟩ := row_shape hr
  have HN : Hid ((path.length : Int) = spanV n l ∧ Keeps None w w2) := ⟨hcr.1, hk0.trans hk (fun _ f _ => f)⟩
  clear hr hcr hk hk0
  go_wp2_with fail
  go_ret2
  exact ⟨by rw [← HN.out.1]; rfl, HN.out.2⟩
--IF plunderref7.Span
end Go.Proofs.YtlbkfehakomicaaDoor.Dg
