import Derived.Test.YtlajblbfelcalabScRNoise
import Derived.Test.YtlajblbfelcalabScSameS
/-! ScriptNoise. -/
namespace Go.Proofs.Ytlajblbfelcalab
set_option linter.unusedVariables false
set_option maxRecDepth 20000
open Go.RowKit Go.HeapKit Go.Sc

theorem noiE_ok {x win n : Int} (h : noiE x win n = 0) : ∃ W m : Nat, x = W ∧ n = m ∧ 1 ≤ W ∧ W ≤ 64 ∧ (W : Int) ≤ win ∧ m ≤ 1048576 := by
  rcases noi_cases x win n with ⟨hg, e⟩ | ⟨hg, ⟨h2, e⟩ | ⟨h2, ⟨h3, e⟩ | ⟨h3, ⟨h4, e⟩ | ⟨h4, e⟩⟩⟩⟩
  · rw [h] at e; cases e
  · rw [h] at e; cases e
  · rw [h] at e; cases e
  · rw [h] at e; cases e
  · obtain ⟨W, rfl, a, b⟩ := goodB_of hg
    exact ⟨W, n.toNat, rfl, by omega, a, b, by omega, by omega⟩
set_option maxHeartbeats 3200000 in
theorem scriptNoise_walk (seed x win y : Int) (w : World) (hs : okI seed) (hw : okI win) :
    Calls Try.prog 6 #[.int .i64 seed, .int .i64 x, .int .i64 win, .int .i64 y] w fun e w' => e = .returned (.bool true) ∧ Below w.heap.size w w' := by
  by_cases hE : noiE x win y = 0
  · obtain ⟨W, n, rfl, rfl, b1, b2, b3, b4⟩ := noiE_ok hE
    have b5 : win ≤ 9223372036854775807 := hw.2
    have HX : Hid (okI seed) := hs
    clear hE hs hw
    go_enter Try.func6, Try.ntmps6
    go_wp2_with fail
    refine (noise_good seed win W n _ HX.out b1 b2 b3 b5 b4).mono ?_
    rintro _ w1 ⟨gp, gd, rfl, hP, hG, hne, l1, l2, hk1⟩
    obtain ⟨D, hD⟩ : ∃ D, D = win - (W : Int) := ⟨_, rfl⟩
    have HD : Hid (D = win - (W : Int)) := hD
    rw [← hD] at hP hG
    have H1 : Hid (IsN w1 gp n (fun i => (pickK seed W D i : Int)) ∧ IsN w1 gd n (drawK seed W D) ∧ Keeps None w w1) := ⟨hP, hG, hk1⟩
    clear hP hG hk1 hD l1 l2
    go_upto_region 2 with fail
    obtain ⟨p1, hp⟩ : ∃ p, p = w1.heap.size := ⟨_, rfl⟩
    have hb := blk_new w1 (.cells #[.slice (some ⟨gp, 0, none⟩) n n, .slice (some ⟨gd, 0, none⟩) n n] 25) _ rfl
    have hkb := keeps1 w1 (.cells #[.slice (some ⟨gp, 0, none⟩) n n, .slice (some ⟨gd, 0, none⟩) n n] 25)
    rw [← hp] at hb ⊢
    generalize w1.alloc (.cells #[.slice (some ⟨gp, 0, none⟩) n n, .slice (some ⟨gd, 0, none⟩) n n] 25) = wb at *
    have H2 : Hid (wb.heap[p1]? = some (.cells #[.slice (some ⟨gp, 0, none⟩) n n, .slice (some ⟨gd, 0, none⟩) n n] 25 (0, 0)) ∧ IsN wb gp n (fun i => (pickK seed W D i : Int)) ∧ IsN wb gd n (drawK seed W D) ∧ Keeps None w wb) :=
      ⟨hb, H1.out.1.more hkb, H1.out.2.1.more hkb, H1.out.2.2.trans hkb (fun _ f _ => f)⟩
    clear hp hb hkb H1
    go_wp2_with fail
    refine (noise_good seed win W n _ HX.out b1 b2 b3 b5 b4).mono ?_
    rintro _ w2 ⟨tp, td, rfl, hP, hG, hne2, l1, l2, hk1⟩
    rw [← HD.out] at hP hG
    have hP2 := hP.row tp (Nat.le_refl _) (by omega)
    have hG2 := hG.row td (Nat.le_refl _) (by omega)
    have z1 := H2.out.2.1.lt
    have z2 := H2.out.2.2.1.lt
    have z3 := blk_lt H2.out.1
    have z4 := hP.lt
    have z5 := hG.lt
    have H3 : Hid (IsN w2 tp n (fun i => (pickK seed W D i : Int)) ∧ IsN w2 td n (drawK seed W D) ∧ Keeps None wb w2) := ⟨hP, hG, hk1⟩
    clear hP hG hk1 hP2 hG2
    go_upto_region 3 with fail
    obtain ⟨p2, hp⟩ : ∃ p, p = w2.heap.size := ⟨_, rfl⟩
    have hb := blk_new w2 (.cells #[.slice (some ⟨tp, 0, none⟩) n n, .slice (some ⟨td, 0, none⟩) n n] 25) _ rfl
    have hkb := keeps1 w2 (.cells #[.slice (some ⟨tp, 0, none⟩) n n, .slice (some ⟨td, 0, none⟩) n n] 25)
    rw [← hp] at hb ⊢
    generalize w2.alloc (.cells #[.slice (some ⟨tp, 0, none⟩) n n, .slice (some ⟨td, 0, none⟩) n n] 25) = wd at *
    have H4 : Hid (Keeps None wb wd ∧ IsN wd tp n (fun i => (pickK seed W D i : Int)) ∧ IsN wd td n (drawK seed W D) ∧ wd.heap[p2]? = some (.cells #[.slice (some ⟨tp, 0, none⟩) n n, .slice (some ⟨td, 0, none⟩) n n] 25 (0, 0)) ∧ p2 = w2.heap.size) :=
      ⟨H3.out.2.2.trans hkb (fun _ f _ => f), H3.out.1.more hkb, H3.out.2.1.more hkb, hb, hp⟩
    have zw := H3.out.2.2.size
    have zp : tp < p2 ∧ td < p2 ∧ wb.heap.size ≤ p2 := by omega
    clear hb hkb H3 hp
    have c0 : wd.cell? ⟨p2, 0, none⟩ = some (.slice (some ⟨tp, 0, none⟩) n n) := (blk_cell H4.out.2.2.2.1 0).trans rfl
    go_wp2_with fail
    refine (spoilt_any tp _ n _ _ (H4.out.2.1.row tp (Nat.le_refl _) (by omega)) (Nat.le_of_lt H4.out.2.1.lt) (by omega)).mono ?_
    rintro _ w3 ⟨g3, c3, rfl, _, hk3, _⟩
    have hk3' : Keeps (· = tp) wd w3 := hk3.mono (fun i e _ => by simp [Value.ownBlock] at e; omega)
    have H5 : Hid (IsN w3 td n (drawK seed W D) ∧ w3.heap[p2]? = some (.cells #[.slice (some ⟨tp, 0, none⟩) n n, .slice (some ⟨td, 0, none⟩) n n] 25 (0, 0)) ∧ Keeps None wb w3) :=
      ⟨H4.out.2.2.1.kept hk3' (fun e => hne2 e.symm), blk_kept H4.out.2.2.2.1 hk3' (by omega), H4.out.1.trans hk3' (fun i e hi => by omega)⟩
    have hS : Keeps (· = p2) w3 (w3.setCell ⟨p2, 0, none⟩ (.slice (some ⟨g3, 0, none⟩) (n + 1) c3)) := Keeps.setCell (S := (· = p2)) w3 rfl _
    have H6 : Hid (IsN (w3.setCell ⟨p2, 0, none⟩ (.slice (some ⟨g3, 0, none⟩) (n + 1) c3)) td n (drawK seed W D) ∧ (w3.setCell ⟨p2, 0, none⟩ (.slice (some ⟨g3, 0, none⟩) (n + 1) c3)).heap[p2]? = some (.cells #[.slice (some ⟨g3, 0, none⟩) (n + 1) c3, .slice (some ⟨td, 0, none⟩) n n] 25 (0, 0)) ∧ Keeps None wb (w3.setCell ⟨p2, 0, none⟩ (.slice (some ⟨g3, 0, none⟩) (n + 1) c3))) :=
      ⟨H5.out.1.kept hS (by omega), blk_set (i := 0) H5.out.2.1 _, H5.out.2.2.trans hS (fun i e hi => by omega)⟩
    have c3a := (blk_cell H5.out.2.1 0).trans rfl
    have c3f := blk_free H5.out.2.1 0
    clear hk3 hk3' hS c0
    go_upto_region 4 with fail
    generalize w3.setCell ⟨p2, 0, none⟩ (.slice (some ⟨g3, 0, none⟩) (n + 1) c3) = we at *
    clear c3a c3f H5
    have c1 : we.cell? ⟨p2, 1, none⟩ = some (.slice (some ⟨td, 0, none⟩) n n) := (blk_cell H6.out.2.1 1).trans rfl
    go_wp2_with fail
    refine (spoilt_any td _ n _ _ (H6.out.1.row td (Nat.le_refl _) (by omega)) (Nat.le_of_lt H6.out.1.lt) (by omega)).mono ?_
    rintro _ w4 ⟨g4, c4, rfl, _, hk4, _⟩
    have hk4' : Keeps (· = td) we w4 := hk4.mono (fun i e _ => by simp [Value.ownBlock] at e; omega)
    have H7 : Hid (w4.heap[p2]? = some (.cells #[.slice (some ⟨g3, 0, none⟩) (n + 1) c3, .slice (some ⟨td, 0, none⟩) n n] 25 (0, 0)) ∧ Keeps None wb w4) :=
      ⟨blk_kept H6.out.2.1 hk4' (by omega), H6.out.2.2.trans hk4' (fun i e hi => by omega)⟩
    have hS : Keeps (· = p2) w4 (w4.setCell ⟨p2, 1, none⟩ (.slice (some ⟨g4, 0, none⟩) (n + 1) c4)) := Keeps.setCell (S := (· = p2)) w4 rfl _
    have H8 : Hid ((w4.setCell ⟨p2, 1, none⟩ (.slice (some ⟨g4, 0, none⟩) (n + 1) c4)).heap[p2]? = some (.cells #[.slice (some ⟨g3, 0, none⟩) (n + 1) c3, .slice (some ⟨g4, 0, none⟩) (n + 1) c4] 25 (0, 0)) ∧ Keeps None wb (w4.setCell ⟨p2, 1, none⟩ (.slice (some ⟨g4, 0, none⟩) (n + 1) c4))) :=
      ⟨blk_set (i := 1) H7.out.1 _, H7.out.2.trans hS (fun i e hi => by omega)⟩
    have c4a := (blk_cell H7.out.1 1).trans rfl
    have c4f := blk_free H7.out.1 1
    clear hk4 hk4' hS c1
    go_upto_region 5 with fail
    generalize w4.setCell ⟨p2, 1, none⟩ (.slice (some ⟨g4, 0, none⟩) (n + 1) c4) = wf at *
    clear c4a c4f H7 H6 H4
    have H9 : Hid (wf.heap[p1]? = some (.cells #[.slice (some ⟨gp, 0, none⟩) n n, .slice (some ⟨gd, 0, none⟩) n n] 25 (0, 0)) ∧ IsN wf gp n (fun i => (pickK seed W D i : Int)) ∧ IsN wf gd n (drawK seed W D) ∧ Keeps None w wf ∧ wf.heap[p2]? = some (.cells #[.slice (some ⟨g3, 0, none⟩) (n + 1) c3, .slice (some ⟨g4, 0, none⟩) (n + 1) c4] 25 (0, 0))) :=
      ⟨blk_kept H2.out.1 H8.out.2 (fun f => f), H2.out.2.1.more H8.out.2, H2.out.2.2.1.more H8.out.2, H2.out.2.2.2.trans H8.out.2 (fun _ f _ => f), H8.out.1⟩
    clear H8 H2
    have c0 : wf.cell? ⟨p1, 0, none⟩ = some (.slice (some ⟨gp, 0, none⟩) n n) := (blk_cell H9.out.1 0).trans rfl
    obtain ⟨c5, w5, hr, hk5⟩ := int_grow gp n _ (-7) 23 wf.heap.size (wf.alloc (.cells #[.int .i64 (-7)] 3)) (H9.out.2.1.more (keeps1 _ _)) (by omega) (blk_new _ _ _ rfl)
    have HA : Hid (Keeps None wf w5) := (keeps1 _ _).trans hk5 (fun _ f _ => f)
    clear hk5
    go_wp2_with (at_builtin; refine wpList_append_run rfl (.tmp 41) (.tmp 42) 23 23 rfl rfl rfl hr ?_)
    refine (rnoise_good seed win W n _ HX.out b1 b2 b3 b5 b4).mono ?_
    rintro _ w6 ⟨v0, v1, rfl, hT, hk6⟩
    rw [← HD.out] at hT
    obtain ⟨xa, xc, rfl⟩ := row_shape hT.r0
    obtain ⟨ya, yc, rfl⟩ := row_shape hT.r1
    have hk7 : Keeps None wf w6 := HA.out.trans hk6 (fun _ f _ => f)
    have HB : Hid (w6.heap[p1]? = some (.cells #[.slice (some ⟨gp, 0, none⟩) n n, .slice (some ⟨gd, 0, none⟩) n n] 25 (0, 0)) ∧ SeenN w6 (some ⟨gp, 0, none⟩) n (noiL seed W D n) ∧ SeenN w6 (some ⟨gd, 0, none⟩) n (drwL seed W D n) ∧ SeenN w6 xa n (noiL seed W D n) ∧ SeenN w6 ya n (drwL seed W D n) ∧ Keeps None w w6 ∧ w6.heap[p2]? = some (.cells #[.slice (some ⟨g3, 0, none⟩) (n + 1) c3, .slice (some ⟨g4, 0, none⟩) (n + 1) c4] 25 (0, 0))) :=
      ⟨blk_kept H9.out.1 hk7 (fun f => f), (H9.out.2.1.more hk7).seen, (H9.out.2.2.1.more hk7).seen, row_seen hT.r0, row_seen hT.r1, H9.out.2.2.2.1.trans hk7 (fun _ f _ => f), blk_kept H9.out.2.2.2.2 hk7 (fun f => f)⟩
    clear hT hk6 hk7 HA hr c0 H9
    go_upto_region 7 with fail
    obtain ⟨p3, hp3⟩ : ∃ p, p = w6.heap.size := ⟨_, rfl⟩
    have hb := blk_new w6 (.cells #[.slice xa n xc, .slice ya n yc] 25) _ rfl
    have hkb := keeps1 w6 (.cells #[.slice xa n xc, .slice ya n yc] 25)
    rw [← hp3] at hb ⊢
    generalize w6.alloc (.cells #[.slice xa n xc, .slice ya n yc] 25) = wg at *
    have HC : Hid (SeenN wg (some ⟨gp, 0, none⟩) n (noiL seed W D n) ∧ SeenN wg (some ⟨gd, 0, none⟩) n (drwL seed W D n) ∧ SeenN wg xa n (noiL seed W D n) ∧ SeenN wg ya n (drwL seed W D n) ∧ Keeps None w wg) :=
      ⟨HB.out.2.1.more hkb, HB.out.2.2.1.more hkb, HB.out.2.2.2.1.more hkb, HB.out.2.2.2.2.1.more hkb, HB.out.2.2.2.2.2.1.trans hkb (fun _ f _ => f)⟩
    have a0 : wg.cell? ⟨p1, 0, none⟩ = some (.slice (some ⟨gp, 0, none⟩) n n) := (blk_cell (blk_kept HB.out.1 hkb (fun f => f)) 0).trans rfl
    have a1 : wg.cell? ⟨p1, 1, none⟩ = some (.slice (some ⟨gd, 0, none⟩) n n) := (blk_cell (blk_kept HB.out.1 hkb (fun f => f)) 1).trans rfl
    have a2 : wg.cell? ⟨p2, 0, none⟩ = some (.slice (some ⟨g3, 0, none⟩) (n + 1) c3) := (blk_cell (blk_kept HB.out.2.2.2.2.2.2 hkb (fun f => f)) 0).trans rfl
    have a3 : wg.cell? ⟨p2, 1, none⟩ = some (.slice (some ⟨g4, 0, none⟩) (n + 1) c4) := (blk_cell (blk_kept HB.out.2.2.2.2.2.2 hkb (fun f => f)) 1).trans rfl
    have a4 : wg.cell? ⟨p3, 0, none⟩ = some (.slice xa n xc) := (blk_cell hb 0).trans rfl
    have a5 : wg.cell? ⟨p3, 1, none⟩ = some (.slice ya n yc) := (blk_cell hb 1).trans rfl
    clear hp3 hb hkb HB
    have q0 : (0 : Int) < (n : Int) + 1 := by omega
    go_wp2_with fail
    refine (sameScript_any (some ⟨gp, 0, none⟩) (some ⟨gd, 0, none⟩) xa ya n n n n xc yc _ _ _ HC.out.1 HC.out.2.1 HC.out.2.2.1 HC.out.2.2.2.1 (by omega) (by omega)).mono ?_
    rintro _ w8 ⟨rfl, hk9⟩
    have e2 := hk9.cell a2 (fun f => f)
    have e3 := hk9.cell a3 (fun f => f)
    have HF : Hid (Below w.heap.size w w8) := (HC.out.2.2.2.2.trans hk9 (fun _ f _ => f)).below _ (Nat.le_refl _) (fun _ f => f.elim)
    clear hk9
    go_wp2_with fail
    go_ret
    exact ⟨rfl, HF.out⟩
  · have HE : Hid (noiE x win y ≠ 0) := hE
    obtain ⟨E, hEe⟩ : ∃ E, E = noiE x win y := ⟨_, rfl⟩
    have HEE : Hid (E = noiE x win y) := hEe
    have q1 : (E == E) = true := by simp
    clear hEe hE hs hw
    go_enter Try.func6, Try.ntmps6
    go_wp2_with fail
    refine (noise_bad seed x win y _ HE.out).mono ?_
    rintro _ w1 ⟨rfl, hk1⟩
    rw [← HEE.out]
    have K1 : Hid (Keeps None w w1) := hk1
    clear hk1
    go_upto_region 2 with fail
    obtain ⟨p1, hp⟩ : ∃ p, p = w1.heap.size := ⟨_, rfl⟩
    have hb := blk_new w1 (.cells #[.slice none 0 0, .slice none 0 0] 25) _ rfl
    have hkb := keeps1 w1 (.cells #[.slice none 0 0, .slice none 0 0] 25)
    rw [← hp] at hb ⊢
    generalize w1.alloc (.cells #[.slice none 0 0, .slice none 0 0] 25) = wb at *
    have H2 : Hid (wb.heap[p1]? = some (.cells #[.slice none 0 0, .slice none 0 0] 25 (0, 0)) ∧ Keeps None w wb) := ⟨hb, K1.out.trans hkb (fun _ f _ => f)⟩
    clear hp hb hkb K1
    have z3 := blk_lt H2.out.1
    go_wp2_with fail
    refine (noise_bad seed x win y _ HE.out).mono ?_
    rintro _ w2 ⟨rfl, hk2⟩
    rw [← HEE.out]
    have z4 := hk2.size
    have K2 : Hid (Keeps None wb w2) := hk2
    clear hk2
    go_upto_region 3 with fail
    obtain ⟨p2, hp⟩ : ∃ p, p = w2.heap.size := ⟨_, rfl⟩
    have hb := blk_new w2 (.cells #[.slice none 0 0, .slice none 0 0] 25) _ rfl
    have hkb := keeps1 w2 (.cells #[.slice none 0 0, .slice none 0 0] 25)
    rw [← hp] at hb ⊢
    generalize w2.alloc (.cells #[.slice none 0 0, .slice none 0 0] 25) = wd at *
    have H4 : Hid (Keeps None wb wd ∧ wd.heap[p2]? = some (.cells #[.slice none 0 0, .slice none 0 0] 25 (0, 0))) := ⟨K2.out.trans hkb (fun _ f _ => f), hb⟩
    have zp : wb.heap.size ≤ p2 := by omega
    clear hb hkb hp K2
    have c0 : wd.cell? ⟨p2, 0, none⟩ = some (.slice none 0 0) := (blk_cell H4.out.2 0).trans rfl
    go_wp2_with fail
    refine (spoilt_any 0 _ 0 [] _ (row_nil _ _ _ _) (Nat.zero_le _) (by omega)).mono ?_
    rintro _ w3 ⟨g3, c3, rfl, _, hk3, _⟩
    have hk3' : Keeps None wd w3 := hk3.mono (fun i e _ => by simp [Value.ownBlock] at e)
    have H5 : Hid (w3.heap[p2]? = some (.cells #[.slice none 0 0, .slice none 0 0] 25 (0, 0)) ∧ Keeps None wb w3) := ⟨blk_kept H4.out.2 hk3' (fun f => f), H4.out.1.trans hk3' (fun _ f _ => f)⟩
    have hS : Keeps (· = p2) w3 (w3.setCell ⟨p2, 0, none⟩ (.slice (some ⟨g3, 0, none⟩) (0 + 1) c3)) := Keeps.setCell (S := (· = p2)) w3 rfl _
    have H6 : Hid ((w3.setCell ⟨p2, 0, none⟩ (.slice (some ⟨g3, 0, none⟩) (0 + 1) c3)).heap[p2]? = some (.cells #[.slice (some ⟨g3, 0, none⟩) (0 + 1) c3, .slice none 0 0] 25 (0, 0)) ∧ Keeps None wb (w3.setCell ⟨p2, 0, none⟩ (.slice (some ⟨g3, 0, none⟩) (0 + 1) c3))) :=
      ⟨blk_set (i := 0) H5.out.1 _, H5.out.2.trans hS (fun i e hi => by omega)⟩
    have c3a := (blk_cell H5.out.1 0).trans rfl
    have c3f := blk_free H5.out.1 0
    rw [Nat.zero_add] at H6 ⊢
    clear hk3 hk3' hS c0
    go_upto_region 4 with fail
    generalize w3.setCell ⟨p2, 0, none⟩ (.slice (some ⟨g3, 0, none⟩) 1 c3) = we at *
    clear c3a c3f H5
    have c1 : we.cell? ⟨p2, 1, none⟩ = some (.slice none 0 0) := (blk_cell H6.out.1 1).trans rfl
    go_wp2_with fail
    refine (spoilt_any 0 _ 0 [] _ (row_nil _ _ _ _) (Nat.zero_le _) (by omega)).mono ?_
    rintro _ w4 ⟨g4, c4, rfl, _, hk4, _⟩
    have hk4' : Keeps None we w4 := hk4.mono (fun i e _ => by simp [Value.ownBlock] at e)
    have H7 : Hid (w4.heap[p2]? = some (.cells #[.slice (some ⟨g3, 0, none⟩) 1 c3, .slice none 0 0] 25 (0, 0)) ∧ Keeps None wb w4) := ⟨blk_kept H6.out.1 hk4' (fun f => f), H6.out.2.trans hk4' (fun _ f _ => f)⟩
    have hS : Keeps (· = p2) w4 (w4.setCell ⟨p2, 1, none⟩ (.slice (some ⟨g4, 0, none⟩) (0 + 1) c4)) := Keeps.setCell (S := (· = p2)) w4 rfl _
    have H8 : Hid ((w4.setCell ⟨p2, 1, none⟩ (.slice (some ⟨g4, 0, none⟩) (0 + 1) c4)).heap[p2]? = some (.cells #[.slice (some ⟨g3, 0, none⟩) 1 c3, .slice (some ⟨g4, 0, none⟩) (0 + 1) c4] 25 (0, 0)) ∧ Keeps None wb (w4.setCell ⟨p2, 1, none⟩ (.slice (some ⟨g4, 0, none⟩) (0 + 1) c4))) :=
      ⟨blk_set (i := 1) H7.out.1 _, H7.out.2.trans hS (fun i e hi => by omega)⟩
    have c4a := (blk_cell H7.out.1 1).trans rfl
    have c4f := blk_free H7.out.1 1
    rw [Nat.zero_add] at H8 ⊢
    clear hk4 hk4' hS c1
    go_upto_region 5 with fail
    generalize w4.setCell ⟨p2, 1, none⟩ (.slice (some ⟨g4, 0, none⟩) 1 c4) = wf at *
    clear c4a c4f H7 H6 H4
    have H9 : Hid (wf.heap[p1]? = some (.cells #[.slice none 0 0, .slice none 0 0] 25 (0, 0)) ∧ Keeps None w wf ∧ wf.heap[p2]? = some (.cells #[.slice (some ⟨g3, 0, none⟩) 1 c3, .slice (some ⟨g4, 0, none⟩) 1 c4] 25 (0, 0))) :=
      ⟨blk_kept H2.out.1 H8.out.2 (fun f => f), H2.out.2.trans H8.out.2 (fun _ f _ => f), H8.out.1⟩
    clear H8 H2
    have c0 : wf.cell? ⟨p1, 0, none⟩ = some (.slice none 0 0) := (blk_cell H9.out.1 0).trans rfl
    obtain ⟨g5, c5, w5, hr, _, hk5, _⟩ := int_more 0 (.slice none 0 0) [] (-7) 0 23 wf.heap.size (wf.alloc (.cells #[.int .i64 (-7)] 3)) rfl (row_nil _ _ _ _) (Nat.zero_le _) (by omega) (blk_new _ _ _ rfl)
    have HA : Hid (Keeps None wf w5) := (keeps1 _ _).trans (hk5.mono (T := None) (fun i e _ => by simp [Value.ownBlock] at e)) (fun _ f _ => f)
    rw [Nat.zero_add] at hr
    clear hk5
    go_wp2_with (at_builtin; refine wpList_append_run rfl (.tmp 41) (.tmp 42) 23 23 rfl rfl rfl hr ?_)
    refine (rnoise_bad seed x win y _ HE.out).mono ?_
    rintro _ w6 ⟨rfl, hk6⟩
    rw [← HEE.out]
    have hk7 : Keeps None wf w6 := HA.out.trans hk6 (fun _ f _ => f)
    have HB : Hid (w6.heap[p1]? = some (.cells #[.slice none 0 0, .slice none 0 0] 25 (0, 0)) ∧ Keeps None w w6 ∧ w6.heap[p2]? = some (.cells #[.slice (some ⟨g3, 0, none⟩) 1 c3, .slice (some ⟨g4, 0, none⟩) 1 c4] 25 (0, 0))) :=
      ⟨blk_kept H9.out.1 hk7 (fun f => f), H9.out.2.1.trans hk7 (fun _ f _ => f), blk_kept H9.out.2.2 hk7 (fun f => f)⟩
    clear hk6 hk7 HA hr c0 H9
    go_upto_region 7 with fail
    obtain ⟨p3, hp3⟩ : ∃ p, p = w6.heap.size := ⟨_, rfl⟩
    have hb := blk_new w6 (.cells #[.slice none 0 0, .slice none 0 0] 25) _ rfl
    have hkb := keeps1 w6 (.cells #[.slice none 0 0, .slice none 0 0] 25)
    rw [← hp3] at hb ⊢
    generalize w6.alloc (.cells #[.slice none 0 0, .slice none 0 0] 25) = wg at *
    have HC : Hid (Keeps None w wg) := HB.out.2.1.trans hkb (fun _ f _ => f)
    have a0 : wg.cell? ⟨p1, 0, none⟩ = some (.slice none 0 0) := (blk_cell (blk_kept HB.out.1 hkb (fun f => f)) 0).trans rfl
    have a1 : wg.cell? ⟨p1, 1, none⟩ = some (.slice none 0 0) := (blk_cell (blk_kept HB.out.1 hkb (fun f => f)) 1).trans rfl
    have a2 : wg.cell? ⟨p2, 0, none⟩ = some (.slice (some ⟨g3, 0, none⟩) 1 c3) := (blk_cell (blk_kept HB.out.2.2 hkb (fun f => f)) 0).trans rfl
    have a3 : wg.cell? ⟨p2, 1, none⟩ = some (.slice (some ⟨g4, 0, none⟩) 1 c4) := (blk_cell (blk_kept HB.out.2.2 hkb (fun f => f)) 1).trans rfl
    have a4 : wg.cell? ⟨p3, 0, none⟩ = some (.slice none 0 0) := (blk_cell hb 0).trans rfl
    have a5 : wg.cell? ⟨p3, 1, none⟩ = some (.slice none 0 0) := (blk_cell hb 1).trans rfl
    clear hp3 hb hkb HB
    go_wp2_with fail
    refine (sameScript_any none none none none 0 0 0 0 0 0 [] [] _ ⟨rfl, fun h => by omega⟩ ⟨rfl, fun h => by omega⟩ ⟨rfl, fun h => by omega⟩ ⟨rfl, fun h => by omega⟩ (by omega) (by omega)).mono ?_
    rintro _ w8 ⟨rfl, hk9⟩
    have e2 := hk9.cell a2 (fun f => f)
    have e3 := hk9.cell a3 (fun f => f)
    have HF : Hid (Below w.heap.size w w8) := (HC.out.trans hk9 (fun _ f _ => f)).below _ (Nat.le_refl _) (fun _ f => f.elim)
    clear hk9
    go_wp2_with fail
    go_ret
    exact ⟨rfl, HF.out⟩
end Go.Proofs.Ytlajblbfelcalab
