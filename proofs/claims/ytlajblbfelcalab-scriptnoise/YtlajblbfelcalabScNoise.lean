import Derived.Test.YtlajblbfelcalabScDraw
import Derived.Test.YtlajblbfelcalabScWait2
import Derived.Test.YtlajblbfelcalabScEnd
/-! Noise: the program's. -/
namespace Go.Proofs.Ytlajblbfelcalab
set_option linter.unusedVariables false
set_option maxRecDepth 20000
open Go.RowKit Go.HeapKit Go.Sc

def noiE (x win n : Int) : Int := if goodB x = false then 3 else if win < x then 101 else if n < 0 then 3 else if 1048576 < n then 2 else 0
theorem noi_cases (x win n : Int) : (goodB x = false ∧ noiE x win n = 3) ∨ (goodB x = true ∧ ((win < x ∧ noiE x win n = 101) ∨ (¬ win < x ∧ ((n < 0 ∧ noiE x win n = 3) ∨ (¬ n < 0 ∧ ((1048576 < n ∧ noiE x win n = 2) ∨ (¬ 1048576 < n ∧ noiE x win n = 0))))))) := by
  unfold noiE
  by_cases h1 : goodB x = false
  · exact .inl ⟨h1, by rw [if_pos h1]⟩
  · refine .inr ⟨by simpa using h1, ?_⟩
    rw [if_neg h1]
    by_cases h2 : win < x
    · exact .inl ⟨h2, by rw [if_pos h2]⟩
    · refine .inr ⟨h2, ?_⟩
      rw [if_neg h2]
      by_cases h3 : n < 0
      · exact .inl ⟨h3, by rw [if_pos h3]⟩
      · refine .inr ⟨h3, ?_⟩
        rw [if_neg h3]
        by_cases h4 : 1048576 < n
        · exact .inl ⟨h4, by rw [if_pos h4]⟩
        · exact .inr ⟨h4, by rw [if_neg h4]⟩
theorem fault_any (x win n : Int) (w : World) : Calls Try.prog 33 #[.int .i64 x, .int .i64 win, .int .i64 n] w fun e w' => e = .returned (.int .i64 (noiE x win n)) ∧ w' = w := by
  rcases noi_cases x win n with ⟨hg, e⟩ | ⟨hg, ⟨h2, e⟩ | ⟨h2, ⟨h3, e⟩ | ⟨h3, ⟨h4, e⟩ | ⟨h4, e⟩⟩⟩⟩
  all_goals rw [e]
  all_goals clear e
  all_goals go_enter Try.func33, Try.ntmps33
  all_goals go_wp2_with (go_at_call 37; refine (good_any _ _).mono ?_; rintro _ wz ⟨rfl, hw⟩; have hw2 := hw.symm; subst hw2; clear hw; rw [hg])
  all_goals go_ret
  all_goals exact ⟨rfl, rfl⟩
/-- A script of n picks and n draws in memory. -/
structure IsS (w : World) (p gp gd n : Nat) (F G : Nat → Int) : Prop where
  blk : w.heap[p]? = some (.cells #[.slice (some ⟨gp, 0, none⟩) n n, .slice (some ⟨gd, 0, none⟩) n n] 25 (0, 0))
  pk : IsN w gp n F
  dr : IsN w gd n G
  ne : gp ≠ gd
theorem IsS.nep {w : World} {p gp gd n : Nat} {F G : Nat → Int} (h : IsS w p gp gd n F G) : p ≠ gp ∧ p ≠ gd := by
  constructor
  · rintro rfl
    have := h.blk.symm.trans h.pk
    simp at this
  · rintro rfl
    have := h.blk.symm.trans h.dr
    simp at this
theorem IsS.kept {w w' : World} {S : Nat → Prop} {p gp gd n : Nat} {F G : Nat → Int} (h : IsS w p gp gd n F G) (hk : Keeps S w w') (h1 : ¬ S p) (h2 : ¬ S gp) (h3 : ¬ S gd) : IsS w' p gp gd n F G :=
  ⟨blk_kept h.blk hk h1, h.pk.kept hk h2, h.dr.kept hk h3, h.ne⟩
theorem IsS.more {w w' : World} {p gp gd n : Nat} {F G : Nat → Int} (h : IsS w p gp gd n F G) (hk : Keeps None w w') : IsS w' p gp gd n F G := h.kept hk (fun f => f) (fun f => f) (fun f => f)
theorem three (w : World) (A B C : Obj) : (((w.alloc A).alloc B).alloc C).drew.heap[w.heap.size]? = some A ∧ (((w.alloc A).alloc B).alloc C).drew.heap[w.heap.size + 1]? = some B ∧ (((w.alloc A).alloc B).alloc C).drew.heap[w.heap.size + 1 + 1]? = some C :=
  ⟨blk_old (blk_old (blk_new w A _ rfl) B) C, blk_old (blk_new (w.alloc A) B _ (by simp)) C, blk_new ((w.alloc A).alloc B) C _ (by simp)⟩
theorem keeps3 (w : World) (A B C : Obj) : Keeps None w (((w.alloc A).alloc B).alloc C).drew := ((((Keeps.refl _ _).andAlloc _).andAlloc _).andAlloc _).andDrew
def noiseF (seed : Int) (W : Nat) (D : Int) (k i : Nat) : Int := if i < k then (pickK seed W D i : Int) else 0
def noiseG (seed : Int) (W : Nat) (D : Int) (k i : Nat) : Int := if i < k then drawK seed W D i else 0
theorem noiseF_step (seed : Int) (W : Nat) (D : Int) (k i : Nat) : upd (noiseF seed W D k) k (pickK seed W D k : Int) i = noiseF seed W D (k + 1) i := by
  unfold upd noiseF
  by_cases e : i = k
  · subst e; rw [if_pos rfl, if_pos (by omega)]
  · rw [if_neg e]
    by_cases e2 : i < k
    · rw [if_pos e2, if_pos (by omega)]
    · rw [if_neg e2, if_neg (by omega)]
theorem noiseG_step (seed : Int) (W : Nat) (D : Int) (k i : Nat) : upd (noiseG seed W D k) k (drawK seed W D k) i = noiseG seed W D (k + 1) i := by
  unfold upd noiseG
  by_cases e : i = k
  · subst e; rw [if_pos rfl, if_pos (by omega)]
  · rw [if_neg e]
    by_cases e2 : i < k
    · rw [if_pos e2, if_pos (by omega)]
    · rw [if_neg e2, if_neg (by omega)]
theorem IsS.congr0 {w : World} {p gp gd n : Nat} {seed : Int} {W : Nat} {D : Int} (h : IsS w p gp gd n (fun _ => 0) (fun _ => 0)) : IsS w p gp gd n (noiseF seed W D 0) (noiseG seed W D 0) :=
  ⟨h.blk, h.pk.congr (fun _ _ => by simp [noiseF]), h.dr.congr (fun _ _ => by simp [noiseG]), h.ne⟩
/-- What stands while noise is made: kf picks, kg draws, kx numbers drawn, kw picks named. -/
structure Nst (w wr : World) (p gp gd g q n W : Nat) (seed D : Int) (kf kg kx kw : Nat) : Prop where
  s : IsS wr p gp gd n (noiseF seed W D kf) (noiseG seed W D kg)
  d : IsD wr g (seedK seed kx) seedF
  v : IsW wr q W kw (nzK seed W D kw).c
  kp : Keeps None w wr
  lp : w.heap.size ≤ p
  l1 : w.heap.size ≤ gp
  l2 : w.heap.size ≤ gd
  lg : w.heap.size ≤ g
  lq : w.heap.size ≤ q
  ng : gp < g ∧ gd < g ∧ p < g
  nq : gp < q ∧ gd < q ∧ p < q
  gq : g < q
  np : p ≠ gp ∧ p ≠ gd ∧ gp ≠ gd
section
variable {w wr w' : World} {p gp gd g q n W : Nat} {seed D : Int} {kf kg kx kw : Nat}
theorem Nst.more (h : Nst w wr p gp gd g q n W seed D kf kg kx kw) (hk : Keeps None wr w') : Nst w w' p gp gd g q n W seed D kf kg kx kw :=
  ⟨h.s.more hk, h.d.more hk, h.v.more hk, h.kp.trans hk (fun _ f _ => f), h.lp, h.l1, h.l2, h.lg, h.lq, h.ng, h.nq, h.gq, h.np⟩
theorem Nst.drawn (h : Nst w wr p gp gd g q n W seed D kf kg kx kw) (hd : IsD w' g (seedK seed (kx + 1)) seedF) (hk : Keeps (· = g) wr w') : Nst w w' p gp gd g q n W seed D kf kg (kx + 1) kw := by
  have h1 := h.ng
  have h2 := h.gq
  have h3 := h.lg
  exact ⟨h.s.kept hk (by omega) (by omega) (by omega), hd, h.v.kept hk (by omega), h.kp.trans hk (fun i e hi => by omega), h.lp, h.l1, h.l2, h.lg, h.lq, h.ng, h.nq, h.gq, h.np⟩
theorem Nst.setF (h : Nst w wr p gp gd g q n W seed D kf kg kx kw) : Nst w (wr.setCell ⟨gp, kf, none⟩ (.int .i64 (pickK seed W D kf : Int))) p gp gd g q n W seed D (kf + 1) kg kx kw := by
  have h1 := h.ng
  have h2 := h.nq
  have h3 := h.l1
  have h4 := h.np
  have hk : Keeps (· = gp) wr (wr.setCell ⟨gp, kf, none⟩ (.int .i64 (pickK seed W D kf : Int))) := Keeps.setCell (S := (· = gp)) wr rfl _
  exact ⟨⟨blk_kept h.s.blk hk (by omega), (h.s.pk.set kf _).congr (fun i _ => noiseF_step _ _ _ _ _), h.s.dr.kept hk (by omega), h.s.ne⟩, h.d.kept hk (by omega), h.v.kept hk (by omega), h.kp.trans hk (fun i e hi => by omega), h.lp, h.l1, h.l2, h.lg, h.lq, h.ng, h.nq, h.gq, h.np⟩
theorem Nst.setG (h : Nst w wr p gp gd g q n W seed D kf kg kx kw) : Nst w (wr.setCell ⟨gd, kg, none⟩ (.int .i64 (drawK seed W D kg))) p gp gd g q n W seed D kf (kg + 1) kx kw := by
  have h1 := h.ng
  have h2 := h.nq
  have h3 := h.l2
  have h4 := h.np
  have hk : Keeps (· = gd) wr (wr.setCell ⟨gd, kg, none⟩ (.int .i64 (drawK seed W D kg))) := Keeps.setCell (S := (· = gd)) wr rfl _
  exact ⟨⟨blk_kept h.s.blk hk (by omega), h.s.pk.kept hk (by omega), (h.s.dr.set kg _).congr (fun i _ => noiseG_step _ _ _ _ _), h.s.ne⟩, h.d.kept hk (by omega), h.v.kept hk (by omega), h.kp.trans hk (fun i e hi => by omega), h.lp, h.l1, h.l2, h.lg, h.lq, h.ng, h.nq, h.gq, h.np⟩
theorem nm_nz (seed : Int) (W : Nat) (D : Int) (k : Nat) : nm (nzK seed W D k).c (pickK seed W D k) = (nzK seed W D (k + 1)).c := rfl
theorem Nst.named (h : Nst w wr p gp gd g q n W seed D kf kg kx kw) (hv : IsW w' q W (kw + 1) (nzK seed W D (kw + 1)).c) (hk : Keeps (· = q) wr w') : Nst w w' p gp gd g q n W seed D kf kg kx (kw + 1) := by
  have h2 := h.nq
  have h3 := h.lq
  have h4 := h.gq
  exact ⟨h.s.kept hk (by omega) (by omega) (by omega), h.d.kept hk (by omega), hv, h.kp.trans hk (fun i e hi => by omega), h.lp, h.l1, h.l2, h.lg, h.lq, h.ng, h.nq, h.gq, h.np⟩
theorem Nst.c0 (h : Nst w wr p gp gd g q n W seed D kf kg kx kw) : wr.cell? ⟨p, 0, none⟩ = some (.slice (some ⟨gp, 0, none⟩) n n) := (blk_cell h.s.blk 0).trans rfl
theorem Nst.c1 (h : Nst w wr p gp gd g q n W seed D kf kg kx kw) : wr.cell? ⟨p, 1, none⟩ = some (.slice (some ⟨gd, 0, none⟩) n n) := (blk_cell h.s.blk 1).trans rfl
theorem pickV_nz (seed : Int) (W : Nat) (D : Int) (k : Nat) : pickV (nzK seed W D k).c W D (num (seedK seed (2 * k + 1))) = pickK seed W D k := by
  unfold pickK Nz.pick pickV
  rw [nzK_x]
  rfl
theorem draw_nz (seed : Int) (W : Nat) (D : Int) (k : Nat) : num (seedK seed (2 * k + 1 + 1)) = drawK seed W D k := by
  unfold drawK
  rw [nzK_x]
  rfl
end
set_option maxHeartbeats 3200000 in
theorem noise_good (seed win : Int) (W n : Nat) (w : World) (hs : okI seed) (hW1 : 1 ≤ W) (hW : W ≤ 64) (hwin : (W : Int) ≤ win) (hwo : win ≤ 9223372036854775807) (hn : n ≤ 1048576) :
    Calls Try.prog 9 #[.int .i64 seed, .int .i64 W, .int .i64 win, .int .i64 n] w fun e w' => ∃ gp gd, e = .returned (.tuple #[.agg #[.slice (some ⟨gp, 0, none⟩) n n, .slice (some ⟨gd, 0, none⟩) n n], .int .i64 0]) ∧
      IsN w' gp n (fun i => (pickK seed W (win - W) i : Int)) ∧ IsN w' gd n (drawK seed W (win - W)) ∧ gp ≠ gd ∧ w.heap.size ≤ gp ∧ w.heap.size ≤ gd ∧ Keeps None w w' := by
  have hE : noiE W win n = 0 := by
    unfold noiE
    have := goodB_t (x := (W : Int)) (by omega) (by omega)
    rw [if_neg (by rw [this]; simp), if_neg (by omega), if_neg (by omega), if_neg (by omega)]
  have HE : Hid (noiE W win n = 0) := hE
  clear hE
  have hmk := fun wz : World => make_ints n wz (by omega)
  go_enter Try.func9, Try.ntmps9
  go_wp2_with fail
  refine (fault_any _ _ _ _).mono ?_
  rintro _ wz ⟨rfl, hw⟩
  have hw2 := hw.symm
  subst hw2
  clear hw
  rw [HE.out]
  go_upto_region 4 with fail
  obtain ⟨s0, hs0⟩ : ∃ s0, s0 = w.heap.size := ⟨_, rfl⟩
  have hbox := blk_new w (.cells #[.slice none 0 0, .slice none 0 0] 25) _ rfl
  have hk0 := keeps1 w (.cells #[.slice none 0 0, .slice none 0 0] 25)
  have hwz : (w.alloc (.cells #[.slice none 0 0, .slice none 0 0] 25)).heap.size = s0 + 1 := by simp; omega
  rw [← hs0] at hbox ⊢
  generalize w.alloc (.cells #[.slice none 0 0, .slice none 0 0] 25) = wa at *
  have H0 : Hid (wa.heap[s0]? = some (.cells #[.slice none 0 0, .slice none 0 0] 25 (0, 0)) ∧ Keeps None w wa ∧ wa.heap.size = s0 + 1 ∧ s0 = w.heap.size) := ⟨hbox, hk0, hwz, hs0⟩
  clear hs0 hbox hk0 hwz
  go_cut [11] (fun s11 wx => ∃ (p gp gd : Nat), s11 = .pointer (some ⟨p, 0, none⟩) ∧ IsS wx p gp gd n (fun _ => 0) (fun _ => 0) ∧ Keeps None wa wx ∧ wa.heap.size ≤ p ∧ wa.heap.size ≤ gp ∧ wa.heap.size ≤ gd)
  case first =>
    refine wp_region_held_drew (S := (fun w' => True)) (by kernel_rfl) ?_ (fun hHeld => ?_)
    · (try dsimp only); try trivial
    refine wpAnyH_take (i := 0) (oi := { dst := some 23, op := Op.move (Operand.tmp 3), type := 3, pos := "made.go:28", after := #[], guard := none }) (v := ?_) rfl (by kernel_rfl) (by kernel_rfl) (by kernel_rfl) (fun _ _ _ h => h) (Or.inl ⟨by rfl, ?_⟩) (by assumption) ?_
    rotate_left
    · (intro wz hSw; (try dsimp only at hSw); go_simp; try with_reducible rfl)
    simp only [Act.put, List.setIfInBounds_toArray, List.set_cons_zero, List.set_cons_succ]
    refine wpAnyH_take (i := 2) (oi := { dst := some 25, op := Op.move (Operand.tmp 3), type := 3, pos := "made.go:28", after := #[], guard := none }) (v := ?_) rfl (by kernel_rfl) (by kernel_rfl) (by kernel_rfl) (fun _ _ _ h => h) (Or.inl ⟨by rfl, ?_⟩) (by assumption) ?_
    rotate_left
    · (intro wz hSw; (try dsimp only at hSw); go_simp; try with_reducible rfl)
    simp only [Act.put, List.setIfInBounds_toArray, List.set_cons_zero, List.set_cons_succ]
    refine wpAnyH_ready (rs := [1, 3, 5]) (by kernel_rfl) (by simp) ?_
    refine AllReadyH.cons (o := { dst := some 24, op := Op.makeSlice 23 (Operand.tmp 23) (Operand.tmp 23), type := 23, pos := "made.go:28", after := #[{ on := 0, ground := Ground.data }, { on := 0, ground := Ground.data }], guard := none }) rfl (fun K hK => ?_) ?_
    · refine step_make_run rfl (.tmp 23) (.tmp 23) 23 rfl (by simp [Act.eval]) (by simp [Act.eval]) (hmk _) ?_
      refine hK.out _ _ ?_ (fun hHeld2 => ?_)
      · (try dsimp only); try trivial
      clear hK K
      try simp only [Act.put, List.setIfInBounds_toArray, List.set_cons_zero, List.set_cons_succ]
      refine wpAnyH_ready (rs := [3, 5]) (by kernel_rfl) (by simp) ?_
      refine AllReadyH.cons (o := { dst := some 26, op := Op.makeSlice 23 (Operand.tmp 25) (Operand.tmp 25), type := 23, pos := "made.go:28", after := #[{ on := 2, ground := Ground.data }, { on := 2, ground := Ground.data }], guard := none }) rfl (fun K hK => ?_) ?_
      · refine step_make_run rfl (.tmp 25) (.tmp 25) 23 rfl (by simp [Act.eval]) (by simp [Act.eval]) (hmk _) ?_
        refine hK.out _ _ ?_ (fun hHeld2 => ?_)
        · (try dsimp only); try trivial
        clear hK K
        try simp only [Act.put, List.setIfInBounds_toArray, List.set_cons_zero, List.set_cons_succ]
        refine wpAnyH_take (i := 4) (oi := { dst := some 27, op := Op.build 25 #[(0, Operand.tmp 24), (1, Operand.tmp 26)], type := 25, pos := "made.go:28", after := #[{ on := 1, ground := Ground.data }, { on := 3, ground := Ground.data }], guard := none }) (v := ?_) rfl (by kernel_rfl) (by kernel_rfl) (by kernel_rfl) (fun _ _ _ h => h) (Or.inl ⟨by rfl, ?_⟩) (by assumption) ?_
        rotate_left
        · (intro wz hSw; (try dsimp only at hSw); go_simp; try with_reducible rfl)
        simp only [Act.put, List.setIfInBounds_toArray, List.set_cons_zero, List.set_cons_succ]
        refine wpAnyH_ready (rs := [5]) (by kernel_rfl) (by simp) ?_
        refine AllReadyH.cons (o := { dst := some 11, op := Op.alloc 25, type := 0, pos := "made.go:28", after := #[], guard := none }) rfl (fun K hK => ?_) ?_
        · go_simp
          refine hK.out _ _ ?_ (fun hHeld2 => ?_)
          · (try dsimp only); try trivial
          clear hK K
          try simp only [Act.put, List.setIfInBounds_toArray, List.set_cons_zero, List.set_cons_succ]
          refine wpAnyH_ready (rs := [6]) (by kernel_rfl) (by simp) ?_
          refine AllReadyH.cons (o := { dst := none, op := Op.store 25 (Operand.tmp 11) (Operand.tmp 27), type := 0, pos := "made.go:28", after := #[{ on := 5, ground := Ground.data }, { on := 4, ground := Ground.data }, { on := 0, ground := Ground.phase }, { on := 1, ground := Ground.phase }, { on := 2, ground := Ground.phase }, { on := 3, ground := Ground.phase }, { on := 4, ground := Ground.phase }, { on := 5, ground := Ground.phase }], guard := none }) rfl (fun K hK => ?_) ?_
          · go_simp
            refine hK.out _ _ ?_ (fun hHeld2 => ?_)
            · (try dsimp only); try trivial
            clear hK K
            try simp only [Act.put, List.setIfInBounds_toArray, List.set_cons_zero, List.set_cons_succ]
            refine wpAnyH_done (by kernel_rfl) ?_ _
            go_wp2_with fail
            go_meet
            first | exact ⟨_, wa.heap.size + 1, wa.heap.size + 1 + 1, rfl, ⟨(three _ _ _ _).1, (three _ _ _ _).2.1, (three _ _ _ _).2.2, by omega⟩, keeps3 _ _ _ _, by omega, by omega, by omega⟩ | exact ⟨_, wa.heap.size + 1 + 1, wa.heap.size + 1, rfl, ⟨(three _ _ _ _).1, (three _ _ _ _).2.2, (three _ _ _ _).2.1, by omega⟩, keeps3 _ _ _ _, by omega, by omega, by omega⟩ | exact ⟨_, wa.heap.size, wa.heap.size + 1 + 1, rfl, ⟨(three _ _ _ _).2.1, (three _ _ _ _).1, (three _ _ _ _).2.2, by omega⟩, keeps3 _ _ _ _, by omega, by omega, by omega⟩ | exact ⟨_, wa.heap.size + 1 + 1, wa.heap.size, rfl, ⟨(three _ _ _ _).2.1, (three _ _ _ _).2.2, (three _ _ _ _).1, by omega⟩, keeps3 _ _ _ _, by omega, by omega, by omega⟩ | exact ⟨_, wa.heap.size, wa.heap.size + 1, rfl, ⟨(three _ _ _ _).2.2, (three _ _ _ _).1, (three _ _ _ _).2.1, by omega⟩, keeps3 _ _ _ _, by omega, by omega, by omega⟩ | exact ⟨_, wa.heap.size + 1, wa.heap.size, rfl, ⟨(three _ _ _ _).2.2, (three _ _ _ _).2.1, (three _ _ _ _).1, by omega⟩, keeps3 _ _ _ _, by omega, by omega, by omega⟩
          exact AllReadyH.nil
        exact AllReadyH.nil
      refine AllReadyH.cons (o := { dst := some 11, op := Op.alloc 25, type := 0, pos := "made.go:28", after := #[], guard := none }) rfl (fun K hK => ?_) ?_
      · go_simp
        refine hK.out _ _ ?_ (fun hHeld2 => ?_)
        · (try dsimp only); try trivial
        clear hK K
        try simp only [Act.put, List.setIfInBounds_toArray, List.set_cons_zero, List.set_cons_succ]
        refine wpAnyH_ready (rs := [3]) (by kernel_rfl) (by simp) ?_
        refine AllReadyH.cons (o := { dst := some 26, op := Op.makeSlice 23 (Operand.tmp 25) (Operand.tmp 25), type := 23, pos := "made.go:28", after := #[{ on := 2, ground := Ground.data }, { on := 2, ground := Ground.data }], guard := none }) rfl (fun K hK => ?_) ?_
        · refine step_make_run rfl (.tmp 25) (.tmp 25) 23 rfl (by simp [Act.eval]) (by simp [Act.eval]) (hmk _) ?_
          refine hK.out _ _ ?_ (fun hHeld2 => ?_)
          · (try dsimp only); try trivial
          clear hK K
          try simp only [Act.put, List.setIfInBounds_toArray, List.set_cons_zero, List.set_cons_succ]
          refine wpAnyH_take (i := 4) (oi := { dst := some 27, op := Op.build 25 #[(0, Operand.tmp 24), (1, Operand.tmp 26)], type := 25, pos := "made.go:28", after := #[{ on := 1, ground := Ground.data }, { on := 3, ground := Ground.data }], guard := none }) (v := ?_) rfl (by kernel_rfl) (by kernel_rfl) (by kernel_rfl) (fun _ _ _ h => h) (Or.inl ⟨by rfl, ?_⟩) (by assumption) ?_
          rotate_left
          · (intro wz hSw; (try dsimp only at hSw); go_simp; try with_reducible rfl)
          simp only [Act.put, List.setIfInBounds_toArray, List.set_cons_zero, List.set_cons_succ]
          refine wpAnyH_ready (rs := [6]) (by kernel_rfl) (by simp) ?_
          refine AllReadyH.cons (o := { dst := none, op := Op.store 25 (Operand.tmp 11) (Operand.tmp 27), type := 0, pos := "made.go:28", after := #[{ on := 5, ground := Ground.data }, { on := 4, ground := Ground.data }, { on := 0, ground := Ground.phase }, { on := 1, ground := Ground.phase }, { on := 2, ground := Ground.phase }, { on := 3, ground := Ground.phase }, { on := 4, ground := Ground.phase }, { on := 5, ground := Ground.phase }], guard := none }) rfl (fun K hK => ?_) ?_
          · go_simp
            refine hK.out _ _ ?_ (fun hHeld2 => ?_)
            · (try dsimp only); try trivial
            clear hK K
            try simp only [Act.put, List.setIfInBounds_toArray, List.set_cons_zero, List.set_cons_succ]
            refine wpAnyH_done (by kernel_rfl) ?_ _
            go_wp2_with fail
            go_meet
            first | exact ⟨_, wa.heap.size + 1, wa.heap.size + 1 + 1, rfl, ⟨(three _ _ _ _).1, (three _ _ _ _).2.1, (three _ _ _ _).2.2, by omega⟩, keeps3 _ _ _ _, by omega, by omega, by omega⟩ | exact ⟨_, wa.heap.size + 1 + 1, wa.heap.size + 1, rfl, ⟨(three _ _ _ _).1, (three _ _ _ _).2.2, (three _ _ _ _).2.1, by omega⟩, keeps3 _ _ _ _, by omega, by omega, by omega⟩ | exact ⟨_, wa.heap.size, wa.heap.size + 1 + 1, rfl, ⟨(three _ _ _ _).2.1, (three _ _ _ _).1, (three _ _ _ _).2.2, by omega⟩, keeps3 _ _ _ _, by omega, by omega, by omega⟩ | exact ⟨_, wa.heap.size + 1 + 1, wa.heap.size, rfl, ⟨(three _ _ _ _).2.1, (three _ _ _ _).2.2, (three _ _ _ _).1, by omega⟩, keeps3 _ _ _ _, by omega, by omega, by omega⟩ | exact ⟨_, wa.heap.size, wa.heap.size + 1, rfl, ⟨(three _ _ _ _).2.2, (three _ _ _ _).1, (three _ _ _ _).2.1, by omega⟩, keeps3 _ _ _ _, by omega, by omega, by omega⟩ | exact ⟨_, wa.heap.size + 1, wa.heap.size, rfl, ⟨(three _ _ _ _).2.2, (three _ _ _ _).2.1, (three _ _ _ _).1, by omega⟩, keeps3 _ _ _ _, by omega, by omega, by omega⟩
          exact AllReadyH.nil
        exact AllReadyH.nil
      exact AllReadyH.nil
    refine AllReadyH.cons (o := { dst := some 26, op := Op.makeSlice 23 (Operand.tmp 25) (Operand.tmp 25), type := 23, pos := "made.go:28", after := #[{ on := 2, ground := Ground.data }, { on := 2, ground := Ground.data }], guard := none }) rfl (fun K hK => ?_) ?_
    · refine step_make_run rfl (.tmp 25) (.tmp 25) 23 rfl (by simp [Act.eval]) (by simp [Act.eval]) (hmk _) ?_
      refine hK.out _ _ ?_ (fun hHeld2 => ?_)
      · (try dsimp only); try trivial
      clear hK K
      try simp only [Act.put, List.setIfInBounds_toArray, List.set_cons_zero, List.set_cons_succ]
      refine wpAnyH_ready (rs := [1, 5]) (by kernel_rfl) (by simp) ?_
      refine AllReadyH.cons (o := { dst := some 24, op := Op.makeSlice 23 (Operand.tmp 23) (Operand.tmp 23), type := 23, pos := "made.go:28", after := #[{ on := 0, ground := Ground.data }, { on := 0, ground := Ground.data }], guard := none }) rfl (fun K hK => ?_) ?_
      · refine step_make_run rfl (.tmp 23) (.tmp 23) 23 rfl (by simp [Act.eval]) (by simp [Act.eval]) (hmk _) ?_
        refine hK.out _ _ ?_ (fun hHeld2 => ?_)
        · (try dsimp only); try trivial
        clear hK K
        try simp only [Act.put, List.setIfInBounds_toArray, List.set_cons_zero, List.set_cons_succ]
        refine wpAnyH_take (i := 4) (oi := { dst := some 27, op := Op.build 25 #[(0, Operand.tmp 24), (1, Operand.tmp 26)], type := 25, pos := "made.go:28", after := #[{ on := 1, ground := Ground.data }, { on := 3, ground := Ground.data }], guard := none }) (v := ?_) rfl (by kernel_rfl) (by kernel_rfl) (by kernel_rfl) (fun _ _ _ h => h) (Or.inl ⟨by rfl, ?_⟩) (by assumption) ?_
        rotate_left
        · (intro wz hSw; (try dsimp only at hSw); go_simp; try with_reducible rfl)
        simp only [Act.put, List.setIfInBounds_toArray, List.set_cons_zero, List.set_cons_succ]
        refine wpAnyH_ready (rs := [5]) (by kernel_rfl) (by simp) ?_
        refine AllReadyH.cons (o := { dst := some 11, op := Op.alloc 25, type := 0, pos := "made.go:28", after := #[], guard := none }) rfl (fun K hK => ?_) ?_
        · go_simp
          refine hK.out _ _ ?_ (fun hHeld2 => ?_)
          · (try dsimp only); try trivial
          clear hK K
          try simp only [Act.put, List.setIfInBounds_toArray, List.set_cons_zero, List.set_cons_succ]
          refine wpAnyH_ready (rs := [6]) (by kernel_rfl) (by simp) ?_
          refine AllReadyH.cons (o := { dst := none, op := Op.store 25 (Operand.tmp 11) (Operand.tmp 27), type := 0, pos := "made.go:28", after := #[{ on := 5, ground := Ground.data }, { on := 4, ground := Ground.data }, { on := 0, ground := Ground.phase }, { on := 1, ground := Ground.phase }, { on := 2, ground := Ground.phase }, { on := 3, ground := Ground.phase }, { on := 4, ground := Ground.phase }, { on := 5, ground := Ground.phase }], guard := none }) rfl (fun K hK => ?_) ?_
          · go_simp
            refine hK.out _ _ ?_ (fun hHeld2 => ?_)
            · (try dsimp only); try trivial
            clear hK K
            try simp only [Act.put, List.setIfInBounds_toArray, List.set_cons_zero, List.set_cons_succ]
            refine wpAnyH_done (by kernel_rfl) ?_ _
            go_wp2_with fail
            go_meet
            first | exact ⟨_, wa.heap.size + 1, wa.heap.size + 1 + 1, rfl, ⟨(three _ _ _ _).1, (three _ _ _ _).2.1, (three _ _ _ _).2.2, by omega⟩, keeps3 _ _ _ _, by omega, by omega, by omega⟩ | exact ⟨_, wa.heap.size + 1 + 1, wa.heap.size + 1, rfl, ⟨(three _ _ _ _).1, (three _ _ _ _).2.2, (three _ _ _ _).2.1, by omega⟩, keeps3 _ _ _ _, by omega, by omega, by omega⟩ | exact ⟨_, wa.heap.size, wa.heap.size + 1 + 1, rfl, ⟨(three _ _ _ _).2.1, (three _ _ _ _).1, (three _ _ _ _).2.2, by omega⟩, keeps3 _ _ _ _, by omega, by omega, by omega⟩ | exact ⟨_, wa.heap.size + 1 + 1, wa.heap.size, rfl, ⟨(three _ _ _ _).2.1, (three _ _ _ _).2.2, (three _ _ _ _).1, by omega⟩, keeps3 _ _ _ _, by omega, by omega, by omega⟩ | exact ⟨_, wa.heap.size, wa.heap.size + 1, rfl, ⟨(three _ _ _ _).2.2, (three _ _ _ _).1, (three _ _ _ _).2.1, by omega⟩, keeps3 _ _ _ _, by omega, by omega, by omega⟩ | exact ⟨_, wa.heap.size + 1, wa.heap.size, rfl, ⟨(three _ _ _ _).2.2, (three _ _ _ _).2.1, (three _ _ _ _).1, by omega⟩, keeps3 _ _ _ _, by omega, by omega, by omega⟩
          exact AllReadyH.nil
        exact AllReadyH.nil
      refine AllReadyH.cons (o := { dst := some 11, op := Op.alloc 25, type := 0, pos := "made.go:28", after := #[], guard := none }) rfl (fun K hK => ?_) ?_
      · go_simp
        refine hK.out _ _ ?_ (fun hHeld2 => ?_)
        · (try dsimp only); try trivial
        clear hK K
        try simp only [Act.put, List.setIfInBounds_toArray, List.set_cons_zero, List.set_cons_succ]
        refine wpAnyH_ready (rs := [1]) (by kernel_rfl) (by simp) ?_
        refine AllReadyH.cons (o := { dst := some 24, op := Op.makeSlice 23 (Operand.tmp 23) (Operand.tmp 23), type := 23, pos := "made.go:28", after := #[{ on := 0, ground := Ground.data }, { on := 0, ground := Ground.data }], guard := none }) rfl (fun K hK => ?_) ?_
        · refine step_make_run rfl (.tmp 23) (.tmp 23) 23 rfl (by simp [Act.eval]) (by simp [Act.eval]) (hmk _) ?_
          refine hK.out _ _ ?_ (fun hHeld2 => ?_)
          · (try dsimp only); try trivial
          clear hK K
          try simp only [Act.put, List.setIfInBounds_toArray, List.set_cons_zero, List.set_cons_succ]
          refine wpAnyH_take (i := 4) (oi := { dst := some 27, op := Op.build 25 #[(0, Operand.tmp 24), (1, Operand.tmp 26)], type := 25, pos := "made.go:28", after := #[{ on := 1, ground := Ground.data }, { on := 3, ground := Ground.data }], guard := none }) (v := ?_) rfl (by kernel_rfl) (by kernel_rfl) (by kernel_rfl) (fun _ _ _ h => h) (Or.inl ⟨by rfl, ?_⟩) (by assumption) ?_
          rotate_left
          · (intro wz hSw; (try dsimp only at hSw); go_simp; try with_reducible rfl)
          simp only [Act.put, List.setIfInBounds_toArray, List.set_cons_zero, List.set_cons_succ]
          refine wpAnyH_ready (rs := [6]) (by kernel_rfl) (by simp) ?_
          refine AllReadyH.cons (o := { dst := none, op := Op.store 25 (Operand.tmp 11) (Operand.tmp 27), type := 0, pos := "made.go:28", after := #[{ on := 5, ground := Ground.data }, { on := 4, ground := Ground.data }, { on := 0, ground := Ground.phase }, { on := 1, ground := Ground.phase }, { on := 2, ground := Ground.phase }, { on := 3, ground := Ground.phase }, { on := 4, ground := Ground.phase }, { on := 5, ground := Ground.phase }], guard := none }) rfl (fun K hK => ?_) ?_
          · go_simp
            refine hK.out _ _ ?_ (fun hHeld2 => ?_)
            · (try dsimp only); try trivial
            clear hK K
            try simp only [Act.put, List.setIfInBounds_toArray, List.set_cons_zero, List.set_cons_succ]
            refine wpAnyH_done (by kernel_rfl) ?_ _
            go_wp2_with fail
            go_meet
            first | exact ⟨_, wa.heap.size + 1, wa.heap.size + 1 + 1, rfl, ⟨(three _ _ _ _).1, (three _ _ _ _).2.1, (three _ _ _ _).2.2, by omega⟩, keeps3 _ _ _ _, by omega, by omega, by omega⟩ | exact ⟨_, wa.heap.size + 1 + 1, wa.heap.size + 1, rfl, ⟨(three _ _ _ _).1, (three _ _ _ _).2.2, (three _ _ _ _).2.1, by omega⟩, keeps3 _ _ _ _, by omega, by omega, by omega⟩ | exact ⟨_, wa.heap.size, wa.heap.size + 1 + 1, rfl, ⟨(three _ _ _ _).2.1, (three _ _ _ _).1, (three _ _ _ _).2.2, by omega⟩, keeps3 _ _ _ _, by omega, by omega, by omega⟩ | exact ⟨_, wa.heap.size + 1 + 1, wa.heap.size, rfl, ⟨(three _ _ _ _).2.1, (three _ _ _ _).2.2, (three _ _ _ _).1, by omega⟩, keeps3 _ _ _ _, by omega, by omega, by omega⟩ | exact ⟨_, wa.heap.size, wa.heap.size + 1, rfl, ⟨(three _ _ _ _).2.2, (three _ _ _ _).1, (three _ _ _ _).2.1, by omega⟩, keeps3 _ _ _ _, by omega, by omega, by omega⟩ | exact ⟨_, wa.heap.size + 1, wa.heap.size, rfl, ⟨(three _ _ _ _).2.2, (three _ _ _ _).2.1, (three _ _ _ _).1, by omega⟩, keeps3 _ _ _ _, by omega, by omega, by omega⟩
          exact AllReadyH.nil
        exact AllReadyH.nil
      exact AllReadyH.nil
    refine AllReadyH.cons (o := { dst := some 11, op := Op.alloc 25, type := 0, pos := "made.go:28", after := #[], guard := none }) rfl (fun K hK => ?_) ?_
    · go_simp
      refine hK.out _ _ ?_ (fun hHeld2 => ?_)
      · (try dsimp only); try trivial
      clear hK K
      try simp only [Act.put, List.setIfInBounds_toArray, List.set_cons_zero, List.set_cons_succ]
      refine wpAnyH_ready (rs := [1, 3]) (by kernel_rfl) (by simp) ?_
      refine AllReadyH.cons (o := { dst := some 24, op := Op.makeSlice 23 (Operand.tmp 23) (Operand.tmp 23), type := 23, pos := "made.go:28", after := #[{ on := 0, ground := Ground.data }, { on := 0, ground := Ground.data }], guard := none }) rfl (fun K hK => ?_) ?_
      · refine step_make_run rfl (.tmp 23) (.tmp 23) 23 rfl (by simp [Act.eval]) (by simp [Act.eval]) (hmk _) ?_
        refine hK.out _ _ ?_ (fun hHeld2 => ?_)
        · (try dsimp only); try trivial
        clear hK K
        try simp only [Act.put, List.setIfInBounds_toArray, List.set_cons_zero, List.set_cons_succ]
        refine wpAnyH_ready (rs := [3]) (by kernel_rfl) (by simp) ?_
        refine AllReadyH.cons (o := { dst := some 26, op := Op.makeSlice 23 (Operand.tmp 25) (Operand.tmp 25), type := 23, pos := "made.go:28", after := #[{ on := 2, ground := Ground.data }, { on := 2, ground := Ground.data }], guard := none }) rfl (fun K hK => ?_) ?_
        · refine step_make_run rfl (.tmp 25) (.tmp 25) 23 rfl (by simp [Act.eval]) (by simp [Act.eval]) (hmk _) ?_
          refine hK.out _ _ ?_ (fun hHeld2 => ?_)
          · (try dsimp only); try trivial
          clear hK K
          try simp only [Act.put, List.setIfInBounds_toArray, List.set_cons_zero, List.set_cons_succ]
          refine wpAnyH_take (i := 4) (oi := { dst := some 27, op := Op.build 25 #[(0, Operand.tmp 24), (1, Operand.tmp 26)], type := 25, pos := "made.go:28", after := #[{ on := 1, ground := Ground.data }, { on := 3, ground := Ground.data }], guard := none }) (v := ?_) rfl (by kernel_rfl) (by kernel_rfl) (by kernel_rfl) (fun _ _ _ h => h) (Or.inl ⟨by rfl, ?_⟩) (by assumption) ?_
          rotate_left
          · (intro wz hSw; (try dsimp only at hSw); go_simp; try with_reducible rfl)
          simp only [Act.put, List.setIfInBounds_toArray, List.set_cons_zero, List.set_cons_succ]
          refine wpAnyH_ready (rs := [6]) (by kernel_rfl) (by simp) ?_
          refine AllReadyH.cons (o := { dst := none, op := Op.store 25 (Operand.tmp 11) (Operand.tmp 27), type := 0, pos := "made.go:28", after := #[{ on := 5, ground := Ground.data }, { on := 4, ground := Ground.data }, { on := 0, ground := Ground.phase }, { on := 1, ground := Ground.phase }, { on := 2, ground := Ground.phase }, { on := 3, ground := Ground.phase }, { on := 4, ground := Ground.phase }, { on := 5, ground := Ground.phase }], guard := none }) rfl (fun K hK => ?_) ?_
          · go_simp
            refine hK.out _ _ ?_ (fun hHeld2 => ?_)
            · (try dsimp only); try trivial
            clear hK K
            try simp only [Act.put, List.setIfInBounds_toArray, List.set_cons_zero, List.set_cons_succ]
            refine wpAnyH_done (by kernel_rfl) ?_ _
            go_wp2_with fail
            go_meet
            first | exact ⟨_, wa.heap.size + 1, wa.heap.size + 1 + 1, rfl, ⟨(three _ _ _ _).1, (three _ _ _ _).2.1, (three _ _ _ _).2.2, by omega⟩, keeps3 _ _ _ _, by omega, by omega, by omega⟩ | exact ⟨_, wa.heap.size + 1 + 1, wa.heap.size + 1, rfl, ⟨(three _ _ _ _).1, (three _ _ _ _).2.2, (three _ _ _ _).2.1, by omega⟩, keeps3 _ _ _ _, by omega, by omega, by omega⟩ | exact ⟨_, wa.heap.size, wa.heap.size + 1 + 1, rfl, ⟨(three _ _ _ _).2.1, (three _ _ _ _).1, (three _ _ _ _).2.2, by omega⟩, keeps3 _ _ _ _, by omega, by omega, by omega⟩ | exact ⟨_, wa.heap.size + 1 + 1, wa.heap.size, rfl, ⟨(three _ _ _ _).2.1, (three _ _ _ _).2.2, (three _ _ _ _).1, by omega⟩, keeps3 _ _ _ _, by omega, by omega, by omega⟩ | exact ⟨_, wa.heap.size, wa.heap.size + 1, rfl, ⟨(three _ _ _ _).2.2, (three _ _ _ _).1, (three _ _ _ _).2.1, by omega⟩, keeps3 _ _ _ _, by omega, by omega, by omega⟩ | exact ⟨_, wa.heap.size + 1, wa.heap.size, rfl, ⟨(three _ _ _ _).2.2, (three _ _ _ _).2.1, (three _ _ _ _).1, by omega⟩, keeps3 _ _ _ _, by omega, by omega, by omega⟩
          exact AllReadyH.nil
        exact AllReadyH.nil
      refine AllReadyH.cons (o := { dst := some 26, op := Op.makeSlice 23 (Operand.tmp 25) (Operand.tmp 25), type := 23, pos := "made.go:28", after := #[{ on := 2, ground := Ground.data }, { on := 2, ground := Ground.data }], guard := none }) rfl (fun K hK => ?_) ?_
      · refine step_make_run rfl (.tmp 25) (.tmp 25) 23 rfl (by simp [Act.eval]) (by simp [Act.eval]) (hmk _) ?_
        refine hK.out _ _ ?_ (fun hHeld2 => ?_)
        · (try dsimp only); try trivial
        clear hK K
        try simp only [Act.put, List.setIfInBounds_toArray, List.set_cons_zero, List.set_cons_succ]
        refine wpAnyH_ready (rs := [1]) (by kernel_rfl) (by simp) ?_
        refine AllReadyH.cons (o := { dst := some 24, op := Op.makeSlice 23 (Operand.tmp 23) (Operand.tmp 23), type := 23, pos := "made.go:28", after := #[{ on := 0, ground := Ground.data }, { on := 0, ground := Ground.data }], guard := none }) rfl (fun K hK => ?_) ?_
        · refine step_make_run rfl (.tmp 23) (.tmp 23) 23 rfl (by simp [Act.eval]) (by simp [Act.eval]) (hmk _) ?_
          refine hK.out _ _ ?_ (fun hHeld2 => ?_)
          · (try dsimp only); try trivial
          clear hK K
          try simp only [Act.put, List.setIfInBounds_toArray, List.set_cons_zero, List.set_cons_succ]
          refine wpAnyH_take (i := 4) (oi := { dst := some 27, op := Op.build 25 #[(0, Operand.tmp 24), (1, Operand.tmp 26)], type := 25, pos := "made.go:28", after := #[{ on := 1, ground := Ground.data }, { on := 3, ground := Ground.data }], guard := none }) (v := ?_) rfl (by kernel_rfl) (by kernel_rfl) (by kernel_rfl) (fun _ _ _ h => h) (Or.inl ⟨by rfl, ?_⟩) (by assumption) ?_
          rotate_left
          · (intro wz hSw; (try dsimp only at hSw); go_simp; try with_reducible rfl)
          simp only [Act.put, List.setIfInBounds_toArray, List.set_cons_zero, List.set_cons_succ]
          refine wpAnyH_ready (rs := [6]) (by kernel_rfl) (by simp) ?_
          refine AllReadyH.cons (o := { dst := none, op := Op.store 25 (Operand.tmp 11) (Operand.tmp 27), type := 0, pos := "made.go:28", after := #[{ on := 5, ground := Ground.data }, { on := 4, ground := Ground.data }, { on := 0, ground := Ground.phase }, { on := 1, ground := Ground.phase }, { on := 2, ground := Ground.phase }, { on := 3, ground := Ground.phase }, { on := 4, ground := Ground.phase }, { on := 5, ground := Ground.phase }], guard := none }) rfl (fun K hK => ?_) ?_
          · go_simp
            refine hK.out _ _ ?_ (fun hHeld2 => ?_)
            · (try dsimp only); try trivial
            clear hK K
            try simp only [Act.put, List.setIfInBounds_toArray, List.set_cons_zero, List.set_cons_succ]
            refine wpAnyH_done (by kernel_rfl) ?_ _
            go_wp2_with fail
            go_meet
            first | exact ⟨_, wa.heap.size + 1, wa.heap.size + 1 + 1, rfl, ⟨(three _ _ _ _).1, (three _ _ _ _).2.1, (three _ _ _ _).2.2, by omega⟩, keeps3 _ _ _ _, by omega, by omega, by omega⟩ | exact ⟨_, wa.heap.size + 1 + 1, wa.heap.size + 1, rfl, ⟨(three _ _ _ _).1, (three _ _ _ _).2.2, (three _ _ _ _).2.1, by omega⟩, keeps3 _ _ _ _, by omega, by omega, by omega⟩ | exact ⟨_, wa.heap.size, wa.heap.size + 1 + 1, rfl, ⟨(three _ _ _ _).2.1, (three _ _ _ _).1, (three _ _ _ _).2.2, by omega⟩, keeps3 _ _ _ _, by omega, by omega, by omega⟩ | exact ⟨_, wa.heap.size + 1 + 1, wa.heap.size, rfl, ⟨(three _ _ _ _).2.1, (three _ _ _ _).2.2, (three _ _ _ _).1, by omega⟩, keeps3 _ _ _ _, by omega, by omega, by omega⟩ | exact ⟨_, wa.heap.size, wa.heap.size + 1, rfl, ⟨(three _ _ _ _).2.2, (three _ _ _ _).1, (three _ _ _ _).2.1, by omega⟩, keeps3 _ _ _ _, by omega, by omega, by omega⟩ | exact ⟨_, wa.heap.size + 1, wa.heap.size, rfl, ⟨(three _ _ _ _).2.2, (three _ _ _ _).2.1, (three _ _ _ _).1, by omega⟩, keeps3 _ _ _ _, by omega, by omega, by omega⟩
          exact AllReadyH.nil
        exact AllReadyH.nil
      exact AllReadyH.nil
    exact AllReadyH.nil
  case rest =>
  obtain ⟨p, gp, gd, rfl, hS, hkx, l0, l1, l2⟩ := hcut
  have HS1 : Hid (IsS wc p gp gd n (fun _ => 0) (fun _ => 0) ∧ Keeps None wa wc ∧ wa.heap.size ≤ p ∧ wa.heap.size ≤ gp ∧ wa.heap.size ≤ gd) := ⟨hS, hkx, l0, l1, l2⟩
  clear hS hkx l0 l1 l2 hmk
  go_wp2_with fail
  refine (seeded_any seed _).mono ?_
  rintro _ w1 ⟨rfl, hD, hk1⟩
  obtain ⟨g, hg⟩ : ∃ g, g = wc.heap.size := ⟨_, rfl⟩
  rw [← hg] at hD ⊢
  have HD1 : Hid (IsD w1 g seed seedF ∧ Keeps None wc w1 ∧ g = wc.heap.size) := ⟨hD, hk1, hg⟩
  clear hD hk1 hg
  have hz := zeroW
  have hz0 : ¬ z66 = #[] := by decide
  have hzs : z66.size = 66 := by decide
  obtain ⟨Z, hZ⟩ : ∃ Z, Z = z66 := ⟨_, rfl⟩
  rw [← hZ] at hz hz0 hzs
  have HZ : Hid (Z = z66) := hZ
  have hone : (Z.setIfInBounds 0 (.int .i64 W)).all (·.oneCell') = true := by rw [hZ, z66_set]; simp [Value.oneCell']
  have hinfo : (Try.prog.info? 57).map (·.size) = some (Z.setIfInBounds 0 (.int .i64 W)).size := by
    rw [Array.size_setIfInBounds, hzs]
    kernel_rfl
  clear hZ
  go_wp2_with (refine wpList_store_row rfl 57 (.tmp 13) (.tmp 31) rfl _ (Z.setIfInBounds 0 (.int .i64 W)) rfl rfl 57 Z (blk_new _ _ _ rfl) hinfo (by simp) hone ?_)
  obtain ⟨q, hq⟩ : ∃ q, q = w1.heap.size := ⟨_, rfl⟩
  rw [← hq]
  have HW0 : Hid (IsW ((w1.alloc (.cells Z 57)).setRow q (Z.setIfInBounds 0 (.int .i64 W))) q W 0 (fun _ => 0) ∧ Keeps None w1 ((w1.alloc (.cells Z 57)).setRow q (Z.setIfInBounds 0 (.int .i64 W))) ∧ q = w1.heap.size) := by
    refine ⟨?_, ?_, hq⟩
    · unfold IsW
      rw [HZ.out, z66_set]
      exact setRow_heap _ _ _ _ _ _ (blk_new _ _ _ hq.symm)
    · exact ⟨rfl, rfl, rfl, by simp, fun k hk _ => (setRow_other _ _ _ _ (by omega)).trans (Below.heap_alloc _ _ _ hk)⟩
  clear hz hz0 hzs hone hinfo hq
  generalize (w1.alloc (.cells Z 57)).setRow q (Z.setIfInBounds 0 (.int .i64 W)) = W0 at HW0 ⊢
  clear HZ
  obtain ⟨D, hDe⟩ : ∃ D, D = win - (W : Int) := ⟨_, rfl⟩
  have HDE : Hid (D = win - (W : Int)) := hDe
  clear hDe
  go_loopw [33, 14] (fun s33 _ wr => ∃ k : Nat, s33 = .int .i64 k ∧ k ≤ n ∧ Nst wa wr p gp gd g q n W seed D k k (2 * k) k) (fun s33 _ _ => n - (intOf s33).toNat)
  case atStart =>
    refine ⟨0, rfl, Nat.zero_le _, ?_⟩
    have h1 := HS1.out
    have h2 := HD1.out
    have h3 := HW0.out
    have hkk : Keeps None wc W0 := h2.2.1.trans h3.2.1 (fun _ f _ => f)
    have e0 := H0.out
    have z1 := h1.1.pk.lt
    have z2 := h1.1.dr.lt
    have z3 := blk_lt h1.1.blk
    have z4 := h2.1.lt
    have z5 := h1.2.1.size
    exact ⟨(h1.1.more hkk).congr0, h2.1.more h3.2.1, h3.1, h1.2.1.trans hkk (fun _ f _ => f), by omega, by omega, by omega, by omega, by omega, by omega, by omega, by omega, ⟨h1.1.nep.1, h1.1.nep.2, h1.1.ne⟩⟩
  case round =>
    obtain ⟨k, rfl, hk, hN⟩ := hrel
    have HN : Hid (Nst wa wr p gp gd g q n W seed D k k (2 * k) k) := hN
    clear hN
    by_cases hkn : k < n
    · have i1 : (k : Int) < (n : Int) := by omega
      have HC : Hid (∀ j, (nzK seed W D k).c j ≤ k) := fun j => by rw [nzK_c]; exact cur_le _ _ _
      have hpl := pick_lt (nzK seed W D k) D (show 0 < W by omega)
      obtain ⟨P, hP⟩ : ∃ P, P = pickK seed W D k := ⟨_, rfl⟩
      have HP : Hid (P = pickK seed W D k ∧ pickV (nzK seed W D k).c W (win - W) (num (nx (seedK seed (2 * k)))) = P) := ⟨hP, by rw [hP, ← HDE.out]; exact pickV_nz seed W D k⟩
      have hPW : P < W := by rw [hP]; exact hpl
      clear hP hpl
      have n0 : ¬ n = 0 := by omega
      have c0 := HN.out.c0
      go_upto_region 10 with fail
      go_cut [14] (fun s14 wx => s14 = .int .i64 k ∧ Nst wa wx p gp gd g q n W seed D (k + 1) k (2 * k + 1) k)
      case first =>
        go_region_held3 (fun w' => w'.cell? ⟨p, 0, none⟩ = some (.slice (some ⟨gp, 0, none⟩) n n)) (first | go_keep | with_reducible exact hS5 | with_reducible exact hS6 | with_reducible exact hS7) (first
          | (go_at_call 23; refine (draw_seeded g (seedK seed (2 * k)) _ (HN.out.d.more (Keeps.drew None _))).mono ?_; rintro _ w5 ⟨rfl, hD5, hk5⟩; have HN5 : Hid (Nst wa w5 p gp gd g q n W seed D k k (2 * k + 1) k) := (HN.out.more (Keeps.drew None _)).drawn hD5 hk5; have hS5 := HN5.out.c0; clear hD5 hk5)
          | (go_at_call 34; refine (pick_any q W k _ _ win _ HN5.out.v hW1 hW HC.out (by omega) hwin hwo).mono ?_; rintro _ w6 ⟨rfl, d6, rfl⟩; rw [HP.out.2]; have HN6 : Hid (Nst wa (w5.drewN d6) p gp gd g q n W seed D k k (2 * k + 1) k) := HN5.out.more (Keeps.drewN None _ _); have HN7 : Hid (Nst wa ((w5.drewN d6).setCell ⟨gp, k, none⟩ (.int .i64 (P : Int))) p gp gd g q n W seed D (k + 1) k (2 * k + 1) k) := (by rw [HP.out.1]; exact HN6.out.setF); have hS6 := HN6.out.c0; have hS7 := HN7.out.c0; have e6 := HN6.out.s.pk.at hkn; have f6 := HN6.out.s.pk.free k; generalize noiseF seed W D k k = y6 at e6))
        all_goals (go_wp2_with fail; go_meet)
        all_goals exact ⟨rfl, HN7.out⟩
      case rest =>
      obtain ⟨rfl, hN1⟩ := hcut
      have HM : Hid (Nst wa wc p gp gd g q n W seed D (k + 1) k (2 * k + 1) k) := hN1
      have c1 := hN1.c1
      clear hN1 c0
      obtain ⟨wb, hwb⟩ : ∃ wb, wb = wc := ⟨_, rfl⟩
      rw [← hwb] at HM c1 ⊢
      clear hwb
      go_upto_region 11 with fail
      go_cut [14] (fun s14 wx => s14 = .int .i64 k ∧ Nst wa wx p gp gd g q n W seed D (k + 1) (k + 1) (2 * k + 1 + 1) k)
      case first =>
        go_region_held3 (fun w' => w'.cell? ⟨p, 1, none⟩ = some (.slice (some ⟨gd, 0, none⟩) n n)) (first | go_keep | with_reducible exact hS6 | with_reducible exact hS7) (first
          | (go_at_call 23; refine (draw_seeded g (seedK seed (2 * k + 1)) _ (HM.out.d.more (Keeps.drew None _))).mono ?_; rintro _ w5 ⟨rfl, hD5, hk5⟩; have HN6 : Hid (Nst wa w5 p gp gd g q n W seed D (k + 1) k (2 * k + 1 + 1) k) := (HM.out.more (Keeps.drew None _)).drawn hD5 hk5; have HN7 : Hid (Nst wa (w5.setCell ⟨gd, k, none⟩ (.int .i64 (num (nx (seedK seed (2 * k + 1)))))) p gp gd g q n W seed D (k + 1) (k + 1) (2 * k + 1 + 1) k) := (by have := HN6.out.setG; rw [← draw_nz] at this; exact this); have hS6 := HN6.out.c1; have hS7 := HN7.out.c1; have e6 := HN6.out.s.dr.at hkn; have f6 := HN6.out.s.dr.free k; generalize noiseG seed W D k k = y6 at e6; clear hD5 hk5))
        all_goals (go_wp2_with fail; go_meet)
        all_goals exact ⟨rfl, HN7.out⟩
      case rest =>
      obtain ⟨rfl, hN2⟩ := hcut
      have HM2 : Hid (Nst wa wc p gp gd g q n W seed D (k + 1) (k + 1) (2 * k + 1 + 1) k) := hN2
      have c2 := hN2.c0
      have e2 : wc.cell? ⟨gp, k, none⟩ = some (.int .i64 (P : Int)) := by
        rw [hN2.s.pk.at hkn, HP.out.1]
        unfold noiseF
        rw [if_pos (by omega)]
      clear hN2 c1 HM
      go_wp2_with fail
      refine (name_any q W k P _ _ HM2.out.v (by omega) (by omega)).mono ?_
      rintro _ w7 ⟨rfl, hv7, hk7⟩
      have HN8 : Hid (Nst wa w7 p gp gd g q n W seed D (k + 1) (k + 1) (2 * (k + 1)) (k + 1)) := by
        rw [HP.out.1, nm_nz] at hv7
        exact HM2.out.named hv7 hk7
      clear hv7 hk7
      go_wp2_with fail
      exact ⟨⟨k + 1, by go_num, by omega, HN8.out⟩, by simp [intOf]; omega⟩
    · have i1 : ¬ (k : Int) < (n : Int) := by omega
      obtain rfl : k = n := by omega
      have hN := HN.out
      have c0 := hN.c0
      have c1 := hN.c1
      have b0 := blk_kept H0.out.1 hN.kp (fun f => f)
      have r0 := (blk_cell b0 0).trans rfl
      have r1 := (blk_cell b0 1).trans rfl
      have f0 := blk_free b0 0
      have f1 := blk_free b0 1
      have HB : Hid (wr.heap[s0]? = some (.cells #[.slice none 0 0, .slice none 0 0] 25 (0, 0)) ∧ Nst wa wr p gp gd g q k W seed D k k (2 * k) k) := ⟨b0, hN⟩
      clear hN b0
      go_wp2_with fail
      refine script_end2 8 9 rfl rfl HB.out.1 rfl rfl rfl _ _ (fun w' hk => ⟨gp, gd, rfl, ?_⟩)
      have hN := HB.out.2
      have hsz := hN.l1
      have hsz2 := hN.l2
      have e0 := H0.out
      rw [← HDE.out]
      refine ⟨(hN.s.pk.kept hk (by omega)).congr (fun i hi => ?_), (hN.s.dr.kept hk (by omega)).congr (fun i hi => ?_), hN.np.2.2, by omega, by omega, ((e0.2.1.trans hN.kp (fun _ f _ => f))).trans hk (fun i e hi => by omega)⟩
      · unfold noiseF; rw [if_pos hi]
      · unfold noiseG; rw [if_pos hi]
set_option maxHeartbeats 800000 in
theorem noise_bad (seed x win n : Int) (w : World) (hE : noiE x win n ≠ 0) :
    Calls Try.prog 9 #[.int .i64 seed, .int .i64 x, .int .i64 win, .int .i64 n] w fun e w' => e = .returned (.tuple #[.agg #[.slice none 0 0, .slice none 0 0], .int .i64 (noiE x win n)]) ∧ Keeps None w w' := by
  obtain ⟨E, hEe⟩ : ∃ E, E = noiE x win n := ⟨_, rfl⟩
  have HE : Hid (E = noiE x win n) := hEe
  rw [← hEe] at hE
  have hb : (E != 0) = true := by simpa using hE
  have hb2 : (E == 0) = false := by simpa using hE
  clear hEe
  go_enter Try.func9, Try.ntmps9
  go_wp2_with fail
  refine (fault_any _ _ _ _).mono ?_
  rintro _ wz ⟨rfl, hw⟩
  have hw2 := hw.symm
  subst hw2
  clear hw
  rw [← HE.out]
  go_wp2_with fail
  exact script_ret2 8 9 rfl (blk_new w (.cells #[.slice none 0 0, .slice none 0 0] 25) _ rfl) rfl rfl rfl ⟨by rw [HE.out]; rfl, keeps1 _ _⟩
end Go.Proofs.Ytlajblbfelcalab
