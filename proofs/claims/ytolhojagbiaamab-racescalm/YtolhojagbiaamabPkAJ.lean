import Derived.Test.YtolhojagbiaamabPkAI
/-! A read or a write is noted. -/
namespace Go.Proofs.Ytolhojagbiaamab
set_option linter.unusedVariables false
set_option maxRecDepth 20000
set_option linter.unusedSimpArgs false
open Go.RowKit Go.HeapKit

theorem IsPl.more {w w' : World} {b : Nat} {M : List (Int × Pl)} (h : IsPl w b M) (hk : Keeps None w w') : IsPl w' b M := h.kept hk (fun f => f)
def raceT (M : List Bool) (rt : Nat → Nat) (PM : List (Int × Pl)) (k loc : Int) : Bool := if k = 4 then (M.getD (rt (lookP PM loc).w) false || M.getD (rt (lookP PM loc).r) false) else M.getD (rt (lookP PM loc).w) false
def newP (M : List Bool) (rt : Nat → Nat) (PM : List (Int × Pl)) (k loc : Int) (t : Nat) : Pl := if k = 4 then ⟨bothT M rt (lookP PM loc).w t, (lookP PM loc).r, (lookP PM loc).racy⟩ else ⟨(lookP PM loc).w, bothT M rt (lookP PM loc).r t, (lookP PM loc).racy⟩
/-- The state in the midst of it. -/
structure Tch (w wx : World) (base S gu cu gm cm gl cl ga ca mb D X T : Nat) (act dn : List Nat) (M : List Bool) (A : List Int) (vd dv : Value) (rt d : Nat → Nat) (PM : List (Int × Pl)) (k loc : Int) (pw pr : Nat) (rc : Bool) : Prop where
  sw : ∃ U', SwM wx base S U' M A gu cu gm cm gl cl act ga ca dn vd dv (.map (some mb)) ∧ Fo U' rt d ∧ U'.length = T
  pl : IsPl wx mb PM
  bd : wx.heap[D]? = some (.cells #[.int .i64 k, .int .i64 loc] 26 (0, 0))
  bx : wx.heap[X]? = some (.cells #[.int .i64 pw, .int .i64 pr, .bool rc] 79 (0, 0))
  kp : Keeps (Fp w base) w wx
section
variable {w wx wy : World} {base S gu cu gm cm gl cl ga ca mb D X T : Nat} {act dn : List Nat} {M : List Bool} {A : List Int} {vd dv : Value} {rt d : Nat → Nat} {PM : List (Int × Pl)} {k loc : Int} {pw pr : Nat} {rc : Bool}
theorem Tch.more (h : Tch w wx base S gu cu gm cm gl cl ga ca mb D X T act dn M A vd dv rt d PM k loc pw pr rc) (hk : Keeps None wx wy) : Tch w wy base S gu cu gm cm gl cl ga ca mb D X T act dn M A vd dv rt d PM k loc pw pr rc := by
  obtain ⟨U', h1, h2, h3⟩ := h.sw
  exact ⟨⟨U', h1.more hk, h2, h3⟩, h.pl.more hk, blk_kept h.bd hk (fun f => f), blk_kept h.bx hk (fun f => f), Keeps.trans h.kp hk (fun _ f _ => f.elim)⟩
theorem Tch.up (h : Tch w wx base S gu cu gm cm gl cl ga ca mb D X T act dn M A vd dv rt d PM k loc pw pr rc) (hk : Keeps (· = gu) wx wy) {U1 : List Nat} (hs : SetM wy base S 1 U1 M A gu cu gm cm gl cl) (hF : Fo U1 rt d) (hl : U1.length = T) : Tch w wy base S gu cu gm cm gl cl ga ca mb D X T act dn M A vd dv rt d PM k loc pw pr rc := by
  obtain ⟨U', h1, h2, h3⟩ := h.sw
  obtain ⟨cur, hu⟩ := h1.sets.ublk
  refine ⟨⟨U1, h1.sets' (hk.mono (fun i e _ => .inl e)) hs, hF, hl⟩, h.pl.kept hk (fun e => ?_), blk_kept h.bd hk (fun e => ?_), blk_kept h.bx hk (fun e => ?_), Fp.trans h.kp hk (fun i e _ => by rw [e]; exact ⟨row_low h1.sets.ru rfl, h1.sets.toV.nb.1 _ rfl⟩)⟩
  · obtain ⟨es, cl', hb, _⟩ := h.pl
    rw [e, hu] at hb
    cases hb
  · exact ne_of_types h.bd hu (by decide) e
  · exact ne_of_types h.bx hu (by decide) e
theorem Tch.par (h : Tch w wx base S gu cu gm cm gl cl ga ca mb D X T act dn M A vd dv rt d PM k loc pw pr rc) {x : Nat} (hx : x < T) (hT : T ≤ 5000) : Calls Try.prog 56 #[.pointer (some ⟨S, 1, none⟩), .int .i64 x] wx fun e w' => e = .returned (.bool (M.getD (rt x) false)) ∧ Tch w w' base S gu cu gm cm gl cl ga ca mb D X T act dn M A vd dv rt d PM k loc pw pr rc := by
  obtain ⟨U', h1, h2, h3⟩ := h.sw
  refine (isPar_ok wx base S 1 gu cu gm cm gl cl x U' M A rt d h1.sets h2 (by omega) (by omega)).mono ?_
  rintro e w' ⟨rfl, ⟨U2, g1, g2, g3⟩, g4⟩
  exact ⟨rfl, h.up g4 g1 g2 (g3.trans h3)⟩
theorem Tch.both (h : Tch w wx base S gu cu gm cm gl cl ga ca mb D X T act dn M A vd dv rt d PM k loc pw pr rc) {x y : Nat} (hx : x < T) (hT : T ≤ 5000) : Calls Try.prog 59 #[.pointer (some ⟨S, 0, none⟩), .int .i64 x, .int .i64 y] wx fun e w' => e = .returned (.int .i64 (bothT M rt x y : Nat)) ∧ Tch w w' base S gu cu gm cm gl cl ga ca mb D X T act dn M A vd dv rt d PM k loc pw pr rc := by
  obtain ⟨U', h1, h2, h3⟩ := h.sw
  refine (forBoth_ok wx base S gu cu gm cm gl cl x y U' M A rt d h1.sets h2 (by omega) (by omega)).mono ?_
  rintro e w' ⟨rfl, ⟨U2, g1, g2, g3⟩, g4⟩
  exact ⟨rfl, h.up g4 g1 g2 (g3.trans h3)⟩
/-- The place's box is written. -/
theorem Tch.putX (h : Tch w wx base S gu cu gm cm gl cl ga ca mb D X T act dn M A vd dv rt d PM k loc pw pr rc) (hX : base ≤ X) (i : Nat) (v : Value) (hk : Keeps (· = X) wx (wx.setCell ⟨X, i, none⟩ v)) : ∃ U', SwM (wx.setCell ⟨X, i, none⟩ v) base S U' M A gu cu gm cm gl cl act ga ca dn vd dv (.map (some mb)) ∧ Fo U' rt d ∧ U'.length = T ∧ IsPl (wx.setCell ⟨X, i, none⟩ v) mb PM ∧ (wx.setCell ⟨X, i, none⟩ v).heap[D]? = some (.cells #[.int .i64 k, .int .i64 loc] 26 (0, 0)) ∧ Keeps (Fp w base) w (wx.setCell ⟨X, i, none⟩ v) := by
  obtain ⟨U', h1, h2, h3⟩ := h.sw
  have hXS : S ≠ X := fun e => by
    have := h1.b4
    rw [e, blk_cell h.bx] at this
    simp at this
  obtain ⟨_, hu⟩ := h1.sets.ublk
  obtain ⟨_, hl⟩ := h1.sets.lblk
  obtain ⟨_, hm⟩ := h1.sets.mblk
  obtain ⟨_, ha⟩ := own_block h1.ra (g := ga) rfl
  have x1 : gu ≠ X := ne_of_types hu h.bx (by decide)
  have x2 : gl ≠ X := ne_of_types hl h.bx (by decide)
  have x3 : gm ≠ X := ne_of_types hm h.bx (by decide)
  have x4 : ga ≠ X := ne_of_types ha h.bx (by decide)
  have x5 : ∀ b, vd.ownBlock = some b → b ≠ X := fun b hb => by obtain ⟨_, hd⟩ := own_block h1.rd hb; exact ne_of_types hd h.bx (by decide)
  refine ⟨U', ⟨h1.sets.kept hk hXS x1 x3 x2, hk.cell h1.b0 hXS, hk.cell h1.b4 hXS, hk.cell h1.b5 hXS, hk.cell h1.b6 hXS, h1.ra.kept hk (fun g e => by simp [Value.ownBlock] at e; subst e; exact x4), h1.rd.kept hk (fun g e => x5 g e), h1.n1, h1.n2, h1.n3, h1.n4, h1.n5⟩, h2, h3, h.pl.kept hk (fun e => ?_), blk_kept h.bd hk (fun e => ne_of_types h.bd h.bx (by decide) e), Fp.trans h.kp hk (fun i e _ => by rw [e]; exact ⟨hX, not_bk_cells h.bx (.inl (by decide))⟩)⟩
  obtain ⟨es, cl', hb, _⟩ := h.pl
  rw [e, h.bx] at hb
  cases hb
end
set_option maxHeartbeats 1600000 in
theorem touch_ok (w : World) (base S gu cu gm cm gl cl ga ca t mb : Nat) (U act dn : List Nat) (M : List Bool) (A : List Int) (vd dv : Value) (rt d : Nat → Nat) (PM : List (Int × Pl)) (k loc : Int)
    (h : SwM w base S U M A gu cu gm cm gl cl act ga ca dn vd dv (.map (some mb))) (hP : IsPl w mb PM) (hF : Fo U rt d) (ht : t < U.length) (hw : (lookP PM loc).w < U.length) (hr : (lookP PM loc).r < U.length) (hn : U.length ≤ 5000) (hk : k = 3 ∨ k = 4) (hb : base ≤ w.heap.size) (hmb : base ≤ mb) :
    Calls Try.prog 51 #[.pointer (some ⟨S, 0, none⟩), .int .i64 t, .agg #[.int .i64 k, .int .i64 loc]] w fun e w' => e = .returned (.bool (raceT M rt PM k loc)) ∧ (∃ U', SwM w' base S U' M A gu cu gm cm gl cl act ga ca dn vd dv (.map (some mb)) ∧ Fo U' rt d ∧ U'.length = U.length) ∧ IsPl w' mb (putP PM loc (newP M rt PM k loc t)) ∧ Keeps (Fp w base) w w' := by
  obtain ⟨p, hp⟩ : ∃ p, p = lookP PM loc := ⟨_, rfl⟩
  have HM : Hid (SwM w base S U M A gu cu gm cm gl cl act ga ca dn vd dv (.map (some mb)) ∧ IsPl w mb PM ∧ Fo U rt d ∧ p = lookP PM loc) := ⟨h, hP, hF, hp⟩
  have kD := Keeps.alloc None w (.cells #[.int .i64 k, .int .i64 loc] 26)
  have bD := heap_alloc_new w (.cells #[.int .i64 k, .int .i64 loc] 26)
  obtain ⟨W0, hW0⟩ : ∃ W0, W0 = w.alloc (.cells #[.int .i64 k, .int .i64 loc] 26) := ⟨_, rfl⟩
  obtain ⟨D, hD⟩ : ∃ D, D = w.heap.size := ⟨_, rfl⟩
  rw [← hW0] at kD bD
  rw [← hD] at bD
  have h0 := h.more kD
  have hP0 := hP.more kD
  have s6 := h0.b6
  have d0 : W0.cell? ⟨D, 0, none⟩ = some (.int .i64 k) := cell_of_heap bD 0
  have d1 : W0.cell? ⟨D, 1, none⟩ = some (.int .i64 loc) := cell_of_heap bD 1
  have lk1 : (Instr.lookup 75 (.map (some mb)) (.int .i64 loc) false).run Try.prog W0.drew = .ok (.agg #[.int .i64 p.w, .int .i64 p.r, .bool p.racy]) W0.drew := by
    rw [hp]; exact (hP0.more (Keeps.drew None _)).look loc
  have lk2 : ∀ c, (Instr.lookup 75 (.map (some mb)) (.int .i64 loc) false).run Try.prog (W0.alloc (.cells c 79)).drew = .ok (.agg #[.int .i64 p.w, .int .i64 p.r, .bool p.racy]) (W0.alloc (.cells c 79)).drew := fun c => by
    rw [hp]; exact ((hP0.more (Keeps.alloc None W0 _)).more (Keeps.drew None _)).look loc
  have d1' : (W0.alloc (.cells #[.int .i64 0, .int .i64 0, .bool false] 79)).cell? ⟨D, 1, none⟩ = some (.int .i64 loc) := (Keeps.alloc None W0 _).cell d1 (fun f => f)
  have s6' : (W0.alloc (.cells #[.int .i64 0, .int .i64 0, .bool false] 79)).cell? ⟨S, 6, none⟩ = some (.map (some mb)) := (Keeps.alloc None W0 _).cell s6 (fun f => f)
  have HLT : Hid ((lookP PM loc).w < U.length ∧ (lookP PM loc).r < U.length) := ⟨hw, hr⟩
  rw [← hp] at HLT
  have HW0 : Hid (W0 = w.alloc (.cells #[.int .i64 k, .int .i64 loc] 26) ∧ D = w.heap.size) := ⟨hW0, hD⟩
  clear h hP hF ht hw hr hp kD bD hW0 hD h0 hP0
  go_enter Try.func51, Try.ntmps51
  go_upto_region 1 with fail
  rw [← HW0.out.1, ← HW0.out.2]
  go_cut [7] (fun s7 wx => s7 = .pointer (some ⟨W0.heap.size, 0, none⟩) ∧ wx = (W0.alloc (.cells #[.int .i64 p.w, .int .i64 p.r, .bool p.racy] 79)).drew)
  case first =>
    go_region
    all_goals (go_wp2_with fail; go_meet)
    all_goals exact ⟨rfl, rfl⟩
  case rest =>
  obtain ⟨rfl, hwc⟩ := hcut
  have hwc' := hwc.symm
  subst hwc'
  obtain ⟨X, hXe⟩ : ∃ X, X = W0.heap.size := ⟨_, rfl⟩
  obtain ⟨T, hTe⟩ : ∃ T, T = U.length := ⟨_, rfl⟩
  have hT1 : Tch w (W0.alloc (.cells #[.int .i64 p.w, .int .i64 p.r, .bool p.racy] 79)).drew base S gu cu gm cm gl cl ga ca mb D X T act dn M A vd dv rt d PM k loc p.w p.r p.racy := by
    obtain ⟨g1, g2, g3, g4⟩ := HM.out
    have k0 : Keeps None w W0 := by rw [HW0.out.1]; exact Keeps.alloc None w _
    have k1 := (Keeps.alloc None W0 (.cells #[.int .i64 p.w, .int .i64 p.r, .bool p.racy] 79)).andDrew
    have bd0 : W0.heap[D]? = some (.cells #[.int .i64 k, .int .i64 loc] 26 (0, 0)) := by rw [HW0.out.1, HW0.out.2]; exact heap_alloc_new w _
    refine ⟨⟨U, (g1.more k0).more k1, g3, hTe.symm⟩, (g2.more k0).more k1, blk_kept bd0 k1 (fun f => f), ?_, (k0.trans k1 (fun _ f _ => f)).mono (fun _ f _ => f.elim)⟩
    rw [hXe]
    exact heap_alloc_new W0 _
  have HX : Hid (base ≤ X ∧ T = U.length ∧ p.w < T ∧ p.r < T ∧ T ≤ 5000 ∧ p = lookP PM loc) := ⟨by rw [hXe, HW0.out.1]; simp; omega, hTe, by rw [hTe]; exact HLT.out.1, by rw [hTe]; exact HLT.out.2, by rw [hTe]; exact hn, HM.out.2.2.2⟩
  rw [← hXe]
  generalize (W0.alloc (.cells #[.int .i64 p.w, .int .i64 p.r, .bool p.racy] 79)).drew = W1 at hT1 ⊢
  have HT1 : Hid _ := hT1
  have x0 : W1.cell? ⟨X, 0, none⟩ = some (.int .i64 p.w) := cell_of_heap hT1.bx 0
  clear hT1 hXe hTe HM d0 d1 d1' s6 s6' lk1 lk2 hwc
  have HPar : Hid (∀ w2, Keeps None W1 w2 → Calls Try.prog 56 #[.pointer (some ⟨S, 1, none⟩), .int .i64 p.w] w2 fun e w' => e = .returned (.bool (M.getD (rt p.w) false)) ∧ w'.cell? ⟨X, 0, none⟩ = some (.int .i64 p.w) ∧ Hid (Tch w w' base S gu cu gm cm gl cl ga ca mb D X T act dn M A vd dv rt d PM k loc p.w p.r p.racy)) := fun w2 hk2 => ((HT1.out.more hk2).par HX.out.2.2.1 HX.out.2.2.2.2.1).mono fun e w' hp => ⟨hp.1, cell_of_heap hp.2.bx 0, hp.2⟩
  go_wp2_with fail
  go_cut [8] (fun s8 wx => s8 = .bool (M.getD (rt p.w) false) ∧ Tch w wx base S gu cu gm cm gl cl ga ca mb D X T act dn M A vd dv rt d PM k loc p.w p.r p.racy)
  case first =>
    go_region_held3 (fun w' => w'.cell? ⟨X, 0, none⟩ = some (.int .i64 p.w)) (first | exact q1 | go_keep) (first | (go_at_call 56; refine Calls.mono (HPar.out _ (Keeps.drew None _)) ?_; rintro _ w3 ⟨rfl, q1, q2⟩))
    all_goals (go_wp2_with fail; go_meet)
    all_goals exact ⟨rfl, q2.out⟩
  case rest =>
  obtain ⟨rfl, hT2⟩ := hcut
  obtain ⟨W2, hW2⟩ : ∃ W2, W2 = wc := ⟨_, rfl⟩
  rw [← hW2] at hT2 ⊢
  clear hW2 x0 HPar HT1
  have e0 : W2.cell? ⟨D, 0, none⟩ = some (.int .i64 k) := cell_of_heap hT2.bd 0
  have v0 : W2.cell? ⟨X, 0, none⟩ = some (.int .i64 p.w) := cell_of_heap hT2.bx 0
  have v1 : W2.cell? ⟨X, 1, none⟩ = some (.int .i64 p.r) := cell_of_heap hT2.bx 1
  have HT2 : Hid _ := hT2
  clear hT2
  rcases hk with rfl | rfl
  · skip
    go_upto_region 7 with (go_at_call 59; refine Calls.mono (HT2.out.both (x := p.r) (y := t) HX.out.2.2.2.1 HX.out.2.2.2.2.1) ?_; rintro _ w3 ⟨rfl, hT3⟩; have z1 := cell_of_heap hT3.bx 1; have z2 := blk_free hT3.bx 1; have HT3 : Hid _ := hT3; clear hT3)
    have hk3 : Keeps (· = X) w3 (w3.setCell ⟨X, 1, none⟩ (.int .i64 (bothT M rt p.r t : Nat))) := keeps_one (Keeps.refl _ _) _
    obtain ⟨U4, g1, g2, g3, g4, g5, g6⟩ := HT3.out.putX HX.out.1 1 (.int .i64 (bothT M rt p.r t : Nat)) hk3
    have hT4 : Tch w (w3.setCell ⟨X, 1, none⟩ (.int .i64 (bothT M rt p.r t : Nat))) base S gu cu gm cm gl cl ga ca mb D X T act dn M A vd dv rt d PM 3 loc (p.w) (bothT M rt p.r t) p.racy := ⟨⟨U4, g1, g2, g3⟩, g4, g5, blk_set (i := 1) HT3.out.bx _, g6⟩
    obtain ⟨W4, hW4⟩ : ∃ W4, W4 = w3.setCell ⟨X, 1, none⟩ (.int .i64 (bothT M rt p.r t : Nat)) := ⟨_, rfl⟩
    rw [← hW4] at hT4 ⊢
    clear hW4 hk3 g1 g2 g3 g4 g5 g6 HT3 z1 z2
    have s6 : W4.cell? ⟨S, 6, none⟩ = some (.map (some mb)) := by obtain ⟨U', g1, _⟩ := hT4.sw; exact g1.b6
    have e1 : W4.cell? ⟨D, 1, none⟩ = some (.int .i64 loc) := cell_of_heap hT4.bd 1
    have y0 := cell_of_heap hT4.bx 0
    have y1 := cell_of_heap hT4.bx 1
    have y2 := cell_of_heap hT4.bx 2
    have y0' : W4.cell? ⟨X, 0, none⟩ = some (.int .i64 ((p.w) : Nat)) := y0
    have y1' : W4.cell? ⟨X, 1, none⟩ = some (.int .i64 ((bothT M rt p.r t) : Nat)) := y1
    have y2' : W4.cell? ⟨X, 2, none⟩ = some (.bool p.racy) := y2
    obtain ⟨W5, hup, hP5, hk5⟩ := (hT4.pl.more (Keeps.drew None W4)).put loc ⟨(p.w), (bothT M rt p.r t), p.racy⟩
    have hup' : (Instr.mapUpdate 75 (.map (some mb)) (.int .i64 loc) (.agg #[.int .i64 ((p.w) : Nat), .int .i64 ((bothT M rt p.r t) : Nat), .bool p.racy])).run Try.prog W4.drew = .ok () W5 := hup
    have HFin : Hid ((∃ U', SwM W5 base S U' M A gu cu gm cm gl cl act ga ca dn vd dv (.map (some mb)) ∧ Fo U' rt d ∧ U'.length = U.length) ∧ IsPl W5 mb (putP PM loc (newP M rt PM 3 loc t)) ∧ Keeps (Fp w base) w W5) := by
      have hT5 := hT4.more (Keeps.drew None W4)
      obtain ⟨U', g1, g2, g3⟩ := hT5.sw
      have hmbne : ∀ (b : Nat) (c : Array Value) (ty : TypeId) (f : Nat × Nat), W4.drew.heap[b]? = some (.cells c ty f) → b ≠ mb := fun b c ty f hb e => by
        obtain ⟨es, cl', hm, _⟩ := hT5.pl
        rw [← e, hb] at hm
        cases hm
      obtain ⟨_, hu⟩ := g1.sets.ublk
      obtain ⟨_, hl⟩ := g1.sets.lblk
      obtain ⟨_, hm⟩ := g1.sets.mblk
      obtain ⟨_, ha⟩ := own_block g1.ra (g := ga) rfl
      obtain ⟨_, _, hSb, _⟩ := g1.sets.blk
      have hS := hmbne S _ _ _ hSb
      refine ⟨⟨U', ⟨g1.sets.kept hk5 hS (hmbne _ _ _ _ hu) (hmbne _ _ _ _ hm) (hmbne _ _ _ _ hl), hk5.cell g1.b0 hS, hk5.cell g1.b4 hS, hk5.cell g1.b5 hS, hk5.cell g1.b6 hS, g1.ra.kept hk5 (fun g e => by simp [Value.ownBlock] at e; subst e; exact hmbne _ _ _ _ ha), g1.rd.kept hk5 (fun g e => by obtain ⟨_, hd⟩ := own_block g1.rd e; exact hmbne _ _ _ _ hd), g1.n1, g1.n2, g1.n3, g1.n4, g1.n5⟩, g2, g3.trans HX.out.2.1⟩, ?_, Fp.trans hT5.kp hk5 (fun i e _ => by rw [e]; exact ⟨hmb, by obtain ⟨es, cl2, hm2, _⟩ := hT5.pl; exact not_bk_map hm2⟩)⟩
      have e : newP M rt PM 3 loc t = ⟨(p.w), (bothT M rt p.r t), p.racy⟩ := by rw [HX.out.2.2.2.2.2]; rfl
      rw [e]
      exact hP5
    clear hT4 hup hP5 hk5 y0 y1 y2
    go_wp2_with fail
    go_cut [8] (fun s8 wx => s8 = .bool (M.getD (rt p.w) false) ∧ wx = W5)
    case first =>
      go_region
      all_goals (go_wp2_with fail; go_meet)
      all_goals exact ⟨rfl, rfl⟩
    case rest =>
    obtain ⟨rfl, hwc⟩ := hcut
    have hwc' := hwc.symm
    subst hwc'
    go_wp2
    go_ret
    refine ⟨?_, HFin.out⟩
    rw [show raceT M rt PM 3 loc = M.getD (rt p.w) false by rw [HX.out.2.2.2.2.2]; rfl]
    rfl
  · skip
    go_upto_region 4 with fail
    have HPr : Hid (∀ w2, Keeps None W2 w2 → Calls Try.prog 56 #[.pointer (some ⟨S, 1, none⟩), .int .i64 p.r] w2 fun e w' => e = .returned (.bool (M.getD (rt p.r) false)) ∧ w'.cell? ⟨X, 1, none⟩ = some (.int .i64 p.r) ∧ Hid (Tch w w' base S gu cu gm cm gl cl ga ca mb D X T act dn M A vd dv rt d PM 4 loc p.w p.r p.racy)) := fun w2 hk2 => ((HT2.out.more hk2).par HX.out.2.2.2.1 HX.out.2.2.2.2.1).mono fun e w' hp => ⟨hp.1, cell_of_heap hp.2.bx 1, hp.2⟩
    go_cut [8] (fun s8 wx => s8 = .bool (M.getD (rt p.w) false || M.getD (rt p.r) false) ∧ Tch w wx base S gu cu gm cm gl cl ga ca mb D X T act dn M A vd dv rt d PM 4 loc p.w p.r p.racy)
    case first =>
      cases hmw : M.getD (rt p.w) false with
      | true =>
        go_region
        all_goals (go_wp2_with fail; go_meet)
        all_goals exact ⟨by rw [hmw]; rfl, HT2.out.more (Keeps.drew None _)⟩
      | false =>
        go_region_held3 (fun w' => w'.cell? ⟨X, 1, none⟩ = some (.int .i64 p.r)) (first | exact q1 | go_keep) (first | (go_at_call 56; refine Calls.mono (HPr.out _ (Keeps.drew None _)) ?_; rintro _ w3 ⟨rfl, q1, q2⟩))
        all_goals (go_wp2_with fail; go_meet)
        all_goals exact ⟨by rw [hmw]; rfl, q2.out⟩
    case rest =>
    obtain ⟨rfl, hT2⟩ := hcut
    clear HT2 e0 v0 v1 HPr
    obtain ⟨W3, hW3⟩ : ∃ W3, W3 = wc := ⟨_, rfl⟩
    rw [← hW3] at hT2 ⊢
    clear hW3
    have v0 : W3.cell? ⟨X, 0, none⟩ = some (.int .i64 p.w) := cell_of_heap hT2.bx 0
    have HT2 : Hid _ := hT2
    clear hT2
    go_upto_region 7 with (go_at_call 59; refine Calls.mono (HT2.out.both (x := p.w) (y := t) HX.out.2.2.1 HX.out.2.2.2.2.1) ?_; rintro _ w3 ⟨rfl, hT3⟩; have z1 := cell_of_heap hT3.bx 0; have z2 := blk_free hT3.bx 0; have HT3 : Hid _ := hT3; clear hT3)
    have hk3 : Keeps (· = X) w3 (w3.setCell ⟨X, 0, none⟩ (.int .i64 (bothT M rt p.w t : Nat))) := keeps_one (Keeps.refl _ _) _
    obtain ⟨U4, g1, g2, g3, g4, g5, g6⟩ := HT3.out.putX HX.out.1 0 (.int .i64 (bothT M rt p.w t : Nat)) hk3
    have hT4 : Tch w (w3.setCell ⟨X, 0, none⟩ (.int .i64 (bothT M rt p.w t : Nat))) base S gu cu gm cm gl cl ga ca mb D X T act dn M A vd dv rt d PM 4 loc (bothT M rt p.w t) (p.r) p.racy := ⟨⟨U4, g1, g2, g3⟩, g4, g5, blk_set (i := 0) HT3.out.bx _, g6⟩
    obtain ⟨W4, hW4⟩ : ∃ W4, W4 = w3.setCell ⟨X, 0, none⟩ (.int .i64 (bothT M rt p.w t : Nat)) := ⟨_, rfl⟩
    rw [← hW4] at hT4 ⊢
    clear hW4 hk3 g1 g2 g3 g4 g5 g6 HT3 z1 z2
    have s6 : W4.cell? ⟨S, 6, none⟩ = some (.map (some mb)) := by obtain ⟨U', g1, _⟩ := hT4.sw; exact g1.b6
    have e1 : W4.cell? ⟨D, 1, none⟩ = some (.int .i64 loc) := cell_of_heap hT4.bd 1
    have y0 := cell_of_heap hT4.bx 0
    have y1 := cell_of_heap hT4.bx 1
    have y2 := cell_of_heap hT4.bx 2
    have y0' : W4.cell? ⟨X, 0, none⟩ = some (.int .i64 ((bothT M rt p.w t) : Nat)) := y0
    have y1' : W4.cell? ⟨X, 1, none⟩ = some (.int .i64 ((p.r) : Nat)) := y1
    have y2' : W4.cell? ⟨X, 2, none⟩ = some (.bool p.racy) := y2
    obtain ⟨W5, hup, hP5, hk5⟩ := (hT4.pl.more (Keeps.drew None W4)).put loc ⟨(bothT M rt p.w t), (p.r), p.racy⟩
    have hup' : (Instr.mapUpdate 75 (.map (some mb)) (.int .i64 loc) (.agg #[.int .i64 ((bothT M rt p.w t) : Nat), .int .i64 ((p.r) : Nat), .bool p.racy])).run Try.prog W4.drew = .ok () W5 := hup
    have HFin : Hid ((∃ U', SwM W5 base S U' M A gu cu gm cm gl cl act ga ca dn vd dv (.map (some mb)) ∧ Fo U' rt d ∧ U'.length = U.length) ∧ IsPl W5 mb (putP PM loc (newP M rt PM 4 loc t)) ∧ Keeps (Fp w base) w W5) := by
      have hT5 := hT4.more (Keeps.drew None W4)
      obtain ⟨U', g1, g2, g3⟩ := hT5.sw
      have hmbne : ∀ (b : Nat) (c : Array Value) (ty : TypeId) (f : Nat × Nat), W4.drew.heap[b]? = some (.cells c ty f) → b ≠ mb := fun b c ty f hb e => by
        obtain ⟨es, cl', hm, _⟩ := hT5.pl
        rw [← e, hb] at hm
        cases hm
      obtain ⟨_, hu⟩ := g1.sets.ublk
      obtain ⟨_, hl⟩ := g1.sets.lblk
      obtain ⟨_, hm⟩ := g1.sets.mblk
      obtain ⟨_, ha⟩ := own_block g1.ra (g := ga) rfl
      obtain ⟨_, _, hSb, _⟩ := g1.sets.blk
      have hS := hmbne S _ _ _ hSb
      refine ⟨⟨U', ⟨g1.sets.kept hk5 hS (hmbne _ _ _ _ hu) (hmbne _ _ _ _ hm) (hmbne _ _ _ _ hl), hk5.cell g1.b0 hS, hk5.cell g1.b4 hS, hk5.cell g1.b5 hS, hk5.cell g1.b6 hS, g1.ra.kept hk5 (fun g e => by simp [Value.ownBlock] at e; subst e; exact hmbne _ _ _ _ ha), g1.rd.kept hk5 (fun g e => by obtain ⟨_, hd⟩ := own_block g1.rd e; exact hmbne _ _ _ _ hd), g1.n1, g1.n2, g1.n3, g1.n4, g1.n5⟩, g2, g3.trans HX.out.2.1⟩, ?_, Fp.trans hT5.kp hk5 (fun i e _ => by rw [e]; exact ⟨hmb, by obtain ⟨es, cl2, hm2, _⟩ := hT5.pl; exact not_bk_map hm2⟩)⟩
      have e : newP M rt PM 4 loc t = ⟨(bothT M rt p.w t), (p.r), p.racy⟩ := by rw [HX.out.2.2.2.2.2]; rfl
      rw [e]
      exact hP5
    clear hT4 hup hP5 hk5 y0 y1 y2
    go_wp2_with fail
    go_cut [8] (fun s8 wx => s8 = .bool ((M.getD (rt p.w) false || M.getD (rt p.r) false)) ∧ wx = W5)
    case first =>
      go_region
      all_goals (go_wp2_with fail; go_meet)
      all_goals exact ⟨rfl, rfl⟩
    case rest =>
    obtain ⟨rfl, hwc⟩ := hcut
    have hwc' := hwc.symm
    subst hwc'
    go_wp2
    go_ret
    refine ⟨?_, HFin.out⟩
    rw [show raceT M rt PM 4 loc = (M.getD (rt p.w) false || M.getD (rt p.r) false) by rw [HX.out.2.2.2.2.2]; rfl]
    rfl
end Go.Proofs.Ytolhojagbiaamab
/-! Where a list of deeds without a fault stands behind its first n deeds, plainly. -/
namespace Go.Proofs.Ytolhojagbiaamab
set_option linter.unusedVariables false
set_option maxRecDepth 20000
set_option linter.unusedSimpArgs false

structure Now (ds : List Dd) (n : Nat) : Prop where
  inv : Inv ds n
  bin : BInv ds n
  ne : stN ds n ≠ []
  all : ∀ x, x < cntB ds n → x ∈ allB (bgN ds n)
  cnt : cntB ds n ≤ n + 1
theorem Fine.kind {ds : List Dd} (h : Fine ds) {n : Nat} (hn : n < ds.length) : 0 ≤ kdN ds n ∧ kdN ds n ≤ 4 ∧ (kdN ds n = 1 → 2 ≤ (stN ds n).length) := by
  obtain ⟨d, h1, h2, h3⟩ := h.at n (by omega)
  obtain ⟨x, hx⟩ : ∃ x, ds[n]? = some x := ⟨ds[n]'(by omega), by simp⟩
  rw [chkL_step hx] at h2
  have hb : badK x.k d = false := by
    cases hb : badK x.k d with
    | false => rfl
    | true => rw [hb] at h2; simp at h2
  unfold kdN
  rw [getD_of hx]
  unfold badK at hb
  simp at hb
  obtain ⟨⟨b1, b2⟩, b3⟩ := hb
  refine ⟨b1, b2, fun e => ?_⟩
  have := b3 e
  omega
theorem all_step {ds : List Dd} {n : Nat} (hb : BInv ds n) (hk : kdN ds n = 1 → 2 ≤ (stN ds n).length) (h : ∀ x, x < cntB ds n → x ∈ allB (bgN ds n)) : ∀ x, x < cntB ds (n + 1) → x ∈ allB (bgN ds (n + 1)) := by
  have hb' : bgN ds (n + 1) = stepB (kdN ds n) (cntB ds n) (bgN ds n) := rfl
  have hc' : cntB ds (n + 1) = if kdN ds n = 0 then cntB ds n + 1 else cntB ds n := rfl
  have hl := Prs.len hb.prs
  intro x hx
  rw [hb']
  rw [hc'] at hx
  cases hbg : bgN ds n with
  | nil => obtain ⟨A, e, hA, _⟩ := hb.bot; rw [hbg] at hA; simp at hA
  | cons b bs =>
    rw [hbg] at h hl
    by_cases k0 : kdN ds n = 0
    · rw [if_pos k0] at hx
      rw [k0, sb0, allB_cons]
      by_cases e : x = cntB ds n
      · subst e; simp
      · have := h x (by omega)
        simp [this]
    · rw [if_neg k0] at hx
      have hm := h x hx
      by_cases k1 : kdN ds n = 1
      · have h2 := hk k1
        obtain ⟨u, br, rfl⟩ : ∃ u br, bs = u :: br := by
          cases bs with
          | nil => simp at hl; omega
          | cons u br => exact ⟨u, br, rfl⟩
        rw [k1, sb1, allB_cons]
        rw [allB_cons, allB_cons] at hm
        simp only [List.mem_append] at hm ⊢
        rcases hm with (hm | hm) | (hm | hm) | hm
        · exact .inl (.inr (.inl (.inl hm)))
        · exact .inl (.inr (.inl (.inr hm)))
        · exact .inl (.inl hm)
        · exact .inl (.inr (.inr hm))
        · exact .inr hm
      · by_cases k2 : kdN ds n = 2
        · rw [k2, sb2, allB_cons]
          rw [allB_cons] at hm
          simpa using hm
        · rw [sb3 _ _ _ _ k0 k1 k2]
          exact hm
theorem Fine.now {ds : List Dd} (h : Fine ds) : ∀ n, n ≤ ds.length → Now ds n := by
  intro n
  induction n with
  | zero =>
    intro _
    obtain ⟨d, h1, _, h3⟩ := h.at 0 (by omega)
    refine ⟨h3, binv_zero ds, fun e => by rw [e] at h1; simp at h1, fun x hx => ?_, Nat.le_refl _⟩
    have hx' : x < 1 := hx
    have : x = 0 := by omega
    subst this
    show 0 ∈ allB [⟨0, [0], []⟩]
    simp [allB]
  | succ n ih =>
    intro hn
    have hN := ih (by omega)
    obtain ⟨k1, k2, k3⟩ := h.kind (n := n) (by omega)
    obtain ⟨d, h1, _, h3⟩ := h.at (n + 1) hn
    refine ⟨h3, binv_step hN.inv hN.bin hN.ne k3, fun e => by rw [e] at h1; simp at h1, all_step hN.bin k3 hN.all, ?_⟩
    have hc' : cntB ds (n + 1) = if kdN ds n = 0 then cntB ds n + 1 else cntB ds n := rfl
    have := hN.cnt
    rw [hc']
    split <;> omega
/-- The tasks that have not returned, the root first; whose each deed is. -/
def actN (ds : List Dd) (n : Nat) : List Nat := ((bgN ds n).map Bg.id).reverse
def dnN (ds : List Dd) (m : Nat) : List Nat := (List.range m).map (doer ds)
theorem dnN_succ (ds : List Dd) (m : Nat) : dnN ds (m + 1) = dnN ds m ++ [doer ds m] := by simp [dnN, List.range_succ]
theorem dnN_len (ds : List Dd) (m : Nat) : (dnN ds m).length = m := by simp [dnN]
theorem act_top {ds : List Dd} {n : Nat} {t : Bg} {r : List Bg} (h : bgN ds n = t :: r) : actN ds n = (r.map Bg.id).reverse ++ [t.id] := by simp [actN, h]
theorem Now.top {ds : List Dd} {n : Nat} (h : Now ds n) : ∃ t r, bgN ds n = t :: r ∧ t.id ∈ t.P ∧ doer ds n = t.id := bg_top h.bin h.ne
theorem allB_len : ∀ (B : List Bg), (∀ b ∈ B, b.id ∈ b.P) → B.length ≤ (allB B).length
  | [], _ => Nat.le_refl _
  | b :: B, h => by
    have h1 := allB_len B (fun c hc => h c (by simp [hc]))
    have h2 : 1 ≤ b.P.length := by
      have := h b (by simp)
      cases hp : b.P with
      | nil => rw [hp] at this; simp at this
      | cons _ _ => simp
    rw [allB_cons]
    simp
    omega
theorem nodup_bound : ∀ (T : Nat) (l : List Nat), l.Nodup → (∀ x ∈ l, x < T) → l.length ≤ T := by
  intro T l hn hl
  have := List.Nodup.length_le_of_subset (l₂ := List.range T) hn (fun x hx => List.mem_range.2 (hl x hx))
  simpa using this
end Go.Proofs.Ytolhojagbiaamab
/-! The sweep in memory: what is appended; the state behind the first n deeds. -/
namespace Go.Proofs.Ytolhojagbiaamab
set_option linter.unusedVariables false
set_option maxRecDepth 20000
set_option linter.unusedSimpArgs false
open Go.RowKit Go.HeapKit

section
variable {w w' : World} {base S : Nat} {U : List Nat} {M : List Bool} {A : List Int} {gu cu gm cm gl cl : Nat} {act : List Nat} {ga ca : Nat} {dn : List Nat} {vd dv mp : Value}
theorem SetM.putS (h : SetM w base S 1 U M A gu cu gm cm gl cl) (j : Nat) (hj : 4 ≤ j) (v : Value) : SetM (w.setCell ⟨S, j, none⟩ v) base S 1 U M A gu cu gm cm gl cl := by
  have hk : Keeps (· = S) w (w.setCell ⟨S, j, none⟩ v) := keeps_one (Keeps.refl _ _) _
  obtain ⟨m1, m2, m3, m4, m5⟩ := h.neS
  obtain ⟨c, t, b1, b2, b3⟩ := h.blk
  exact ⟨by rw [cell_setne (by omega)]; exact h.c0, by rw [cell_setne (by omega)]; exact h.c1, by rw [cell_setne (by omega)]; exact h.c2, h.ru.kept hk (fun g e => by simp [Value.ownBlock] at e; subst e; exact fun e => m1 e.symm), row_kept h.rm hk (fun g e => by simp [Value.ownBlock] at e; subst e; exact fun e => m2 e.symm), h.rl.kept hk (fun g e => by simp [Value.ownBlock] at e; subst e; exact fun e => m3 e.symm), h.lm, h.la, h.ne, c.setIfInBounds j _, t, blk_set b1 _, b2, b3⟩
theorem SwM.size4 (h : SwM w base S U M A gu cu gm cm gl cl act ga ca dn vd dv mp) {c : Array Value} {t : TypeId} {fz : Nat × Nat} (b1 : w.heap[S]? = some (.cells c t fz)) : 6 < c.size := by
  have := h.b6
  rw [blk_cell b1] at this
  exact (Array.getElem?_eq_some_iff.1 this).1
/-- One more deed's task. -/
theorem SwM.appD (h : SwM w base S U M A gu cu gm cm gl cl act ga ca dn vd dv mp) (x : Nat) (hb : base ≤ w.heap.size) (hlen : dn.length ≤ 5000) {g0 : Nat} (hg0 : w.heap[g0]? = some (.cells #[.int .i64 (x : Int)] 3 (0, 0))) :
    ∃ g c w', (Builtin.append_ #[35, 35] 35 #[vd, .slice (some ⟨g0, 0, none⟩) 1 1]).run Try.prog w = .ok (.slice (some ⟨g, 0, none⟩) (dn.length + 1) c) w' ∧ w'.cell? ⟨S, 5, none⟩ = some vd ∧ w'.frozen? ⟨S, 5, none⟩ = false ∧
      SwM (w'.setCell ⟨S, 5, none⟩ (.slice (some ⟨g, 0, none⟩) (dn.length + 1) c)) base S U M A gu cu gm cm gl cl act ga ca (dn ++ [x]) (.slice (some ⟨g, 0, none⟩) (dn.length + 1) c) dv mp ∧ Keeps (fun i => vd.ownBlock = some i ∨ i = S) w (w'.setCell ⟨S, 5, none⟩ (.slice (some ⟨g, 0, none⟩) (dn.length + 1) c)) := by
  obtain ⟨g, c, w1, hr, hR, hk, hm⟩ := intZ_more base vd (natZ dn) (x : Int) 35 w h.rd hb (by rw [natZ_lenB]; omega) hg0
  rw [natZ_lenB] at hr hR
  obtain ⟨e1, e2, e3, e4⟩ := h.neS
  obtain ⟨cc, t, b1, b2, b3⟩ := h.sets.blk
  have hlt := h.size4 b1
  have b1' := blk_kept b1 hk (fun e => e2 _ e rfl)
  have hk2 : Keeps (· = S) w1 (w1.setCell ⟨S, 5, none⟩ (.slice (some ⟨g, 0, none⟩) (dn.length + 1) c)) := keeps_one (Keeps.refl _ _) _
  have hcell : ∀ i, w1.cell? ⟨S, i, none⟩ = w.cell? ⟨S, i, none⟩ := fun i => by rw [blk_cell b1', blk_cell b1]
  have hgS : g ≠ S := by
    rcases hm with hm | ⟨hm, _⟩
    · exact fun e => e2 g hm e.symm
    · have := blk_lt b1; omega
  have off : ∀ k, vd.ownBlock ≠ some k → k < w.heap.size → g ≠ k := fun k h1 h2 e => by
    subst e
    rcases hm with hm | ⟨hm, _⟩
    · exact h1 hm
    · omega
  have l1 := own_lt h.sets.ru (g := gu) rfl
  have l2 := own_lt h.sets.rl (g := gl) rfl
  have l3 := own_lt h.ra (g := ga) rfl
  have hs1 : SetM w1 base S 1 U M A gu cu gm cm gl cl := h.sets.kept hk (fun e => e2 _ e rfl) h.n3 (fun e => e4 _ e rfl) h.n4
  refine ⟨g, c, w1, hr, by rw [hcell]; exact h.b5, blk_free b1' _, ⟨hs1.putS 5 (by omega) _, ?_, ?_, ?_, ?_, ?_, ?_, h.n1, h.n2, ?_, ?_, ?_⟩, (hk.mono (fun i e _ => .inl e)).trans hk2 (fun i e _ => .inr e)⟩
  · rw [cell_setne (by omega), hcell]; exact h.b0
  · rw [cell_setne (by omega), hcell]; exact h.b4
  · rw [blk_cell (blk_set b1' _)]; simp [show 5 < cc.size by omega]
  · rw [cell_setne (by omega), hcell]; exact h.b6
  · exact (h.ra.kept hk (fun b e e5 => by simp [Value.ownBlock] at e; subst e; exact h.n5 e5)).kept hk2 (fun b e e5 => by simp [Value.ownBlock] at e; subst e; exact e1 e5.symm)
  · have : RowZ w1 base (.slice (some ⟨g, 0, none⟩) (dn.length + 1) c) (natZ (dn ++ [x])) := by rw [← natZ_more]; exact hR
    exact this.kept hk2 (fun b e => by simp [Value.ownBlock] at e; subst e; exact hgS)
  · simp only [Value.ownBlock, ne_eq, Option.some.injEq]; exact off gu h.n3 l1
  · simp only [Value.ownBlock, ne_eq, Option.some.injEq]; exact off gl h.n4 l2
  · simp only [Value.ownBlock, ne_eq, Option.some.injEq]; exact off ga h.n5 l3
/-- One more task that has not returned. -/
theorem SwM.appAct (h : SwM w base S U M A gu cu gm cm gl cl act ga ca dn vd dv mp) (x : Nat) (hb : base ≤ w.heap.size) (hlen : act.length ≤ 5000) {g0 : Nat} (hg0 : w.heap[g0]? = some (.cells #[.int .i64 (x : Int)] 3 (0, 0))) :
    ∃ g c w', (Builtin.append_ #[35, 35] 35 #[.slice (some ⟨ga, 0, none⟩) act.length ca, .slice (some ⟨g0, 0, none⟩) 1 1]).run Try.prog w = .ok (.slice (some ⟨g, 0, none⟩) (act.length + 1) c) w' ∧ w'.cell? ⟨S, 4, none⟩ = some (.slice (some ⟨ga, 0, none⟩) act.length ca) ∧ w'.frozen? ⟨S, 4, none⟩ = false ∧
      SwM (w'.setCell ⟨S, 4, none⟩ (.slice (some ⟨g, 0, none⟩) (act.length + 1) c)) base S U M A gu cu gm cm gl cl (act ++ [x]) g c dn vd dv mp ∧ Keeps (fun i => i = ga ∨ i = S) w (w'.setCell ⟨S, 4, none⟩ (.slice (some ⟨g, 0, none⟩) (act.length + 1) c)) := by
  have hra := h.ra
  obtain ⟨g, c, w1, hr, hR, hk0, hm⟩ := intZ_more base (.slice (some ⟨ga, 0, none⟩) act.length ca) (natZ act) (x : Int) 35 w hra hb (by rw [natZ_lenB]; omega) hg0
  rw [natZ_lenB] at hr hR
  have hk : Keeps (· = ga) w w1 := hk0.mono (fun i e _ => by simp [Value.ownBlock] at e; exact e.symm)
  obtain ⟨e1, e2, e3, e4⟩ := h.neS
  obtain ⟨cc, t, b1, b2, b3⟩ := h.sets.blk
  have hlt := h.size4 b1
  have b1' := blk_kept b1 hk (fun e => e1 e)
  have hk2 : Keeps (· = S) w1 (w1.setCell ⟨S, 4, none⟩ (.slice (some ⟨g, 0, none⟩) (act.length + 1) c)) := keeps_one (Keeps.refl _ _) _
  have hcell : ∀ i, w1.cell? ⟨S, i, none⟩ = w.cell? ⟨S, i, none⟩ := fun i => by rw [blk_cell b1', blk_cell b1]
  have hm' : ga = g ∨ w.heap.size ≤ g := by
    rcases hm with hm | ⟨hm, _⟩
    · simp [Value.ownBlock] at hm; exact .inl hm
    · exact .inr hm
  have hgS : g ≠ S := by
    rcases hm' with hm | hm
    · exact fun e => e1 (by omega)
    · have := blk_lt b1; omega
  have off : ∀ k, ga ≠ k → k < w.heap.size → g ≠ k := fun k h1 h2 e => by
    subst e
    rcases hm' with hm | hm
    · exact h1 hm
    · omega
  have l1 := own_lt h.sets.ru (g := gu) rfl
  have l2 := own_lt h.sets.rl (g := gl) rfl
  have hs1 : SetM w1 base S 1 U M A gu cu gm cm gl cl := h.sets.kept hk e1 (fun e => h.n1 e.symm) (fun e => e3 e.symm) (fun e => h.n2 e.symm)
  refine ⟨g, c, w1, hr, by rw [hcell]; exact h.b4, blk_free b1' _, ⟨hs1.putS 4 (by omega) _, ?_, ?_, ?_, ?_, ?_, ?_, off gu h.n1 l1, off gl h.n2 l2, h.n3, h.n4, ?_⟩, (hk.mono (fun i e _ => .inl e)).trans hk2 (fun i e _ => .inr e)⟩
  · rw [cell_setne (by omega), hcell]; exact h.b0
  · rw [blk_cell (blk_set b1' _), List.length_append]; simp [show 4 < cc.size by omega]
  · rw [cell_setne (by omega), hcell]; exact h.b5
  · rw [cell_setne (by omega), hcell]; exact h.b6
  · have : RowZ w1 base (.slice (some ⟨g, 0, none⟩) (act ++ [x]).length c) (natZ (act ++ [x])) := by rw [← natZ_more, List.length_append]; exact hR
    exact this.kept hk2 (fun b e => by simp [Value.ownBlock] at e; subst e; exact hgS)
  · exact (h.rd.kept hk (fun b e e5 => by subst e5; exact h.n5 e)).kept hk2 (fun b e e5 => by subst e5; exact e2 _ e rfl)
  · intro e
    have hlt := own_lt h.rd e
    exact off g (fun e5 => by subst e5; exact h.n5 e) hlt rfl
end
/-- A task begins. -/
theorem sbegin_ok (w : World) (base S gu cu gm cm gl cl ga ca : Nat) (U act dn : List Nat) (M : List Bool) (A : List Int) (vd dv mp : Value) (h : SwM w base S U M A gu cu gm cm gl cl act ga ca dn vd dv mp) (hn : U.length ≤ 5000) (hb : base ≤ w.heap.size) (hbS : base ≤ S) :
    Calls Try.prog 48 #[.pointer (some ⟨S, 1, none⟩)] w fun e w' => e = .returned (.int .i64 (U.length : Nat)) ∧ (∃ gu cu gm cm gl cl, SwM w' base S (U ++ [U.length]) (M ++ [false]) (A ++ [-1]) gu cu gm cm gl cl act ga ca dn vd dv mp) ∧ Keeps (F6 S gu gl gm ga vd) w w' := by
  have hV := h.sets.toV
  refine (begin_ok w base S 1 (natZ U) A M _ _ _ hV (by rw [natZ_lenB]; exact h.sets.lm) (by rw [natZ_lenB]; exact h.sets.la) (by rw [natZ_lenB]; exact hn) hb hbS).mono ?_
  rintro e w' ⟨rfl, ⟨gu', cu', gm', cm', gl', cl', hV', hu, hl⟩, hk, hc⟩
  rw [natZ_lenB, natZ_more] at hV'
  obtain ⟨e1, e2, e3, e4⟩ := h.neS
  obtain ⟨m1, m2, m3, m4, m5⟩ := h.sets.neS
  have hFga : ¬ Fs S (.slice (some ⟨gu, 0, none⟩) U.length cu) (.slice (some ⟨gm, 0, none⟩) U.length cm) (.slice (some ⟨gl, 0, none⟩) U.length cl) ga := by
    rintro (e | e | e | e)
    · simp [Value.ownBlock] at e; exact h.n1 e.symm
    · simp [Value.ownBlock] at e; exact e3 e.symm
    · simp [Value.ownBlock] at e; exact h.n2 e.symm
    · exact e1 e.symm
  have hFvd : ∀ b, vd.ownBlock = some b → ¬ Fs S (.slice (some ⟨gu, 0, none⟩) U.length cu) (.slice (some ⟨gm, 0, none⟩) U.length cm) (.slice (some ⟨gl, 0, none⟩) U.length cl) b := by
    rintro b hb (e | e | e | e)
    · simp [Value.ownBlock] at e; subst e; exact h.n3 hb
    · simp [Value.ownBlock] at e; subst e; exact e4 _ hb rfl
    · simp [Value.ownBlock] at e; subst e; exact h.n4 hb
    · subst e; exact e2 _ hb rfl
  have hgu : gu = gu' ∨ w.heap.size ≤ gu' := by rcases hu with hu | hu; simp [Value.ownBlock] at hu; exact .inl hu; exact .inr hu
  have hgl : gl = gl' ∨ w.heap.size ≤ gl' := by rcases hl with hl | hl; simp [Value.ownBlock] at hl; exact .inl hl; exact .inr hl
  have l3 := own_lt h.ra (g := ga) rfl
  refine ⟨by rw [natZ_lenB], ⟨gu', cu', gm', cm', gl', cl', ?_⟩, hk.mono (fun i e _ => ?_)⟩
  rotate_left
  · rcases e with e | e | e | e
    · simp [Value.ownBlock] at e; exact .inr (.inl e.symm)
    · simp [Value.ownBlock] at e; exact .inr (.inr (.inr (.inl e.symm)))
    · simp [Value.ownBlock] at e; exact .inr (.inr (.inl e.symm))
    · exact .inl e
  have hS' : SetM w' base S 1 (U ++ [U.length]) (M ++ [false]) (A ++ [-1]) gu' cu' gm' cm' gl' cl' := by
    refine SetV.toM ?_ (by simp [h.sets.lm]) (by simp [h.sets.la])
    rw [List.length_append]
    exact hV'
  refine ⟨hS', ?_, ?_, ?_, ?_, h.ra.kept hk (fun b e => by simp [Value.ownBlock] at e; subst e; exact hFga), h.rd.kept hk (fun b e => hFvd b e), ?_, ?_, ?_, ?_, h.n5⟩
  · rw [hc 0 (by omega) (by omega) (by omega)]; exact h.b0
  · rw [hc 4 (by omega) (by omega) (by omega)]; exact h.b4
  · rw [hc 5 (by omega) (by omega) (by omega)]; exact h.b5
  · rw [hc 6 (by omega) (by omega) (by omega)]; exact h.b6
  · rcases hgu with e | e
    · rw [← e]; exact h.n1
    · omega
  · rcases hgl with e | e
    · rw [← e]; exact h.n2
    · omega
  · rcases hgu with e | e
    · rw [← e]; exact h.n3
    · intro e5; have := own_lt h.rd e5; omega
  · rcases hgl with e | e
    · rw [← e]; exact h.n4
    · intro e5; have := own_lt h.rd e5; omega
/-- The map of the places: no place twice, no more than have been touched; which are racy. -/
structure PlOk (ds : List Dd) (PM : List (Int × Pl)) (n : Nat) (rc : Int → Bool) : Prop where
  nd : (PM.map Prod.fst).Nodup
  len : PM.length ≤ n
  rc : ∀ L, (lookP PM L).racy = rc L
  tch : ∀ a, a < n → (kdN ds a = 3 ∨ kdN ds a = 4) → lcN ds a ∈ PM.map Prod.fst
/-- The sweep behind the first n deeds; of m deeds it is told whose they are. -/
structure SwS (w0 w : World) (base S mb : Nat) (dv : Value) (ds : List Dd) (n m : Nat) (rc : Int → Bool) : Prop where
  ex : ∃ (U : List Nat) (M : List Bool) (A : List Int) (gu cu gm cm gl cl ga ca : Nat) (vd : Value) (rt d : Nat → Nat) (PM : List (Int × Pl)), SwM w base S U M A gu cu gm cm gl cl (actN ds n) ga ca (dnN ds m) vd dv (.map (some mb)) ∧ Fo U rt d ∧ BagI (bgN ds n) rt M A (cntB ds n) ∧ U.length = cntB ds n ∧ IsPl w mb PM ∧ Std ds n (fun L => (lookP PM L).w) (fun L => (lookP PM L).r) ∧ PlOk ds PM n rc
  kp : Keeps (fun i => base ≤ i) w0 w
  b1 : base ≤ S
  b2 : base ≤ mb
  b3 : base ≤ w.heap.size
theorem SwS.more {w0 w w' : World} {base S mb : Nat} {dv : Value} {ds : List Dd} {n m : Nat} {rc : Int → Bool} (h : SwS w0 w base S mb dv ds n m rc) (hk : Keeps None w w') : SwS w0 w' base S mb dv ds n m rc := by
  obtain ⟨U, M, A, gu, cu, gm, cm, gl, cl, ga, ca, vd, rt, d, PM, h1, h2, h3, h4, h5, h6, h7⟩ := h.ex
  exact ⟨⟨U, M, A, gu, cu, gm, cm, gl, cl, ga, ca, vd, rt, d, PM, h1.more hk, h2, h3, h4, h5.more hk, h6, h7⟩, h.kp.trans hk (fun _ f _ => f.elim), h.b1, h.b2, Nat.le_trans h.b3 hk.size⟩
end Go.Proofs.Ytolhojagbiaamab
/-! The sweep, one deed of each kind. -/
namespace Go.Proofs.Ytolhojagbiaamab
set_option linter.unusedVariables false
set_option maxRecDepth 20000
set_option linter.unusedSimpArgs false
open Go.RowKit Go.HeapKit

section
variable {w0 w w' : World} {base S mb : Nat} {U : List Nat} {M : List Bool} {A : List Int} {gu cu gm cm gl cl : Nat} {act : List Nat} {ga ca : Nat} {dn : List Nat} {vd dv mp : Value} {ds : List Dd} {n m : Nat} {rc : Int → Bool}
theorem SwM.f6 (h : SwM w base S U M A gu cu gm cm gl cl act ga ca dn vd dv mp) (hS : base ≤ S) : ∀ i, F6 S gu gl gm ga vd i → base ≤ i ∧ ¬ Bk w i ∧ ∃ c t f, w.heap[i]? = some (.cells c t f) := by
  obtain ⟨c, t, b1, b2, b3⟩ := h.sets.blk
  have nb := h.sets.toV.nb
  rintro i (e | e | e | e | e | e)
  · subst e; exact ⟨hS, nb.2.2.2, _, _, _, b1⟩
  · subst e; obtain ⟨_, hu⟩ := h.sets.ublk; exact ⟨row_low h.sets.ru rfl, nb.1 _ rfl, _, _, _, hu⟩
  · subst e; obtain ⟨_, hu⟩ := h.sets.lblk; exact ⟨row_low h.sets.rl rfl, nb.2.2.1 _ rfl, _, _, _, hu⟩
  · subst e; obtain ⟨_, hu⟩ := h.sets.mblk; exact ⟨row_low h.sets.rm rfl, nb.2.1 _ rfl, _, _, _, hu⟩
  · subst e; obtain ⟨_, hu⟩ := own_block h.ra (g := i) rfl; exact ⟨row_low h.ra rfl, not_bk_cells hu (.inl (by decide)), _, _, _, hu⟩
  · obtain ⟨_, hu⟩ := own_block h.rd e; exact ⟨row_low h.rd e, not_bk_cells hu (.inl (by decide)), _, _, _, hu⟩
theorem SwM.fp6 (h : SwM w base S U M A gu cu gm cm gl cl act ga ca dn vd dv mp) (hS : base ≤ S) (hk : Keeps (F6 S gu gl gm ga vd) w w') : Keeps (Fp w base) w w' := hk.mono (fun i e _ => ⟨(h.f6 hS i e).1, (h.f6 hS i e).2.1⟩)
theorem SwM.pl6 (h : SwM w base S U M A gu cu gm cm gl cl act ga ca dn vd dv mp) (hS : base ≤ S) (hk : Keeps (F6 S gu gl gm ga vd) w w') {PM : List (Int × Pl)} (hp : IsPl w mb PM) : IsPl w' mb PM := hp.kept hk (fun e => by
  obtain ⟨_, _, c, t, f, hb⟩ := h.f6 hS mb e
  obtain ⟨es, cl, hm, _⟩ := hp
  rw [hb] at hm
  cases hm)
theorem actN_len {rt : Nat → Nat} (h : BagI (bgN ds n) rt M A (cntB ds n)) : (actN ds n).length ≤ cntB ds n := by
  have h1 := allB_len _ h.ids
  have h2 := nodup_bound _ _ h.nd h.lt
  simp [actN]
  omega
/-- The current task. -/
theorem SwS.top (h : SwS w0 w base S mb dv ds n m rc) (hN : Now ds n) (hn : n ≤ 4096) : ∃ ga q ca, w.cell? ⟨S, 4, none⟩ = some (.slice (some ⟨ga, 0, none⟩) (q + 1) ca) ∧ w.cell? ⟨ga, q, none⟩ = some (.int .i64 (doer ds n : Nat)) ∧ q ≤ 4096 ∧ w.cell? ⟨S, 0, none⟩ = some dv := by
  obtain ⟨U, M, A, gu, cu, gm, cm, gl, cl, ga, ca, vd, rt, d, PM, h1, h2, h3, h4, h5, h6, h7⟩ := h.ex
  obtain ⟨t, r, hb, hid, hdo⟩ := hN.top
  have hact := act_top hb
  have hl := actN_len h3
  have hc := hN.cnt
  have hq : (actN ds n).length = r.length + 1 := by rw [hact]; simp
  have b4 := h1.b4
  have ra := h1.ra
  rw [hq] at b4
  rw [← natZ_lenB (actN ds n)] at ra
  refine ⟨ga, r.length, ca, b4, (ra.at (k := r.length) (x := ((doer ds n : Nat) : Int)) ?_).1, by omega, h1.b0⟩
  rw [hact, hdo]
  simp [natZ]
/-- Whose the next deed is. -/
theorem SwS.doers (h : SwS w0 w base S mb dv ds n n rc) (hn : n ≤ 4096) : ∃ vd g c w1, w.cell? ⟨S, 5, none⟩ = some vd ∧ (Builtin.append_ #[35, 35] 35 #[vd, .slice (some ⟨w.heap.size, 0, none⟩) 1 1]).run Try.prog (w.alloc (.cells #[.int .i64 (doer ds n : Nat)] 3)) = .ok (.slice (some ⟨g, 0, none⟩) (n + 1) c) w1 ∧ w1.cell? ⟨S, 5, none⟩ = some vd ∧ w1.frozen? ⟨S, 5, none⟩ = false ∧
    SwS w0 (w1.setCell ⟨S, 5, none⟩ (.slice (some ⟨g, 0, none⟩) (n + 1) c)) base S mb dv ds n (n + 1) rc ∧ Keeps (Fp w base) w (w1.setCell ⟨S, 5, none⟩ (.slice (some ⟨g, 0, none⟩) (n + 1) c)) := by
  obtain ⟨U, M, A, gu, cu, gm, cm, gl, cl, ga, ca, vd, rt, d, PM, h1, h2, h3, h4, h5, h6, h7⟩ := h.ex
  have kA := Keeps.alloc None w (.cells #[.int .i64 ((doer ds n : Nat) : Int)] 3)
  have h1' := h1.more kA
  obtain ⟨g, c, w1, hr, x1, x2, hM, hk⟩ := h1'.appD (doer ds n) (by have := h.b3; simp; omega) (by rw [dnN_len]; omega) (heap_alloc_new w _)
  rw [dnN_len] at hr hM hk
  rw [← dnN_succ] at hM
  have hk' := hk.mono (T := F6 S gu gl gm ga vd) (fun i e _ => by rcases e with e | e; exact .inr (.inr (.inr (.inr (.inr e)))); exact .inl e)
  have hfp : Keeps (Fp w base) w (w1.setCell ⟨S, 5, none⟩ (.slice (some ⟨g, 0, none⟩) (n + 1) c)) := Fp.trans (kA.mono (fun _ f _ => f.elim)) hk' (fun i e _ => ⟨(h1'.f6 h.b1 i e).1, (h1'.f6 h.b1 i e).2.1⟩)
  exact ⟨vd, g, c, w1, h1.b5, hr, x1, x2, ⟨⟨U, M, A, gu, cu, gm, cm, gl, cl, ga, ca, _, rt, d, PM, hM, h2, h3, h4, h1'.pl6 h.b1 hk' (h5.more kA), h6, h7⟩, h.kp.trans (Fp.low hfp) (fun i e _ => e), h.b1, h.b2, Nat.le_trans h.b3 hfp.size⟩, hfp⟩
theorem PlOk.up {PM : List (Int × Pl)} (h : PlOk ds PM n rc) (hk : ¬ kdN ds n = 3 ∧ ¬ kdN ds n = 4) : PlOk ds PM (n + 1) rc := ⟨h.nd, by have := h.len; omega, h.rc, fun a ha hka => h.tch a (by
  have : a ≠ n := fun e => by subst e; rcases hka with e | e; exact hk.1 e; exact hk.2 e
  omega) hka⟩
/-- A sync. -/
theorem SwS.sync (h : SwS w0 w base S mb dv ds n (n + 1) rc) (hN : Now ds n) (hn : n < 4096) (hk : kdN ds n = 2) : Calls Try.prog 50 #[.pointer (some ⟨S, 1, none⟩), .int .i64 (doer ds n : Nat)] w fun e w' => e = .returned (.tuple #[]) ∧ SwS w0 w' base S mb dv ds (n + 1) (n + 1) rc ∧ Keeps (Fp w base) w w' := by
  obtain ⟨U, M, A, gu, cu, gm, cm, gl, cl, ga, ca, vd, rt, d, PM, h1, h2, h3, h4, h5, h6, h7⟩ := h.ex
  obtain ⟨t, r, hb, hid, hdo⟩ := hN.top
  rw [hb] at h3
  obtain ⟨l1, l2, l3⟩ := late_ok h3
  have hT : t.id < cntB ds n := h3.lt _ (mem_all_P (b := t) (by simp) hid)
  have hc := hN.cnt
  rw [hdo]
  refine (wait_ok w base S 1 gu cu gm cm gl cl t.id U M A rt d h1.sets h2 (by omega) (by rw [h4]; exact l1) (by omega)).mono ?_
  rintro e w' ⟨rfl, ⟨U', d', g1, g2, g3⟩, g4⟩
  have g4' := g4.mono (T := F6 S gu gl gm ga vd) (fun i e _ => by rcases e with e | e; exact .inr (.inl e); exact .inr (.inr (.inl e)))
  have hfp := h1.fp6 h.b1 g4'
  have hM := h1.sets' (g4.mono (fun i e _ => by rcases e with e | e; exact .inl e; exact .inr (.inl e))) g1
  have hbn : bgN ds (n + 1) = ⟨t.id, t.P ++ t.O, []⟩ :: r := by
    show stepB (kdN ds n) (cntB ds n) (bgN ds n) = _
    rw [hk, hb, sb2]
  have hcn : cntB ds (n + 1) = cntB ds n := by
    show (if kdN ds n = 0 then _ else _) = _
    rw [if_neg (by omega)]
  have hact : actN ds (n + 1) = actN ds n := by unfold actN; rw [hbn, hb]; rfl
  have hS := h3.sync
  rw [← hbn, ← hcn] at hS
  refine ⟨rfl, ⟨⟨U', M, A.set t.id (-1), gu, cu, gm, cm, gl, cl, ga, ca, vd, waitR rt A t.id, d', PM, by rw [hact]; exact hM, g2, hS, by rw [g3, h4, hcn], h1.pl6 h.b1 g4' h5, h6.other hN.bin hN.ne (fun e => by omega) ⟨by omega, by omega⟩, h7.up ⟨by omega, by omega⟩⟩, h.kp.trans (Fp.low hfp) (fun i e _ => e), h.b1, h.b2, Nat.le_trans h.b3 hfp.size⟩, hfp⟩
/-- A return. -/
theorem SwS.ret (h : SwS w0 w base S mb dv ds n (n + 1) rc) (hN : Now ds n) (hn : n < 4096) (hk : kdN ds n = 1) (h2l : 2 ≤ (stN ds n).length) : Calls Try.prog 49 #[.pointer (some ⟨S, 0, none⟩), .int .i64 (doer ds n : Nat)] w fun e w' => e = .returned (.tuple #[]) ∧ SwS w0 w' base S mb dv ds (n + 1) (n + 1) rc ∧ Keeps (Fp w base) w w' := by
  obtain ⟨U, M, A, gu, cu, gm, cm, gl, cl, ga, ca, vd, rt, d, PM, h1, h2, h3, h4, h5, h6, h7⟩ := h.ex
  obtain ⟨t, r0, hb, hid, hdo⟩ := hN.top
  have hlen := Prs.len hN.bin.prs
  obtain ⟨u, r, rfl⟩ : ∃ u r, r0 = u :: r := by
    cases r0 with
    | nil => rw [hb] at hlen; simp at hlen; omega
    | cons u r => exact ⟨u, r, rfl⟩
  have hal := actN_len h3
  rw [hb] at h3
  have hact := act_top hb
  have hact' : actN ds n = (r.map Bg.id).reverse ++ [u.id, t.id] := by rw [hact]; simp
  obtain ⟨l1, l2, l3⟩ := late_ok h3
  have hT : t.id < cntB ds n := h3.lt _ (mem_all_P (b := t) (by simp) hid)
  have huid := h3.ids u (by simp)
  have hU : u.id < cntB ds n := h3.lt _ (mem_all_P (b := u) (by simp) huid)
  obtain ⟨a1, a2, a3⟩ := top_apart h3.nd
  have htu : t.id ≠ u.id := fun e => a2 t.id (.inl hid) (by rw [e]; exact mem_all_P (b := u) (by simp) huid)
  have hS := h3.sync
  have hget : (A.set t.id (-1)).getD u.id 0 = A.getD u.id 0 := by rw [getD_setZ _ _ _ _ (by rw [h3.la]; exact hT), if_neg (fun e => htu e.symm)]
  have hL2 : A.getD u.id 0 = -1 ∨ ∃ e : Nat, A.getD u.id 0 = (e : Int) ∧ e < U.length ∧ waitR rt A t.id e ≠ waitR rt A t.id t.id := by
    obtain ⟨u1, u2, u3⟩ := uO_root hS
    rw [hget] at u1 u2 u3
    rcases u3 with u3 | ⟨e, u3⟩
    · exact .inl u3
    · have he := (u2 e u3).1
      have hea : e ∈ allB (u :: r) := mem_all_O (b := u) (by simp) he
      refine .inr ⟨e, u3, by rw [h4]; exact h3.lt e (by rw [allB_cons]; simp [hea]), fun heq => root_ne hS (x := t.id) (y := e) (.inl (List.mem_append.2 (.inl hid))) hea heq.symm⟩
  have hc := hN.cnt
  have hrl : r.length + 2 ≤ cntB ds n := by rw [hact'] at hal; simpa using hal
  rw [hact'] at h1
  rw [hdo]
  refine (sreturned_ok w base S gu cu gm cm gl cl ga ca t.id u.id U (r.map Bg.id).reverse (dnN ds (n + 1)) M A vd dv (.map (some mb)) rt d h1 h2 (by omega) (by omega) htu (by rw [h4]; exact l1) hL2 (by omega) (by simp; omega) h.b1).mono ?_
  rintro e w' ⟨rfl, ⟨U', d', g1, g2, g3⟩, g4⟩
  have hfp := h1.fp6 h.b1 g4
  have hbn : bgN ds (n + 1) = ⟨u.id, u.P, (t.P ++ t.O) ++ u.O⟩ :: r := by
    show stepB (kdN ds n) (cntB ds n) (bgN ds n) = _
    rw [hk, hb, sb1]
  have hcn : cntB ds (n + 1) = cntB ds n := by
    show (if kdN ds n = 0 then _ else _) = _
    rw [if_neg (by omega)]
  have hR := hS.ret rfl
  have hend : endR (waitR rt A t.id) (A.set t.id (-1)) u.id t.id = endR (waitR rt A t.id) A u.id t.id := by unfold endR; rw [hget]
  simp only [hend] at hR
  rw [← hbn, ← hcn] at hR
  refine ⟨rfl, ⟨⟨U', _, _, gu, cu, gm, cm, gl, cl, ga, ca, vd, _, d', PM, by rw [act_top hbn]; exact g1, g2, hR, by rw [g3, h4, hcn], h1.pl6 h.b1 g4 h5, h6.other hN.bin hN.ne (fun _ => h2l) ⟨by omega, by omega⟩, h7.up ⟨by omega, by omega⟩⟩, h.kp.trans (Fp.low hfp) (fun i e _ => e), h.b1, h.b2, Nat.le_trans h.b3 hfp.size⟩, hfp⟩
/-- A spawn: the task has begun, and is not noted as the current one yet. -/
structure SpM (w0 w : World) (base S mb : Nat) (dv : Value) (ds : List Dd) (n : Nat) (rc : Int → Bool) (ga ca : Nat) : Prop where
  ex : ∃ (U : List Nat) (M : List Bool) (A : List Int) (gu cu gm cm gl cl : Nat) (vd : Value) (rt d : Nat → Nat) (PM : List (Int × Pl)), SwM w base S U M A gu cu gm cm gl cl (actN ds n) ga ca (dnN ds (n + 1)) vd dv (.map (some mb)) ∧ Fo U rt d ∧ BagI (bgN ds (n + 1)) rt M A (cntB ds (n + 1)) ∧ U.length = cntB ds (n + 1) ∧ IsPl w mb PM ∧ Std ds (n + 1) (fun L => (lookP PM L).w) (fun L => (lookP PM L).r) ∧ PlOk ds PM (n + 1) rc
  kp : Keeps (fun i => base ≤ i) w0 w
  b1 : base ≤ S
  b2 : base ≤ mb
  b3 : base ≤ w.heap.size
theorem SwS.spawn (h : SwS w0 w base S mb dv ds n (n + 1) rc) (hN : Now ds n) (hn : n < 4096) (hk : kdN ds n = 0) : ∃ ga ca q, q ≤ 4097 ∧ q = (actN ds n).length ∧ w.cell? ⟨S, 4, none⟩ = some (.slice (some ⟨ga, 0, none⟩) q ca) ∧ ∀ w2, Keeps None w w2 → Calls Try.prog 48 #[.pointer (some ⟨S, 1, none⟩)] w2 fun e w' => e = .returned (.int .i64 (cntB ds n : Nat)) ∧ w'.cell? ⟨S, 4, none⟩ = some (.slice (some ⟨ga, 0, none⟩) q ca) ∧ SpM w0 w' base S mb dv ds n rc ga ca ∧ Keeps (Fp w base) w w' := by
  obtain ⟨U, M, A, gu, cu, gm, cm, gl, cl, ga, ca, vd, rt, d, PM, h1, h2, h3, h4, h5, h6, h7⟩ := h.ex
  have hal := actN_len h3
  have hc := hN.cnt
  refine ⟨ga, ca, _, by omega, rfl, h1.b4, fun w2 hk2 => ?_⟩
  have h1' := h1.more hk2
  refine (sbegin_ok w2 base S gu cu gm cm gl cl ga ca U _ _ M A vd dv _ h1' (by omega) (Nat.le_trans h.b3 hk2.size) h.b1).mono ?_
  rintro e w' ⟨rfl, ⟨gu', cu', gm', cm', gl', cl', g1⟩, g4⟩
  have hfp : Keeps (Fp w base) w w' := Fp.trans (hk2.mono (fun _ f _ => f.elim)) g4 (fun i e _ => ⟨(h1'.f6 h.b1 i e).1, (h1'.f6 h.b1 i e).2.1⟩)
  have hbn : bgN ds (n + 1) = ⟨cntB ds n, [cntB ds n], []⟩ :: bgN ds n := by
    show stepB (kdN ds n) (cntB ds n) (bgN ds n) = _
    obtain ⟨t, r, hb, _⟩ := hN.top
    rw [hk, hb, sb0]
  have hcn : cntB ds (n + 1) = cntB ds n + 1 := by
    show (if kdN ds n = 0 then _ else _) = _
    rw [if_pos hk]
  have hB := h3.spawn
  rw [← hbn, ← hcn] at hB
  refine ⟨by rw [h4], g1.b4, ⟨⟨_, _, _, gu', cu', gm', cm', gl', cl', vd, newR rt (cntB ds n), d, PM, g1, by have := h2.more; rw [h4] at this ⊢; exact this, hB, by rw [List.length_append, h4, hcn]; rfl, h1'.pl6 h.b1 g4 (h5.more hk2), h6.other hN.bin hN.ne (fun e => by omega) ⟨by omega, by omega⟩, h7.up ⟨by omega, by omega⟩⟩, h.kp.trans (Fp.low hfp) (fun i e _ => e), h.b1, h.b2, Nat.le_trans h.b3 hfp.size⟩, hfp⟩
theorem SpM.app {ga ca q : Nat} (h : SpM w0 w base S mb dv ds n rc ga ca) (hN : Now ds n) (hk : kdN ds n = 0) (hq : q ≤ 4097) (hq2 : q = (actN ds n).length) : ∃ g c w1, (Builtin.append_ #[35, 35] 35 #[.slice (some ⟨ga, 0, none⟩) q ca, .slice (some ⟨w.heap.size, 0, none⟩) 1 1]).run Try.prog (w.alloc (.cells #[.int .i64 (cntB ds n : Nat)] 3)) = .ok (.slice (some ⟨g, 0, none⟩) (q + 1) c) w1 ∧ w1.cell? ⟨S, 4, none⟩ = some (.slice (some ⟨ga, 0, none⟩) q ca) ∧ w1.frozen? ⟨S, 4, none⟩ = false ∧
    SwS w0 (w1.setCell ⟨S, 4, none⟩ (.slice (some ⟨g, 0, none⟩) (q + 1) c)) base S mb dv ds (n + 1) (n + 1) rc ∧ Keeps (Fp w base) w (w1.setCell ⟨S, 4, none⟩ (.slice (some ⟨g, 0, none⟩) (q + 1) c)) := by
  obtain ⟨U, M, A, gu, cu, gm, cm, gl, cl, vd, rt, d, PM, h1, h2, h3, h4, h5, h6, h7⟩ := h.ex
  have kA := Keeps.alloc None w (.cells #[.int .i64 ((cntB ds n : Nat) : Int)] 3)
  have h1' := h1.more kA
  obtain ⟨g, c, w1, hr, x1, x2, hM, hk2⟩ := h1'.appAct (cntB ds n) (by have := h.b3; simp; omega) (by omega) (heap_alloc_new w _)
  rw [← hq2] at hr x1 hM hk2
  have hbn : bgN ds (n + 1) = ⟨cntB ds n, [cntB ds n], []⟩ :: bgN ds n := by
    show stepB (kdN ds n) (cntB ds n) (bgN ds n) = _
    obtain ⟨t, r, hb, _⟩ := hN.top
    rw [hk, hb, sb0]
  have hact : actN ds n ++ [cntB ds n] = actN ds (n + 1) := by rw [act_top hbn]; rfl
  rw [hact] at hM
  have hk' := hk2.mono (T := F6 S gu gl gm ga vd) (fun i e _ => by rcases e with e | e; exact .inr (.inr (.inr (.inr (.inl e)))); exact .inl e)
  have hfp : Keeps (Fp w base) w (w1.setCell ⟨S, 4, none⟩ (.slice (some ⟨g, 0, none⟩) (q + 1) c)) := Fp.trans (kA.mono (fun _ f _ => f.elim)) hk' (fun i e _ => ⟨(h1'.f6 h.b1 i e).1, (h1'.f6 h.b1 i e).2.1⟩)
  exact ⟨g, c, w1, hr, x1, x2, ⟨⟨U, M, A, gu, cu, gm, cm, gl, cl, g, c, vd, rt, d, PM, hM, h2, h3, h4, h1'.pl6 h.b1 hk' (h5.more kA), h6, h7⟩, h.kp.trans (Fp.low hfp) (fun i e _ => e), h.b1, h.b2, Nat.le_trans h.b3 hfp.size⟩, hfp⟩
end
end Go.Proofs.Ytolhojagbiaamab
