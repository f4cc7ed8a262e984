import Derived.Test.YtolhojagbiaamaaRbMap
/-! A read or a write is noted. -/
namespace Go.Proofs.Ytolhojagbiaamaa
set_option linter.unusedVariables false
set_option maxRecDepth 20000
set_option linter.unusedSimpArgs false
open Go.RowKit Go.HeapKit

theorem IsPl.more {w w' : World} {b : Nat} {M : List (Int × Pl)} (h : IsPl w b M) (hk : Keeps None w w') : IsPl w' b M := h.kept hk (fun f => f)
def raceT (M : List Bool) (rt : Nat → Nat) (PM : List (Int × Pl)) (k loc : Int) : Bool := if k = 4 then (M.getD (rt (lookP PM loc).w) false || M.getD (rt (lookP PM loc).r) false) else M.getD (rt (lookP PM loc).w) false
def newP (M : List Bool) (rt : Nat → Nat) (PM : List (Int × Pl)) (k loc : Int) (t : Nat) : Pl := if k = 4 then ⟨bothT M rt (lookP PM loc).w t, (lookP PM loc).r, (lookP PM loc).racy⟩ else ⟨(lookP PM loc).w, bothT M rt (lookP PM loc).r t, (lookP PM loc).racy⟩
/-- The state in the midst of it. -/
structure Tch (w wx : World) (base S gu cu gm cm gl cl ga ca mb D X T : Nat) (act dn : List Nat) (M : List Bool) (A : List Int) (vd dv : Value) (rt d : Nat → Nat) (PM : List (Int × Pl)) (k loc : Int) (pw pr : Nat) (rc : Bool) : Prop where
  sw : ∃ U', SwM wx base S U' M A gu cu gm cm gl cl act ga ca dn vd dv (.map (some mb)) ∧ Fo U' rt d ∧ U'.length = T
  pl : IsPl wx mb PM
  bd : wx.heap[D]? = some (.cells #[.int .i64 k, .int .i64 loc] 51 (0, 0))
  bx : wx.heap[X]? = some (.cells #[.int .i64 pw, .int .i64 pr, .bool rc] 82 (0, 0))
  kp : Keeps (Fp w base) w wx
section
variable {w wx wy : World} {base S gu cu gm cm gl cl ga ca mb D X T : Nat} {act dn : List Nat} {M : List Bool} {A : List Int} {vd dv : Value} {rt d : Nat → Nat} {PM : List (Int × Pl)} {k loc : Int} {pw pr : Nat} {rc : Bool}
theorem Tch.more (h : Tch w wx base S gu cu gm cm gl cl ga ca mb D X T act dn M A vd dv rt d PM k loc pw pr rc) (hk : Keeps None wx wy) : Tch w wy base S gu cu gm cm gl cl ga ca mb D X T act dn M A vd dv rt d PM k loc pw pr rc := by
  obtain ⟨U', h1, h2, h3⟩ := h.sw
  exact ⟨⟨U', h1.more hk, h2, h3⟩, h.pl.more hk, blk_kept h.bd hk (fun f => f), blk_kept h.bx hk (fun f => f), Keeps.trans h.kp hk (fun _ f _ => f.elim)⟩
theorem Tch.up (h : Tch w wx base S gu cu gm cm gl cl ga ca mb D X T act dn M A vd dv rt d PM k loc pw pr rc) (hk : Keeps (· = gu) wx wy) {U1 : List Nat} (hs : SetM wy base S 1 U1 M A gu cu gm cm gl cl) (hF : Fo U1 rt d) (hl : U1.length = T) : Tch w wy base S gu cu gm cm gl cl ga ca mb D X T act dn M A vd dv rt d PM k loc pw pr rc := by
  obtain ⟨U', h1, h2, h3⟩ := h.sw
  obtain ⟨cur, hu⟩ := h1.sets.ublk
  refine ⟨⟨U1, h1.sets' (hk.mono (fun i e _ => .inl e)) hs, hF, hl⟩, h.pl.kept hk (fun e => ?_), blk_kept h.bd hk (fun e => ?_), blk_kept h.bx hk (fun e => ?_), Fp.trans h.kp hk (fun i e _ => by rw [e]; exact ⟨row_low h1.sets.ru rfl, h1.sets.toV.nb.1 _ rfl⟩)⟩
  · obtain ⟨es, cl', hb, _⟩ := h.pl
    rw [e, hu] at hb
    cases hb
  · exact ne_of_types h.bd hu (by decide) e
  · exact ne_of_types h.bx hu (by decide) e
theorem Tch.par (h : Tch w wx base S gu cu gm cm gl cl ga ca mb D X T act dn M A vd dv rt d PM k loc pw pr rc) {x : Nat} (hx : x < T) (hT : T ≤ 5000) : Calls Try.prog 58 #[.pointer (some ⟨S, 1, none⟩), .int .i64 x] wx fun e w' => e = .returned (.bool (M.getD (rt x) false)) ∧ Tch w w' base S gu cu gm cm gl cl ga ca mb D X T act dn M A vd dv rt d PM k loc pw pr rc := by
  obtain ⟨U', h1, h2, h3⟩ := h.sw
  refine (isPar_ok wx base S 1 gu cu gm cm gl cl x U' M A rt d h1.sets h2 (by omega) (by omega)).mono ?_
  rintro e w' ⟨rfl, ⟨U2, g1, g2, g3⟩, g4⟩
  exact ⟨rfl, h.up g4 g1 g2 (g3.trans h3)⟩
theorem Tch.both (h : Tch w wx base S gu cu gm cm gl cl ga ca mb D X T act dn M A vd dv rt d PM k loc pw pr rc) {x y : Nat} (hx : x < T) (hT : T ≤ 5000) : Calls Try.prog 63 #[.pointer (some ⟨S, 0, none⟩), .int .i64 x, .int .i64 y] wx fun e w' => e = .returned (.int .i64 (bothT M rt x y : Nat)) ∧ Tch w w' base S gu cu gm cm gl cl ga ca mb D X T act dn M A vd dv rt d PM k loc pw pr rc := by
  obtain ⟨U', h1, h2, h3⟩ := h.sw
  refine (forBoth_ok wx base S gu cu gm cm gl cl x y U' M A rt d h1.sets h2 (by omega) (by omega)).mono ?_
  rintro e w' ⟨rfl, ⟨U2, g1, g2, g3⟩, g4⟩
  exact ⟨rfl, h.up g4 g1 g2 (g3.trans h3)⟩
/-- The place's box is written. -/
theorem Tch.putX (h : Tch w wx base S gu cu gm cm gl cl ga ca mb D X T act dn M A vd dv rt d PM k loc pw pr rc) (hX : base ≤ X) (i : Nat) (v : Value) (hk : Keeps (· = X) wx (wx.setCell ⟨X, i, none⟩ v)) : ∃ U', SwM (wx.setCell ⟨X, i, none⟩ v) base S U' M A gu cu gm cm gl cl act ga ca dn vd dv (.map (some mb)) ∧ Fo U' rt d ∧ U'.length = T ∧ IsPl (wx.setCell ⟨X, i, none⟩ v) mb PM ∧ (wx.setCell ⟨X, i, none⟩ v).heap[D]? = some (.cells #[.int .i64 k, .int .i64 loc] 51 (0, 0)) ∧ Keeps (Fp w base) w (wx.setCell ⟨X, i, none⟩ v) := by
  obtain ⟨U', h1, h2, h3⟩ := h.sw
  have hXS : S ≠ X := fun e => by
    have := h1.b4
    rw [e, blk_cell h.bx] at this
    simp at this
  obtain ⟨_, hu⟩ := h1.sets.ublk
  obtain ⟨_, hl⟩ := h1.sets.lblk
  obtain ⟨_, hm⟩ := h1.sets.mblk
  obtain ⟨_, ha⟩ := own_block h1.ra (g := ga) rfl
  have x1 : gu ≠ X := ne_of_types hu h.bx (by decide)
  have x2 : gl ≠ X := ne_of_types hl h.bx (by decide)
  have x3 : gm ≠ X := ne_of_types hm h.bx (by decide)
  have x4 : ga ≠ X := ne_of_types ha h.bx (by decide)
  have x5 : ∀ b, vd.ownBlock = some b → b ≠ X := fun b hb => by obtain ⟨_, hd⟩ := own_block h1.rd hb; exact ne_of_types hd h.bx (by decide)
  refine ⟨U', ⟨h1.sets.kept hk hXS x1 x3 x2, hk.cell h1.b0 hXS, hk.cell h1.b4 hXS, hk.cell h1.b5 hXS, hk.cell h1.b6 hXS, h1.ra.kept hk (fun g e => by simp [Value.ownBlock] at e; subst e; exact x4), h1.rd.kept hk (fun g e => x5 g e), h1.n1, h1.n2, h1.n3, h1.n4, h1.n5⟩, h2, h3, h.pl.kept hk (fun e => ?_), blk_kept h.bd hk (fun e => ne_of_types h.bd h.bx (by decide) e), Fp.trans h.kp hk (fun i e _ => by rw [e]; exact ⟨hX, not_bk_cells h.bx (.inl (by decide))⟩)⟩
  obtain ⟨es, cl', hb, _⟩ := h.pl
  rw [e, h.bx] at hb
  cases hb
end
set_option maxHeartbeats 1600000 in
theorem touch_ok (w : World) (base S gu cu gm cm gl cl ga ca t mb : Nat) (U act dn : List Nat) (M : List Bool) (A : List Int) (vd dv : Value) (rt d : Nat → Nat) (PM : List (Int × Pl)) (k loc : Int)
    (h : SwM w base S U M A gu cu gm cm gl cl act ga ca dn vd dv (.map (some mb))) (hP : IsPl w mb PM) (hF : Fo U rt d) (ht : t < U.length) (hw : (lookP PM loc).w < U.length) (hr : (lookP PM loc).r < U.length) (hn : U.length ≤ 5000) (hk : k = 3 ∨ k = 4) (hb : base ≤ w.heap.size) (hmb : base ≤ mb) :
    Calls Try.prog 56 #[.pointer (some ⟨S, 0, none⟩), .int .i64 t, .agg #[.int .i64 k, .int .i64 loc]] w fun e w' => e = .returned (.bool (raceT M rt PM k loc)) ∧ (∃ U', SwM w' base S U' M A gu cu gm cm gl cl act ga ca dn vd dv (.map (some mb)) ∧ Fo U' rt d ∧ U'.length = U.length) ∧ IsPl w' mb (putP PM loc (newP M rt PM k loc t)) ∧ Keeps (Fp w base) w w' := by
  obtain ⟨p, hp⟩ : ∃ p, p = lookP PM loc := ⟨_, rfl⟩
  have HM : Hid (SwM w base S U M A gu cu gm cm gl cl act ga ca dn vd dv (.map (some mb)) ∧ IsPl w mb PM ∧ Fo U rt d ∧ p = lookP PM loc) := ⟨h, hP, hF, hp⟩
  have kD := Keeps.alloc None w (.cells #[.int .i64 k, .int .i64 loc] 51)
  have bD := heap_alloc_new w (.cells #[.int .i64 k, .int .i64 loc] 51)
  obtain ⟨W0, hW0⟩ : ∃ W0, W0 = w.alloc (.cells #[.int .i64 k, .int .i64 loc] 51) := ⟨_, rfl⟩
  obtain ⟨D, hD⟩ : ∃ D, D = w.heap.size := ⟨_, rfl⟩
  rw [← hW0] at kD bD
  rw [← hD] at bD
  have h0 := h.more kD
  have hP0 := hP.more kD
  have s6 := h0.b6
  have d0 : W0.cell? ⟨D, 0, none⟩ = some (.int .i64 k) := cell_of_heap bD 0
  have d1 : W0.cell? ⟨D, 1, none⟩ = some (.int .i64 loc) := cell_of_heap bD 1
  have lk1 : (Instr.lookup 78 (.map (some mb)) (.int .i64 loc) false).run Try.prog W0.drew = .ok (.agg #[.int .i64 p.w, .int .i64 p.r, .bool p.racy]) W0.drew := by
    rw [hp]; exact (hP0.more (Keeps.drew None _)).look loc
  have lk2 : ∀ c, (Instr.lookup 78 (.map (some mb)) (.int .i64 loc) false).run Try.prog (W0.alloc (.cells c 82)).drew = .ok (.agg #[.int .i64 p.w, .int .i64 p.r, .bool p.racy]) (W0.alloc (.cells c 82)).drew := fun c => by
    rw [hp]; exact ((hP0.more (Keeps.alloc None W0 _)).more (Keeps.drew None _)).look loc
  have d1' : (W0.alloc (.cells #[.int .i64 0, .int .i64 0, .bool false] 82)).cell? ⟨D, 1, none⟩ = some (.int .i64 loc) := (Keeps.alloc None W0 _).cell d1 (fun f => f)
  have s6' : (W0.alloc (.cells #[.int .i64 0, .int .i64 0, .bool false] 82)).cell? ⟨S, 6, none⟩ = some (.map (some mb)) := (Keeps.alloc None W0 _).cell s6 (fun f => f)
  have HLT : Hid ((lookP PM loc).w < U.length ∧ (lookP PM loc).r < U.length) := ⟨hw, hr⟩
  rw [← hp] at HLT
  have HW0 : Hid (W0 = w.alloc (.cells #[.int .i64 k, .int .i64 loc] 51) ∧ D = w.heap.size) := ⟨hW0, hD⟩
  clear h hP hF ht hw hr hp kD bD hW0 hD h0 hP0
  go_enter Try.func56, Try.ntmps56
  go_upto_region 1 with fail
  rw [← HW0.out.1, ← HW0.out.2]
  go_cut [7] (fun s7 wx => s7 = .pointer (some ⟨W0.heap.size, 0, none⟩) ∧ wx = (W0.alloc (.cells #[.int .i64 p.w, .int .i64 p.r, .bool p.racy] 82)).drew)
  case first =>
    go_region
    all_goals (go_wp2_with fail; go_meet)
    all_goals exact ⟨rfl, rfl⟩
  case rest =>
  obtain ⟨rfl, hwc⟩ := hcut
  have hwc' := hwc.symm
  subst hwc'
  obtain ⟨X, hXe⟩ : ∃ X, X = W0.heap.size := ⟨_, rfl⟩
  obtain ⟨T, hTe⟩ : ∃ T, T = U.length := ⟨_, rfl⟩
  have hT1 : Tch w (W0.alloc (.cells #[.int .i64 p.w, .int .i64 p.r, .bool p.racy] 82)).drew base S gu cu gm cm gl cl ga ca mb D X T act dn M A vd dv rt d PM k loc p.w p.r p.racy := by
    obtain ⟨g1, g2, g3, g4⟩ := HM.out
    have k0 : Keeps None w W0 := by rw [HW0.out.1]; exact Keeps.alloc None w _
    have k1 := (Keeps.alloc None W0 (.cells #[.int .i64 p.w, .int .i64 p.r, .bool p.racy] 82)).andDrew
    have bd0 : W0.heap[D]? = some (.cells #[.int .i64 k, .int .i64 loc] 51 (0, 0)) := by rw [HW0.out.1, HW0.out.2]; exact heap_alloc_new w _
    refine ⟨⟨U, (g1.more k0).more k1, g3, hTe.symm⟩, (g2.more k0).more k1, blk_kept bd0 k1 (fun f => f), ?_, (k0.trans k1 (fun _ f _ => f)).mono (fun _ f _ => f.elim)⟩
    rw [hXe]
    exact heap_alloc_new W0 _
  have HX : Hid (base ≤ X ∧ T = U.length ∧ p.w < T ∧ p.r < T ∧ T ≤ 5000 ∧ p = lookP PM loc) := ⟨by rw [hXe, HW0.out.1]; simp; omega, hTe, by rw [hTe]; exact HLT.out.1, by rw [hTe]; exact HLT.out.2, by rw [hTe]; exact hn, HM.out.2.2.2⟩
  rw [← hXe]
  generalize (W0.alloc (.cells #[.int .i64 p.w, .int .i64 p.r, .bool p.racy] 82)).drew = W1 at hT1 ⊢
  have HT1 : Hid _ := hT1
  have x0 : W1.cell? ⟨X, 0, none⟩ = some (.int .i64 p.w) := cell_of_heap hT1.bx 0
  clear hT1 hXe hTe HM d0 d1 d1' s6 s6' lk1 lk2 hwc
  have HPar : Hid (∀ w2, Keeps None W1 w2 → Calls Try.prog 58 #[.pointer (some ⟨S, 1, none⟩), .int .i64 p.w] w2 fun e w' => e = .returned (.bool (M.getD (rt p.w) false)) ∧ w'.cell? ⟨X, 0, none⟩ = some (.int .i64 p.w) ∧ Hid (Tch w w' base S gu cu gm cm gl cl ga ca mb D X T act dn M A vd dv rt d PM k loc p.w p.r p.racy)) := fun w2 hk2 => ((HT1.out.more hk2).par HX.out.2.2.1 HX.out.2.2.2.2.1).mono fun e w' hp => ⟨hp.1, cell_of_heap hp.2.bx 0, hp.2⟩
  go_wp2_with fail
  go_cut [8] (fun s8 wx => s8 = .bool (M.getD (rt p.w) false) ∧ Tch w wx base S gu cu gm cm gl cl ga ca mb D X T act dn M A vd dv rt d PM k loc p.w p.r p.racy)
  case first =>
    go_region_held3 (fun w' => w'.cell? ⟨X, 0, none⟩ = some (.int .i64 p.w)) (first | exact q1 | go_keep) (first | (go_at_call 58; refine Calls.mono (HPar.out _ (Keeps.drew None _)) ?_; rintro _ w3 ⟨rfl, q1, q2⟩))
    all_goals (go_wp2_with fail; go_meet)
    all_goals exact ⟨rfl, q2.out⟩
  case rest =>
  obtain ⟨rfl, hT2⟩ := hcut
  obtain ⟨W2, hW2⟩ : ∃ W2, W2 = wc := ⟨_, rfl⟩
  rw [← hW2] at hT2 ⊢
  clear hW2 x0 HPar HT1
  have e0 : W2.cell? ⟨D, 0, none⟩ = some (.int .i64 k) := cell_of_heap hT2.bd 0
  have v0 : W2.cell? ⟨X, 0, none⟩ = some (.int .i64 p.w) := cell_of_heap hT2.bx 0
  have v1 : W2.cell? ⟨X, 1, none⟩ = some (.int .i64 p.r) := cell_of_heap hT2.bx 1
  have HT2 : Hid _ := hT2
  clear hT2
  rcases hk with rfl | rfl
  · skip
    go_upto_region 7 with (go_at_call 63; refine Calls.mono (HT2.out.both (x := p.r) (y := t) HX.out.2.2.2.1 HX.out.2.2.2.2.1) ?_; rintro _ w3 ⟨rfl, hT3⟩; have z1 := cell_of_heap hT3.bx 1; have z2 := blk_free hT3.bx 1; have HT3 : Hid _ := hT3; clear hT3)
    have hk3 : Keeps (· = X) w3 (w3.setCell ⟨X, 1, none⟩ (.int .i64 (bothT M rt p.r t : Nat))) := keeps_one (Keeps.refl _ _) _
    obtain ⟨U4, g1, g2, g3, g4, g5, g6⟩ := HT3.out.putX HX.out.1 1 (.int .i64 (bothT M rt p.r t : Nat)) hk3
    have hT4 : Tch w (w3.setCell ⟨X, 1, none⟩ (.int .i64 (bothT M rt p.r t : Nat))) base S gu cu gm cm gl cl ga ca mb D X T act dn M A vd dv rt d PM 3 loc (p.w) (bothT M rt p.r t) p.racy := ⟨⟨U4, g1, g2, g3⟩, g4, g5, blk_set (i := 1) HT3.out.bx _, g6⟩
    obtain ⟨W4, hW4⟩ : ∃ W4, W4 = w3.setCell ⟨X, 1, none⟩ (.int .i64 (bothT M rt p.r t : Nat)) := ⟨_, rfl⟩
    rw [← hW4] at hT4 ⊢
    clear hW4 hk3 g1 g2 g3 g4 g5 g6 HT3 z1 z2
    have s6 : W4.cell? ⟨S, 6, none⟩ = some (.map (some mb)) := by obtain ⟨U', g1, _⟩ := hT4.sw; exact g1.b6
    have e1 : W4.cell? ⟨D, 1, none⟩ = some (.int .i64 loc) := cell_of_heap hT4.bd 1
    have y0 := cell_of_heap hT4.bx 0
    have y1 := cell_of_heap hT4.bx 1
    have y2 := cell_of_heap hT4.bx 2
    have y0' : W4.cell? ⟨X, 0, none⟩ = some (.int .i64 ((p.w) : Nat)) := y0
    have y1' : W4.cell? ⟨X, 1, none⟩ = some (.int .i64 ((bothT M rt p.r t) : Nat)) := y1
    have y2' : W4.cell? ⟨X, 2, none⟩ = some (.bool p.racy) := y2
    obtain ⟨W5, hup, hP5, hk5⟩ := (hT4.pl.more (Keeps.drew None W4)).put loc ⟨(p.w), (bothT M rt p.r t), p.racy⟩
    have hup' : (Instr.mapUpdate 78 (.map (some mb)) (.int .i64 loc) (.agg #[.int .i64 ((p.w) : Nat), .int .i64 ((bothT M rt p.r t) : Nat), .bool p.racy])).run Try.prog W4.drew = .ok () W5 := hup
    have HFin : Hid ((∃ U', SwM W5 base S U' M A gu cu gm cm gl cl act ga ca dn vd dv (.map (some mb)) ∧ Fo U' rt d ∧ U'.length = U.length) ∧ IsPl W5 mb (putP PM loc (newP M rt PM 3 loc t)) ∧ Keeps (Fp w base) w W5) := by
      have hT5 := hT4.more (Keeps.drew None W4)
      obtain ⟨U', g1, g2, g3⟩ := hT5.sw
      have hmbne : ∀ (b : Nat) (c : Array Value) (ty : TypeId) (f : Nat × Nat), W4.drew.heap[b]? = some (.cells c ty f) → b ≠ mb := fun b c ty f hb e => by
        obtain ⟨es, cl', hm, _⟩ := hT5.pl
        rw [← e, hb] at hm
        cases hm
      obtain ⟨_, hu⟩ := g1.sets.ublk
      obtain ⟨_, hl⟩ := g1.sets.lblk
      obtain ⟨_, hm⟩ := g1.sets.mblk
      obtain ⟨_, ha⟩ := own_block g1.ra (g := ga) rfl
      obtain ⟨_, _, hSb, _⟩ := g1.sets.blk
      have hS := hmbne S _ _ _ hSb
      refine ⟨⟨U', ⟨g1.sets.kept hk5 hS (hmbne _ _ _ _ hu) (hmbne _ _ _ _ hm) (hmbne _ _ _ _ hl), hk5.cell g1.b0 hS, hk5.cell g1.b4 hS, hk5.cell g1.b5 hS, hk5.cell g1.b6 hS, g1.ra.kept hk5 (fun g e => by simp [Value.ownBlock] at e; subst e; exact hmbne _ _ _ _ ha), g1.rd.kept hk5 (fun g e => by obtain ⟨_, hd⟩ := own_block g1.rd e; exact hmbne _ _ _ _ hd), g1.n1, g1.n2, g1.n3, g1.n4, g1.n5⟩, g2, g3.trans HX.out.2.1⟩, ?_, Fp.trans hT5.kp hk5 (fun i e _ => by rw [e]; exact ⟨hmb, by obtain ⟨es, cl2, hm2, _⟩ := hT5.pl; exact not_bk_map hm2⟩)⟩
      have e : newP M rt PM 3 loc t = ⟨(p.w), (bothT M rt p.r t), p.racy⟩ := by rw [HX.out.2.2.2.2.2]; rfl
      rw [e]
      exact hP5
    clear hT4 hup hP5 hk5 y0 y1 y2
    go_wp2_with fail
    go_cut [8] (fun s8 wx => s8 = .bool (M.getD (rt p.w) false) ∧ wx = W5)
    case first =>
      go_region
      all_goals (go_wp2_with fail; go_meet)
      all_goals exact ⟨rfl, rfl⟩
    case rest =>
    obtain ⟨rfl, hwc⟩ := hcut
    have hwc' := hwc.symm
    subst hwc'
    go_wp2
    go_ret
    refine ⟨?_, HFin.out⟩
    rw [show raceT M rt PM 3 loc = M.getD (rt p.w) false by rw [HX.out.2.2.2.2.2]; rfl]
    rfl
  · skip
    go_upto_region 4 with fail
    have HPr : Hid (∀ w2, Keeps None W2 w2 → Calls Try.prog 58 #[.pointer (some ⟨S, 1, none⟩), .int .i64 p.r] w2 fun e w' => e = .returned (.bool (M.getD (rt p.r) false)) ∧ w'.cell? ⟨X, 1, none⟩ = some (.int .i64 p.r) ∧ Hid (Tch w w' base S gu cu gm cm gl cl ga ca mb D X T act dn M A vd dv rt d PM 4 loc p.w p.r p.racy)) := fun w2 hk2 => ((HT2.out.more hk2).par HX.out.2.2.2.1 HX.out.2.2.2.2.1).mono fun e w' hp => ⟨hp.1, cell_of_heap hp.2.bx 1, hp.2⟩
    go_cut [8] (fun s8 wx => s8 = .bool (M.getD (rt p.w) false || M.getD (rt p.r) false) ∧ Tch w wx base S gu cu gm cm gl cl ga ca mb D X T act dn M A vd dv rt d PM 4 loc p.w p.r p.racy)
    case first =>
      cases hmw : M.getD (rt p.w) false with
      | true =>
        go_region
        all_goals (go_wp2_with fail; go_meet)
        all_goals exact ⟨by rw [hmw]; rfl, HT2.out.more (Keeps.drew None _)⟩
      | false =>
        go_region_held3 (fun w' => w'.cell? ⟨X, 1, none⟩ = some (.int .i64 p.r)) (first | exact q1 | go_keep) (first | (go_at_call 58; refine Calls.mono (HPr.out _ (Keeps.drew None _)) ?_; rintro _ w3 ⟨rfl, q1, q2⟩))
        all_goals (go_wp2_with fail; go_meet)
        all_goals exact ⟨by rw [hmw]; rfl, q2.out⟩
    case rest =>
    obtain ⟨rfl, hT2⟩ := hcut
    clear HT2 e0 v0 v1 HPr
    obtain ⟨W3, hW3⟩ : ∃ W3, W3 = wc := ⟨_, rfl⟩
    rw [← hW3] at hT2 ⊢
    clear hW3
    have v0 : W3.cell? ⟨X, 0, none⟩ = some (.int .i64 p.w) := cell_of_heap hT2.bx 0
    have HT2 : Hid _ := hT2
    clear hT2
    go_upto_region 7 with (go_at_call 63; refine Calls.mono (HT2.out.both (x := p.w) (y := t) HX.out.2.2.1 HX.out.2.2.2.2.1) ?_; rintro _ w3 ⟨rfl, hT3⟩; have z1 := cell_of_heap hT3.bx 0; have z2 := blk_free hT3.bx 0; have HT3 : Hid _ := hT3; clear hT3)
    have hk3 : Keeps (· = X) w3 (w3.setCell ⟨X, 0, none⟩ (.int .i64 (bothT M rt p.w t : Nat))) := keeps_one (Keeps.refl _ _) _
    obtain ⟨U4, g1, g2, g3, g4, g5, g6⟩ := HT3.out.putX HX.out.1 0 (.int .i64 (bothT M rt p.w t : Nat)) hk3
    have hT4 : Tch w (w3.setCell ⟨X, 0, none⟩ (.int .i64 (bothT M rt p.w t : Nat))) base S gu cu gm cm gl cl ga ca mb D X T act dn M A vd dv rt d PM 4 loc (bothT M rt p.w t) (p.r) p.racy := ⟨⟨U4, g1, g2, g3⟩, g4, g5, blk_set (i := 0) HT3.out.bx _, g6⟩
    obtain ⟨W4, hW4⟩ : ∃ W4, W4 = w3.setCell ⟨X, 0, none⟩ (.int .i64 (bothT M rt p.w t : Nat)) := ⟨_, rfl⟩
    rw [← hW4] at hT4 ⊢
    clear hW4 hk3 g1 g2 g3 g4 g5 g6 HT3 z1 z2
    have s6 : W4.cell? ⟨S, 6, none⟩ = some (.map (some mb)) := by obtain ⟨U', g1, _⟩ := hT4.sw; exact g1.b6
    have e1 : W4.cell? ⟨D, 1, none⟩ = some (.int .i64 loc) := cell_of_heap hT4.bd 1
    have y0 := cell_of_heap hT4.bx 0
    have y1 := cell_of_heap hT4.bx 1
    have y2 := cell_of_heap hT4.bx 2
    have y0' : W4.cell? ⟨X, 0, none⟩ = some (.int .i64 ((bothT M rt p.w t) : Nat)) := y0
    have y1' : W4.cell? ⟨X, 1, none⟩ = some (.int .i64 ((p.r) : Nat)) := y1
    have y2' : W4.cell? ⟨X, 2, none⟩ = some (.bool p.racy) := y2
    obtain ⟨W5, hup, hP5, hk5⟩ := (hT4.pl.more (Keeps.drew None W4)).put loc ⟨(bothT M rt p.w t), (p.r), p.racy⟩
    have hup' : (Instr.mapUpdate 78 (.map (some mb)) (.int .i64 loc) (.agg #[.int .i64 ((bothT M rt p.w t) : Nat), .int .i64 ((p.r) : Nat), .bool p.racy])).run Try.prog W4.drew = .ok () W5 := hup
    have HFin : Hid ((∃ U', SwM W5 base S U' M A gu cu gm cm gl cl act ga ca dn vd dv (.map (some mb)) ∧ Fo U' rt d ∧ U'.length = U.length) ∧ IsPl W5 mb (putP PM loc (newP M rt PM 4 loc t)) ∧ Keeps (Fp w base) w W5) := by
      have hT5 := hT4.more (Keeps.drew None W4)
      obtain ⟨U', g1, g2, g3⟩ := hT5.sw
      have hmbne : ∀ (b : Nat) (c : Array Value) (ty : TypeId) (f : Nat × Nat), W4.drew.heap[b]? = some (.cells c ty f) → b ≠ mb := fun b c ty f hb e => by
        obtain ⟨es, cl', hm, _⟩ := hT5.pl
        rw [← e, hb] at hm
        cases hm
      obtain ⟨_, hu⟩ := g1.sets.ublk
      obtain ⟨_, hl⟩ := g1.sets.lblk
      obtain ⟨_, hm⟩ := g1.sets.mblk
      obtain ⟨_, ha⟩ := own_block g1.ra (g := ga) rfl
      obtain ⟨_, _, hSb, _⟩ := g1.sets.blk
      have hS := hmbne S _ _ _ hSb
      refine ⟨⟨U', ⟨g1.sets.kept hk5 hS (hmbne _ _ _ _ hu) (hmbne _ _ _ _ hm) (hmbne _ _ _ _ hl), hk5.cell g1.b0 hS, hk5.cell g1.b4 hS, hk5.cell g1.b5 hS, hk5.cell g1.b6 hS, g1.ra.kept hk5 (fun g e => by simp [Value.ownBlock] at e; subst e; exact hmbne _ _ _ _ ha), g1.rd.kept hk5 (fun g e => by obtain ⟨_, hd⟩ := own_block g1.rd e; exact hmbne _ _ _ _ hd), g1.n1, g1.n2, g1.n3, g1.n4, g1.n5⟩, g2, g3.trans HX.out.2.1⟩, ?_, Fp.trans hT5.kp hk5 (fun i e _ => by rw [e]; exact ⟨hmb, by obtain ⟨es, cl2, hm2, _⟩ := hT5.pl; exact not_bk_map hm2⟩)⟩
      have e : newP M rt PM 4 loc t = ⟨(bothT M rt p.w t), (p.r), p.racy⟩ := by rw [HX.out.2.2.2.2.2]; rfl
      rw [e]
      exact hP5
    clear hT4 hup hP5 hk5 y0 y1 y2
    go_wp2_with fail
    go_cut [8] (fun s8 wx => s8 = .bool ((M.getD (rt p.w) false || M.getD (rt p.r) false)) ∧ wx = W5)
    case first =>
      go_region
      all_goals (go_wp2_with fail; go_meet)
      all_goals exact ⟨rfl, rfl⟩
    case rest =>
    obtain ⟨rfl, hwc⟩ := hcut
    have hwc' := hwc.symm
    subst hwc'
    go_wp2
    go_ret
    refine ⟨?_, HFin.out⟩
    rw [show raceT M rt PM 4 loc = (M.getD (rt p.w) false || M.getD (rt p.r) false) by rw [HX.out.2.2.2.2.2]; rfl]
    rfl
end Go.Proofs.Ytolhojagbiaamaa
