import Derived.Test.YtdiabpoafennlabPkAT
import Derived.Test.YtdiabpoafennlabPkAD
import Derived.Deep.Cut
import Derived.Test.YtdiabpoafennlabPkAG
/-! The current task's row is merged: numbers. -/
namespace Go.Proofs.Ytdiabpoafennlab.Nm
set_option linter.unusedVariables false
set_option maxRecDepth 20000
set_option linter.unusedSimpArgs false
open Go.RowKit Go.HeapKit Go.PlainOps

/-- The views' block, and what stands in it. -/
theorem PM.viewAt {w : World} {base pb : Nat} {st : List Bool} {X : PX} {K : NP} {H R : Nat → Value} {s : PS} (h : PM w base pb st X K H R s) {a : Nat} (ha : a < s.vs.length) : ∃ vb, X.va = some ⟨vb, 0, none⟩ ∧ s.vs.length ≤ X.vc ∧ w.cell? ⟨vb, a, none⟩ = some (.int .i64 (fV K (s.vs.getD a []))) ∧ (∀ i, w.frozen? ⟨vb, i, none⟩ = false) ∧ base ≤ vb := by
  obtain ⟨g, e, h0, _, h3, h4, h5⟩ := own_cellS h.vw.views (k := a) (fvs_at (l := s.vs.getD a []) (by rw [List.getD_eq_getElem?_getD, List.getElem?_eq_getElem ha]; rfl))
  exact ⟨g, e, h3, h4, h5, h0⟩
theorem PM.viewAt2 {w : World} {base pb : Nat} {st : List Bool} {X : PX} {K : NP} {H R : Nat → Value} {s : PS} (h : PM w base pb st X K H R s) {a vb : Nat} (ha : a < s.vs.length) (e : X.va = some ⟨vb, 0, none⟩) : w.cell? ⟨vb, a, none⟩ = some (.int .i64 (fV K (s.vs.getD a []))) := by
  obtain ⟨g, e2, _, h4, _⟩ := h.viewAt ha
  rw [e] at e2
  injection e2 with e2
  injection e2 with e2
  subst e2
  exact h4
theorem LineOk.fits {pre : List Nat} {P : List Int} {m : MS (List Int)} (h : LineOk pre P m) (hP : Fits P) {v : Nat} (hv : v ∈ pre ++ m.row) : Fits (m.vs.getD v []) := fun x hx => hP x (by
  rw [← h.cat, catL]
  exact List.mem_flatten.2 ⟨_, List.mem_map.2 ⟨v, hv, rfl⟩, hx⟩)
set_option maxHeartbeats 3200000 in
theorem merge_ok (base pb at0 : Nat) (st : List Bool) (X : PX) (K0 : NP) (R : Nat → Value) (s : PS) (w : World) (tk : List (Nat × List Nat)) (sp : Nat) (m0 : MS (List Int)) (pre : List Nat) (P : List Int) (h : PM w base pb st X K0 R R (psOf s tk sp m0)) (hb : base ≤ w.heap.size) (hline : LineOk pre P m0) (hP : P.length ≤ 4096) (h0 : 0 < m0.row.length) (hr : m0.row.length ≤ 5000) (hn : tk.length ≤ 5000) (hmg : m0.mg.length + m0.row.length ≤ 100000) (hu : hasU K0.op = true) (hf : Fits P) :
    Calls Try.prog 47 #[.pointer (some ⟨pb, 0, none⟩), .int .i64 at0] w fun e w' => e = .returned (.tuple #[]) ∧ (∃ X' R', PM w' base pb st X' K0 R' R' (psOf s tk sp (m0.all listK at0))) ∧ Keeps (fun i => base ≤ i) w w' := by
  have HU : Hid (hasU K0.op = true ∧ Fits P) := ⟨hu, hf⟩
  clear hu hf
  obtain ⟨tb, hta, -, -, -, -, t1, -⟩ := h.cur rfl
  have HP : Hid (PM w base pb st X K0 R R (psOf s tk sp m0) ∧ X.ta = some ⟨tb, 0, none⟩ ∧ w.cell? ⟨tb, tk.length * 2 + 1, none⟩ = some (R tk.length)) := ⟨h, hta, t1⟩
  have HL : Hid (LineOk pre P m0 ∧ P.length ≤ 4096 ∧ 0 < m0.row.length ∧ m0.row.length ≤ 5000 ∧ base ≤ w.heap.size ∧ m0.mg.length + m0.row.length ≤ 100000) := ⟨hline, hP, h0, hr, hb, hmg⟩
  have hrow0 := h.curRow rfl
  obtain ⟨ra, rc, hRv⟩ := row_shape hrow0
  rw [hRv] at t1
  have HV : Hid (R tk.length = .slice ra m0.row.length rc) := hRv
  clear h hline hP h0 hr hta hrow0 hRv hb hmg
  go_enter Try.func47, Try.ntmps47
  go_wp2_with fail
  refine (current_ok base pb st X K0 R R (psOf s tk sp m0) w tb tk (sp, m0.row) HP.out.1 rfl HP.out.2.1 (by omega)).mono ?_
  rintro e w1 ⟨rfl, hk1⟩
  have HK0 : Hid (Keeps None w w1) := hk1
  have t2 := hk1.cell t1 (fun f => f)
  clear hk1 t1
  go_wp2_with fail
  clear t2
  go_loopw [4, 5, 6, 7] (fun r _ _ _ wr => ∃ m X' V, m0.all listK at0 = m.all listK at0 ∧ r = V ∧ PM wr base pb st X' K0 R (upd R tk.length V) (psOf s tk sp m) ∧ LineOk pre P m ∧ 0 < m.row.length ∧ m.row.length ≤ 5000 ∧ m.mg.length + m.row.length ≤ 100000 ∧ X'.ta = some ⟨tb, 0, none⟩ ∧ Keeps (fun i => base ≤ i) w wr) (fun r _ _ _ _ => sliceLen r)
  case atStart =>
    refine ⟨m0, X, _, rfl, rfl, ?_, HL.out.1, HL.out.2.2.1, HL.out.2.2.2.1, HL.out.2.2.2.2.2, HP.out.2.1, HK0.out.mono (fun _ f _ => f.elim)⟩
    rw [← HV.out]
    have e : upd R tk.length (R tk.length) = R := by
      funext i
      by_cases h : i = tk.length
      · subst h; exact upd_eq _ _ _
      · exact upd_ne h
    rw [e]
    exact HP.out.1.more HK0.out
  case round =>
    clear HV HK0
    obtain ⟨m, X1, V, hall, rfl, hM, hline, hpos, hlen, hmg, hta, hk⟩ := hrel
    have hrow := hM.curRow (tk := tk) (sp := sp) (r := m.row) rfl
    rw [upd_eq] at hrow
    obtain ⟨ra, rc, rfl⟩ := row_shape hrow
    have HM : Hid (PM wr base pb st X1 K0 R (upd R tk.length (.slice ra m.row.length rc)) (psOf s tk sp m) ∧ LineOk pre P m ∧ m0.all listK at0 = m.all listK at0 ∧ X1.ta = some ⟨tb, 0, none⟩ ∧ Keeps (fun i => base ≤ i) w wr ∧ m.mg.length + m.row.length ≤ 100000) := ⟨hM, hline, hall, hta, hk, hmg⟩
    by_cases h1 : 1 < m.row.length
    · have hi1 : (1 : Int) < (m.row.length : Int) := by omega
      clear hM hline hall hta hk hrow hmg
      go_wp2_with fail
      refine (pick_ok base pb st X1 K0 R _ (psOf s tk sp m) wr HM.out.1).mono ?_
      rintro e w2 ⟨rfl, ⟨X2, hM2, hta2⟩, hk2⟩
      have hw : wrap64 ((m.row.length : Int) - 1) = ((m.row.length - 1 : Nat) : Int) := by unfold wrap64; omega
      have HM2 : Hid (PM w2 base pb st X2 K0 R (upd R tk.length (.slice ra m.row.length rc)) (psOf s tk sp { m with pk := m.pk.tail }) ∧ X2.ta = some ⟨tb, 0, none⟩ ∧ Keeps (fun i => base ≤ i) w w2) := ⟨hM2, hta2.trans HM.out.2.2.2.1, HM.out.2.2.2.2.1.trans hk2 (fun i e _ => by have := HM.out.1.low; omega)⟩
      have hpk : (psOf s tk sp m).pk = m.pk := rfl
      rw [hpk]
      obtain ⟨pk, hp⟩ : ∃ pk, pk = m.pk.headD 0 := ⟨_, rfl⟩
      rw [← hp]
      have HPK : Hid (pk = m.pk.headD 0) := hp
      clear hM2 hta2 hk2 hpk hp
      have hw : wrap64 ((m.row.length : Int) - 1) = (m.row.length : Int) - 1 := by unfold wrap64; omega
      go_wp2_with fail
      refine (mod_any pk ((m.row.length : Int) - 1) w2 (by omega)).mono ?_
      rintro e w3 ⟨rfl, hw3⟩
      have hw4 := hw3.symm
      subst hw4
      clear hw3 hw
      have hj := MS.j_lt h1
      have hjv : modV pk ((m.row.length : Int) - 1) = ((m.j : Nat) : Int) := by
        unfold modV
        rw [if_neg (by omega), HPK.out]
        unfold MS.j
        rw [show ((m.row.length - 1 : Nat) : Int) = (m.row.length : Int) - 1 by omega, Int.toNat_of_nonneg (Int.emod_nonneg _ (by omega))]
      rw [hjv]
      obtain ⟨A, a, b, B, e1, e2, e3, e4, e5⟩ := row_split hj
      obtain ⟨j, hjj⟩ : ∃ j, j = m.j := ⟨_, rfl⟩
      rw [← hjj]
      rw [← hjj] at hj e2 e3 e4 e5
      have HJ : Hid (j = m.j ∧ m.row = A ++ a :: b :: B ∧ m.row.getD j 0 = a ∧ m.row.getD (j + 1) 0 = b) := ⟨hjj, e1, e3, e4⟩
      have hrow := HM2.out.1.curRow (tk := tk) (sp := sp) (r := m.row) rfl
      rw [upd_eq] at hrow
      have ha1 : m.row[j]? = some a := by rw [e1, ← e2]; simp
      have hb1 : m.row[j + 1]? = some b := by rw [e1, ← e2, List.getElem?_append_right (by omega)]; simp
      obtain ⟨g, rfl, -, -, -, c1, -⟩ := own_cellS hrow (k := j) (nv_at ha1)
      obtain ⟨g', e', -, -, -, c2, -⟩ := own_cellS hrow (k := j + 1) (nv_at hb1)
      injection e' with e'
      injection e' with e'
      subst e'
      have hw5 : IntKind.i64.wrap ((j : Int) + 1) = (j : Int) + 1 := by rw [IntKind.wrap_i64]; omega
      have hi2 : (j : Int) < (m.row.length : Int) := by omega
      have hi3 : (j : Int) + 1 < (m.row.length : Int) := by omega
      have hi4 : 0 ≤ (j : Int) + 1 := by omega
      have hi5 : ((j : Int) + 1).toNat = j + 1 := by omega
      clear hjv hjj e1 e2 e3 e4 e5 ha1 hb1 hrow
      go_upto_region 3 with fail
      go_quiet (fail)
      go_upto_region 4 with fail
      obtain ⟨w4, hw4⟩ : ∃ w4, w4 = w2.drewN nq := ⟨_, rfl⟩
      rw [← hw4]
      have HL4 : Hid (PM w4 base pb st X2 K0 R (upd R tk.length (.slice (some ⟨g, 0, none⟩) m.row.length rc)) (psOf s tk sp { m with pk := m.pk.tail }) ∧ X2.ta = some ⟨tb, 0, none⟩ ∧ Keeps (fun i => base ≤ i) w w4 ∧ base ≤ w4.heap.size) := by
        have hkd : Keeps None w2 w4 := by rw [hw4]; exact keeps_drewN _ _
        exact ⟨HM2.out.1.more hkd, HM2.out.2.1, keeps_tr HM2.out.2.2 hkd, Nat.le_trans HL.out.2.2.2.2.1 (Nat.le_trans HM2.out.2.2.size hkd.size)⟩
      clear hw4 HM2 c1 c2
      go_cut [] (fun wx => ∃ X3, PM wx base pb st X3 K0 R (upd R tk.length (.slice (some ⟨g, 0, none⟩) m.row.length rc)) (psOf s tk sp { m with pk := m.pk.tail, vs := m.vs.set a (m.vs.getD a [] ++ m.vs.getD b []) }) ∧ X3.ta = some ⟨tb, 0, none⟩ ∧ Keeps (fun i => base ≤ i) w wx)
      case first =>
        obtain ⟨s1, s2, s3, s4⟩ := HM.out.2.1.two HJ.out.2.1
        obtain ⟨vb, hva, hvc, v1, hf, hvl⟩ := HL4.out.1.viewAt (a := a) s2
        have v2 := HL4.out.1.viewAt2 (a := b) s3 hva
        obtain ⟨-, -, q2, -, -, -, q6, -, -, -, -⟩ := HL4.out.1.c0
        rw [hva] at q6
        have hlv : (psOf s tk sp { m with pk := m.pk.tail }).vs.length = m.vs.length := rfl
        rw [hlv] at q6
        have z1 : (a : Int) < (m.vs.length : Int) := by omega
        have z2 : (b : Int) < (m.vs.length : Int) := by omega
        have f1 := hf a
        have HVA : Hid (X2.va = some ⟨vb, 0, none⟩ ∧ base ≤ vb) := ⟨hva, hvl⟩
        obtain ⟨Va, hVa⟩ : ∃ V, V = fV K0 (m.vs.getD a []) := ⟨_, rfl⟩
        obtain ⟨Vb, hVb⟩ : ∃ V, V = fV K0 (m.vs.getD b []) := ⟨_, rfl⟩
        have u1 : w4.cell? ⟨vb, a, none⟩ = some (.int .i64 Va) := by rw [hVa]; exact v1
        have u2 : w4.cell? ⟨vb, b, none⟩ = some (.int .i64 Vb) := by rw [hVb]; exact v2
        have HB4 : Hid (w4.drew.cell? ⟨K0.pa, 0, none⟩ = some (.int .i64 K0.op) ∧ hasU K0.op = true) := ⟨(Keeps.drew None w4).cell HL4.out.1.ar.b1 (fun f => f), HU.out.1⟩
        obtain ⟨V, hV⟩ : ∃ V, V = fV K0 (m.vs.getD a [] ++ m.vs.getD b []) := ⟨_, rfl⟩
        have HV : Hid (workV K0.op Va Vb = V) := by
          have hm1 : a ∈ pre ++ m.row := List.mem_append_right _ (by rw [HJ.out.2.1]; simp)
          have hm2 : b ∈ pre ++ m.row := List.mem_append_right _ (by rw [HJ.out.2.1]; simp)
          rw [hVa, hVb, hV]
          exact fV_join K0 HU.out.1 _ _ (LineOk.fits HM.out.2.1 HU.out.2 hm1) (LineOk.fits HM.out.2.1 HU.out.2 hm2)
        have hd4 := HL4.out.1.more (Keeps.drew None w4)
        have hP5 := hd4.putView (v := a) (m.vs.getD a [] ++ m.vs.getD b []) hva
        rw [← hV] at hP5
        have HF : Hid (PM (w4.drew.setCell ⟨vb, a, none⟩ (.int .i64 V)) base pb st X2 K0 R (upd R tk.length (.slice (some ⟨g, 0, none⟩) m.row.length rc)) (psOf s tk sp { m with pk := m.pk.tail, vs := m.vs.set a (m.vs.getD a [] ++ m.vs.getD b []) }) ∧ Keeps (fun i => base ≤ i) w (w4.drew.setCell ⟨vb, a, none⟩ (.int .i64 V))) := ⟨hP5, (HL4.out.2.2.1.andDrew).andSet (x := ⟨vb, a, none⟩) (.inl hvl) _⟩
        have t6 : (w4.drew.setCell ⟨vb, a, none⟩ (.int .i64 V)).cell? ⟨pb, 6, none⟩ = some (.slice (some ⟨vb, 0, none⟩) m.vs.length X2.vc) := by
          have := hP5.c0.2.2.2.2.2.2.1
          rw [hva] at this
          rw [this]
          show some (Value.slice _ (m.vs.set a _).length _) = _
          rw [List.length_set]
        have t2 := hP5.c0.2.2.1
        have y3 : (w4.drew.setCell ⟨vb, a, none⟩ (.int .i64 V)).cell? ⟨vb, b, none⟩ = some (.int .i64 Vb) := by
          have h := hP5.viewAt2 (a := b) (by show b < (m.vs.set a _).length; rw [List.length_set]; exact s3) hva
          rw [h]
          show some (Value.int .i64 (fV K0 ((m.vs.set a _).getD b []))) = _
          rw [hVb, List.getD_eq_getElem?_getD, List.getElem?_set_ne (by omega), ← List.getD_eq_getElem?_getD]
        clear v1 v2 hd4 hP5 hva hlv s1 s2 s3 s4 HM HP HL HJ HPK hvc hVa hVb hV hf hvl
        refine wp_region_held_drew (S := (fun w' => w'.cell? ⟨pb, 6, none⟩ = some (.slice (some ⟨vb, 0, none⟩) m.vs.length X2.vc) ∧ w'.cell? ⟨pb, 2, none⟩ = some (.func (.func 49) #[] #[.pointer (some ⟨K0.pa, 0, none⟩)]) ∧ w'.cell? ⟨vb, b, none⟩ = some (.int .i64 Vb))) (by kernel_rfl) ?_ (fun hHeld => ?_)
        · (try dsimp only); first | exact ⟨q6, q2, u2⟩ | exact ⟨t6, t2, y3⟩
        refine wpAnyH_take (i := 0) (oi := { dst := some 31, op := Op.move (Operand.tmp 0), type := 77, pos := "play.go:92", after := #[], guard := none }) (v := ?_) rfl (by kernel_rfl) (by kernel_rfl) (by kernel_rfl) (fun _ _ _ h => h) (Or.inl ⟨by rfl, ?_⟩) (by assumption) ?_
        rotate_left
        · (intro wz hSw; (try dsimp only at hSw); go_simp; try with_reducible rfl)
        simp only [Act.put, List.setIfInBounds_toArray, List.set_cons_zero, List.set_cons_succ]
        refine wpAnyH_take (i := 1) (oi := { dst := some 32, op := Op.nilCheck (Operand.tmp 31), type := 0, pos := "play.go:92", after := #[{ on := 0, ground := Ground.data }], guard := none }) (v := ?_) rfl (by kernel_rfl) (by kernel_rfl) (by kernel_rfl) (fun _ _ _ h => h) (Or.inl ⟨by rfl, ?_⟩) (by assumption) ?_
        rotate_left
        · (intro wz hSw; (try dsimp only at hSw); go_simp; try with_reducible rfl)
        simp only [Act.put, List.setIfInBounds_toArray, List.set_cons_zero, List.set_cons_succ]
        refine wpAnyH_take (i := 2) (oi := { dst := some 33, op := Op.fieldAddr 76 (Operand.tmp 32) 3, type := 0, pos := "play.go:92", after := #[{ on := 1, ground := Ground.data }], guard := none }) (v := ?_) rfl (by kernel_rfl) (by kernel_rfl) (by kernel_rfl) (fun _ _ _ h => h) (Or.inl ⟨by rfl, ?_⟩) (by assumption) ?_
        rotate_left
        · (intro wz hSw; (try dsimp only at hSw); go_simp; try with_reducible rfl)
        simp only [Act.put, List.setIfInBounds_toArray, List.set_cons_zero, List.set_cons_succ]
        refine wpAnyH_take (i := 3) (oi := { dst := some 34, op := Op.load 28 (Operand.tmp 33), type := 28, pos := "play.go:92", after := #[{ on := 2, ground := Ground.data }], guard := none }) (v := ?_) rfl (by kernel_rfl) (by kernel_rfl) (by kernel_rfl) (fun _ _ _ h => h) (Or.inl ⟨by rfl, ?_⟩) (by assumption) ?_
        rotate_left
        · (intro wz hSw; (try dsimp only at hSw); go_simp; try with_reducible rfl)
        simp only [Act.put, List.setIfInBounds_toArray, List.set_cons_zero, List.set_cons_succ]
        refine wpAnyH_take (i := 4) (oi := { dst := some 35, op := Op.move (Operand.tmp 6), type := 3, pos := "play.go:92", after := #[], guard := none }) (v := ?_) rfl (by kernel_rfl) (by kernel_rfl) (by kernel_rfl) (fun _ _ _ h => h) (Or.inl ⟨by rfl, ?_⟩) (by assumption) ?_
        rotate_left
        · (intro wz hSw; (try dsimp only at hSw); go_simp; try with_reducible rfl)
        simp only [Act.put, List.setIfInBounds_toArray, List.set_cons_zero, List.set_cons_succ]
        refine wpAnyH_take (i := 5) (oi := { dst := some 36, op := Op.move (Operand.tmp 0), type := 77, pos := "play.go:92", after := #[], guard := none }) (v := ?_) rfl (by kernel_rfl) (by kernel_rfl) (by kernel_rfl) (fun _ _ _ h => h) (Or.inl ⟨by rfl, ?_⟩) (by assumption) ?_
        rotate_left
        · (intro wz hSw; (try dsimp only at hSw); go_simp; try with_reducible rfl)
        simp only [Act.put, List.setIfInBounds_toArray, List.set_cons_zero, List.set_cons_succ]
        refine wpAnyH_take (i := 6) (oi := { dst := some 37, op := Op.nilCheck (Operand.tmp 36), type := 0, pos := "play.go:92", after := #[{ on := 5, ground := Ground.data }], guard := none }) (v := ?_) rfl (by kernel_rfl) (by kernel_rfl) (by kernel_rfl) (fun _ _ _ h => h) (Or.inl ⟨by rfl, ?_⟩) (by assumption) ?_
        rotate_left
        · (intro wz hSw; (try dsimp only at hSw); go_simp; try with_reducible rfl)
        simp only [Act.put, List.setIfInBounds_toArray, List.set_cons_zero, List.set_cons_succ]
        refine wpAnyH_take (i := 7) (oi := { dst := some 38, op := Op.fieldAddr 76 (Operand.tmp 37) 0, type := 0, pos := "play.go:92", after := #[{ on := 6, ground := Ground.data }], guard := none }) (v := ?_) rfl (by kernel_rfl) (by kernel_rfl) (by kernel_rfl) (fun _ _ _ h => h) (Or.inl ⟨by rfl, ?_⟩) (by assumption) ?_
        rotate_left
        · (intro wz hSw; (try dsimp only at hSw); go_simp; try with_reducible rfl)
        simp only [Act.put, List.setIfInBounds_toArray, List.set_cons_zero, List.set_cons_succ]
        refine wpAnyH_take (i := 8) (oi := { dst := some 39, op := Op.fieldAddr 74 (Operand.tmp 38) 2, type := 0, pos := "play.go:92", after := #[{ on := 7, ground := Ground.data }], guard := none }) (v := ?_) rfl (by kernel_rfl) (by kernel_rfl) (by kernel_rfl) (fun _ _ _ h => h) (Or.inl ⟨by rfl, ?_⟩) (by assumption) ?_
        rotate_left
        · (intro wz hSw; (try dsimp only at hSw); go_simp; try with_reducible rfl)
        simp only [Act.put, List.setIfInBounds_toArray, List.set_cons_zero, List.set_cons_succ]
        refine wpAnyH_take (i := 9) (oi := { dst := some 40, op := Op.load 71 (Operand.tmp 39), type := 71, pos := "play.go:92", after := #[{ on := 8, ground := Ground.data }], guard := none }) (v := ?_) rfl (by kernel_rfl) (by kernel_rfl) (by kernel_rfl) (fun _ _ _ h => h) (Or.inl ⟨by rfl, ?_⟩) (by assumption) ?_
        rotate_left
        · (intro wz hSw; (try dsimp only at hSw); go_simp; try with_reducible rfl)
        simp only [Act.put, List.setIfInBounds_toArray, List.set_cons_zero, List.set_cons_succ]
        refine wpAnyH_take (i := 10) (oi := { dst := some 41, op := Op.move (Operand.tmp 0), type := 77, pos := "play.go:92", after := #[], guard := none }) (v := ?_) rfl (by kernel_rfl) (by kernel_rfl) (by kernel_rfl) (fun _ _ _ h => h) (Or.inl ⟨by rfl, ?_⟩) (by assumption) ?_
        rotate_left
        · (intro wz hSw; (try dsimp only at hSw); go_simp; try with_reducible rfl)
        simp only [Act.put, List.setIfInBounds_toArray, List.set_cons_zero, List.set_cons_succ]
        refine wpAnyH_take (i := 11) (oi := { dst := some 42, op := Op.nilCheck (Operand.tmp 41), type := 0, pos := "play.go:92", after := #[{ on := 10, ground := Ground.data }], guard := none }) (v := ?_) rfl (by kernel_rfl) (by kernel_rfl) (by kernel_rfl) (fun _ _ _ h => h) (Or.inl ⟨by rfl, ?_⟩) (by assumption) ?_
        rotate_left
        · (intro wz hSw; (try dsimp only at hSw); go_simp; try with_reducible rfl)
        simp only [Act.put, List.setIfInBounds_toArray, List.set_cons_zero, List.set_cons_succ]
        refine wpAnyH_take (i := 12) (oi := { dst := some 43, op := Op.fieldAddr 76 (Operand.tmp 42) 3, type := 0, pos := "play.go:92", after := #[{ on := 11, ground := Ground.data }], guard := none }) (v := ?_) rfl (by kernel_rfl) (by kernel_rfl) (by kernel_rfl) (fun _ _ _ h => h) (Or.inl ⟨by rfl, ?_⟩) (by assumption) ?_
        rotate_left
        · (intro wz hSw; (try dsimp only at hSw); go_simp; try with_reducible rfl)
        simp only [Act.put, List.setIfInBounds_toArray, List.set_cons_zero, List.set_cons_succ]
        refine wpAnyH_take (i := 13) (oi := { dst := some 44, op := Op.load 28 (Operand.tmp 43), type := 28, pos := "play.go:92", after := #[{ on := 12, ground := Ground.data }], guard := none }) (v := ?_) rfl (by kernel_rfl) (by kernel_rfl) (by kernel_rfl) (fun _ _ _ h => h) (Or.inl ⟨by rfl, ?_⟩) (by assumption) ?_
        rotate_left
        · (intro wz hSw; (try dsimp only at hSw); go_simp; try with_reducible rfl)
        simp only [Act.put, List.setIfInBounds_toArray, List.set_cons_zero, List.set_cons_succ]
        refine wpAnyH_take (i := 14) (oi := { dst := some 45, op := Op.move (Operand.tmp 6), type := 3, pos := "play.go:92", after := #[], guard := none }) (v := ?_) rfl (by kernel_rfl) (by kernel_rfl) (by kernel_rfl) (fun _ _ _ h => h) (Or.inl ⟨by rfl, ?_⟩) (by assumption) ?_
        rotate_left
        · (intro wz hSw; (try dsimp only at hSw); go_simp; try with_reducible rfl)
        simp only [Act.put, List.setIfInBounds_toArray, List.set_cons_zero, List.set_cons_succ]
        refine wpAnyH_take (i := 15) (oi := _) (v := ?_) rfl (by kernel_rfl) (by kernel_rfl) (by kernel_rfl) (fun _ _ _ h => h) (Or.inl ⟨by rfl, ?_⟩) (by assumption) ?_
        rotate_left
        · (intro wz hSw; (try dsimp only at hSw); go_simp; try with_reducible rfl)
        simp only [Act.put, List.setIfInBounds_toArray, List.set_cons_zero, List.set_cons_succ]
        refine wpAnyH_take (i := 17) (oi := { dst := some 48, op := Op.move (Operand.tmp 0), type := 77, pos := "play.go:92", after := #[], guard := none }) (v := ?_) rfl (by kernel_rfl) (by kernel_rfl) (by kernel_rfl) (fun _ _ _ h => h) (Or.inl ⟨by rfl, ?_⟩) (by assumption) ?_
        rotate_left
        · (intro wz hSw; (try dsimp only at hSw); go_simp; try with_reducible rfl)
        simp only [Act.put, List.setIfInBounds_toArray, List.set_cons_zero, List.set_cons_succ]
        refine wpAnyH_take (i := 18) (oi := { dst := some 49, op := Op.nilCheck (Operand.tmp 48), type := 0, pos := "play.go:92", after := #[{ on := 17, ground := Ground.data }], guard := none }) (v := ?_) rfl (by kernel_rfl) (by kernel_rfl) (by kernel_rfl) (fun _ _ _ h => h) (Or.inl ⟨by rfl, ?_⟩) (by assumption) ?_
        rotate_left
        · (intro wz hSw; (try dsimp only at hSw); go_simp; try with_reducible rfl)
        simp only [Act.put, List.setIfInBounds_toArray, List.set_cons_zero, List.set_cons_succ]
        refine wpAnyH_take (i := 19) (oi := { dst := some 50, op := Op.fieldAddr 76 (Operand.tmp 49) 3, type := 0, pos := "play.go:92", after := #[{ on := 18, ground := Ground.data }], guard := none }) (v := ?_) rfl (by kernel_rfl) (by kernel_rfl) (by kernel_rfl) (fun _ _ _ h => h) (Or.inl ⟨by rfl, ?_⟩) (by assumption) ?_
        rotate_left
        · (intro wz hSw; (try dsimp only at hSw); go_simp; try with_reducible rfl)
        simp only [Act.put, List.setIfInBounds_toArray, List.set_cons_zero, List.set_cons_succ]
        refine wpAnyH_take (i := 20) (oi := { dst := some 51, op := Op.load 28 (Operand.tmp 50), type := 28, pos := "play.go:92", after := #[{ on := 19, ground := Ground.data }], guard := none }) (v := ?_) rfl (by kernel_rfl) (by kernel_rfl) (by kernel_rfl) (fun _ _ _ h => h) (Or.inl ⟨by rfl, ?_⟩) (by assumption) ?_
        rotate_left
        · (intro wz hSw; (try dsimp only at hSw); go_simp; try with_reducible rfl)
        simp only [Act.put, List.setIfInBounds_toArray, List.set_cons_zero, List.set_cons_succ]
        refine wpAnyH_take (i := 21) (oi := { dst := some 52, op := Op.move (Operand.tmp 7), type := 3, pos := "play.go:92", after := #[], guard := none }) (v := ?_) rfl (by kernel_rfl) (by kernel_rfl) (by kernel_rfl) (fun _ _ _ h => h) (Or.inl ⟨by rfl, ?_⟩) (by assumption) ?_
        rotate_left
        · (intro wz hSw; (try dsimp only at hSw); go_simp; try with_reducible rfl)
        simp only [Act.put, List.setIfInBounds_toArray, List.set_cons_zero, List.set_cons_succ]
        refine wpAnyH_take (i := 22) (oi := _) (v := ?_) rfl (by kernel_rfl) (by kernel_rfl) (by kernel_rfl) (fun _ _ _ h => h) (Or.inl ⟨by rfl, ?_⟩) (by assumption) ?_
        rotate_left
        · (intro wz hSw; (try dsimp only at hSw); go_simp; try with_reducible rfl)
        simp only [Act.put, List.setIfInBounds_toArray, List.set_cons_zero, List.set_cons_succ]
        refine wpAnyH_take (i := 23) (oi := { dst := some 54, op := Op.load 2 (Operand.tmp 53), type := 2, pos := "play.go:92", after := #[{ on := 22, ground := Ground.data }], guard := none }) (v := ?_) rfl (by kernel_rfl) (by kernel_rfl) (by kernel_rfl) (fun _ _ _ h => h) (Or.inl ⟨by rfl, ?_⟩) (by assumption) ?_
        rotate_left
        · (intro wz hSw; (try dsimp only at hSw); go_simp; try with_reducible rfl)
        simp only [Act.put, List.setIfInBounds_toArray, List.set_cons_zero, List.set_cons_succ]
        refine wpAnyH_ready (rs := [16]) (by kernel_rfl) (by simp) ?_
        refine AllReadyH.cons (o := { dst := some 47, op := Op.load 2 (Operand.tmp 46), type := 2, pos := "play.go:92", after := #[{ on := 15, ground := Ground.data }], guard := none }) rfl (fun K hK => ?_) ?_
        · go_simp
          refine hK.out _ _ ?_ (fun hHeld2 => ?_)
          · (try dsimp only); first | exact ⟨q6, q2, u2⟩ | exact ⟨t6, t2, y3⟩
          clear hK K
          try simp only [Act.put, List.setIfInBounds_toArray, List.set_cons_zero, List.set_cons_succ]
          refine wpAnyH_ready (rs := [24]) (by kernel_rfl) (by simp) ?_
          refine AllReadyH.cons (o := _) rfl (fun K hK => ?_) ?_
          · go_simp
            refine (app_ok _ _ _ _ _ HB4.out.1 HB4.out.2).mono ?_
            rintro _ _ ⟨rfl, rfl⟩
            rw [HV.out]
            refine hK.out _ _ ?_ (fun hHeld2 => ?_)
            · (try dsimp only); first | exact ⟨q6, q2, u2⟩ | exact ⟨t6, t2, y3⟩
            clear hK K
            try simp only [Act.put, List.setIfInBounds_toArray, List.set_cons_zero, List.set_cons_succ]
            refine wpAnyH_take (i := 25) (oi := _) (v := ?_) rfl (by kernel_rfl) (by kernel_rfl) (by kernel_rfl) (fun _ _ _ h => h) (Or.inl ⟨by rfl, ?_⟩) (by assumption) ?_
            rotate_left
            · (intro wz hSw; (try dsimp only at hSw); go_simp; try with_reducible rfl)
            simp only [Act.put, List.setIfInBounds_toArray, List.set_cons_zero, List.set_cons_succ]
            refine wpAnyH_ready (rs := [26]) (by kernel_rfl) (by simp) ?_
            refine AllReadyH.cons (o := _) rfl (fun K hK => ?_) ?_
            · go_simp
              refine hK.out _ _ ?_ (fun hHeld2 => ?_)
              · (try dsimp only); first | exact ⟨q6, q2, u2⟩ | exact ⟨t6, t2, y3⟩
              clear hK K
              try simp only [Act.put, List.setIfInBounds_toArray, List.set_cons_zero, List.set_cons_succ]
              refine wpAnyH_done (by kernel_rfl) ?_ _
              go_wp2_with fail
              go_meet
              exact ⟨X2, HF.out.1, HL4.out.2.1, HF.out.2⟩
            exact AllReadyH.nil
          exact AllReadyH.nil
        exact AllReadyH.nil
      case rest =>
        obtain ⟨X3, hM3, hta3, hkc⟩ := hcut
        have hd := hM3.more (Keeps.alloc None wc (.cells #[.int .i64 at0, .int .i64 a, .int .i64 b] 96))
        have hsz : base ≤ wc.heap.size := Nat.le_trans HL.out.2.2.2.2.1 hkc.size
        obtain ⟨gm, cp, w6, hr, ho, hk6⟩ := merge_more base (.slice X3.ma m.mg.length X3.mc) m.mg (at0, a, b) 29 wc.heap.size (wc.alloc (.cells #[.int .i64 at0, .int .i64 a, .int .i64 b] 96)) hd.mg (by simp; omega) (by have := HM.out.2.2.2.2.2; omega) (blk_new _ _ _ rfl)
        have hP6 := hd.newMerge (x := (at0, a, b)) ho hk6
        have hb6 := blk_other hd.blk hk6 (onlyT_own hd.mg) (by decide)
        have q9 : wc.cell? ⟨pb, 9, none⟩ = some (.slice X3.ma m.mg.length X3.mc) := hM3.c0.2.2.2.2.2.2.2.2.2.1
        have f9 : w6.frozen? ⟨pb, 9, none⟩ = false := blk_free hb6 9
        have q96 : w6.cell? ⟨pb, 9, none⟩ = some (.slice X3.ma m.mg.length X3.mc) := blk_cell hb6 9
        have HF6 : Hid (PM (w6.setCell ⟨pb, 9, none⟩ (.slice (some ⟨gm, 0, none⟩) (m.mg.length + 1) cp)) base pb st { X3 with ma := some ⟨gm, 0, none⟩, mc := cp } K0 R (upd R tk.length (.slice (some ⟨g, 0, none⟩) m.row.length rc)) (psOf s tk sp { m with pk := m.pk.tail, vs := m.vs.set a (m.vs.getD a [] ++ m.vs.getD b []), mg := m.mg ++ [(at0, a, b)] }) ∧ X3.ta = some ⟨tb, 0, none⟩ ∧ Keeps (fun i => base ≤ i) w (w6.setCell ⟨pb, 9, none⟩ (.slice (some ⟨gm, 0, none⟩) (m.mg.length + 1) cp))) :=
          ⟨hP6, hta3, ((hkc.andAlloc _).trans hk6 (fun i e _ => row_low hd.mg e)).andSet (x := ⟨pb, 9, none⟩) (.inl HM.out.1.low) _⟩
        have HSZ : Hid (base ≤ wc.heap.size) := hsz
        clear hd ho hk6 hP6 hb6 hM3 hta3 hkc hsz HL4
        go_upto_region 5 with fail
        go_wp2_with (at_builtin; refine wpList_append_run rfl (.tmp 61) (.tmp 66) 29 29 rfl rfl rfl hr ?_)
        obtain ⟨w7, hw7⟩ : ∃ w7, w7 = w6.setCell ⟨pb, 9, none⟩ (.slice (some ⟨gm, 0, none⟩) (m.mg.length + 1) cp) := ⟨_, rfl⟩
        rw [← hw7] at HF6 ⊢
        clear hw7 hr q9 q96 f9
        have hrow := HF6.out.1.curRow (tk := tk) (sp := sp) (r := m.row) rfl
        rw [upd_eq] at hrow
        refine (delete_two base g m.row.length rc (j + 1) m.row w7 ((j : Int) + 1) ((j : Int) + 2) hrow rfl hj (by omega) (by omega) (by omega)).mono ?_
        clear hrow
        rintro e w8 ⟨rfl, ho8, hk8⟩
        have hone : m.one listK at0 = ⟨m.vs.set a (m.vs.getD a [] ++ m.vs.getD b []), m.row.eraseIdx (j + 1), m.mg ++ [(at0, a, b)], m.pk.tail⟩ := by
          unfold MS.one MS.l MS.r
          rw [← HJ.out.1, HJ.out.2.2.1, HJ.out.2.2.2]
          rfl
        have hlr : (m.row.eraseIdx (j + 1)).length = m.row.length - 1 := by rw [List.length_eraseIdx, if_pos hj]
        have HE : Hid (∃ m' X' V, m0.all listK at0 = m'.all listK at0 ∧ Value.slice (some ⟨g, 0, none⟩) (m.row.length - 1) rc = V ∧ PM w8 base pb st X' K0 R (upd R tk.length V) (psOf s tk sp m') ∧ LineOk pre P m' ∧ 0 < m'.row.length ∧ m'.row.length ≤ 5000 ∧ m'.mg.length + m'.row.length ≤ 100000 ∧ X'.ta = some ⟨tb, 0, none⟩ ∧ Keeps (fun i => base ≤ i) w w8) := by
          refine ⟨m.one listK at0, { X3 with ma := some ⟨gm, 0, none⟩, mc := cp }, _, HM.out.2.2.1.trans (all_step listK at0 h1), rfl, ?_, HM.out.2.1.one at0 h1, by rw [hone]; show 0 < (m.row.eraseIdx (j + 1)).length; omega, by rw [hone]; show (m.row.eraseIdx (j + 1)).length ≤ 5000; omega, ?_, HF6.out.2.1, ?_⟩
          · have hq := HF6.out.1.putRow (tk := tk) (sp := sp) (r := m.row) (r' := m.row.eraseIdx (j + 1)) (V := .slice (some ⟨g, 0, none⟩) (m.row.length - 1) rc) (w1 := w8) rfl (by rw [hlr]; exact ho8) (by rw [upd_eq]; exact hk8.mono (fun i e _ => by subst e; rfl)) (fun b e => by rw [upd_eq]; exact .inl e)
            have hu : upd (upd R tk.length (.slice (some ⟨g, 0, none⟩) m.row.length rc)) tk.length (.slice (some ⟨g, 0, none⟩) (m.row.length - 1) rc) = upd R tk.length (.slice (some ⟨g, 0, none⟩) (m.row.length - 1) rc) := by
              funext i
              by_cases e : i = tk.length
              · subst e; rw [upd_eq, upd_eq]
              · rw [upd_ne e, upd_ne e, upd_ne e]
            rw [hu] at hq
            rw [hone]
            exact hq
          · rw [hone]
            show (m.mg ++ [(at0, a, b)]).length + (m.row.eraseIdx (j + 1)).length ≤ 100000
            have := HM.out.2.2.2.2.2
            simp only [List.length_append, List.length_singleton]
            omega
          · have hrow := HF6.out.1.curRow (tk := tk) (sp := sp) (r := m.row) rfl
            rw [upd_eq] at hrow
            exact HF6.out.2.2.trans hk8 (fun i e _ => by subst e; exact row_low hrow rfl)
        clear ho8 hk8 hone hlr
        go_wp2_with fail
        exact ⟨HE.out, by simp [sliceLen]; omega⟩
    · have hi1 : ¬ (1 : Int) < (m.row.length : Int) := by omega
      have hl1 : m.row.length = 1 := by omega
      have HE : Hid (m0.all listK at0 = m) := hall.trans (all_one listK at0 hl1)
      clear hM hline hall hta hk hrow hmg hl1
      go_wp2_with fail
      refine (current_ok base pb st X1 K0 R _ (psOf s tk sp m) wr tb tk (sp, m.row) HM.out.1 rfl HM.out.2.2.2.1 (by omega)).mono ?_
      rintro e w2 ⟨rfl, hk2⟩
      obtain ⟨tb2, hta2, -, -, -, -, t2, hf2⟩ := (HM.out.1.more hk2).cur rfl
      have e2 := hta2.symm.trans HM.out.2.2.2.1
      injection e2 with e2
      injection e2 with e2
      subst e2
      have f2 := hf2 (tk.length * 2 + 1)
      have HF : Hid ((∃ X' R', PM (w2.setCell ⟨tb2, tk.length * 2 + 1, none⟩ (.slice ra m.row.length rc)) base pb st X' K0 R' R' (psOf s tk sp (m0.all listK at0))) ∧ Keeps (fun i => base ≤ i) w (w2.setCell ⟨tb2, tk.length * 2 + 1, none⟩ (.slice ra m.row.length rc))) := by
        have hq := (HM.out.1.more hk2).setHead (i := tk.length) (V := .slice ra m.row.length rc) hta2
        rw [HE.out]
        refine ⟨⟨X1, _, hq⟩, (keeps_tr HM.out.2.2.2.2.1 hk2).andSet (x := ⟨tb2, _, none⟩) (.inl ?_) _⟩
        exact row_low (HM.out.1.more hk2).tk.tks (by rw [hta2]; rfl)
      clear hk2 hta2 hf2
      go_wp2
      go_end0
      exact ⟨rfl, HF.out⟩
end Go.Proofs.Ytdiabpoafennlab.Nm
/-! A deed: a return, of a player of numbers. -/
namespace Go.Proofs.Ytdiabpoafennlab.Nm
set_option linter.unusedVariables false
set_option maxRecDepth 20000
set_option linter.unusedSimpArgs false
open Go.RowKit Go.HeapKit Go.PlainOps

theorem PM.sizeLe {w : World} {base pb : Nat} {st : List Bool} {X : PX} {K : NP} {H R : Nat → Value} {s : PS} (h : PM w base pb st X K H R s) : base ≤ w.heap.size := Nat.le_trans h.low (Nat.le_of_lt (blk_lt h.blk))
theorem PM.sizeLe3 {w : World} {base pb : Nat} {st : List Bool} {X : PX} {K : NP} {H R : Nat → Value} {s : PS} (h : PM w base pb st X K H R s) : base ≤ w.heap.size := h.sizeLe
theorem PM.sizeLe2 {w : World} {base pb : Nat} {st : List Bool} {X : PX} {K : NP} {H R : Nat → Value} {s : PS} (h : PM w base pb st X K H R s) : base ≤ w.heap.size := h.sizeLe
/-- The parent's row gets one more view. -/
theorem row_told {w w4 : World} {base pb : Nat} {st : List Bool} {X : PX} {K : NP} {R : Nat → Value} {s : PS} {tk : List (Nat × List Nat)} {sp : Nat} {r : List Nat} {g cap v tb : Nat} (h : PM w base pb st X K R R s) (hx : s.tk = tk ++ [(sp, r)]) (hta : X.ta = some ⟨tb, 0, none⟩) (ho : w4.ownsRow base 3 1 (.slice (some ⟨g, 0, none⟩) (r.length + 1) cap) (r ++ [v]).length (nv (r ++ [v]))) (hk : Keeps (fun k => (R tk.length).ownBlock = some k) w w4) (hm : (R tk.length).ownBlock = some g ∨ w.heap.size ≤ g) :
    w4.frozen? ⟨tb, tk.length * 2 + 1, none⟩ = false ∧ w4.cell? ⟨tb, tk.length * 2 + 1, none⟩ = some (R tk.length) ∧ (∃ R', PM (w4.setCell ⟨tb, tk.length * 2 + 1, none⟩ (.slice (some ⟨g, 0, none⟩) (r.length + 1) cap)) base pb st X K R' R' { s with tk := tk ++ [(sp, r ++ [v])] }) ∧ Keeps (fun i => base ≤ i) w (w4.setCell ⟨tb, tk.length * 2 + 1, none⟩ (.slice (some ⟨g, 0, none⟩) (r.length + 1) cap)) := by
  have h1 := h.putRow (r' := r ++ [v]) (V := .slice (some ⟨g, 0, none⟩) (r.length + 1) cap) hx ho hk (fun b e => by
    simp [Value.ownBlock] at e
    subst e
    exact hm)
  obtain ⟨tb2, e2, hlo, -, -, -, c1, hf⟩ := h1.cur (tk := tk) (x := (sp, r ++ [v])) rfl
  have e3 : some (⟨tb, 0, none⟩ : Addr) = some ⟨tb2, 0, none⟩ := hta.symm.trans e2
  injection e3 with e3
  injection e3 with e3
  subst e3
  exact ⟨hf _, c1, ⟨_, h1.setHead hta⟩, ((hk.mono (T := fun i => base ≤ i) (fun i e _ => row_low (h.curRow hx) e)).andSet (x := ⟨tb, _, none⟩) (.inl hlo) _)⟩
set_option maxHeartbeats 3200000 in
theorem do_return (base pb at0 : Nat) (st : List Bool) (X : PX) (K0 : NP) (R : Nat → Value) (s : PS) (w : World) (tk : List (Nat × List Nat)) (psp : Nat) (pr : List Nat) (sp : Nat) (m0 : MS (List Int)) (pre : List Nat) (P : List Int) (loc : Int) (h : PM w base pb st X K0 R R (psOf s (tk ++ [(psp, pr)]) sp m0)) (hline : LineOk pre P m0) (hP : P.length ≤ 4096) (h0 : 0 < m0.row.length) (hr : m0.row.length ≤ 5000) (hn : tk.length ≤ 4500) (hmg : m0.mg.length + m0.row.length ≤ 100000) (hpr : pr.length ≤ 5000) (hvs : m0.vs.length ≤ 5000) (hsp : sp ≤ 100000) (hst : st.length ≤ 5000) (M : MS (List Int)) (hM : m0.all listK at0 = M) (hu : hasU K0.op = true) (hf : Fits P) :
    Calls Try.prog 46 #[.pointer (some ⟨pb, 0, none⟩), .int .i64 at0, .agg #[.int .i64 1, .int .i64 loc]] w fun e w' => e = .returned (.tuple #[]) ∧ (∃ X' R', PM w' base pb st X' K0 R' R' (retPS s tk psp pr sp st M)) ∧ Keeps (fun i => base ≤ i) w w' := by
  have hvl : M.vs.length = m0.vs.length := by
    rw [← hM]
    have : ∀ (f : Nat) (s : MS (List Int)), (MS.go listK at0 f s).vs.length = s.vs.length := by
      intro f
      induction f with
      | zero => intro s; rfl
      | succ f ih => intro s; rw [MS.go, ih]; simp [MS.one]
    exact this _ m0
  have HP : Hid (PM w base pb st X K0 R R (psOf s (tk ++ [(psp, pr)]) sp m0) ∧ LineOk pre P m0 ∧ m0.all listK at0 = M ∧ M.vs.length ≤ 5000) := ⟨h, hline, hM, by omega⟩
  clear h hline hM hvl
  have hb0 := blk_new w (.cells #[.int .i64 1, .int .i64 loc] 44) w.heap.size rfl
  have hkb := (Keeps.alloc None w (.cells #[.int .i64 1, .int .i64 loc] 44))
  go_enter Try.func46, Try.ntmps46
  go_upto_region 1 with fail
  have HA : Hid (PM (w.alloc (.cells #[.int .i64 1, .int .i64 loc] 44)) base pb st X K0 R R (psOf s (tk ++ [(psp, pr)]) sp m0) ∧ Keeps None w (w.alloc (.cells #[.int .i64 1, .int .i64 loc] 44))) := ⟨HP.out.1.more hkb, hkb⟩
  have d0 : (w.alloc (.cells #[.int .i64 1, .int .i64 loc] 44)).cell? ⟨w.heap.size, 0, none⟩ = some (.int .i64 1) := blk_cell hb0 0
  clear hb0 hkb
  go_wp2_with fail
  refine (merge_ok base pb at0 st X K0 R s _ (tk ++ [(psp, pr)]) sp m0 pre P HA.out.1 HA.out.1.sizeLe3 HP.out.2.1 hP h0 hr (by simp; omega) hmg hu hf).mono ?_
  rintro e w1 ⟨rfl, ⟨X1, R1, hM1⟩, hk⟩
  rw [HP.out.2.2.1] at hM1
  have HF : Hid (PM w1 base pb st X1 K0 R1 R1 (psOf s (tk ++ [(psp, pr)]) sp M) ∧ Keeps (fun i => base ≤ i) w w1) := ⟨hM1, (HA.out.2.mono (T := fun i => base ≤ i) (fun _ f _ => f.elim)).trans hk (fun i e _ => e)⟩
  clear hM1 hk HA
  go_wp2_with fail
  refine (end_ok base pb st X1 K0 R1 R1 (psOf s (tk ++ [(psp, pr)]) sp M) w1 (tk ++ [(psp, pr)]) (sp, M.row) HF.out.1 rfl (by simp; omega)).mono ?_
  rintro e w2 ⟨rfl, hM2, hk2⟩
  have HG : Hid (PM w2 base pb st X1 K0 R1 R1 (psOf s tk psp { M with row := pr }) ∧ Keeps (fun i => base ≤ i) w w2) := ⟨hM2, HF.out.2.trans hk2 (fun i e _ => by have := HF.out.1.low; omega)⟩
  have q4 : w2.cell? ⟨pb, 4, none⟩ = some (.slice X1.sa st.length X1.sc) := HG.out.1.c0.2.2.2.2.1
  clear hM2 hk2 HF
  have hre : retPS s tk psp pr sp st M = if st.getD sp false = true then psOf s tk psp { M with vs := M.vs ++ [[]], row := pr ++ [M.vs.length] } else psOf s tk psp { M with row := pr } := rfl
  by_cases hlt : sp < st.length
  · obtain ⟨b, off, v, hsa, -, hv, hc⟩ := HG.out.1.ar.seenS.at hlt
    obtain ⟨x, hx, rfl⟩ : ∃ x, st[sp]? = some x ∧ v = .bool x := by
      rw [bv', List.getElem?_map] at hv
      cases hk : st[sp]? with
      | none => rw [hk] at hv; cases hv
      | some x => rw [hk] at hv; exact ⟨x, rfl, (Option.some.inj hv).symm⟩
    have hg : st.getD sp false = x := by rw [List.getD_eq_getElem?_getD, hx]; rfl
    rw [hg] at hre
    rw [hsa] at q4
    have hi1 : (sp : Int) < (st.length : Int) := by omega
    clear hsa hv hx hg
    cases x with
    | false =>
      have he' : retPS s tk psp pr sp st M = psOf s tk psp { M with row := pr } := by rw [hre]; simp
      have HE : Hid (retPS s tk psp pr sp st M = psOf s tk psp { M with row := pr }) := he'
      clear he'
      clear hre
      go_wp2
      go_end0
      exact ⟨rfl, ⟨_, _, by rw [HE.out]; exact HG.out.1⟩, HG.out.2⟩
    | true =>
      have he' : retPS s tk psp pr sp st M = psOf s tk psp { M with vs := M.vs ++ [[]], row := pr ++ [M.vs.length] } := by rw [hre]; simp
      have HE : Hid (retPS s tk psp pr sp st M = psOf s tk psp { M with vs := M.vs ++ [[]], row := pr ++ [M.vs.length] }) := he'
      clear he'
      clear hre
      obtain ⟨tb, hta, -, -, -, -, -, -⟩ := HG.out.1.cur (tk := tk) (x := (psp, pr)) rfl
      have HTA : Hid (X1.ta = some ⟨tb, 0, none⟩) := hta
      clear hta
      go_wp2_with fail
      refine (current_ok base pb st X1 K0 R1 R1 _ w2 tb tk (psp, pr) HG.out.1 rfl HTA.out (by omega)).mono ?_
      rintro e w3 ⟨rfl, hk3⟩
      have HM3 : Hid (PM w3 base pb st X1 K0 R1 R1 (psOf s tk psp { M with row := pr }) ∧ Keeps (fun i => base ≤ i) w w3) := ⟨HG.out.1.more hk3, keeps_tr HG.out.2 hk3⟩
      clear hk3 HG q4 hc
      go_upto_region 17 with fail
      obtain ⟨tb2, e2, -, -, -, -, t1, -⟩ := HM3.out.1.cur (tk := tk) (x := (psp, pr)) rfl
      have e3 := HTA.out.symm.trans e2
      injection e3 with e3
      injection e3 with e3
      subst e3
      have hrow := HM3.out.1.curRow (tk := tk) (sp := psp) (r := pr) rfl
      obtain ⟨ra, rc, hRv⟩ := row_shape hrow
      rw [hRv] at t1
      have HRV : Hid (R1 tk.length = .slice ra pr.length rc) := hRv
      clear e2 hrow hRv
      refine wp_region_held_drew (S := (fun _ => True)) (by kernel_rfl) ?_ (fun hHeld => ?_)
      · (try dsimp only); try trivial
      refine wpAnyH_take (i := 0) (oi := { dst := some 117, op := Op.move (Operand.tmp 8), type := 101, pos := "play.go:59", after := #[], guard := none }) (v := ?_) rfl (by kernel_rfl) (by kernel_rfl) (by kernel_rfl) (fun _ _ _ h => h) (Or.inl ⟨by rfl, ?_⟩) (by assumption) ?_
      rotate_left
      · (intro wz hSw; (try dsimp only at hSw); go_simp; try with_reducible rfl)
      simp only [Act.put, List.setIfInBounds_toArray, List.set_cons_zero, List.set_cons_succ]
      refine wpAnyH_take (i := 1) (oi := { dst := some 118, op := Op.move (Operand.tmp 8), type := 101, pos := "play.go:59", after := #[], guard := none }) (v := ?_) rfl (by kernel_rfl) (by kernel_rfl) (by kernel_rfl) (fun _ _ _ h => h) (Or.inl ⟨by rfl, ?_⟩) (by assumption) ?_
      rotate_left
      · (intro wz hSw; (try dsimp only at hSw); go_simp; try with_reducible rfl)
      simp only [Act.put, List.setIfInBounds_toArray, List.set_cons_zero, List.set_cons_succ]
      refine wpAnyH_take (i := 2) (oi := { dst := some 119, op := Op.nilCheck (Operand.tmp 118), type := 0, pos := "play.go:59", after := #[{ on := 1, ground := Ground.data }], guard := none }) (v := ?_) rfl (by kernel_rfl) (by kernel_rfl) (by kernel_rfl) (fun _ _ _ h => h) (Or.inl ⟨by rfl, ?_⟩) (by assumption) ?_
      rotate_left
      · (intro wz hSw; (try dsimp only at hSw); go_simp; try with_reducible rfl)
      simp only [Act.put, List.setIfInBounds_toArray, List.set_cons_zero, List.set_cons_succ]
      refine wpAnyH_take (i := 3) (oi := { dst := some 120, op := Op.fieldAddr 89 (Operand.tmp 119) 1, type := 0, pos := "play.go:59", after := #[{ on := 2, ground := Ground.data }], guard := none }) (v := ?_) rfl (by kernel_rfl) (by kernel_rfl) (by kernel_rfl) (fun _ _ _ h => h) (Or.inl ⟨by rfl, ?_⟩) (by assumption) ?_
      rotate_left
      · (intro wz hSw; (try dsimp only at hSw); go_simp; try with_reducible rfl)
      simp only [Act.put, List.setIfInBounds_toArray, List.set_cons_zero, List.set_cons_succ]
      refine wpAnyH_take (i := 5) (oi := { dst := some 122, op := Op.move (Operand.tmp 0), type := 77, pos := "play.go:59", after := #[], guard := none }) (v := ?_) rfl (by kernel_rfl) (by kernel_rfl) (by kernel_rfl) (fun _ _ _ h => h) (Or.inl ⟨by rfl, ?_⟩) (by assumption) ?_
      rotate_left
      · (intro wz hSw; (try dsimp only at hSw); go_simp; try with_reducible rfl)
      simp only [Act.put, List.setIfInBounds_toArray, List.set_cons_zero, List.set_cons_succ]
      refine wpAnyH_ready (rs := [4, 6]) (by kernel_rfl) (by simp) ?_
      refine AllReadyH.cons (o := { dst := some 121, op := Op.load 24 (Operand.tmp 120), type := 24, pos := "play.go:59", after := #[{ on := 3, ground := Ground.data }], guard := none }) rfl (fun K hK => ?_) ?_
      · go_simp
        refine hK.out _ _ ?_ (fun hHeld2 => ?_)
        · (try dsimp only); try trivial
        clear hK K
        try simp only [Act.put, List.setIfInBounds_toArray, List.set_cons_zero, List.set_cons_succ]
        refine wpAnyH_ready (rs := [6]) (by kernel_rfl) (by simp) ?_
        refine AllReadyH.cons (o := _) rfl (fun K hK => ?_) ?_
        · go_simp
          refine (newView_ok base pb st X1 K0 R1 R1 _ w3.drew (HM3.out.1.more (Keeps.drew None _)) ((HM3.out.1.more (Keeps.drew None _)).sizeLe3) (by have := HP.out.2.2.2; show M.vs.length ≤ 100000; omega)).mono ?_
          rintro _ w4 ⟨rfl, ⟨X4, hM4, hta4⟩, hk4⟩
          have HM4 : Hid (PM w4 base pb st X4 K0 R1 R1 (psOf s tk psp { M with vs := M.vs ++ [[]], row := pr }) ∧ X4.ta = some ⟨tb, 0, none⟩ ∧ Keeps (fun i => base ≤ i) w w4) := ⟨hM4, hta4.trans HTA.out, (HM3.out.2.andDrew).trans hk4 (fun i e _ => e)⟩
          clear hM4 hta4 hk4
          obtain ⟨tb3, e4, -, -, -, -, t4, -⟩ := HM4.out.1.cur (tk := tk) (x := (psp, pr)) rfl
          have e5 := HM4.out.2.1.symm.trans e4; injection e5 with e5; injection e5 with e5; subst e5
          have t4A := (Keeps.alloc None w4 (.cells #[.int .i64 M.vs.length] 3)).cell t4 (fun f => f)
          rw [HRV.out] at t4 t4A
          have hvl : (psOf s tk psp { M with row := pr }).vs.length = M.vs.length := rfl
          rw [hvl]
          refine hK.out _ _ ?_ (fun hHeld2 => ?_)
          · (try dsimp only); try trivial
          clear hK K
          try simp only [Act.put, List.setIfInBounds_toArray, List.set_cons_zero, List.set_cons_succ]
          refine wpAnyH_ready (rs := [7]) (by kernel_rfl) (by simp) ?_
          refine AllReadyH.cons (o := { dst := some 124, op := Op.buildSlice 24 1 #[(0, Operand.tmp 123)], type := 24, pos := "play.go:59", after := #[{ on := 6, ground := Ground.data }], guard := none }) rfl (fun K hK => ?_) ?_
          · go_simp
            refine hK.out _ _ ?_ (fun hHeld2 => ?_)
            · (try dsimp only); try trivial
            clear hK K
            try simp only [Act.put, List.setIfInBounds_toArray, List.set_cons_zero, List.set_cons_succ]
            refine wpAnyH_ready (rs := [8]) (by kernel_rfl) (by simp) ?_
            refine AllReadyH.cons (o := _) rfl (fun K hK => ?_) ?_
            · (have hdA := HM4.out.1.more (Keeps.alloc None w4 (.cells #[.int .i64 M.vs.length] 3)); have hr1 := hdA.curRow (tk := tk) (sp := psp) (r := pr) rfl; rw [HRV.out] at hr1; obtain ⟨g, cap, w5, hr5, ho5, hk5, hm5⟩ := row1_more base (.slice ra pr.length rc) pr M.vs.length 24 w4.heap.size _ hr1 hdA.sizeLe3 (by omega) (blk_new w4 _ _ rfl); refine step_append_run rfl (.tmp 121) (.tmp 124) 24 24 rfl (by first | rfl | simp [Act.eval]) (by first | rfl | simp [Act.eval]) hr5 ?_)
              obtain ⟨f5, c5, ⟨R5, hP5⟩, hk6⟩ := row_told hdA rfl HM4.out.2.1 ho5 (by rw [HRV.out]; exact hk5) (by rw [HRV.out]; exact hm5)
              have HF : Hid (PM (w5.setCell ⟨tb, tk.length * 2 + 1, none⟩ (.slice (some ⟨g, 0, none⟩) (pr.length + 1) cap)) base pb st X4 K0 R5 R5 (retPS s tk psp pr sp st M) ∧ Keeps (fun i => base ≤ i) w (w5.setCell ⟨tb, tk.length * 2 + 1, none⟩ (.slice (some ⟨g, 0, none⟩) (pr.length + 1) cap))) := ⟨by rw [HE.out]; exact hP5, (HM4.out.2.2.andAlloc _).trans hk6 (fun i e _ => e)⟩
              rw [HRV.out] at c5
              refine hK.out _ _ ?_ (fun hHeld2 => ?_)
              · (try dsimp only); try trivial
              clear hK K
              try simp only [Act.put, List.setIfInBounds_toArray, List.set_cons_zero, List.set_cons_succ]
              refine wpAnyH_take (i := 9) (oi := _) (v := ?_) rfl (by kernel_rfl) (by kernel_rfl) (by kernel_rfl) (fun _ _ _ h => h) (Or.inl ⟨by rfl, ?_⟩) (by assumption) ?_
              rotate_left
              · (intro wz hSw; (try dsimp only at hSw); go_simp; try with_reducible rfl)
              simp only [Act.put, List.setIfInBounds_toArray, List.set_cons_zero, List.set_cons_succ]
              refine wpAnyH_take (i := 10) (oi := _) (v := ?_) rfl (by kernel_rfl) (by kernel_rfl) (by kernel_rfl) (fun _ _ _ h => h) (Or.inl ⟨by rfl, ?_⟩) (by assumption) ?_
              rotate_left
              · (intro wz hSw; (try dsimp only at hSw); go_simp; try with_reducible rfl)
              simp only [Act.put, List.setIfInBounds_toArray, List.set_cons_zero, List.set_cons_succ]
              refine wpAnyH_ready (rs := [11]) (by kernel_rfl) (by simp) ?_
              refine AllReadyH.cons (o := _) rfl (fun K hK => ?_) ?_
              · go_simp
                refine hK.out _ _ ?_ (fun hHeld2 => ?_)
                · (try dsimp only); try trivial
                clear hK K
                try simp only [Act.put, List.setIfInBounds_toArray, List.set_cons_zero, List.set_cons_succ]
                refine wpAnyH_done (by kernel_rfl) ?_ _
                go_wp2_with fail
                go_end0
                exact ⟨rfl, ⟨_, _, HF.out.1⟩, HF.out.2⟩
              exact AllReadyH.nil
            exact AllReadyH.nil
          exact AllReadyH.nil
        exact AllReadyH.nil
      refine AllReadyH.cons (o := _) rfl (fun K hK => ?_) ?_
      · go_simp
        refine (newView_ok base pb st X1 K0 R1 R1 _ w3.drew (HM3.out.1.more (Keeps.drew None _)) ((HM3.out.1.more (Keeps.drew None _)).sizeLe3) (by have := HP.out.2.2.2; show M.vs.length ≤ 100000; omega)).mono ?_
        rintro _ w4 ⟨rfl, ⟨X4, hM4, hta4⟩, hk4⟩
        have HM4 : Hid (PM w4 base pb st X4 K0 R1 R1 (psOf s tk psp { M with vs := M.vs ++ [[]], row := pr }) ∧ X4.ta = some ⟨tb, 0, none⟩ ∧ Keeps (fun i => base ≤ i) w w4) := ⟨hM4, hta4.trans HTA.out, (HM3.out.2.andDrew).trans hk4 (fun i e _ => e)⟩
        clear hM4 hta4 hk4
        obtain ⟨tb3, e4, -, -, -, -, t4, -⟩ := HM4.out.1.cur (tk := tk) (x := (psp, pr)) rfl
        have e5 := HM4.out.2.1.symm.trans e4; injection e5 with e5; injection e5 with e5; subst e5
        have t4A := (Keeps.alloc None w4 (.cells #[.int .i64 M.vs.length] 3)).cell t4 (fun f => f)
        rw [HRV.out] at t4 t4A
        have hvl : (psOf s tk psp { M with row := pr }).vs.length = M.vs.length := rfl
        rw [hvl]
        refine hK.out _ _ ?_ (fun hHeld2 => ?_)
        · (try dsimp only); try trivial
        clear hK K
        try simp only [Act.put, List.setIfInBounds_toArray, List.set_cons_zero, List.set_cons_succ]
        refine wpAnyH_ready (rs := [4, 7]) (by kernel_rfl) (by simp) ?_
        refine AllReadyH.cons (o := { dst := some 121, op := Op.load 24 (Operand.tmp 120), type := 24, pos := "play.go:59", after := #[{ on := 3, ground := Ground.data }], guard := none }) rfl (fun K hK => ?_) ?_
        · go_simp
          refine hK.out _ _ ?_ (fun hHeld2 => ?_)
          · (try dsimp only); try trivial
          clear hK K
          try simp only [Act.put, List.setIfInBounds_toArray, List.set_cons_zero, List.set_cons_succ]
          refine wpAnyH_ready (rs := [7]) (by kernel_rfl) (by simp) ?_
          refine AllReadyH.cons (o := { dst := some 124, op := Op.buildSlice 24 1 #[(0, Operand.tmp 123)], type := 24, pos := "play.go:59", after := #[{ on := 6, ground := Ground.data }], guard := none }) rfl (fun K hK => ?_) ?_
          · go_simp
            refine hK.out _ _ ?_ (fun hHeld2 => ?_)
            · (try dsimp only); try trivial
            clear hK K
            try simp only [Act.put, List.setIfInBounds_toArray, List.set_cons_zero, List.set_cons_succ]
            refine wpAnyH_ready (rs := [8]) (by kernel_rfl) (by simp) ?_
            refine AllReadyH.cons (o := _) rfl (fun K hK => ?_) ?_
            · (have hdA := HM4.out.1.more (Keeps.alloc None w4 (.cells #[.int .i64 M.vs.length] 3)); have hr1 := hdA.curRow (tk := tk) (sp := psp) (r := pr) rfl; rw [HRV.out] at hr1; obtain ⟨g, cap, w5, hr5, ho5, hk5, hm5⟩ := row1_more base (.slice ra pr.length rc) pr M.vs.length 24 w4.heap.size _ hr1 hdA.sizeLe3 (by omega) (blk_new w4 _ _ rfl); refine step_append_run rfl (.tmp 121) (.tmp 124) 24 24 rfl (by first | rfl | simp [Act.eval]) (by first | rfl | simp [Act.eval]) hr5 ?_)
              obtain ⟨f5, c5, ⟨R5, hP5⟩, hk6⟩ := row_told hdA rfl HM4.out.2.1 ho5 (by rw [HRV.out]; exact hk5) (by rw [HRV.out]; exact hm5)
              have HF : Hid (PM (w5.setCell ⟨tb, tk.length * 2 + 1, none⟩ (.slice (some ⟨g, 0, none⟩) (pr.length + 1) cap)) base pb st X4 K0 R5 R5 (retPS s tk psp pr sp st M) ∧ Keeps (fun i => base ≤ i) w (w5.setCell ⟨tb, tk.length * 2 + 1, none⟩ (.slice (some ⟨g, 0, none⟩) (pr.length + 1) cap))) := ⟨by rw [HE.out]; exact hP5, (HM4.out.2.2.andAlloc _).trans hk6 (fun i e _ => e)⟩
              rw [HRV.out] at c5
              refine hK.out _ _ ?_ (fun hHeld2 => ?_)
              · (try dsimp only); try trivial
              clear hK K
              try simp only [Act.put, List.setIfInBounds_toArray, List.set_cons_zero, List.set_cons_succ]
              refine wpAnyH_take (i := 9) (oi := _) (v := ?_) rfl (by kernel_rfl) (by kernel_rfl) (by kernel_rfl) (fun _ _ _ h => h) (Or.inl ⟨by rfl, ?_⟩) (by assumption) ?_
              rotate_left
              · (intro wz hSw; (try dsimp only at hSw); go_simp; try with_reducible rfl)
              simp only [Act.put, List.setIfInBounds_toArray, List.set_cons_zero, List.set_cons_succ]
              refine wpAnyH_take (i := 10) (oi := _) (v := ?_) rfl (by kernel_rfl) (by kernel_rfl) (by kernel_rfl) (fun _ _ _ h => h) (Or.inl ⟨by rfl, ?_⟩) (by assumption) ?_
              rotate_left
              · (intro wz hSw; (try dsimp only at hSw); go_simp; try with_reducible rfl)
              simp only [Act.put, List.setIfInBounds_toArray, List.set_cons_zero, List.set_cons_succ]
              refine wpAnyH_ready (rs := [11]) (by kernel_rfl) (by simp) ?_
              refine AllReadyH.cons (o := _) rfl (fun K hK => ?_) ?_
              · go_simp
                refine hK.out _ _ ?_ (fun hHeld2 => ?_)
                · (try dsimp only); try trivial
                clear hK K
                try simp only [Act.put, List.setIfInBounds_toArray, List.set_cons_zero, List.set_cons_succ]
                refine wpAnyH_done (by kernel_rfl) ?_ _
                go_wp2_with fail
                go_end0
                exact ⟨rfl, ⟨_, _, HF.out.1⟩, HF.out.2⟩
              exact AllReadyH.nil
            exact AllReadyH.nil
          exact AllReadyH.nil
        refine AllReadyH.cons (o := { dst := some 124, op := Op.buildSlice 24 1 #[(0, Operand.tmp 123)], type := 24, pos := "play.go:59", after := #[{ on := 6, ground := Ground.data }], guard := none }) rfl (fun K hK => ?_) ?_
        · go_simp
          refine hK.out _ _ ?_ (fun hHeld2 => ?_)
          · (try dsimp only); try trivial
          clear hK K
          try simp only [Act.put, List.setIfInBounds_toArray, List.set_cons_zero, List.set_cons_succ]
          refine wpAnyH_ready (rs := [4]) (by kernel_rfl) (by simp) ?_
          refine AllReadyH.cons (o := { dst := some 121, op := Op.load 24 (Operand.tmp 120), type := 24, pos := "play.go:59", after := #[{ on := 3, ground := Ground.data }], guard := none }) rfl (fun K hK => ?_) ?_
          · go_simp
            refine hK.out _ _ ?_ (fun hHeld2 => ?_)
            · (try dsimp only); try trivial
            clear hK K
            try simp only [Act.put, List.setIfInBounds_toArray, List.set_cons_zero, List.set_cons_succ]
            refine wpAnyH_ready (rs := [8]) (by kernel_rfl) (by simp) ?_
            refine AllReadyH.cons (o := _) rfl (fun K hK => ?_) ?_
            · (have hdA := HM4.out.1.more (Keeps.alloc None w4 (.cells #[.int .i64 M.vs.length] 3)); have hr1 := hdA.curRow (tk := tk) (sp := psp) (r := pr) rfl; rw [HRV.out] at hr1; obtain ⟨g, cap, w5, hr5, ho5, hk5, hm5⟩ := row1_more base (.slice ra pr.length rc) pr M.vs.length 24 w4.heap.size _ hr1 hdA.sizeLe3 (by omega) (blk_new w4 _ _ rfl); refine step_append_run rfl (.tmp 121) (.tmp 124) 24 24 rfl (by first | rfl | simp [Act.eval]) (by first | rfl | simp [Act.eval]) hr5 ?_)
              obtain ⟨f5, c5, ⟨R5, hP5⟩, hk6⟩ := row_told hdA rfl HM4.out.2.1 ho5 (by rw [HRV.out]; exact hk5) (by rw [HRV.out]; exact hm5)
              have HF : Hid (PM (w5.setCell ⟨tb, tk.length * 2 + 1, none⟩ (.slice (some ⟨g, 0, none⟩) (pr.length + 1) cap)) base pb st X4 K0 R5 R5 (retPS s tk psp pr sp st M) ∧ Keeps (fun i => base ≤ i) w (w5.setCell ⟨tb, tk.length * 2 + 1, none⟩ (.slice (some ⟨g, 0, none⟩) (pr.length + 1) cap))) := ⟨by rw [HE.out]; exact hP5, (HM4.out.2.2.andAlloc _).trans hk6 (fun i e _ => e)⟩
              rw [HRV.out] at c5
              refine hK.out _ _ ?_ (fun hHeld2 => ?_)
              · (try dsimp only); try trivial
              clear hK K
              try simp only [Act.put, List.setIfInBounds_toArray, List.set_cons_zero, List.set_cons_succ]
              refine wpAnyH_take (i := 9) (oi := _) (v := ?_) rfl (by kernel_rfl) (by kernel_rfl) (by kernel_rfl) (fun _ _ _ h => h) (Or.inl ⟨by rfl, ?_⟩) (by assumption) ?_
              rotate_left
              · (intro wz hSw; (try dsimp only at hSw); go_simp; try with_reducible rfl)
              simp only [Act.put, List.setIfInBounds_toArray, List.set_cons_zero, List.set_cons_succ]
              refine wpAnyH_take (i := 10) (oi := _) (v := ?_) rfl (by kernel_rfl) (by kernel_rfl) (by kernel_rfl) (fun _ _ _ h => h) (Or.inl ⟨by rfl, ?_⟩) (by assumption) ?_
              rotate_left
              · (intro wz hSw; (try dsimp only at hSw); go_simp; try with_reducible rfl)
              simp only [Act.put, List.setIfInBounds_toArray, List.set_cons_zero, List.set_cons_succ]
              refine wpAnyH_ready (rs := [11]) (by kernel_rfl) (by simp) ?_
              refine AllReadyH.cons (o := _) rfl (fun K hK => ?_) ?_
              · go_simp
                refine hK.out _ _ ?_ (fun hHeld2 => ?_)
                · (try dsimp only); try trivial
                clear hK K
                try simp only [Act.put, List.setIfInBounds_toArray, List.set_cons_zero, List.set_cons_succ]
                refine wpAnyH_done (by kernel_rfl) ?_ _
                go_wp2_with fail
                go_end0
                exact ⟨rfl, ⟨_, _, HF.out.1⟩, HF.out.2⟩
              exact AllReadyH.nil
            exact AllReadyH.nil
          exact AllReadyH.nil
        exact AllReadyH.nil
      exact AllReadyH.nil
  · have hg : st.getD sp false = false := by rw [List.getD_eq_getElem?_getD, List.getElem?_eq_none (by omega)]; rfl
    rw [hg] at hre
    have he' : retPS s tk psp pr sp st M = psOf s tk psp { M with row := pr } := by rw [hre]; simp
    have HE : Hid (retPS s tk psp pr sp st M = psOf s tk psp { M with row := pr }) := he'
    clear he'
    have hi1 : ¬ (sp : Int) < (st.length : Int) := by omega
    clear hre hg
    go_wp2
    go_end0
    exact ⟨rfl, ⟨_, _, by rw [HE.out]; exact HG.out.1⟩, HG.out.2⟩
end Go.Proofs.Ytdiabpoafennlab.Nm
