import Derived.Test.YtdiabpoafennlabPkAD
import Derived.Deep.Cut
/-! The current task's row is merged. -/
namespace Go.Proofs.Ytdiabpoafennlab
set_option linter.unusedVariables false
set_option maxRecDepth 20000
set_option linter.unusedSimpArgs false
open Go.RowKit Go.HeapKit Go.PlainOps

theorem keeps_tr {S : Nat → Prop} {a b c : World} (h : Keeps S a b) (k : Keeps None b c) : Keeps S a c := h.trans k (fun _ f _ => f.elim)
def psOf (s : PS) (tk : List (Nat × List Nat)) (sp : Nat) (m : MS (List Int)) : PS := ⟨m.vs, tk ++ [(sp, m.row)], m.pk, s.spn, m.mg, s.lk⟩
theorem all_step {V : Type} (K : Kd V) (n : Nat) {m : MS V} (h : 1 < m.row.length) : m.all K n = (m.one K n).all K n := by
  have h1 := m.one_len K n h
  unfold MS.all
  rw [show m.row.length - 1 = ((m.one K n).row.length - 1) + 1 by omega]
  rfl
theorem all_one {V : Type} (K : Kd V) (n : Nat) {m : MS V} (h : m.row.length = 1) : m.all K n = m := by
  unfold MS.all
  rw [h]
  rfl
def sliceLen : Value → Nat
  | .slice _ n _ => n
  | _ => 0
theorem delete_two (base g n c i : Nat) (l : List Nat) (w : World) (x y : Int) (h : w.ownsRow base 3 1 (.slice (some ⟨g, 0, none⟩) n c) n (nv l)) (hl : l.length = n) (hi : i < n) (hsm : n ≤ 100000) (hx : x = i) (hy : y = (i : Int) + 1) :
    Calls Try.prog 59 #[.slice (some ⟨g, 0, none⟩) n c, .int .i64 x, .int .i64 y] w fun e w' => e = .returned (.slice (some ⟨g, 0, none⟩) (n - 1) c) ∧ w'.ownsRow base 3 1 (.slice (some ⟨g, 0, none⟩) (n - 1) c) (n - 1) (nv (l.eraseIdx i)) ∧ Keeps (· = g) w w' := by
  subst hx hy
  have e : nI (l.eraseIdx i) = (nI l).eraseIdx i := by
    unfold nI
    rw [List.eraseIdx_eq_take_drop_succ, List.eraseIdx_eq_take_drop_succ, List.map_append, List.map_take, List.map_drop]
  have := delete_any base g n c i (nI l) w h (by simp [nI, hl]) hi hsm
  unfold nv
  rw [e]
  exact this
theorem LineOk.two {pre : List Nat} {P : List Int} {m : MS (List Int)} (h : LineOk pre P m) {A B : List Nat} {a b : Nat} (e : m.row = A ++ a :: b :: B) : (m.vs.getD a []).length + (m.vs.getD b []).length ≤ P.length ∧ a < m.vs.length ∧ b < m.vs.length ∧ a < b := by
  refine ⟨?_, h.low a (by rw [e]; simp), h.low b (by rw [e]; simp), ?_⟩
  · rw [← h.cat, e, show pre ++ (A ++ a :: b :: B) = (pre ++ A) ++ a :: b :: B by simp, catL_app, catL_cons, catL_cons]
    simp only [List.length_append]
    omega
  · have h2 := h.asc
    unfold Asc at h2
    rw [e, show pre ++ (A ++ a :: b :: B) = (pre ++ A) ++ a :: b :: B by simp, List.pairwise_append] at h2
    exact (List.pairwise_cons.1 h2.2.1).1 b (by simp)
/-- The views' block, and what stands in it. -/
theorem PM.viewAt {w : World} {base pb : Nat} {st : List Bool} {X : PX} {K : Ky → Value} {H R : Nat → Value} {s : PS} (h : PM w base pb st X K H R s) {a : Nat} (ha : a < s.vs.length) : ∃ vb, X.va = some ⟨vb, 0, none⟩ ∧ s.vs.length ≤ X.vc ∧ w.cell? ⟨vb, a, none⟩ = some (K (.inl a)) ∧ ∀ i, w.frozen? ⟨vb, i, none⟩ = false := by
  obtain ⟨g, e, _, _, h3, h4, h5⟩ := own_cellS h.vw.views (k := a) (range_get _ ha)
  exact ⟨g, e, h3, h4, h5⟩
theorem PM.viewAt2 {w : World} {base pb : Nat} {st : List Bool} {X : PX} {K : Ky → Value} {H R : Nat → Value} {s : PS} (h : PM w base pb st X K H R s) {a vb : Nat} (ha : a < s.vs.length) (e : X.va = some ⟨vb, 0, none⟩) : w.cell? ⟨vb, a, none⟩ = some (K (.inl a)) := by
  obtain ⟨g, e2, _, h4, _⟩ := h.viewAt ha
  rw [e] at e2
  injection e2 with e2
  injection e2 with e2
  subst e2
  exact h4
set_option maxHeartbeats 3200000 in
theorem join_region (base pb : Nat) (st : List Bool) (X : PX) (K : Ky → Value) (H R : Nat → Value) (s : PS) (w : World) (a b : Nat) (l r : List Int) (h : PM w base pb st X K H R s) (hb : base ≤ w.heap.size) (ha : a < s.vs.length) (hbb : b < s.vs.length) (hab : a ≠ b) (hl : s.vs.getD a [] = l) (hr : s.vs.getD b [] = r) (hlen : l.length + r.length ≤ 1000000) :
    Calls Try.prog 35 #[K (.inl a), K (.inl b)] w fun e w' => ∃ x n c vb, e = .returned (.slice x n c) ∧ X.va = some ⟨vb, 0, none⟩ ∧ PM (w'.setCell ⟨vb, a, none⟩ (.slice x n c)) base pb st X (upd K (.inl a) (.slice x n c)) H R { s with vs := s.vs.set a (l ++ r) } ∧ w'.heap[pb]? = some (.cells (X.cells st s) 59 (0, 0)) ∧ w'.cell? ⟨vb, b, none⟩ = some (K (.inl b)) ∧ w'.cell? ⟨vb, a, none⟩ = some (K (.inl a)) ∧ w'.frozen? ⟨vb, a, none⟩ = false ∧ Keeps (fun i => base ≤ i) w (w'.setCell ⟨vb, a, none⟩ (.slice x n c)) ∧ (w'.setCell ⟨vb, a, none⟩ (.slice x n c)).cell? ⟨vb, b, none⟩ = some (K (.inl b)) := by
  have h1 := h.vw.rows (.inl a)
  have h2 := h.vw.rows (.inl b)
  simp only [Lf] at h1 h2
  rw [hl] at h1
  rw [hr] at h2
  refine (join_ok base _ _ l r w h1 h2 hb hlen).mono ?_
  rintro e w' ⟨V', rfl, -, ho, hk, hm⟩
  obtain ⟨x, c, rfl⟩ := row_shape ho
  obtain ⟨vb, hva, hvc, c1, hf⟩ := h.viewAt ha
  have c2 := h.viewAt2 hbb hva
  have hT := onlyT_own h1
  have hP := h.putView ha hva ho hk hm
  have hv2 := row_other h.vw.views hk hT (by decide)
  obtain ⟨g1, e1, hlo, -, -, d1, hf1⟩ := own_cellS hv2 (k := a) (range_get _ ha)
  obtain ⟨g2, e2, -, -, -, d2, -⟩ := own_cellS hv2 (k := b) (range_get _ hbb)
  rw [hva] at e1 e2
  injection e1 with e1
  injection e1 with e1
  injection e2 with e2
  injection e2 with e2
  subst e1
  subst e2
  refine ⟨x, _, c, vb, rfl, hva, hP, blk_other h.blk hk hT (by decide), d2, d1, hf1 a, ((hk.mono (T := fun i => base ≤ i) (fun i e _ => row_low h1 e)).andSet (x := ⟨vb, a, none⟩) (.inl hlo) _), ?_⟩
  have := hP.viewAt2 (a := b) (by simpa using hbb) hva
  rwa [upd_ne (by simpa using fun e => hab e.symm)] at this
set_option maxHeartbeats 3200000 in
theorem merge_ok (base pb at0 : Nat) (st : List Bool) (X : PX) (K : Ky → Value) (R : Nat → Value) (s : PS) (w : World) (tk : List (Nat × List Nat)) (sp : Nat) (m0 : MS (List Int)) (pre : List Nat) (P : List Int) (h : PM w base pb st X K R R (psOf s tk sp m0)) (hb : base ≤ w.heap.size) (hline : LineOk pre P m0) (hP : P.length ≤ 4096) (h0 : 0 < m0.row.length) (hr : m0.row.length ≤ 5000) (hn : tk.length ≤ 5000) (hmg : m0.mg.length + m0.row.length ≤ 100000) :
    Calls Try.prog 31 #[.pointer (some ⟨pb, 0, none⟩), .int .i64 at0] w fun e w' => e = .returned (.tuple #[]) ∧ (∃ X' K' R', PM w' base pb st X' K' R' R' (psOf s tk sp (m0.all listK at0))) ∧ Keeps (fun i => base ≤ i) w w' := by
  obtain ⟨tb, hta, -, -, -, -, t1, -⟩ := h.cur rfl
  have HP : Hid (PM w base pb st X K R R (psOf s tk sp m0) ∧ X.ta = some ⟨tb, 0, none⟩ ∧ w.cell? ⟨tb, tk.length * 2 + 1, none⟩ = some (R tk.length)) := ⟨h, hta, t1⟩
  have HL : Hid (LineOk pre P m0 ∧ P.length ≤ 4096 ∧ 0 < m0.row.length ∧ m0.row.length ≤ 5000 ∧ base ≤ w.heap.size ∧ m0.mg.length + m0.row.length ≤ 100000) := ⟨hline, hP, h0, hr, hb, hmg⟩
  have hrow0 := h.curRow rfl
  obtain ⟨ra, rc, hRv⟩ := row_shape hrow0
  rw [hRv] at t1
  have HV : Hid (R tk.length = .slice ra m0.row.length rc) := hRv
  clear h hline hP h0 hr hta hrow0 hRv hb hmg
  go_enter Try.func31, Try.ntmps31
  go_wp2_with fail
  refine (current_ok base pb st X K R R (psOf s tk sp m0) w tb tk (sp, m0.row) HP.out.1 rfl HP.out.2.1 (by omega)).mono ?_
  rintro e w1 ⟨rfl, hk1⟩
  have HK1 : Hid (Keeps None w w1) := hk1
  have t2 := hk1.cell t1 (fun f => f)
  clear hk1 t1
  go_wp2_with fail
  clear t2
  go_loopw [4, 5, 6, 7] (fun r _ _ _ wr => ∃ m X' K' V, m0.all listK at0 = m.all listK at0 ∧ r = V ∧ PM wr base pb st X' K' R (upd R tk.length V) (psOf s tk sp m) ∧ LineOk pre P m ∧ 0 < m.row.length ∧ m.row.length ≤ 5000 ∧ m.mg.length + m.row.length ≤ 100000 ∧ X'.ta = some ⟨tb, 0, none⟩ ∧ Keeps (fun i => base ≤ i) w wr) (fun r _ _ _ _ => sliceLen r)
  case atStart =>
    refine ⟨m0, X, K, _, rfl, rfl, ?_, HL.out.1, HL.out.2.2.1, HL.out.2.2.2.1, HL.out.2.2.2.2.2, HP.out.2.1, HK1.out.mono (fun _ f _ => f.elim)⟩
    rw [← HV.out]
    have e : upd R tk.length (R tk.length) = R := by
      funext i
      by_cases h : i = tk.length
      · subst h; exact upd_eq _ _ _
      · exact upd_ne h
    rw [e]
    exact HP.out.1.more HK1.out
  case round =>
    clear HV HK1
    obtain ⟨m, X1, K1, V, hall, rfl, hM, hline, hpos, hlen, hmg, hta, hk⟩ := hrel
    have hrow := hM.curRow (tk := tk) (sp := sp) (r := m.row) rfl
    rw [upd_eq] at hrow
    obtain ⟨ra, rc, rfl⟩ := row_shape hrow
    have HM : Hid (PM wr base pb st X1 K1 R (upd R tk.length (.slice ra m.row.length rc)) (psOf s tk sp m) ∧ LineOk pre P m ∧ m0.all listK at0 = m.all listK at0 ∧ X1.ta = some ⟨tb, 0, none⟩ ∧ Keeps (fun i => base ≤ i) w wr ∧ m.mg.length + m.row.length ≤ 100000) := ⟨hM, hline, hall, hta, hk, hmg⟩
    by_cases h1 : 1 < m.row.length
    · have hi1 : (1 : Int) < (m.row.length : Int) := by omega
      clear hM hline hall hta hk hrow hmg
      go_wp2_with fail
      refine (pick_ok base pb st X1 K1 R _ (psOf s tk sp m) wr HM.out.1).mono ?_
      rintro e w2 ⟨rfl, ⟨X2, hM2, hta2⟩, hk2⟩
      have hw : wrap64 ((m.row.length : Int) - 1) = ((m.row.length - 1 : Nat) : Int) := by unfold wrap64; omega
      have HM2 : Hid (PM w2 base pb st X2 K1 R (upd R tk.length (.slice ra m.row.length rc)) (psOf s tk sp { m with pk := m.pk.tail }) ∧ X2.ta = some ⟨tb, 0, none⟩ ∧ Keeps (fun i => base ≤ i) w w2) := ⟨hM2, hta2.trans HM.out.2.2.2.1, HM.out.2.2.2.2.1.trans hk2 (fun i e _ => by have := HM.out.1.low; omega)⟩
      have hpk : (psOf s tk sp m).pk = m.pk := rfl
      rw [hpk]
      obtain ⟨pk, hp⟩ : ∃ pk, pk = m.pk.headD 0 := ⟨_, rfl⟩
      rw [← hp]
      have HPK : Hid (pk = m.pk.headD 0) := hp
      clear hM2 hta2 hk2 hpk hp
      have hw : wrap64 ((m.row.length : Int) - 1) = (m.row.length : Int) - 1 := by unfold wrap64; omega
      go_wp2_with fail
      refine (mod_any pk ((m.row.length : Int) - 1) w2 (by omega)).mono ?_
      rintro e w3 ⟨rfl, hw3⟩
      have hw4 := hw3.symm
      subst hw4
      clear hw3 hw
      have hj := MS.j_lt h1
      have hjv : modV pk ((m.row.length : Int) - 1) = ((m.j : Nat) : Int) := by
        unfold modV
        rw [if_neg (by omega), HPK.out]
        unfold MS.j
        rw [show ((m.row.length - 1 : Nat) : Int) = (m.row.length : Int) - 1 by omega, Int.toNat_of_nonneg (Int.emod_nonneg _ (by omega))]
      rw [hjv]
      obtain ⟨A, a, b, B, e1, e2, e3, e4, e5⟩ := row_split hj
      obtain ⟨j, hjj⟩ : ∃ j, j = m.j := ⟨_, rfl⟩
      rw [← hjj]
      rw [← hjj] at hj e2 e3 e4 e5
      have HJ : Hid (j = m.j ∧ m.row = A ++ a :: b :: B ∧ m.row.getD j 0 = a ∧ m.row.getD (j + 1) 0 = b) := ⟨hjj, e1, e3, e4⟩
      have hrow := HM2.out.1.curRow (tk := tk) (sp := sp) (r := m.row) rfl
      rw [upd_eq] at hrow
      have ha1 : m.row[j]? = some a := by rw [e1, ← e2]; simp
      have hb1 : m.row[j + 1]? = some b := by rw [e1, ← e2, List.getElem?_append_right (by omega)]; simp
      obtain ⟨g, rfl, -, -, -, c1, -⟩ := own_cellS hrow (k := j) (nv_at ha1)
      obtain ⟨g', e', -, -, -, c2, -⟩ := own_cellS hrow (k := j + 1) (nv_at hb1)
      injection e' with e'
      injection e' with e'
      subst e'
      have hw5 : IntKind.i64.wrap ((j : Int) + 1) = (j : Int) + 1 := by rw [IntKind.wrap_i64]; omega
      have hi2 : (j : Int) < (m.row.length : Int) := by omega
      have hi3 : (j : Int) + 1 < (m.row.length : Int) := by omega
      have hi4 : 0 ≤ (j : Int) + 1 := by omega
      have hi5 : ((j : Int) + 1).toNat = j + 1 := by omega
      clear hjv hjj e1 e2 e3 e4 e5 ha1 hb1 hrow
      go_upto_region 3 with fail
      go_quiet (fail)
      go_upto_region 4 with fail
      obtain ⟨w4, hw4⟩ : ∃ w4, w4 = w2.drewN nq := ⟨_, rfl⟩
      rw [← hw4]
      have HL4 : Hid (PM w4 base pb st X2 K1 R (upd R tk.length (.slice (some ⟨g, 0, none⟩) m.row.length rc)) (psOf s tk sp { m with pk := m.pk.tail }) ∧ X2.ta = some ⟨tb, 0, none⟩ ∧ Keeps (fun i => base ≤ i) w w4 ∧ base ≤ w4.heap.size) := by
        have hkd : Keeps None w2 w4 := by rw [hw4]; exact keeps_drewN _ _
        exact ⟨HM2.out.1.more hkd, HM2.out.2.1, keeps_tr HM2.out.2.2 hkd, Nat.le_trans HL.out.2.2.2.2.1 (Nat.le_trans HM2.out.2.2.size hkd.size)⟩
      clear hw4 HM2 c1 c2
      go_cut [] (fun wx => ∃ X3 K3, PM wx base pb st X3 K3 R (upd R tk.length (.slice (some ⟨g, 0, none⟩) m.row.length rc)) (psOf s tk sp { m with pk := m.pk.tail, vs := m.vs.set a (m.vs.getD a [] ++ m.vs.getD b []) }) ∧ X3.ta = some ⟨tb, 0, none⟩ ∧ Keeps (fun i => base ≤ i) w wx)
      case first =>
        obtain ⟨s1, s2, s3, s4⟩ := HM.out.2.1.two HJ.out.2.1
        have HJN := join_region base pb st X2 K1 R _ (psOf s tk sp { m with pk := m.pk.tail }) w4.drew a b (m.vs.getD a []) (m.vs.getD b []) (HL4.out.1.more (Keeps.drew None _)) HL4.out.2.2.2 s2 s3 (by omega) rfl rfl (by have := HL.out.2.1; omega)
        obtain ⟨vb, hva, hvc, u1, -⟩ := HL4.out.1.viewAt (a := a) s2
        have u2 := HL4.out.1.viewAt2 (a := b) s3 hva
        obtain ⟨-, -, q2, -, -, -, q6, -, -, -, -⟩ := HL4.out.1.c0
        rw [hva] at q6
        have HVA : Hid (X2.va = some ⟨vb, 0, none⟩) := hva
        have HJN2 : Hid _ := HJN
        have hlv : (psOf s tk sp { m with pk := m.pk.tail }).vs.length = m.vs.length := rfl
        rw [hlv] at q6
        have z1 : (a : Int) < (m.vs.length : Int) := by omega
        have z2 : (b : Int) < (m.vs.length : Int) := by omega
        obtain ⟨Ka, hKa⟩ : ∃ Ka, Ka = K1 (.inl a) := ⟨_, rfl⟩
        obtain ⟨Kb, hKb⟩ : ∃ Kb, Kb = K1 (.inl b) := ⟨_, rfl⟩
        rw [← hKa] at u1
        rw [← hKb] at u2
        have HKK : Hid (Ka = K1 (.inl a) ∧ Kb = K1 (.inl b)) := ⟨hKa, hKb⟩
        clear HJN hva hlv s1 s2 s3 s4 HM HP HL HJ HPK hvc hKa hKb
        refine wp_region_held_drew (S := (fun w' => w'.cell? ⟨pb, 6, none⟩ = some (.slice (some ⟨vb, 0, none⟩) m.vs.length X2.vc) ∧ w'.cell? ⟨pb, 2, none⟩ = some (.func (.func 35) #[] #[]) ∧ w'.cell? ⟨vb, b, none⟩ = some Kb)) (by kernel_rfl) ?_ (fun hHeld => ?_)
        · (try dsimp only); first | exact ⟨q6, q2, u2⟩ | exact ⟨r6, r2, y2⟩ | exact ⟨t6, t2, y3⟩
        refine wpAnyH_take (i := 0) (oi := { dst := some 31, op := Op.move (Operand.tmp 0), type := 48, pos := "play.go:92", after := #[], guard := none }) (v := ?_) rfl (by kernel_rfl) (by kernel_rfl) (by kernel_rfl) (fun _ _ _ h => h) (Or.inl ⟨by rfl, ?_⟩) (by assumption) ?_
        rotate_left
        · (intro wz hSw; (try dsimp only at hSw); go_simp; try with_reducible rfl)
        simp only [Act.put, List.setIfInBounds_toArray, List.set_cons_zero, List.set_cons_succ]
        refine wpAnyH_take (i := 1) (oi := { dst := some 32, op := Op.nilCheck (Operand.tmp 31), type := 0, pos := "play.go:92", after := #[{ on := 0, ground := Ground.data }], guard := none }) (v := ?_) rfl (by kernel_rfl) (by kernel_rfl) (by kernel_rfl) (fun _ _ _ h => h) (Or.inl ⟨by rfl, ?_⟩) (by assumption) ?_
        rotate_left
        · (intro wz hSw; (try dsimp only at hSw); go_simp; try with_reducible rfl)
        simp only [Act.put, List.setIfInBounds_toArray, List.set_cons_zero, List.set_cons_succ]
        refine wpAnyH_take (i := 2) (oi := { dst := some 33, op := Op.fieldAddr 59 (Operand.tmp 32) 3, type := 0, pos := "play.go:92", after := #[{ on := 1, ground := Ground.data }], guard := none }) (v := ?_) rfl (by kernel_rfl) (by kernel_rfl) (by kernel_rfl) (fun _ _ _ h => h) (Or.inl ⟨by rfl, ?_⟩) (by assumption) ?_
        rotate_left
        · (intro wz hSw; (try dsimp only at hSw); go_simp; try with_reducible rfl)
        simp only [Act.put, List.setIfInBounds_toArray, List.set_cons_zero, List.set_cons_succ]
        refine wpAnyH_take (i := 3) (oi := { dst := some 34, op := Op.load 30 (Operand.tmp 33), type := 30, pos := "play.go:92", after := #[{ on := 2, ground := Ground.data }], guard := none }) (v := ?_) rfl (by kernel_rfl) (by kernel_rfl) (by kernel_rfl) (fun _ _ _ h => h) (Or.inl ⟨by rfl, ?_⟩) (by assumption) ?_
        rotate_left
        · (intro wz hSw; (try dsimp only at hSw); go_simp; try with_reducible rfl)
        simp only [Act.put, List.setIfInBounds_toArray, List.set_cons_zero, List.set_cons_succ]
        refine wpAnyH_take (i := 4) (oi := { dst := some 35, op := Op.move (Operand.tmp 6), type := 3, pos := "play.go:92", after := #[], guard := none }) (v := ?_) rfl (by kernel_rfl) (by kernel_rfl) (by kernel_rfl) (fun _ _ _ h => h) (Or.inl ⟨by rfl, ?_⟩) (by assumption) ?_
        rotate_left
        · (intro wz hSw; (try dsimp only at hSw); go_simp; try with_reducible rfl)
        simp only [Act.put, List.setIfInBounds_toArray, List.set_cons_zero, List.set_cons_succ]
        refine wpAnyH_take (i := 5) (oi := { dst := some 36, op := Op.move (Operand.tmp 0), type := 48, pos := "play.go:92", after := #[], guard := none }) (v := ?_) rfl (by kernel_rfl) (by kernel_rfl) (by kernel_rfl) (fun _ _ _ h => h) (Or.inl ⟨by rfl, ?_⟩) (by assumption) ?_
        rotate_left
        · (intro wz hSw; (try dsimp only at hSw); go_simp; try with_reducible rfl)
        simp only [Act.put, List.setIfInBounds_toArray, List.set_cons_zero, List.set_cons_succ]
        refine wpAnyH_take (i := 6) (oi := { dst := some 37, op := Op.nilCheck (Operand.tmp 36), type := 0, pos := "play.go:92", after := #[{ on := 5, ground := Ground.data }], guard := none }) (v := ?_) rfl (by kernel_rfl) (by kernel_rfl) (by kernel_rfl) (fun _ _ _ h => h) (Or.inl ⟨by rfl, ?_⟩) (by assumption) ?_
        rotate_left
        · (intro wz hSw; (try dsimp only at hSw); go_simp; try with_reducible rfl)
        simp only [Act.put, List.setIfInBounds_toArray, List.set_cons_zero, List.set_cons_succ]
        refine wpAnyH_take (i := 7) (oi := { dst := some 38, op := Op.fieldAddr 59 (Operand.tmp 37) 0, type := 0, pos := "play.go:92", after := #[{ on := 6, ground := Ground.data }], guard := none }) (v := ?_) rfl (by kernel_rfl) (by kernel_rfl) (by kernel_rfl) (fun _ _ _ h => h) (Or.inl ⟨by rfl, ?_⟩) (by assumption) ?_
        rotate_left
        · (intro wz hSw; (try dsimp only at hSw); go_simp; try with_reducible rfl)
        simp only [Act.put, List.setIfInBounds_toArray, List.set_cons_zero, List.set_cons_succ]
        refine wpAnyH_take (i := 8) (oi := { dst := some 39, op := Op.fieldAddr 55 (Operand.tmp 38) 2, type := 0, pos := "play.go:92", after := #[{ on := 7, ground := Ground.data }], guard := none }) (v := ?_) rfl (by kernel_rfl) (by kernel_rfl) (by kernel_rfl) (fun _ _ _ h => h) (Or.inl ⟨by rfl, ?_⟩) (by assumption) ?_
        rotate_left
        · (intro wz hSw; (try dsimp only at hSw); go_simp; try with_reducible rfl)
        simp only [Act.put, List.setIfInBounds_toArray, List.set_cons_zero, List.set_cons_succ]
        refine wpAnyH_take (i := 9) (oi := { dst := some 40, op := Op.load 52 (Operand.tmp 39), type := 52, pos := "play.go:92", after := #[{ on := 8, ground := Ground.data }], guard := none }) (v := ?_) rfl (by kernel_rfl) (by kernel_rfl) (by kernel_rfl) (fun _ _ _ h => h) (Or.inl ⟨by rfl, ?_⟩) (by assumption) ?_
        rotate_left
        · (intro wz hSw; (try dsimp only at hSw); go_simp; try with_reducible rfl)
        simp only [Act.put, List.setIfInBounds_toArray, List.set_cons_zero, List.set_cons_succ]
        refine wpAnyH_take (i := 10) (oi := { dst := some 41, op := Op.move (Operand.tmp 0), type := 48, pos := "play.go:92", after := #[], guard := none }) (v := ?_) rfl (by kernel_rfl) (by kernel_rfl) (by kernel_rfl) (fun _ _ _ h => h) (Or.inl ⟨by rfl, ?_⟩) (by assumption) ?_
        rotate_left
        · (intro wz hSw; (try dsimp only at hSw); go_simp; try with_reducible rfl)
        simp only [Act.put, List.setIfInBounds_toArray, List.set_cons_zero, List.set_cons_succ]
        refine wpAnyH_take (i := 11) (oi := { dst := some 42, op := Op.nilCheck (Operand.tmp 41), type := 0, pos := "play.go:92", after := #[{ on := 10, ground := Ground.data }], guard := none }) (v := ?_) rfl (by kernel_rfl) (by kernel_rfl) (by kernel_rfl) (fun _ _ _ h => h) (Or.inl ⟨by rfl, ?_⟩) (by assumption) ?_
        rotate_left
        · (intro wz hSw; (try dsimp only at hSw); go_simp; try with_reducible rfl)
        simp only [Act.put, List.setIfInBounds_toArray, List.set_cons_zero, List.set_cons_succ]
        refine wpAnyH_take (i := 12) (oi := { dst := some 43, op := Op.fieldAddr 59 (Operand.tmp 42) 3, type := 0, pos := "play.go:92", after := #[{ on := 11, ground := Ground.data }], guard := none }) (v := ?_) rfl (by kernel_rfl) (by kernel_rfl) (by kernel_rfl) (fun _ _ _ h => h) (Or.inl ⟨by rfl, ?_⟩) (by assumption) ?_
        rotate_left
        · (intro wz hSw; (try dsimp only at hSw); go_simp; try with_reducible rfl)
        simp only [Act.put, List.setIfInBounds_toArray, List.set_cons_zero, List.set_cons_succ]
        refine wpAnyH_take (i := 13) (oi := { dst := some 44, op := Op.load 30 (Operand.tmp 43), type := 30, pos := "play.go:92", after := #[{ on := 12, ground := Ground.data }], guard := none }) (v := ?_) rfl (by kernel_rfl) (by kernel_rfl) (by kernel_rfl) (fun _ _ _ h => h) (Or.inl ⟨by rfl, ?_⟩) (by assumption) ?_
        rotate_left
        · (intro wz hSw; (try dsimp only at hSw); go_simp; try with_reducible rfl)
        simp only [Act.put, List.setIfInBounds_toArray, List.set_cons_zero, List.set_cons_succ]
        refine wpAnyH_take (i := 14) (oi := { dst := some 45, op := Op.move (Operand.tmp 6), type := 3, pos := "play.go:92", after := #[], guard := none }) (v := ?_) rfl (by kernel_rfl) (by kernel_rfl) (by kernel_rfl) (fun _ _ _ h => h) (Or.inl ⟨by rfl, ?_⟩) (by assumption) ?_
        rotate_left
        · (intro wz hSw; (try dsimp only at hSw); go_simp; try with_reducible rfl)
        simp only [Act.put, List.setIfInBounds_toArray, List.set_cons_zero, List.set_cons_succ]
        refine wpAnyH_take (i := 15) (oi := { dst := some 46, op := Op.indexAddr 30 (Operand.tmp 44) (Operand.tmp 45), type := 0, pos := "play.go:92", after := #[{ on := 13, ground := Ground.data }, { on := 14, ground := Ground.data }], guard := none }) (v := ?_) rfl (by kernel_rfl) (by kernel_rfl) (by kernel_rfl) (fun _ _ _ h => h) (Or.inl ⟨by rfl, ?_⟩) (by assumption) ?_
        rotate_left
        · (intro wz hSw; (try dsimp only at hSw); go_simp; try with_reducible rfl)
        simp only [Act.put, List.setIfInBounds_toArray, List.set_cons_zero, List.set_cons_succ]
        refine wpAnyH_take (i := 17) (oi := { dst := some 48, op := Op.move (Operand.tmp 0), type := 48, pos := "play.go:92", after := #[], guard := none }) (v := ?_) rfl (by kernel_rfl) (by kernel_rfl) (by kernel_rfl) (fun _ _ _ h => h) (Or.inl ⟨by rfl, ?_⟩) (by assumption) ?_
        rotate_left
        · (intro wz hSw; (try dsimp only at hSw); go_simp; try with_reducible rfl)
        simp only [Act.put, List.setIfInBounds_toArray, List.set_cons_zero, List.set_cons_succ]
        refine wpAnyH_take (i := 18) (oi := { dst := some 49, op := Op.nilCheck (Operand.tmp 48), type := 0, pos := "play.go:92", after := #[{ on := 17, ground := Ground.data }], guard := none }) (v := ?_) rfl (by kernel_rfl) (by kernel_rfl) (by kernel_rfl) (fun _ _ _ h => h) (Or.inl ⟨by rfl, ?_⟩) (by assumption) ?_
        rotate_left
        · (intro wz hSw; (try dsimp only at hSw); go_simp; try with_reducible rfl)
        simp only [Act.put, List.setIfInBounds_toArray, List.set_cons_zero, List.set_cons_succ]
        refine wpAnyH_take (i := 19) (oi := { dst := some 50, op := Op.fieldAddr 59 (Operand.tmp 49) 3, type := 0, pos := "play.go:92", after := #[{ on := 18, ground := Ground.data }], guard := none }) (v := ?_) rfl (by kernel_rfl) (by kernel_rfl) (by kernel_rfl) (fun _ _ _ h => h) (Or.inl ⟨by rfl, ?_⟩) (by assumption) ?_
        rotate_left
        · (intro wz hSw; (try dsimp only at hSw); go_simp; try with_reducible rfl)
        simp only [Act.put, List.setIfInBounds_toArray, List.set_cons_zero, List.set_cons_succ]
        refine wpAnyH_take (i := 20) (oi := { dst := some 51, op := Op.load 30 (Operand.tmp 50), type := 30, pos := "play.go:92", after := #[{ on := 19, ground := Ground.data }], guard := none }) (v := ?_) rfl (by kernel_rfl) (by kernel_rfl) (by kernel_rfl) (fun _ _ _ h => h) (Or.inl ⟨by rfl, ?_⟩) (by assumption) ?_
        rotate_left
        · (intro wz hSw; (try dsimp only at hSw); go_simp; try with_reducible rfl)
        simp only [Act.put, List.setIfInBounds_toArray, List.set_cons_zero, List.set_cons_succ]
        refine wpAnyH_take (i := 21) (oi := { dst := some 52, op := Op.move (Operand.tmp 7), type := 3, pos := "play.go:92", after := #[], guard := none }) (v := ?_) rfl (by kernel_rfl) (by kernel_rfl) (by kernel_rfl) (fun _ _ _ h => h) (Or.inl ⟨by rfl, ?_⟩) (by assumption) ?_
        rotate_left
        · (intro wz hSw; (try dsimp only at hSw); go_simp; try with_reducible rfl)
        simp only [Act.put, List.setIfInBounds_toArray, List.set_cons_zero, List.set_cons_succ]
        refine wpAnyH_take (i := 22) (oi := { dst := some 53, op := Op.indexAddr 30 (Operand.tmp 51) (Operand.tmp 52), type := 0, pos := "play.go:92", after := #[{ on := 20, ground := Ground.data }, { on := 21, ground := Ground.data }], guard := none }) (v := ?_) rfl (by kernel_rfl) (by kernel_rfl) (by kernel_rfl) (fun _ _ _ h => h) (Or.inl ⟨by rfl, ?_⟩) (by assumption) ?_
        rotate_left
        · (intro wz hSw; (try dsimp only at hSw); go_simp; try with_reducible rfl)
        simp only [Act.put, List.setIfInBounds_toArray, List.set_cons_zero, List.set_cons_succ]
        refine wpAnyH_take (i := 23) (oi := { dst := some 54, op := Op.load 28 (Operand.tmp 53), type := 28, pos := "play.go:92", after := #[{ on := 22, ground := Ground.data }], guard := none }) (v := ?_) rfl (by kernel_rfl) (by kernel_rfl) (by kernel_rfl) (fun _ _ _ h => h) (Or.inl ⟨by rfl, ?_⟩) (by assumption) ?_
        rotate_left
        · (intro wz hSw; (try dsimp only at hSw); go_simp; try with_reducible rfl)
        simp only [Act.put, List.setIfInBounds_toArray, List.set_cons_zero, List.set_cons_succ]
        refine wpAnyH_ready (rs := [16]) (by kernel_rfl) (by simp) ?_
        refine AllReadyH.cons (o := { dst := some 47, op := Op.load 28 (Operand.tmp 46), type := 28, pos := "play.go:92", after := #[{ on := 15, ground := Ground.data }], guard := none }) rfl (fun K hK => ?_) ?_
        · go_simp
          refine hK.out _ _ ?_ (fun hHeld2 => ?_)
          · (try dsimp only); first | exact ⟨q6, q2, u2⟩ | exact ⟨r6, r2, y2⟩ | exact ⟨t6, t2, y3⟩
          clear hK K
          try simp only [Act.put, List.setIfInBounds_toArray, List.set_cons_zero, List.set_cons_succ]
          refine wpAnyH_ready (rs := [24]) (by kernel_rfl) (by simp) ?_
          refine AllReadyH.cons (o := { dst := some 55, op := Op.call { callee := Callee.value (Operand.tmp 40), args := #[Operand.tmp 47, Operand.tmp 54], argTypes := #[28, 28] }, type := 28, pos := "play.go:92", after := #[{ on := 9, ground := Ground.data }, { on := 16, ground := Ground.data }, { on := 23, ground := Ground.data }], guard := none }) rfl (fun K hK => ?_) ?_
          · go_simp
            rw [HKK.out.1, HKK.out.2]
            refine Calls.mono HJN2.out ?_
            rintro _ w5 ⟨x, n, c, vb2, rfl, hv2, hP5, hb5, y2, y1, yf, hk5, y3⟩
            have hvv := hv2.symm.trans HVA.out; injection hvv with hvv; injection hvv with hvv; subst hvv
            rw [← HKK.out.2] at y2 y3
            have r6 : w5.cell? ⟨pb, 6, none⟩ = some (.slice X2.va m.vs.length X2.vc) := blk_cell hb5 6
            have r2 : w5.cell? ⟨pb, 2, none⟩ = some (.func (.func 35) #[] #[]) := blk_cell hb5 2
            rw [HVA.out] at r6
            have t6 : (w5.setCell ⟨vb2, a, none⟩ (.slice x n c)).cell? ⟨pb, 6, none⟩ = some (.slice X2.va (m.vs.set a (m.vs.getD a [] ++ m.vs.getD b [])).length X2.vc) := hP5.c0.2.2.2.2.2.2.1
            rw [HVA.out, List.length_set] at t6
            have t2 := hP5.c0.2.2.1
            have HF : Hid (PM (w5.setCell ⟨vb2, a, none⟩ (.slice x n c)) base pb st X2 (upd K1 (.inl a) (.slice x n c)) R (upd R tk.length (.slice (some ⟨g, 0, none⟩) m.row.length rc)) (psOf s tk sp { m with pk := m.pk.tail, vs := m.vs.set a (m.vs.getD a [] ++ m.vs.getD b []) }) ∧ Keeps (fun i => base ≤ i) w (w5.setCell ⟨vb2, a, none⟩ (.slice x n c))) := ⟨hP5, (HL4.out.2.2.1.andDrew).trans hk5 (fun i e _ => e)⟩
            clear hP5 hk5 hb5 hv2
            refine hK.out _ _ ?_ (fun hHeld2 => ?_)
            · (try dsimp only); first | exact ⟨q6, q2, u2⟩ | exact ⟨r6, r2, y2⟩ | exact ⟨t6, t2, y3⟩
            clear hK K
            try simp only [Act.put, List.setIfInBounds_toArray, List.set_cons_zero, List.set_cons_succ]
            refine wpAnyH_take (i := 25) (oi := { dst := some 56, op := Op.indexAddr 30 (Operand.tmp 34) (Operand.tmp 35), type := 0, pos := "play.go:92", after := #[{ on := 3, ground := Ground.data }, { on := 4, ground := Ground.data }, { on := 0, ground := Ground.phase }, { on := 1, ground := Ground.phase }, { on := 2, ground := Ground.phase }, { on := 3, ground := Ground.phase }, { on := 4, ground := Ground.phase }, { on := 5, ground := Ground.phase }, { on := 6, ground := Ground.phase }, { on := 7, ground := Ground.phase }, { on := 8, ground := Ground.phase }, { on := 9, ground := Ground.phase }, { on := 10, ground := Ground.phase }, { on := 11, ground := Ground.phase }, { on := 12, ground := Ground.phase }, { on := 13, ground := Ground.phase }, { on := 14, ground := Ground.phase }, { on := 15, ground := Ground.phase }, { on := 16, ground := Ground.phase }, { on := 17, ground := Ground.phase }, { on := 18, ground := Ground.phase }, { on := 19, ground := Ground.phase }, { on := 20, ground := Ground.phase }, { on := 21, ground := Ground.phase }, { on := 22, ground := Ground.phase }, { on := 23, ground := Ground.phase }, { on := 24, ground := Ground.phase }], guard := none }) (v := ?_) rfl (by kernel_rfl) (by kernel_rfl) (by kernel_rfl) (fun _ _ _ h => h) (Or.inl ⟨by rfl, ?_⟩) (by assumption) ?_
            rotate_left
            · (intro wz hSw; (try dsimp only at hSw); go_simp; try with_reducible rfl)
            simp only [Act.put, List.setIfInBounds_toArray, List.set_cons_zero, List.set_cons_succ]
            refine wpAnyH_ready (rs := [26]) (by kernel_rfl) (by simp) ?_
            refine AllReadyH.cons (o := { dst := none, op := Op.store 28 (Operand.tmp 56) (Operand.tmp 55), type := 0, pos := "play.go:92", after := #[{ on := 25, ground := Ground.data }, { on := 24, ground := Ground.data }, { on := 24, ground := Ground.chain }, { on := 0, ground := Ground.phase }, { on := 1, ground := Ground.phase }, { on := 2, ground := Ground.phase }, { on := 3, ground := Ground.phase }, { on := 4, ground := Ground.phase }, { on := 5, ground := Ground.phase }, { on := 6, ground := Ground.phase }, { on := 7, ground := Ground.phase }, { on := 8, ground := Ground.phase }, { on := 9, ground := Ground.phase }, { on := 10, ground := Ground.phase }, { on := 11, ground := Ground.phase }, { on := 12, ground := Ground.phase }, { on := 13, ground := Ground.phase }, { on := 14, ground := Ground.phase }, { on := 15, ground := Ground.phase }, { on := 16, ground := Ground.phase }, { on := 17, ground := Ground.phase }, { on := 18, ground := Ground.phase }, { on := 19, ground := Ground.phase }, { on := 20, ground := Ground.phase }, { on := 21, ground := Ground.phase }, { on := 22, ground := Ground.phase }, { on := 23, ground := Ground.phase }, { on := 24, ground := Ground.phase }], guard := none }) rfl (fun K hK => ?_) ?_
            · go_simp
              refine hK.out _ _ ?_ (fun hHeld2 => ?_)
              · (try dsimp only); first | exact ⟨q6, q2, u2⟩ | exact ⟨r6, r2, y2⟩ | exact ⟨t6, t2, y3⟩
              clear hK K
              try simp only [Act.put, List.setIfInBounds_toArray, List.set_cons_zero, List.set_cons_succ]
              refine wpAnyH_done (by kernel_rfl) ?_ _
              go_wp2_with fail
              go_meet
              exact ⟨X2, _, HF.out.1, HL4.out.2.1, HF.out.2⟩
            exact AllReadyH.nil
          exact AllReadyH.nil
        exact AllReadyH.nil
      case rest =>
        obtain ⟨X3, K3, hM3, hta3, hkc⟩ := hcut
        have hd := hM3.more (Keeps.alloc None wc (.cells #[.int .i64 at0, .int .i64 a, .int .i64 b] 96))
        have hsz : base ≤ wc.heap.size := Nat.le_trans HL.out.2.2.2.2.1 hkc.size
        obtain ⟨gm, cp, w6, hr, ho, hk6⟩ := merge_more base (.slice X3.ma m.mg.length X3.mc) m.mg (at0, a, b) 29 wc.heap.size (wc.alloc (.cells #[.int .i64 at0, .int .i64 a, .int .i64 b] 96)) hd.mg (by simp; omega) (by have := HM.out.2.2.2.2.2; omega) (blk_new _ _ _ rfl)
        have hP6 := hd.newMerge (x := (at0, a, b)) ho hk6
        have hb6 := blk_other hd.blk hk6 (onlyT_own hd.mg) (by decide)
        have q9 : wc.cell? ⟨pb, 9, none⟩ = some (.slice X3.ma m.mg.length X3.mc) := hM3.c0.2.2.2.2.2.2.2.2.2.1
        have f9 : w6.frozen? ⟨pb, 9, none⟩ = false := blk_free hb6 9
        have q96 : w6.cell? ⟨pb, 9, none⟩ = some (.slice X3.ma m.mg.length X3.mc) := blk_cell hb6 9
        have HF6 : Hid (PM (w6.setCell ⟨pb, 9, none⟩ (.slice (some ⟨gm, 0, none⟩) (m.mg.length + 1) cp)) base pb st { X3 with ma := some ⟨gm, 0, none⟩, mc := cp } K3 R (upd R tk.length (.slice (some ⟨g, 0, none⟩) m.row.length rc)) (psOf s tk sp { m with pk := m.pk.tail, vs := m.vs.set a (m.vs.getD a [] ++ m.vs.getD b []), mg := m.mg ++ [(at0, a, b)] }) ∧ X3.ta = some ⟨tb, 0, none⟩ ∧ Keeps (fun i => base ≤ i) w (w6.setCell ⟨pb, 9, none⟩ (.slice (some ⟨gm, 0, none⟩) (m.mg.length + 1) cp))) :=
          ⟨hP6, hta3, ((hkc.andAlloc _).trans hk6 (fun i e _ => row_low hd.mg e)).andSet (x := ⟨pb, 9, none⟩) (.inl HM.out.1.low) _⟩
        have HSZ : Hid (base ≤ wc.heap.size) := hsz
        clear hd ho hk6 hP6 hb6 hM3 hta3 hkc hsz HL4
        go_upto_region 5 with fail
        go_wp2_with (at_builtin; refine wpList_append_run rfl (.tmp 61) (.tmp 66) 29 29 rfl rfl rfl hr ?_)
        obtain ⟨w7, hw7⟩ : ∃ w7, w7 = w6.setCell ⟨pb, 9, none⟩ (.slice (some ⟨gm, 0, none⟩) (m.mg.length + 1) cp) := ⟨_, rfl⟩
        rw [← hw7] at HF6 ⊢
        clear hw7 hr q9 q96 f9
        have hrow := HF6.out.1.curRow (tk := tk) (sp := sp) (r := m.row) rfl
        rw [upd_eq] at hrow
        refine (delete_two base g m.row.length rc (j + 1) m.row w7 ((j : Int) + 1) ((j : Int) + 2) hrow rfl hj (by omega) (by omega) (by omega)).mono ?_
        clear hrow
        rintro e w8 ⟨rfl, ho8, hk8⟩
        have hone : m.one listK at0 = ⟨m.vs.set a (m.vs.getD a [] ++ m.vs.getD b []), m.row.eraseIdx (j + 1), m.mg ++ [(at0, a, b)], m.pk.tail⟩ := by
          unfold MS.one MS.l MS.r
          rw [← HJ.out.1, HJ.out.2.2.1, HJ.out.2.2.2]
          rfl
        have hlr : (m.row.eraseIdx (j + 1)).length = m.row.length - 1 := by rw [List.length_eraseIdx, if_pos hj]
        have HE : Hid (∃ m' X' K' V, m0.all listK at0 = m'.all listK at0 ∧ Value.slice (some ⟨g, 0, none⟩) (m.row.length - 1) rc = V ∧ PM w8 base pb st X' K' R (upd R tk.length V) (psOf s tk sp m') ∧ LineOk pre P m' ∧ 0 < m'.row.length ∧ m'.row.length ≤ 5000 ∧ m'.mg.length + m'.row.length ≤ 100000 ∧ X'.ta = some ⟨tb, 0, none⟩ ∧ Keeps (fun i => base ≤ i) w w8) := by
          refine ⟨m.one listK at0, { X3 with ma := some ⟨gm, 0, none⟩, mc := cp }, K3, _, HM.out.2.2.1.trans (all_step listK at0 h1), rfl, ?_, HM.out.2.1.one at0 h1, by rw [hone]; show 0 < (m.row.eraseIdx (j + 1)).length; omega, by rw [hone]; show (m.row.eraseIdx (j + 1)).length ≤ 5000; omega, ?_, HF6.out.2.1, ?_⟩
          · have hq := HF6.out.1.putRow (tk := tk) (sp := sp) (r := m.row) (r' := m.row.eraseIdx (j + 1)) (V := .slice (some ⟨g, 0, none⟩) (m.row.length - 1) rc) (w1 := w8) rfl (by rw [hlr]; exact ho8) (by rw [upd_eq]; exact hk8.mono (fun i e _ => by subst e; rfl)) (fun b e => by rw [upd_eq]; exact .inl e)
            have hu : upd (upd R tk.length (.slice (some ⟨g, 0, none⟩) m.row.length rc)) tk.length (.slice (some ⟨g, 0, none⟩) (m.row.length - 1) rc) = upd R tk.length (.slice (some ⟨g, 0, none⟩) (m.row.length - 1) rc) := by
              funext i
              by_cases e : i = tk.length
              · subst e; rw [upd_eq, upd_eq]
              · rw [upd_ne e, upd_ne e, upd_ne e]
            rw [hu] at hq
            rw [hone]
            exact hq
          · rw [hone]
            show (m.mg ++ [(at0, a, b)]).length + (m.row.eraseIdx (j + 1)).length ≤ 100000
            have := HM.out.2.2.2.2.2
            simp only [List.length_append, List.length_singleton]
            omega
          · have hrow := HF6.out.1.curRow (tk := tk) (sp := sp) (r := m.row) rfl
            rw [upd_eq] at hrow
            exact HF6.out.2.2.trans hk8 (fun i e _ => by subst e; exact row_low hrow rfl)
        clear ho8 hk8 hone hlr
        go_wp2_with fail
        exact ⟨HE.out, by simp [sliceLen]; omega⟩
    · have hi1 : ¬ (1 : Int) < (m.row.length : Int) := by omega
      have hl1 : m.row.length = 1 := by omega
      have HE : Hid (m0.all listK at0 = m) := hall.trans (all_one listK at0 hl1)
      clear hM hline hall hta hk hrow hmg hl1
      go_wp2_with fail
      refine (current_ok base pb st X1 K1 R _ (psOf s tk sp m) wr tb tk (sp, m.row) HM.out.1 rfl HM.out.2.2.2.1 (by omega)).mono ?_
      rintro e w2 ⟨rfl, hk2⟩
      obtain ⟨tb2, hta2, -, -, -, -, t2, hf2⟩ := (HM.out.1.more hk2).cur rfl
      have e2 := hta2.symm.trans HM.out.2.2.2.1
      injection e2 with e2
      injection e2 with e2
      subst e2
      have f2 := hf2 (tk.length * 2 + 1)
      have HF : Hid ((∃ X' K' R', PM (w2.setCell ⟨tb2, tk.length * 2 + 1, none⟩ (.slice ra m.row.length rc)) base pb st X' K' R' R' (psOf s tk sp (m0.all listK at0))) ∧ Keeps (fun i => base ≤ i) w (w2.setCell ⟨tb2, tk.length * 2 + 1, none⟩ (.slice ra m.row.length rc))) := by
        have hq := (HM.out.1.more hk2).setHead (i := tk.length) (V := .slice ra m.row.length rc) hta2
        rw [HE.out]
        refine ⟨⟨X1, K1, _, hq⟩, (keeps_tr HM.out.2.2.2.2.1 hk2).andSet (x := ⟨tb2, _, none⟩) (.inl ?_) _⟩
        exact row_low (HM.out.1.more hk2).tk.tks (by rw [hta2]; rfl)
      clear hk2 hta2 hf2
      go_wp2
      go_end0
      exact ⟨rfl, HF.out⟩
end Go.Proofs.Ytdiabpoafennlab
/-! A deed: something is put. -/
namespace Go.Proofs.Ytdiabpoafennlab
set_option linter.unusedVariables false
set_option maxRecDepth 20000
set_option linter.unusedSimpArgs false
open Go.RowKit Go.HeapKit

theorem put_region (base pb : Nat) (st : List Bool) (X : PX) (K : Ky → Value) (H R : Nat → Value) (s : PS) (w : World) (a : Nat) (l : List Int) (x : Int) (h : PM w base pb st X K H R s) (hb : base ≤ w.heap.size) (ha : a < s.vs.length) (hl : s.vs.getD a [] = l) (hlen : l.length ≤ 100000) :
    Calls Try.prog 34 #[K (.inl a), .int .i64 x] w fun e w' => ∃ y n c vb, e = .returned (.slice y n c) ∧ X.va = some ⟨vb, 0, none⟩ ∧ PM (w'.setCell ⟨vb, a, none⟩ (.slice y n c)) base pb st X (upd K (.inl a) (.slice y n c)) H R { s with vs := s.vs.set a (l ++ [x]) } ∧ w'.heap[pb]? = some (.cells (X.cells st s) 59 (0, 0)) ∧ w'.cell? ⟨vb, a, none⟩ = some (K (.inl a)) ∧ w'.frozen? ⟨vb, a, none⟩ = false ∧ Keeps (fun k => (K (.inl a)).ownBlock = some k) w w' ∧ Keeps (fun i => base ≤ i) w (w'.setCell ⟨vb, a, none⟩ (.slice y n c)) := by
  have h1 := h.vw.rows (.inl a)
  simp only [Lf] at h1
  rw [hl] at h1
  refine (put_ok base _ l x w h1 hb (by omega)).mono ?_
  rintro e w' ⟨V', rfl, -, ho, hk, hm⟩
  obtain ⟨y, c, rfl⟩ := row_shape ho
  obtain ⟨vb, hva, hvc, c1, hf⟩ := h.viewAt ha
  have hT := onlyT_own h1
  have hP := h.putView ha hva ho hk hm
  have hv2 := row_other h.vw.views hk hT (by decide)
  obtain ⟨g1, e1, hlo, -, -, d1, hf1⟩ := own_cellS hv2 (k := a) (range_get _ ha)
  rw [hva] at e1
  injection e1 with e1
  injection e1 with e1
  subst e1
  exact ⟨y, _, c, vb, rfl, hva, hP, blk_other h.blk hk hT (by decide), d1, hf1 a, hk, (hk.mono (T := fun i => base ≤ i) (fun i e _ => row_low h1 e)).andSet (x := ⟨vb, a, none⟩) (.inl hlo) _⟩
set_option maxHeartbeats 3200000 in
theorem do_write (base pb at0 : Nat) (st : List Bool) (X : PX) (K0 : Ky → Value) (R : Nat → Value) (s : PS) (w : World) (tk : List (Nat × List Nat)) (sp : Nat) (r : List Nat) (loc : Int) (h : PM w base pb st X K0 R R s) (hx : s.tk = tk ++ [(sp, r)]) (hr : r ≠ []) (hn : tk.length ≤ 100000) (hn2 : r.length ≤ 100000) (hb : base ≤ w.heap.size) (a : Nat) (ha : a = r.getLastD 0) (l : List Int) (hll : s.vs.getD a [] = l) (hv : a < s.vs.length) (hl : l.length ≤ 100000) :
    Calls Try.prog 30 #[.pointer (some ⟨pb, 0, none⟩), .int .i64 at0, .agg #[.int .i64 4, .int .i64 loc]] w fun e w' => e = .returned (.tuple #[]) ∧ (∃ X' K0' R', PM w' base pb st X' K0' R' R' { s with vs := s.vs.set a (l ++ [loc]) }) ∧ Keeps (fun i => base ≤ i) w w' := by
  have HP : Hid (PM w base pb st X K0 R R s ∧ s.tk = tk ++ [(sp, r)] ∧ r ≠ [] ∧ base ≤ w.heap.size ∧ a < s.vs.length ∧ s.vs.getD a [] = l ∧ a = r.getLastD 0) := ⟨h, hx, hr, hb, hv, hll, ha⟩
  clear h hx hr hb hv hll ha
  have hb0 := blk_new w (.cells #[.int .i64 4, .int .i64 loc] 44) w.heap.size rfl
  have hkb := (Keeps.alloc None w (.cells #[.int .i64 4, .int .i64 loc] 44))
  obtain ⟨db, hdb⟩ : ∃ db, db = w.heap.size := ⟨_, rfl⟩
  rw [← hdb] at hb0
  go_enter Try.func30, Try.ntmps30
  go_upto_region 1 with fail
  rw [← hdb]
  have HDB : Hid (db = w.heap.size) := hdb
  clear hdb
  generalize w.alloc (.cells #[.int .i64 4, .int .i64 loc] 44) = wa at *
  have HA : Hid (PM wa base pb st X K0 R R s ∧ Keeps None w wa ∧ wa.heap[db]? = some (.cells #[.int .i64 4, .int .i64 loc] 44 (0, 0)) ∧ base ≤ wa.heap.size) := ⟨HP.out.1.more hkb, hkb, hb0, Nat.le_trans HP.out.2.2.2.1 hkb.size⟩
  have d0 : wa.cell? ⟨db, 0, none⟩ = some (.int .i64 4) := blk_cell hb0 0
  clear hb0 hkb
  go_wp2_with fail
  refine (hand_ok base pb st X K0 R s wa tk sp r HA.out.1 HP.out.2.1 HP.out.2.2.1 hn hn2).mono ?_
  rintro e w1 ⟨rfl, hk1⟩
  have HM : Hid (PM w1 base pb st X K0 R R s ∧ Keeps (fun i => base ≤ i) w w1 ∧ base ≤ w1.heap.size) := ⟨HA.out.1.more hk1, (keeps_tr HA.out.2.1 hk1).mono (fun _ f _ => f.elim), Nat.le_trans HA.out.2.2.2 hk1.size⟩
  have d1 : w1.cell? ⟨db, 1, none⟩ = some (.int .i64 loc) := blk_cell (blk_kept HA.out.2.2.1 hk1 (fun f => f)) 1
  rw [← HP.out.2.2.2.2.2.2]
  have HD : Hid (w1.heap[db]? = some (.cells #[.int .i64 4, .int .i64 loc] 44 (0, 0))) := blk_kept HA.out.2.2.1 hk1 (fun f => f)
  clear hk1 d0 HA
  go_upto_region 4 with fail
  have HJN := put_region base pb st X K0 R R s w1.drew a l loc (HM.out.1.more (Keeps.drew None _)) HM.out.2.2 HP.out.2.2.2.2.1 HP.out.2.2.2.2.2.1 hl
  obtain ⟨vb, hva, hvc, u1, -⟩ := HM.out.1.viewAt HP.out.2.2.2.2.1
  obtain ⟨-, q1, -, -, -, -, q6, -, -, -, -⟩ := HM.out.1.c0
  rw [hva] at q6
  have HVA : Hid (X.va = some ⟨vb, 0, none⟩) := hva
  have HJN2 : Hid _ := HJN
  obtain ⟨Ka, hKa⟩ : ∃ Ka, Ka = K0 (.inl a) := ⟨_, rfl⟩
  rw [← hKa] at u1
  have HKK : Hid (Ka = K0 (.inl a)) := hKa
  have z1 : (a : Int) < (s.vs.length : Int) := by have := HP.out.2.2.2.2.1; omega
  have HDB2 : Hid (∀ w', Keeps (fun k => (K0 (.inl a)).ownBlock = some k) w1.drew w' → w'.cell? ⟨db, 1, none⟩ = some (.int .i64 loc)) := fun w' hk => blk_cell (blk_other (w := w1.drew) (show w1.drew.heap[db]? = _ from HD.out) hk (onlyT_own ((HM.out.1.more (Keeps.drew None _)).vw.rows (.inl a))) (by decide)) 1
  have HDV : Hid (db ≠ vb) := by
    intro e
    have hd := HD.out
    rw [e] at hd
    obtain ⟨cur, hc⟩ := own_block HM.out.1.vw.views (g := vb) (by rw [HVA.out]; rfl)
    rw [hd] at hc
    injection hc with hc
    injection hc with _ hc
    exact absurd hc (by decide)
  clear HJN hva hvc hKa HP HD
  refine wp_region_held_drew (S := (fun w' => w'.cell? ⟨pb, 6, none⟩ = some (.slice (some ⟨vb, 0, none⟩) s.vs.length X.vc) ∧ w'.cell? ⟨pb, 1, none⟩ = some (.func (.func 34) #[] #[]) ∧ w'.cell? ⟨db, 1, none⟩ = some (.int .i64 loc))) (by kernel_rfl) ?_ (fun hHeld => ?_)
  · (try dsimp only); first | exact ⟨q6, q1, d1⟩ | exact ⟨r6, r1, y5⟩ | exact ⟨t6, t1, y6⟩
  refine wpAnyH_take (i := 0) (oi := { dst := some 15, op := Op.move (Operand.tmp 0), type := 48, pos := "play.go:47", after := #[], guard := none }) (v := ?_) rfl (by kernel_rfl) (by kernel_rfl) (by kernel_rfl) (fun _ _ _ h => h) (Or.inl ⟨by rfl, ?_⟩) (by assumption) ?_
  rotate_left
  · (intro wz hSw; (try dsimp only at hSw); go_simp; try with_reducible rfl)
  simp only [Act.put, List.setIfInBounds_toArray, List.set_cons_zero, List.set_cons_succ]
  refine wpAnyH_take (i := 1) (oi := { dst := some 16, op := Op.nilCheck (Operand.tmp 15), type := 0, pos := "play.go:47", after := #[{ on := 0, ground := Ground.data }], guard := none }) (v := ?_) rfl (by kernel_rfl) (by kernel_rfl) (by kernel_rfl) (fun _ _ _ h => h) (Or.inl ⟨by rfl, ?_⟩) (by assumption) ?_
  rotate_left
  · (intro wz hSw; (try dsimp only at hSw); go_simp; try with_reducible rfl)
  simp only [Act.put, List.setIfInBounds_toArray, List.set_cons_zero, List.set_cons_succ]
  refine wpAnyH_take (i := 2) (oi := { dst := some 17, op := Op.fieldAddr 59 (Operand.tmp 16) 3, type := 0, pos := "play.go:47", after := #[{ on := 1, ground := Ground.data }], guard := none }) (v := ?_) rfl (by kernel_rfl) (by kernel_rfl) (by kernel_rfl) (fun _ _ _ h => h) (Or.inl ⟨by rfl, ?_⟩) (by assumption) ?_
  rotate_left
  · (intro wz hSw; (try dsimp only at hSw); go_simp; try with_reducible rfl)
  simp only [Act.put, List.setIfInBounds_toArray, List.set_cons_zero, List.set_cons_succ]
  refine wpAnyH_take (i := 3) (oi := { dst := some 18, op := Op.load 30 (Operand.tmp 17), type := 30, pos := "play.go:47", after := #[{ on := 2, ground := Ground.data }], guard := none }) (v := ?_) rfl (by kernel_rfl) (by kernel_rfl) (by kernel_rfl) (fun _ _ _ h => h) (Or.inl ⟨by rfl, ?_⟩) (by assumption) ?_
  rotate_left
  · (intro wz hSw; (try dsimp only at hSw); go_simp; try with_reducible rfl)
  simp only [Act.put, List.setIfInBounds_toArray, List.set_cons_zero, List.set_cons_succ]
  refine wpAnyH_take (i := 4) (oi := { dst := some 19, op := Op.move (Operand.tmp 6), type := 3, pos := "play.go:47", after := #[], guard := none }) (v := ?_) rfl (by kernel_rfl) (by kernel_rfl) (by kernel_rfl) (fun _ _ _ h => h) (Or.inl ⟨by rfl, ?_⟩) (by assumption) ?_
  rotate_left
  · (intro wz hSw; (try dsimp only at hSw); go_simp; try with_reducible rfl)
  simp only [Act.put, List.setIfInBounds_toArray, List.set_cons_zero, List.set_cons_succ]
  refine wpAnyH_take (i := 5) (oi := { dst := some 20, op := Op.move (Operand.tmp 0), type := 48, pos := "play.go:47", after := #[], guard := none }) (v := ?_) rfl (by kernel_rfl) (by kernel_rfl) (by kernel_rfl) (fun _ _ _ h => h) (Or.inl ⟨by rfl, ?_⟩) (by assumption) ?_
  rotate_left
  · (intro wz hSw; (try dsimp only at hSw); go_simp; try with_reducible rfl)
  simp only [Act.put, List.setIfInBounds_toArray, List.set_cons_zero, List.set_cons_succ]
  refine wpAnyH_take (i := 6) (oi := { dst := some 21, op := Op.nilCheck (Operand.tmp 20), type := 0, pos := "play.go:47", after := #[{ on := 5, ground := Ground.data }], guard := none }) (v := ?_) rfl (by kernel_rfl) (by kernel_rfl) (by kernel_rfl) (fun _ _ _ h => h) (Or.inl ⟨by rfl, ?_⟩) (by assumption) ?_
  rotate_left
  · (intro wz hSw; (try dsimp only at hSw); go_simp; try with_reducible rfl)
  simp only [Act.put, List.setIfInBounds_toArray, List.set_cons_zero, List.set_cons_succ]
  refine wpAnyH_take (i := 7) (oi := { dst := some 22, op := Op.fieldAddr 59 (Operand.tmp 21) 0, type := 0, pos := "play.go:47", after := #[{ on := 6, ground := Ground.data }], guard := none }) (v := ?_) rfl (by kernel_rfl) (by kernel_rfl) (by kernel_rfl) (fun _ _ _ h => h) (Or.inl ⟨by rfl, ?_⟩) (by assumption) ?_
  rotate_left
  · (intro wz hSw; (try dsimp only at hSw); go_simp; try with_reducible rfl)
  simp only [Act.put, List.setIfInBounds_toArray, List.set_cons_zero, List.set_cons_succ]
  refine wpAnyH_take (i := 8) (oi := { dst := some 23, op := Op.fieldAddr 55 (Operand.tmp 22) 1, type := 0, pos := "play.go:47", after := #[{ on := 7, ground := Ground.data }], guard := none }) (v := ?_) rfl (by kernel_rfl) (by kernel_rfl) (by kernel_rfl) (fun _ _ _ h => h) (Or.inl ⟨by rfl, ?_⟩) (by assumption) ?_
  rotate_left
  · (intro wz hSw; (try dsimp only at hSw); go_simp; try with_reducible rfl)
  simp only [Act.put, List.setIfInBounds_toArray, List.set_cons_zero, List.set_cons_succ]
  refine wpAnyH_take (i := 9) (oi := { dst := some 24, op := Op.load 51 (Operand.tmp 23), type := 51, pos := "play.go:47", after := #[{ on := 8, ground := Ground.data }], guard := none }) (v := ?_) rfl (by kernel_rfl) (by kernel_rfl) (by kernel_rfl) (fun _ _ _ h => h) (Or.inl ⟨by rfl, ?_⟩) (by assumption) ?_
  rotate_left
  · (intro wz hSw; (try dsimp only at hSw); go_simp; try with_reducible rfl)
  simp only [Act.put, List.setIfInBounds_toArray, List.set_cons_zero, List.set_cons_succ]
  refine wpAnyH_take (i := 10) (oi := { dst := some 25, op := Op.move (Operand.tmp 0), type := 48, pos := "play.go:47", after := #[], guard := none }) (v := ?_) rfl (by kernel_rfl) (by kernel_rfl) (by kernel_rfl) (fun _ _ _ h => h) (Or.inl ⟨by rfl, ?_⟩) (by assumption) ?_
  rotate_left
  · (intro wz hSw; (try dsimp only at hSw); go_simp; try with_reducible rfl)
  simp only [Act.put, List.setIfInBounds_toArray, List.set_cons_zero, List.set_cons_succ]
  refine wpAnyH_take (i := 11) (oi := { dst := some 26, op := Op.nilCheck (Operand.tmp 25), type := 0, pos := "play.go:47", after := #[{ on := 10, ground := Ground.data }], guard := none }) (v := ?_) rfl (by kernel_rfl) (by kernel_rfl) (by kernel_rfl) (fun _ _ _ h => h) (Or.inl ⟨by rfl, ?_⟩) (by assumption) ?_
  rotate_left
  · (intro wz hSw; (try dsimp only at hSw); go_simp; try with_reducible rfl)
  simp only [Act.put, List.setIfInBounds_toArray, List.set_cons_zero, List.set_cons_succ]
  refine wpAnyH_take (i := 12) (oi := { dst := some 27, op := Op.fieldAddr 59 (Operand.tmp 26) 3, type := 0, pos := "play.go:47", after := #[{ on := 11, ground := Ground.data }], guard := none }) (v := ?_) rfl (by kernel_rfl) (by kernel_rfl) (by kernel_rfl) (fun _ _ _ h => h) (Or.inl ⟨by rfl, ?_⟩) (by assumption) ?_
  rotate_left
  · (intro wz hSw; (try dsimp only at hSw); go_simp; try with_reducible rfl)
  simp only [Act.put, List.setIfInBounds_toArray, List.set_cons_zero, List.set_cons_succ]
  refine wpAnyH_take (i := 13) (oi := { dst := some 28, op := Op.load 30 (Operand.tmp 27), type := 30, pos := "play.go:47", after := #[{ on := 12, ground := Ground.data }], guard := none }) (v := ?_) rfl (by kernel_rfl) (by kernel_rfl) (by kernel_rfl) (fun _ _ _ h => h) (Or.inl ⟨by rfl, ?_⟩) (by assumption) ?_
  rotate_left
  · (intro wz hSw; (try dsimp only at hSw); go_simp; try with_reducible rfl)
  simp only [Act.put, List.setIfInBounds_toArray, List.set_cons_zero, List.set_cons_succ]
  refine wpAnyH_take (i := 14) (oi := { dst := some 29, op := Op.move (Operand.tmp 6), type := 3, pos := "play.go:47", after := #[], guard := none }) (v := ?_) rfl (by kernel_rfl) (by kernel_rfl) (by kernel_rfl) (fun _ _ _ h => h) (Or.inl ⟨by rfl, ?_⟩) (by assumption) ?_
  rotate_left
  · (intro wz hSw; (try dsimp only at hSw); go_simp; try with_reducible rfl)
  simp only [Act.put, List.setIfInBounds_toArray, List.set_cons_zero, List.set_cons_succ]
  refine wpAnyH_take (i := 15) (oi := { dst := some 30, op := Op.indexAddr 30 (Operand.tmp 28) (Operand.tmp 29), type := 0, pos := "play.go:47", after := #[{ on := 13, ground := Ground.data }, { on := 14, ground := Ground.data }], guard := none }) (v := ?_) rfl (by kernel_rfl) (by kernel_rfl) (by kernel_rfl) (fun _ _ _ h => h) (Or.inl ⟨by rfl, ?_⟩) (by assumption) ?_
  rotate_left
  · (intro wz hSw; (try dsimp only at hSw); go_simp; try with_reducible rfl)
  simp only [Act.put, List.setIfInBounds_toArray, List.set_cons_zero, List.set_cons_succ]
  refine wpAnyH_take (i := 17) (oi := { dst := some 32, op := Op.fieldAddr 44 (Operand.tmp 5) 1, type := 0, pos := "play.go:47", after := #[], guard := none }) (v := ?_) rfl (by kernel_rfl) (by kernel_rfl) (by kernel_rfl) (fun _ _ _ h => h) (Or.inl ⟨by rfl, ?_⟩) (by assumption) ?_
  rotate_left
  · (intro wz hSw; (try dsimp only at hSw); go_simp; try with_reducible rfl)
  simp only [Act.put, List.setIfInBounds_toArray, List.set_cons_zero, List.set_cons_succ]
  refine wpAnyH_take (i := 18) (oi := { dst := some 33, op := Op.load 2 (Operand.tmp 32), type := 2, pos := "play.go:47", after := #[{ on := 17, ground := Ground.data }], guard := none }) (v := ?_) rfl (by kernel_rfl) (by kernel_rfl) (by kernel_rfl) (fun _ _ _ h => h) (Or.inl ⟨by rfl, ?_⟩) (by assumption) ?_
  rotate_left
  · (intro wz hSw; (try dsimp only at hSw); go_simp; try with_reducible rfl)
  simp only [Act.put, List.setIfInBounds_toArray, List.set_cons_zero, List.set_cons_succ]
  refine wpAnyH_ready (rs := [16]) (by kernel_rfl) (by simp) ?_
  refine AllReadyH.cons (o := { dst := some 31, op := Op.load 28 (Operand.tmp 30), type := 28, pos := "play.go:47", after := #[{ on := 15, ground := Ground.data }], guard := none }) rfl (fun K hK => ?_) ?_
  · go_simp
    refine hK.out _ _ ?_ (fun hHeld2 => ?_)
    · (try dsimp only); first | exact ⟨q6, q1, d1⟩ | exact ⟨r6, r1, y5⟩ | exact ⟨t6, t1, y6⟩
    clear hK K
    try simp only [Act.put, List.setIfInBounds_toArray, List.set_cons_zero, List.set_cons_succ]
    refine wpAnyH_ready (rs := [19]) (by kernel_rfl) (by simp) ?_
    refine AllReadyH.cons (o := { dst := some 34, op := Op.call { callee := Callee.value (Operand.tmp 24), args := #[Operand.tmp 31, Operand.tmp 33], argTypes := #[28, 2] }, type := 28, pos := "play.go:47", after := #[{ on := 9, ground := Ground.data }, { on := 16, ground := Ground.data }, { on := 18, ground := Ground.data }], guard := none }) rfl (fun K hK => ?_) ?_
    · go_simp
      rw [HKK.out]
      refine Calls.mono HJN2.out ?_
      rintro _ w5 ⟨x, n, c, vb2, rfl, hv2, hP5, hb5, y1, yf, hk5, hk6⟩
      have hvv := hv2.symm.trans HVA.out; injection hvv with hvv; injection hvv with hvv; subst hvv
      have r6 : w5.cell? ⟨pb, 6, none⟩ = some (.slice X.va s.vs.length X.vc) := blk_cell hb5 6
      have r1 : w5.cell? ⟨pb, 1, none⟩ = some (.func (.func 34) #[] #[]) := blk_cell hb5 1
      rw [HVA.out] at r6
      have t6 : (w5.setCell ⟨vb2, a, none⟩ (.slice x n c)).cell? ⟨pb, 6, none⟩ = some (.slice X.va (s.vs.set a (l ++ [loc])).length X.vc) := hP5.c0.2.2.2.2.2.2.1
      rw [HVA.out, List.length_set] at t6
      have t1 := hP5.c0.2.1
      have y5 := HDB2.out w5 hk5
      have y6 : (w5.setCell ⟨vb2, a, none⟩ (.slice x n c)).cell? ⟨db, 1, none⟩ = some (.int .i64 loc) := (Keeps.setCell (S := (· = vb2)) w5 (a := ⟨vb2, a, none⟩) rfl (.slice x n c)).cell y5 (fun e => HDV.out e)
      have HF : Hid (PM (w5.setCell ⟨vb2, a, none⟩ (.slice x n c)) base pb st X (upd K0 (.inl a) (.slice x n c)) R R { s with vs := s.vs.set a (l ++ [loc]) } ∧ Keeps (fun i => base ≤ i) w (w5.setCell ⟨vb2, a, none⟩ (.slice x n c))) := ⟨hP5, (HM.out.2.1.andDrew).trans hk6 (fun i e _ => e)⟩
      clear hP5 hk5 hk6 hb5 hv2
      refine hK.out _ _ ?_ (fun hHeld2 => ?_)
      · (try dsimp only); first | exact ⟨q6, q1, d1⟩ | exact ⟨r6, r1, y5⟩ | exact ⟨t6, t1, y6⟩
      clear hK K
      try simp only [Act.put, List.setIfInBounds_toArray, List.set_cons_zero, List.set_cons_succ]
      refine wpAnyH_take (i := 20) (oi := { dst := some 35, op := Op.indexAddr 30 (Operand.tmp 18) (Operand.tmp 19), type := 0, pos := "play.go:47", after := #[{ on := 3, ground := Ground.data }, { on := 4, ground := Ground.data }, { on := 0, ground := Ground.phase }, { on := 1, ground := Ground.phase }, { on := 2, ground := Ground.phase }, { on := 3, ground := Ground.phase }, { on := 4, ground := Ground.phase }, { on := 5, ground := Ground.phase }, { on := 6, ground := Ground.phase }, { on := 7, ground := Ground.phase }, { on := 8, ground := Ground.phase }, { on := 9, ground := Ground.phase }, { on := 10, ground := Ground.phase }, { on := 11, ground := Ground.phase }, { on := 12, ground := Ground.phase }, { on := 13, ground := Ground.phase }, { on := 14, ground := Ground.phase }, { on := 15, ground := Ground.phase }, { on := 16, ground := Ground.phase }, { on := 17, ground := Ground.phase }, { on := 18, ground := Ground.phase }, { on := 19, ground := Ground.phase }], guard := none }) (v := ?_) rfl (by kernel_rfl) (by kernel_rfl) (by kernel_rfl) (fun _ _ _ h => h) (Or.inl ⟨by rfl, ?_⟩) (by assumption) ?_
      rotate_left
      · (intro wz hSw; (try dsimp only at hSw); go_simp; try with_reducible rfl)
      simp only [Act.put, List.setIfInBounds_toArray, List.set_cons_zero, List.set_cons_succ]
      refine wpAnyH_ready (rs := [21]) (by kernel_rfl) (by simp) ?_
      refine AllReadyH.cons (o := { dst := none, op := Op.store 28 (Operand.tmp 35) (Operand.tmp 34), type := 0, pos := "play.go:47", after := #[{ on := 20, ground := Ground.data }, { on := 19, ground := Ground.data }, { on := 19, ground := Ground.chain }, { on := 0, ground := Ground.phase }, { on := 1, ground := Ground.phase }, { on := 2, ground := Ground.phase }, { on := 3, ground := Ground.phase }, { on := 4, ground := Ground.phase }, { on := 5, ground := Ground.phase }, { on := 6, ground := Ground.phase }, { on := 7, ground := Ground.phase }, { on := 8, ground := Ground.phase }, { on := 9, ground := Ground.phase }, { on := 10, ground := Ground.phase }, { on := 11, ground := Ground.phase }, { on := 12, ground := Ground.phase }, { on := 13, ground := Ground.phase }, { on := 14, ground := Ground.phase }, { on := 15, ground := Ground.phase }, { on := 16, ground := Ground.phase }, { on := 17, ground := Ground.phase }, { on := 18, ground := Ground.phase }, { on := 19, ground := Ground.phase }], guard := none }) rfl (fun K hK => ?_) ?_
      · go_simp
        refine hK.out _ _ ?_ (fun hHeld2 => ?_)
        · (try dsimp only); first | exact ⟨q6, q1, d1⟩ | exact ⟨r6, r1, y5⟩ | exact ⟨t6, t1, y6⟩
        clear hK K
        try simp only [Act.put, List.setIfInBounds_toArray, List.set_cons_zero, List.set_cons_succ]
        refine wpAnyH_done (by kernel_rfl) ?_ _
        go_wp2_with fail
        go_end0
        exact ⟨rfl, ⟨X, _, R, HF.out.1⟩, HF.out.2⟩
      exact AllReadyH.nil
    exact AllReadyH.nil
  exact AllReadyH.nil
end Go.Proofs.Ytdiabpoafennlab
