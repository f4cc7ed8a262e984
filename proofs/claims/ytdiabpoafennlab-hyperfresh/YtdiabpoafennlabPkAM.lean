import Derived.Test.YtdiabpoafennlabPkAL
import Derived.Test.YtdiabpoafennlabPkAD
import Derived.Deep.Cut
/-! The document's run: the current task's row is merged. -/
namespace Go.Proofs.Ytdiabpoafennlab.Rn
set_option linter.unusedVariables false
set_option maxRecDepth 20000
set_option linter.unusedSimpArgs false
open Go.RowKit Go.HeapKit Go.PlainOps

theorem line_fits {pre : List Nat} {P : List Int} {m : MS (List Int)} (h : LineOk pre P m) (hP : Fits P) {v : Nat} (hv : v ∈ pre ++ m.row) : Fits (m.vs.getD v []) := fun x hx => hP x (by
  rw [← h.cat]
  unfold catL
  exact List.mem_flatten.2 ⟨_, List.mem_map.2 ⟨v, hv, rfl⟩, hx⟩)
/-- A view in memory. -/
theorem PM.viewAt {w : World} {base pb nx : Nat} {K : RP} {X : RX} {L M R : Nat → Value} {s : PS} (h : PM w base pb K X L M R nx s) {a vb : Nat} (ha : a < s.vs.length) (hva : X.va = some ⟨vb, 0, none⟩) : ∃ x c, L a = .slice x (s.vs.getD a []).length c ∧ w.cell? ⟨vb, a * 2, none⟩ = some (.slice x (s.vs.getD a []).length c) ∧ w.cell? ⟨vb, a * 2 + 1, none⟩ = some (.int .i64 (gV K (s.vs.getD a []))) ∧ SeenV w x (s.vs.getD a []).length (iv (s.vs.getD a [])) := by
  obtain ⟨g, e, _, _, _, h4, _⟩ := own_cellS h.vw.views (k := a * 2) (range_get _ (by omega))
  obtain ⟨g', e', _, _, _, h6, _⟩ := own_cellS h.vw.views (k := a * 2 + 1) (range_get _ (by omega))
  rw [hva] at e e'
  injection e with e
  injection e with e
  injection e' with e'
  injection e' with e'
  subst e e'
  have hr := h.vw.rows a ha
  obtain ⟨x, c, hL⟩ := row_shape hr
  refine ⟨x, c, hL, ?_, ?_, ?_⟩
  · rw [h4, ← hL]
    simp [vF]
  · rw [h6]
    simp [vF, show (a * 2 + 1) % 2 = 1 by omega, show (a * 2 + 1) / 2 = a by omega]
  · rw [hL] at hr
    exact own_seen1 hr
theorem PM.viewB {w : World} {base pb nx : Nat} {K : RP} {X : RX} {L M R : Nat → Value} {s : PS} (h : PM w base pb K X L M R nx s) {a : Nat} (ha : a < s.vs.length) : ∃ vb, X.va = some ⟨vb, 0, none⟩ ∧ base ≤ vb ∧ ∀ i, w.frozen? ⟨vb, i, none⟩ = false := by
  obtain ⟨g, e, h1, _, _, _, h5⟩ := own_cellS h.vw.views (k := a * 2) (range_get _ (by omega))
  exact ⟨g, e, h1, h5⟩
theorem idx_facts {j N rc : Nat} (h : j + 1 < N) (h2 : N ≤ rc) (h3 : N ≤ 5000) : wrap64 ((j : Int) + 1) = ((j + 1 : Nat) : Int) ∧ (j : Int) < (N : Int) ∧ ((j + 1 : Nat) : Int) < (N : Int) ∧ ((j + 1 : Nat) : Int) ≤ (rc : Int) := by
  refine ⟨?_, ?_, ?_, ?_⟩
  · unfold wrap64; omega
  all_goals omega
theorem idx_facts2 {j j1 N : Nat} (h1 : j1 = j + 1) (h : j + 1 < N) (h3 : N ≤ 5000) : j1 ≤ N ∧ j1 * 8 ≤ 140737488355328 ∧ wrap64 ((j : Int) + 2) = ((j + 2 : Nat) : Int) ∧ ((j + 2 : Nat) : Int) ≤ (N : Int) := by
  refine ⟨?_, ?_, ?_, ?_⟩
  · omega
  · omega
  · unfold wrap64; omega
  · omega
theorem idx_facts3 {j j1 j2 N N1 rc : Nat} (h1 : j1 = j + 1) (h2 : j2 = j + 2) (h : j + 1 < N) (h3 : N ≤ 5000) (h4 : N1 + 1 = N) (h5 : N ≤ rc) : j1 + (N - j2) = N1 ∧ j1 + (N - j2) ≤ 1000000 ∧ j2 ≤ N ∧ (rc = j2 → N - j2 = 0 ∧ N ≤ j2) := by
  refine ⟨?_, ?_, ?_, fun e => ⟨?_, ?_⟩⟩ <;> omega
theorem keeps_new {a b c : World} (h : Keeps None a b) (k : Keeps (fun i => a.heap.size ≤ i) b c) : Keeps None a c := h.trans k (fun i e hi => absurd hi (Nat.not_lt.2 e))
theorem erase_len {r : List Nat} {j1 N N1 : Nat} (h : j1 < r.length) (hN : N = r.length) (h1 : N1 + 1 = N) : (r.eraseIdx j1).length = N1 := by
  rw [List.length_eraseIdx, if_pos h]
  omega
def cellLen : Option Value → Nat
  | some (.slice _ n _) => n
  | _ => 0
set_option maxHeartbeats 6400000 in
theorem merge_ok (base pb at0 nx : Nat) (K0 : RP) (X : RX) (L M R : Nat → Value) (s : PS) (w : World) (tk : List (Nat × List Nat)) (sp : Nat) (m0 : MS (List Int)) (pre : List Nat) (P : List Int) (h : PM w base pb K0 X L M R nx (psOf s tk sp m0)) (hK : OkK K0) (hpk : K0.pk.length ≤ 1048576) (hline : LineOk pre P m0) (hP : P.length ≤ 4096) (hf : Fits P) (h0 : 0 < m0.row.length) (hr : m0.row.length ≤ 5000) (hn : tk.length ≤ 5000) (hmg : m0.mg.length + m0.row.length ≤ 100000) :
    Calls Try.prog 41 #[.pointer (some ⟨pb, 0, none⟩), .int .i64 at0] w fun e w' => e = .returned (.tuple #[]) ∧ (∃ X' L' R' nx', PM w' base pb K0 X' L' M R' nx' (psOf s tk sp (m0.all listK at0))) ∧ Keeps (fun i => base ≤ i) w w' := by
  obtain ⟨tb, hta, -, -, -, -, -, -⟩ := h.cur rfl
  have HP : Hid (PM w base pb K0 X L M R nx (psOf s tk sp m0) ∧ X.ta = some ⟨tb, 0, none⟩) := ⟨h, hta⟩
  have HL : Hid (LineOk pre P m0 ∧ P.length ≤ 4096 ∧ 0 < m0.row.length ∧ m0.row.length ≤ 5000 ∧ m0.mg.length + m0.row.length ≤ 100000 ∧ Fits P ∧ OkK K0 ∧ K0.pk.length ≤ 1048576) := ⟨hline, hP, h0, hr, hmg, hf, hK, hpk⟩
  obtain ⟨J, hJ⟩ : ∃ J, J = tk.length := ⟨_, rfl⟩
  have HJ : Hid (J = tk.length) := hJ
  have hJn : J ≤ 5000 := by omega
  clear h hline hP h0 hr hta hmg hf hK hpk
  go_enter Try.func41, Try.ntmps41
  go_wp2_with fail
  refine (last_ok base pb nx K0 X L M R (psOf s tk sp m0) w tk (sp, m0.row) HP.out.1 rfl (by omega)).mono ?_
  rintro e w1 ⟨rfl, rfl⟩
  rw [← hJ]
  clear hJ hn
  go_wp2_with fail
  go_loopw [5, 6, 7, 8, 9, 10, 11] (fun _ _ _ _ _ _ _ wr => ∃ m X' L' R' nx', m0.all listK at0 = m.all listK at0 ∧ PM wr base pb K0 X' L' M R' nx' (psOf s tk sp m) ∧ LineOk pre P m ∧ 0 < m.row.length ∧ m.row.length ≤ 5000 ∧ m.mg.length + m.row.length ≤ 100000 ∧ X'.ta = some ⟨tb, 0, none⟩ ∧ Keeps (fun i => base ≤ i) w1 wr) (fun _ _ _ _ _ _ _ wr => cellLen (wr.cell? ⟨tb, J * 2 + 1, none⟩))
  case atStart =>
    exact ⟨m0, X, L, R, nx, rfl, HP.out.1, HL.out.1, HL.out.2.2.1, HL.out.2.2.2.1, HL.out.2.2.2.2.1, HP.out.2, Keeps.refl _ _⟩
  case round =>
    obtain ⟨m, X1, L1, R1, nx1, hall, hM, hline, hpos, hlen, hmg, hta, hk⟩ := hrel
    obtain ⟨tb', hta', hlo, hlt, hcap, t1, tf, hrow⟩ := hM.cur rfl
    have e0 := hta.symm.trans hta'
    injection e0 with e0
    injection e0 with e0
    subst e0
    obtain ⟨ra, rc, hRv⟩ := row_shape hrow
    obtain ⟨T, hT⟩ : ∃ T, T = J + 1 := ⟨_, rfl⟩
    have hTl : (psOf s tk sp m).tk.length = T := by rw [hT, HJ.out]; simp [psOf]
    obtain ⟨-, -, -, q3, -, -, -, -, -⟩ := hM.c0
    rw [hta, hTl] at q3
    obtain ⟨N, hN⟩ : ∃ N, N = m.row.length := ⟨_, rfl⟩
    rw [hRv, ← HJ.out, ← hN] at t1
    have hi0 : (J : Int) < (T : Int) := by omega
    have HM : Hid (PM wr base pb K0 X1 L1 M R1 nx1 (psOf s tk sp m) ∧ LineOk pre P m ∧ m0.all listK at0 = m.all listK at0 ∧ X1.ta = some ⟨tb, 0, none⟩ ∧ Keeps (fun i => base ≤ i) w1 wr ∧ m.mg.length + m.row.length ≤ 100000 ∧ N = m.row.length ∧ N ≤ 5000 ∧ 0 < N ∧ T = J + 1 ∧ R1 tk.length = .slice ra N rc) := ⟨hM, hline, hall, hta, hk, hmg, hN, by omega, by omega, hT, by rw [hRv, hN]⟩
    by_cases h1 : 1 < N
    · have hi1 : (1 : Int) < (N : Int) := by omega
      obtain ⟨N1, hN1⟩ : ∃ N1, N1 + 1 = N := ⟨N - 1, by omega⟩
      have hw : wrap64 ((N : Int) - 1) = ((N1 : Nat) : Int) := by unfold wrap64; omega
      have HN1 : Hid (N1 + 1 = N ∧ 1 ≤ N1 ∧ N1 ≤ 5000) := ⟨hN1, by omega, by omega⟩
      clear hM hline hall hta hk hrow hmg hta' hlo hlt hcap hTl hT hRv hN hpos hlen hN1
      go_wp2_with fail
      refine (pick_ok base pb nx1 N1 K0 X1 L1 M R1 (psOf s tk sp m) wr HM.out.1 HN1.out.2.1 (by have := HN1.out.2.2; omega) HL.out.2.2.2.2.2.2.2).mono ?_
      rintro e w2 ⟨rfl, ⟨nx2, hM2⟩, hk2⟩
      have h1' : 1 < m.row.length := by have := HM.out.2.2.2.2.2.2.1; omega
      have hj := MS.j_lt h1'
      have hjv : (psOf s tk sp m).pk.headD 0 % (N1 : Int) = ((m.j : Nat) : Int) := by
        have e1 : m.row.length - 1 = N1 := by have := HN1.out.1; have := HM.out.2.2.2.2.2.2.1; omega
        unfold MS.j
        rw [e1, Int.toNat_of_nonneg (Int.emod_nonneg _ (by omega))]
        rfl
      rw [hjv]
      clear hjv
      obtain ⟨A, a, b, B, e1, e2, e3, e4, e5⟩ := row_split hj
      obtain ⟨j, hjj⟩ : ∃ j, j = m.j := ⟨_, rfl⟩
      rw [← hjj]
      rw [← hjj] at hj e2 e3 e4 e5
      have HJJ : Hid (j = m.j ∧ m.row = A ++ a :: b :: B ∧ m.row.getD j 0 = a ∧ m.row.getD (j + 1) 0 = b ∧ j + 1 < m.row.length) := ⟨hjj, e1, e3, e4, hj⟩
      have ha1 : m.row[j]? = some a := by rw [e1, ← e2]; simp
      have hb1 : m.row[j + 1]? = some b := by rw [e1, ← e2, List.getElem?_append_right (by omega)]; simp
      have HM2 : Hid (PM w2 base pb K0 X1 L1 M R1 nx2 (psOf s tk sp { m with pk := m.pk.tail }) ∧ Keeps (fun i => base ≤ i) w1 w2) := ⟨hM2, HM.out.2.2.2.2.1.trans hk2 (fun i e _ => by have := HM.out.1.lo; omega)⟩
      have hrow := (hM2.cur rfl).choose_spec.2.2.2.2.2.2
      rw [HM.out.2.2.2.2.2.2.2.2.2.2] at hrow
      rw [← HM.out.2.2.2.2.2.2.1] at hrow
      obtain ⟨g, rfl, -, -, hrc, c1, -⟩ := own_cellS hrow (k := j) (nv_at ha1)
      obtain ⟨g', e', -, -, -, c2, -⟩ := own_cellS hrow (k := j + 1) (nv_at hb1)
      injection e' with e'
      injection e' with e'
      subst e'
      obtain ⟨j1, hj1⟩ : ∃ j1, j1 = j + 1 := ⟨_, rfl⟩
      rw [← hj1] at c2
      obtain ⟨hw5, hi2, hi3, hi5⟩ := idx_facts (j := j) (N := N) (rc := rc) (by rw [HM.out.2.2.2.2.2.2.1]; exact hj) hrc HM.out.2.2.2.2.2.2.2.1
      rw [← hj1] at hw5 hi3 hi5
      have HJ1 : Hid (j1 = j + 1 ∧ N ≤ rc) := ⟨hj1, hrc⟩
      obtain ⟨s1, s2, s3, s4⟩ := HM.out.2.1.two e1
      clear hjj e1 e2 e3 e4 e5 ha1 hb1 hrow hM2 hk2 hj1 hj h1' t1 q3 hi0 hrc tf hw
      go_upto_region 6 with fail
      obtain ⟨vb, hva, hvlo, hvf⟩ := HM2.out.1.viewB (a := a) s2
      obtain ⟨xa, ca, hLa, u0, u1, sa⟩ := HM2.out.1.viewAt (a := a) s2 hva
      obtain ⟨xb, cb, hLb, v0, v1, sb⟩ := HM2.out.1.viewAt (a := b) s3 hva
      have q2 := HM2.out.1.c0.2.2.1
      rw [hva] at q2
      obtain ⟨la, hla⟩ : ∃ la, la = m.vs.getD a [] := ⟨_, rfl⟩
      obtain ⟨lb, hlb⟩ : ∃ lb, lb = m.vs.getD b [] := ⟨_, rfl⟩
      rw [show (psOf s tk sp { m with pk := m.pk.tail }).vs = m.vs from rfl, ← hla] at u0 u1 sa
      rw [show (psOf s tk sp { m with pk := m.pk.tail }).vs = m.vs from rfl, ← hlb] at v0 v1 sb
      rw [← hla, ← hlb] at s1
      obtain ⟨na, hna⟩ : ∃ n, n = la.length := ⟨_, rfl⟩
      obtain ⟨nb, hnb⟩ : ∃ n, n = lb.length := ⟨_, rfl⟩
      obtain ⟨VL, hVL⟩ : ∃ n, n = m.vs.length := ⟨_, rfl⟩
      rw [← hna] at u0 sa s1
      rw [← hnb] at v0 sb s1
      rw [show (psOf s tk sp { m with pk := m.pk.tail }).vs.length = VL from hVL.symm] at q2
      have za : (a : Int) < (VL : Int) := by omega
      have zb : (b : Int) < (VL : Int) := by omega
      have hsz2 := HM2.out.1.size
      have hnn : na + nb ≤ 4096 := Nat.le_trans s1 HL.out.2.1
      obtain ⟨y, cy, w3, hr3, ho3, hk3, hy3⟩ := copy64 base w2 xa na ca la 28 sa (by omega) hsz2
      obtain ⟨z, cz, w4, hr4, ho4, hk4, hz4⟩ := join64 base w2.heap.size w3 y na cy la xb nb cb lb 28 ho3 (sb.more hk3) (by omega) (Nat.le_trans hsz2 hk3.size) hk3.size hy3
      have hk24 : Keeps None w2 w4 := hk3.trans hk4 (fun i e hi => by omega)
      have kA := Keeps.alloc None w2 (.cells #[] 2)
      have q2A := kA.cell q2 (fun f => f)
      have u0A := kA.cell u0 (fun f => f)
      have q23 := hk3.cell q2 (fun f => f)
      have v03 := hk3.cell v0 (fun f => f)
      have q24 := hk24.cell q2 (fun f => f)
      have u14 := hk24.cell u1 (fun f => f)
      have v14 := hk24.cell v1 (fun f => f)
      have fl : Fits la := by rw [hla]; exact line_fits HM.out.2.1 HL.out.2.2.2.2.2.1 (by rw [HJJ.out.2.1]; simp)
      have fr : Fits lb := by rw [hlb]; exact line_fits HM.out.2.1 HL.out.2.2.2.2.2.1 (by rw [HJJ.out.2.1]; simp)
      have HG : Hid (apV K0 (gV K0 la) (gV K0 lb) = gV K0 (la ++ lb) ∧ (-9223372036854775808 ≤ gV K0 la ∧ gV K0 la ≤ 9223372036854775807) ∧ (-9223372036854775808 ≤ gV K0 lb ∧ gV K0 lb ≤ 9223372036854775807)) := ⟨gV_join HL.out.2.2.2.2.2.2.1 la lb fl fr, gV_fits HL.out.2.2.2.2.2.2.1 la fl, gV_fits HL.out.2.2.2.2.2.2.1 lb fr⟩
      have HM4 : Hid (PM w4 base pb K0 X1 L1 M R1 nx2 (psOf s tk sp { m with pk := m.pk.tail }) ∧ Keeps (fun i => base ≤ i) w1 w4 ∧ w4.ownsRow base 2 1 (.slice z (na + nb) cz) (na + nb) (iv (la ++ lb)) ∧ X1.va = some ⟨vb, 0, none⟩ ∧ na + nb = (la ++ lb).length ∧ la = m.vs.getD a [] ∧ lb = m.vs.getD b [] ∧ a < m.vs.length ∧ base ≤ vb) := ⟨HM2.out.1.more hk24, keeps_tr HM2.out.2 hk24, ho4, hva, by rw [List.length_append, hna, hnb], hla, hlb, s2, hvlo⟩
      have HVF : Hid (∀ wx, PM wx base pb K0 X1 L1 M R1 nx2 (psOf s tk sp { m with pk := m.pk.tail }) → ∀ i, wx.frozen? ⟨vb, i, none⟩ = false) := fun wx hx => by
        obtain ⟨vb', e, -, hf⟩ := hx.viewB (a := a) s2
        rw [hva] at e
        injection e with e
        injection e with e
        subst e
        exact hf
      clear q2 u0 u1 v0 v1 hva hvlo hvf hLa hLb sa sb hla hlb hna hnb hVL s1 s2 s3 s4 ho3 hk3 hy3 ho4 hk4 hz4 hk24 kA c1 c2 fl fr hsz2 hnn
      go_upto_region 7 with (at_builtin; refine wpList_append_run rfl (.tmp 46) (.tmp 54) 28 28 rfl rfl rfl hr3 ?_)
      clear q2A u0A hr3
      go_upto_region 8 with (at_builtin; refine wpList_append_run rfl (.tmp 56) (.tmp 64) 28 28 rfl rfl rfl hr4 ?_)
      clear q23 v03 hr4
      obtain ⟨ga, hga⟩ : ∃ ga, ga = gV K0 la := ⟨_, rfl⟩
      obtain ⟨gb, hgb⟩ : ∃ gb, gb = gV K0 lb := ⟨_, rfl⟩
      rw [← hga] at u14 HG
      rw [← hgb] at v14 HG
      have hkc : Keeps None w4 w4.drew := Keeps.drew None w4
      have hs : w4.drew.cell? ⟨pb, 2, none⟩ = some (.slice (some ⟨vb, 0, none⟩) VL X1.vc) ∧ w4.drew.cell? ⟨vb, a * 2 + 1, none⟩ = some (.int .i64 ga) ∧ w4.drew.cell? ⟨vb, b * 2 + 1, none⟩ = some (.int .i64 gb) := ⟨q24, u14, v14⟩
      clear hga hgb q24 u14 v14
      go_region_held3 (fun wx => wx.cell? ⟨pb, 2, none⟩ = some (.slice (some ⟨vb, 0, none⟩) VL X1.vc) ∧ wx.cell? ⟨vb, a * 2 + 1, none⟩ = some (.int .i64 ga) ∧ wx.cell? ⟨vb, b * 2 + 1, none⟩ = some (.int .i64 gb)) (first | exact hs | go_keep) (first
        | (go_at_call 61; refine Calls.mono (apply_ok base pb nx2 K0 X1 L1 M R1 _ _ ga gb (HM4.out.1.more hkc) HL.out.2.2.2.2.2.2.1 HG.out.2.1 HG.out.2.2) ?_; rintro _ wn ⟨rfl, rfl⟩; rw [HG.out.1]))
      all_goals
        obtain ⟨w5, hw5'⟩ : ∃ w5, w5 = w4.drew := ⟨_, rfl⟩
        rw [← hw5'] at hs hkc ⊢
        obtain ⟨z2, z3, z4⟩ := hs
        obtain ⟨xa', ca', -, u0, u1, -⟩ := (HM4.out.1.more hkc).viewAt (a := a) HM4.out.2.2.2.2.2.2.2.1 HM4.out.2.2.2.1
        have f0 := HVF.out _ (HM4.out.1.more hkc) (a * 2)
        have f1 := HVF.out _ (HM4.out.1.more hkc) (a * 2 + 1)
        have hP6 := (HM4.out.1.more hkc).putView (v := a) (V := .slice z (na + nb) cz) (l := la ++ lb) HM4.out.2.2.2.2.2.2.2.1 HM4.out.2.2.2.1 (by rw [← HM4.out.2.2.2.2.1]; exact row_kept HM4.out.2.2.1 hkc (fun _ _ f => f))
        have HM6 : Hid (PM ((w5.setCell ⟨vb, a * 2, none⟩ (.slice z (na + nb) cz)).setCell ⟨vb, a * 2 + 1, none⟩ (.int .i64 (gV K0 (la ++ lb)))) base pb K0 X1 (upd L1 a (.slice z (na + nb) cz)) M R1 nx2 (psOf s tk sp { m with pk := m.pk.tail, vs := m.vs.set a (m.vs.getD a [] ++ m.vs.getD b []) }) ∧ Keeps (fun i => base ≤ i) w1 ((w5.setCell ⟨vb, a * 2, none⟩ (.slice z (na + nb) cz)).setCell ⟨vb, a * 2 + 1, none⟩ (.int .i64 (gV K0 (la ++ lb))))) := by
          refine ⟨?_, ((keeps_tr HM4.out.2.1 hkc).andSet (x := ⟨vb, a * 2, none⟩) (.inl HM4.out.2.2.2.2.2.2.2.2) _).andSet (x := ⟨vb, a * 2 + 1, none⟩) (.inl HM4.out.2.2.2.2.2.2.2.2) _⟩
          rw [← HM4.out.2.2.2.2.2.1, ← HM4.out.2.2.2.2.2.2.1]
          exact hP6
        clear hP6 hw5'
        go_upto_region 10 with fail
        generalize (w5.setCell ⟨vb, a * 2, none⟩ (.slice z (na + nb) cz)).setCell ⟨vb, a * 2 + 1, none⟩ (.int .i64 (gV K0 (la ++ lb))) = w6 at *
        clear z2 z3 z4 u0 u1 f0 f1 hkc HVF HM4 HG
        have hrow := (HM6.out.1.cur rfl).choose_spec.2.2.2.2.2.2
        rw [HM.out.2.2.2.2.2.2.2.2.2.2] at hrow
        rw [← HM.out.2.2.2.2.2.2.1] at hrow
        have hseen := own_seen1 hrow
        have hjN := HJJ.out.2.2.2.2
        rw [← HM.out.2.2.2.2.2.2.1] at hjN
        have hN5 := HM.out.2.2.2.2.2.2.2.1
        obtain ⟨n1, n2, hw6, hi6⟩ := idx_facts2 HJ1.out.1 hjN hN5
        obtain ⟨y7, c7, w7, hr7, ho7, hk7, hy7⟩ := copyI base w6 (some ⟨g, 0, none⟩) j1 rc ((nI m.row).take j1) 24 (by rw [← iv_take]; exact seen_take hseen n1) n2 HM6.out.1.size
        obtain ⟨j2, hj2⟩ : ∃ j2, j2 = j + 2 := ⟨_, rfl⟩
        rw [← hj2] at hw6 hi6
        clear n1 n2
        have HS7 : Hid (SeenV w6 (some ⟨g, 0, none⟩) N (iv (nI m.row)) ∧ w7.ownsRow base 3 1 (.slice y7 j1 c7) j1 (iv ((nI m.row).take j1)) ∧ Keeps None w6 w7 ∧ (∀ b, (Value.slice y7 j1 c7).ownBlock = some b → w6.heap.size ≤ b) ∧ j2 = j + 2 ∧ j + 1 < N ∧ N ≤ 5000) := ⟨hseen, ho7, hk7, hy7, hj2, hjN, hN5⟩
        clear hrow hseen hjN hN5 ho7 hk7 hy7 hj2
        go_upto_region 11 with (at_builtin; refine wpList_append_run rfl (.tmp 93) (.tmp 97) 24 24 rfl rfl rfl hr7 ?_)
        clear hr7
        go_cut [11] (fun v wx => ∃ y c, v = .slice y N1 c ∧ wx.ownsRow base 3 1 (.slice y N1 c) N1 (nv (m.row.eraseIdx j1)) ∧ Keeps None w6 wx)
        case first =>
          obtain ⟨eN, n1, n2, n3⟩ := idx_facts3 HJ1.out.1 HS7.out.2.2.2.2.1 HS7.out.2.2.2.2.2.1 HS7.out.2.2.2.2.2.2 HN1.out.1 HJ1.out.2
          have eI : iv ((nI m.row).take j1 ++ (nI m.row).drop j2) = nv (m.row.eraseIdx j1) := by
            rw [HS7.out.2.2.2.2.1, HJ1.out.1, erase_nI]
            rfl
          have hLl : (nI m.row).length = N := by rw [HM.out.2.2.2.2.2.2.1]; simp [nI]
          by_cases e1 : rc = j2
          · obtain ⟨e3, e5⟩ := n3 e1
            obtain rfl : j2 = rc := e1.symm
            have e4 : (nI m.row).drop j2 = [] := List.drop_eq_nil_of_le (by rw [hLl]; exact e5)
            obtain ⟨y8, c8, w8, hr8, ho8, hk8, -⟩ := joinI base w6.heap.size w7 y7 j1 c7 _ (some ⟨g, 0, none⟩) (N - j2) 0 ((nI m.row).drop j2) 24 HS7.out.2.1 (by rw [e3, e4]; exact SeenV.nil _ _) n1 (Nat.le_trans HM6.out.1.size HS7.out.2.2.1.size) HS7.out.2.2.1.size HS7.out.2.2.2.1
            rw [eN] at hr8 ho8
            rw [eI] at ho8
            have HO : Hid (w8.ownsRow base 3 1 (.slice y8 N1 c8) N1 (nv (m.row.eraseIdx j1)) ∧ Keeps None w6 w8) := ⟨ho8, keeps_new HS7.out.2.2.1 hk8⟩
            clear ho8 hk8 e3 e4 e5 eN eI hLl n1 n2 n3
            go_wp2_with (at_builtin; refine wpList_append_run rfl (.tmp 99) (.tmp 103) 24 24 rfl rfl rfl hr8 ?_)
            go_meet
            exact ⟨y8, c8, rfl, HO.out.1, HO.out.2⟩
          · have hsd : SeenV w7 (some ⟨g, j2, none⟩) (N - j2) (iv ((nI m.row).drop j2)) := by
              have h := seen_drop (HS7.out.1.more HS7.out.2.2.1) (k := j2) n2
              rw [Nat.zero_add, iv_drop] at h
              exact h
            obtain ⟨y8, c8, w8, hr8, ho8, hk8, -⟩ := joinI base w6.heap.size w7 y7 j1 c7 _ (some ⟨g, j2, none⟩) (N - j2) (rc - j2) ((nI m.row).drop j2) 24 HS7.out.2.1 hsd n1 (Nat.le_trans HM6.out.1.size HS7.out.2.2.1.size) HS7.out.2.2.1.size HS7.out.2.2.2.1
            rw [eN] at hr8 ho8
            rw [eI] at ho8
            have HO : Hid (w8.ownsRow base 3 1 (.slice y8 N1 c8) N1 (nv (m.row.eraseIdx j1)) ∧ Keeps None w6 w8) := ⟨ho8, keeps_new HS7.out.2.2.1 hk8⟩
            clear ho8 hk8 hsd eN eI hLl n1 n2 n3
            go_wp2_with (at_builtin; refine wpList_append_run rfl (.tmp 99) (.tmp 103) 24 24 rfl rfl rfl hr8 ?_)
            go_meet
            exact ⟨y8, c8, rfl, HO.out.1, HO.out.2⟩
        case rest =>
          obtain ⟨y9, c9, rfl, ho9, hk9⟩ := hcut
          have hM9 := HM6.out.1.more hk9
          obtain ⟨tb', hta', hlo, hlt, hcap, t1, tf, -⟩ := hM9.cur rfl
          have e0 := HM.out.2.2.2.1.symm.trans hta'
          injection e0 with e0
          injection e0 with e0
          subst e0
          rw [← HJ.out] at t1
          have q3 := hM9.c0.2.2.2.1
          rw [HM.out.2.2.2.1, show (psOf s tk sp { m with pk := m.pk.tail, vs := m.vs.set a (m.vs.getD a [] ++ m.vs.getD b []) }).tk.length = T by rw [HM.out.2.2.2.2.2.2.2.2.2.1, HJ.out]; simp [psOf]] at q3
          have f1 := tf (J * 2 + 1)
          have hi0 : (J : Int) < (T : Int) := by have := HM.out.2.2.2.2.2.2.2.2.2.1; omega
          have hlr : (m.row.eraseIdx j1).length = N1 := erase_len (by rw [HJ1.out.1]; exact HJJ.out.2.2.2.2) HM.out.2.2.2.2.2.2.1 HN1.out.1
          have hP := hM9.putRow (r' := m.row.eraseIdx j1) (V := .slice y9 N1 c9) rfl hta' (by rw [hlr]; exact ho9)
          rw [← HJ.out] at hP
          have HP9 : Hid (PM (wc.setCell ⟨tb, J * 2 + 1, none⟩ (.slice y9 N1 c9)) base pb K0 X1 (upd L1 a (.slice z (na + nb) cz)) M (upd R1 J (.slice y9 N1 c9)) nx2 (psOf s tk sp { m with pk := m.pk.tail, vs := m.vs.set a (m.vs.getD a [] ++ m.vs.getD b []), row := m.row.eraseIdx j1 }) ∧ Keeps (fun i => base ≤ i) w1 (wc.setCell ⟨tb, J * 2 + 1, none⟩ (.slice y9 N1 c9))) := ⟨hP, (keeps_tr HM6.out.2 hk9).andSet (x := ⟨tb, J * 2 + 1, none⟩) (.inl hlo) _⟩
          clear hM9 hta' hlo hlt hcap tf ho9 hk9 hP HM6 HS7 hw5 hw6 hi5 hi6
          go_upto_region 13 with fail
          generalize wc.setCell ⟨tb, J * 2 + 1, none⟩ (.slice y9 N1 c9) = w9 at *
          clear q3 f1 t1 hi0
          have hd := HP9.out.1.more (Keeps.alloc None w9 (.cells #[.int .i64 at0, .int .i64 a, .int .i64 b] 96))
          obtain ⟨gm, cp, w10, hr, ho, hk10⟩ := merge_more base (.slice X1.ma m.mg.length X1.mc) m.mg (at0, a, b) 29 w9.heap.size (w9.alloc (.cells #[.int .i64 at0, .int .i64 a, .int .i64 b] 96)) hd.mg hd.size (by have := HM.out.2.2.2.2.2.1; omega) (blk_new _ _ _ rfl)
          have hP10 : PM (w10.setCell ⟨pb, 9, none⟩ (.slice (some ⟨gm, 0, none⟩) (m.mg.length + 1) cp)) base pb K0 { X1 with ma := some ⟨gm, 0, none⟩, mc := cp } (upd L1 a (.slice z (na + nb) cz)) M (upd R1 J (.slice y9 N1 c9)) nx2 (psOf s tk sp ⟨m.vs.set a (m.vs.getD a [] ++ m.vs.getD b []), m.row.eraseIdx j1, m.mg ++ [(at0, a, b)], m.pk.tail⟩) := hd.newMerge (x := (at0, a, b)) ho hk10
          have hb10 := blk_other hd.blk hk10 (onlyT_own hd.mg) (by decide)
          have q9 : w9.cell? ⟨pb, 9, none⟩ = some (.slice X1.ma m.mg.length X1.mc) := HP9.out.1.c0.2.2.2.2.2.2.2.1
          have f9 : w10.frozen? ⟨pb, 9, none⟩ = false := blk_free hb10 9
          have q910 : w10.cell? ⟨pb, 9, none⟩ = some (.slice X1.ma m.mg.length X1.mc) := blk_cell hb10 9
          have hone : m.one listK at0 = ⟨m.vs.set a (m.vs.getD a [] ++ m.vs.getD b []), m.row.eraseIdx j1, m.mg ++ [(at0, a, b)], m.pk.tail⟩ := by
            unfold MS.one MS.l MS.r
            rw [← HJJ.out.1, HJJ.out.2.2.1, HJJ.out.2.2.2.1, HJ1.out.1]
            rfl
          have hkeep := ((HP9.out.2.andAlloc (.cells #[.int .i64 at0, .int .i64 a, .int .i64 b] 96)).trans hk10 (fun i e _ => row_low hd.mg e)).andSet (x := ⟨pb, 9, none⟩) (.inl HP9.out.1.lo) (.slice (some ⟨gm, 0, none⟩) (m.mg.length + 1) cp)
          have hc10 := (hP10.cur rfl)
          have HE : Hid ((∃ m' X' L' R' nx', m0.all listK at0 = m'.all listK at0 ∧ PM (w10.setCell ⟨pb, 9, none⟩ (.slice (some ⟨gm, 0, none⟩) (m.mg.length + 1) cp)) base pb K0 X' L' M R' nx' (psOf s tk sp m') ∧ LineOk pre P m' ∧ 0 < m'.row.length ∧ m'.row.length ≤ 5000 ∧ m'.mg.length + m'.row.length ≤ 100000 ∧ X'.ta = some ⟨tb, 0, none⟩ ∧ Keeps (fun i => base ≤ i) w1 (w10.setCell ⟨pb, 9, none⟩ (.slice (some ⟨gm, 0, none⟩) (m.mg.length + 1) cp))) ∧ cellLen ((w10.setCell ⟨pb, 9, none⟩ (.slice (some ⟨gm, 0, none⟩) (m.mg.length + 1) cp)).cell? ⟨tb, J * 2 + 1, none⟩) < cellLen (wr.cell? ⟨tb, J * 2 + 1, none⟩)) := by
            refine ⟨⟨m.one listK at0, { X1 with ma := some ⟨gm, 0, none⟩, mc := cp }, upd L1 a (.slice z (na + nb) cz), upd R1 J (.slice y9 N1 c9), nx2, HM.out.2.2.1.trans (all_step listK at0 (by have := HM.out.2.2.2.2.2.2.1; omega)), by rw [hone]; exact hP10, HM.out.2.1.one at0 (by have := HM.out.2.2.2.2.2.2.1; omega), by rw [hone]; show 0 < (m.row.eraseIdx j1).length; have := HN1.out.2.1; omega, by rw [hone]; show (m.row.eraseIdx j1).length ≤ 5000; have := HN1.out.2.2; omega, ?_, HM.out.2.2.2.1, hkeep⟩, ?_⟩
            · rw [hone]
              show (m.mg ++ [(at0, a, b)]).length + (m.row.eraseIdx j1).length ≤ 100000
              have := HM.out.2.2.2.2.2.1
              have := HM.out.2.2.2.2.2.2.1
              have := HN1.out.1
              simp only [List.length_append, List.length_singleton]
              omega
            · obtain ⟨tb2, e6, -, -, -, t6, -, -⟩ := hc10
              have e7 := HM.out.2.2.2.1.symm.trans e6
              injection e7 with e7
              injection e7 with e7
              subst e7
              rw [← HJ.out, upd_eq] at t6
              obtain ⟨tb3, e8, -, -, -, t8, -, -⟩ := HM.out.1.cur rfl
              have e9 := HM.out.2.2.2.1.symm.trans e8
              injection e9 with e9
              injection e9 with e9
              subst e9
              rw [HM.out.2.2.2.2.2.2.2.2.2.2, ← HJ.out] at t8
              rw [t6, t8]
              have := HN1.out.1
              simp only [cellLen]
              omega
          clear hd ho hk10 hP10 hb10 hone hkeep hc10
          go_wp2_with (at_builtin; refine wpList_append_run rfl (.tmp 118) (.tmp 123) 29 29 rfl rfl rfl hr ?_)
          exact HE.out
    · have hi1 : ¬ (1 : Int) < (N : Int) := by omega
      have hl1 : m.row.length = 1 := by omega
      have HE : Hid (m0.all listK at0 = m) := hall.trans (all_one listK at0 hl1)
      clear hM hline hall hta hk hrow hmg hl1 hta' hlo hlt hcap hTl hT hRv hN hpos hlen
      go_wp2
      go_end0
      rw [HE.out]
      exact ⟨rfl, ⟨_, _, _, _, HM.out.1⟩, HM.out.2.2.2.2.1⟩
end Go.Proofs.Ytdiabpoafennlab.Rn
/-! The document's run: a deed that puts. -/
namespace Go.Proofs.Ytdiabpoafennlab.Rn
set_option linter.unusedVariables false
set_option maxRecDepth 20000
set_option linter.unusedSimpArgs false
open Go.RowKit Go.HeapKit Go.PlainOps

set_option maxHeartbeats 3200000 in
theorem do_write (base pb at0 nx : Nat) (K0 : RP) (X : RX) (L M R : Nat → Value) (s : PS) (w : World) (tk : List (Nat × List Nat)) (sp : Nat) (r : List Nat) (loc : Int) (st0 : Option Addr) (sn sc : Nat) (h : PM w base pb K0 X L M R nx s) (hK : OkK K0) (hx : s.tk = tk ++ [(sp, r)]) (hr : r ≠ []) (hn : tk.length ≤ 100000) (hn2 : r.length ≤ 100000) (a : Nat) (ha : a = r.getLastD 0) (l : List Int) (hll : s.vs.getD a [] = l) (hv : a < s.vs.length) (hl : l.length ≤ 100000) (hfl : Fits l) (hfx : -9223372036854775808 ≤ loc ∧ loc ≤ 9223372036854775807) :
    Calls Try.prog 40 #[.pointer (some ⟨pb, 0, none⟩), .int .i64 at0, .agg #[.int .i64 4, .int .i64 loc], .slice st0 sn sc] w fun e w' => e = .returned (.tuple #[]) ∧ (∃ X' L', PM w' base pb K0 X' L' M R nx { s with vs := s.vs.set a (l ++ [loc]) }) ∧ Keeps (fun i => base ≤ i) w w' := by
  have HP : Hid (PM w base pb K0 X L M R nx s ∧ s.tk = tk ++ [(sp, r)] ∧ r ≠ [] ∧ a < s.vs.length ∧ s.vs.getD a [] = l ∧ a = r.getLastD 0 ∧ OkK K0 ∧ Fits l) := ⟨h, hx, hr, hv, hll, ha, hK, hfl⟩
  have HFX : Hid (-9223372036854775808 ≤ loc ∧ loc ≤ 9223372036854775807) := hfx
  clear h hx hr hv hll ha hK hfl hfx
  have hb0 := blk_new w (.cells #[.int .i64 4, .int .i64 loc] 44) w.heap.size rfl
  have hkb := (Keeps.alloc None w (.cells #[.int .i64 4, .int .i64 loc] 44))
  obtain ⟨db, hdb⟩ : ∃ db, db = w.heap.size := ⟨_, rfl⟩
  rw [← hdb] at hb0
  go_enter Try.func40, Try.ntmps40
  go_upto_region 1 with fail
  rw [← hdb]
  clear hdb
  generalize w.alloc (.cells #[.int .i64 4, .int .i64 loc] 44) = wa at *
  have HA : Hid (PM wa base pb K0 X L M R nx s ∧ Keeps None w wa ∧ wa.heap[db]? = some (.cells #[.int .i64 4, .int .i64 loc] 44 (0, 0))) := ⟨HP.out.1.more hkb, hkb, hb0⟩
  clear hb0 hkb
  go_wp2_with fail
  refine (hand_ok base pb nx K0 X L M R s wa tk sp r HA.out.1 HP.out.2.1 HP.out.2.2.1 hn hn2).mono ?_
  rintro e w2 ⟨rfl, hk1⟩
  rw [← HP.out.2.2.2.2.2.1]
  have HM2 : Hid (PM w2 base pb K0 X L M R nx s ∧ Keeps (fun i => base ≤ i) w w2) := ⟨HA.out.1.more hk1, (keeps_tr HA.out.2.1 hk1).mono (fun _ f _ => f.elim)⟩
  have hD2 := blk_kept HA.out.2.2 hk1 (fun f => f)
  have d0 : w2.cell? ⟨db, 0, none⟩ = some (.int .i64 4) := blk_cell hD2 0
  have d1 : w2.cell? ⟨db, 1, none⟩ = some (.int .i64 loc) := blk_cell hD2 1
  clear hk1 hD2
  go_upto_region 4 with fail
  obtain ⟨vb, hva, hvlo, hvf⟩ := HM2.out.1.viewB (a := a) HP.out.2.2.2.1
  obtain ⟨xa, ca, hLa, u0, u1, sa⟩ := HM2.out.1.viewAt (a := a) HP.out.2.2.2.1 hva
  have q2 := HM2.out.1.c0.2.2.1
  rw [hva] at q2
  rw [HP.out.2.2.2.2.1] at u0 u1 sa
  obtain ⟨na, hna⟩ : ∃ n, n = l.length := ⟨_, rfl⟩
  obtain ⟨VL, hVL⟩ : ∃ n, n = s.vs.length := ⟨_, rfl⟩
  rw [← hna] at u0 sa hl
  rw [← hVL] at q2
  have za : (a : Int) < (VL : Int) := by have := HP.out.2.2.2.1; omega
  have hsz2 := HM2.out.1.size
  obtain ⟨y, cy, w3, hr3, ho3, hk3, hy3⟩ := copy64 base w2 xa na ca l 28 sa (by omega) hsz2
  have kB := Keeps.alloc None w3 (.cells #[.int .i64 loc] 2)
  have hsl : SeenV (w3.alloc (.cells #[.int .i64 loc] 2)) (some ⟨w3.heap.size, 0, none⟩) 1 (iv [loc]) := ⟨rfl, fun _ => ⟨_, _, rfl, by simp, fun k v hv => by
    have hk : k = 0 := by have := (List.getElem?_eq_some_iff.1 hv).1; simp [iv] at this; exact this
    subst hk
    rw [Nat.zero_add, blk_cell (blk_new w3 (.cells #[.int .i64 loc] 2) _ rfl)]
    simpa [iv] using hv⟩⟩
  obtain ⟨z, cz, w4, hr4, ho4, hk4, hz4⟩ := join64 base w2.heap.size (w3.alloc (.cells #[.int .i64 loc] 2)) y na cy l (some ⟨w3.heap.size, 0, none⟩) 1 1 [loc] 28 (ho3.alloc _) hsl (by omega) (Nat.le_trans hsz2 (Nat.le_trans hk3.size kB.size)) (Nat.le_trans hk3.size kB.size) hy3
  have hk24 : Keeps None w2 w4 := (hk3.trans kB (fun _ f _ => f)).trans hk4 (fun i e hi => by omega)
  have kA := Keeps.alloc None w2 (.cells #[] 2)
  have q2A := kA.cell q2 (fun f => f)
  have u0A := kA.cell u0 (fun f => f)
  have d13 := hk3.cell d1 (fun f => f)
  have q24 := hk24.cell q2 (fun f => f)
  have u14 := hk24.cell u1 (fun f => f)
  have d14 := hk24.cell d1 (fun f => f)
  have HG : Hid (apV K0 (gV K0 l) loc = gV K0 (l ++ [loc]) ∧ (-9223372036854775808 ≤ gV K0 l ∧ gV K0 l ≤ 9223372036854775807)) := ⟨gV_put l loc, gV_fits HP.out.2.2.2.2.2.2.1 l HP.out.2.2.2.2.2.2.2⟩
  have HM4 : Hid (PM w4 base pb K0 X L M R nx s ∧ Keeps (fun i => base ≤ i) w w4 ∧ w4.ownsRow base 2 1 (.slice z (na + 1) cz) (na + 1) (iv (l ++ [loc])) ∧ X.va = some ⟨vb, 0, none⟩ ∧ na + 1 = (l ++ [loc]).length ∧ base ≤ vb) := ⟨HM2.out.1.more hk24, keeps_tr HM2.out.2 hk24, ho4, hva, by rw [List.length_append, hna]; rfl, hvlo⟩
  have HVF : Hid (∀ wx, PM wx base pb K0 X L M R nx s → ∀ i, wx.frozen? ⟨vb, i, none⟩ = false) := fun wx hx => by
    obtain ⟨vb', e, -, hf⟩ := hx.viewB (a := a) HP.out.2.2.2.1
    rw [hva] at e
    injection e with e
    injection e with e
    subst e
    exact hf
  clear q2 u0 u1 hva hvlo hvf hLa sa hna hVL ho3 hk3 hy3 ho4 hk4 hz4 hk24 kA kB hsl hsz2 d0 d1
  go_upto_region 5 with (at_builtin; refine wpList_append_run rfl (.tmp 19) (.tmp 27) 28 28 rfl rfl rfl hr3 ?_)
  clear q2A u0A hr3
  go_upto_region 6 with (at_builtin; refine wpList_append_run rfl (.tmp 29) (.tmp 32) 28 28 rfl rfl rfl hr4 ?_)
  clear hr4 d13
  obtain ⟨ga, hga⟩ : ∃ ga, ga = gV K0 l := ⟨_, rfl⟩
  rw [← hga] at u14 HG
  have hkc : Keeps None w4 w4.drew := Keeps.drew None w4
  have hs : w4.drew.cell? ⟨pb, 2, none⟩ = some (.slice (some ⟨vb, 0, none⟩) VL X.vc) ∧ w4.drew.cell? ⟨vb, a * 2 + 1, none⟩ = some (.int .i64 ga) ∧ w4.drew.cell? ⟨db, 1, none⟩ = some (.int .i64 loc) := ⟨q24, u14, d14⟩
  clear hga q24 u14 d14
  go_region_held3 (fun wx => wx.cell? ⟨pb, 2, none⟩ = some (.slice (some ⟨vb, 0, none⟩) VL X.vc) ∧ wx.cell? ⟨vb, a * 2 + 1, none⟩ = some (.int .i64 ga) ∧ wx.cell? ⟨db, 1, none⟩ = some (.int .i64 loc)) (first | exact hs | go_keep) (first
    | (go_at_call 61; refine Calls.mono (apply_ok base pb nx K0 X L M R _ _ ga loc (HM4.out.1.more hkc) HP.out.2.2.2.2.2.2.1 HG.out.2 HFX.out) ?_; rintro _ wn ⟨rfl, rfl⟩; rw [HG.out.1]))
  all_goals
    obtain ⟨w5, hw5'⟩ : ∃ w5, w5 = w4.drew := ⟨_, rfl⟩
    rw [← hw5'] at hs hkc ⊢
    obtain ⟨z2, z3, z4⟩ := hs
    obtain ⟨xa', ca', -, u0, u1, -⟩ := (HM4.out.1.more hkc).viewAt (a := a) HP.out.2.2.2.1 HM4.out.2.2.2.1
    have f0 := HVF.out _ (HM4.out.1.more hkc) (a * 2)
    have f1 := HVF.out _ (HM4.out.1.more hkc) (a * 2 + 1)
    have hP6 := (HM4.out.1.more hkc).putView (v := a) (V := .slice z (na + 1) cz) (l := l ++ [loc]) HP.out.2.2.2.1 HM4.out.2.2.2.1 (by rw [← HM4.out.2.2.2.2.1]; exact row_kept HM4.out.2.2.1 hkc (fun _ _ f => f))
    have HM6 : Hid (PM ((w5.setCell ⟨vb, a * 2, none⟩ (.slice z (na + 1) cz)).setCell ⟨vb, a * 2 + 1, none⟩ (.int .i64 (gV K0 (l ++ [loc])))) base pb K0 X (upd L a (.slice z (na + 1) cz)) M R nx { s with vs := s.vs.set a (l ++ [loc]) } ∧ Keeps (fun i => base ≤ i) w ((w5.setCell ⟨vb, a * 2, none⟩ (.slice z (na + 1) cz)).setCell ⟨vb, a * 2 + 1, none⟩ (.int .i64 (gV K0 (l ++ [loc]))))) :=
      ⟨hP6, ((keeps_tr HM4.out.2.1 hkc).andSet (x := ⟨vb, a * 2, none⟩) (.inl HM4.out.2.2.2.2.2) _).andSet (x := ⟨vb, a * 2 + 1, none⟩) (.inl HM4.out.2.2.2.2.2) _⟩
    clear hP6 hw5'
    go_wp2_with fail
    go_end0
    exact ⟨rfl, ⟨_, _, HM6.out.1⟩, HM6.out.2⟩
end Go.Proofs.Ytdiabpoafennlab.Rn
