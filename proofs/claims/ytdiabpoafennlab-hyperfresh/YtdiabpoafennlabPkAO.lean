import Derived.Test.YtdiabpoafennlabPkAM
import Derived.Test.YtdiabpoafennlabPkAG
/-! The document's run: a deed that returns. -/
--SHORT 500
namespace Go.Proofs.Ytdiabpoafennlab.Rn
set_option linter.unusedVariables false
set_option maxRecDepth 20000
set_option linter.unusedSimpArgs false
open Go.RowKit Go.HeapKit Go.PlainOps

/-- 'append' of a whole list behind an empty one that lies in a block of its own. -/
theorem copyB (base : Nat) (w W : World) (hk : Keeps None w W) (b : Nat) (hA : W.heap[b]? = some (.cells #[] 3 (0, 0))) (hlb : w.heap.size ≤ b) (hb : base ≤ w.heap.size) (a : Option Addr) (n c : Nat) (l : List Int) (ty : TypeId) (h : SeenV w a n (iv l)) (hn : n ≤ 1000000) :
    ∃ x cap w', (Builtin.append_ #[24, 24] ty #[.slice (some ⟨b, 0, none⟩) 0 0, .slice a n c]).run Try.prog W = .ok (.slice x n cap) w' ∧
      w'.ownsRow base 3 1 (.slice x n cap) n (iv l) ∧ Keeps (· = b) W w' ∧ ∀ k, (Value.slice x n cap).ownBlock = some k → w.heap.size ≤ k := by
  obtain ⟨i0, hi, hz0, hz1, hz2⟩ := info_parts Try.infoI
  obtain ⟨v', w', hr, ho, hk2, -, -⟩ := run_append_all (P := Try.prog) W w.heap.size 24 ty 3 i0 _ 1 8 Try.underlying24 hi hz0 hz1 hz2 rfl (by decide) (.slice (some ⟨b, 0, none⟩) 0 0) 0 []
    ⟨by simp, .inr ⟨b, 0, #[], rfl, hlb, hA, by simp, by simp, by simp, by simp⟩⟩ a n c (iv l) (by have := h.len; omega) (fun h0 => by obtain ⟨b, off, e, _, hc⟩ := (h.more hk).ex h0; exact ⟨b, off, e, hc⟩) iv_one (by unfold maxLen; omega) (by omega) hk.size
  have ho2 : w'.ownsRow w.heap.size 3 1 v' n (iv l) := by simpa using ho
  obtain ⟨x, cap, rfl⟩ := row_shape ho2
  exact ⟨x, cap, w', hr, row_base ho2 hb, hk2.mono (fun i e _ => by simp [Value.ownBlock] at e; exact e.symm), own_lo ho2⟩
theorem seen_one {w : World} {b v : Nat} (h : w.heap[b]? = some (.cells #[.int .i64 v] 3 (0, 0))) : SeenV w (some ⟨b, 0, none⟩) 1 (iv (nI [v])) := ⟨rfl, fun _ => ⟨_, _, rfl, blk_lt h, fun k x hv => by
  have hk : k = 0 := by have := (List.getElem?_eq_some_iff.1 hv).1; simp [iv, nI] at this; exact this
  subst hk
  rw [Nat.zero_add, blk_cell h]
  simpa [iv, nI] using hv⟩⟩
/-- The world at hand is this one. -/
theorem at_w {c : Prop} [Decidable c] {P : Program} {o : Oper} {a : Act} {K : Act → World → Prop} {Q : Exit → Act → World → Prop} {E : Prop} (W : World) (h : if c then Oper.wp P o a W K Q else E) : if c then Oper.wp P o a W K Q else E := h
theorem nv_one (r : List Nat) (v : Nat) : iv (nI r ++ nI [v]) = nv (r ++ [v]) := by simp [nv, nI]
/-- The current row has got one more view. -/
theorem row_fin {w w8 : World} {base pb nx : Nat} {K : RP} {X : RX} {L M R : Nat → Value} {s : PS} {tk : List (Nat × List Nat)} {sp tb J T v NP c : Nat} {r : List Nat} {z : Option Addr} (h : PM w base pb K X L M R nx s) (hx : s.tk = tk ++ [(sp, r)]) (hJ : J = tk.length) (hT : T = J + 1) (hta : X.ta = some ⟨tb, 0, none⟩) (hN : NP = r.length) (hk : Keeps None w w8)
    (ho : w8.ownsRow base 3 1 (.slice z (NP + 1) c) (NP + 1) (iv (nI r ++ nI [v]))) :
    (∃ R', PM (w8.setCell ⟨tb, J * 2 + 1, none⟩ (.slice z (NP + 1) c)) base pb K X L M R' nx { s with tk := tk ++ [(sp, r ++ [v])] }) ∧ w8.cell? ⟨pb, 3, none⟩ = some (.slice (some ⟨tb, 0, none⟩) T X.tc) ∧ (w8.setCell ⟨tb, J * 2 + 1, none⟩ (.slice z (NP + 1) c)).cell? ⟨pb, 3, none⟩ = some (.slice (some ⟨tb, 0, none⟩) T X.tc) ∧ w8.frozen? ⟨tb, J * 2 + 1, none⟩ = false ∧ w8.cell? ⟨tb, J * 2 + 1, none⟩ = some (R J) ∧ base ≤ tb := by
  have h8 := h.more hk
  subst hJ hT hN
  have hP := h8.putRow (r' := r ++ [v]) (V := .slice z (r.length + 1) c) hx hta (by rw [List.length_append, ← nv_one]; exact ho)
  obtain ⟨tb', e, hlo, -, -, t, tf, -⟩ := h8.cur hx
  rw [hta] at e
  injection e with e
  injection e with e
  subst e
  have q := h8.c0.2.2.2.1
  have q' := hP.c0.2.2.2.1
  have e1 : s.tk.length = tk.length + 1 := by rw [hx]; simp
  have e2 : (tk ++ [(sp, r ++ [v])]).length = tk.length + 1 := by simp
  rw [hta, e1] at q
  rw [hta] at q'
  simp only [e2] at q'
  exact ⟨⟨_, hP⟩, q, q', tf _, t, hlo⟩
theorem PM.spawnAt {w : World} {base pb nx : Nat} {K : RP} {X : RX} {L M R : Nat → Value} {s : PS} (h : PM w base pb K X L M R nx s) {tk : List (Nat × List Nat)} {sp tb J : Nat} {r : List Nat} (hx : s.tk = tk ++ [(sp, r)]) (hJ : J = tk.length) (h0 : 0 < J) (hta : X.ta = some ⟨tb, 0, none⟩) : w.cell? ⟨tb, J * 2, none⟩ = some (.int .i64 sp) := by
  have hl : s.tk.length = tk.length + 1 := by rw [hx]; simp
  obtain ⟨g, e, h1, h2, h3, h4, h5⟩ := own_cellS h.tk.tks (k := J * 2) (range_get _ (by omega))
  rw [hta] at e
  injection e with e
  injection e with e
  subst e
  rw [h4]
  subst hJ
  simp [sF, hx, show ¬ (tk.length * 2 = 0) by omega]
/-- The tasks but the last one, to be copied. -/
theorem PM.tasksCopy {w : World} {base pb nx : Nat} {K : RP} {X : RX} {L M R : Nat → Value} {s : PS} (h : PM w base pb K X L M R nx s) {tk : List (Nat × List Nat)} {x : Nat × List Nat} {tb J : Nat} (hx : s.tk = tk ++ [x]) (hJ : J = tk.length) (hn : J ≤ 100000) (hta : X.ta = some ⟨tb, 0, none⟩) :
    ∃ y cap w', (Builtin.append_ #[63, 63] 63 #[.slice (some ⟨w.heap.size, 0, none⟩) 0 0, .slice (some ⟨tb, 0, none⟩) J X.tc]).run Try.prog (w.alloc (.cells #[] 93)) = .ok (.slice y J cap) w' ∧ Keeps None w w' ∧
      PM (w'.setCell ⟨pb, 3, none⟩ (.slice y J cap)) base pb K { X with ta := y, tc := cap } L M R nx { s with tk := tk } := by
  have hl : s.tk.length = tk.length + 1 := by rw [hx]; simp
  have e0 : (List.range (tk.length * 2)).map (sF s.tk R) = (List.range (tk.length * 2)).map (sF tk R) := by rw [hx]; exact s_init
  obtain ⟨y, cap, w', hr, ho, hk⟩ := copyT base w (some ⟨tb, 0, none⟩) J X.tc ((List.range (tk.length * 2)).map (sF s.tk R)) 63 (by simp [hJ]) (fun h0 => ⟨tb, 0, rfl, fun j u hu => by
    have hj : j < tk.length * 2 := by have := (List.getElem?_eq_some_iff.1 hu).1; simpa using this
    rw [range_get _ hj] at hu
    obtain ⟨g, e, h1, h2, h3, h4, h5⟩ := own_cellS h.tk.tks (k := j) (range_get _ (by omega))
    rw [hta] at e
    injection e with e
    injection e with e
    subst e
    rw [Nat.zero_add, h4]
    exact hu⟩) (fun u hu => by
    obtain ⟨k, hk, rfl⟩ := List.mem_map.1 hu
    have hk2 : k < tk.length * 2 := by simpa using hk
    unfold sF
    by_cases h2 : k % 2 = 0
    · rw [if_pos h2]; rfl
    · rw [if_neg h2]
      obtain ⟨a, c, e⟩ := row_shape (h.tk.rows (k / 2) (by omega))
      rw [e]; rfl) (by omega) h.size
  rw [e0] at ho
  subst hJ
  exact ⟨y, cap, w', hr, hk, h.endTask hx ho hk⟩
set_option maxHeartbeats 6400000 in
theorem do_return (base pb at0 nx : Nat) (K0 : RP) (X : RX) (L M R : Nat → Value) (s : PS) (w : World) (tk : List (Nat × List Nat)) (psp : Nat) (pr : List Nat) (sp : Nat) (m0 : MS (List Int)) (pre : List Nat) (P : List Int) (loc : Int) (st0 : Option Addr) (n sc : Nat) (st : List Bool) (h : PM w base pb K0 X L M R nx (psOf s (tk ++ [(psp, pr)]) sp m0)) (hK : OkK K0) (hpk : K0.pk.length ≤ 1048576) (hline : LineOk pre P m0) (hP : P.length ≤ 4096) (hf : Fits P) (h0 : 0 < m0.row.length) (hr : m0.row.length ≤ 5000) (hn : tk.length ≤ 4500) (hmg : m0.mg.length + m0.row.length ≤ 100000) (hpr : pr.length ≤ 5000) (hvs : m0.vs.length ≤ 5000) (hsn : n = st.length) (hT : SeenV w st0 n (bv' st)) (hTl : ∀ b, blockOf st0 = some b → 0 < n → b < base) (Mm : MS (List Int)) (hM : m0.all listK at0 = Mm) :
    Calls Try.prog 40 #[.pointer (some ⟨pb, 0, none⟩), .int .i64 at0, .agg #[.int .i64 1, .int .i64 loc], .slice st0 n sc] w fun e w' => e = .returned (.tuple #[]) ∧ (∃ X' L' R' nx', PM w' base pb K0 X' L' M R' nx' (retPS s tk psp pr sp st Mm)) ∧ Keeps (fun i => base ≤ i) w w' := by
  have hvl : Mm.vs.length ≤ 5000 := by
    rw [← hM]
    have : ∀ (f : Nat) (s : MS (List Int)), (MS.go listK at0 f s).vs.length = s.vs.length := by
      intro f
      induction f with
      | zero => intro s; rfl
      | succ f ih => intro s; rw [MS.go, ih]; simp [MS.one]
    have h1 : (m0.all listK at0).vs.length = m0.vs.length := this _ m0
    rw [h1]
    exact hvs
  have HP : Hid (PM w base pb K0 X L M R nx (psOf s (tk ++ [(psp, pr)]) sp m0) ∧ LineOk pre P m0 ∧ OkK K0 ∧ K0.pk.length ≤ 1048576 ∧ Fits P ∧ 0 < m0.row.length ∧ m0.all listK at0 = Mm ∧ Mm.vs.length ≤ 5000) := ⟨h, hline, hK, hpk, hf, h0, hM, hvl⟩
  have HT : Hid (SeenV w st0 n (bv' st) ∧ (∀ b, blockOf st0 = some b → 0 < n → b < base) ∧ n = st.length) := ⟨hT, hTl, hsn⟩
  obtain ⟨J, hJ⟩ : ∃ J, J = (tk ++ [(psp, pr)]).length := ⟨_, rfl⟩
  have hJn : J ≤ 4501 := by rw [hJ]; simp; omega
  have hJ0 : 0 < J := by rw [hJ]; simp
  have HJ : Hid (J = (tk ++ [(psp, pr)]).length ∧ J ≤ 4501 ∧ 0 < J ∧ pr.length ≤ 5000 ∧ tk.length ≤ 4500) := ⟨hJ, hJn, hJ0, hpr, hn⟩
  have hn5 : (tk ++ [(psp, pr)]).length ≤ 5000 := by rw [← hJ]; omega
  clear h hline hK hpk hf h0 hM hvl hT hTl hsn hJ hJ0 hvs hpr
  have hb0 := blk_new w (.cells #[.int .i64 1, .int .i64 loc] 44) w.heap.size rfl
  have hkb := (Keeps.alloc None w (.cells #[.int .i64 1, .int .i64 loc] 44))
  obtain ⟨db, hdb⟩ : ∃ db, db = w.heap.size := ⟨_, rfl⟩
  rw [← hdb] at hb0
  go_enter Try.func40, Try.ntmps40
  go_upto_region 1 with fail
  rw [← hdb]
  clear hdb
  generalize w.alloc (.cells #[.int .i64 1, .int .i64 loc] 44) = wa at *
  have HA : Hid (PM wa base pb K0 X L M R nx (psOf s (tk ++ [(psp, pr)]) sp m0) ∧ Keeps None w wa ∧ wa.heap[db]? = some (.cells #[.int .i64 1, .int .i64 loc] 44 (0, 0))) := ⟨HP.out.1.more hkb, hkb, hb0⟩
  clear hb0 hkb
  go_wp2_with fail
  refine (hand_ok base pb nx K0 X L M R (psOf s (tk ++ [(psp, pr)]) sp m0) wa (tk ++ [(psp, pr)]) sp m0.row HA.out.1 rfl (List.length_pos_iff.1 HP.out.2.2.2.2.2.1) (by omega) (by omega)).mono ?_
  rintro e w2 ⟨rfl, hk1⟩
  have HM2 : Hid (PM w2 base pb K0 X L M R nx (psOf s (tk ++ [(psp, pr)]) sp m0) ∧ Keeps (fun i => base ≤ i) w w2) := ⟨HA.out.1.more hk1, (keeps_tr HA.out.2.1 hk1).mono (fun _ f _ => f.elim)⟩
  have d0 : w2.cell? ⟨db, 0, none⟩ = some (.int .i64 1) := blk_cell (blk_kept HA.out.2.2 hk1 (fun f => f)) 0
  clear hk1
  generalize m0.row.getLastD 0 = hd0
  go_wp2_with fail
  refine (merge_ok base pb at0 nx K0 X L M R s w2 (tk ++ [(psp, pr)]) sp m0 pre P HM2.out.1 HP.out.2.2.1 HP.out.2.2.2.1 HP.out.2.1 hP HP.out.2.2.2.2.1 HP.out.2.2.2.2.2.1 hr hn5 hmg).mono ?_
  rintro e w3 ⟨rfl, ⟨X1, L1, R1, nx1, hM1⟩, hk⟩
  rw [HP.out.2.2.2.2.2.2.1] at hM1
  have HF : Hid (PM w3 base pb K0 X1 L1 M R1 nx1 (psOf s (tk ++ [(psp, pr)]) sp Mm) ∧ Keeps (fun i => base ≤ i) w w3) := ⟨hM1, HM2.out.2.trans hk (fun i e _ => e)⟩
  clear hM1 hk HA HM2 d0 hP hr hn hmg
  go_upto_region 17 with fail
  obtain ⟨tb, hta, -, -, hcap, -, -, -⟩ := HF.out.1.cur rfl
  rw [← HJ.out.1] at hcap
  have q3 := HF.out.1.c0.2.2.2.1
  obtain ⟨T, hTT⟩ : ∃ T, T = J + 1 := ⟨_, rfl⟩
  have hTl : (psOf s (tk ++ [(psp, pr)]) sp Mm).tk.length = T := by rw [hTT, HJ.out.1]; simp [psOf]
  rw [hta, hTl] at q3
  have z0 := HF.out.1.spawnAt (J := J) rfl HJ.out.1 HJ.out.2.2.1 hta
  have HTA : Hid (X1.ta = some ⟨tb, 0, none⟩ ∧ T = J + 1 ∧ J + 1 ≤ X1.tc) := ⟨hta, hTT, hcap⟩
  have hi0 : (J : Int) < (T : Int) := by omega
  have hi9 : (J : Int) ≤ (X1.tc : Int) := by omega
  have hkc : Keeps None w3 w3.drew := Keeps.drew None w3
  have hs : w3.drew.cell? ⟨pb, 3, none⟩ = some (.slice (some ⟨tb, 0, none⟩) T X1.tc) ∧ w3.drew.cell? ⟨tb, J * 2, none⟩ = some (.int .i64 sp) := ⟨q3, z0⟩
  clear hta hTT hTl hcap q3 z0
  go_region_held3 (fun wx => wx.cell? ⟨pb, 3, none⟩ = some (.slice (some ⟨tb, 0, none⟩) T X1.tc) ∧ wx.cell? ⟨tb, J * 2, none⟩ = some (.int .i64 sp)) (first | exact hs | go_keep) (first
    | (go_at_call 42; refine Calls.mono (last_ok base pb nx1 K0 X1 L1 M R1 _ _ (tk ++ [(psp, pr)]) (sp, Mm.row) (HF.out.1.more hkc) rfl (Nat.le_trans hn5 (by decide))) ?_; rintro _ wn ⟨rfl, rfl⟩; rw [← HJ.out.1]))
  all_goals
    obtain ⟨w4, hw4'⟩ : ∃ w4, w4 = w3.drew := ⟨_, rfl⟩
    rw [← hw4'] at hs hkc ⊢
    have q3 := hs.1
    have HF4 : Hid (PM w4 base pb K0 X1 L1 M R1 nx1 (psOf s (tk ++ [(psp, pr)]) sp Mm) ∧ Keeps (fun i => base ≤ i) w w4) := ⟨HF.out.1.more hkc, keeps_tr HF.out.2 hkc⟩
    clear hs hkc hw4' HF
    go_upto_region 18 with fail
    go_cut [] (fun wx => (∃ X', PM wx base pb K0 X' L1 M R1 nx1 (psOf s tk psp { Mm with row := pr })) ∧ Keeps (fun i => base ≤ i) w wx)
    case first =>
      obtain ⟨y, cy, w5, hr5, hk5, hP5⟩ := (HF4.out.1.more (Keeps.drew None w4)).tasksCopy (J := J) rfl HJ.out.1 (Nat.le_trans HJ.out.2.1 (by decide)) HTA.out.1
      have kA := (Keeps.drew None w4).andAlloc (.cells #[] 93)
      have q3A : (w4.alloc (.cells #[] 93)).cell? ⟨pb, 3, none⟩ = some (.slice (some ⟨tb, 0, none⟩) T X1.tc) := kA.cell q3 (fun f => f)
      have k5 := (Keeps.drew None w4).trans hk5 (fun _ f _ => f)
      have hb5 := blk_kept HF4.out.1.blk k5 (fun f => f)
      have f3 : w5.frozen? ⟨pb, 3, none⟩ = false := blk_free hb5 3
      have q35 : w5.cell? ⟨pb, 3, none⟩ = some (.slice (some ⟨tb, 0, none⟩) T X1.tc) := k5.cell q3 (fun f => f)
      have HG : Hid (PM (w5.setCell ⟨pb, 3, none⟩ (.slice y J cy)) base pb K0 { X1 with ta := y, tc := cy } L1 M R1 nx1 (psOf s tk psp { Mm with row := pr }) ∧ Keeps (fun i => base ≤ i) w (w5.setCell ⟨pb, 3, none⟩ (.slice y J cy))) := ⟨hP5, (keeps_tr HF4.out.2 k5).andSet (x := ⟨pb, 3, none⟩) (.inl HF4.out.1.lo) _⟩
      have HL : Hid (∀ wx, Keeps None w4 wx → Calls Try.prog 42 #[.pointer (some ⟨pb, 0, none⟩)] wx fun e w' => e = .returned (.int .i64 J) ∧ w' = wx) := fun wx hx => by
        have := last_ok base pb nx1 K0 X1 L1 M R1 _ wx (tk ++ [(psp, pr)]) (sp, Mm.row) (HF4.out.1.more hx) rfl (Nat.le_trans hn5 (by decide))
        rw [← HJ.out.1] at this
        exact this
      have HKd : Hid (Keeps None w4 w4.drew ∧ Keeps None w4 (w4.drew.alloc (.cells #[] 93))) := ⟨Keeps.drew None w4, kA⟩
      clear hk5 hP5 kA k5 hb5
      refine wp_region_held_drew (S := (fun _ => True)) (by kernel_rfl) ?_ (fun hHeld => ?_)
      · (try dsimp only); try trivial
      refine wpAnyH_take (i := 0) (oi := { dst := some 122, op := Op.move (Operand.tmp 0), type := 60, pos := "hyper.go:115", after := #[], guard := none }) (v := ?_) rfl (by kernel_rfl) (by kernel_rfl) (by kernel_rfl) (fun _ _ _ h => h) (Or.inl ⟨by rfl, ?_⟩) (by assumption) ?_
      rotate_left
      · (intro wz hSw; (try dsimp only at hSw); go_simp; try with_reducible rfl)
      simp only [Act.put, List.setIfInBounds_toArray, List.set_cons_zero, List.set_cons_succ]
      refine wpAnyH_take (i := 2) (oi := { dst := some 124, op := Op.move (Operand.tmp 0), type := 60, pos := "hyper.go:115", after := #[], guard := none }) (v := ?_) rfl (by kernel_rfl) (by kernel_rfl) (by kernel_rfl) (fun _ _ _ h => h) (Or.inl ⟨by rfl, ?_⟩) (by assumption) ?_
      rotate_left
      · (intro wz hSw; (try dsimp only at hSw); go_simp; try with_reducible rfl)
      simp only [Act.put, List.setIfInBounds_toArray, List.set_cons_zero, List.set_cons_succ]
      refine wpAnyH_take (i := 3) (oi := { dst := some 125, op := Op.nilCheck (Operand.tmp 124), type := 0, pos := "hyper.go:115", after := #[{ on := 2, ground := Ground.data }], guard := none }) (v := ?_) rfl (by kernel_rfl) (by kernel_rfl) (by kernel_rfl) (fun _ _ _ h => h) (Or.inl ⟨by rfl, ?_⟩) (by assumption) ?_
      rotate_left
      · (intro wz hSw; (try dsimp only at hSw); go_simp; try with_reducible rfl)
      simp only [Act.put, List.setIfInBounds_toArray, List.set_cons_zero, List.set_cons_succ]
      refine wpAnyH_take (i := 4) (oi := { dst := some 126, op := Op.fieldAddr 65 (Operand.tmp 125) 3, type := 0, pos := "hyper.go:115", after := #[{ on := 3, ground := Ground.data }], guard := none }) (v := ?_) rfl (by kernel_rfl) (by kernel_rfl) (by kernel_rfl) (fun _ _ _ h => h) (Or.inl ⟨by rfl, ?_⟩) (by assumption) ?_
      rotate_left
      · (intro wz hSw; (try dsimp only at hSw); go_simp; try with_reducible rfl)
      simp only [Act.put, List.setIfInBounds_toArray, List.set_cons_zero, List.set_cons_succ]
      refine wpAnyH_take (i := 6) (oi := { dst := some 128, op := Op.move (Operand.tmp 0), type := 60, pos := "hyper.go:115", after := #[], guard := none }) (v := ?_) rfl (by kernel_rfl) (by kernel_rfl) (by kernel_rfl) (fun _ _ _ h => h) (Or.inl ⟨by rfl, ?_⟩) (by assumption) ?_
      rotate_left
      · (intro wz hSw; (try dsimp only at hSw); go_simp; try with_reducible rfl)
      simp only [Act.put, List.setIfInBounds_toArray, List.set_cons_zero, List.set_cons_succ]
      refine wpAnyH_ready (rs := [1, 5, 7]) (by kernel_rfl) (by simp) ?_
      refine AllReadyH.cons (o := { dst := some 123, op := Op.buildSlice 63 0 #[], type := 63, pos := "hyper.go:115", after := #[], guard := none }) rfl (fun K hK => ?_) ?_
      · go_simp
        refine hK.out _ _ ?_ (fun hHeld2 => ?_)
        · (try dsimp only); try trivial
        clear hK K
        try simp only [Act.put, List.setIfInBounds_toArray, List.set_cons_zero, List.set_cons_succ]
        refine wpAnyH_ready (rs := [5, 7]) (by kernel_rfl) (by simp) ?_
        refine AllReadyH.cons (o := { dst := some 127, op := Op.load 63 (Operand.tmp 126), type := 63, pos := "hyper.go:115", after := #[{ on := 4, ground := Ground.data }], guard := none }) rfl (fun K hK => ?_) ?_
        · go_simp
          refine hK.out _ _ ?_ (fun hHeld2 => ?_)
          · (try dsimp only); try trivial
          clear hK K
          try simp only [Act.put, List.setIfInBounds_toArray, List.set_cons_zero, List.set_cons_succ]
          refine wpAnyH_ready (rs := [7]) (by kernel_rfl) (by simp) ?_
          refine AllReadyH.cons (o := { dst := some 129, op := Op.call { callee := Callee.value (Operand.func 42), args := #[Operand.tmp 128], argTypes := #[60] }, type := 3, pos := "hyper.go:115", after := #[{ on := 6, ground := Ground.data }], guard := none }) rfl (fun K hK => ?_) ?_
          · go_simp
            refine Calls.mono (HL.out _ (by first | exact HKd.out.1 | exact HKd.out.2)) ?_
            rintro _ wn ⟨rfl, rfl⟩
            refine hK.out _ _ ?_ (fun hHeld2 => ?_)
            · (try dsimp only); try trivial
            clear hK K
            try simp only [Act.put, List.setIfInBounds_toArray, List.set_cons_zero, List.set_cons_succ]
            refine wpAnyH_take (i := 8) (oi := { dst := some 130, op := Op.slice 63 (Operand.tmp 127) none (some (Operand.tmp 129)) none, type := 63, pos := "hyper.go:115", after := #[{ on := 5, ground := Ground.data }, { on := 7, ground := Ground.data }], guard := none }) (v := ?_) rfl (by kernel_rfl) (by kernel_rfl) (by kernel_rfl) (fun _ _ _ h => h) (Or.inl ⟨by rfl, ?_⟩) (by assumption) ?_
            rotate_left
            · (intro wz hSw; (try dsimp only at hSw); go_simp; try with_reducible rfl)
            simp only [Act.put, List.setIfInBounds_toArray, List.set_cons_zero, List.set_cons_succ]
            refine wpAnyH_ready (rs := [9]) (by kernel_rfl) (by simp) ?_
            refine AllReadyH.cons (o := { dst := some 131, op := Op.call { callee := Callee.builtin Builtin.append, args := #[Operand.tmp 123, Operand.tmp 130], argTypes := #[63, 63] }, type := 63, pos := "hyper.go:115", after := #[{ on := 1, ground := Ground.data }, { on := 8, ground := Ground.data }, { on := 7, ground := Ground.chain }], guard := none }) rfl (fun K hK => ?_) ?_
            · refine step_append_run rfl (.tmp 123) (.tmp 130) 63 63 rfl (by first | rfl | simp [Act.eval]) (by first | rfl | simp [Act.eval]) hr5 ?_
              refine hK.out _ _ ?_ (fun hHeld2 => ?_)
              · (try dsimp only); try trivial
              clear hK K
              try simp only [Act.put, List.setIfInBounds_toArray, List.set_cons_zero, List.set_cons_succ]
              refine wpAnyH_take (i := 10) (oi := _) (v := ?_) rfl (by kernel_rfl) (by kernel_rfl) (by kernel_rfl) (fun _ _ _ h => h) (Or.inl ⟨by rfl, ?_⟩) (by assumption) ?_
              rotate_left
              · (intro wz hSw; (try dsimp only at hSw); go_simp; try with_reducible rfl)
              simp only [Act.put, List.setIfInBounds_toArray, List.set_cons_zero, List.set_cons_succ]
              refine wpAnyH_take (i := 11) (oi := _) (v := ?_) rfl (by kernel_rfl) (by kernel_rfl) (by kernel_rfl) (fun _ _ _ h => h) (Or.inl ⟨by rfl, ?_⟩) (by assumption) ?_
              rotate_left
              · (intro wz hSw; (try dsimp only at hSw); go_simp; try with_reducible rfl)
              simp only [Act.put, List.setIfInBounds_toArray, List.set_cons_zero, List.set_cons_succ]
              refine wpAnyH_ready (rs := [12]) (by kernel_rfl) (by simp) ?_
              refine AllReadyH.cons (o := _) rfl (fun K hK => ?_) ?_
              · go_simp
                refine hK.out _ _ ?_ (fun hHeld2 => ?_)
                · (try dsimp only); try trivial
                clear hK K
                try simp only [Act.put, List.setIfInBounds_toArray, List.set_cons_zero, List.set_cons_succ]
                refine wpAnyH_done (by kernel_rfl) ?_ _
                go_wp2_with fail
                go_meet
                exact ⟨⟨_, HG.out.1⟩, HG.out.2⟩
              exact AllReadyH.nil
            exact AllReadyH.nil
          exact AllReadyH.nil
        refine AllReadyH.cons (o := { dst := some 129, op := Op.call { callee := Callee.value (Operand.func 42), args := #[Operand.tmp 128], argTypes := #[60] }, type := 3, pos := "hyper.go:115", after := #[{ on := 6, ground := Ground.data }], guard := none }) rfl (fun K hK => ?_) ?_
        · go_simp
          refine Calls.mono (HL.out _ (by first | exact HKd.out.1 | exact HKd.out.2)) ?_
          rintro _ wn ⟨rfl, rfl⟩
          refine hK.out _ _ ?_ (fun hHeld2 => ?_)
          · (try dsimp only); try trivial
          clear hK K
          try simp only [Act.put, List.setIfInBounds_toArray, List.set_cons_zero, List.set_cons_succ]
          refine wpAnyH_ready (rs := [5]) (by kernel_rfl) (by simp) ?_
          refine AllReadyH.cons (o := { dst := some 127, op := Op.load 63 (Operand.tmp 126), type := 63, pos := "hyper.go:115", after := #[{ on := 4, ground := Ground.data }], guard := none }) rfl (fun K hK => ?_) ?_
          · go_simp
            refine hK.out _ _ ?_ (fun hHeld2 => ?_)
            · (try dsimp only); try trivial
            clear hK K
            try simp only [Act.put, List.setIfInBounds_toArray, List.set_cons_zero, List.set_cons_succ]
            refine wpAnyH_take (i := 8) (oi := { dst := some 130, op := Op.slice 63 (Operand.tmp 127) none (some (Operand.tmp 129)) none, type := 63, pos := "hyper.go:115", after := #[{ on := 5, ground := Ground.data }, { on := 7, ground := Ground.data }], guard := none }) (v := ?_) rfl (by kernel_rfl) (by kernel_rfl) (by kernel_rfl) (fun _ _ _ h => h) (Or.inl ⟨by rfl, ?_⟩) (by assumption) ?_
            rotate_left
            · (intro wz hSw; (try dsimp only at hSw); go_simp; try with_reducible rfl)
            simp only [Act.put, List.setIfInBounds_toArray, List.set_cons_zero, List.set_cons_succ]
            refine wpAnyH_ready (rs := [9]) (by kernel_rfl) (by simp) ?_
            refine AllReadyH.cons (o := { dst := some 131, op := Op.call { callee := Callee.builtin Builtin.append, args := #[Operand.tmp 123, Operand.tmp 130], argTypes := #[63, 63] }, type := 63, pos := "hyper.go:115", after := #[{ on := 1, ground := Ground.data }, { on := 8, ground := Ground.data }, { on := 7, ground := Ground.chain }], guard := none }) rfl (fun K hK => ?_) ?_
            · refine step_append_run rfl (.tmp 123) (.tmp 130) 63 63 rfl (by first | rfl | simp [Act.eval]) (by first | rfl | simp [Act.eval]) hr5 ?_
              refine hK.out _ _ ?_ (fun hHeld2 => ?_)
              · (try dsimp only); try trivial
              clear hK K
              try simp only [Act.put, List.setIfInBounds_toArray, List.set_cons_zero, List.set_cons_succ]
              refine wpAnyH_take (i := 10) (oi := _) (v := ?_) rfl (by kernel_rfl) (by kernel_rfl) (by kernel_rfl) (fun _ _ _ h => h) (Or.inl ⟨by rfl, ?_⟩) (by assumption) ?_
              rotate_left
              · (intro wz hSw; (try dsimp only at hSw); go_simp; try with_reducible rfl)
              simp only [Act.put, List.setIfInBounds_toArray, List.set_cons_zero, List.set_cons_succ]
              refine wpAnyH_take (i := 11) (oi := _) (v := ?_) rfl (by kernel_rfl) (by kernel_rfl) (by kernel_rfl) (fun _ _ _ h => h) (Or.inl ⟨by rfl, ?_⟩) (by assumption) ?_
              rotate_left
              · (intro wz hSw; (try dsimp only at hSw); go_simp; try with_reducible rfl)
              simp only [Act.put, List.setIfInBounds_toArray, List.set_cons_zero, List.set_cons_succ]
              refine wpAnyH_ready (rs := [12]) (by kernel_rfl) (by simp) ?_
              refine AllReadyH.cons (o := _) rfl (fun K hK => ?_) ?_
              · go_simp
                refine hK.out _ _ ?_ (fun hHeld2 => ?_)
                · (try dsimp only); try trivial
                clear hK K
                try simp only [Act.put, List.setIfInBounds_toArray, List.set_cons_zero, List.set_cons_succ]
                refine wpAnyH_done (by kernel_rfl) ?_ _
                go_wp2_with fail
                go_meet
                exact ⟨⟨_, HG.out.1⟩, HG.out.2⟩
              exact AllReadyH.nil
            exact AllReadyH.nil
          exact AllReadyH.nil
        exact AllReadyH.nil
      refine AllReadyH.cons (o := { dst := some 127, op := Op.load 63 (Operand.tmp 126), type := 63, pos := "hyper.go:115", after := #[{ on := 4, ground := Ground.data }], guard := none }) rfl (fun K hK => ?_) ?_
      · go_simp
        refine hK.out _ _ ?_ (fun hHeld2 => ?_)
        · (try dsimp only); try trivial
        clear hK K
        try simp only [Act.put, List.setIfInBounds_toArray, List.set_cons_zero, List.set_cons_succ]
        refine wpAnyH_ready (rs := [1, 7]) (by kernel_rfl) (by simp) ?_
        refine AllReadyH.cons (o := { dst := some 123, op := Op.buildSlice 63 0 #[], type := 63, pos := "hyper.go:115", after := #[], guard := none }) rfl (fun K hK => ?_) ?_
        · go_simp
          refine hK.out _ _ ?_ (fun hHeld2 => ?_)
          · (try dsimp only); try trivial
          clear hK K
          try simp only [Act.put, List.setIfInBounds_toArray, List.set_cons_zero, List.set_cons_succ]
          refine wpAnyH_ready (rs := [7]) (by kernel_rfl) (by simp) ?_
          refine AllReadyH.cons (o := { dst := some 129, op := Op.call { callee := Callee.value (Operand.func 42), args := #[Operand.tmp 128], argTypes := #[60] }, type := 3, pos := "hyper.go:115", after := #[{ on := 6, ground := Ground.data }], guard := none }) rfl (fun K hK => ?_) ?_
          · go_simp
            refine Calls.mono (HL.out _ (by first | exact HKd.out.1 | exact HKd.out.2)) ?_
            rintro _ wn ⟨rfl, rfl⟩
            refine hK.out _ _ ?_ (fun hHeld2 => ?_)
            · (try dsimp only); try trivial
            clear hK K
            try simp only [Act.put, List.setIfInBounds_toArray, List.set_cons_zero, List.set_cons_succ]
            refine wpAnyH_take (i := 8) (oi := { dst := some 130, op := Op.slice 63 (Operand.tmp 127) none (some (Operand.tmp 129)) none, type := 63, pos := "hyper.go:115", after := #[{ on := 5, ground := Ground.data }, { on := 7, ground := Ground.data }], guard := none }) (v := ?_) rfl (by kernel_rfl) (by kernel_rfl) (by kernel_rfl) (fun _ _ _ h => h) (Or.inl ⟨by rfl, ?_⟩) (by assumption) ?_
            rotate_left
            · (intro wz hSw; (try dsimp only at hSw); go_simp; try with_reducible rfl)
            simp only [Act.put, List.setIfInBounds_toArray, List.set_cons_zero, List.set_cons_succ]
            refine wpAnyH_ready (rs := [9]) (by kernel_rfl) (by simp) ?_
            refine AllReadyH.cons (o := { dst := some 131, op := Op.call { callee := Callee.builtin Builtin.append, args := #[Operand.tmp 123, Operand.tmp 130], argTypes := #[63, 63] }, type := 63, pos := "hyper.go:115", after := #[{ on := 1, ground := Ground.data }, { on := 8, ground := Ground.data }, { on := 7, ground := Ground.chain }], guard := none }) rfl (fun K hK => ?_) ?_
            · refine step_append_run rfl (.tmp 123) (.tmp 130) 63 63 rfl (by first | rfl | simp [Act.eval]) (by first | rfl | simp [Act.eval]) hr5 ?_
              refine hK.out _ _ ?_ (fun hHeld2 => ?_)
              · (try dsimp only); try trivial
              clear hK K
              try simp only [Act.put, List.setIfInBounds_toArray, List.set_cons_zero, List.set_cons_succ]
              refine wpAnyH_take (i := 10) (oi := _) (v := ?_) rfl (by kernel_rfl) (by kernel_rfl) (by kernel_rfl) (fun _ _ _ h => h) (Or.inl ⟨by rfl, ?_⟩) (by assumption) ?_
              rotate_left
              · (intro wz hSw; (try dsimp only at hSw); go_simp; try with_reducible rfl)
              simp only [Act.put, List.setIfInBounds_toArray, List.set_cons_zero, List.set_cons_succ]
              refine wpAnyH_take (i := 11) (oi := _) (v := ?_) rfl (by kernel_rfl) (by kernel_rfl) (by kernel_rfl) (fun _ _ _ h => h) (Or.inl ⟨by rfl, ?_⟩) (by assumption) ?_
              rotate_left
              · (intro wz hSw; (try dsimp only at hSw); go_simp; try with_reducible rfl)
              simp only [Act.put, List.setIfInBounds_toArray, List.set_cons_zero, List.set_cons_succ]
              refine wpAnyH_ready (rs := [12]) (by kernel_rfl) (by simp) ?_
              refine AllReadyH.cons (o := _) rfl (fun K hK => ?_) ?_
              · go_simp
                refine hK.out _ _ ?_ (fun hHeld2 => ?_)
                · (try dsimp only); try trivial
                clear hK K
                try simp only [Act.put, List.setIfInBounds_toArray, List.set_cons_zero, List.set_cons_succ]
                refine wpAnyH_done (by kernel_rfl) ?_ _
                go_wp2_with fail
                go_meet
                exact ⟨⟨_, HG.out.1⟩, HG.out.2⟩
              exact AllReadyH.nil
            exact AllReadyH.nil
          exact AllReadyH.nil
        refine AllReadyH.cons (o := { dst := some 129, op := Op.call { callee := Callee.value (Operand.func 42), args := #[Operand.tmp 128], argTypes := #[60] }, type := 3, pos := "hyper.go:115", after := #[{ on := 6, ground := Ground.data }], guard := none }) rfl (fun K hK => ?_) ?_
        · go_simp
          refine Calls.mono (HL.out _ (by first | exact HKd.out.1 | exact HKd.out.2)) ?_
          rintro _ wn ⟨rfl, rfl⟩
          refine hK.out _ _ ?_ (fun hHeld2 => ?_)
          · (try dsimp only); try trivial
          clear hK K
          try simp only [Act.put, List.setIfInBounds_toArray, List.set_cons_zero, List.set_cons_succ]
          refine wpAnyH_take (i := 8) (oi := { dst := some 130, op := Op.slice 63 (Operand.tmp 127) none (some (Operand.tmp 129)) none, type := 63, pos := "hyper.go:115", after := #[{ on := 5, ground := Ground.data }, { on := 7, ground := Ground.data }], guard := none }) (v := ?_) rfl (by kernel_rfl) (by kernel_rfl) (by kernel_rfl) (fun _ _ _ h => h) (Or.inl ⟨by rfl, ?_⟩) (by assumption) ?_
          rotate_left
          · (intro wz hSw; (try dsimp only at hSw); go_simp; try with_reducible rfl)
          simp only [Act.put, List.setIfInBounds_toArray, List.set_cons_zero, List.set_cons_succ]
          refine wpAnyH_ready (rs := [1]) (by kernel_rfl) (by simp) ?_
          refine AllReadyH.cons (o := { dst := some 123, op := Op.buildSlice 63 0 #[], type := 63, pos := "hyper.go:115", after := #[], guard := none }) rfl (fun K hK => ?_) ?_
          · go_simp
            refine hK.out _ _ ?_ (fun hHeld2 => ?_)
            · (try dsimp only); try trivial
            clear hK K
            try simp only [Act.put, List.setIfInBounds_toArray, List.set_cons_zero, List.set_cons_succ]
            refine wpAnyH_ready (rs := [9]) (by kernel_rfl) (by simp) ?_
            refine AllReadyH.cons (o := { dst := some 131, op := Op.call { callee := Callee.builtin Builtin.append, args := #[Operand.tmp 123, Operand.tmp 130], argTypes := #[63, 63] }, type := 63, pos := "hyper.go:115", after := #[{ on := 1, ground := Ground.data }, { on := 8, ground := Ground.data }, { on := 7, ground := Ground.chain }], guard := none }) rfl (fun K hK => ?_) ?_
            · refine step_append_run rfl (.tmp 123) (.tmp 130) 63 63 rfl (by first | rfl | simp [Act.eval]) (by first | rfl | simp [Act.eval]) hr5 ?_
              refine hK.out _ _ ?_ (fun hHeld2 => ?_)
              · (try dsimp only); try trivial
              clear hK K
              try simp only [Act.put, List.setIfInBounds_toArray, List.set_cons_zero, List.set_cons_succ]
              refine wpAnyH_take (i := 10) (oi := _) (v := ?_) rfl (by kernel_rfl) (by kernel_rfl) (by kernel_rfl) (fun _ _ _ h => h) (Or.inl ⟨by rfl, ?_⟩) (by assumption) ?_
              rotate_left
              · (intro wz hSw; (try dsimp only at hSw); go_simp; try with_reducible rfl)
              simp only [Act.put, List.setIfInBounds_toArray, List.set_cons_zero, List.set_cons_succ]
              refine wpAnyH_take (i := 11) (oi := _) (v := ?_) rfl (by kernel_rfl) (by kernel_rfl) (by kernel_rfl) (fun _ _ _ h => h) (Or.inl ⟨by rfl, ?_⟩) (by assumption) ?_
              rotate_left
              · (intro wz hSw; (try dsimp only at hSw); go_simp; try with_reducible rfl)
              simp only [Act.put, List.setIfInBounds_toArray, List.set_cons_zero, List.set_cons_succ]
              refine wpAnyH_ready (rs := [12]) (by kernel_rfl) (by simp) ?_
              refine AllReadyH.cons (o := _) rfl (fun K hK => ?_) ?_
              · go_simp
                refine hK.out _ _ ?_ (fun hHeld2 => ?_)
                · (try dsimp only); try trivial
                clear hK K
                try simp only [Act.put, List.setIfInBounds_toArray, List.set_cons_zero, List.set_cons_succ]
                refine wpAnyH_done (by kernel_rfl) ?_ _
                go_wp2_with fail
                go_meet
                exact ⟨⟨_, HG.out.1⟩, HG.out.2⟩
              exact AllReadyH.nil
            exact AllReadyH.nil
          exact AllReadyH.nil
        exact AllReadyH.nil
      refine AllReadyH.cons (o := { dst := some 129, op := Op.call { callee := Callee.value (Operand.func 42), args := #[Operand.tmp 128], argTypes := #[60] }, type := 3, pos := "hyper.go:115", after := #[{ on := 6, ground := Ground.data }], guard := none }) rfl (fun K hK => ?_) ?_
      · go_simp
        refine Calls.mono (HL.out _ (by first | exact HKd.out.1 | exact HKd.out.2)) ?_
        rintro _ wn ⟨rfl, rfl⟩
        refine hK.out _ _ ?_ (fun hHeld2 => ?_)
        · (try dsimp only); try trivial
        clear hK K
        try simp only [Act.put, List.setIfInBounds_toArray, List.set_cons_zero, List.set_cons_succ]
        refine wpAnyH_ready (rs := [1, 5]) (by kernel_rfl) (by simp) ?_
        refine AllReadyH.cons (o := { dst := some 123, op := Op.buildSlice 63 0 #[], type := 63, pos := "hyper.go:115", after := #[], guard := none }) rfl (fun K hK => ?_) ?_
        · go_simp
          refine hK.out _ _ ?_ (fun hHeld2 => ?_)
          · (try dsimp only); try trivial
          clear hK K
          try simp only [Act.put, List.setIfInBounds_toArray, List.set_cons_zero, List.set_cons_succ]
          refine wpAnyH_ready (rs := [5]) (by kernel_rfl) (by simp) ?_
          refine AllReadyH.cons (o := { dst := some 127, op := Op.load 63 (Operand.tmp 126), type := 63, pos := "hyper.go:115", after := #[{ on := 4, ground := Ground.data }], guard := none }) rfl (fun K hK => ?_) ?_
          · go_simp
            refine hK.out _ _ ?_ (fun hHeld2 => ?_)
            · (try dsimp only); try trivial
            clear hK K
            try simp only [Act.put, List.setIfInBounds_toArray, List.set_cons_zero, List.set_cons_succ]
            refine wpAnyH_take (i := 8) (oi := { dst := some 130, op := Op.slice 63 (Operand.tmp 127) none (some (Operand.tmp 129)) none, type := 63, pos := "hyper.go:115", after := #[{ on := 5, ground := Ground.data }, { on := 7, ground := Ground.data }], guard := none }) (v := ?_) rfl (by kernel_rfl) (by kernel_rfl) (by kernel_rfl) (fun _ _ _ h => h) (Or.inl ⟨by rfl, ?_⟩) (by assumption) ?_
            rotate_left
            · (intro wz hSw; (try dsimp only at hSw); go_simp; try with_reducible rfl)
            simp only [Act.put, List.setIfInBounds_toArray, List.set_cons_zero, List.set_cons_succ]
            refine wpAnyH_ready (rs := [9]) (by kernel_rfl) (by simp) ?_
            refine AllReadyH.cons (o := { dst := some 131, op := Op.call { callee := Callee.builtin Builtin.append, args := #[Operand.tmp 123, Operand.tmp 130], argTypes := #[63, 63] }, type := 63, pos := "hyper.go:115", after := #[{ on := 1, ground := Ground.data }, { on := 8, ground := Ground.data }, { on := 7, ground := Ground.chain }], guard := none }) rfl (fun K hK => ?_) ?_
            · refine step_append_run rfl (.tmp 123) (.tmp 130) 63 63 rfl (by first | rfl | simp [Act.eval]) (by first | rfl | simp [Act.eval]) hr5 ?_
              refine hK.out _ _ ?_ (fun hHeld2 => ?_)
              · (try dsimp only); try trivial
              clear hK K
              try simp only [Act.put, List.setIfInBounds_toArray, List.set_cons_zero, List.set_cons_succ]
              refine wpAnyH_take (i := 10) (oi := _) (v := ?_) rfl (by kernel_rfl) (by kernel_rfl) (by kernel_rfl) (fun _ _ _ h => h) (Or.inl ⟨by rfl, ?_⟩) (by assumption) ?_
              rotate_left
              · (intro wz hSw; (try dsimp only at hSw); go_simp; try with_reducible rfl)
              simp only [Act.put, List.setIfInBounds_toArray, List.set_cons_zero, List.set_cons_succ]
              refine wpAnyH_take (i := 11) (oi := _) (v := ?_) rfl (by kernel_rfl) (by kernel_rfl) (by kernel_rfl) (fun _ _ _ h => h) (Or.inl ⟨by rfl, ?_⟩) (by assumption) ?_
              rotate_left
              · (intro wz hSw; (try dsimp only at hSw); go_simp; try with_reducible rfl)
              simp only [Act.put, List.setIfInBounds_toArray, List.set_cons_zero, List.set_cons_succ]
              refine wpAnyH_ready (rs := [12]) (by kernel_rfl) (by simp) ?_
              refine AllReadyH.cons (o := _) rfl (fun K hK => ?_) ?_
              · go_simp
                refine hK.out _ _ ?_ (fun hHeld2 => ?_)
                · (try dsimp only); try trivial
                clear hK K
                try simp only [Act.put, List.setIfInBounds_toArray, List.set_cons_zero, List.set_cons_succ]
                refine wpAnyH_done (by kernel_rfl) ?_ _
                go_wp2_with fail
                go_meet
                exact ⟨⟨_, HG.out.1⟩, HG.out.2⟩
              exact AllReadyH.nil
            exact AllReadyH.nil
          exact AllReadyH.nil
        refine AllReadyH.cons (o := { dst := some 127, op := Op.load 63 (Operand.tmp 126), type := 63, pos := "hyper.go:115", after := #[{ on := 4, ground := Ground.data }], guard := none }) rfl (fun K hK => ?_) ?_
        · go_simp
          refine hK.out _ _ ?_ (fun hHeld2 => ?_)
          · (try dsimp only); try trivial
          clear hK K
          try simp only [Act.put, List.setIfInBounds_toArray, List.set_cons_zero, List.set_cons_succ]
          refine wpAnyH_take (i := 8) (oi := { dst := some 130, op := Op.slice 63 (Operand.tmp 127) none (some (Operand.tmp 129)) none, type := 63, pos := "hyper.go:115", after := #[{ on := 5, ground := Ground.data }, { on := 7, ground := Ground.data }], guard := none }) (v := ?_) rfl (by kernel_rfl) (by kernel_rfl) (by kernel_rfl) (fun _ _ _ h => h) (Or.inl ⟨by rfl, ?_⟩) (by assumption) ?_
          rotate_left
          · (intro wz hSw; (try dsimp only at hSw); go_simp; try with_reducible rfl)
          simp only [Act.put, List.setIfInBounds_toArray, List.set_cons_zero, List.set_cons_succ]
          refine wpAnyH_ready (rs := [1]) (by kernel_rfl) (by simp) ?_
          refine AllReadyH.cons (o := { dst := some 123, op := Op.buildSlice 63 0 #[], type := 63, pos := "hyper.go:115", after := #[], guard := none }) rfl (fun K hK => ?_) ?_
          · go_simp
            refine hK.out _ _ ?_ (fun hHeld2 => ?_)
            · (try dsimp only); try trivial
            clear hK K
            try simp only [Act.put, List.setIfInBounds_toArray, List.set_cons_zero, List.set_cons_succ]
            refine wpAnyH_ready (rs := [9]) (by kernel_rfl) (by simp) ?_
            refine AllReadyH.cons (o := { dst := some 131, op := Op.call { callee := Callee.builtin Builtin.append, args := #[Operand.tmp 123, Operand.tmp 130], argTypes := #[63, 63] }, type := 63, pos := "hyper.go:115", after := #[{ on := 1, ground := Ground.data }, { on := 8, ground := Ground.data }, { on := 7, ground := Ground.chain }], guard := none }) rfl (fun K hK => ?_) ?_
            · refine step_append_run rfl (.tmp 123) (.tmp 130) 63 63 rfl (by first | rfl | simp [Act.eval]) (by first | rfl | simp [Act.eval]) hr5 ?_
              refine hK.out _ _ ?_ (fun hHeld2 => ?_)
              · (try dsimp only); try trivial
              clear hK K
              try simp only [Act.put, List.setIfInBounds_toArray, List.set_cons_zero, List.set_cons_succ]
              refine wpAnyH_take (i := 10) (oi := _) (v := ?_) rfl (by kernel_rfl) (by kernel_rfl) (by kernel_rfl) (fun _ _ _ h => h) (Or.inl ⟨by rfl, ?_⟩) (by assumption) ?_
              rotate_left
              · (intro wz hSw; (try dsimp only at hSw); go_simp; try with_reducible rfl)
              simp only [Act.put, List.setIfInBounds_toArray, List.set_cons_zero, List.set_cons_succ]
              refine wpAnyH_take (i := 11) (oi := _) (v := ?_) rfl (by kernel_rfl) (by kernel_rfl) (by kernel_rfl) (fun _ _ _ h => h) (Or.inl ⟨by rfl, ?_⟩) (by assumption) ?_
              rotate_left
              · (intro wz hSw; (try dsimp only at hSw); go_simp; try with_reducible rfl)
              simp only [Act.put, List.setIfInBounds_toArray, List.set_cons_zero, List.set_cons_succ]
              refine wpAnyH_ready (rs := [12]) (by kernel_rfl) (by simp) ?_
              refine AllReadyH.cons (o := _) rfl (fun K hK => ?_) ?_
              · go_simp
                refine hK.out _ _ ?_ (fun hHeld2 => ?_)
                · (try dsimp only); try trivial
                clear hK K
                try simp only [Act.put, List.setIfInBounds_toArray, List.set_cons_zero, List.set_cons_succ]
                refine wpAnyH_done (by kernel_rfl) ?_ _
                go_wp2_with fail
                go_meet
                exact ⟨⟨_, HG.out.1⟩, HG.out.2⟩
              exact AllReadyH.nil
            exact AllReadyH.nil
          exact AllReadyH.nil
        exact AllReadyH.nil
      exact AllReadyH.nil
    case rest =>
      obtain ⟨⟨X5, hM5⟩, hkc⟩ := hcut
      have HM5 : Hid (PM wc base pb K0 X5 L1 M R1 nx1 (psOf s tk psp { Mm with row := pr }) ∧ Keeps (fun i => base ≤ i) w wc) := ⟨hM5, hkc⟩
      have hTc := HT.out.1.kept hkc (fun h0 b hb hlt hs => absurd hs (Nat.not_le.2 (HT.out.2.1 b hb h0)))
      have hre : retPS s tk psp pr sp st Mm = if st.getD sp false = true then psOf s tk psp { Mm with vs := Mm.vs ++ [[]], row := pr ++ [Mm.vs.length] } else psOf s tk psp { Mm with row := pr } := rfl
      clear hM5 hkc hi0 hi9 q3 HF4 HTA hn5 hJn
      by_cases hlt : sp < n
      · obtain ⟨b, off, v, hsa, -, hv, hc⟩ := hTc.at hlt
        obtain ⟨x, hx, rfl⟩ := bv_get hv
        have hg : st.getD sp false = x := by rw [List.getD_eq_getElem?_getD, hx]; rfl
        rw [hg] at hre
        subst hsa
        have hi1 : (sp : Int) < (n : Int) := by omega
        clear hTc hv hx hg
        cases x with
        | false =>
          have he' : retPS s tk psp pr sp st Mm = psOf s tk psp { Mm with row := pr } := by rw [hre]; simp
          have HE : Hid (retPS s tk psp pr sp st Mm = psOf s tk psp { Mm with row := pr }) := he'
          clear he' hre
          go_wp2
          go_end0
          exact ⟨rfl, ⟨_, _, _, _, by rw [HE.out]; exact HM5.out.1⟩, HM5.out.2⟩
        | true =>
          have he' : retPS s tk psp pr sp st Mm = psOf s tk psp { Mm with vs := Mm.vs ++ [[]], row := pr ++ [Mm.vs.length] } := by rw [hre]; simp
          have HE : Hid (retPS s tk psp pr sp st Mm = psOf s tk psp { Mm with vs := Mm.vs ++ [[]], row := pr ++ [Mm.vs.length] }) := he'
          clear he' hre
          have hvl2 : (psOf s tk psp { Mm with row := pr }).vs.length ≤ 100000 := Nat.le_trans HP.out.2.2.2.2.2.2.2 (by decide)
          go_wp2_with fail
          refine (made_ok base pb nx1 K0 X5 L1 M R1 _ wc HM5.out.1 HP.out.2.2.1 hvl2).mono ?_
          rintro e w6 ⟨rfl, ⟨X6, L6, hM6, hta6⟩, hk6⟩
          obtain ⟨VL, hVL⟩ : ∃ VL, VL = Mm.vs.length := ⟨_, rfl⟩
          rw [show (psOf s tk psp { Mm with row := pr }).vs.length = VL from hVL.symm]
          obtain ⟨J2, hJ2⟩ : ∃ J, J = tk.length := ⟨_, rfl⟩
          obtain ⟨T2, hT2⟩ : ∃ T, T = J2 + 1 := ⟨_, rfl⟩
          obtain ⟨NP, hNP⟩ : ∃ N, N = pr.length := ⟨_, rfl⟩
          have HM6 : Hid (PM w6 base pb K0 X6 L6 M R1 nx1 (psOf s tk psp { Mm with vs := Mm.vs ++ [[]], row := pr }) ∧ Keeps (fun i => base ≤ i) w w6 ∧ VL = Mm.vs.length ∧ J2 = tk.length ∧ T2 = J2 + 1 ∧ NP = pr.length) := ⟨hM6, HM5.out.2.trans hk6 (fun i e _ => e), hVL, hJ2, hT2, hNP⟩
          clear hM6 hta6 hk6 hvl2 HM5 hi1 hc hVL
          go_upto_region 21 with fail
          obtain ⟨tb2, hta2, -, -, -, t0, -, hrow⟩ := HM6.out.1.cur rfl
          rw [← hJ2] at t0 hrow
          obtain ⟨ra, rc, hRv⟩ := row_shape hrow
          rw [hRv] at t0 hrow
          rw [← hNP] at t0 hrow
          have hseen := own_seen1 hrow
          have q3 := HM6.out.1.c0.2.2.2.1
          rw [hta2, show (psOf s tk psp { Mm with vs := Mm.vs ++ [[]], row := pr }).tk.length = T2 by rw [hT2, hJ2]; simp [psOf]] at q3
          have hi2 : (J2 : Int) < (T2 : Int) := by rw [hT2]; omega
          have hN5 : NP + 1 ≤ 1000000 := by rw [hNP]; have := HJ.out.2.2.2.1; omega
          have hN8 : NP * 8 ≤ 140737488355328 := by omega
          have hN6 : NP ≤ 1000000 := by omega
          have kD := Keeps.drew None w6
          have hszD := (HM6.out.1.more kD).size
          have kDA := kD.andAlloc (.cells #[] 3)
          have kDB := kD.andAlloc (.cells #[.int .i64 VL] 3)
          have kDAB := kDA.andAlloc (.cells #[.int .i64 VL] 3)
          have kDBA := kDB.andAlloc (.cells #[] 3)
          -- first the empty row, copied; then the number
          obtain ⟨y1, c1, u1, hr1, ho1, hk1, hy1⟩ := copyI base w6.drew ra NP rc (nI pr) 24 (hseen.more kD) hN8 hszD
          have bB1 := blk_new u1 (.cells #[.int .i64 VL] 3) u1.heap.size rfl
          have kU1 := Keeps.alloc None u1 (.cells #[.int .i64 VL] 3)
          obtain ⟨z1, d1, v1, hs1, hp1, hq1, -⟩ := joinI base w6.drew.heap.size (u1.alloc (.cells #[.int .i64 VL] 3)) y1 NP c1 (nI pr) (some ⟨u1.heap.size, 0, none⟩) 1 1 (nI [VL]) 24 (ho1.alloc _) (seen_one bB1) hN5 (Nat.le_trans hszD (Nat.le_trans hk1.size kU1.size)) (Nat.le_trans hk1.size kU1.size) hy1
          have kV1 : Keeps None w6 v1 := kD.trans (keeps_new (hk1.trans kU1 (fun _ f _ => f)) hq1) (fun _ f _ => f)
          obtain ⟨hF1, q31, q31s, f1, t1, hlo⟩ := row_fin HM6.out.1 rfl hJ2 hT2 hta2 hNP kV1 hp1
          -- both made, then copied
          have bA2 := blk_kept (blk_new w6.drew (.cells #[] 3) w6.heap.size rfl) (Keeps.alloc None _ (.cells #[.int .i64 VL] 3)) (fun f => f)
          have bB2 := blk_new (w6.drew.alloc (.cells #[] 3)) (.cells #[.int .i64 VL] 3) (w6.heap.size + 1) (by simp)
          obtain ⟨y2, c2, u2, hr2, ho2, hk2, hy2⟩ := copyB base w6.drew _ ((Keeps.alloc None w6.drew _).andAlloc _) w6.heap.size bA2 (Nat.le_refl _) hszD ra NP rc (nI pr) 24 (hseen.more kD) hN6
          have bB2' := blk_kept bB2 hk2 (fun e => by omega)
          obtain ⟨z2, d2, v2, hs2, hp2, hq2, -⟩ := joinI base w6.drew.heap.size u2 y2 NP c2 (nI pr) (some ⟨w6.heap.size + 1, 0, none⟩) 1 1 (nI [VL]) 24 ho2 (seen_one bB2') hN5 (Nat.le_trans hszD (Nat.le_trans ((Keeps.alloc None w6.drew _).andAlloc _).size hk2.size)) (Nat.le_trans ((Keeps.alloc None w6.drew _).andAlloc _).size hk2.size) hy2
          have kU2 : Keeps None w6 u2 := kDAB.trans hk2 (fun i e hi => by subst e; exact absurd hi (Nat.lt_irrefl _))
          have kV2 : Keeps None w6 v2 := keeps_new kU2 hq2
          obtain ⟨hF2, q32, q32s, f2, t2, -⟩ := row_fin HM6.out.1 rfl hJ2 hT2 hta2 hNP kV2 hp2
          -- the number first
          have bB3 := blk_kept (blk_new w6.drew (.cells #[.int .i64 VL] 3) w6.heap.size rfl) (Keeps.alloc None _ (.cells #[] 3)) (fun f => f)
          have bA3 := blk_new (w6.drew.alloc (.cells #[.int .i64 VL] 3)) (.cells #[] 3) (w6.heap.size + 1) (by simp)
          obtain ⟨y3, c3, u3, hr3, ho3, hk3, hy3⟩ := copyB base w6.drew _ ((Keeps.alloc None w6.drew _).andAlloc _) (w6.heap.size + 1) bA3 (Nat.le_succ _) hszD ra NP rc (nI pr) 24 (hseen.more kD) hN6
          have bB3' := blk_kept bB3 hk3 (fun e => by omega)
          obtain ⟨z3, d3, v3, hs3, hp3, hq3, -⟩ := joinI base w6.drew.heap.size u3 y3 NP c3 (nI pr) (some ⟨w6.heap.size, 0, none⟩) 1 1 (nI [VL]) 24 ho3 (seen_one bB3') hN5 (Nat.le_trans hszD (Nat.le_trans ((Keeps.alloc None w6.drew _).andAlloc _).size hk3.size)) (Nat.le_trans ((Keeps.alloc None w6.drew _).andAlloc _).size hk3.size) hy3
          have kU3 : Keeps None w6 u3 := kDBA.trans hk3 (fun i e hi => by subst e; exact absurd hi (Nat.not_lt.2 (Nat.le_succ _)))
          have kV3 : Keeps None w6 v3 := keeps_new kU3 hq3
          obtain ⟨hF3, q33, q33s, f3, t3, -⟩ := row_fin HM6.out.1 rfl hJ2 hT2 hta2 hNP kV3 hp3
          rw [hRv] at t1 t2 t3
          have HG1 : Hid ((∃ X' L' R' nx', PM (v1.setCell ⟨tb2, J2 * 2 + 1, none⟩ (.slice z1 (NP + 1) d1)) base pb K0 X' L' M R' nx' (retPS s tk psp pr sp st Mm)) ∧ Keeps (fun i => base ≤ i) w (v1.setCell ⟨tb2, J2 * 2 + 1, none⟩ (.slice z1 (NP + 1) d1))) := ⟨by rw [HE.out, ← HM6.out.2.2.1]; obtain ⟨R', h⟩ := hF1; exact ⟨_, _, R', _, h⟩, (keeps_tr HM6.out.2.1 kV1).andSet (x := ⟨tb2, J2 * 2 + 1, none⟩) (.inl hlo) _⟩
          have HG2 : Hid ((∃ X' L' R' nx', PM (v2.setCell ⟨tb2, J2 * 2 + 1, none⟩ (.slice z2 (NP + 1) d2)) base pb K0 X' L' M R' nx' (retPS s tk psp pr sp st Mm)) ∧ Keeps (fun i => base ≤ i) w (v2.setCell ⟨tb2, J2 * 2 + 1, none⟩ (.slice z2 (NP + 1) d2))) := ⟨by rw [HE.out, ← HM6.out.2.2.1]; obtain ⟨R', h⟩ := hF2; exact ⟨_, _, R', _, h⟩, (keeps_tr HM6.out.2.1 kV2).andSet (x := ⟨tb2, J2 * 2 + 1, none⟩) (.inl hlo) _⟩
          have HG3 : Hid ((∃ X' L' R' nx', PM (v3.setCell ⟨tb2, J2 * 2 + 1, none⟩ (.slice z3 (NP + 1) d3)) base pb K0 X' L' M R' nx' (retPS s tk psp pr sp st Mm)) ∧ Keeps (fun i => base ≤ i) w (v3.setCell ⟨tb2, J2 * 2 + 1, none⟩ (.slice z3 (NP + 1) d3))) := ⟨by rw [HE.out, ← HM6.out.2.2.1]; obtain ⟨R', h⟩ := hF3; exact ⟨_, _, R', _, h⟩, (keeps_tr HM6.out.2.1 kV3).andSet (x := ⟨tb2, J2 * 2 + 1, none⟩) (.inl hlo) _⟩
          have HL : Hid (∀ wx, Keeps None w6 wx → Calls Try.prog 42 #[.pointer (some ⟨pb, 0, none⟩)] wx fun e w' => e = .returned (.int .i64 J2) ∧ w' = wx) := fun wx hx => by
            have h := last_ok base pb nx1 K0 X6 L6 M R1 _ wx tk (psp, pr) (HM6.out.1.more hx) rfl (by have := HJ.out.2.2.2.2; omega)
            rw [← HM6.out.2.2.2.1] at h
            exact h
          have sD : w6.drew.cell? ⟨pb, 3, none⟩ = some (.slice (some ⟨tb2, 0, none⟩) T2 X6.tc) := q3
          have sA : (w6.alloc (.cells #[] 3)).drew.cell? ⟨pb, 3, none⟩ = some (.slice (some ⟨tb2, 0, none⟩) T2 X6.tc) := kDA.cell q3 (fun f => f)
          have sB : (w6.alloc (.cells #[.int .i64 VL] 3)).drew.cell? ⟨pb, 3, none⟩ = some (.slice (some ⟨tb2, 0, none⟩) T2 X6.tc) := kDB.cell q3 (fun f => f)
          have sAB : ((w6.alloc (.cells #[] 3)).alloc (.cells #[.int .i64 VL] 3)).drew.cell? ⟨pb, 3, none⟩ = some (.slice (some ⟨tb2, 0, none⟩) T2 X6.tc) := kDAB.cell q3 (fun f => f)
          have sBA : ((w6.alloc (.cells #[.int .i64 VL] 3)).alloc (.cells #[] 3)).drew.cell? ⟨pb, 3, none⟩ = some (.slice (some ⟨tb2, 0, none⟩) T2 X6.tc) := kDBA.cell q3 (fun f => f)
          have sU1 := (kD.trans hk1 (fun _ f _ => f)).cell q3 (fun f => f)
          have sU1B := ((kD.trans hk1 (fun _ f _ => f)).trans kU1 (fun _ f _ => f)).cell q3 (fun f => f)
          have sU2 := kU2.cell q3 (fun f => f)
          have sU3 := kU3.cell q3 (fun f => f)
          have tA : (w6.alloc (.cells #[] 3)).cell? ⟨tb2, J2 * 2 + 1, none⟩ = some (.slice ra NP rc) := kDA.cell t0 (fun f => f)
          have tB : (w6.alloc (.cells #[.int .i64 VL] 3)).cell? ⟨tb2, J2 * 2 + 1, none⟩ = some (.slice ra NP rc) := kDB.cell t0 (fun f => f)
          have tAB : ((w6.alloc (.cells #[] 3)).alloc (.cells #[.int .i64 VL] 3)).cell? ⟨tb2, J2 * 2 + 1, none⟩ = some (.slice ra NP rc) := kDAB.cell t0 (fun f => f)
          have tBA : ((w6.alloc (.cells #[.int .i64 VL] 3)).alloc (.cells #[] 3)).cell? ⟨tb2, J2 * 2 + 1, none⟩ = some (.slice ra NP rc) := kDBA.cell t0 (fun f => f)
          have HK : Hid (Keeps None w6 w6.drew ∧ Keeps None w6 (w6.alloc (.cells #[] 3)).drew ∧ Keeps None w6 (w6.alloc (.cells #[.int .i64 VL] 3)).drew ∧ Keeps None w6 ((w6.alloc (.cells #[] 3)).alloc (.cells #[.int .i64 VL] 3)).drew ∧ Keeps None w6 ((w6.alloc (.cells #[.int .i64 VL] 3)).alloc (.cells #[] 3)).drew) := ⟨kD, kDA, kDB, kDAB, kDBA⟩
          clear hrow hseen hRv hN5 hN8 hN6 kD hszD kDA kDB kDAB kDBA ho1 hk1 hy1 bB1 kU1 hp1 hq1 kV1 hF1 bA2 bB2 ho2 hk2 hy2 bB2' hp2 hq2 kU2 kV2 hF2 bB3 bA3 ho3 hk3 hy3 bB3' hp3 hq3 kU3 kV3 hF3 hlo hJ2 hT2 hNP hta2 q3
          refine wp_region_held_drew (S := (fun w' => w'.cell? ⟨pb, 3, none⟩ = some (.slice (some ⟨tb2, 0, none⟩) T2 X6.tc))) (by kernel_rfl) ?_ (fun hHeld => ?_)
          · (try dsimp only); with_reducible assumption
          refine wpAnyH_take (i := 0) (oi := { dst := some 146, op := Op.move (Operand.tmp 0), type := 60, pos := "hyper.go:118", after := #[], guard := none }) (v := ?_) rfl (by kernel_rfl) (by kernel_rfl) (by kernel_rfl) (fun _ _ _ h => h) (Or.inl ⟨by rfl, ?_⟩) (by assumption) ?_
          rotate_left
          · (intro wz hSw; (try dsimp only at hSw); go_simp; try with_reducible rfl)
          simp only [Act.put, List.setIfInBounds_toArray, List.set_cons_zero, List.set_cons_succ]
          refine wpAnyH_take (i := 1) (oi := { dst := some 147, op := Op.nilCheck (Operand.tmp 146), type := 0, pos := "hyper.go:118", after := #[{ on := 0, ground := Ground.data }], guard := none }) (v := ?_) rfl (by kernel_rfl) (by kernel_rfl) (by kernel_rfl) (fun _ _ _ h => h) (Or.inl ⟨by rfl, ?_⟩) (by assumption) ?_
          rotate_left
          · (intro wz hSw; (try dsimp only at hSw); go_simp; try with_reducible rfl)
          simp only [Act.put, List.setIfInBounds_toArray, List.set_cons_zero, List.set_cons_succ]
          refine wpAnyH_take (i := 2) (oi := { dst := some 148, op := Op.fieldAddr 65 (Operand.tmp 147) 3, type := 0, pos := "hyper.go:118", after := #[{ on := 1, ground := Ground.data }], guard := none }) (v := ?_) rfl (by kernel_rfl) (by kernel_rfl) (by kernel_rfl) (fun _ _ _ h => h) (Or.inl ⟨by rfl, ?_⟩) (by assumption) ?_
          rotate_left
          · (intro wz hSw; (try dsimp only at hSw); go_simp; try with_reducible rfl)
          simp only [Act.put, List.setIfInBounds_toArray, List.set_cons_zero, List.set_cons_succ]
          refine wpAnyH_take (i := 3) (oi := { dst := some 149, op := Op.load 63 (Operand.tmp 148), type := 63, pos := "hyper.go:118", after := #[{ on := 2, ground := Ground.data }], guard := none }) (v := ?_) rfl (by kernel_rfl) (by kernel_rfl) (by kernel_rfl) (fun _ _ _ h => h) (Or.inl ⟨by rfl, ?_⟩) (by assumption) ?_
          rotate_left
          · (intro wz hSw; (try dsimp only at hSw); go_simp; try with_reducible rfl)
          simp only [Act.put, List.setIfInBounds_toArray, List.set_cons_zero, List.set_cons_succ]
          refine wpAnyH_take (i := 4) (oi := { dst := some 150, op := Op.move (Operand.tmp 0), type := 60, pos := "hyper.go:118", after := #[], guard := none }) (v := ?_) rfl (by kernel_rfl) (by kernel_rfl) (by kernel_rfl) (fun _ _ _ h => h) (Or.inl ⟨by rfl, ?_⟩) (by assumption) ?_
          rotate_left
          · (intro wz hSw; (try dsimp only at hSw); go_simp; try with_reducible rfl)
          simp only [Act.put, List.setIfInBounds_toArray, List.set_cons_zero, List.set_cons_succ]
          refine wpAnyH_take (i := 7) (oi := { dst := some 153, op := Op.move (Operand.tmp 0), type := 60, pos := "hyper.go:118", after := #[], guard := none }) (v := ?_) rfl (by kernel_rfl) (by kernel_rfl) (by kernel_rfl) (fun _ _ _ h => h) (Or.inl ⟨by rfl, ?_⟩) (by assumption) ?_
          rotate_left
          · (intro wz hSw; (try dsimp only at hSw); go_simp; try with_reducible rfl)
          simp only [Act.put, List.setIfInBounds_toArray, List.set_cons_zero, List.set_cons_succ]
          refine wpAnyH_take (i := 8) (oi := { dst := some 154, op := Op.nilCheck (Operand.tmp 153), type := 0, pos := "hyper.go:118", after := #[{ on := 7, ground := Ground.data }], guard := none }) (v := ?_) rfl (by kernel_rfl) (by kernel_rfl) (by kernel_rfl) (fun _ _ _ h => h) (Or.inl ⟨by rfl, ?_⟩) (by assumption) ?_
          rotate_left
          · (intro wz hSw; (try dsimp only at hSw); go_simp; try with_reducible rfl)
          simp only [Act.put, List.setIfInBounds_toArray, List.set_cons_zero, List.set_cons_succ]
          refine wpAnyH_take (i := 9) (oi := { dst := some 155, op := Op.fieldAddr 65 (Operand.tmp 154) 3, type := 0, pos := "hyper.go:118", after := #[{ on := 8, ground := Ground.data }], guard := none }) (v := ?_) rfl (by kernel_rfl) (by kernel_rfl) (by kernel_rfl) (fun _ _ _ h => h) (Or.inl ⟨by rfl, ?_⟩) (by assumption) ?_
          rotate_left
          · (intro wz hSw; (try dsimp only at hSw); go_simp; try with_reducible rfl)
          simp only [Act.put, List.setIfInBounds_toArray, List.set_cons_zero, List.set_cons_succ]
          refine wpAnyH_take (i := 10) (oi := { dst := some 156, op := Op.load 63 (Operand.tmp 155), type := 63, pos := "hyper.go:118", after := #[{ on := 9, ground := Ground.data }], guard := none }) (v := ?_) rfl (by kernel_rfl) (by kernel_rfl) (by kernel_rfl) (fun _ _ _ h => h) (Or.inl ⟨by rfl, ?_⟩) (by assumption) ?_
          rotate_left
          · (intro wz hSw; (try dsimp only at hSw); go_simp; try with_reducible rfl)
          simp only [Act.put, List.setIfInBounds_toArray, List.set_cons_zero, List.set_cons_succ]
          refine wpAnyH_take (i := 11) (oi := { dst := some 157, op := Op.move (Operand.tmp 0), type := 60, pos := "hyper.go:118", after := #[], guard := none }) (v := ?_) rfl (by kernel_rfl) (by kernel_rfl) (by kernel_rfl) (fun _ _ _ h => h) (Or.inl ⟨by rfl, ?_⟩) (by assumption) ?_
          rotate_left
          · (intro wz hSw; (try dsimp only at hSw); go_simp; try with_reducible rfl)
          simp only [Act.put, List.setIfInBounds_toArray, List.set_cons_zero, List.set_cons_succ]
          refine wpAnyH_take (i := 17) (oi := { dst := some 163, op := Op.move (Operand.tmp 12), type := 3, pos := "hyper.go:118", after := #[], guard := none }) (v := ?_) rfl (by kernel_rfl) (by kernel_rfl) (by kernel_rfl) (fun _ _ _ h => h) (Or.inl ⟨by rfl, ?_⟩) (by assumption) ?_
          rotate_left
          · (intro wz hSw; (try dsimp only at hSw); go_simp; try with_reducible rfl)
          simp only [Act.put, List.setIfInBounds_toArray, List.set_cons_zero, List.set_cons_succ]
          refine wpAnyH_ready (rs := [5, 6, 18]) (by kernel_rfl) (by simp) ?_
          refine AllReadyH.cons (o := { dst := some 151, op := Op.call { callee := Callee.value (Operand.func 42), args := #[Operand.tmp 150], argTypes := #[60] }, type := 3, pos := "hyper.go:118", after := #[{ on := 4, ground := Ground.data }], guard := none }) rfl (fun K hK => ?_) ?_
          · go_simp
            refine Calls.mono (HL.out _ (by first | with_reducible exact HK.out.1 | with_reducible exact HK.out.2.1 | with_reducible exact HK.out.2.2.1 | with_reducible exact HK.out.2.2.2.1 | with_reducible exact HK.out.2.2.2.2)) ?_
            rintro _ wn ⟨rfl, rfl⟩
            refine hK.out _ _ ?_ (fun hHeld2 => ?_)
            · (try dsimp only); with_reducible assumption
            clear hK K
            try simp only [Act.put, List.setIfInBounds_toArray, List.set_cons_zero, List.set_cons_succ]
            refine wpAnyH_ready (rs := [6, 12, 18]) (by kernel_rfl) (by simp) ?_
            refine AllReadyH.cons (o := { dst := some 152, op := Op.buildSlice 24 0 #[], type := 24, pos := "hyper.go:118", after := #[], guard := none }) rfl (fun K hK => ?_) ?_
            · go_simp
              refine hK.out _ _ ?_ (fun hHeld2 => ?_)
              · (try dsimp only); with_reducible assumption
              clear hK K
              try simp only [Act.put, List.setIfInBounds_toArray, List.set_cons_zero, List.set_cons_succ]
              refine wpAnyH_ready (rs := [12, 18]) (by kernel_rfl) (by simp) ?_
              refine AllReadyH.cons (o := { dst := some 158, op := Op.call { callee := Callee.value (Operand.func 42), args := #[Operand.tmp 157], argTypes := #[60] }, type := 3, pos := "hyper.go:118", after := #[{ on := 11, ground := Ground.data }, { on := 5, ground := Ground.chain }], guard := none }) rfl (fun K hK => ?_) ?_
              · go_simp
                refine Calls.mono (HL.out _ (by first | with_reducible exact HK.out.1 | with_reducible exact HK.out.2.1 | with_reducible exact HK.out.2.2.1 | with_reducible exact HK.out.2.2.2.1 | with_reducible exact HK.out.2.2.2.2)) ?_
                rintro _ wn ⟨rfl, rfl⟩
                refine hK.out _ _ ?_ (fun hHeld2 => ?_)
                · (try dsimp only); with_reducible assumption
                clear hK K
                try simp only [Act.put, List.setIfInBounds_toArray, List.set_cons_zero, List.set_cons_succ]
                refine wpAnyH_take (i := 13) (oi := { dst := some 159, op := Op.indexAddr 63 (Operand.tmp 156) (Operand.tmp 158), type := 0, pos := "hyper.go:118", after := #[{ on := 10, ground := Ground.data }, { on := 12, ground := Ground.data }], guard := none }) (v := ?_) rfl (by kernel_rfl) (by kernel_rfl) (by kernel_rfl) (fun _ _ _ h => h) (Or.inl ⟨by rfl, ?_⟩) (by assumption) ?_
                rotate_left
                · (intro wz hSw; (try dsimp only at hSw); go_simp; try with_reducible rfl)
                simp only [Act.put, List.setIfInBounds_toArray, List.set_cons_zero, List.set_cons_succ]
                refine wpAnyH_take (i := 14) (oi := { dst := some 160, op := Op.fieldAddr 93 (Operand.tmp 159) 1, type := 0, pos := "hyper.go:118", after := #[{ on := 13, ground := Ground.data }], guard := none }) (v := ?_) rfl (by kernel_rfl) (by kernel_rfl) (by kernel_rfl) (fun _ _ _ h => h) (Or.inl ⟨by rfl, ?_⟩) (by assumption) ?_
                rotate_left
                · (intro wz hSw; (try dsimp only at hSw); go_simp; try with_reducible rfl)
                simp only [Act.put, List.setIfInBounds_toArray, List.set_cons_zero, List.set_cons_succ]
                refine wpAnyH_ready (rs := [15, 18]) (by kernel_rfl) (by simp) ?_
                refine AllReadyH.cons (o := { dst := some 161, op := Op.load 24 (Operand.tmp 160), type := 24, pos := "hyper.go:118", after := #[{ on := 14, ground := Ground.data }], guard := none }) rfl (fun K hK => ?_) ?_
                · go_simp
                  refine hK.out _ _ ?_ (fun hHeld2 => ?_)
                  · (try dsimp only); with_reducible assumption
                  clear hK K
                  try simp only [Act.put, List.setIfInBounds_toArray, List.set_cons_zero, List.set_cons_succ]
                  refine wpAnyH_ready (rs := [16, 18]) (by kernel_rfl) (by simp) ?_
                  refine AllReadyH.cons (o := { dst := some 162, op := Op.call { callee := Callee.builtin Builtin.append, args := #[Operand.tmp 152, Operand.tmp 161], argTypes := #[24, 24] }, type := 24, pos := "hyper.go:118", after := #[{ on := 6, ground := Ground.data }, { on := 15, ground := Ground.data }, { on := 12, ground := Ground.chain }], guard := none }) rfl (fun K hK => ?_) ?_
                  · first | ((with_reducible refine at_w ((w6.alloc (.cells #[] 3)).drew) ?_); refine step_append_run rfl (.tmp 152) (.tmp 161) 24 24 rfl (by first | rfl | simp [Act.eval]) (by first | rfl | simp [Act.eval]) hr1 ?_) | ((with_reducible refine at_w (((w6.alloc (.cells #[] 3)).alloc (.cells #[.int .i64 VL] 3)).drew) ?_); refine step_append_run rfl (.tmp 152) (.tmp 161) 24 24 rfl (by first | rfl | simp [Act.eval]) (by first | rfl | simp [Act.eval]) hr2 ?_) | ((with_reducible refine at_w (((w6.alloc (.cells #[.int .i64 VL] 3)).alloc (.cells #[] 3)).drew) ?_); refine step_append_run rfl (.tmp 152) (.tmp 161) 24 24 rfl (by first | rfl | simp [Act.eval]) (by first | rfl | simp [Act.eval]) hr3 ?_)
                    refine hK.out _ _ ?_ (fun hHeld2 => ?_)
                    · (try dsimp only); with_reducible assumption
                    clear hK K
                    try simp only [Act.put, List.setIfInBounds_toArray, List.set_cons_zero, List.set_cons_succ]
                    refine wpAnyH_ready (rs := [18]) (by kernel_rfl) (by simp) ?_
                    refine AllReadyH.cons (o := { dst := some 164, op := Op.buildSlice 24 1 #[(0, Operand.tmp 163)], type := 24, pos := "hyper.go:118", after := #[{ on := 17, ground := Ground.data }], guard := none }) rfl (fun K hK => ?_) ?_
                    · go_simp
                      refine hK.out _ _ ?_ (fun hHeld2 => ?_)
                      · (try dsimp only); with_reducible assumption
                      clear hK K
                      try simp only [Act.put, List.setIfInBounds_toArray, List.set_cons_zero, List.set_cons_succ]
                      refine wpAnyH_ready (rs := [19]) (by kernel_rfl) (by simp) ?_
                      refine AllReadyH.cons (o := { dst := some 165, op := Op.call { callee := Callee.builtin Builtin.append, args := #[Operand.tmp 162, Operand.tmp 164], argTypes := #[24, 24] }, type := 24, pos := "hyper.go:118", after := #[{ on := 16, ground := Ground.data }, { on := 18, ground := Ground.data }, { on := 16, ground := Ground.chain }], guard := none }) rfl (fun K hK => ?_) ?_
                      · first | ((with_reducible refine at_w (u1.alloc (.cells #[.int .i64 VL] 3)) ?_); refine step_append_run rfl (.tmp 162) (.tmp 164) 24 24 rfl (by first | rfl | simp [Act.eval]) (by first | rfl | simp [Act.eval]) hs1 ?_) | ((with_reducible refine at_w u2 ?_); refine step_append_run rfl (.tmp 162) (.tmp 164) 24 24 rfl (by first | rfl | simp [Act.eval]) (by first | rfl | simp [Act.eval]) hs2 ?_) | ((with_reducible refine at_w u3 ?_); refine step_append_run rfl (.tmp 162) (.tmp 164) 24 24 rfl (by first | rfl | simp [Act.eval]) (by first | rfl | simp [Act.eval]) hs3 ?_)
                        refine hK.out _ _ ?_ (fun hHeld2 => ?_)
                        · (try dsimp only); with_reducible assumption
                        clear hK K
                        try simp only [Act.put, List.setIfInBounds_toArray, List.set_cons_zero, List.set_cons_succ]
                        refine wpAnyH_take (i := 20) (oi := _) (v := ?_) rfl (by kernel_rfl) (by kernel_rfl) (by kernel_rfl) (fun _ _ _ h => h) (Or.inl ⟨by rfl, ?_⟩) (by assumption) ?_
                        rotate_left
                        · (intro wz hSw; (try dsimp only at hSw); go_simp; try with_reducible rfl)
                        simp only [Act.put, List.setIfInBounds_toArray, List.set_cons_zero, List.set_cons_succ]
                        refine wpAnyH_take (i := 21) (oi := _) (v := ?_) rfl (by kernel_rfl) (by kernel_rfl) (by kernel_rfl) (fun _ _ _ h => h) (Or.inl ⟨by rfl, ?_⟩) (by assumption) ?_
                        rotate_left
                        · (intro wz hSw; (try dsimp only at hSw); go_simp; try with_reducible rfl)
                        simp only [Act.put, List.setIfInBounds_toArray, List.set_cons_zero, List.set_cons_succ]
                        refine wpAnyH_ready (rs := [22]) (by kernel_rfl) (by simp) ?_
                        refine AllReadyH.cons (o := _) rfl (fun K hK => ?_) ?_
                        · go_simp
                          refine hK.out _ _ ?_ (fun hHeld2 => ?_)
                          · (try dsimp only); with_reducible assumption
                          clear hK K
                          try simp only [Act.put, List.setIfInBounds_toArray, List.set_cons_zero, List.set_cons_succ]
                          refine wpAnyH_done (by kernel_rfl) ?_ _
                          go_wp2_with fail
                          go_end0
                          refine ⟨rfl, ?_⟩
                          first | with_reducible exact HG1.out | with_reducible exact HG2.out | with_reducible exact HG3.out
                        exact AllReadyH.nil
                      exact AllReadyH.nil
                    exact AllReadyH.nil
                  refine AllReadyH.cons (o := { dst := some 164, op := Op.buildSlice 24 1 #[(0, Operand.tmp 163)], type := 24, pos := "hyper.go:118", after := #[{ on := 17, ground := Ground.data }], guard := none }) rfl (fun K hK => ?_) ?_
                  · go_simp
                    refine hK.out _ _ ?_ (fun hHeld2 => ?_)
                    · (try dsimp only); with_reducible assumption
                    clear hK K
                    try simp only [Act.put, List.setIfInBounds_toArray, List.set_cons_zero, List.set_cons_succ]
                    refine wpAnyH_ready (rs := [16]) (by kernel_rfl) (by simp) ?_
                    refine AllReadyH.cons (o := { dst := some 162, op := Op.call { callee := Callee.builtin Builtin.append, args := #[Operand.tmp 152, Operand.tmp 161], argTypes := #[24, 24] }, type := 24, pos := "hyper.go:118", after := #[{ on := 6, ground := Ground.data }, { on := 15, ground := Ground.data }, { on := 12, ground := Ground.chain }], guard := none }) rfl (fun K hK => ?_) ?_
                    · first | ((with_reducible refine at_w ((w6.alloc (.cells #[] 3)).drew) ?_); refine step_append_run rfl (.tmp 152) (.tmp 161) 24 24 rfl (by first | rfl | simp [Act.eval]) (by first | rfl | simp [Act.eval]) hr1 ?_) | ((with_reducible refine at_w (((w6.alloc (.cells #[] 3)).alloc (.cells #[.int .i64 VL] 3)).drew) ?_); refine step_append_run rfl (.tmp 152) (.tmp 161) 24 24 rfl (by first | rfl | simp [Act.eval]) (by first | rfl | simp [Act.eval]) hr2 ?_) | ((with_reducible refine at_w (((w6.alloc (.cells #[.int .i64 VL] 3)).alloc (.cells #[] 3)).drew) ?_); refine step_append_run rfl (.tmp 152) (.tmp 161) 24 24 rfl (by first | rfl | simp [Act.eval]) (by first | rfl | simp [Act.eval]) hr3 ?_)
                      refine hK.out _ _ ?_ (fun hHeld2 => ?_)
                      · (try dsimp only); with_reducible assumption
                      clear hK K
                      try simp only [Act.put, List.setIfInBounds_toArray, List.set_cons_zero, List.set_cons_succ]
                      refine wpAnyH_ready (rs := [19]) (by kernel_rfl) (by simp) ?_
                      refine AllReadyH.cons (o := { dst := some 165, op := Op.call { callee := Callee.builtin Builtin.append, args := #[Operand.tmp 162, Operand.tmp 164], argTypes := #[24, 24] }, type := 24, pos := "hyper.go:118", after := #[{ on := 16, ground := Ground.data }, { on := 18, ground := Ground.data }, { on := 16, ground := Ground.chain }], guard := none }) rfl (fun K hK => ?_) ?_
                      · first | ((with_reducible refine at_w (u1.alloc (.cells #[.int .i64 VL] 3)) ?_); refine step_append_run rfl (.tmp 162) (.tmp 164) 24 24 rfl (by first | rfl | simp [Act.eval]) (by first | rfl | simp [Act.eval]) hs1 ?_) | ((with_reducible refine at_w u2 ?_); refine step_append_run rfl (.tmp 162) (.tmp 164) 24 24 rfl (by first | rfl | simp [Act.eval]) (by first | rfl | simp [Act.eval]) hs2 ?_) | ((with_reducible refine at_w u3 ?_); refine step_append_run rfl (.tmp 162) (.tmp 164) 24 24 rfl (by first | rfl | simp [Act.eval]) (by first | rfl | simp [Act.eval]) hs3 ?_)
                        refine hK.out _ _ ?_ (fun hHeld2 => ?_)
                        · (try dsimp only); with_reducible assumption
                        clear hK K
                        try simp only [Act.put, List.setIfInBounds_toArray, List.set_cons_zero, List.set_cons_succ]
                        refine wpAnyH_take (i := 20) (oi := _) (v := ?_) rfl (by kernel_rfl) (by kernel_rfl) (by kernel_rfl) (fun _ _ _ h => h) (Or.inl ⟨by rfl, ?_⟩) (by assumption) ?_
                        rotate_left
                        · (intro wz hSw; (try dsimp only at hSw); go_simp; try with_reducible rfl)
                        simp only [Act.put, List.setIfInBounds_toArray, List.set_cons_zero, List.set_cons_succ]
                        refine wpAnyH_take (i := 21) (oi := _) (v := ?_) rfl (by kernel_rfl) (by kernel_rfl) (by kernel_rfl) (fun _ _ _ h => h) (Or.inl ⟨by rfl, ?_⟩) (by assumption) ?_
                        rotate_left
                        · (intro wz hSw; (try dsimp only at hSw); go_simp; try with_reducible rfl)
                        simp only [Act.put, List.setIfInBounds_toArray, List.set_cons_zero, List.set_cons_succ]
                        refine wpAnyH_ready (rs := [22]) (by kernel_rfl) (by simp) ?_
                        refine AllReadyH.cons (o := _) rfl (fun K hK => ?_) ?_
                        · go_simp
                          refine hK.out _ _ ?_ (fun hHeld2 => ?_)
                          · (try dsimp only); with_reducible assumption
                          clear hK K
                          try simp only [Act.put, List.setIfInBounds_toArray, List.set_cons_zero, List.set_cons_succ]
                          refine wpAnyH_done (by kernel_rfl) ?_ _
                          go_wp2_with fail
                          go_end0
                          refine ⟨rfl, ?_⟩
                          first | with_reducible exact HG1.out | with_reducible exact HG2.out | with_reducible exact HG3.out
                        exact AllReadyH.nil
                      exact AllReadyH.nil
                    exact AllReadyH.nil
                  exact AllReadyH.nil
                refine AllReadyH.cons (o := { dst := some 164, op := Op.buildSlice 24 1 #[(0, Operand.tmp 163)], type := 24, pos := "hyper.go:118", after := #[{ on := 17, ground := Ground.data }], guard := none }) rfl (fun K hK => ?_) ?_
                · go_simp
                  refine hK.out _ _ ?_ (fun hHeld2 => ?_)
                  · (try dsimp only); with_reducible assumption
                  clear hK K
                  try simp only [Act.put, List.setIfInBounds_toArray, List.set_cons_zero, List.set_cons_succ]
                  refine wpAnyH_ready (rs := [15]) (by kernel_rfl) (by simp) ?_
                  refine AllReadyH.cons (o := { dst := some 161, op := Op.load 24 (Operand.tmp 160), type := 24, pos := "hyper.go:118", after := #[{ on := 14, ground := Ground.data }], guard := none }) rfl (fun K hK => ?_) ?_
                  · go_simp
                    refine hK.out _ _ ?_ (fun hHeld2 => ?_)
                    · (try dsimp only); with_reducible assumption
                    clear hK K
                    try simp only [Act.put, List.setIfInBounds_toArray, List.set_cons_zero, List.set_cons_succ]
                    refine wpAnyH_ready (rs := [16]) (by kernel_rfl) (by simp) ?_
                    refine AllReadyH.cons (o := { dst := some 162, op := Op.call { callee := Callee.builtin Builtin.append, args := #[Operand.tmp 152, Operand.tmp 161], argTypes := #[24, 24] }, type := 24, pos := "hyper.go:118", after := #[{ on := 6, ground := Ground.data }, { on := 15, ground := Ground.data }, { on := 12, ground := Ground.chain }], guard := none }) rfl (fun K hK => ?_) ?_
                    · first | ((with_reducible refine at_w ((w6.alloc (.cells #[] 3)).drew) ?_); refine step_append_run rfl (.tmp 152) (.tmp 161) 24 24 rfl (by first | rfl | simp [Act.eval]) (by first | rfl | simp [Act.eval]) hr1 ?_) | ((with_reducible refine at_w (((w6.alloc (.cells #[] 3)).alloc (.cells #[.int .i64 VL] 3)).drew) ?_); refine step_append_run rfl (.tmp 152) (.tmp 161) 24 24 rfl (by first | rfl | simp [Act.eval]) (by first | rfl | simp [Act.eval]) hr2 ?_) | ((with_reducible refine at_w (((w6.alloc (.cells #[.int .i64 VL] 3)).alloc (.cells #[] 3)).drew) ?_); refine step_append_run rfl (.tmp 152) (.tmp 161) 24 24 rfl (by first | rfl | simp [Act.eval]) (by first | rfl | simp [Act.eval]) hr3 ?_)
                      refine hK.out _ _ ?_ (fun hHeld2 => ?_)
                      · (try dsimp only); with_reducible assumption
                      clear hK K
                      try simp only [Act.put, List.setIfInBounds_toArray, List.set_cons_zero, List.set_cons_succ]
                      refine wpAnyH_ready (rs := [19]) (by kernel_rfl) (by simp) ?_
                      refine AllReadyH.cons (o := { dst := some 165, op := Op.call { callee := Callee.builtin Builtin.append, args := #[Operand.tmp 162, Operand.tmp 164], argTypes := #[24, 24] }, type := 24, pos := "hyper.go:118", after := #[{ on := 16, ground := Ground.data }, { on := 18, ground := Ground.data }, { on := 16, ground := Ground.chain }], guard := none }) rfl (fun K hK => ?_) ?_
                      · first | ((with_reducible refine at_w (u1.alloc (.cells #[.int .i64 VL] 3)) ?_); refine step_append_run rfl (.tmp 162) (.tmp 164) 24 24 rfl (by first | rfl | simp [Act.eval]) (by first | rfl | simp [Act.eval]) hs1 ?_) | ((with_reducible refine at_w u2 ?_); refine step_append_run rfl (.tmp 162) (.tmp 164) 24 24 rfl (by first | rfl | simp [Act.eval]) (by first | rfl | simp [Act.eval]) hs2 ?_) | ((with_reducible refine at_w u3 ?_); refine step_append_run rfl (.tmp 162) (.tmp 164) 24 24 rfl (by first | rfl | simp [Act.eval]) (by first | rfl | simp [Act.eval]) hs3 ?_)
                        refine hK.out _ _ ?_ (fun hHeld2 => ?_)
                        · (try dsimp only); with_reducible assumption
                        clear hK K
                        try simp only [Act.put, List.setIfInBounds_toArray, List.set_cons_zero, List.set_cons_succ]
                        refine wpAnyH_take (i := 20) (oi := _) (v := ?_) rfl (by kernel_rfl) (by kernel_rfl) (by kernel_rfl) (fun _ _ _ h => h) (Or.inl ⟨by rfl, ?_⟩) (by assumption) ?_
                        rotate_left
                        · (intro wz hSw; (try dsimp only at hSw); go_simp; try with_reducible rfl)
                        simp only [Act.put, List.setIfInBounds_toArray, List.set_cons_zero, List.set_cons_succ]
                        refine wpAnyH_take (i := 21) (oi := _) (v := ?_) rfl (by kernel_rfl) (by kernel_rfl) (by kernel_rfl) (fun _ _ _ h => h) (Or.inl ⟨by rfl, ?_⟩) (by assumption) ?_
                        rotate_left
                        · (intro wz hSw; (try dsimp only at hSw); go_simp; try with_reducible rfl)
                        simp only [Act.put, List.setIfInBounds_toArray, List.set_cons_zero, List.set_cons_succ]
                        refine wpAnyH_ready (rs := [22]) (by kernel_rfl) (by simp) ?_
                        refine AllReadyH.cons (o := _) rfl (fun K hK => ?_) ?_
                        · go_simp
                          refine hK.out _ _ ?_ (fun hHeld2 => ?_)
                          · (try dsimp only); with_reducible assumption
                          clear hK K
                          try simp only [Act.put, List.setIfInBounds_toArray, List.set_cons_zero, List.set_cons_succ]
                          refine wpAnyH_done (by kernel_rfl) ?_ _
                          go_wp2_with fail
                          go_end0
                          refine ⟨rfl, ?_⟩
                          first | with_reducible exact HG1.out | with_reducible exact HG2.out | with_reducible exact HG3.out
                        exact AllReadyH.nil
                      exact AllReadyH.nil
                    exact AllReadyH.nil
                  exact AllReadyH.nil
                exact AllReadyH.nil
              refine AllReadyH.cons (o := { dst := some 164, op := Op.buildSlice 24 1 #[(0, Operand.tmp 163)], type := 24, pos := "hyper.go:118", after := #[{ on := 17, ground := Ground.data }], guard := none }) rfl (fun K hK => ?_) ?_
              · go_simp
                refine hK.out _ _ ?_ (fun hHeld2 => ?_)
                · (try dsimp only); with_reducible assumption
                clear hK K
                try simp only [Act.put, List.setIfInBounds_toArray, List.set_cons_zero, List.set_cons_succ]
                refine wpAnyH_ready (rs := [12]) (by kernel_rfl) (by simp) ?_
                refine AllReadyH.cons (o := { dst := some 158, op := Op.call { callee := Callee.value (Operand.func 42), args := #[Operand.tmp 157], argTypes := #[60] }, type := 3, pos := "hyper.go:118", after := #[{ on := 11, ground := Ground.data }, { on := 5, ground := Ground.chain }], guard := none }) rfl (fun K hK => ?_) ?_
                · go_simp
                  refine Calls.mono (HL.out _ (by first | with_reducible exact HK.out.1 | with_reducible exact HK.out.2.1 | with_reducible exact HK.out.2.2.1 | with_reducible exact HK.out.2.2.2.1 | with_reducible exact HK.out.2.2.2.2)) ?_
                  rintro _ wn ⟨rfl, rfl⟩
                  refine hK.out _ _ ?_ (fun hHeld2 => ?_)
                  · (try dsimp only); with_reducible assumption
                  clear hK K
                  try simp only [Act.put, List.setIfInBounds_toArray, List.set_cons_zero, List.set_cons_succ]
                  refine wpAnyH_take (i := 13) (oi := { dst := some 159, op := Op.indexAddr 63 (Operand.tmp 156) (Operand.tmp 158), type := 0, pos := "hyper.go:118", after := #[{ on := 10, ground := Ground.data }, { on := 12, ground := Ground.data }], guard := none }) (v := ?_) rfl (by kernel_rfl) (by kernel_rfl) (by kernel_rfl) (fun _ _ _ h => h) (Or.inl ⟨by rfl, ?_⟩) (by assumption) ?_
                  rotate_left
                  · (intro wz hSw; (try dsimp only at hSw); go_simp; try with_reducible rfl)
                  simp only [Act.put, List.setIfInBounds_toArray, List.set_cons_zero, List.set_cons_succ]
                  refine wpAnyH_take (i := 14) (oi := { dst := some 160, op := Op.fieldAddr 93 (Operand.tmp 159) 1, type := 0, pos := "hyper.go:118", after := #[{ on := 13, ground := Ground.data }], guard := none }) (v := ?_) rfl (by kernel_rfl) (by kernel_rfl) (by kernel_rfl) (fun _ _ _ h => h) (Or.inl ⟨by rfl, ?_⟩) (by assumption) ?_
                  rotate_left
                  · (intro wz hSw; (try dsimp only at hSw); go_simp; try with_reducible rfl)
                  simp only [Act.put, List.setIfInBounds_toArray, List.set_cons_zero, List.set_cons_succ]
                  refine wpAnyH_ready (rs := [15]) (by kernel_rfl) (by simp) ?_
                  refine AllReadyH.cons (o := { dst := some 161, op := Op.load 24 (Operand.tmp 160), type := 24, pos := "hyper.go:118", after := #[{ on := 14, ground := Ground.data }], guard := none }) rfl (fun K hK => ?_) ?_
                  · go_simp
                    refine hK.out _ _ ?_ (fun hHeld2 => ?_)
                    · (try dsimp only); with_reducible assumption
                    clear hK K
                    try simp only [Act.put, List.setIfInBounds_toArray, List.set_cons_zero, List.set_cons_succ]
                    refine wpAnyH_ready (rs := [16]) (by kernel_rfl) (by simp) ?_
                    refine AllReadyH.cons (o := { dst := some 162, op := Op.call { callee := Callee.builtin Builtin.append, args := #[Operand.tmp 152, Operand.tmp 161], argTypes := #[24, 24] }, type := 24, pos := "hyper.go:118", after := #[{ on := 6, ground := Ground.data }, { on := 15, ground := Ground.data }, { on := 12, ground := Ground.chain }], guard := none }) rfl (fun K hK => ?_) ?_
                    · first | ((with_reducible refine at_w ((w6.alloc (.cells #[] 3)).drew) ?_); refine step_append_run rfl (.tmp 152) (.tmp 161) 24 24 rfl (by first | rfl | simp [Act.eval]) (by first | rfl | simp [Act.eval]) hr1 ?_) | ((with_reducible refine at_w (((w6.alloc (.cells #[] 3)).alloc (.cells #[.int .i64 VL] 3)).drew) ?_); refine step_append_run rfl (.tmp 152) (.tmp 161) 24 24 rfl (by first | rfl | simp [Act.eval]) (by first | rfl | simp [Act.eval]) hr2 ?_) | ((with_reducible refine at_w (((w6.alloc (.cells #[.int .i64 VL] 3)).alloc (.cells #[] 3)).drew) ?_); refine step_append_run rfl (.tmp 152) (.tmp 161) 24 24 rfl (by first | rfl | simp [Act.eval]) (by first | rfl | simp [Act.eval]) hr3 ?_)
                      refine hK.out _ _ ?_ (fun hHeld2 => ?_)
                      · (try dsimp only); with_reducible assumption
                      clear hK K
                      try simp only [Act.put, List.setIfInBounds_toArray, List.set_cons_zero, List.set_cons_succ]
                      refine wpAnyH_ready (rs := [19]) (by kernel_rfl) (by simp) ?_
                      refine AllReadyH.cons (o := { dst := some 165, op := Op.call { callee := Callee.builtin Builtin.append, args := #[Operand.tmp 162, Operand.tmp 164], argTypes := #[24, 24] }, type := 24, pos := "hyper.go:118", after := #[{ on := 16, ground := Ground.data }, { on := 18, ground := Ground.data }, { on := 16, ground := Ground.chain }], guard := none }) rfl (fun K hK => ?_) ?_
                      · first | ((with_reducible refine at_w (u1.alloc (.cells #[.int .i64 VL] 3)) ?_); refine step_append_run rfl (.tmp 162) (.tmp 164) 24 24 rfl (by first | rfl | simp [Act.eval]) (by first | rfl | simp [Act.eval]) hs1 ?_) | ((with_reducible refine at_w u2 ?_); refine step_append_run rfl (.tmp 162) (.tmp 164) 24 24 rfl (by first | rfl | simp [Act.eval]) (by first | rfl | simp [Act.eval]) hs2 ?_) | ((with_reducible refine at_w u3 ?_); refine step_append_run rfl (.tmp 162) (.tmp 164) 24 24 rfl (by first | rfl | simp [Act.eval]) (by first | rfl | simp [Act.eval]) hs3 ?_)
                        refine hK.out _ _ ?_ (fun hHeld2 => ?_)
                        · (try dsimp only); with_reducible assumption
                        clear hK K
                        try simp only [Act.put, List.setIfInBounds_toArray, List.set_cons_zero, List.set_cons_succ]
                        refine wpAnyH_take (i := 20) (oi := _) (v := ?_) rfl (by kernel_rfl) (by kernel_rfl) (by kernel_rfl) (fun _ _ _ h => h) (Or.inl ⟨by rfl, ?_⟩) (by assumption) ?_
                        rotate_left
                        · (intro wz hSw; (try dsimp only at hSw); go_simp; try with_reducible rfl)
                        simp only [Act.put, List.setIfInBounds_toArray, List.set_cons_zero, List.set_cons_succ]
                        refine wpAnyH_take (i := 21) (oi := _) (v := ?_) rfl (by kernel_rfl) (by kernel_rfl) (by kernel_rfl) (fun _ _ _ h => h) (Or.inl ⟨by rfl, ?_⟩) (by assumption) ?_
                        rotate_left
                        · (intro wz hSw; (try dsimp only at hSw); go_simp; try with_reducible rfl)
                        simp only [Act.put, List.setIfInBounds_toArray, List.set_cons_zero, List.set_cons_succ]
                        refine wpAnyH_ready (rs := [22]) (by kernel_rfl) (by simp) ?_
                        refine AllReadyH.cons (o := _) rfl (fun K hK => ?_) ?_
                        · go_simp
                          refine hK.out _ _ ?_ (fun hHeld2 => ?_)
                          · (try dsimp only); with_reducible assumption
                          clear hK K
                          try simp only [Act.put, List.setIfInBounds_toArray, List.set_cons_zero, List.set_cons_succ]
                          refine wpAnyH_done (by kernel_rfl) ?_ _
                          go_wp2_with fail
                          go_end0
                          refine ⟨rfl, ?_⟩
                          first | with_reducible exact HG1.out | with_reducible exact HG2.out | with_reducible exact HG3.out
                        exact AllReadyH.nil
                      exact AllReadyH.nil
                    exact AllReadyH.nil
                  exact AllReadyH.nil
                exact AllReadyH.nil
              exact AllReadyH.nil
            refine AllReadyH.cons (o := { dst := some 158, op := Op.call { callee := Callee.value (Operand.func 42), args := #[Operand.tmp 157], argTypes := #[60] }, type := 3, pos := "hyper.go:118", after := #[{ on := 11, ground := Ground.data }, { on := 5, ground := Ground.chain }], guard := none }) rfl (fun K hK => ?_) ?_
            · go_simp
              refine Calls.mono (HL.out _ (by first | with_reducible exact HK.out.1 | with_reducible exact HK.out.2.1 | with_reducible exact HK.out.2.2.1 | with_reducible exact HK.out.2.2.2.1 | with_reducible exact HK.out.2.2.2.2)) ?_
              rintro _ wn ⟨rfl, rfl⟩
              refine hK.out _ _ ?_ (fun hHeld2 => ?_)
              · (try dsimp only); with_reducible assumption
              clear hK K
              try simp only [Act.put, List.setIfInBounds_toArray, List.set_cons_zero, List.set_cons_succ]
              refine wpAnyH_take (i := 13) (oi := { dst := some 159, op := Op.indexAddr 63 (Operand.tmp 156) (Operand.tmp 158), type := 0, pos := "hyper.go:118", after := #[{ on := 10, ground := Ground.data }, { on := 12, ground := Ground.data }], guard := none }) (v := ?_) rfl (by kernel_rfl) (by kernel_rfl) (by kernel_rfl) (fun _ _ _ h => h) (Or.inl ⟨by rfl, ?_⟩) (by assumption) ?_
              rotate_left
              · (intro wz hSw; (try dsimp only at hSw); go_simp; try with_reducible rfl)
              simp only [Act.put, List.setIfInBounds_toArray, List.set_cons_zero, List.set_cons_succ]
              refine wpAnyH_take (i := 14) (oi := { dst := some 160, op := Op.fieldAddr 93 (Operand.tmp 159) 1, type := 0, pos := "hyper.go:118", after := #[{ on := 13, ground := Ground.data }], guard := none }) (v := ?_) rfl (by kernel_rfl) (by kernel_rfl) (by kernel_rfl) (fun _ _ _ h => h) (Or.inl ⟨by rfl, ?_⟩) (by assumption) ?_
              rotate_left
              · (intro wz hSw; (try dsimp only at hSw); go_simp; try with_reducible rfl)
              simp only [Act.put, List.setIfInBounds_toArray, List.set_cons_zero, List.set_cons_succ]
              refine wpAnyH_ready (rs := [6, 15, 18]) (by kernel_rfl) (by simp) ?_
              refine AllReadyH.cons (o := { dst := some 152, op := Op.buildSlice 24 0 #[], type := 24, pos := "hyper.go:118", after := #[], guard := none }) rfl (fun K hK => ?_) ?_
              · go_simp
                refine hK.out _ _ ?_ (fun hHeld2 => ?_)
                · (try dsimp only); with_reducible assumption
                clear hK K
                try simp only [Act.put, List.setIfInBounds_toArray, List.set_cons_zero, List.set_cons_succ]
                refine wpAnyH_ready (rs := [15, 18]) (by kernel_rfl) (by simp) ?_
                refine AllReadyH.cons (o := { dst := some 161, op := Op.load 24 (Operand.tmp 160), type := 24, pos := "hyper.go:118", after := #[{ on := 14, ground := Ground.data }], guard := none }) rfl (fun K hK => ?_) ?_
                · go_simp
                  refine hK.out _ _ ?_ (fun hHeld2 => ?_)
                  · (try dsimp only); with_reducible assumption
                  clear hK K
                  try simp only [Act.put, List.setIfInBounds_toArray, List.set_cons_zero, List.set_cons_succ]
                  refine wpAnyH_ready (rs := [16, 18]) (by kernel_rfl) (by simp) ?_
                  refine AllReadyH.cons (o := { dst := some 162, op := Op.call { callee := Callee.builtin Builtin.append, args := #[Operand.tmp 152, Operand.tmp 161], argTypes := #[24, 24] }, type := 24, pos := "hyper.go:118", after := #[{ on := 6, ground := Ground.data }, { on := 15, ground := Ground.data }, { on := 12, ground := Ground.chain }], guard := none }) rfl (fun K hK => ?_) ?_
                  · first | ((with_reducible refine at_w ((w6.alloc (.cells #[] 3)).drew) ?_); refine step_append_run rfl (.tmp 152) (.tmp 161) 24 24 rfl (by first | rfl | simp [Act.eval]) (by first | rfl | simp [Act.eval]) hr1 ?_) | ((with_reducible refine at_w (((w6.alloc (.cells #[] 3)).alloc (.cells #[.int .i64 VL] 3)).drew) ?_); refine step_append_run rfl (.tmp 152) (.tmp 161) 24 24 rfl (by first | rfl | simp [Act.eval]) (by first | rfl | simp [Act.eval]) hr2 ?_) | ((with_reducible refine at_w (((w6.alloc (.cells #[.int .i64 VL] 3)).alloc (.cells #[] 3)).drew) ?_); refine step_append_run rfl (.tmp 152) (.tmp 161) 24 24 rfl (by first | rfl | simp [Act.eval]) (by first | rfl | simp [Act.eval]) hr3 ?_)
                    refine hK.out _ _ ?_ (fun hHeld2 => ?_)
                    · (try dsimp only); with_reducible assumption
                    clear hK K
                    try simp only [Act.put, List.setIfInBounds_toArray, List.set_cons_zero, List.set_cons_succ]
                    refine wpAnyH_ready (rs := [18]) (by kernel_rfl) (by simp) ?_
                    refine AllReadyH.cons (o := { dst := some 164, op := Op.buildSlice 24 1 #[(0, Operand.tmp 163)], type := 24, pos := "hyper.go:118", after := #[{ on := 17, ground := Ground.data }], guard := none }) rfl (fun K hK => ?_) ?_
                    · go_simp
                      refine hK.out _ _ ?_ (fun hHeld2 => ?_)
                      · (try dsimp only); with_reducible assumption
                      clear hK K
                      try simp only [Act.put, List.setIfInBounds_toArray, List.set_cons_zero, List.set_cons_succ]
                      refine wpAnyH_ready (rs := [19]) (by kernel_rfl) (by simp) ?_
                      refine AllReadyH.cons (o := { dst := some 165, op := Op.call { callee := Callee.builtin Builtin.append, args := #[Operand.tmp 162, Operand.tmp 164], argTypes := #[24, 24] }, type := 24, pos := "hyper.go:118", after := #[{ on := 16, ground := Ground.data }, { on := 18, ground := Ground.data }, { on := 16, ground := Ground.chain }], guard := none }) rfl (fun K hK => ?_) ?_
                      · first | ((with_reducible refine at_w (u1.alloc (.cells #[.int .i64 VL] 3)) ?_); refine step_append_run rfl (.tmp 162) (.tmp 164) 24 24 rfl (by first | rfl | simp [Act.eval]) (by first | rfl | simp [Act.eval]) hs1 ?_) | ((with_reducible refine at_w u2 ?_); refine step_append_run rfl (.tmp 162) (.tmp 164) 24 24 rfl (by first | rfl | simp [Act.eval]) (by first | rfl | simp [Act.eval]) hs2 ?_) | ((with_reducible refine at_w u3 ?_); refine step_append_run rfl (.tmp 162) (.tmp 164) 24 24 rfl (by first | rfl | simp [Act.eval]) (by first | rfl | simp [Act.eval]) hs3 ?_)
                        refine hK.out _ _ ?_ (fun hHeld2 => ?_)
                        · (try dsimp only); with_reducible assumption
                        clear hK K
                        try simp only [Act.put, List.setIfInBounds_toArray, List.set_cons_zero, List.set_cons_succ]
                        refine wpAnyH_take (i := 20) (oi := _) (v := ?_) rfl (by kernel_rfl) (by kernel_rfl) (by kernel_rfl) (fun _ _ _ h => h) (Or.inl ⟨by rfl, ?_⟩) (by assumption) ?_
                        rotate_left
                        · (intro wz hSw; (try dsimp only at hSw); go_simp; try with_reducible rfl)
                        simp only [Act.put, List.setIfInBounds_toArray, List.set_cons_zero, List.set_cons_succ]
                        refine wpAnyH_take (i := 21) (oi := _) (v := ?_) rfl (by kernel_rfl) (by kernel_rfl) (by kernel_rfl) (fun _ _ _ h => h) (Or.inl ⟨by rfl, ?_⟩) (by assumption) ?_
                        rotate_left
                        · (intro wz hSw; (try dsimp only at hSw); go_simp; try with_reducible rfl)
                        simp only [Act.put, List.setIfInBounds_toArray, List.set_cons_zero, List.set_cons_succ]
                        refine wpAnyH_ready (rs := [22]) (by kernel_rfl) (by simp) ?_
                        refine AllReadyH.cons (o := _) rfl (fun K hK => ?_) ?_
                        · go_simp
                          refine hK.out _ _ ?_ (fun hHeld2 => ?_)
                          · (try dsimp only); with_reducible assumption
                          clear hK K
                          try simp only [Act.put, List.setIfInBounds_toArray, List.set_cons_zero, List.set_cons_succ]
                          refine wpAnyH_done (by kernel_rfl) ?_ _
                          go_wp2_with fail
                          go_end0
                          refine ⟨rfl, ?_⟩
                          first | with_reducible exact HG1.out | with_reducible exact HG2.out | with_reducible exact HG3.out
                        exact AllReadyH.nil
                      exact AllReadyH.nil
                    exact AllReadyH.nil
                  refine AllReadyH.cons (o := { dst := some 164, op := Op.buildSlice 24 1 #[(0, Operand.tmp 163)], type := 24, pos := "hyper.go:118", after := #[{ on := 17, ground := Ground.data }], guard := none }) rfl (fun K hK => ?_) ?_
                  · go_simp
                    refine hK.out _ _ ?_ (fun hHeld2 => ?_)
                    · (try dsimp only); with_reducible assumption
                    clear hK K
                    try simp only [Act.put, List.setIfInBounds_toArray, List.set_cons_zero, List.set_cons_succ]
                    refine wpAnyH_ready (rs := [16]) (by kernel_rfl) (by simp) ?_
                    refine AllReadyH.cons (o := { dst := some 162, op := Op.call { callee := Callee.builtin Builtin.append, args := #[Operand.tmp 152, Operand.tmp 161], argTypes := #[24, 24] }, type := 24, pos := "hyper.go:118", after := #[{ on := 6, ground := Ground.data }, { on := 15, ground := Ground.data }, { on := 12, ground := Ground.chain }], guard := none }) rfl (fun K hK => ?_) ?_
                    · first | ((with_reducible refine at_w ((w6.alloc (.cells #[] 3)).drew) ?_); refine step_append_run rfl (.tmp 152) (.tmp 161) 24 24 rfl (by first | rfl | simp [Act.eval]) (by first | rfl | simp [Act.eval]) hr1 ?_) | ((with_reducible refine at_w (((w6.alloc (.cells #[] 3)).alloc (.cells #[.int .i64 VL] 3)).drew) ?_); refine step_append_run rfl (.tmp 152) (.tmp 161) 24 24 rfl (by first | rfl | simp [Act.eval]) (by first | rfl | simp [Act.eval]) hr2 ?_) | ((with_reducible refine at_w (((w6.alloc (.cells #[.int .i64 VL] 3)).alloc (.cells #[] 3)).drew) ?_); refine step_append_run rfl (.tmp 152) (.tmp 161) 24 24 rfl (by first | rfl | simp [Act.eval]) (by first | rfl | simp [Act.eval]) hr3 ?_)
                      refine hK.out _ _ ?_ (fun hHeld2 => ?_)
                      · (try dsimp only); with_reducible assumption
                      clear hK K
                      try simp only [Act.put, List.setIfInBounds_toArray, List.set_cons_zero, List.set_cons_succ]
                      refine wpAnyH_ready (rs := [19]) (by kernel_rfl) (by simp) ?_
                      refine AllReadyH.cons (o := { dst := some 165, op := Op.call { callee := Callee.builtin Builtin.append, args := #[Operand.tmp 162, Operand.tmp 164], argTypes := #[24, 24] }, type := 24, pos := "hyper.go:118", after := #[{ on := 16, ground := Ground.data }, { on := 18, ground := Ground.data }, { on := 16, ground := Ground.chain }], guard := none }) rfl (fun K hK => ?_) ?_
                      · first | ((with_reducible refine at_w (u1.alloc (.cells #[.int .i64 VL] 3)) ?_); refine step_append_run rfl (.tmp 162) (.tmp 164) 24 24 rfl (by first | rfl | simp [Act.eval]) (by first | rfl | simp [Act.eval]) hs1 ?_) | ((with_reducible refine at_w u2 ?_); refine step_append_run rfl (.tmp 162) (.tmp 164) 24 24 rfl (by first | rfl | simp [Act.eval]) (by first | rfl | simp [Act.eval]) hs2 ?_) | ((with_reducible refine at_w u3 ?_); refine step_append_run rfl (.tmp 162) (.tmp 164) 24 24 rfl (by first | rfl | simp [Act.eval]) (by first | rfl | simp [Act.eval]) hs3 ?_)
                        refine hK.out _ _ ?_ (fun hHeld2 => ?_)
                        · (try dsimp only); with_reducible assumption
                        clear hK K
                        try simp only [Act.put, List.setIfInBounds_toArray, List.set_cons_zero, List.set_cons_succ]
                        refine wpAnyH_take (i := 20) (oi := _) (v := ?_) rfl (by kernel_rfl) (by kernel_rfl) (by kernel_rfl) (fun _ _ _ h => h) (Or.inl ⟨by rfl, ?_⟩) (by assumption) ?_
                        rotate_left
                        · (intro wz hSw; (try dsimp only at hSw); go_simp; try with_reducible rfl)
                        simp only [Act.put, List.setIfInBounds_toArray, List.set_cons_zero, List.set_cons_succ]
                        refine wpAnyH_take (i := 21) (oi := _) (v := ?_) rfl (by kernel_rfl) (by kernel_rfl) (by kernel_rfl) (fun _ _ _ h => h) (Or.inl ⟨by rfl, ?_⟩) (by assumption) ?_
                        rotate_left
                        · (intro wz hSw; (try dsimp only at hSw); go_simp; try with_reducible rfl)
                        simp only [Act.put, List.setIfInBounds_toArray, List.set_cons_zero, List.set_cons_succ]
                        refine wpAnyH_ready (rs := [22]) (by kernel_rfl) (by simp) ?_
                        refine AllReadyH.cons (o := _) rfl (fun K hK => ?_) ?_
                        · go_simp
                          refine hK.out _ _ ?_ (fun hHeld2 => ?_)
                          · (try dsimp only); with_reducible assumption
                          clear hK K
                          try simp only [Act.put, List.setIfInBounds_toArray, List.set_cons_zero, List.set_cons_succ]
                          refine wpAnyH_done (by kernel_rfl) ?_ _
                          go_wp2_with fail
                          go_end0
                          refine ⟨rfl, ?_⟩
                          first | with_reducible exact HG1.out | with_reducible exact HG2.out | with_reducible exact HG3.out
                        exact AllReadyH.nil
                      exact AllReadyH.nil
                    exact AllReadyH.nil
                  exact AllReadyH.nil
                refine AllReadyH.cons (o := { dst := some 164, op := Op.buildSlice 24 1 #[(0, Operand.tmp 163)], type := 24, pos := "hyper.go:118", after := #[{ on := 17, ground := Ground.data }], guard := none }) rfl (fun K hK => ?_) ?_
                · go_simp
                  refine hK.out _ _ ?_ (fun hHeld2 => ?_)
                  · (try dsimp only); with_reducible assumption
                  clear hK K
                  try simp only [Act.put, List.setIfInBounds_toArray, List.set_cons_zero, List.set_cons_succ]
                  refine wpAnyH_ready (rs := [15]) (by kernel_rfl) (by simp) ?_
                  refine AllReadyH.cons (o := { dst := some 161, op := Op.load 24 (Operand.tmp 160), type := 24, pos := "hyper.go:118", after := #[{ on := 14, ground := Ground.data }], guard := none }) rfl (fun K hK => ?_) ?_
                  · go_simp
                    refine hK.out _ _ ?_ (fun hHeld2 => ?_)
                    · (try dsimp only); with_reducible assumption
                    clear hK K
                    try simp only [Act.put, List.setIfInBounds_toArray, List.set_cons_zero, List.set_cons_succ]
                    refine wpAnyH_ready (rs := [16]) (by kernel_rfl) (by simp) ?_
                    refine AllReadyH.cons (o := { dst := some 162, op := Op.call { callee := Callee.builtin Builtin.append, args := #[Operand.tmp 152, Operand.tmp 161], argTypes := #[24, 24] }, type := 24, pos := "hyper.go:118", after := #[{ on := 6, ground := Ground.data }, { on := 15, ground := Ground.data }, { on := 12, ground := Ground.chain }], guard := none }) rfl (fun K hK => ?_) ?_
                    · first | ((with_reducible refine at_w ((w6.alloc (.cells #[] 3)).drew) ?_); refine step_append_run rfl (.tmp 152) (.tmp 161) 24 24 rfl (by first | rfl | simp [Act.eval]) (by first | rfl | simp [Act.eval]) hr1 ?_) | ((with_reducible refine at_w (((w6.alloc (.cells #[] 3)).alloc (.cells #[.int .i64 VL] 3)).drew) ?_); refine step_append_run rfl (.tmp 152) (.tmp 161) 24 24 rfl (by first | rfl | simp [Act.eval]) (by first | rfl | simp [Act.eval]) hr2 ?_) | ((with_reducible refine at_w (((w6.alloc (.cells #[.int .i64 VL] 3)).alloc (.cells #[] 3)).drew) ?_); refine step_append_run rfl (.tmp 152) (.tmp 161) 24 24 rfl (by first | rfl | simp [Act.eval]) (by first | rfl | simp [Act.eval]) hr3 ?_)
                      refine hK.out _ _ ?_ (fun hHeld2 => ?_)
                      · (try dsimp only); with_reducible assumption
                      clear hK K
                      try simp only [Act.put, List.setIfInBounds_toArray, List.set_cons_zero, List.set_cons_succ]
                      refine wpAnyH_ready (rs := [19]) (by kernel_rfl) (by simp) ?_
                      refine AllReadyH.cons (o := { dst := some 165, op := Op.call { callee := Callee.builtin Builtin.append, args := #[Operand.tmp 162, Operand.tmp 164], argTypes := #[24, 24] }, type := 24, pos := "hyper.go:118", after := #[{ on := 16, ground := Ground.data }, { on := 18, ground := Ground.data }, { on := 16, ground := Ground.chain }], guard := none }) rfl (fun K hK => ?_) ?_
                      · first | ((with_reducible refine at_w (u1.alloc (.cells #[.int .i64 VL] 3)) ?_); refine step_append_run rfl (.tmp 162) (.tmp 164) 24 24 rfl (by first | rfl | simp [Act.eval]) (by first | rfl | simp [Act.eval]) hs1 ?_) | ((with_reducible refine at_w u2 ?_); refine step_append_run rfl (.tmp 162) (.tmp 164) 24 24 rfl (by first | rfl | simp [Act.eval]) (by first | rfl | simp [Act.eval]) hs2 ?_) | ((with_reducible refine at_w u3 ?_); refine step_append_run rfl (.tmp 162) (.tmp 164) 24 24 rfl (by first | rfl | simp [Act.eval]) (by first | rfl | simp [Act.eval]) hs3 ?_)
                        refine hK.out _ _ ?_ (fun hHeld2 => ?_)
                        · (try dsimp only); with_reducible assumption
                        clear hK K
                        try simp only [Act.put, List.setIfInBounds_toArray, List.set_cons_zero, List.set_cons_succ]
                        refine wpAnyH_take (i := 20) (oi := _) (v := ?_) rfl (by kernel_rfl) (by kernel_rfl) (by kernel_rfl) (fun _ _ _ h => h) (Or.inl ⟨by rfl, ?_⟩) (by assumption) ?_
                        rotate_left
                        · (intro wz hSw; (try dsimp only at hSw); go_simp; try with_reducible rfl)
                        simp only [Act.put, List.setIfInBounds_toArray, List.set_cons_zero, List.set_cons_succ]
                        refine wpAnyH_take (i := 21) (oi := _) (v := ?_) rfl (by kernel_rfl) (by kernel_rfl) (by kernel_rfl) (fun _ _ _ h => h) (Or.inl ⟨by rfl, ?_⟩) (by assumption) ?_
                        rotate_left
                        · (intro wz hSw; (try dsimp only at hSw); go_simp; try with_reducible rfl)
                        simp only [Act.put, List.setIfInBounds_toArray, List.set_cons_zero, List.set_cons_succ]
                        refine wpAnyH_ready (rs := [22]) (by kernel_rfl) (by simp) ?_
                        refine AllReadyH.cons (o := _) rfl (fun K hK => ?_) ?_
                        · go_simp
                          refine hK.out _ _ ?_ (fun hHeld2 => ?_)
                          · (try dsimp only); with_reducible assumption
                          clear hK K
                          try simp only [Act.put, List.setIfInBounds_toArray, List.set_cons_zero, List.set_cons_succ]
                          refine wpAnyH_done (by kernel_rfl) ?_ _
                          go_wp2_with fail
                          go_end0
                          refine ⟨rfl, ?_⟩
                          first | with_reducible exact HG1.out | with_reducible exact HG2.out | with_reducible exact HG3.out
                        exact AllReadyH.nil
                      exact AllReadyH.nil
                    exact AllReadyH.nil
                  exact AllReadyH.nil
                exact AllReadyH.nil
              refine AllReadyH.cons (o := { dst := some 161, op := Op.load 24 (Operand.tmp 160), type := 24, pos := "hyper.go:118", after := #[{ on := 14, ground := Ground.data }], guard := none }) rfl (fun K hK => ?_) ?_
              · go_simp
                refine hK.out _ _ ?_ (fun hHeld2 => ?_)
                · (try dsimp only); with_reducible assumption
                clear hK K
                try simp only [Act.put, List.setIfInBounds_toArray, List.set_cons_zero, List.set_cons_succ]
                refine wpAnyH_ready (rs := [6, 18]) (by kernel_rfl) (by simp) ?_
                refine AllReadyH.cons (o := { dst := some 152, op := Op.buildSlice 24 0 #[], type := 24, pos := "hyper.go:118", after := #[], guard := none }) rfl (fun K hK => ?_) ?_
                · go_simp
                  refine hK.out _ _ ?_ (fun hHeld2 => ?_)
                  · (try dsimp only); with_reducible assumption
                  clear hK K
                  try simp only [Act.put, List.setIfInBounds_toArray, List.set_cons_zero, List.set_cons_succ]
                  refine wpAnyH_ready (rs := [16, 18]) (by kernel_rfl) (by simp) ?_
                  refine AllReadyH.cons (o := { dst := some 162, op := Op.call { callee := Callee.builtin Builtin.append, args := #[Operand.tmp 152, Operand.tmp 161], argTypes := #[24, 24] }, type := 24, pos := "hyper.go:118", after := #[{ on := 6, ground := Ground.data }, { on := 15, ground := Ground.data }, { on := 12, ground := Ground.chain }], guard := none }) rfl (fun K hK => ?_) ?_
                  · first | ((with_reducible refine at_w ((w6.alloc (.cells #[] 3)).drew) ?_); refine step_append_run rfl (.tmp 152) (.tmp 161) 24 24 rfl (by first | rfl | simp [Act.eval]) (by first | rfl | simp [Act.eval]) hr1 ?_) | ((with_reducible refine at_w (((w6.alloc (.cells #[] 3)).alloc (.cells #[.int .i64 VL] 3)).drew) ?_); refine step_append_run rfl (.tmp 152) (.tmp 161) 24 24 rfl (by first | rfl | simp [Act.eval]) (by first | rfl | simp [Act.eval]) hr2 ?_) | ((with_reducible refine at_w (((w6.alloc (.cells #[.int .i64 VL] 3)).alloc (.cells #[] 3)).drew) ?_); refine step_append_run rfl (.tmp 152) (.tmp 161) 24 24 rfl (by first | rfl | simp [Act.eval]) (by first | rfl | simp [Act.eval]) hr3 ?_)
                    refine hK.out _ _ ?_ (fun hHeld2 => ?_)
                    · (try dsimp only); with_reducible assumption
                    clear hK K
                    try simp only [Act.put, List.setIfInBounds_toArray, List.set_cons_zero, List.set_cons_succ]
                    refine wpAnyH_ready (rs := [18]) (by kernel_rfl) (by simp) ?_
                    refine AllReadyH.cons (o := { dst := some 164, op := Op.buildSlice 24 1 #[(0, Operand.tmp 163)], type := 24, pos := "hyper.go:118", after := #[{ on := 17, ground := Ground.data }], guard := none }) rfl (fun K hK => ?_) ?_
                    · go_simp
                      refine hK.out _ _ ?_ (fun hHeld2 => ?_)
                      · (try dsimp only); with_reducible assumption
                      clear hK K
                      try simp only [Act.put, List.setIfInBounds_toArray, List.set_cons_zero, List.set_cons_succ]
                      refine wpAnyH_ready (rs := [19]) (by kernel_rfl) (by simp) ?_
                      refine AllReadyH.cons (o := { dst := some 165, op := Op.call { callee := Callee.builtin Builtin.append, args := #[Operand.tmp 162, Operand.tmp 164], argTypes := #[24, 24] }, type := 24, pos := "hyper.go:118", after := #[{ on := 16, ground := Ground.data }, { on := 18, ground := Ground.data }, { on := 16, ground := Ground.chain }], guard := none }) rfl (fun K hK => ?_) ?_
                      · first | ((with_reducible refine at_w (u1.alloc (.cells #[.int .i64 VL] 3)) ?_); refine step_append_run rfl (.tmp 162) (.tmp 164) 24 24 rfl (by first | rfl | simp [Act.eval]) (by first | rfl | simp [Act.eval]) hs1 ?_) | ((with_reducible refine at_w u2 ?_); refine step_append_run rfl (.tmp 162) (.tmp 164) 24 24 rfl (by first | rfl | simp [Act.eval]) (by first | rfl | simp [Act.eval]) hs2 ?_) | ((with_reducible refine at_w u3 ?_); refine step_append_run rfl (.tmp 162) (.tmp 164) 24 24 rfl (by first | rfl | simp [Act.eval]) (by first | rfl | simp [Act.eval]) hs3 ?_)
                        refine hK.out _ _ ?_ (fun hHeld2 => ?_)
                        · (try dsimp only); with_reducible assumption
                        clear hK K
                        try simp only [Act.put, List.setIfInBounds_toArray, List.set_cons_zero, List.set_cons_succ]
                        refine wpAnyH_take (i := 20) (oi := _) (v := ?_) rfl (by kernel_rfl) (by kernel_rfl) (by kernel_rfl) (fun _ _ _ h => h) (Or.inl ⟨by rfl, ?_⟩) (by assumption) ?_
                        rotate_left
                        · (intro wz hSw; (try dsimp only at hSw); go_simp; try with_reducible rfl)
                        simp only [Act.put, List.setIfInBounds_toArray, List.set_cons_zero, List.set_cons_succ]
                        refine wpAnyH_take (i := 21) (oi := _) (v := ?_) rfl (by kernel_rfl) (by kernel_rfl) (by kernel_rfl) (fun _ _ _ h => h) (Or.inl ⟨by rfl, ?_⟩) (by assumption) ?_
                        rotate_left
                        · (intro wz hSw; (try dsimp only at hSw); go_simp; try with_reducible rfl)
                        simp only [Act.put, List.setIfInBounds_toArray, List.set_cons_zero, List.set_cons_succ]
                        refine wpAnyH_ready (rs := [22]) (by kernel_rfl) (by simp) ?_
                        refine AllReadyH.cons (o := _) rfl (fun K hK => ?_) ?_
                        · go_simp
                          refine hK.out _ _ ?_ (fun hHeld2 => ?_)
                          · (try dsimp only); with_reducible assumption
                          clear hK K
                          try simp only [Act.put, List.setIfInBounds_toArray, List.set_cons_zero, List.set_cons_succ]
                          refine wpAnyH_done (by kernel_rfl) ?_ _
                          go_wp2_with fail
                          go_end0
                          refine ⟨rfl, ?_⟩
                          first | with_reducible exact HG1.out | with_reducible exact HG2.out | with_reducible exact HG3.out
                        exact AllReadyH.nil
                      exact AllReadyH.nil
                    exact AllReadyH.nil
                  refine AllReadyH.cons (o := { dst := some 164, op := Op.buildSlice 24 1 #[(0, Operand.tmp 163)], type := 24, pos := "hyper.go:118", after := #[{ on := 17, ground := Ground.data }], guard := none }) rfl (fun K hK => ?_) ?_
                  · go_simp
                    refine hK.out _ _ ?_ (fun hHeld2 => ?_)
                    · (try dsimp only); with_reducible assumption
                    clear hK K
                    try simp only [Act.put, List.setIfInBounds_toArray, List.set_cons_zero, List.set_cons_succ]
                    refine wpAnyH_ready (rs := [16]) (by kernel_rfl) (by simp) ?_
                    refine AllReadyH.cons (o := { dst := some 162, op := Op.call { callee := Callee.builtin Builtin.append, args := #[Operand.tmp 152, Operand.tmp 161], argTypes := #[24, 24] }, type := 24, pos := "hyper.go:118", after := #[{ on := 6, ground := Ground.data }, { on := 15, ground := Ground.data }, { on := 12, ground := Ground.chain }], guard := none }) rfl (fun K hK => ?_) ?_
                    · first | ((with_reducible refine at_w ((w6.alloc (.cells #[] 3)).drew) ?_); refine step_append_run rfl (.tmp 152) (.tmp 161) 24 24 rfl (by first | rfl | simp [Act.eval]) (by first | rfl | simp [Act.eval]) hr1 ?_) | ((with_reducible refine at_w (((w6.alloc (.cells #[] 3)).alloc (.cells #[.int .i64 VL] 3)).drew) ?_); refine step_append_run rfl (.tmp 152) (.tmp 161) 24 24 rfl (by first | rfl | simp [Act.eval]) (by first | rfl | simp [Act.eval]) hr2 ?_) | ((with_reducible refine at_w (((w6.alloc (.cells #[.int .i64 VL] 3)).alloc (.cells #[] 3)).drew) ?_); refine step_append_run rfl (.tmp 152) (.tmp 161) 24 24 rfl (by first | rfl | simp [Act.eval]) (by first | rfl | simp [Act.eval]) hr3 ?_)
                      refine hK.out _ _ ?_ (fun hHeld2 => ?_)
                      · (try dsimp only); with_reducible assumption
                      clear hK K
                      try simp only [Act.put, List.setIfInBounds_toArray, List.set_cons_zero, List.set_cons_succ]
                      refine wpAnyH_ready (rs := [19]) (by kernel_rfl) (by simp) ?_
                      refine AllReadyH.cons (o := { dst := some 165, op := Op.call { callee := Callee.builtin Builtin.append, args := #[Operand.tmp 162, Operand.tmp 164], argTypes := #[24, 24] }, type := 24, pos := "hyper.go:118", after := #[{ on := 16, ground := Ground.data }, { on := 18, ground := Ground.data }, { on := 16, ground := Ground.chain }], guard := none }) rfl (fun K hK => ?_) ?_
                      · first | ((with_reducible refine at_w (u1.alloc (.cells #[.int .i64 VL] 3)) ?_); refine step_append_run rfl (.tmp 162) (.tmp 164) 24 24 rfl (by first | rfl | simp [Act.eval]) (by first | rfl | simp [Act.eval]) hs1 ?_) | ((with_reducible refine at_w u2 ?_); refine step_append_run rfl (.tmp 162) (.tmp 164) 24 24 rfl (by first | rfl | simp [Act.eval]) (by first | rfl | simp [Act.eval]) hs2 ?_) | ((with_reducible refine at_w u3 ?_); refine step_append_run rfl (.tmp 162) (.tmp 164) 24 24 rfl (by first | rfl | simp [Act.eval]) (by first | rfl | simp [Act.eval]) hs3 ?_)
                        refine hK.out _ _ ?_ (fun hHeld2 => ?_)
                        · (try dsimp only); with_reducible assumption
                        clear hK K
                        try simp only [Act.put, List.setIfInBounds_toArray, List.set_cons_zero, List.set_cons_succ]
                        refine wpAnyH_take (i := 20) (oi := _) (v := ?_) rfl (by kernel_rfl) (by kernel_rfl) (by kernel_rfl) (fun _ _ _ h => h) (Or.inl ⟨by rfl, ?_⟩) (by assumption) ?_
                        rotate_left
                        · (intro wz hSw; (try dsimp only at hSw); go_simp; try with_reducible rfl)
                        simp only [Act.put, List.setIfInBounds_toArray, List.set_cons_zero, List.set_cons_succ]
                        refine wpAnyH_take (i := 21) (oi := _) (v := ?_) rfl (by kernel_rfl) (by kernel_rfl) (by kernel_rfl) (fun _ _ _ h => h) (Or.inl ⟨by rfl, ?_⟩) (by assumption) ?_
                        rotate_left
                        · (intro wz hSw; (try dsimp only at hSw); go_simp; try with_reducible rfl)
                        simp only [Act.put, List.setIfInBounds_toArray, List.set_cons_zero, List.set_cons_succ]
                        refine wpAnyH_ready (rs := [22]) (by kernel_rfl) (by simp) ?_
                        refine AllReadyH.cons (o := _) rfl (fun K hK => ?_) ?_
                        · go_simp
                          refine hK.out _ _ ?_ (fun hHeld2 => ?_)
                          · (try dsimp only); with_reducible assumption
                          clear hK K
                          try simp only [Act.put, List.setIfInBounds_toArray, List.set_cons_zero, List.set_cons_succ]
                          refine wpAnyH_done (by kernel_rfl) ?_ _
                          go_wp2_with fail
                          go_end0
                          refine ⟨rfl, ?_⟩
                          first | with_reducible exact HG1.out | with_reducible exact HG2.out | with_reducible exact HG3.out
                        exact AllReadyH.nil
                      exact AllReadyH.nil
                    exact AllReadyH.nil
                  exact AllReadyH.nil
                refine AllReadyH.cons (o := { dst := some 164, op := Op.buildSlice 24 1 #[(0, Operand.tmp 163)], type := 24, pos := "hyper.go:118", after := #[{ on := 17, ground := Ground.data }], guard := none }) rfl (fun K hK => ?_) ?_
                · go_simp
                  refine hK.out _ _ ?_ (fun hHeld2 => ?_)
                  · (try dsimp only); with_reducible assumption
                  clear hK K
                  try simp only [Act.put, List.setIfInBounds_toArray, List.set_cons_zero, List.set_cons_succ]
                  refine wpAnyH_ready (rs := [6]) (by kernel_rfl) (by simp) ?_
                  refine AllReadyH.cons (o := { dst := some 152, op := Op.buildSlice 24 0 #[], type := 24, pos := "hyper.go:118", after := #[], guard := none }) rfl (fun K hK => ?_) ?_
                  · go_simp
                    refine hK.out _ _ ?_ (fun hHeld2 => ?_)
                    · (try dsimp only); with_reducible assumption
                    clear hK K
                    try simp only [Act.put, List.setIfInBounds_toArray, List.set_cons_zero, List.set_cons_succ]
                    refine wpAnyH_ready (rs := [16]) (by kernel_rfl) (by simp) ?_
                    refine AllReadyH.cons (o := { dst := some 162, op := Op.call { callee := Callee.builtin Builtin.append, args := #[Operand.tmp 152, Operand.tmp 161], argTypes := #[24, 24] }, type := 24, pos := "hyper.go:118", after := #[{ on := 6, ground := Ground.data }, { on := 15, ground := Ground.data }, { on := 12, ground := Ground.chain }], guard := none }) rfl (fun K hK => ?_) ?_
                    · first | ((with_reducible refine at_w ((w6.alloc (.cells #[] 3)).drew) ?_); refine step_append_run rfl (.tmp 152) (.tmp 161) 24 24 rfl (by first | rfl | simp [Act.eval]) (by first | rfl | simp [Act.eval]) hr1 ?_) | ((with_reducible refine at_w (((w6.alloc (.cells #[] 3)).alloc (.cells #[.int .i64 VL] 3)).drew) ?_); refine step_append_run rfl (.tmp 152) (.tmp 161) 24 24 rfl (by first | rfl | simp [Act.eval]) (by first | rfl | simp [Act.eval]) hr2 ?_) | ((with_reducible refine at_w (((w6.alloc (.cells #[.int .i64 VL] 3)).alloc (.cells #[] 3)).drew) ?_); refine step_append_run rfl (.tmp 152) (.tmp 161) 24 24 rfl (by first | rfl | simp [Act.eval]) (by first | rfl | simp [Act.eval]) hr3 ?_)
                      refine hK.out _ _ ?_ (fun hHeld2 => ?_)
                      · (try dsimp only); with_reducible assumption
                      clear hK K
                      try simp only [Act.put, List.setIfInBounds_toArray, List.set_cons_zero, List.set_cons_succ]
                      refine wpAnyH_ready (rs := [19]) (by kernel_rfl) (by simp) ?_
                      refine AllReadyH.cons (o := { dst := some 165, op := Op.call { callee := Callee.builtin Builtin.append, args := #[Operand.tmp 162, Operand.tmp 164], argTypes := #[24, 24] }, type := 24, pos := "hyper.go:118", after := #[{ on := 16, ground := Ground.data }, { on := 18, ground := Ground.data }, { on := 16, ground := Ground.chain }], guard := none }) rfl (fun K hK => ?_) ?_
                      · first | ((with_reducible refine at_w (u1.alloc (.cells #[.int .i64 VL] 3)) ?_); refine step_append_run rfl (.tmp 162) (.tmp 164) 24 24 rfl (by first | rfl | simp [Act.eval]) (by first | rfl | simp [Act.eval]) hs1 ?_) | ((with_reducible refine at_w u2 ?_); refine step_append_run rfl (.tmp 162) (.tmp 164) 24 24 rfl (by first | rfl | simp [Act.eval]) (by first | rfl | simp [Act.eval]) hs2 ?_) | ((with_reducible refine at_w u3 ?_); refine step_append_run rfl (.tmp 162) (.tmp 164) 24 24 rfl (by first | rfl | simp [Act.eval]) (by first | rfl | simp [Act.eval]) hs3 ?_)
                        refine hK.out _ _ ?_ (fun hHeld2 => ?_)
                        · (try dsimp only); with_reducible assumption
                        clear hK K
                        try simp only [Act.put, List.setIfInBounds_toArray, List.set_cons_zero, List.set_cons_succ]
                        refine wpAnyH_take (i := 20) (oi := _) (v := ?_) rfl (by kernel_rfl) (by kernel_rfl) (by kernel_rfl) (fun _ _ _ h => h) (Or.inl ⟨by rfl, ?_⟩) (by assumption) ?_
                        rotate_left
                        · (intro wz hSw; (try dsimp only at hSw); go_simp; try with_reducible rfl)
                        simp only [Act.put, List.setIfInBounds_toArray, List.set_cons_zero, List.set_cons_succ]
                        refine wpAnyH_take (i := 21) (oi := _) (v := ?_) rfl (by kernel_rfl) (by kernel_rfl) (by kernel_rfl) (fun _ _ _ h => h) (Or.inl ⟨by rfl, ?_⟩) (by assumption) ?_
                        rotate_left
                        · (intro wz hSw; (try dsimp only at hSw); go_simp; try with_reducible rfl)
                        simp only [Act.put, List.setIfInBounds_toArray, List.set_cons_zero, List.set_cons_succ]
                        refine wpAnyH_ready (rs := [22]) (by kernel_rfl) (by simp) ?_
                        refine AllReadyH.cons (o := _) rfl (fun K hK => ?_) ?_
                        · go_simp
                          refine hK.out _ _ ?_ (fun hHeld2 => ?_)
                          · (try dsimp only); with_reducible assumption
                          clear hK K
                          try simp only [Act.put, List.setIfInBounds_toArray, List.set_cons_zero, List.set_cons_succ]
                          refine wpAnyH_done (by kernel_rfl) ?_ _
                          go_wp2_with fail
                          go_end0
                          refine ⟨rfl, ?_⟩
                          first | with_reducible exact HG1.out | with_reducible exact HG2.out | with_reducible exact HG3.out
                        exact AllReadyH.nil
                      exact AllReadyH.nil
                    exact AllReadyH.nil
                  exact AllReadyH.nil
                exact AllReadyH.nil
              refine AllReadyH.cons (o := { dst := some 164, op := Op.buildSlice 24 1 #[(0, Operand.tmp 163)], type := 24, pos := "hyper.go:118", after := #[{ on := 17, ground := Ground.data }], guard := none }) rfl (fun K hK => ?_) ?_
              · go_simp
                refine hK.out _ _ ?_ (fun hHeld2 => ?_)
                · (try dsimp only); with_reducible assumption
                clear hK K
                try simp only [Act.put, List.setIfInBounds_toArray, List.set_cons_zero, List.set_cons_succ]
                refine wpAnyH_ready (rs := [6, 15]) (by kernel_rfl) (by simp) ?_
                refine AllReadyH.cons (o := { dst := some 152, op := Op.buildSlice 24 0 #[], type := 24, pos := "hyper.go:118", after := #[], guard := none }) rfl (fun K hK => ?_) ?_
                · go_simp
                  refine hK.out _ _ ?_ (fun hHeld2 => ?_)
                  · (try dsimp only); with_reducible assumption
                  clear hK K
                  try simp only [Act.put, List.setIfInBounds_toArray, List.set_cons_zero, List.set_cons_succ]
                  refine wpAnyH_ready (rs := [15]) (by kernel_rfl) (by simp) ?_
                  refine AllReadyH.cons (o := { dst := some 161, op := Op.load 24 (Operand.tmp 160), type := 24, pos := "hyper.go:118", after := #[{ on := 14, ground := Ground.data }], guard := none }) rfl (fun K hK => ?_) ?_
                  · go_simp
                    refine hK.out _ _ ?_ (fun hHeld2 => ?_)
                    · (try dsimp only); with_reducible assumption
                    clear hK K
                    try simp only [Act.put, List.setIfInBounds_toArray, List.set_cons_zero, List.set_cons_succ]
                    refine wpAnyH_ready (rs := [16]) (by kernel_rfl) (by simp) ?_
                    refine AllReadyH.cons (o := { dst := some 162, op := Op.call { callee := Callee.builtin Builtin.append, args := #[Operand.tmp 152, Operand.tmp 161], argTypes := #[24, 24] }, type := 24, pos := "hyper.go:118", after := #[{ on := 6, ground := Ground.data }, { on := 15, ground := Ground.data }, { on := 12, ground := Ground.chain }], guard := none }) rfl (fun K hK => ?_) ?_
                    · first | ((with_reducible refine at_w ((w6.alloc (.cells #[] 3)).drew) ?_); refine step_append_run rfl (.tmp 152) (.tmp 161) 24 24 rfl (by first | rfl | simp [Act.eval]) (by first | rfl | simp [Act.eval]) hr1 ?_) | ((with_reducible refine at_w (((w6.alloc (.cells #[] 3)).alloc (.cells #[.int .i64 VL] 3)).drew) ?_); refine step_append_run rfl (.tmp 152) (.tmp 161) 24 24 rfl (by first | rfl | simp [Act.eval]) (by first | rfl | simp [Act.eval]) hr2 ?_) | ((with_reducible refine at_w (((w6.alloc (.cells #[.int .i64 VL] 3)).alloc (.cells #[] 3)).drew) ?_); refine step_append_run rfl (.tmp 152) (.tmp 161) 24 24 rfl (by first | rfl | simp [Act.eval]) (by first | rfl | simp [Act.eval]) hr3 ?_)
                      refine hK.out _ _ ?_ (fun hHeld2 => ?_)
                      · (try dsimp only); with_reducible assumption
                      clear hK K
                      try simp only [Act.put, List.setIfInBounds_toArray, List.set_cons_zero, List.set_cons_succ]
                      refine wpAnyH_ready (rs := [19]) (by kernel_rfl) (by simp) ?_
                      refine AllReadyH.cons (o := { dst := some 165, op := Op.call { callee := Callee.builtin Builtin.append, args := #[Operand.tmp 162, Operand.tmp 164], argTypes := #[24, 24] }, type := 24, pos := "hyper.go:118", after := #[{ on := 16, ground := Ground.data }, { on := 18, ground := Ground.data }, { on := 16, ground := Ground.chain }], guard := none }) rfl (fun K hK => ?_) ?_
                      · first | ((with_reducible refine at_w (u1.alloc (.cells #[.int .i64 VL] 3)) ?_); refine step_append_run rfl (.tmp 162) (.tmp 164) 24 24 rfl (by first | rfl | simp [Act.eval]) (by first | rfl | simp [Act.eval]) hs1 ?_) | ((with_reducible refine at_w u2 ?_); refine step_append_run rfl (.tmp 162) (.tmp 164) 24 24 rfl (by first | rfl | simp [Act.eval]) (by first | rfl | simp [Act.eval]) hs2 ?_) | ((with_reducible refine at_w u3 ?_); refine step_append_run rfl (.tmp 162) (.tmp 164) 24 24 rfl (by first | rfl | simp [Act.eval]) (by first | rfl | simp [Act.eval]) hs3 ?_)
                        refine hK.out _ _ ?_ (fun hHeld2 => ?_)
                        · (try dsimp only); with_reducible assumption
                        clear hK K
                        try simp only [Act.put, List.setIfInBounds_toArray, List.set_cons_zero, List.set_cons_succ]
                        refine wpAnyH_take (i := 20) (oi := _) (v := ?_) rfl (by kernel_rfl) (by kernel_rfl) (by kernel_rfl) (fun _ _ _ h => h) (Or.inl ⟨by rfl, ?_⟩) (by assumption) ?_
                        rotate_left
                        · (intro wz hSw; (try dsimp only at hSw); go_simp; try with_reducible rfl)
                        simp only [Act.put, List.setIfInBounds_toArray, List.set_cons_zero, List.set_cons_succ]
                        refine wpAnyH_take (i := 21) (oi := _) (v := ?_) rfl (by kernel_rfl) (by kernel_rfl) (by kernel_rfl) (fun _ _ _ h => h) (Or.inl ⟨by rfl, ?_⟩) (by assumption) ?_
                        rotate_left
                        · (intro wz hSw; (try dsimp only at hSw); go_simp; try with_reducible rfl)
                        simp only [Act.put, List.setIfInBounds_toArray, List.set_cons_zero, List.set_cons_succ]
                        refine wpAnyH_ready (rs := [22]) (by kernel_rfl) (by simp) ?_
                        refine AllReadyH.cons (o := _) rfl (fun K hK => ?_) ?_
                        · go_simp
                          refine hK.out _ _ ?_ (fun hHeld2 => ?_)
                          · (try dsimp only); with_reducible assumption
                          clear hK K
                          try simp only [Act.put, List.setIfInBounds_toArray, List.set_cons_zero, List.set_cons_succ]
                          refine wpAnyH_done (by kernel_rfl) ?_ _
                          go_wp2_with fail
                          go_end0
                          refine ⟨rfl, ?_⟩
                          first | with_reducible exact HG1.out | with_reducible exact HG2.out | with_reducible exact HG3.out
                        exact AllReadyH.nil
                      exact AllReadyH.nil
                    exact AllReadyH.nil
                  exact AllReadyH.nil
                refine AllReadyH.cons (o := { dst := some 161, op := Op.load 24 (Operand.tmp 160), type := 24, pos := "hyper.go:118", after := #[{ on := 14, ground := Ground.data }], guard := none }) rfl (fun K hK => ?_) ?_
                · go_simp
                  refine hK.out _ _ ?_ (fun hHeld2 => ?_)
                  · (try dsimp only); with_reducible assumption
                  clear hK K
                  try simp only [Act.put, List.setIfInBounds_toArray, List.set_cons_zero, List.set_cons_succ]
                  refine wpAnyH_ready (rs := [6]) (by kernel_rfl) (by simp) ?_
                  refine AllReadyH.cons (o := { dst := some 152, op := Op.buildSlice 24 0 #[], type := 24, pos := "hyper.go:118", after := #[], guard := none }) rfl (fun K hK => ?_) ?_
                  · go_simp
                    refine hK.out _ _ ?_ (fun hHeld2 => ?_)
                    · (try dsimp only); with_reducible assumption
                    clear hK K
                    try simp only [Act.put, List.setIfInBounds_toArray, List.set_cons_zero, List.set_cons_succ]
                    refine wpAnyH_ready (rs := [16]) (by kernel_rfl) (by simp) ?_
                    refine AllReadyH.cons (o := { dst := some 162, op := Op.call { callee := Callee.builtin Builtin.append, args := #[Operand.tmp 152, Operand.tmp 161], argTypes := #[24, 24] }, type := 24, pos := "hyper.go:118", after := #[{ on := 6, ground := Ground.data }, { on := 15, ground := Ground.data }, { on := 12, ground := Ground.chain }], guard := none }) rfl (fun K hK => ?_) ?_
                    · first | ((with_reducible refine at_w ((w6.alloc (.cells #[] 3)).drew) ?_); refine step_append_run rfl (.tmp 152) (.tmp 161) 24 24 rfl (by first | rfl | simp [Act.eval]) (by first | rfl | simp [Act.eval]) hr1 ?_) | ((with_reducible refine at_w (((w6.alloc (.cells #[] 3)).alloc (.cells #[.int .i64 VL] 3)).drew) ?_); refine step_append_run rfl (.tmp 152) (.tmp 161) 24 24 rfl (by first | rfl | simp [Act.eval]) (by first | rfl | simp [Act.eval]) hr2 ?_) | ((with_reducible refine at_w (((w6.alloc (.cells #[.int .i64 VL] 3)).alloc (.cells #[] 3)).drew) ?_); refine step_append_run rfl (.tmp 152) (.tmp 161) 24 24 rfl (by first | rfl | simp [Act.eval]) (by first | rfl | simp [Act.eval]) hr3 ?_)
                      refine hK.out _ _ ?_ (fun hHeld2 => ?_)
                      · (try dsimp only); with_reducible assumption
                      clear hK K
                      try simp only [Act.put, List.setIfInBounds_toArray, List.set_cons_zero, List.set_cons_succ]
                      refine wpAnyH_ready (rs := [19]) (by kernel_rfl) (by simp) ?_
                      refine AllReadyH.cons (o := { dst := some 165, op := Op.call { callee := Callee.builtin Builtin.append, args := #[Operand.tmp 162, Operand.tmp 164], argTypes := #[24, 24] }, type := 24, pos := "hyper.go:118", after := #[{ on := 16, ground := Ground.data }, { on := 18, ground := Ground.data }, { on := 16, ground := Ground.chain }], guard := none }) rfl (fun K hK => ?_) ?_
                      · first | ((with_reducible refine at_w (u1.alloc (.cells #[.int .i64 VL] 3)) ?_); refine step_append_run rfl (.tmp 162) (.tmp 164) 24 24 rfl (by first | rfl | simp [Act.eval]) (by first | rfl | simp [Act.eval]) hs1 ?_) | ((with_reducible refine at_w u2 ?_); refine step_append_run rfl (.tmp 162) (.tmp 164) 24 24 rfl (by first | rfl | simp [Act.eval]) (by first | rfl | simp [Act.eval]) hs2 ?_) | ((with_reducible refine at_w u3 ?_); refine step_append_run rfl (.tmp 162) (.tmp 164) 24 24 rfl (by first | rfl | simp [Act.eval]) (by first | rfl | simp [Act.eval]) hs3 ?_)
                        refine hK.out _ _ ?_ (fun hHeld2 => ?_)
                        · (try dsimp only); with_reducible assumption
                        clear hK K
                        try simp only [Act.put, List.setIfInBounds_toArray, List.set_cons_zero, List.set_cons_succ]
                        refine wpAnyH_take (i := 20) (oi := _) (v := ?_) rfl (by kernel_rfl) (by kernel_rfl) (by kernel_rfl) (fun _ _ _ h => h) (Or.inl ⟨by rfl, ?_⟩) (by assumption) ?_
                        rotate_left
                        · (intro wz hSw; (try dsimp only at hSw); go_simp; try with_reducible rfl)
                        simp only [Act.put, List.setIfInBounds_toArray, List.set_cons_zero, List.set_cons_succ]
                        refine wpAnyH_take (i := 21) (oi := _) (v := ?_) rfl (by kernel_rfl) (by kernel_rfl) (by kernel_rfl) (fun _ _ _ h => h) (Or.inl ⟨by rfl, ?_⟩) (by assumption) ?_
                        rotate_left
                        · (intro wz hSw; (try dsimp only at hSw); go_simp; try with_reducible rfl)
                        simp only [Act.put, List.setIfInBounds_toArray, List.set_cons_zero, List.set_cons_succ]
                        refine wpAnyH_ready (rs := [22]) (by kernel_rfl) (by simp) ?_
                        refine AllReadyH.cons (o := _) rfl (fun K hK => ?_) ?_
                        · go_simp
                          refine hK.out _ _ ?_ (fun hHeld2 => ?_)
                          · (try dsimp only); with_reducible assumption
                          clear hK K
                          try simp only [Act.put, List.setIfInBounds_toArray, List.set_cons_zero, List.set_cons_succ]
                          refine wpAnyH_done (by kernel_rfl) ?_ _
                          go_wp2_with fail
                          go_end0
                          refine ⟨rfl, ?_⟩
                          first | with_reducible exact HG1.out | with_reducible exact HG2.out | with_reducible exact HG3.out
                        exact AllReadyH.nil
                      exact AllReadyH.nil
                    exact AllReadyH.nil
                  exact AllReadyH.nil
                exact AllReadyH.nil
              exact AllReadyH.nil
            refine AllReadyH.cons (o := { dst := some 164, op := Op.buildSlice 24 1 #[(0, Operand.tmp 163)], type := 24, pos := "hyper.go:118", after := #[{ on := 17, ground := Ground.data }], guard := none }) rfl (fun K hK => ?_) ?_
            · go_simp
              refine hK.out _ _ ?_ (fun hHeld2 => ?_)
              · (try dsimp only); with_reducible assumption
              clear hK K
              try simp only [Act.put, List.setIfInBounds_toArray, List.set_cons_zero, List.set_cons_succ]
              refine wpAnyH_ready (rs := [6, 12]) (by kernel_rfl) (by simp) ?_
              refine AllReadyH.cons (o := { dst := some 152, op := Op.buildSlice 24 0 #[], type := 24, pos := "hyper.go:118", after := #[], guard := none }) rfl (fun K hK => ?_) ?_
              · go_simp
                refine hK.out _ _ ?_ (fun hHeld2 => ?_)
                · (try dsimp only); with_reducible assumption
                clear hK K
                try simp only [Act.put, List.setIfInBounds_toArray, List.set_cons_zero, List.set_cons_succ]
                refine wpAnyH_ready (rs := [12]) (by kernel_rfl) (by simp) ?_
                refine AllReadyH.cons (o := { dst := some 158, op := Op.call { callee := Callee.value (Operand.func 42), args := #[Operand.tmp 157], argTypes := #[60] }, type := 3, pos := "hyper.go:118", after := #[{ on := 11, ground := Ground.data }, { on := 5, ground := Ground.chain }], guard := none }) rfl (fun K hK => ?_) ?_
                · go_simp
                  refine Calls.mono (HL.out _ (by first | with_reducible exact HK.out.1 | with_reducible exact HK.out.2.1 | with_reducible exact HK.out.2.2.1 | with_reducible exact HK.out.2.2.2.1 | with_reducible exact HK.out.2.2.2.2)) ?_
                  rintro _ wn ⟨rfl, rfl⟩
                  refine hK.out _ _ ?_ (fun hHeld2 => ?_)
                  · (try dsimp only); with_reducible assumption
                  clear hK K
                  try simp only [Act.put, List.setIfInBounds_toArray, List.set_cons_zero, List.set_cons_succ]
                  refine wpAnyH_take (i := 13) (oi := { dst := some 159, op := Op.indexAddr 63 (Operand.tmp 156) (Operand.tmp 158), type := 0, pos := "hyper.go:118", after := #[{ on := 10, ground := Ground.data }, { on := 12, ground := Ground.data }], guard := none }) (v := ?_) rfl (by kernel_rfl) (by kernel_rfl) (by kernel_rfl) (fun _ _ _ h => h) (Or.inl ⟨by rfl, ?_⟩) (by assumption) ?_
                  rotate_left
                  · (intro wz hSw; (try dsimp only at hSw); go_simp; try with_reducible rfl)
                  simp only [Act.put, List.setIfInBounds_toArray, List.set_cons_zero, List.set_cons_succ]
                  refine wpAnyH_take (i := 14) (oi := { dst := some 160, op := Op.fieldAddr 93 (Operand.tmp 159) 1, type := 0, pos := "hyper.go:118", after := #[{ on := 13, ground := Ground.data }], guard := none }) (v := ?_) rfl (by kernel_rfl) (by kernel_rfl) (by kernel_rfl) (fun _ _ _ h => h) (Or.inl ⟨by rfl, ?_⟩) (by assumption) ?_
                  rotate_left
                  · (intro wz hSw; (try dsimp only at hSw); go_simp; try with_reducible rfl)
                  simp only [Act.put, List.setIfInBounds_toArray, List.set_cons_zero, List.set_cons_succ]
                  refine wpAnyH_ready (rs := [15]) (by kernel_rfl) (by simp) ?_
                  refine AllReadyH.cons (o := { dst := some 161, op := Op.load 24 (Operand.tmp 160), type := 24, pos := "hyper.go:118", after := #[{ on := 14, ground := Ground.data }], guard := none }) rfl (fun K hK => ?_) ?_
                  · go_simp
                    refine hK.out _ _ ?_ (fun hHeld2 => ?_)
                    · (try dsimp only); with_reducible assumption
                    clear hK K
                    try simp only [Act.put, List.setIfInBounds_toArray, List.set_cons_zero, List.set_cons_succ]
                    refine wpAnyH_ready (rs := [16]) (by kernel_rfl) (by simp) ?_
                    refine AllReadyH.cons (o := { dst := some 162, op := Op.call { callee := Callee.builtin Builtin.append, args := #[Operand.tmp 152, Operand.tmp 161], argTypes := #[24, 24] }, type := 24, pos := "hyper.go:118", after := #[{ on := 6, ground := Ground.data }, { on := 15, ground := Ground.data }, { on := 12, ground := Ground.chain }], guard := none }) rfl (fun K hK => ?_) ?_
                    · first | ((with_reducible refine at_w ((w6.alloc (.cells #[] 3)).drew) ?_); refine step_append_run rfl (.tmp 152) (.tmp 161) 24 24 rfl (by first | rfl | simp [Act.eval]) (by first | rfl | simp [Act.eval]) hr1 ?_) | ((with_reducible refine at_w (((w6.alloc (.cells #[] 3)).alloc (.cells #[.int .i64 VL] 3)).drew) ?_); refine step_append_run rfl (.tmp 152) (.tmp 161) 24 24 rfl (by first | rfl | simp [Act.eval]) (by first | rfl | simp [Act.eval]) hr2 ?_) | ((with_reducible refine at_w (((w6.alloc (.cells #[.int .i64 VL] 3)).alloc (.cells #[] 3)).drew) ?_); refine step_append_run rfl (.tmp 152) (.tmp 161) 24 24 rfl (by first | rfl | simp [Act.eval]) (by first | rfl | simp [Act.eval]) hr3 ?_)
                      refine hK.out _ _ ?_ (fun hHeld2 => ?_)
                      · (try dsimp only); with_reducible assumption
                      clear hK K
                      try simp only [Act.put, List.setIfInBounds_toArray, List.set_cons_zero, List.set_cons_succ]
                      refine wpAnyH_ready (rs := [19]) (by kernel_rfl) (by simp) ?_
                      refine AllReadyH.cons (o := { dst := some 165, op := Op.call { callee := Callee.builtin Builtin.append, args := #[Operand.tmp 162, Operand.tmp 164], argTypes := #[24, 24] }, type := 24, pos := "hyper.go:118", after := #[{ on := 16, ground := Ground.data }, { on := 18, ground := Ground.data }, { on := 16, ground := Ground.chain }], guard := none }) rfl (fun K hK => ?_) ?_
                      · first | ((with_reducible refine at_w (u1.alloc (.cells #[.int .i64 VL] 3)) ?_); refine step_append_run rfl (.tmp 162) (.tmp 164) 24 24 rfl (by first | rfl | simp [Act.eval]) (by first | rfl | simp [Act.eval]) hs1 ?_) | ((with_reducible refine at_w u2 ?_); refine step_append_run rfl (.tmp 162) (.tmp 164) 24 24 rfl (by first | rfl | simp [Act.eval]) (by first | rfl | simp [Act.eval]) hs2 ?_) | ((with_reducible refine at_w u3 ?_); refine step_append_run rfl (.tmp 162) (.tmp 164) 24 24 rfl (by first | rfl | simp [Act.eval]) (by first | rfl | simp [Act.eval]) hs3 ?_)
                        refine hK.out _ _ ?_ (fun hHeld2 => ?_)
                        · (try dsimp only); with_reducible assumption
                        clear hK K
                        try simp only [Act.put, List.setIfInBounds_toArray, List.set_cons_zero, List.set_cons_succ]
                        refine wpAnyH_take (i := 20) (oi := _) (v := ?_) rfl (by kernel_rfl) (by kernel_rfl) (by kernel_rfl) (fun _ _ _ h => h) (Or.inl ⟨by rfl, ?_⟩) (by assumption) ?_
                        rotate_left
                        · (intro wz hSw; (try dsimp only at hSw); go_simp; try with_reducible rfl)
                        simp only [Act.put, List.setIfInBounds_toArray, List.set_cons_zero, List.set_cons_succ]
                        refine wpAnyH_take (i := 21) (oi := _) (v := ?_) rfl (by kernel_rfl) (by kernel_rfl) (by kernel_rfl) (fun _ _ _ h => h) (Or.inl ⟨by rfl, ?_⟩) (by assumption) ?_
                        rotate_left
                        · (intro wz hSw; (try dsimp only at hSw); go_simp; try with_reducible rfl)
                        simp only [Act.put, List.setIfInBounds_toArray, List.set_cons_zero, List.set_cons_succ]
                        refine wpAnyH_ready (rs := [22]) (by kernel_rfl) (by simp) ?_
                        refine AllReadyH.cons (o := _) rfl (fun K hK => ?_) ?_
                        · go_simp
                          refine hK.out _ _ ?_ (fun hHeld2 => ?_)
                          · (try dsimp only); with_reducible assumption
                          clear hK K
                          try simp only [Act.put, List.setIfInBounds_toArray, List.set_cons_zero, List.set_cons_succ]
                          refine wpAnyH_done (by kernel_rfl) ?_ _
                          go_wp2_with fail
                          go_end0
                          refine ⟨rfl, ?_⟩
                          first | with_reducible exact HG1.out | with_reducible exact HG2.out | with_reducible exact HG3.out
                        exact AllReadyH.nil
                      exact AllReadyH.nil
                    exact AllReadyH.nil
                  exact AllReadyH.nil
                exact AllReadyH.nil
              refine AllReadyH.cons (o := { dst := some 158, op := Op.call { callee := Callee.value (Operand.func 42), args := #[Operand.tmp 157], argTypes := #[60] }, type := 3, pos := "hyper.go:118", after := #[{ on := 11, ground := Ground.data }, { on := 5, ground := Ground.chain }], guard := none }) rfl (fun K hK => ?_) ?_
              · go_simp
                refine Calls.mono (HL.out _ (by first | with_reducible exact HK.out.1 | with_reducible exact HK.out.2.1 | with_reducible exact HK.out.2.2.1 | with_reducible exact HK.out.2.2.2.1 | with_reducible exact HK.out.2.2.2.2)) ?_
                rintro _ wn ⟨rfl, rfl⟩
                refine hK.out _ _ ?_ (fun hHeld2 => ?_)
                · (try dsimp only); with_reducible assumption
                clear hK K
                try simp only [Act.put, List.setIfInBounds_toArray, List.set_cons_zero, List.set_cons_succ]
                refine wpAnyH_take (i := 13) (oi := { dst := some 159, op := Op.indexAddr 63 (Operand.tmp 156) (Operand.tmp 158), type := 0, pos := "hyper.go:118", after := #[{ on := 10, ground := Ground.data }, { on := 12, ground := Ground.data }], guard := none }) (v := ?_) rfl (by kernel_rfl) (by kernel_rfl) (by kernel_rfl) (fun _ _ _ h => h) (Or.inl ⟨by rfl, ?_⟩) (by assumption) ?_
                rotate_left
                · (intro wz hSw; (try dsimp only at hSw); go_simp; try with_reducible rfl)
                simp only [Act.put, List.setIfInBounds_toArray, List.set_cons_zero, List.set_cons_succ]
                refine wpAnyH_take (i := 14) (oi := { dst := some 160, op := Op.fieldAddr 93 (Operand.tmp 159) 1, type := 0, pos := "hyper.go:118", after := #[{ on := 13, ground := Ground.data }], guard := none }) (v := ?_) rfl (by kernel_rfl) (by kernel_rfl) (by kernel_rfl) (fun _ _ _ h => h) (Or.inl ⟨by rfl, ?_⟩) (by assumption) ?_
                rotate_left
                · (intro wz hSw; (try dsimp only at hSw); go_simp; try with_reducible rfl)
                simp only [Act.put, List.setIfInBounds_toArray, List.set_cons_zero, List.set_cons_succ]
                refine wpAnyH_ready (rs := [6, 15]) (by kernel_rfl) (by simp) ?_
                refine AllReadyH.cons (o := { dst := some 152, op := Op.buildSlice 24 0 #[], type := 24, pos := "hyper.go:118", after := #[], guard := none }) rfl (fun K hK => ?_) ?_
                · go_simp
                  refine hK.out _ _ ?_ (fun hHeld2 => ?_)
                  · (try dsimp only); with_reducible assumption
                  clear hK K
                  try simp only [Act.put, List.setIfInBounds_toArray, List.set_cons_zero, List.set_cons_succ]
                  refine wpAnyH_ready (rs := [15]) (by kernel_rfl) (by simp) ?_
                  refine AllReadyH.cons (o := { dst := some 161, op := Op.load 24 (Operand.tmp 160), type := 24, pos := "hyper.go:118", after := #[{ on := 14, ground := Ground.data }], guard := none }) rfl (fun K hK => ?_) ?_
                  · go_simp
                    refine hK.out _ _ ?_ (fun hHeld2 => ?_)
                    · (try dsimp only); with_reducible assumption
                    clear hK K
                    try simp only [Act.put, List.setIfInBounds_toArray, List.set_cons_zero, List.set_cons_succ]
                    refine wpAnyH_ready (rs := [16]) (by kernel_rfl) (by simp) ?_
                    refine AllReadyH.cons (o := { dst := some 162, op := Op.call { callee := Callee.builtin Builtin.append, args := #[Operand.tmp 152, Operand.tmp 161], argTypes := #[24, 24] }, type := 24, pos := "hyper.go:118", after := #[{ on := 6, ground := Ground.data }, { on := 15, ground := Ground.data }, { on := 12, ground := Ground.chain }], guard := none }) rfl (fun K hK => ?_) ?_
                    · first | ((with_reducible refine at_w ((w6.alloc (.cells #[] 3)).drew) ?_); refine step_append_run rfl (.tmp 152) (.tmp 161) 24 24 rfl (by first | rfl | simp [Act.eval]) (by first | rfl | simp [Act.eval]) hr1 ?_) | ((with_reducible refine at_w (((w6.alloc (.cells #[] 3)).alloc (.cells #[.int .i64 VL] 3)).drew) ?_); refine step_append_run rfl (.tmp 152) (.tmp 161) 24 24 rfl (by first | rfl | simp [Act.eval]) (by first | rfl | simp [Act.eval]) hr2 ?_) | ((with_reducible refine at_w (((w6.alloc (.cells #[.int .i64 VL] 3)).alloc (.cells #[] 3)).drew) ?_); refine step_append_run rfl (.tmp 152) (.tmp 161) 24 24 rfl (by first | rfl | simp [Act.eval]) (by first | rfl | simp [Act.eval]) hr3 ?_)
                      refine hK.out _ _ ?_ (fun hHeld2 => ?_)
                      · (try dsimp only); with_reducible assumption
                      clear hK K
                      try simp only [Act.put, List.setIfInBounds_toArray, List.set_cons_zero, List.set_cons_succ]
                      refine wpAnyH_ready (rs := [19]) (by kernel_rfl) (by simp) ?_
                      refine AllReadyH.cons (o := { dst := some 165, op := Op.call { callee := Callee.builtin Builtin.append, args := #[Operand.tmp 162, Operand.tmp 164], argTypes := #[24, 24] }, type := 24, pos := "hyper.go:118", after := #[{ on := 16, ground := Ground.data }, { on := 18, ground := Ground.data }, { on := 16, ground := Ground.chain }], guard := none }) rfl (fun K hK => ?_) ?_
                      · first | ((with_reducible refine at_w (u1.alloc (.cells #[.int .i64 VL] 3)) ?_); refine step_append_run rfl (.tmp 162) (.tmp 164) 24 24 rfl (by first | rfl | simp [Act.eval]) (by first | rfl | simp [Act.eval]) hs1 ?_) | ((with_reducible refine at_w u2 ?_); refine step_append_run rfl (.tmp 162) (.tmp 164) 24 24 rfl (by first | rfl | simp [Act.eval]) (by first | rfl | simp [Act.eval]) hs2 ?_) | ((with_reducible refine at_w u3 ?_); refine step_append_run rfl (.tmp 162) (.tmp 164) 24 24 rfl (by first | rfl | simp [Act.eval]) (by first | rfl | simp [Act.eval]) hs3 ?_)
                        refine hK.out _ _ ?_ (fun hHeld2 => ?_)
                        · (try dsimp only); with_reducible assumption
                        clear hK K
                        try simp only [Act.put, List.setIfInBounds_toArray, List.set_cons_zero, List.set_cons_succ]
                        refine wpAnyH_take (i := 20) (oi := _) (v := ?_) rfl (by kernel_rfl) (by kernel_rfl) (by kernel_rfl) (fun _ _ _ h => h) (Or.inl ⟨by rfl, ?_⟩) (by assumption) ?_
                        rotate_left
                        · (intro wz hSw; (try dsimp only at hSw); go_simp; try with_reducible rfl)
                        simp only [Act.put, List.setIfInBounds_toArray, List.set_cons_zero, List.set_cons_succ]
                        refine wpAnyH_take (i := 21) (oi := _) (v := ?_) rfl (by kernel_rfl) (by kernel_rfl) (by kernel_rfl) (fun _ _ _ h => h) (Or.inl ⟨by rfl, ?_⟩) (by assumption) ?_
                        rotate_left
                        · (intro wz hSw; (try dsimp only at hSw); go_simp; try with_reducible rfl)
                        simp only [Act.put, List.setIfInBounds_toArray, List.set_cons_zero, List.set_cons_succ]
                        refine wpAnyH_ready (rs := [22]) (by kernel_rfl) (by simp) ?_
                        refine AllReadyH.cons (o := _) rfl (fun K hK => ?_) ?_
                        · go_simp
                          refine hK.out _ _ ?_ (fun hHeld2 => ?_)
                          · (try dsimp only); with_reducible assumption
                          clear hK K
                          try simp only [Act.put, List.setIfInBounds_toArray, List.set_cons_zero, List.set_cons_succ]
                          refine wpAnyH_done (by kernel_rfl) ?_ _
                          go_wp2_with fail
                          go_end0
                          refine ⟨rfl, ?_⟩
                          first | with_reducible exact HG1.out | with_reducible exact HG2.out | with_reducible exact HG3.out
                        exact AllReadyH.nil
                      exact AllReadyH.nil
                    exact AllReadyH.nil
                  exact AllReadyH.nil
                refine AllReadyH.cons (o := { dst := some 161, op := Op.load 24 (Operand.tmp 160), type := 24, pos := "hyper.go:118", after := #[{ on := 14, ground := Ground.data }], guard := none }) rfl (fun K hK => ?_) ?_
                · go_simp
                  refine hK.out _ _ ?_ (fun hHeld2 => ?_)
                  · (try dsimp only); with_reducible assumption
                  clear hK K
                  try simp only [Act.put, List.setIfInBounds_toArray, List.set_cons_zero, List.set_cons_succ]
                  refine wpAnyH_ready (rs := [6]) (by kernel_rfl) (by simp) ?_
                  refine AllReadyH.cons (o := { dst := some 152, op := Op.buildSlice 24 0 #[], type := 24, pos := "hyper.go:118", after := #[], guard := none }) rfl (fun K hK => ?_) ?_
                  · go_simp
                    refine hK.out _ _ ?_ (fun hHeld2 => ?_)
                    · (try dsimp only); with_reducible assumption
                    clear hK K
                    try simp only [Act.put, List.setIfInBounds_toArray, List.set_cons_zero, List.set_cons_succ]
                    refine wpAnyH_ready (rs := [16]) (by kernel_rfl) (by simp) ?_
                    refine AllReadyH.cons (o := { dst := some 162, op := Op.call { callee := Callee.builtin Builtin.append, args := #[Operand.tmp 152, Operand.tmp 161], argTypes := #[24, 24] }, type := 24, pos := "hyper.go:118", after := #[{ on := 6, ground := Ground.data }, { on := 15, ground := Ground.data }, { on := 12, ground := Ground.chain }], guard := none }) rfl (fun K hK => ?_) ?_
                    · first | ((with_reducible refine at_w ((w6.alloc (.cells #[] 3)).drew) ?_); refine step_append_run rfl (.tmp 152) (.tmp 161) 24 24 rfl (by first | rfl | simp [Act.eval]) (by first | rfl | simp [Act.eval]) hr1 ?_) | ((with_reducible refine at_w (((w6.alloc (.cells #[] 3)).alloc (.cells #[.int .i64 VL] 3)).drew) ?_); refine step_append_run rfl (.tmp 152) (.tmp 161) 24 24 rfl (by first | rfl | simp [Act.eval]) (by first | rfl | simp [Act.eval]) hr2 ?_) | ((with_reducible refine at_w (((w6.alloc (.cells #[.int .i64 VL] 3)).alloc (.cells #[] 3)).drew) ?_); refine step_append_run rfl (.tmp 152) (.tmp 161) 24 24 rfl (by first | rfl | simp [Act.eval]) (by first | rfl | simp [Act.eval]) hr3 ?_)
                      refine hK.out _ _ ?_ (fun hHeld2 => ?_)
                      · (try dsimp only); with_reducible assumption
                      clear hK K
                      try simp only [Act.put, List.setIfInBounds_toArray, List.set_cons_zero, List.set_cons_succ]
                      refine wpAnyH_ready (rs := [19]) (by kernel_rfl) (by simp) ?_
                      refine AllReadyH.cons (o := { dst := some 165, op := Op.call { callee := Callee.builtin Builtin.append, args := #[Operand.tmp 162, Operand.tmp 164], argTypes := #[24, 24] }, type := 24, pos := "hyper.go:118", after := #[{ on := 16, ground := Ground.data }, { on := 18, ground := Ground.data }, { on := 16, ground := Ground.chain }], guard := none }) rfl (fun K hK => ?_) ?_
                      · first | ((with_reducible refine at_w (u1.alloc (.cells #[.int .i64 VL] 3)) ?_); refine step_append_run rfl (.tmp 162) (.tmp 164) 24 24 rfl (by first | rfl | simp [Act.eval]) (by first | rfl | simp [Act.eval]) hs1 ?_) | ((with_reducible refine at_w u2 ?_); refine step_append_run rfl (.tmp 162) (.tmp 164) 24 24 rfl (by first | rfl | simp [Act.eval]) (by first | rfl | simp [Act.eval]) hs2 ?_) | ((with_reducible refine at_w u3 ?_); refine step_append_run rfl (.tmp 162) (.tmp 164) 24 24 rfl (by first | rfl | simp [Act.eval]) (by first | rfl | simp [Act.eval]) hs3 ?_)
                        refine hK.out _ _ ?_ (fun hHeld2 => ?_)
                        · (try dsimp only); with_reducible assumption
                        clear hK K
                        try simp only [Act.put, List.setIfInBounds_toArray, List.set_cons_zero, List.set_cons_succ]
                        refine wpAnyH_take (i := 20) (oi := _) (v := ?_) rfl (by kernel_rfl) (by kernel_rfl) (by kernel_rfl) (fun _ _ _ h => h) (Or.inl ⟨by rfl, ?_⟩) (by assumption) ?_
                        rotate_left
                        · (intro wz hSw; (try dsimp only at hSw); go_simp; try with_reducible rfl)
                        simp only [Act.put, List.setIfInBounds_toArray, List.set_cons_zero, List.set_cons_succ]
                        refine wpAnyH_take (i := 21) (oi := _) (v := ?_) rfl (by kernel_rfl) (by kernel_rfl) (by kernel_rfl) (fun _ _ _ h => h) (Or.inl ⟨by rfl, ?_⟩) (by assumption) ?_
                        rotate_left
                        · (intro wz hSw; (try dsimp only at hSw); go_simp; try with_reducible rfl)
                        simp only [Act.put, List.setIfInBounds_toArray, List.set_cons_zero, List.set_cons_succ]
                        refine wpAnyH_ready (rs := [22]) (by kernel_rfl) (by simp) ?_
                        refine AllReadyH.cons (o := _) rfl (fun K hK => ?_) ?_
                        · go_simp
                          refine hK.out _ _ ?_ (fun hHeld2 => ?_)
                          · (try dsimp only); with_reducible assumption
                          clear hK K
                          try simp only [Act.put, List.setIfInBounds_toArray, List.set_cons_zero, List.set_cons_succ]
                          refine wpAnyH_done (by kernel_rfl) ?_ _
                          go_wp2_with fail
                          go_end0
                          refine ⟨rfl, ?_⟩
                          first | with_reducible exact HG1.out | with_reducible exact HG2.out | with_reducible exact HG3.out
                        exact AllReadyH.nil
                      exact AllReadyH.nil
                    exact AllReadyH.nil
                  exact AllReadyH.nil
                exact AllReadyH.nil
              exact AllReadyH.nil
            exact AllReadyH.nil
          refine AllReadyH.cons (o := { dst := some 152, op := Op.buildSlice 24 0 #[], type := 24, pos := "hyper.go:118", after := #[], guard := none }) rfl (fun K hK => ?_) ?_
          · go_simp
            refine hK.out _ _ ?_ (fun hHeld2 => ?_)
            · (try dsimp only); with_reducible assumption
            clear hK K
            try simp only [Act.put, List.setIfInBounds_toArray, List.set_cons_zero, List.set_cons_succ]
            refine wpAnyH_ready (rs := [5, 18]) (by kernel_rfl) (by simp) ?_
            refine AllReadyH.cons (o := { dst := some 151, op := Op.call { callee := Callee.value (Operand.func 42), args := #[Operand.tmp 150], argTypes := #[60] }, type := 3, pos := "hyper.go:118", after := #[{ on := 4, ground := Ground.data }], guard := none }) rfl (fun K hK => ?_) ?_
            · go_simp
              refine Calls.mono (HL.out _ (by first | with_reducible exact HK.out.1 | with_reducible exact HK.out.2.1 | with_reducible exact HK.out.2.2.1 | with_reducible exact HK.out.2.2.2.1 | with_reducible exact HK.out.2.2.2.2)) ?_
              rintro _ wn ⟨rfl, rfl⟩
              refine hK.out _ _ ?_ (fun hHeld2 => ?_)
              · (try dsimp only); with_reducible assumption
              clear hK K
              try simp only [Act.put, List.setIfInBounds_toArray, List.set_cons_zero, List.set_cons_succ]
              refine wpAnyH_ready (rs := [12, 18]) (by kernel_rfl) (by simp) ?_
              refine AllReadyH.cons (o := { dst := some 158, op := Op.call { callee := Callee.value (Operand.func 42), args := #[Operand.tmp 157], argTypes := #[60] }, type := 3, pos := "hyper.go:118", after := #[{ on := 11, ground := Ground.data }, { on := 5, ground := Ground.chain }], guard := none }) rfl (fun K hK => ?_) ?_
              · go_simp
                refine Calls.mono (HL.out _ (by first | with_reducible exact HK.out.1 | with_reducible exact HK.out.2.1 | with_reducible exact HK.out.2.2.1 | with_reducible exact HK.out.2.2.2.1 | with_reducible exact HK.out.2.2.2.2)) ?_
                rintro _ wn ⟨rfl, rfl⟩
                refine hK.out _ _ ?_ (fun hHeld2 => ?_)
                · (try dsimp only); with_reducible assumption
                clear hK K
                try simp only [Act.put, List.setIfInBounds_toArray, List.set_cons_zero, List.set_cons_succ]
                refine wpAnyH_take (i := 13) (oi := { dst := some 159, op := Op.indexAddr 63 (Operand.tmp 156) (Operand.tmp 158), type := 0, pos := "hyper.go:118", after := #[{ on := 10, ground := Ground.data }, { on := 12, ground := Ground.data }], guard := none }) (v := ?_) rfl (by kernel_rfl) (by kernel_rfl) (by kernel_rfl) (fun _ _ _ h => h) (Or.inl ⟨by rfl, ?_⟩) (by assumption) ?_
                rotate_left
                · (intro wz hSw; (try dsimp only at hSw); go_simp; try with_reducible rfl)
                simp only [Act.put, List.setIfInBounds_toArray, List.set_cons_zero, List.set_cons_succ]
                refine wpAnyH_take (i := 14) (oi := { dst := some 160, op := Op.fieldAddr 93 (Operand.tmp 159) 1, type := 0, pos := "hyper.go:118", after := #[{ on := 13, ground := Ground.data }], guard := none }) (v := ?_) rfl (by kernel_rfl) (by kernel_rfl) (by kernel_rfl) (fun _ _ _ h => h) (Or.inl ⟨by rfl, ?_⟩) (by assumption) ?_
                rotate_left
                · (intro wz hSw; (try dsimp only at hSw); go_simp; try with_reducible rfl)
                simp only [Act.put, List.setIfInBounds_toArray, List.set_cons_zero, List.set_cons_succ]
                refine wpAnyH_ready (rs := [15, 18]) (by kernel_rfl) (by simp) ?_
                refine AllReadyH.cons (o := { dst := some 161, op := Op.load 24 (Operand.tmp 160), type := 24, pos := "hyper.go:118", after := #[{ on := 14, ground := Ground.data }], guard := none }) rfl (fun K hK => ?_) ?_
                · go_simp
                  refine hK.out _ _ ?_ (fun hHeld2 => ?_)
                  · (try dsimp only); with_reducible assumption
                  clear hK K
                  try simp only [Act.put, List.setIfInBounds_toArray, List.set_cons_zero, List.set_cons_succ]
                  refine wpAnyH_ready (rs := [16, 18]) (by kernel_rfl) (by simp) ?_
                  refine AllReadyH.cons (o := { dst := some 162, op := Op.call { callee := Callee.builtin Builtin.append, args := #[Operand.tmp 152, Operand.tmp 161], argTypes := #[24, 24] }, type := 24, pos := "hyper.go:118", after := #[{ on := 6, ground := Ground.data }, { on := 15, ground := Ground.data }, { on := 12, ground := Ground.chain }], guard := none }) rfl (fun K hK => ?_) ?_
                  · first | ((with_reducible refine at_w ((w6.alloc (.cells #[] 3)).drew) ?_); refine step_append_run rfl (.tmp 152) (.tmp 161) 24 24 rfl (by first | rfl | simp [Act.eval]) (by first | rfl | simp [Act.eval]) hr1 ?_) | ((with_reducible refine at_w (((w6.alloc (.cells #[] 3)).alloc (.cells #[.int .i64 VL] 3)).drew) ?_); refine step_append_run rfl (.tmp 152) (.tmp 161) 24 24 rfl (by first | rfl | simp [Act.eval]) (by first | rfl | simp [Act.eval]) hr2 ?_) | ((with_reducible refine at_w (((w6.alloc (.cells #[.int .i64 VL] 3)).alloc (.cells #[] 3)).drew) ?_); refine step_append_run rfl (.tmp 152) (.tmp 161) 24 24 rfl (by first | rfl | simp [Act.eval]) (by first | rfl | simp [Act.eval]) hr3 ?_)
                    refine hK.out _ _ ?_ (fun hHeld2 => ?_)
                    · (try dsimp only); with_reducible assumption
                    clear hK K
                    try simp only [Act.put, List.setIfInBounds_toArray, List.set_cons_zero, List.set_cons_succ]
                    refine wpAnyH_ready (rs := [18]) (by kernel_rfl) (by simp) ?_
                    refine AllReadyH.cons (o := { dst := some 164, op := Op.buildSlice 24 1 #[(0, Operand.tmp 163)], type := 24, pos := "hyper.go:118", after := #[{ on := 17, ground := Ground.data }], guard := none }) rfl (fun K hK => ?_) ?_
                    · go_simp
                      refine hK.out _ _ ?_ (fun hHeld2 => ?_)
                      · (try dsimp only); with_reducible assumption
                      clear hK K
                      try simp only [Act.put, List.setIfInBounds_toArray, List.set_cons_zero, List.set_cons_succ]
                      refine wpAnyH_ready (rs := [19]) (by kernel_rfl) (by simp) ?_
                      refine AllReadyH.cons (o := { dst := some 165, op := Op.call { callee := Callee.builtin Builtin.append, args := #[Operand.tmp 162, Operand.tmp 164], argTypes := #[24, 24] }, type := 24, pos := "hyper.go:118", after := #[{ on := 16, ground := Ground.data }, { on := 18, ground := Ground.data }, { on := 16, ground := Ground.chain }], guard := none }) rfl (fun K hK => ?_) ?_
                      · first | ((with_reducible refine at_w (u1.alloc (.cells #[.int .i64 VL] 3)) ?_); refine step_append_run rfl (.tmp 162) (.tmp 164) 24 24 rfl (by first | rfl | simp [Act.eval]) (by first | rfl | simp [Act.eval]) hs1 ?_) | ((with_reducible refine at_w u2 ?_); refine step_append_run rfl (.tmp 162) (.tmp 164) 24 24 rfl (by first | rfl | simp [Act.eval]) (by first | rfl | simp [Act.eval]) hs2 ?_) | ((with_reducible refine at_w u3 ?_); refine step_append_run rfl (.tmp 162) (.tmp 164) 24 24 rfl (by first | rfl | simp [Act.eval]) (by first | rfl | simp [Act.eval]) hs3 ?_)
                        refine hK.out _ _ ?_ (fun hHeld2 => ?_)
                        · (try dsimp only); with_reducible assumption
                        clear hK K
                        try simp only [Act.put, List.setIfInBounds_toArray, List.set_cons_zero, List.set_cons_succ]
                        refine wpAnyH_take (i := 20) (oi := _) (v := ?_) rfl (by kernel_rfl) (by kernel_rfl) (by kernel_rfl) (fun _ _ _ h => h) (Or.inl ⟨by rfl, ?_⟩) (by assumption) ?_
                        rotate_left
                        · (intro wz hSw; (try dsimp only at hSw); go_simp; try with_reducible rfl)
                        simp only [Act.put, List.setIfInBounds_toArray, List.set_cons_zero, List.set_cons_succ]
                        refine wpAnyH_take (i := 21) (oi := _) (v := ?_) rfl (by kernel_rfl) (by kernel_rfl) (by kernel_rfl) (fun _ _ _ h => h) (Or.inl ⟨by rfl, ?_⟩) (by assumption) ?_
                        rotate_left
                        · (intro wz hSw; (try dsimp only at hSw); go_simp; try with_reducible rfl)
                        simp only [Act.put, List.setIfInBounds_toArray, List.set_cons_zero, List.set_cons_succ]
                        refine wpAnyH_ready (rs := [22]) (by kernel_rfl) (by simp) ?_
                        refine AllReadyH.cons (o := _) rfl (fun K hK => ?_) ?_
                        · go_simp
                          refine hK.out _ _ ?_ (fun hHeld2 => ?_)
                          · (try dsimp only); with_reducible assumption
                          clear hK K
                          try simp only [Act.put, List.setIfInBounds_toArray, List.set_cons_zero, List.set_cons_succ]
                          refine wpAnyH_done (by kernel_rfl) ?_ _
                          go_wp2_with fail
                          go_end0
                          refine ⟨rfl, ?_⟩
                          first | with_reducible exact HG1.out | with_reducible exact HG2.out | with_reducible exact HG3.out
                        exact AllReadyH.nil
                      exact AllReadyH.nil
                    exact AllReadyH.nil
                  refine AllReadyH.cons (o := { dst := some 164, op := Op.buildSlice 24 1 #[(0, Operand.tmp 163)], type := 24, pos := "hyper.go:118", after := #[{ on := 17, ground := Ground.data }], guard := none }) rfl (fun K hK => ?_) ?_
                  · go_simp
                    refine hK.out _ _ ?_ (fun hHeld2 => ?_)
                    · (try dsimp only); with_reducible assumption
                    clear hK K
                    try simp only [Act.put, List.setIfInBounds_toArray, List.set_cons_zero, List.set_cons_succ]
                    refine wpAnyH_ready (rs := [16]) (by kernel_rfl) (by simp) ?_
                    refine AllReadyH.cons (o := { dst := some 162, op := Op.call { callee := Callee.builtin Builtin.append, args := #[Operand.tmp 152, Operand.tmp 161], argTypes := #[24, 24] }, type := 24, pos := "hyper.go:118", after := #[{ on := 6, ground := Ground.data }, { on := 15, ground := Ground.data }, { on := 12, ground := Ground.chain }], guard := none }) rfl (fun K hK => ?_) ?_
                    · first | ((with_reducible refine at_w ((w6.alloc (.cells #[] 3)).drew) ?_); refine step_append_run rfl (.tmp 152) (.tmp 161) 24 24 rfl (by first | rfl | simp [Act.eval]) (by first | rfl | simp [Act.eval]) hr1 ?_) | ((with_reducible refine at_w (((w6.alloc (.cells #[] 3)).alloc (.cells #[.int .i64 VL] 3)).drew) ?_); refine step_append_run rfl (.tmp 152) (.tmp 161) 24 24 rfl (by first | rfl | simp [Act.eval]) (by first | rfl | simp [Act.eval]) hr2 ?_) | ((with_reducible refine at_w (((w6.alloc (.cells #[.int .i64 VL] 3)).alloc (.cells #[] 3)).drew) ?_); refine step_append_run rfl (.tmp 152) (.tmp 161) 24 24 rfl (by first | rfl | simp [Act.eval]) (by first | rfl | simp [Act.eval]) hr3 ?_)
                      refine hK.out _ _ ?_ (fun hHeld2 => ?_)
                      · (try dsimp only); with_reducible assumption
                      clear hK K
                      try simp only [Act.put, List.setIfInBounds_toArray, List.set_cons_zero, List.set_cons_succ]
                      refine wpAnyH_ready (rs := [19]) (by kernel_rfl) (by simp) ?_
                      refine AllReadyH.cons (o := { dst := some 165, op := Op.call { callee := Callee.builtin Builtin.append, args := #[Operand.tmp 162, Operand.tmp 164], argTypes := #[24, 24] }, type := 24, pos := "hyper.go:118", after := #[{ on := 16, ground := Ground.data }, { on := 18, ground := Ground.data }, { on := 16, ground := Ground.chain }], guard := none }) rfl (fun K hK => ?_) ?_
                      · first | ((with_reducible refine at_w (u1.alloc (.cells #[.int .i64 VL] 3)) ?_); refine step_append_run rfl (.tmp 162) (.tmp 164) 24 24 rfl (by first | rfl | simp [Act.eval]) (by first | rfl | simp [Act.eval]) hs1 ?_) | ((with_reducible refine at_w u2 ?_); refine step_append_run rfl (.tmp 162) (.tmp 164) 24 24 rfl (by first | rfl | simp [Act.eval]) (by first | rfl | simp [Act.eval]) hs2 ?_) | ((with_reducible refine at_w u3 ?_); refine step_append_run rfl (.tmp 162) (.tmp 164) 24 24 rfl (by first | rfl | simp [Act.eval]) (by first | rfl | simp [Act.eval]) hs3 ?_)
                        refine hK.out _ _ ?_ (fun hHeld2 => ?_)
                        · (try dsimp only); with_reducible assumption
                        clear hK K
                        try simp only [Act.put, List.setIfInBounds_toArray, List.set_cons_zero, List.set_cons_succ]
                        refine wpAnyH_take (i := 20) (oi := _) (v := ?_) rfl (by kernel_rfl) (by kernel_rfl) (by kernel_rfl) (fun _ _ _ h => h) (Or.inl ⟨by rfl, ?_⟩) (by assumption) ?_
                        rotate_left
                        · (intro wz hSw; (try dsimp only at hSw); go_simp; try with_reducible rfl)
                        simp only [Act.put, List.setIfInBounds_toArray, List.set_cons_zero, List.set_cons_succ]
                        refine wpAnyH_take (i := 21) (oi := _) (v := ?_) rfl (by kernel_rfl) (by kernel_rfl) (by kernel_rfl) (fun _ _ _ h => h) (Or.inl ⟨by rfl, ?_⟩) (by assumption) ?_
                        rotate_left
                        · (intro wz hSw; (try dsimp only at hSw); go_simp; try with_reducible rfl)
                        simp only [Act.put, List.setIfInBounds_toArray, List.set_cons_zero, List.set_cons_succ]
                        refine wpAnyH_ready (rs := [22]) (by kernel_rfl) (by simp) ?_
                        refine AllReadyH.cons (o := _) rfl (fun K hK => ?_) ?_
                        · go_simp
                          refine hK.out _ _ ?_ (fun hHeld2 => ?_)
                          · (try dsimp only); with_reducible assumption
                          clear hK K
                          try simp only [Act.put, List.setIfInBounds_toArray, List.set_cons_zero, List.set_cons_succ]
                          refine wpAnyH_done (by kernel_rfl) ?_ _
                          go_wp2_with fail
                          go_end0
                          refine ⟨rfl, ?_⟩
                          first | with_reducible exact HG1.out | with_reducible exact HG2.out | with_reducible exact HG3.out
                        exact AllReadyH.nil
                      exact AllReadyH.nil
                    exact AllReadyH.nil
                  exact AllReadyH.nil
                refine AllReadyH.cons (o := { dst := some 164, op := Op.buildSlice 24 1 #[(0, Operand.tmp 163)], type := 24, pos := "hyper.go:118", after := #[{ on := 17, ground := Ground.data }], guard := none }) rfl (fun K hK => ?_) ?_
                · go_simp
                  refine hK.out _ _ ?_ (fun hHeld2 => ?_)
                  · (try dsimp only); with_reducible assumption
                  clear hK K
                  try simp only [Act.put, List.setIfInBounds_toArray, List.set_cons_zero, List.set_cons_succ]
                  refine wpAnyH_ready (rs := [15]) (by kernel_rfl) (by simp) ?_
                  refine AllReadyH.cons (o := { dst := some 161, op := Op.load 24 (Operand.tmp 160), type := 24, pos := "hyper.go:118", after := #[{ on := 14, ground := Ground.data }], guard := none }) rfl (fun K hK => ?_) ?_
                  · go_simp
                    refine hK.out _ _ ?_ (fun hHeld2 => ?_)
                    · (try dsimp only); with_reducible assumption
                    clear hK K
                    try simp only [Act.put, List.setIfInBounds_toArray, List.set_cons_zero, List.set_cons_succ]
                    refine wpAnyH_ready (rs := [16]) (by kernel_rfl) (by simp) ?_
                    refine AllReadyH.cons (o := { dst := some 162, op := Op.call { callee := Callee.builtin Builtin.append, args := #[Operand.tmp 152, Operand.tmp 161], argTypes := #[24, 24] }, type := 24, pos := "hyper.go:118", after := #[{ on := 6, ground := Ground.data }, { on := 15, ground := Ground.data }, { on := 12, ground := Ground.chain }], guard := none }) rfl (fun K hK => ?_) ?_
                    · first | ((with_reducible refine at_w ((w6.alloc (.cells #[] 3)).drew) ?_); refine step_append_run rfl (.tmp 152) (.tmp 161) 24 24 rfl (by first | rfl | simp [Act.eval]) (by first | rfl | simp [Act.eval]) hr1 ?_) | ((with_reducible refine at_w (((w6.alloc (.cells #[] 3)).alloc (.cells #[.int .i64 VL] 3)).drew) ?_); refine step_append_run rfl (.tmp 152) (.tmp 161) 24 24 rfl (by first | rfl | simp [Act.eval]) (by first | rfl | simp [Act.eval]) hr2 ?_) | ((with_reducible refine at_w (((w6.alloc (.cells #[.int .i64 VL] 3)).alloc (.cells #[] 3)).drew) ?_); refine step_append_run rfl (.tmp 152) (.tmp 161) 24 24 rfl (by first | rfl | simp [Act.eval]) (by first | rfl | simp [Act.eval]) hr3 ?_)
                      refine hK.out _ _ ?_ (fun hHeld2 => ?_)
                      · (try dsimp only); with_reducible assumption
                      clear hK K
                      try simp only [Act.put, List.setIfInBounds_toArray, List.set_cons_zero, List.set_cons_succ]
                      refine wpAnyH_ready (rs := [19]) (by kernel_rfl) (by simp) ?_
                      refine AllReadyH.cons (o := { dst := some 165, op := Op.call { callee := Callee.builtin Builtin.append, args := #[Operand.tmp 162, Operand.tmp 164], argTypes := #[24, 24] }, type := 24, pos := "hyper.go:118", after := #[{ on := 16, ground := Ground.data }, { on := 18, ground := Ground.data }, { on := 16, ground := Ground.chain }], guard := none }) rfl (fun K hK => ?_) ?_
                      · first | ((with_reducible refine at_w (u1.alloc (.cells #[.int .i64 VL] 3)) ?_); refine step_append_run rfl (.tmp 162) (.tmp 164) 24 24 rfl (by first | rfl | simp [Act.eval]) (by first | rfl | simp [Act.eval]) hs1 ?_) | ((with_reducible refine at_w u2 ?_); refine step_append_run rfl (.tmp 162) (.tmp 164) 24 24 rfl (by first | rfl | simp [Act.eval]) (by first | rfl | simp [Act.eval]) hs2 ?_) | ((with_reducible refine at_w u3 ?_); refine step_append_run rfl (.tmp 162) (.tmp 164) 24 24 rfl (by first | rfl | simp [Act.eval]) (by first | rfl | simp [Act.eval]) hs3 ?_)
                        refine hK.out _ _ ?_ (fun hHeld2 => ?_)
                        · (try dsimp only); with_reducible assumption
                        clear hK K
                        try simp only [Act.put, List.setIfInBounds_toArray, List.set_cons_zero, List.set_cons_succ]
                        refine wpAnyH_take (i := 20) (oi := _) (v := ?_) rfl (by kernel_rfl) (by kernel_rfl) (by kernel_rfl) (fun _ _ _ h => h) (Or.inl ⟨by rfl, ?_⟩) (by assumption) ?_
                        rotate_left
                        · (intro wz hSw; (try dsimp only at hSw); go_simp; try with_reducible rfl)
                        simp only [Act.put, List.setIfInBounds_toArray, List.set_cons_zero, List.set_cons_succ]
                        refine wpAnyH_take (i := 21) (oi := _) (v := ?_) rfl (by kernel_rfl) (by kernel_rfl) (by kernel_rfl) (fun _ _ _ h => h) (Or.inl ⟨by rfl, ?_⟩) (by assumption) ?_
                        rotate_left
                        · (intro wz hSw; (try dsimp only at hSw); go_simp; try with_reducible rfl)
                        simp only [Act.put, List.setIfInBounds_toArray, List.set_cons_zero, List.set_cons_succ]
                        refine wpAnyH_ready (rs := [22]) (by kernel_rfl) (by simp) ?_
                        refine AllReadyH.cons (o := _) rfl (fun K hK => ?_) ?_
                        · go_simp
                          refine hK.out _ _ ?_ (fun hHeld2 => ?_)
                          · (try dsimp only); with_reducible assumption
                          clear hK K
                          try simp only [Act.put, List.setIfInBounds_toArray, List.set_cons_zero, List.set_cons_succ]
                          refine wpAnyH_done (by kernel_rfl) ?_ _
                          go_wp2_with fail
                          go_end0
                          refine ⟨rfl, ?_⟩
                          first | with_reducible exact HG1.out | with_reducible exact HG2.out | with_reducible exact HG3.out
                        exact AllReadyH.nil
                      exact AllReadyH.nil
                    exact AllReadyH.nil
                  exact AllReadyH.nil
                exact AllReadyH.nil
              refine AllReadyH.cons (o := { dst := some 164, op := Op.buildSlice 24 1 #[(0, Operand.tmp 163)], type := 24, pos := "hyper.go:118", after := #[{ on := 17, ground := Ground.data }], guard := none }) rfl (fun K hK => ?_) ?_
              · go_simp
                refine hK.out _ _ ?_ (fun hHeld2 => ?_)
                · (try dsimp only); with_reducible assumption
                clear hK K
                try simp only [Act.put, List.setIfInBounds_toArray, List.set_cons_zero, List.set_cons_succ]
                refine wpAnyH_ready (rs := [12]) (by kernel_rfl) (by simp) ?_
                refine AllReadyH.cons (o := { dst := some 158, op := Op.call { callee := Callee.value (Operand.func 42), args := #[Operand.tmp 157], argTypes := #[60] }, type := 3, pos := "hyper.go:118", after := #[{ on := 11, ground := Ground.data }, { on := 5, ground := Ground.chain }], guard := none }) rfl (fun K hK => ?_) ?_
                · go_simp
                  refine Calls.mono (HL.out _ (by first | with_reducible exact HK.out.1 | with_reducible exact HK.out.2.1 | with_reducible exact HK.out.2.2.1 | with_reducible exact HK.out.2.2.2.1 | with_reducible exact HK.out.2.2.2.2)) ?_
                  rintro _ wn ⟨rfl, rfl⟩
                  refine hK.out _ _ ?_ (fun hHeld2 => ?_)
                  · (try dsimp only); with_reducible assumption
                  clear hK K
                  try simp only [Act.put, List.setIfInBounds_toArray, List.set_cons_zero, List.set_cons_succ]
                  refine wpAnyH_take (i := 13) (oi := { dst := some 159, op := Op.indexAddr 63 (Operand.tmp 156) (Operand.tmp 158), type := 0, pos := "hyper.go:118", after := #[{ on := 10, ground := Ground.data }, { on := 12, ground := Ground.data }], guard := none }) (v := ?_) rfl (by kernel_rfl) (by kernel_rfl) (by kernel_rfl) (fun _ _ _ h => h) (Or.inl ⟨by rfl, ?_⟩) (by assumption) ?_
                  rotate_left
                  · (intro wz hSw; (try dsimp only at hSw); go_simp; try with_reducible rfl)
                  simp only [Act.put, List.setIfInBounds_toArray, List.set_cons_zero, List.set_cons_succ]
                  refine wpAnyH_take (i := 14) (oi := { dst := some 160, op := Op.fieldAddr 93 (Operand.tmp 159) 1, type := 0, pos := "hyper.go:118", after := #[{ on := 13, ground := Ground.data }], guard := none }) (v := ?_) rfl (by kernel_rfl) (by kernel_rfl) (by kernel_rfl) (fun _ _ _ h => h) (Or.inl ⟨by rfl, ?_⟩) (by assumption) ?_
                  rotate_left
                  · (intro wz hSw; (try dsimp only at hSw); go_simp; try with_reducible rfl)
                  simp only [Act.put, List.setIfInBounds_toArray, List.set_cons_zero, List.set_cons_succ]
                  refine wpAnyH_ready (rs := [15]) (by kernel_rfl) (by simp) ?_
                  refine AllReadyH.cons (o := { dst := some 161, op := Op.load 24 (Operand.tmp 160), type := 24, pos := "hyper.go:118", after := #[{ on := 14, ground := Ground.data }], guard := none }) rfl (fun K hK => ?_) ?_
                  · go_simp
                    refine hK.out _ _ ?_ (fun hHeld2 => ?_)
                    · (try dsimp only); with_reducible assumption
                    clear hK K
                    try simp only [Act.put, List.setIfInBounds_toArray, List.set_cons_zero, List.set_cons_succ]
                    refine wpAnyH_ready (rs := [16]) (by kernel_rfl) (by simp) ?_
                    refine AllReadyH.cons (o := { dst := some 162, op := Op.call { callee := Callee.builtin Builtin.append, args := #[Operand.tmp 152, Operand.tmp 161], argTypes := #[24, 24] }, type := 24, pos := "hyper.go:118", after := #[{ on := 6, ground := Ground.data }, { on := 15, ground := Ground.data }, { on := 12, ground := Ground.chain }], guard := none }) rfl (fun K hK => ?_) ?_
                    · first | ((with_reducible refine at_w ((w6.alloc (.cells #[] 3)).drew) ?_); refine step_append_run rfl (.tmp 152) (.tmp 161) 24 24 rfl (by first | rfl | simp [Act.eval]) (by first | rfl | simp [Act.eval]) hr1 ?_) | ((with_reducible refine at_w (((w6.alloc (.cells #[] 3)).alloc (.cells #[.int .i64 VL] 3)).drew) ?_); refine step_append_run rfl (.tmp 152) (.tmp 161) 24 24 rfl (by first | rfl | simp [Act.eval]) (by first | rfl | simp [Act.eval]) hr2 ?_) | ((with_reducible refine at_w (((w6.alloc (.cells #[.int .i64 VL] 3)).alloc (.cells #[] 3)).drew) ?_); refine step_append_run rfl (.tmp 152) (.tmp 161) 24 24 rfl (by first | rfl | simp [Act.eval]) (by first | rfl | simp [Act.eval]) hr3 ?_)
                      refine hK.out _ _ ?_ (fun hHeld2 => ?_)
                      · (try dsimp only); with_reducible assumption
                      clear hK K
                      try simp only [Act.put, List.setIfInBounds_toArray, List.set_cons_zero, List.set_cons_succ]
                      refine wpAnyH_ready (rs := [19]) (by kernel_rfl) (by simp) ?_
                      refine AllReadyH.cons (o := { dst := some 165, op := Op.call { callee := Callee.builtin Builtin.append, args := #[Operand.tmp 162, Operand.tmp 164], argTypes := #[24, 24] }, type := 24, pos := "hyper.go:118", after := #[{ on := 16, ground := Ground.data }, { on := 18, ground := Ground.data }, { on := 16, ground := Ground.chain }], guard := none }) rfl (fun K hK => ?_) ?_
                      · first | ((with_reducible refine at_w (u1.alloc (.cells #[.int .i64 VL] 3)) ?_); refine step_append_run rfl (.tmp 162) (.tmp 164) 24 24 rfl (by first | rfl | simp [Act.eval]) (by first | rfl | simp [Act.eval]) hs1 ?_) | ((with_reducible refine at_w u2 ?_); refine step_append_run rfl (.tmp 162) (.tmp 164) 24 24 rfl (by first | rfl | simp [Act.eval]) (by first | rfl | simp [Act.eval]) hs2 ?_) | ((with_reducible refine at_w u3 ?_); refine step_append_run rfl (.tmp 162) (.tmp 164) 24 24 rfl (by first | rfl | simp [Act.eval]) (by first | rfl | simp [Act.eval]) hs3 ?_)
                        refine hK.out _ _ ?_ (fun hHeld2 => ?_)
                        · (try dsimp only); with_reducible assumption
                        clear hK K
                        try simp only [Act.put, List.setIfInBounds_toArray, List.set_cons_zero, List.set_cons_succ]
                        refine wpAnyH_take (i := 20) (oi := _) (v := ?_) rfl (by kernel_rfl) (by kernel_rfl) (by kernel_rfl) (fun _ _ _ h => h) (Or.inl ⟨by rfl, ?_⟩) (by assumption) ?_
                        rotate_left
                        · (intro wz hSw; (try dsimp only at hSw); go_simp; try with_reducible rfl)
                        simp only [Act.put, List.setIfInBounds_toArray, List.set_cons_zero, List.set_cons_succ]
                        refine wpAnyH_take (i := 21) (oi := _) (v := ?_) rfl (by kernel_rfl) (by kernel_rfl) (by kernel_rfl) (fun _ _ _ h => h) (Or.inl ⟨by rfl, ?_⟩) (by assumption) ?_
                        rotate_left
                        · (intro wz hSw; (try dsimp only at hSw); go_simp; try with_reducible rfl)
                        simp only [Act.put, List.setIfInBounds_toArray, List.set_cons_zero, List.set_cons_succ]
                        refine wpAnyH_ready (rs := [22]) (by kernel_rfl) (by simp) ?_
                        refine AllReadyH.cons (o := _) rfl (fun K hK => ?_) ?_
                        · go_simp
                          refine hK.out _ _ ?_ (fun hHeld2 => ?_)
                          · (try dsimp only); with_reducible assumption
                          clear hK K
                          try simp only [Act.put, List.setIfInBounds_toArray, List.set_cons_zero, List.set_cons_succ]
                          refine wpAnyH_done (by kernel_rfl) ?_ _
                          go_wp2_with fail
                          go_end0
                          refine ⟨rfl, ?_⟩
                          first | with_reducible exact HG1.out | with_reducible exact HG2.out | with_reducible exact HG3.out
                        exact AllReadyH.nil
                      exact AllReadyH.nil
                    exact AllReadyH.nil
                  exact AllReadyH.nil
                exact AllReadyH.nil
              exact AllReadyH.nil
            refine AllReadyH.cons (o := { dst := some 164, op := Op.buildSlice 24 1 #[(0, Operand.tmp 163)], type := 24, pos := "hyper.go:118", after := #[{ on := 17, ground := Ground.data }], guard := none }) rfl (fun K hK => ?_) ?_
            · go_simp
              refine hK.out _ _ ?_ (fun hHeld2 => ?_)
              · (try dsimp only); with_reducible assumption
              clear hK K
              try simp only [Act.put, List.setIfInBounds_toArray, List.set_cons_zero, List.set_cons_succ]
              refine wpAnyH_ready (rs := [5]) (by kernel_rfl) (by simp) ?_
              refine AllReadyH.cons (o := { dst := some 151, op := Op.call { callee := Callee.value (Operand.func 42), args := #[Operand.tmp 150], argTypes := #[60] }, type := 3, pos := "hyper.go:118", after := #[{ on := 4, ground := Ground.data }], guard := none }) rfl (fun K hK => ?_) ?_
              · go_simp
                refine Calls.mono (HL.out _ (by first | with_reducible exact HK.out.1 | with_reducible exact HK.out.2.1 | with_reducible exact HK.out.2.2.1 | with_reducible exact HK.out.2.2.2.1 | with_reducible exact HK.out.2.2.2.2)) ?_
                rintro _ wn ⟨rfl, rfl⟩
                refine hK.out _ _ ?_ (fun hHeld2 => ?_)
                · (try dsimp only); with_reducible assumption
                clear hK K
                try simp only [Act.put, List.setIfInBounds_toArray, List.set_cons_zero, List.set_cons_succ]
                refine wpAnyH_ready (rs := [12]) (by kernel_rfl) (by simp) ?_
                refine AllReadyH.cons (o := { dst := some 158, op := Op.call { callee := Callee.value (Operand.func 42), args := #[Operand.tmp 157], argTypes := #[60] }, type := 3, pos := "hyper.go:118", after := #[{ on := 11, ground := Ground.data }, { on := 5, ground := Ground.chain }], guard := none }) rfl (fun K hK => ?_) ?_
                · go_simp
                  refine Calls.mono (HL.out _ (by first | with_reducible exact HK.out.1 | with_reducible exact HK.out.2.1 | with_reducible exact HK.out.2.2.1 | with_reducible exact HK.out.2.2.2.1 | with_reducible exact HK.out.2.2.2.2)) ?_
                  rintro _ wn ⟨rfl, rfl⟩
                  refine hK.out _ _ ?_ (fun hHeld2 => ?_)
                  · (try dsimp only); with_reducible assumption
                  clear hK K
                  try simp only [Act.put, List.setIfInBounds_toArray, List.set_cons_zero, List.set_cons_succ]
                  refine wpAnyH_take (i := 13) (oi := { dst := some 159, op := Op.indexAddr 63 (Operand.tmp 156) (Operand.tmp 158), type := 0, pos := "hyper.go:118", after := #[{ on := 10, ground := Ground.data }, { on := 12, ground := Ground.data }], guard := none }) (v := ?_) rfl (by kernel_rfl) (by kernel_rfl) (by kernel_rfl) (fun _ _ _ h => h) (Or.inl ⟨by rfl, ?_⟩) (by assumption) ?_
                  rotate_left
                  · (intro wz hSw; (try dsimp only at hSw); go_simp; try with_reducible rfl)
                  simp only [Act.put, List.setIfInBounds_toArray, List.set_cons_zero, List.set_cons_succ]
                  refine wpAnyH_take (i := 14) (oi := { dst := some 160, op := Op.fieldAddr 93 (Operand.tmp 159) 1, type := 0, pos := "hyper.go:118", after := #[{ on := 13, ground := Ground.data }], guard := none }) (v := ?_) rfl (by kernel_rfl) (by kernel_rfl) (by kernel_rfl) (fun _ _ _ h => h) (Or.inl ⟨by rfl, ?_⟩) (by assumption) ?_
                  rotate_left
                  · (intro wz hSw; (try dsimp only at hSw); go_simp; try with_reducible rfl)
                  simp only [Act.put, List.setIfInBounds_toArray, List.set_cons_zero, List.set_cons_succ]
                  refine wpAnyH_ready (rs := [15]) (by kernel_rfl) (by simp) ?_
                  refine AllReadyH.cons (o := { dst := some 161, op := Op.load 24 (Operand.tmp 160), type := 24, pos := "hyper.go:118", after := #[{ on := 14, ground := Ground.data }], guard := none }) rfl (fun K hK => ?_) ?_
                  · go_simp
                    refine hK.out _ _ ?_ (fun hHeld2 => ?_)
                    · (try dsimp only); with_reducible assumption
                    clear hK K
                    try simp only [Act.put, List.setIfInBounds_toArray, List.set_cons_zero, List.set_cons_succ]
                    refine wpAnyH_ready (rs := [16]) (by kernel_rfl) (by simp) ?_
                    refine AllReadyH.cons (o := { dst := some 162, op := Op.call { callee := Callee.builtin Builtin.append, args := #[Operand.tmp 152, Operand.tmp 161], argTypes := #[24, 24] }, type := 24, pos := "hyper.go:118", after := #[{ on := 6, ground := Ground.data }, { on := 15, ground := Ground.data }, { on := 12, ground := Ground.chain }], guard := none }) rfl (fun K hK => ?_) ?_
                    · first | ((with_reducible refine at_w ((w6.alloc (.cells #[] 3)).drew) ?_); refine step_append_run rfl (.tmp 152) (.tmp 161) 24 24 rfl (by first | rfl | simp [Act.eval]) (by first | rfl | simp [Act.eval]) hr1 ?_) | ((with_reducible refine at_w (((w6.alloc (.cells #[] 3)).alloc (.cells #[.int .i64 VL] 3)).drew) ?_); refine step_append_run rfl (.tmp 152) (.tmp 161) 24 24 rfl (by first | rfl | simp [Act.eval]) (by first | rfl | simp [Act.eval]) hr2 ?_) | ((with_reducible refine at_w (((w6.alloc (.cells #[.int .i64 VL] 3)).alloc (.cells #[] 3)).drew) ?_); refine step_append_run rfl (.tmp 152) (.tmp 161) 24 24 rfl (by first | rfl | simp [Act.eval]) (by first | rfl | simp [Act.eval]) hr3 ?_)
                      refine hK.out _ _ ?_ (fun hHeld2 => ?_)
                      · (try dsimp only); with_reducible assumption
                      clear hK K
                      try simp only [Act.put, List.setIfInBounds_toArray, List.set_cons_zero, List.set_cons_succ]
                      refine wpAnyH_ready (rs := [19]) (by kernel_rfl) (by simp) ?_
                      refine AllReadyH.cons (o := { dst := some 165, op := Op.call { callee := Callee.builtin Builtin.append, args := #[Operand.tmp 162, Operand.tmp 164], argTypes := #[24, 24] }, type := 24, pos := "hyper.go:118", after := #[{ on := 16, ground := Ground.data }, { on := 18, ground := Ground.data }, { on := 16, ground := Ground.chain }], guard := none }) rfl (fun K hK => ?_) ?_
                      · first | ((with_reducible refine at_w (u1.alloc (.cells #[.int .i64 VL] 3)) ?_); refine step_append_run rfl (.tmp 162) (.tmp 164) 24 24 rfl (by first | rfl | simp [Act.eval]) (by first | rfl | simp [Act.eval]) hs1 ?_) | ((with_reducible refine at_w u2 ?_); refine step_append_run rfl (.tmp 162) (.tmp 164) 24 24 rfl (by first | rfl | simp [Act.eval]) (by first | rfl | simp [Act.eval]) hs2 ?_) | ((with_reducible refine at_w u3 ?_); refine step_append_run rfl (.tmp 162) (.tmp 164) 24 24 rfl (by first | rfl | simp [Act.eval]) (by first | rfl | simp [Act.eval]) hs3 ?_)
                        refine hK.out _ _ ?_ (fun hHeld2 => ?_)
                        · (try dsimp only); with_reducible assumption
                        clear hK K
                        try simp only [Act.put, List.setIfInBounds_toArray, List.set_cons_zero, List.set_cons_succ]
                        refine wpAnyH_take (i := 20) (oi := _) (v := ?_) rfl (by kernel_rfl) (by kernel_rfl) (by kernel_rfl) (fun _ _ _ h => h) (Or.inl ⟨by rfl, ?_⟩) (by assumption) ?_
                        rotate_left
                        · (intro wz hSw; (try dsimp only at hSw); go_simp; try with_reducible rfl)
                        simp only [Act.put, List.setIfInBounds_toArray, List.set_cons_zero, List.set_cons_succ]
                        refine wpAnyH_take (i := 21) (oi := _) (v := ?_) rfl (by kernel_rfl) (by kernel_rfl) (by kernel_rfl) (fun _ _ _ h => h) (Or.inl ⟨by rfl, ?_⟩) (by assumption) ?_
                        rotate_left
                        · (intro wz hSw; (try dsimp only at hSw); go_simp; try with_reducible rfl)
                        simp only [Act.put, List.setIfInBounds_toArray, List.set_cons_zero, List.set_cons_succ]
                        refine wpAnyH_ready (rs := [22]) (by kernel_rfl) (by simp) ?_
                        refine AllReadyH.cons (o := _) rfl (fun K hK => ?_) ?_
                        · go_simp
                          refine hK.out _ _ ?_ (fun hHeld2 => ?_)
                          · (try dsimp only); with_reducible assumption
                          clear hK K
                          try simp only [Act.put, List.setIfInBounds_toArray, List.set_cons_zero, List.set_cons_succ]
                          refine wpAnyH_done (by kernel_rfl) ?_ _
                          go_wp2_with fail
                          go_end0
                          refine ⟨rfl, ?_⟩
                          first | with_reducible exact HG1.out | with_reducible exact HG2.out | with_reducible exact HG3.out
                        exact AllReadyH.nil
                      exact AllReadyH.nil
                    exact AllReadyH.nil
                  exact AllReadyH.nil
                exact AllReadyH.nil
              exact AllReadyH.nil
            exact AllReadyH.nil
          refine AllReadyH.cons (o := { dst := some 164, op := Op.buildSlice 24 1 #[(0, Operand.tmp 163)], type := 24, pos := "hyper.go:118", after := #[{ on := 17, ground := Ground.data }], guard := none }) rfl (fun K hK => ?_) ?_
          · go_simp
            refine hK.out _ _ ?_ (fun hHeld2 => ?_)
            · (try dsimp only); with_reducible assumption
            clear hK K
            try simp only [Act.put, List.setIfInBounds_toArray, List.set_cons_zero, List.set_cons_succ]
            refine wpAnyH_ready (rs := [5, 6]) (by kernel_rfl) (by simp) ?_
            refine AllReadyH.cons (o := { dst := some 151, op := Op.call { callee := Callee.value (Operand.func 42), args := #[Operand.tmp 150], argTypes := #[60] }, type := 3, pos := "hyper.go:118", after := #[{ on := 4, ground := Ground.data }], guard := none }) rfl (fun K hK => ?_) ?_
            · go_simp
              refine Calls.mono (HL.out _ (by first | with_reducible exact HK.out.1 | with_reducible exact HK.out.2.1 | with_reducible exact HK.out.2.2.1 | with_reducible exact HK.out.2.2.2.1 | with_reducible exact HK.out.2.2.2.2)) ?_
              rintro _ wn ⟨rfl, rfl⟩
              refine hK.out _ _ ?_ (fun hHeld2 => ?_)
              · (try dsimp only); with_reducible assumption
              clear hK K
              try simp only [Act.put, List.setIfInBounds_toArray, List.set_cons_zero, List.set_cons_succ]
              refine wpAnyH_ready (rs := [6, 12]) (by kernel_rfl) (by simp) ?_
              refine AllReadyH.cons (o := { dst := some 152, op := Op.buildSlice 24 0 #[], type := 24, pos := "hyper.go:118", after := #[], guard := none }) rfl (fun K hK => ?_) ?_
              · go_simp
                refine hK.out _ _ ?_ (fun hHeld2 => ?_)
                · (try dsimp only); with_reducible assumption
                clear hK K
                try simp only [Act.put, List.setIfInBounds_toArray, List.set_cons_zero, List.set_cons_succ]
                refine wpAnyH_ready (rs := [12]) (by kernel_rfl) (by simp) ?_
                refine AllReadyH.cons (o := { dst := some 158, op := Op.call { callee := Callee.value (Operand.func 42), args := #[Operand.tmp 157], argTypes := #[60] }, type := 3, pos := "hyper.go:118", after := #[{ on := 11, ground := Ground.data }, { on := 5, ground := Ground.chain }], guard := none }) rfl (fun K hK => ?_) ?_
                · go_simp
                  refine Calls.mono (HL.out _ (by first | with_reducible exact HK.out.1 | with_reducible exact HK.out.2.1 | with_reducible exact HK.out.2.2.1 | with_reducible exact HK.out.2.2.2.1 | with_reducible exact HK.out.2.2.2.2)) ?_
                  rintro _ wn ⟨rfl, rfl⟩
                  refine hK.out _ _ ?_ (fun hHeld2 => ?_)
                  · (try dsimp only); with_reducible assumption
                  clear hK K
                  try simp only [Act.put, List.setIfInBounds_toArray, List.set_cons_zero, List.set_cons_succ]
                  refine wpAnyH_take (i := 13) (oi := { dst := some 159, op := Op.indexAddr 63 (Operand.tmp 156) (Operand.tmp 158), type := 0, pos := "hyper.go:118", after := #[{ on := 10, ground := Ground.data }, { on := 12, ground := Ground.data }], guard := none }) (v := ?_) rfl (by kernel_rfl) (by kernel_rfl) (by kernel_rfl) (fun _ _ _ h => h) (Or.inl ⟨by rfl, ?_⟩) (by assumption) ?_
                  rotate_left
                  · (intro wz hSw; (try dsimp only at hSw); go_simp; try with_reducible rfl)
                  simp only [Act.put, List.setIfInBounds_toArray, List.set_cons_zero, List.set_cons_succ]
                  refine wpAnyH_take (i := 14) (oi := { dst := some 160, op := Op.fieldAddr 93 (Operand.tmp 159) 1, type := 0, pos := "hyper.go:118", after := #[{ on := 13, ground := Ground.data }], guard := none }) (v := ?_) rfl (by kernel_rfl) (by kernel_rfl) (by kernel_rfl) (fun _ _ _ h => h) (Or.inl ⟨by rfl, ?_⟩) (by assumption) ?_
                  rotate_left
                  · (intro wz hSw; (try dsimp only at hSw); go_simp; try with_reducible rfl)
                  simp only [Act.put, List.setIfInBounds_toArray, List.set_cons_zero, List.set_cons_succ]
                  refine wpAnyH_ready (rs := [15]) (by kernel_rfl) (by simp) ?_
                  refine AllReadyH.cons (o := { dst := some 161, op := Op.load 24 (Operand.tmp 160), type := 24, pos := "hyper.go:118", after := #[{ on := 14, ground := Ground.data }], guard := none }) rfl (fun K hK => ?_) ?_
                  · go_simp
                    refine hK.out _ _ ?_ (fun hHeld2 => ?_)
                    · (try dsimp only); with_reducible assumption
                    clear hK K
                    try simp only [Act.put, List.setIfInBounds_toArray, List.set_cons_zero, List.set_cons_succ]
                    refine wpAnyH_ready (rs := [16]) (by kernel_rfl) (by simp) ?_
                    refine AllReadyH.cons (o := { dst := some 162, op := Op.call { callee := Callee.builtin Builtin.append, args := #[Operand.tmp 152, Operand.tmp 161], argTypes := #[24, 24] }, type := 24, pos := "hyper.go:118", after := #[{ on := 6, ground := Ground.data }, { on := 15, ground := Ground.data }, { on := 12, ground := Ground.chain }], guard := none }) rfl (fun K hK => ?_) ?_
                    · first | ((with_reducible refine at_w ((w6.alloc (.cells #[] 3)).drew) ?_); refine step_append_run rfl (.tmp 152) (.tmp 161) 24 24 rfl (by first | rfl | simp [Act.eval]) (by first | rfl | simp [Act.eval]) hr1 ?_) | ((with_reducible refine at_w (((w6.alloc (.cells #[] 3)).alloc (.cells #[.int .i64 VL] 3)).drew) ?_); refine step_append_run rfl (.tmp 152) (.tmp 161) 24 24 rfl (by first | rfl | simp [Act.eval]) (by first | rfl | simp [Act.eval]) hr2 ?_) | ((with_reducible refine at_w (((w6.alloc (.cells #[.int .i64 VL] 3)).alloc (.cells #[] 3)).drew) ?_); refine step_append_run rfl (.tmp 152) (.tmp 161) 24 24 rfl (by first | rfl | simp [Act.eval]) (by first | rfl | simp [Act.eval]) hr3 ?_)
                      refine hK.out _ _ ?_ (fun hHeld2 => ?_)
                      · (try dsimp only); with_reducible assumption
                      clear hK K
                      try simp only [Act.put, List.setIfInBounds_toArray, List.set_cons_zero, List.set_cons_succ]
                      refine wpAnyH_ready (rs := [19]) (by kernel_rfl) (by simp) ?_
                      refine AllReadyH.cons (o := { dst := some 165, op := Op.call { callee := Callee.builtin Builtin.append, args := #[Operand.tmp 162, Operand.tmp 164], argTypes := #[24, 24] }, type := 24, pos := "hyper.go:118", after := #[{ on := 16, ground := Ground.data }, { on := 18, ground := Ground.data }, { on := 16, ground := Ground.chain }], guard := none }) rfl (fun K hK => ?_) ?_
                      · first | ((with_reducible refine at_w (u1.alloc (.cells #[.int .i64 VL] 3)) ?_); refine step_append_run rfl (.tmp 162) (.tmp 164) 24 24 rfl (by first | rfl | simp [Act.eval]) (by first | rfl | simp [Act.eval]) hs1 ?_) | ((with_reducible refine at_w u2 ?_); refine step_append_run rfl (.tmp 162) (.tmp 164) 24 24 rfl (by first | rfl | simp [Act.eval]) (by first | rfl | simp [Act.eval]) hs2 ?_) | ((with_reducible refine at_w u3 ?_); refine step_append_run rfl (.tmp 162) (.tmp 164) 24 24 rfl (by first | rfl | simp [Act.eval]) (by first | rfl | simp [Act.eval]) hs3 ?_)
                        refine hK.out _ _ ?_ (fun hHeld2 => ?_)
                        · (try dsimp only); with_reducible assumption
                        clear hK K
                        try simp only [Act.put, List.setIfInBounds_toArray, List.set_cons_zero, List.set_cons_succ]
                        refine wpAnyH_take (i := 20) (oi := _) (v := ?_) rfl (by kernel_rfl) (by kernel_rfl) (by kernel_rfl) (fun _ _ _ h => h) (Or.inl ⟨by rfl, ?_⟩) (by assumption) ?_
                        rotate_left
                        · (intro wz hSw; (try dsimp only at hSw); go_simp; try with_reducible rfl)
                        simp only [Act.put, List.setIfInBounds_toArray, List.set_cons_zero, List.set_cons_succ]
                        refine wpAnyH_take (i := 21) (oi := _) (v := ?_) rfl (by kernel_rfl) (by kernel_rfl) (by kernel_rfl) (fun _ _ _ h => h) (Or.inl ⟨by rfl, ?_⟩) (by assumption) ?_
                        rotate_left
                        · (intro wz hSw; (try dsimp only at hSw); go_simp; try with_reducible rfl)
                        simp only [Act.put, List.setIfInBounds_toArray, List.set_cons_zero, List.set_cons_succ]
                        refine wpAnyH_ready (rs := [22]) (by kernel_rfl) (by simp) ?_
                        refine AllReadyH.cons (o := _) rfl (fun K hK => ?_) ?_
                        · go_simp
                          refine hK.out _ _ ?_ (fun hHeld2 => ?_)
                          · (try dsimp only); with_reducible assumption
                          clear hK K
                          try simp only [Act.put, List.setIfInBounds_toArray, List.set_cons_zero, List.set_cons_succ]
                          refine wpAnyH_done (by kernel_rfl) ?_ _
                          go_wp2_with fail
                          go_end0
                          refine ⟨rfl, ?_⟩
                          first | with_reducible exact HG1.out | with_reducible exact HG2.out | with_reducible exact HG3.out
                        exact AllReadyH.nil
                      exact AllReadyH.nil
                    exact AllReadyH.nil
                  exact AllReadyH.nil
                exact AllReadyH.nil
              refine AllReadyH.cons (o := { dst := some 158, op := Op.call { callee := Callee.value (Operand.func 42), args := #[Operand.tmp 157], argTypes := #[60] }, type := 3, pos := "hyper.go:118", after := #[{ on := 11, ground := Ground.data }, { on := 5, ground := Ground.chain }], guard := none }) rfl (fun K hK => ?_) ?_
              · go_simp
                refine Calls.mono (HL.out _ (by first | with_reducible exact HK.out.1 | with_reducible exact HK.out.2.1 | with_reducible exact HK.out.2.2.1 | with_reducible exact HK.out.2.2.2.1 | with_reducible exact HK.out.2.2.2.2)) ?_
                rintro _ wn ⟨rfl, rfl⟩
                refine hK.out _ _ ?_ (fun hHeld2 => ?_)
                · (try dsimp only); with_reducible assumption
                clear hK K
                try simp only [Act.put, List.setIfInBounds_toArray, List.set_cons_zero, List.set_cons_succ]
                refine wpAnyH_take (i := 13) (oi := { dst := some 159, op := Op.indexAddr 63 (Operand.tmp 156) (Operand.tmp 158), type := 0, pos := "hyper.go:118", after := #[{ on := 10, ground := Ground.data }, { on := 12, ground := Ground.data }], guard := none }) (v := ?_) rfl (by kernel_rfl) (by kernel_rfl) (by kernel_rfl) (fun _ _ _ h => h) (Or.inl ⟨by rfl, ?_⟩) (by assumption) ?_
                rotate_left
                · (intro wz hSw; (try dsimp only at hSw); go_simp; try with_reducible rfl)
                simp only [Act.put, List.setIfInBounds_toArray, List.set_cons_zero, List.set_cons_succ]
                refine wpAnyH_take (i := 14) (oi := { dst := some 160, op := Op.fieldAddr 93 (Operand.tmp 159) 1, type := 0, pos := "hyper.go:118", after := #[{ on := 13, ground := Ground.data }], guard := none }) (v := ?_) rfl (by kernel_rfl) (by kernel_rfl) (by kernel_rfl) (fun _ _ _ h => h) (Or.inl ⟨by rfl, ?_⟩) (by assumption) ?_
                rotate_left
                · (intro wz hSw; (try dsimp only at hSw); go_simp; try with_reducible rfl)
                simp only [Act.put, List.setIfInBounds_toArray, List.set_cons_zero, List.set_cons_succ]
                refine wpAnyH_ready (rs := [6, 15]) (by kernel_rfl) (by simp) ?_
                refine AllReadyH.cons (o := { dst := some 152, op := Op.buildSlice 24 0 #[], type := 24, pos := "hyper.go:118", after := #[], guard := none }) rfl (fun K hK => ?_) ?_
                · go_simp
                  refine hK.out _ _ ?_ (fun hHeld2 => ?_)
                  · (try dsimp only); with_reducible assumption
                  clear hK K
                  try simp only [Act.put, List.setIfInBounds_toArray, List.set_cons_zero, List.set_cons_succ]
                  refine wpAnyH_ready (rs := [15]) (by kernel_rfl) (by simp) ?_
                  refine AllReadyH.cons (o := { dst := some 161, op := Op.load 24 (Operand.tmp 160), type := 24, pos := "hyper.go:118", after := #[{ on := 14, ground := Ground.data }], guard := none }) rfl (fun K hK => ?_) ?_
                  · go_simp
                    refine hK.out _ _ ?_ (fun hHeld2 => ?_)
                    · (try dsimp only); with_reducible assumption
                    clear hK K
                    try simp only [Act.put, List.setIfInBounds_toArray, List.set_cons_zero, List.set_cons_succ]
                    refine wpAnyH_ready (rs := [16]) (by kernel_rfl) (by simp) ?_
                    refine AllReadyH.cons (o := { dst := some 162, op := Op.call { callee := Callee.builtin Builtin.append, args := #[Operand.tmp 152, Operand.tmp 161], argTypes := #[24, 24] }, type := 24, pos := "hyper.go:118", after := #[{ on := 6, ground := Ground.data }, { on := 15, ground := Ground.data }, { on := 12, ground := Ground.chain }], guard := none }) rfl (fun K hK => ?_) ?_
                    · first | ((with_reducible refine at_w ((w6.alloc (.cells #[] 3)).drew) ?_); refine step_append_run rfl (.tmp 152) (.tmp 161) 24 24 rfl (by first | rfl | simp [Act.eval]) (by first | rfl | simp [Act.eval]) hr1 ?_) | ((with_reducible refine at_w (((w6.alloc (.cells #[] 3)).alloc (.cells #[.int .i64 VL] 3)).drew) ?_); refine step_append_run rfl (.tmp 152) (.tmp 161) 24 24 rfl (by first | rfl | simp [Act.eval]) (by first | rfl | simp [Act.eval]) hr2 ?_) | ((with_reducible refine at_w (((w6.alloc (.cells #[.int .i64 VL] 3)).alloc (.cells #[] 3)).drew) ?_); refine step_append_run rfl (.tmp 152) (.tmp 161) 24 24 rfl (by first | rfl | simp [Act.eval]) (by first | rfl | simp [Act.eval]) hr3 ?_)
                      refine hK.out _ _ ?_ (fun hHeld2 => ?_)
                      · (try dsimp only); with_reducible assumption
                      clear hK K
                      try simp only [Act.put, List.setIfInBounds_toArray, List.set_cons_zero, List.set_cons_succ]
                      refine wpAnyH_ready (rs := [19]) (by kernel_rfl) (by simp) ?_
                      refine AllReadyH.cons (o := { dst := some 165, op := Op.call { callee := Callee.builtin Builtin.append, args := #[Operand.tmp 162, Operand.tmp 164], argTypes := #[24, 24] }, type := 24, pos := "hyper.go:118", after := #[{ on := 16, ground := Ground.data }, { on := 18, ground := Ground.data }, { on := 16, ground := Ground.chain }], guard := none }) rfl (fun K hK => ?_) ?_
                      · first | ((with_reducible refine at_w (u1.alloc (.cells #[.int .i64 VL] 3)) ?_); refine step_append_run rfl (.tmp 162) (.tmp 164) 24 24 rfl (by first | rfl | simp [Act.eval]) (by first | rfl | simp [Act.eval]) hs1 ?_) | ((with_reducible refine at_w u2 ?_); refine step_append_run rfl (.tmp 162) (.tmp 164) 24 24 rfl (by first | rfl | simp [Act.eval]) (by first | rfl | simp [Act.eval]) hs2 ?_) | ((with_reducible refine at_w u3 ?_); refine step_append_run rfl (.tmp 162) (.tmp 164) 24 24 rfl (by first | rfl | simp [Act.eval]) (by first | rfl | simp [Act.eval]) hs3 ?_)
                        refine hK.out _ _ ?_ (fun hHeld2 => ?_)
                        · (try dsimp only); with_reducible assumption
                        clear hK K
                        try simp only [Act.put, List.setIfInBounds_toArray, List.set_cons_zero, List.set_cons_succ]
                        refine wpAnyH_take (i := 20) (oi := _) (v := ?_) rfl (by kernel_rfl) (by kernel_rfl) (by kernel_rfl) (fun _ _ _ h => h) (Or.inl ⟨by rfl, ?_⟩) (by assumption) ?_
                        rotate_left
                        · (intro wz hSw; (try dsimp only at hSw); go_simp; try with_reducible rfl)
                        simp only [Act.put, List.setIfInBounds_toArray, List.set_cons_zero, List.set_cons_succ]
                        refine wpAnyH_take (i := 21) (oi := _) (v := ?_) rfl (by kernel_rfl) (by kernel_rfl) (by kernel_rfl) (fun _ _ _ h => h) (Or.inl ⟨by rfl, ?_⟩) (by assumption) ?_
                        rotate_left
                        · (intro wz hSw; (try dsimp only at hSw); go_simp; try with_reducible rfl)
                        simp only [Act.put, List.setIfInBounds_toArray, List.set_cons_zero, List.set_cons_succ]
                        refine wpAnyH_ready (rs := [22]) (by kernel_rfl) (by simp) ?_
                        refine AllReadyH.cons (o := _) rfl (fun K hK => ?_) ?_
                        · go_simp
                          refine hK.out _ _ ?_ (fun hHeld2 => ?_)
                          · (try dsimp only); with_reducible assumption
                          clear hK K
                          try simp only [Act.put, List.setIfInBounds_toArray, List.set_cons_zero, List.set_cons_succ]
                          refine wpAnyH_done (by kernel_rfl) ?_ _
                          go_wp2_with fail
                          go_end0
                          refine ⟨rfl, ?_⟩
                          first | with_reducible exact HG1.out | with_reducible exact HG2.out | with_reducible exact HG3.out
                        exact AllReadyH.nil
                      exact AllReadyH.nil
                    exact AllReadyH.nil
                  exact AllReadyH.nil
                refine AllReadyH.cons (o := { dst := some 161, op := Op.load 24 (Operand.tmp 160), type := 24, pos := "hyper.go:118", after := #[{ on := 14, ground := Ground.data }], guard := none }) rfl (fun K hK => ?_) ?_
                · go_simp
                  refine hK.out _ _ ?_ (fun hHeld2 => ?_)
                  · (try dsimp only); with_reducible assumption
                  clear hK K
                  try simp only [Act.put, List.setIfInBounds_toArray, List.set_cons_zero, List.set_cons_succ]
                  refine wpAnyH_ready (rs := [6]) (by kernel_rfl) (by simp) ?_
                  refine AllReadyH.cons (o := { dst := some 152, op := Op.buildSlice 24 0 #[], type := 24, pos := "hyper.go:118", after := #[], guard := none }) rfl (fun K hK => ?_) ?_
                  · go_simp
                    refine hK.out _ _ ?_ (fun hHeld2 => ?_)
                    · (try dsimp only); with_reducible assumption
                    clear hK K
                    try simp only [Act.put, List.setIfInBounds_toArray, List.set_cons_zero, List.set_cons_succ]
                    refine wpAnyH_ready (rs := [16]) (by kernel_rfl) (by simp) ?_
                    refine AllReadyH.cons (o := { dst := some 162, op := Op.call { callee := Callee.builtin Builtin.append, args := #[Operand.tmp 152, Operand.tmp 161], argTypes := #[24, 24] }, type := 24, pos := "hyper.go:118", after := #[{ on := 6, ground := Ground.data }, { on := 15, ground := Ground.data }, { on := 12, ground := Ground.chain }], guard := none }) rfl (fun K hK => ?_) ?_
                    · first | ((with_reducible refine at_w ((w6.alloc (.cells #[] 3)).drew) ?_); refine step_append_run rfl (.tmp 152) (.tmp 161) 24 24 rfl (by first | rfl | simp [Act.eval]) (by first | rfl | simp [Act.eval]) hr1 ?_) | ((with_reducible refine at_w (((w6.alloc (.cells #[] 3)).alloc (.cells #[.int .i64 VL] 3)).drew) ?_); refine step_append_run rfl (.tmp 152) (.tmp 161) 24 24 rfl (by first | rfl | simp [Act.eval]) (by first | rfl | simp [Act.eval]) hr2 ?_) | ((with_reducible refine at_w (((w6.alloc (.cells #[.int .i64 VL] 3)).alloc (.cells #[] 3)).drew) ?_); refine step_append_run rfl (.tmp 152) (.tmp 161) 24 24 rfl (by first | rfl | simp [Act.eval]) (by first | rfl | simp [Act.eval]) hr3 ?_)
                      refine hK.out _ _ ?_ (fun hHeld2 => ?_)
                      · (try dsimp only); with_reducible assumption
                      clear hK K
                      try simp only [Act.put, List.setIfInBounds_toArray, List.set_cons_zero, List.set_cons_succ]
                      refine wpAnyH_ready (rs := [19]) (by kernel_rfl) (by simp) ?_
                      refine AllReadyH.cons (o := { dst := some 165, op := Op.call { callee := Callee.builtin Builtin.append, args := #[Operand.tmp 162, Operand.tmp 164], argTypes := #[24, 24] }, type := 24, pos := "hyper.go:118", after := #[{ on := 16, ground := Ground.data }, { on := 18, ground := Ground.data }, { on := 16, ground := Ground.chain }], guard := none }) rfl (fun K hK => ?_) ?_
                      · first | ((with_reducible refine at_w (u1.alloc (.cells #[.int .i64 VL] 3)) ?_); refine step_append_run rfl (.tmp 162) (.tmp 164) 24 24 rfl (by first | rfl | simp [Act.eval]) (by first | rfl | simp [Act.eval]) hs1 ?_) | ((with_reducible refine at_w u2 ?_); refine step_append_run rfl (.tmp 162) (.tmp 164) 24 24 rfl (by first | rfl | simp [Act.eval]) (by first | rfl | simp [Act.eval]) hs2 ?_) | ((with_reducible refine at_w u3 ?_); refine step_append_run rfl (.tmp 162) (.tmp 164) 24 24 rfl (by first | rfl | simp [Act.eval]) (by first | rfl | simp [Act.eval]) hs3 ?_)
                        refine hK.out _ _ ?_ (fun hHeld2 => ?_)
                        · (try dsimp only); with_reducible assumption
                        clear hK K
                        try simp only [Act.put, List.setIfInBounds_toArray, List.set_cons_zero, List.set_cons_succ]
                        refine wpAnyH_take (i := 20) (oi := _) (v := ?_) rfl (by kernel_rfl) (by kernel_rfl) (by kernel_rfl) (fun _ _ _ h => h) (Or.inl ⟨by rfl, ?_⟩) (by assumption) ?_
                        rotate_left
                        · (intro wz hSw; (try dsimp only at hSw); go_simp; try with_reducible rfl)
                        simp only [Act.put, List.setIfInBounds_toArray, List.set_cons_zero, List.set_cons_succ]
                        refine wpAnyH_take (i := 21) (oi := _) (v := ?_) rfl (by kernel_rfl) (by kernel_rfl) (by kernel_rfl) (fun _ _ _ h => h) (Or.inl ⟨by rfl, ?_⟩) (by assumption) ?_
                        rotate_left
                        · (intro wz hSw; (try dsimp only at hSw); go_simp; try with_reducible rfl)
                        simp only [Act.put, List.setIfInBounds_toArray, List.set_cons_zero, List.set_cons_succ]
                        refine wpAnyH_ready (rs := [22]) (by kernel_rfl) (by simp) ?_
                        refine AllReadyH.cons (o := _) rfl (fun K hK => ?_) ?_
                        · go_simp
                          refine hK.out _ _ ?_ (fun hHeld2 => ?_)
                          · (try dsimp only); with_reducible assumption
                          clear hK K
                          try simp only [Act.put, List.setIfInBounds_toArray, List.set_cons_zero, List.set_cons_succ]
                          refine wpAnyH_done (by kernel_rfl) ?_ _
                          go_wp2_with fail
                          go_end0
                          refine ⟨rfl, ?_⟩
                          first | with_reducible exact HG1.out | with_reducible exact HG2.out | with_reducible exact HG3.out
                        exact AllReadyH.nil
                      exact AllReadyH.nil
                    exact AllReadyH.nil
                  exact AllReadyH.nil
                exact AllReadyH.nil
              exact AllReadyH.nil
            refine AllReadyH.cons (o := { dst := some 152, op := Op.buildSlice 24 0 #[], type := 24, pos := "hyper.go:118", after := #[], guard := none }) rfl (fun K hK => ?_) ?_
            · go_simp
              refine hK.out _ _ ?_ (fun hHeld2 => ?_)
              · (try dsimp only); with_reducible assumption
              clear hK K
              try simp only [Act.put, List.setIfInBounds_toArray, List.set_cons_zero, List.set_cons_succ]
              refine wpAnyH_ready (rs := [5]) (by kernel_rfl) (by simp) ?_
              refine AllReadyH.cons (o := { dst := some 151, op := Op.call { callee := Callee.value (Operand.func 42), args := #[Operand.tmp 150], argTypes := #[60] }, type := 3, pos := "hyper.go:118", after := #[{ on := 4, ground := Ground.data }], guard := none }) rfl (fun K hK => ?_) ?_
              · go_simp
                refine Calls.mono (HL.out _ (by first | with_reducible exact HK.out.1 | with_reducible exact HK.out.2.1 | with_reducible exact HK.out.2.2.1 | with_reducible exact HK.out.2.2.2.1 | with_reducible exact HK.out.2.2.2.2)) ?_
                rintro _ wn ⟨rfl, rfl⟩
                refine hK.out _ _ ?_ (fun hHeld2 => ?_)
                · (try dsimp only); with_reducible assumption
                clear hK K
                try simp only [Act.put, List.setIfInBounds_toArray, List.set_cons_zero, List.set_cons_succ]
                refine wpAnyH_ready (rs := [12]) (by kernel_rfl) (by simp) ?_
                refine AllReadyH.cons (o := { dst := some 158, op := Op.call { callee := Callee.value (Operand.func 42), args := #[Operand.tmp 157], argTypes := #[60] }, type := 3, pos := "hyper.go:118", after := #[{ on := 11, ground := Ground.data }, { on := 5, ground := Ground.chain }], guard := none }) rfl (fun K hK => ?_) ?_
                · go_simp
                  refine Calls.mono (HL.out _ (by first | with_reducible exact HK.out.1 | with_reducible exact HK.out.2.1 | with_reducible exact HK.out.2.2.1 | with_reducible exact HK.out.2.2.2.1 | with_reducible exact HK.out.2.2.2.2)) ?_
                  rintro _ wn ⟨rfl, rfl⟩
                  refine hK.out _ _ ?_ (fun hHeld2 => ?_)
                  · (try dsimp only); with_reducible assumption
                  clear hK K
                  try simp only [Act.put, List.setIfInBounds_toArray, List.set_cons_zero, List.set_cons_succ]
                  refine wpAnyH_take (i := 13) (oi := { dst := some 159, op := Op.indexAddr 63 (Operand.tmp 156) (Operand.tmp 158), type := 0, pos := "hyper.go:118", after := #[{ on := 10, ground := Ground.data }, { on := 12, ground := Ground.data }], guard := none }) (v := ?_) rfl (by kernel_rfl) (by kernel_rfl) (by kernel_rfl) (fun _ _ _ h => h) (Or.inl ⟨by rfl, ?_⟩) (by assumption) ?_
                  rotate_left
                  · (intro wz hSw; (try dsimp only at hSw); go_simp; try with_reducible rfl)
                  simp only [Act.put, List.setIfInBounds_toArray, List.set_cons_zero, List.set_cons_succ]
                  refine wpAnyH_take (i := 14) (oi := { dst := some 160, op := Op.fieldAddr 93 (Operand.tmp 159) 1, type := 0, pos := "hyper.go:118", after := #[{ on := 13, ground := Ground.data }], guard := none }) (v := ?_) rfl (by kernel_rfl) (by kernel_rfl) (by kernel_rfl) (fun _ _ _ h => h) (Or.inl ⟨by rfl, ?_⟩) (by assumption) ?_
                  rotate_left
                  · (intro wz hSw; (try dsimp only at hSw); go_simp; try with_reducible rfl)
                  simp only [Act.put, List.setIfInBounds_toArray, List.set_cons_zero, List.set_cons_succ]
                  refine wpAnyH_ready (rs := [15]) (by kernel_rfl) (by simp) ?_
                  refine AllReadyH.cons (o := { dst := some 161, op := Op.load 24 (Operand.tmp 160), type := 24, pos := "hyper.go:118", after := #[{ on := 14, ground := Ground.data }], guard := none }) rfl (fun K hK => ?_) ?_
                  · go_simp
                    refine hK.out _ _ ?_ (fun hHeld2 => ?_)
                    · (try dsimp only); with_reducible assumption
                    clear hK K
                    try simp only [Act.put, List.setIfInBounds_toArray, List.set_cons_zero, List.set_cons_succ]
                    refine wpAnyH_ready (rs := [16]) (by kernel_rfl) (by simp) ?_
                    refine AllReadyH.cons (o := { dst := some 162, op := Op.call { callee := Callee.builtin Builtin.append, args := #[Operand.tmp 152, Operand.tmp 161], argTypes := #[24, 24] }, type := 24, pos := "hyper.go:118", after := #[{ on := 6, ground := Ground.data }, { on := 15, ground := Ground.data }, { on := 12, ground := Ground.chain }], guard := none }) rfl (fun K hK => ?_) ?_
                    · first | ((with_reducible refine at_w ((w6.alloc (.cells #[] 3)).drew) ?_); refine step_append_run rfl (.tmp 152) (.tmp 161) 24 24 rfl (by first | rfl | simp [Act.eval]) (by first | rfl | simp [Act.eval]) hr1 ?_) | ((with_reducible refine at_w (((w6.alloc (.cells #[] 3)).alloc (.cells #[.int .i64 VL] 3)).drew) ?_); refine step_append_run rfl (.tmp 152) (.tmp 161) 24 24 rfl (by first | rfl | simp [Act.eval]) (by first | rfl | simp [Act.eval]) hr2 ?_) | ((with_reducible refine at_w (((w6.alloc (.cells #[.int .i64 VL] 3)).alloc (.cells #[] 3)).drew) ?_); refine step_append_run rfl (.tmp 152) (.tmp 161) 24 24 rfl (by first | rfl | simp [Act.eval]) (by first | rfl | simp [Act.eval]) hr3 ?_)
                      refine hK.out _ _ ?_ (fun hHeld2 => ?_)
                      · (try dsimp only); with_reducible assumption
                      clear hK K
                      try simp only [Act.put, List.setIfInBounds_toArray, List.set_cons_zero, List.set_cons_succ]
                      refine wpAnyH_ready (rs := [19]) (by kernel_rfl) (by simp) ?_
                      refine AllReadyH.cons (o := { dst := some 165, op := Op.call { callee := Callee.builtin Builtin.append, args := #[Operand.tmp 162, Operand.tmp 164], argTypes := #[24, 24] }, type := 24, pos := "hyper.go:118", after := #[{ on := 16, ground := Ground.data }, { on := 18, ground := Ground.data }, { on := 16, ground := Ground.chain }], guard := none }) rfl (fun K hK => ?_) ?_
                      · first | ((with_reducible refine at_w (u1.alloc (.cells #[.int .i64 VL] 3)) ?_); refine step_append_run rfl (.tmp 162) (.tmp 164) 24 24 rfl (by first | rfl | simp [Act.eval]) (by first | rfl | simp [Act.eval]) hs1 ?_) | ((with_reducible refine at_w u2 ?_); refine step_append_run rfl (.tmp 162) (.tmp 164) 24 24 rfl (by first | rfl | simp [Act.eval]) (by first | rfl | simp [Act.eval]) hs2 ?_) | ((with_reducible refine at_w u3 ?_); refine step_append_run rfl (.tmp 162) (.tmp 164) 24 24 rfl (by first | rfl | simp [Act.eval]) (by first | rfl | simp [Act.eval]) hs3 ?_)
                        refine hK.out _ _ ?_ (fun hHeld2 => ?_)
                        · (try dsimp only); with_reducible assumption
                        clear hK K
                        try simp only [Act.put, List.setIfInBounds_toArray, List.set_cons_zero, List.set_cons_succ]
                        refine wpAnyH_take (i := 20) (oi := _) (v := ?_) rfl (by kernel_rfl) (by kernel_rfl) (by kernel_rfl) (fun _ _ _ h => h) (Or.inl ⟨by rfl, ?_⟩) (by assumption) ?_
                        rotate_left
                        · (intro wz hSw; (try dsimp only at hSw); go_simp; try with_reducible rfl)
                        simp only [Act.put, List.setIfInBounds_toArray, List.set_cons_zero, List.set_cons_succ]
                        refine wpAnyH_take (i := 21) (oi := _) (v := ?_) rfl (by kernel_rfl) (by kernel_rfl) (by kernel_rfl) (fun _ _ _ h => h) (Or.inl ⟨by rfl, ?_⟩) (by assumption) ?_
                        rotate_left
                        · (intro wz hSw; (try dsimp only at hSw); go_simp; try with_reducible rfl)
                        simp only [Act.put, List.setIfInBounds_toArray, List.set_cons_zero, List.set_cons_succ]
                        refine wpAnyH_ready (rs := [22]) (by kernel_rfl) (by simp) ?_
                        refine AllReadyH.cons (o := _) rfl (fun K hK => ?_) ?_
                        · go_simp
                          refine hK.out _ _ ?_ (fun hHeld2 => ?_)
                          · (try dsimp only); with_reducible assumption
                          clear hK K
                          try simp only [Act.put, List.setIfInBounds_toArray, List.set_cons_zero, List.set_cons_succ]
                          refine wpAnyH_done (by kernel_rfl) ?_ _
                          go_wp2_with fail
                          go_end0
                          refine ⟨rfl, ?_⟩
                          first | with_reducible exact HG1.out | with_reducible exact HG2.out | with_reducible exact HG3.out
                        exact AllReadyH.nil
                      exact AllReadyH.nil
                    exact AllReadyH.nil
                  exact AllReadyH.nil
                exact AllReadyH.nil
              exact AllReadyH.nil
            exact AllReadyH.nil
          exact AllReadyH.nil
      · have hg : st.getD sp false = false := by rw [List.getD_eq_getElem?_getD, List.getElem?_eq_none (by have := HT.out.2.2; omega)]; rfl
        rw [hg] at hre
        have he' : retPS s tk psp pr sp st Mm = psOf s tk psp { Mm with row := pr } := by rw [hre]; simp
        have HE : Hid (retPS s tk psp pr sp st Mm = psOf s tk psp { Mm with row := pr }) := he'
        have hi1 : ¬ (sp : Int) < (n : Int) := by omega
        clear hre hg he' hTc
        go_wp2
        go_end0
        exact ⟨rfl, ⟨_, _, _, _, by rw [HE.out]; exact HM5.out.1⟩, HM5.out.2⟩
end Go.Proofs.Ytdiabpoafennlab.Rn
